/- Part of the proof. -/
import Derived.Test.YtnadhplhnfpeaaaGreatDoorAZ
import Derived.Test.YtnadhplhnfpeaaaGreatDoorA03
import Derived.Test.YtnadhplhnfpeaaaGreatDoorProg
import Derived.WalkKit
import Derived.WalkSpells
import Derived.WalkLawsBesides
import Derived.Deep.QuietTactic
import Derived.BigQuiet
import Derived.Lib.QuietBelow
import Derived.Deep.Cut
import Derived.Lib.Builder
import Derived.RegionTactic
import Derived.Laws.StructEq
import Derived.Sort.Grow
import Derived.ChangeKeysEq
import Derived.Laws.AppendOwn
import Derived.Laws.AppendOwnNone
import Derived.Deep.AppendLies
import Derived.Lib.ItoaLen
import Derived.Lib.AppendIntMem
import Derived.Laws.IdiomStrings
import Derived.Laws.Concat
import Derived.Lib.Join
import Derived.Lib.IndexLaws
import Derived.Lib.IndexBytes
import Derived.Test.YtnadhplhnfpeaaaGreatDoorAS
import Derived.Shelf.SlGeneric
import Derived.Shelf.LaysM
import Derived.Shelf.LaysC
import Derived.Shelf.Small.Wraps
import Derived.Shelf.SlicesE.IndexFunc
import Derived.Shelf.Strconv.Itoa3
import Derived.Shelf.Strings.OnBuilder
import Derived.Shelf.Strings.Split
import Derived.Shelf.Strings.SlTrimAscii
import Derived.Shelf.Strconv.AtoiAll
namespace Go.Proofs.YtnadhplhnfpeaaaGreatDoor.Kn
open Go.RowKit Go.Sort
def ltrC (c : UInt8) : Bool := decide (97 ≤ (c.toNat : Int)) && decide ((c.toNat : Int) ≤ 122)
def dgtC (c : UInt8) : Bool := decide (48 ≤ (c.toNat : Int)) && decide ((c.toNat : Int) ≤ 57)
def inNm (c : UInt8) : Bool := ltrC c || dgtC c || decide ((c.toNat : Int) = 45) || decide ((c.toNat : Int) = 95)
theorem emptyS_iff (s : ByteArray) : s.toList.isEmpty = decide (s.size = 0) := by
 rw [ByteArray.toList_eq]
 obtain ⟨⟨l⟩⟩ := s
 cases l <;> simp [ByteArray.size]
theorem ltrC_is (c : UInt8) (w : World) : Calls Tryz.prog 30 #[.int .u8 (c.toNat : Int)] w fun e w' => e = .returned (.bool (ltrC c)) ∧ w' = w := by
 unfold ltrC
 by_cases h : 97 ≤ (c.toNat : Int)
 ·
  go_enter Tryz.func30, Tryz.ntmps30
  go_wp2_with fail
  all_goals
   go_ret
   exact ⟨ret_bool (by simp [h]; try omega), rfl⟩
 go_enter Tryz.func30, Tryz.ntmps30
 go_wp2_with fail
 all_goals
  go_ret
  exact ⟨ret_bool (by simp; try omega), rfl⟩
theorem dgtC_is (c : UInt8) (w : World) : Calls Tryz.prog 27 #[.int .u8 (c.toNat : Int)] w fun e w' => e = .returned (.bool (dgtC c)) ∧ w' = w := by
 unfold dgtC
 by_cases h : 48 ≤ (c.toNat : Int)
 ·
  go_enter Tryz.func27, Tryz.ntmps27
  go_wp2_with fail
  all_goals
   go_ret
   exact ⟨ret_bool (by simp [h]; try omega), rfl⟩
 go_enter Tryz.func27, Tryz.ntmps27
 go_wp2_with fail
 all_goals
  go_ret
  exact ⟨ret_bool (by simp; try omega), rfl⟩
set_option maxHeartbeats 1000000 in
set_option maxRecDepth 100000 in
theorem inNm_is (c : UInt8) (w : World) : Calls Tryz.prog 31 #[.int .u8 (c.toNat : Int)] w fun e w' => e = .returned (.bool (inNm c)) ∧ w' = w := by
 have CL := hide (ltrC_is c)
 have CD := hide (dgtC_is c)
 unfold inNm
 cases hl : ltrC c
 ·
  cases hd : dgtC c
  ·
   rw [hl] at CL
   rw [hd] at CD
   clear hl hd
   by_cases h1 : (c.toNat : Int) = 45
   ·
    generalize (c.toNat : Int) = z at *
    subst h1
    go_enter Tryz.func31, Tryz.ntmps31
    go_wp2_with fail
    refine (CL.out _).mono ?_
    rintro e w1 ⟨rfl, rfl⟩
    go_wp2_with fail
    refine (CD.out _).mono ?_
    rintro e w2 ⟨rfl, rfl⟩
    go_wp2_with fail
    all_goals
     go_ret
     exact ⟨rfl, rfl⟩
   have h1' := hide h1
   go_enter Tryz.func31, Tryz.ntmps31
   go_wp2_with fail
   refine (CL.out _).mono ?_
   rintro e w1 ⟨rfl, rfl⟩
   go_wp2_with fail
   refine (CD.out _).mono ?_
   rintro e w2 ⟨rfl, rfl⟩
   go_wp2_with fail
   all_goals
    go_ret
    exact ⟨ret_bool (by have := h1'.out; rw [Bool.eq_iff_iff]; simp; try omega), rfl⟩
  rw [hl] at CL
  rw [hd] at CD
  clear hl hd
  go_enter Tryz.func31, Tryz.ntmps31
  go_wp2_with fail
  refine (CL.out _).mono ?_
  rintro e w1 ⟨rfl, rfl⟩
  go_wp2_with fail
  refine (CD.out _).mono ?_
  rintro e w2 ⟨rfl, rfl⟩
  go_wp2_with fail
  all_goals
   go_ret
   exact ⟨rfl, rfl⟩
 rw [hl] at CL
 clear hl
 go_enter Tryz.func31, Tryz.ntmps31
 go_wp2_with fail
 refine (CL.out _).mono ?_
 rintro e w1 ⟨rfl, rfl⟩
 go_wp2_with fail
 all_goals
  go_ret
  exact ⟨rfl, rfl⟩
theorem allB_bad {p : UInt8 → Bool} (s : ByteArray) (j : Nat) (h : j < s.size) (hp : p s[j] = false) : s.data.toList.all p = false := by
 rw [List.all_eq_false]
 refine ⟨s[j], ?_, by rw [hp]; decide⟩
 have : s.data.toList[j]'(by simpa using h) = s[j] := by simp [ByteArray.getElem_eq_getElem_data]
 rw [← this]
 exact List.getElem_mem _
theorem allB_ok {p : UInt8 → Bool} (s : ByteArray) (hp : ∀ j (h : j < s.size), p s[j] = true) : s.data.toList.all p = true := by
 rw [List.all_eq_true]
 intro c hc
 obtain ⟨j, hj, rfl⟩ := List.getElem_of_mem hc
 have hj' : j < s.size := by simpa using hj
 have : s.data.toList[j] = s[j] := by simp [ByteArray.getElem_eq_getElem_data]
 rw [this]
 exact hp j hj'
def nmF (s : ByteArray) : Int := if h : 0 < s.size then (if ltrC s[0] = false then 4 else if s.data.toList.all inNm = false then 4 else if 12 < s.size then 2 else 0) else 4
set_option maxHeartbeats 2000000 in
set_option maxRecDepth 100000 in
theorem nameFault_is (s : ByteArray) (hs : s.size ≤ 1000) (w : World) : Calls Tryz.prog 18 #[.string s] w fun e w' => e = .returned (.int .i64 (nmF s)) ∧ Below w.heap.size w w' := by
 obtain ⟨R, hR⟩ : ∃ R, R = nmF s := ⟨_, rfl⟩
 rw [← hR]
 by_cases h0 : s.size = 0
 ·
  obtain rfl : s = ⟨#[]⟩ := ByteArray.ext (Array.eq_empty_of_size_eq_zero h0)
  obtain rfl : R = 4 := hR
  go_enter Tryz.func18, Tryz.ntmps18
  go_wp2_with fail
  go_ret
  exact ⟨rfl, brefl w⟩
 have he : s.toList.isEmpty = false := by rw [emptyS_iff]; exact decide_eq_false h0
 have hp : 0 < s.size := by omega
 have hp' : (0 : Int) < (s.size : Int) := by omega
 have CL := hide (ltrC_is s[0])
 unfold nmF at hR
 rw [dif_pos hp] at hR
 cases hl : ltrC s[0]
 ·
  rw [hl, if_pos rfl] at hR
  subst hR
  rw [hl] at CL
  clear hl
  go_enter Tryz.func18, Tryz.ntmps18
  go_wp2_with fail
  refine (CL.out _).mono ?_
  rintro e w1 ⟨rfl, rfl⟩
  go_wp2_with fail
  go_ret
  exact ⟨rfl, brefl _⟩
 rw [hl, if_neg (by decide)] at hR
 rw [hl] at CL
 clear hl
 have HBAD : Hid (∀ j (h : j < s.size), inNm s[j] = false → R = 4) := by
  intro j h hn
  rw [hR, if_pos (allB_bad s j h hn)]
 have HEND : Hid ((∀ j (h : j < s.size), inNm s[j] = true) → R = if 12 < s.size then 2 else 0) := by
  intro h
  rw [hR, if_neg (by rw [allB_ok s h]; decide)]
 clear hR
 go_enter Tryz.func18, Tryz.ntmps18
 go_wp2_with fail
 refine (CL.out _).mono ?_
 rintro e w1 ⟨rfl, rfl⟩
 go_wp2_with fail
 go_loopw [14] (fun v wr => ∃ k : Nat, v = .int .i64 k ∧ k ≤ s.size ∧ Hid (∀ j (h : j < s.size), j < k → inNm s[j] = true) ∧ Below w1.heap.size w1 wr) (fun v _ => s.size - (intOf v).toNat)
 case atStart => exact ⟨0, rfl, Nat.zero_le _, hide fun j _ hj => absurd hj (Nat.not_lt_zero _), brefl w1⟩
 case round =>
  obtain ⟨k, rfl, hk, HALL, hbr⟩ := hrel
  have HBR := hide hbr
  clear hbr
  by_cases hkl : k < s.size
  ·
   have hkl' : (k : Int) < (s.size : Int) := by omega
   have HB := hide (HBAD.out k hkl)
   have HNX : Hid (inNm s[k] = true → ∀ j (h : j < s.size), j < k + 1 → inNm s[j] = true) := by
    intro h j hj hjk
    rcases Nat.lt_or_ge j k with h1 | h1
    ·
     exact HALL.out j hj h1
    obtain rfl : j = k := by omega
    exact h
   have CN := hide (inNm_is s[k])
   cases hn : inNm s[k]
   ·
    rw [hn] at CN HB
    obtain rfl := HB.out rfl
    clear HB HNX hn
    go_wp2_with fail
    refine (CN.out _).mono ?_
    rintro e w2 ⟨rfl, rfl⟩
    go_wp2_with fail
    go_ret
    exact ⟨rfl, HBR.out⟩
   rw [hn] at CN HNX
   clear HB hn
   go_wp2_with fail
   refine (CN.out _).mono ?_
   rintro e w2 ⟨rfl, rfl⟩
   go_wp2_with fail
   exact ⟨⟨k + 1, by go_num, by omega, hide (HNX.out (by first | exact True.intro | rfl)), HBR.out⟩, by simp [intOf]; omega⟩
  have hkl' : ¬ (k : Int) < (s.size : Int) := by omega
  have HE := hide (HEND.out fun j h => HALL.out j h (by omega))
  by_cases h12 : 12 < s.size
  ·
   have h12' : (12 : Int) < (s.size : Int) := by omega
   rw [if_pos h12] at HE
   obtain rfl := HE.out
   go_wp2_with fail
   go_ret
   exact ⟨rfl, HBR.out⟩
  have h12' : ¬ (12 : Int) < (s.size : Int) := by omega
  rw [if_neg h12] at HE
  obtain rfl := HE.out
  go_wp2_with fail
  go_ret
  exact ⟨rfl, HBR.out⟩
def isNm (s : ByteArray) : Bool := if h : 0 < s.size then (if (s[0].toNat : Int) = 48 ∧ 1 < s.size then false else s.data.toList.all dgtC) else false
set_option maxHeartbeats 2000000 in
set_option maxRecDepth 100000 in
theorem isNumber_is (s : ByteArray) (hs : s.size ≤ 1000) (w : World) : Calls Tryz.prog 16 #[.string s] w fun e w' => e = .returned (.bool (isNm s)) ∧ Below w.heap.size w w' := by
 obtain ⟨R, hR⟩ : ∃ R, R = isNm s := ⟨_, rfl⟩
 rw [← hR]
 by_cases h0 : s.size = 0
 ·
  obtain rfl : s = ⟨#[]⟩ := ByteArray.ext (Array.eq_empty_of_size_eq_zero h0)
  obtain rfl : R = false := hR
  go_enter Tryz.func16, Tryz.ntmps16
  go_wp2_with fail
  go_ret
  exact ⟨rfl, brefl w⟩
 have he : s.toList.isEmpty = false := by rw [emptyS_iff]; exact decide_eq_false h0
 have hp : 0 < s.size := by omega
 have hp' : (0 : Int) < (s.size : Int) := by omega
 unfold isNm at hR
 rw [dif_pos hp] at hR
 by_cases hz : (s[0].toNat : Int) = 48 ∧ 1 < s.size
 ·
  rw [if_pos hz] at hR
  subst hR
  obtain ⟨z0, z1⟩ := hz
  have z1' : (1 : Int) < (s.size : Int) := by omega
  go_enter Tryz.func16, Tryz.ntmps16
  go_wp2_with fail
  go_ret
  exact ⟨rfl, brefl _⟩
 rw [if_neg hz] at hR
 have HBAD : Hid (∀ j (h : j < s.size), dgtC s[j] = false → R = false) := by
  intro j h hn
  rw [hR, allB_bad s j h hn]
 have HEND : Hid ((∀ j (h : j < s.size), dgtC s[j] = true) → R = true) := by
  intro h
  rw [hR, allB_ok s h]
 clear hR
 by_cases z0 : (s[0].toNat : Int) = 48
 focus
  have z1' : ¬ (1 : Int) < (s.size : Int) := fun h => hz ⟨z0, by omega⟩
 rotate_left
 all_goals
  clear hz
  go_enter Tryz.func16, Tryz.ntmps16
  go_wp2_with fail
  clear z0
  go_loopw [18] (fun v wr => ∃ k : Nat, v = .int .i64 k ∧ k ≤ s.size ∧ Hid (∀ j (h : j < s.size), j < k → dgtC s[j] = true) ∧ Below w.heap.size w wr) (fun v _ => s.size - (intOf v).toNat)
  case atStart => exact ⟨0, rfl, Nat.zero_le _, hide fun j _ hj => absurd hj (Nat.not_lt_zero _), brefl w⟩
  case round =>
   obtain ⟨k, rfl, hk, HALL, hbr⟩ := hrel
   have HBR := hide hbr
   clear hbr
   by_cases hkl : k < s.size
   ·
    have hkl' : (k : Int) < (s.size : Int) := by omega
    have HB := hide (HBAD.out k hkl)
    have HNX : Hid (dgtC s[k] = true → ∀ j (h : j < s.size), j < k + 1 → dgtC s[j] = true) := by
     intro h j hj hjk
     rcases Nat.lt_or_ge j k with h1 | h1
     ·
      exact HALL.out j hj h1
     obtain rfl : j = k := by omega
     exact h
    have CN := hide (dgtC_is s[k])
    cases hn : dgtC s[k]
    ·
     rw [hn] at CN HB
     obtain rfl := HB.out rfl
     clear HB HNX hn
     go_wp2_with fail
     refine (CN.out _).mono ?_
     rintro e w2 ⟨rfl, rfl⟩
     go_wp2_with fail
     go_ret
     exact ⟨rfl, HBR.out⟩
    rw [hn] at CN HNX
    clear HB hn
    go_wp2_with fail
    refine (CN.out _).mono ?_
    rintro e w2 ⟨rfl, rfl⟩
    go_wp2_with fail
    exact ⟨⟨k + 1, by go_num, by omega, hide (HNX.out (by first | exact True.intro | rfl)), HBR.out⟩, by simp [intOf]; omega⟩
   have hkl' : ¬ (k : Int) < (s.size : Int) := by omega
   obtain rfl := HEND.out fun j h => HALL.out j h (by omega)
   go_wp2_with fail
   go_ret
   exact ⟨rfl, HBR.out⟩
end Go.Proofs.YtnadhplhnfpeaaaGreatDoor.Kn
namespace Go.Proofs.YtnadhplhnfpeaaaGreatDoor.Ar
open Go.RowKit Go.Sort
theorem hide {p : Prop} (h : p) : Hid p := h
theorem heap_lt {w : World} {b : Nat} {o : Obj} (h : w.heap[b]? = some o) : b < w.heap.size := by
 rcases Nat.lt_or_ge b w.heap.size with h' | h'
 ·
  exact h'
 simp [Array.getElem?_eq_none h'] at h
theorem row_below {w w' : World} {B e size n : Nat} {v : Value} {xs : List Value} (h : w.ownsRow B e size v n xs) (hb : Below w.heap.size w w') : w'.ownsRow B e size v n xs := by
 obtain ⟨h1, h2⟩ := h
 refine ⟨h1, ?_⟩
 rcases h2 with h2 | ⟨g, cap, cur, hv, hB, hg, r⟩
 ·
  exact .inl h2
 exact .inr ⟨g, cap, cur, hv, hB, (hb.block g (heap_lt hg)).trans hg, r⟩
theorem ret_int {k : IntKind} {a b : Int} (h : a = b) : Ending.returned (.int k a) = .returned (.int k b) := by rw [h]
theorem ret_bool {a b : Bool} (h : a = b) : Ending.returned (.bool a) = .returned (.bool b) := by rw [h]
theorem bcell {W w1 : World} (hb : Below W.heap.size W w1) : (∀ b o, b < W.heap.size → w1.cell? ⟨b, o, none⟩ = W.cell? ⟨b, o, none⟩) ∧ (∀ b o, b < W.heap.size → w1.frozen? ⟨b, o, none⟩ = W.frozen? ⟨b, o, none⟩) :=
  ⟨fun b o h => hb.cell (p := ⟨b, o, none⟩) h, fun b o h => hb.frozen (p := ⟨b, o, none⟩) h⟩
theorem bthen {w W w1 : World} (h : Below w.heap.size w W) (hb : Below W.heap.size W w1) : Below w.heap.size w w1 := h.trans (hb.mono h.size)
theorem balloc {w W : World} (h : Below w.heap.size w W) (o : Obj) : Below w.heap.size w (W.alloc o) := h.alloc h.size o
theorem brefl (w : World) : Below w.heap.size w w := Below.refl _ _
theorem bset {w W : World} (h : Below w.heap.size w W) {p : Addr} (hp : w.heap.size ≤ p.block) (u : Value) : Below w.heap.size w (W.setCell p u) := h.setCell hp u
def Grows (w w' : World) : Prop := ∃ q os, w' = grow (w.drewN q) os
theorem Grows.refl (w : World) : Grows w w := ⟨0, #[], by rw [grow_empty]; rfl⟩
theorem Grows.trans {a b c : World} (h : Grows a b) (k : Grows b c) : Grows a c := by
 obtain ⟨q, os, rfl⟩ := h
 obtain ⟨q', os', rfl⟩ := k
 refine ⟨q + q', os ++ os', ?_⟩
 rw [← grow_grow, ← World.drewN_drewN]
 rfl
theorem Grows.alloc {a b : World} (h : Grows a b) (o : Obj) : Grows a (b.alloc o) := h.trans ⟨0, #[o], rfl⟩
theorem Grows.below {a b : World} (h : Grows a b) : Below a.heap.size a b := by
 obtain ⟨q, os, rfl⟩ := h
 exact ⟨rfl, rfl, rfl, by simp [grow], fun k hk => by simp [grow, Array.getElem?_append, hk]⟩
def Two (w : World) (n : Nat) (a b : Int) : Prop := w.cell? ⟨n, 0, none⟩ = some (.int .i64 a) ∧ w.cell? ⟨n, 1, none⟩ = some (.int .i64 b) ∧ n < w.heap.size ∧ n < w.heap.size + 1
theorem two_of {W : World} {n : Nat} {a b : Int} (h0 : W.cell? ⟨n, 0, none⟩ = some (.int .i64 a)) (h1 : W.cell? ⟨n, 1, none⟩ = some (.int .i64 b)) : Two W n a b :=
  ⟨h0, h1, block_lt_of_cell h0, Nat.lt_succ_of_lt (block_lt_of_cell h0)⟩
theorem two_below {W w1 : World} {n : Nat} {a b : Int} (hb : Below W.heap.size W w1) (h : Two W n a b) : Two w1 n a b :=
  two_of ((hb.cell (p := ⟨n, 0, none⟩) h.2.2.1).trans h.1) ((hb.cell (p := ⟨n, 1, none⟩) h.2.2.1).trans h.2.1)
theorem two_new (W : World) (a b : Int) (t : TypeId) : Two (W.alloc (.cells #[.int .i64 a, .int .i64 b] t)) W.heap.size a b := two_of (by simp) (by simp)
theorem row_slice {w : World} {B e size n : Nat} {v : Value} {xs : List Value} (h : w.ownsRow B e size v n xs) : ∃ ao cap, v = .slice ao n cap := by
 rcases h.2 with ⟨rfl, rfl⟩ | ⟨g, cap, cur, rfl, _⟩
 ·
  exact ⟨none, 0, rfl⟩
 exact ⟨_, cap, rfl⟩
def Is.cells (l : List Int) : List Value := l.map fun n => .int .i64 n
def Is.reads (w : World) (b off : Nat) (l : List Int) : Prop := ∀ j (h : j < l.length), w.cell? ⟨b, off + j, none⟩ = some (.int .i64 l[j])
def Is.slot (w : World) (ao : Option Addr) (l : List Int) : Prop := l = [] ∨ ∃ b off, ao = some ⟨b, off, none⟩ ∧ Is.reads w b off l
theorem Is.cells_length (l : List Int) : (Is.cells l).length = l.length := by simp [Is.cells]
theorem Is.cells_app (x y : List Int) : Is.cells (x ++ y) = Is.cells x ++ Is.cells y := by simp [Is.cells]
theorem Is.cells_one (l : List Int) : ∀ u ∈ Is.cells l, u.oneCell' = true := by
 intro u hu
 simp only [Is.cells, List.mem_map] at hu
 obtain ⟨x, _, rfl⟩ := hu
 rfl
def Is.as (n : Int) : Bool := decide (0 < n) && decide (n < 65536)
theorem Is.as_iff (n : Int) : Is.as n = true ↔ 0 < n ∧ n < 65536 := by simp [Is.as]
theorem Is.as_not (n : Int) : Is.as n = false ↔ n ≤ 0 ∨ 65536 ≤ n := by
 rw [← Bool.not_eq_true, Is.as_iff]; omega
def came (ao : Option Addr) (cap : Nat) : Prop := (ao = none → cap = 0) ∧ (∀ ad, ao = some ad → ad.spot = none)
theorem came_some (g o c : Nat) : came (some ⟨g, o, none⟩) c := ⟨fun h => (by cases h), fun ad h => (by cases h; rfl)⟩
theorem infoI : (Tryz.prog.info? 3).map (fun i => (i.zero, i.size, i.bytes)) = some (some (.int .i64 0), 1, 8) := by kernel_rfl
theorem info_partsI : ∃ i0 : TypeInfo, Tryz.prog.info? 3 = some i0 ∧ i0.zero = some (.int .i64 0) ∧ i0.size = 1 ∧ i0.bytes = 8 := by
 have h := infoI
 cases hi : Tryz.prog.info? 3 with
 | none => rw [hi] at h; cases h
 | some i0 =>
  rw [hi] at h
  simp only [Option.map_some, Option.some.injEq, Prod.mk.injEq] at h
  exact ⟨i0, rfl, h.1, h.2.1, h.2.2⟩
theorem Is.cells_get (l : List Int) (j : Nat) (u : Value) (h : (Is.cells l)[j]? = some u) : ∃ hj : j < l.length, u = .int .i64 l[j] := by
 have hj : j < l.length := by have := (List.getElem?_eq_some_iff.1 h).1; rwa [Is.cells_length] at this
 refine ⟨hj, ?_⟩
 simp [Is.cells, hj] at h
 exact h.symm
theorem append_ints {w w0 : World} {ops : Array Oper} {rest : List Oper} {o : Oper} {a : Act} {Q : Exit → Act → World → Prop} (hgd : o.guard = none) (s x : Operand)
    (ho : o.op = .call { callee := .builtin .append, args := #[s, x], argTypes := #[77, 77] }) (v : Value) (n : Nat) (xs : List Int) (hs : a.eval s = v) (hown : w.ownsRow w0.heap.size 3 1 v n (Is.cells xs))
    (ao : Option Addr) (nl cap : Nat) (l : List Int) (hx : a.eval x = .slice ao nl cap) (hnl : l.length = nl) (hR : Is.slot w ao l) (hC : came ao cap) (hn : n + nl ≤ 1000000) (hb : Below w0.heap.size w0 w)
    (h : ∀ v' w', w'.ownsRow w0.heap.size 3 1 v' (n + nl) (Is.cells (xs ++ l)) → Below w0.heap.size w0 w' → wpList Tryz.prog ops Q rest (a.put o.dst v') w') : wpList Tryz.prog ops Q (o :: rest) a w := by
  subst hnl
  obtain ⟨i0, hi, hz0, hz1, hz2⟩ := info_partsI
  cases ao with
  | none =>
    have hl : l = [] := by
      rcases hR with h | ⟨b, off, h, _⟩
      · exact h
      · cases h
    subst hl
    rw [hC.1 rfl] at hx
    refine wpList_append_own_none hgd s x 77 ho w0.heap.size 3 i0 1 Tryz.underlying77 hi v n (Is.cells xs) hs hown hx ?_
    exact h v w (by simpa using hown) hb
  | some ad =>
    obtain ⟨b, off, sp⟩ := ad
    obtain rfl : sp = none := hC.2 _ rfl
    have hrd : ∀ j u, (Is.cells l)[j]? = some u → w.cell? ((⟨b, off, none⟩ : Addr).add j) = some u := by
      intro j u hu
      obtain ⟨hj, rfl⟩ := Is.cells_get l j u hu
      rcases hR with h | ⟨b', off', h, hr⟩
      · rw [h] at hj; simp at hj
      · simp only [Option.some.injEq, Addr.mk.injEq, and_true] at h
        rw [show (⟨b, off, none⟩ : Addr).add j = ⟨b, off + j, none⟩ by unfold Addr.add; split <;> simp_all, h.1, h.2]
        exact hr j hj
    refine wpList_append_own w hgd s x 77 ho w0.heap.size 3 i0 _ 1 8 Tryz.underlying77 hi hz0 hz1 hz2 rfl (by decide) v n (Is.cells xs) hs hown ⟨b, off, none⟩ l.length cap (Is.cells l) hx (by rw [Is.cells_length, Nat.mul_one]) hrd (Is.cells_one l) (by unfold maxLen; omega) (by omega) hb.size ?_
    intro v' w' ho' hg _
    refine h v' w' ?_ (Below.grown hb hg hb.size fun k hk => (hown.lt k hk).1)
    rw [Is.cells_app]
    exact ho'
theorem Is.slot_one (W : World) (n : Int) (t : TypeId) : Is.slot (W.alloc (.cells #[.int .i64 n] t)) (some ⟨W.heap.size, 0, none⟩) [n] := by
 refine .inr ⟨_, 0, rfl, fun j hj => ?_⟩
 obtain rfl : j = 0 := by simp at hj; omega
 simp
theorem dec_step (u d : Nat) (hd : d < 10) (hu : 0 < u) : Lib.decDigits (10 * u + d) = Lib.decDigits u ++ [UInt8.ofNat (48 + d)] := by
 rw [Lib.decDigits, dif_neg (by omega)]
 have e1 : (10 * u + d) / 10 = u := by omega
 have e2 : (10 * u + d) % 10 = d := by omega
 rw [e1, e2]
end Go.Proofs.YtnadhplhnfpeaaaGreatDoor.Ar
namespace Go.Proofs.YtnadhplhnfpeaaaGreatDoor.Ar
open Go.RowKit
def Ad.digs (l : List UInt8) : Bool := l.all fun c => decide (48 ≤ c.toNat) && decide (c.toNat ≤ 57)
def Ad.zeroAhead (l : List UInt8) : Bool := decide (1 < l.length) && (l.head? == some 48)
def Ad.isNum (l : List UInt8) : Bool := !l.isEmpty && !Ad.zeroAhead l && Ad.digs l
def Ad.num (l : List UInt8) : Int := l.foldl (fun n c => 10 * n + ((c.toNat : Int) - 48)) 0
theorem Ad.size_list (s : ByteArray) : s.data.toList.length = s.size := by simp
theorem Ad.get_list (s : ByteArray) (k : Nat) (h : k < s.size) : s.data.toList[k]'(by simpa using h) = s[k] := rfl
theorem Ad.empty_iff (s : ByteArray) : s.toList.isEmpty = decide (s.size = 0) := by
 rw [ByteArray.toList_eq]
 obtain ⟨⟨l⟩⟩ := s
 cases l <;> simp [ByteArray.size]
def Ad.dig (c : UInt8) : Bool := decide (48 ≤ c.toNat) && decide (c.toNat ≤ 57)
theorem Ad.digs_iff (s : ByteArray) : Ad.digs s.data.toList = true ↔ ∀ k (h : k < s.size), Ad.dig s[k] = true := by
 unfold Ad.digs
 rw [List.all_eq_true]
 constructor
 ·
  intro h k hk
  exact h s[k] (by rw [← Ad.get_list s k hk]; exact List.getElem_mem _)
 intro h x hx
 obtain ⟨k, hk, rfl⟩ := List.getElem_of_mem hx
 exact h k (by simpa using hk)
theorem Ad.head_iff (s : ByteArray) (h : 0 < s.size) : s.data.toList.head? = some s[0] := by
 rw [← Ad.get_list s 0 h, List.head?_eq_getElem?]
 simp
theorem Ad.num_snoc (l : List UInt8) (c : UInt8) : Ad.num (l ++ [c]) = 10 * Ad.num l + ((c.toNat : Int) - 48) := by
 unfold Ad.num; rw [List.foldl_append]; rfl
theorem Ad.digs_snoc (l : List UInt8) (c : UInt8) : Ad.digs (l ++ [c]) = (Ad.digs l && Ad.dig c) := by
 unfold Ad.digs Ad.dig; simp [List.all_append]
theorem Ad.take_snoc (s : ByteArray) (k : Nat) (h : k < s.size) : s.data.toList.take (k + 1) = s.data.toList.take k ++ [s[k]] := by
 rw [List.take_succ_eq_append_getElem (by simpa using h)]; rfl
theorem Ad.dig_bd (c : UInt8) (h : Ad.dig c = true) : (48 : Int) ≤ (c.toNat : Int) ∧ (c.toNat : Int) ≤ 57 := by
 simp [Ad.dig] at h
 omega
theorem Ad.num_bd (l : List UInt8) (h : Ad.digs l = true) : 0 ≤ Ad.num l ∧ Ad.num l < 10 ^ l.length := by
 have key : ∀ (n : Nat) (l : List UInt8), l.length = n → Ad.digs l = true → 0 ≤ Ad.num l ∧ Ad.num l < 10 ^ l.length := by
  intro n
  induction n with
  | zero =>
   intro l hl _
   obtain rfl := List.length_eq_zero_iff.1 hl
   simp [Ad.num]
  | succ n ih =>
   intro l hl hd
   obtain ⟨m, c, rfl⟩ : ∃ m c, l = m ++ [c] := ⟨l.dropLast, l.getLast (by intro h; rw [h] at hl; simp at hl), (List.dropLast_concat_getLast _).symm⟩
   rw [Ad.digs_snoc, Bool.and_eq_true] at hd
   have := ih m (by simpa using hl) hd.1
   have hc := Ad.dig_bd c hd.2
   rw [Ad.num_snoc, List.length_append]
   have hp : (10 : Int) ^ (m.length + [c].length) = 10 ^ m.length * 10 := Int.pow_succ 10 m.length
   rw [hp]
   omega
 exact key l.length l rfl h
theorem Ad.digs_take (s : ByteArray) (k : Nat) (h : Ad.digs s.data.toList = true) : Ad.digs (s.data.toList.take k) = true := by
 unfold Ad.digs at *
 rw [List.all_eq_true] at *
 exact fun x hx => h x (List.mem_of_mem_take hx)
def Ad.cutL : List UInt8 → UInt8 → Option (List UInt8 × List UInt8)
  | [], _ => none
  | x :: xs, c => if x = c then some ([], xs) else (Ad.cutL xs c).map fun p => (x :: p.1, p.2)
theorem Ad.cutL_some : ∀ (l : List UInt8) (c : UInt8) (t r : List UInt8), Ad.cutL l c = some (t, r) → l = t ++ c :: r ∧ c ∉ t
  | [], c, t, r, h => by simp [Ad.cutL] at h
  | x :: xs, c, t, r, h => by
    unfold Ad.cutL at h
    by_cases hx : x = c
    · rw [if_pos hx] at h
      simp at h
      obtain ⟨rfl, rfl⟩ := h
      exact ⟨by simp [hx], by simp⟩
    · rw [if_neg hx] at h
      cases hc : Ad.cutL xs c with
      | none => rw [hc] at h; simp at h
      | some p =>
        rw [hc] at h
        simp at h
        obtain ⟨rfl, rfl⟩ := h
        have := Ad.cutL_some xs c p.1 p.2 hc
        refine ⟨by rw [List.cons_append, ← this.1], ?_⟩
        simp
        exact ⟨fun e => hx e.symm, this.2⟩
theorem Ad.cutL_app : ∀ (t : List UInt8) (c : UInt8) (r : List UInt8), c ∉ t → Ad.cutL (t ++ c :: r) c = some (t, r)
  | [], c, r, _ => by simp [Ad.cutL]
  | x :: t, c, r, h => by
    simp at h
    rw [List.cons_append, Ad.cutL, if_neg (fun e => h.1 e.symm), Ad.cutL_app t c r h.2]
    rfl
theorem Ad.cutL_none (l : List UInt8) (c : UInt8) (h : Lib.indexByte l c < 0) : Ad.cutL l c = none := by
 cases hc : Ad.cutL l c with
 | none => rfl
 | some p =>
  exfalso
  have h1 := Ad.cutL_some l c p.1 p.2 hc
  have h2 := Lib.indexByte_ge l c
  have h3 : Lib.indexByte l c = -1 := by omega
  have := Lib.indexByte_none h3 p.1.length
  rw [h1.1] at this
  simp at this
theorem Ad.cutL_at (s : ByteArray) (c : UInt8) (o : Nat) (h : Lib.indexByte s.data.toList c = (o : Int)) (hlt : o < s.size) :
    Ad.cutL s.data.toList c = some ((s.extract 0 o).data.toList, (s.extract (o + 1) s.size).data.toList) := by
 obtain ⟨h1, h2⟩ := Lib.indexByte_some h
 have e1 : (s.extract 0 o).data.toList = s.data.toList.take o := by rw [Lib.extract_data]; simp
 have e2 : (s.extract (o + 1) s.size).data.toList = s.data.toList.drop (o + 1) := Lib.extract_to_end s (o + 1)
 have e3 : s.data.toList = s.data.toList.take o ++ c :: s.data.toList.drop (o + 1) := by
  have hl : o < s.data.toList.length := by simpa using hlt
  have h3 : s.data.toList[o]'hl = c := by
   rw [List.getElem?_eq_getElem hl] at h1
   exact Option.some.inj h1
  rw [← h3, ← List.drop_eq_getElem_cons hl, List.take_append_drop]
 rw [e1, e2]
 conv => lhs; rw [e3]
 refine Ad.cutL_app _ _ _ ?_
 intro hm
 obtain ⟨k, hk, he⟩ := List.getElem_of_mem hm
 have hk' : k < o := by rw [List.length_take] at hk; omega
 refine h2 k hk' ?_
 rw [List.getElem_take] at he
 rw [← he]
 simp
theorem Ad.dec_step (m d : Nat) (hm : 1 ≤ m) (hd : d < 10) : Lib.decDigits (10 * m + d) = Lib.decDigits m ++ [UInt8.ofNat (48 + d)] := _root_.Go.Proofs.YtnadhplhnfpeaaaGreatDoor.Ar.dec_step m d hd (by omega)
theorem Ad.snoc_cases (l : List UInt8) (h : l ≠ []) : ∃ l' c, l = l' ++ [c] := ⟨l.dropLast, l.getLast h, (List.dropLast_concat_getLast h).symm⟩
theorem Ad.dec_num : ∀ (n : Nat) (l : List UInt8), l.length = n → l ≠ [] → Ad.digs l = true → (l.head? ≠ some 48 ∨ n = 1) → Lib.decDigits (Ad.num l).toNat = l ∧ (l.head? ≠ some 48 → 1 ≤ Ad.num l)
  | 0, l, hl, h0, _, _ => absurd (List.eq_nil_of_length_eq_zero hl) h0
  | n + 1, l, hl, h0, hd, hz => by
    obtain ⟨l', c, rfl⟩ := Ad.snoc_cases l h0
    rw [Ad.digs_snoc, Bool.and_eq_true] at hd
    obtain ⟨hd1, hd2⟩ := hd
    have hc := Ad.dig_bd c hd2
    have ec : UInt8.ofNat (48 + ((c.toNat : Int) - 48).toNat) = c := by
      have : 48 + ((c.toNat : Int) - 48).toNat = c.toNat := by omega
      rw [this]
      simp
    rw [Ad.num_snoc]
    by_cases hn : l' = []
    · subst hn
      have e : (10 * Ad.num [] + ((c.toNat : Int) - 48)) = (c.toNat : Int) - 48 := by simp [Ad.num]
      rw [e]
      refine ⟨?_, ?_⟩
      · rw [Lib.decDigits_one (by omega), ec]
        rfl
      · intro hh
        have : c ≠ 48 := by intro e'; subst e'; exact hh rfl
        have h48 : c.toNat ≠ 48 := by
          intro e'
          apply this
          have := UInt8.toNat_inj.1 (show c.toNat = (48 : UInt8).toNat from e')
          exact this
        omega
    · have hl' : l'.length = n := by simp at hl; exact hl
      have hn1 : 1 ≤ n := by
        cases l' with
        | nil => exact absurd rfl hn
        | cons _ _ => simp at hl'; omega
      have hhd : (l' ++ [c]).head? = l'.head? := by
        cases l' with
        | nil => exact absurd rfl hn
        | cons _ _ => rfl
      have hz' : l'.head? ≠ some 48 := by
        rcases hz with hz | hz
        · rw [hhd] at hz; exact hz
        · omega
      obtain ⟨i1, i2⟩ := Ad.dec_num n l' hl' hn hd1 (.inl hz')
      have i3 := i2 hz'
      refine ⟨?_, fun _ => by omega⟩
      have e : (10 * Ad.num l' + ((c.toNat : Int) - 48)).toNat = 10 * (Ad.num l').toNat + ((c.toNat : Int) - 48).toNat := by omega
      rw [e, Ad.dec_step _ _ (by omega) (by omega), i1, ec]
theorem Ad.itoa_num (l : List UInt8) (h : Ad.isNum l = true) : Lib.itoa (Ad.num l) = l := by
 unfold Ad.isNum at h
 simp only [Bool.and_eq_true, Bool.not_eq_true'] at h
 obtain ⟨⟨h1, h2⟩, h3⟩ := h
 have h0 : l ≠ [] := by intro e; subst e; simp at h1
 have hb := (Ad.num_bd l h3).1
 unfold Lib.itoa
 rw [if_neg (by omega)]
 refine (Ad.dec_num l.length l rfl h0 h3 ?_).1
 unfold Ad.zeroAhead at h2
 rw [Bool.and_eq_false_iff] at h2
 rcases h2 with h2 | h2
 ·
  right
  have := of_decide_eq_false h2
  cases l with
  | nil => exact absurd rfl h0
  | cons _ t => simp at this ⊢; omega
 left
 simpa using h2
theorem isNum_digs {l : List UInt8} (h : Ad.isNum l = true) : Ad.digs l = true := by
 unfold Ad.isNum at h
 rw [Bool.and_eq_true] at h
 exact h.2
def Sp.split : List UInt8 → List (List UInt8)
  | [] => [[]]
  | c :: r => if c = 32 then [] :: Sp.split r else match Sp.split r with | f :: fs => (c :: f) :: fs | [] => [[c]]
theorem Sp.split_blank (r : List UInt8) : Sp.split (32 :: r) = [] :: Sp.split r := by simp [Sp.split]
theorem Sp.split_app : ∀ (a r : List UInt8), (32 : UInt8) ∉ a → Sp.split (a ++ 32 :: r) = a :: Sp.split r
  | [], r, _ => Sp.split_blank r
  | c :: a, r, h => by
    simp only [List.mem_cons, not_or] at h
    have ih := Sp.split_app a r h.2
    rw [List.cons_append, Sp.split, if_neg (fun e => h.1 e.symm), ih]
theorem Sp.split_one : ∀ (a : List UInt8), (32 : UInt8) ∉ a → Sp.split a = [a]
  | [], _ => rfl
  | c :: a, h => by
    simp only [List.mem_cons, not_or] at h
    rw [Sp.split, if_neg (fun e => h.1 e.symm), Sp.split_one a h.2]
def Is.parse (l : List UInt8) : List Int × Int :=
  if l = [] then ([], 0) else
  if (Sp.split l).all Ad.isNum = true then
    (if ((Sp.split l).map Ad.num).all Is.as = true then (if 16 < (Sp.split l).length then ([], 2) else ((Sp.split l).map Ad.num, 0)) else ([], 7))
  else ([], 4)
theorem Is.parse_bad (l : List UInt8) (h0 : l ≠ []) (f : List UInt8) (hf : f ∈ Sp.split l) (hn : Ad.isNum f = false) (y : List Int) (q : Int) (h : Is.parse l = (y, q)) : y = [] ∧ q = 4 := by
 have ha : (Sp.split l).all Ad.isNum = false := by rw [List.all_eq_false]; exact ⟨f, hf, by rw [hn]; decide⟩
 unfold Is.parse at h
 rw [if_neg h0, ha] at h
 simp at h
 exact ⟨h.1, h.2.symm⟩
end Go.Proofs.YtnadhplhnfpeaaaGreatDoor.Ar
namespace Go.Proofs.YtnadhplhnfpeaaaGreatDoor.Ar.Y4
open Go.RowKit Go.Sort
theorem mayAS_is (n : Int) (r : Bool) (h : Is.as n = r) (w : World) : Calls Tryz.prog 172 #[.int .i64 n] w fun e w' => e = .returned (.bool r) ∧ w' = w := by
 cases r
 ·
  rcases (Is.as_not n).1 h with h | h
  ·
   have h0 : ¬ 1 ≤ n := by omega
   clear h
   go_enter Tryz.func172, Tryz.ntmps172
   go_wp2_with fail
   go_ret
   exact ⟨rfl, rfl⟩
  have h0 : 1 ≤ n := by omega
  have h1 : ¬ n ≤ 65535 := by omega
  clear h
  go_enter Tryz.func172, Tryz.ntmps172
  go_wp2_with fail
  go_ret
  exact ⟨rfl, rfl⟩
 obtain ⟨h0, h1⟩ := (Is.as_iff n).1 h
 have h0 : 1 ≤ n := by omega
 have h1 : n ≤ 65535 := by omega
 clear h
 go_enter Tryz.func172, Tryz.ntmps172
 go_wp2_with fail
 go_ret
 exact ⟨rfl, rfl⟩
end Go.Proofs.YtnadhplhnfpeaaaGreatDoor.Ar.Y4
