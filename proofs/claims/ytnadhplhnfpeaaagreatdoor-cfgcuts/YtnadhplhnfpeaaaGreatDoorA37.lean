/- Part of the proof. -/
import Derived.Test.YtnadhplhnfpeaaaGreatDoorAZ
import Derived.Test.YtnadhplhnfpeaaaGreatDoorA36
import Derived.Test.YtnadhplhnfpeaaaGreatDoorProg
import Derived.WalkKit
import Derived.WalkSpells
import Derived.WalkLawsBesides
import Derived.Deep.QuietTactic
import Derived.BigQuiet
import Derived.Lib.QuietBelow
import Derived.Deep.Cut
import Derived.Lib.Builder
import Derived.RegionTactic
import Derived.Laws.StructEq
import Derived.Sort.Grow
import Derived.LoopN
import Derived.Deep.RegionHeldLaw
import Derived.Test.YtnadhplhnfpeaaaGreatDoorAS
import Derived.Lib.AppendIntMem
import Derived.Lib.ItoaLen
import Derived.Laws.IdiomStrings
import Derived.Laws.Concat
import Derived.Lib.IndexLaws
import Derived.Lib.IndexBytes
namespace Go.Proofs.YtnadhplhnfpeaaaGreatDoor.Ax
open Go.RowKit
def Ad.cutX (a b : Int) : Int := bits BinOp.andNot IntKind.u32 a (4294967295 / 2 ^ b.toNat)
def Ad.mayX (a b : Int) : Bool := decide (0 ≤ b) && decide (b ≤ 32) && decide (Ad.cutX a b = a)
def Ad.rmayX (r : Ad.R) : Bool := Ad.mayX r.1 r.2.1 && decide (r.2.1 ≤ r.2.2.1) && decide (r.2.2.1 ≤ r.2.2.2.1) && decide (r.2.2.2.1 ≤ 32)
def Ad.rwhyX (l : List Ad.R) : Int := if 16 < l.length then 2 else if l.all Ad.rmayX = true then 0 else 1
set_option maxHeartbeats 400000 in
theorem cutX_any (a b : Int) (w : World) (hb : 0 ≤ b) (hb2 : b ≤ 32) :
    Calls Tryz.prog 130 #[.int .u32 a, .int .i64 b] w fun e w' => e = .returned (.int .u32 (Ad.cutX a b)) ∧ w' = w := by
 go_enter Tryz.func130, Tryz.ntmps130
 go_wp2
 go_ret
 exact ⟨ret_int rfl, rfl⟩
set_option maxHeartbeats 400000 in
theorem mayX_any (a b : Int) (w : World) :
    Calls Tryz.prog 117 #[.agg #[.int .u32 a, .int .i64 b]] w fun e w' => e = .returned (.bool (Ad.mayX a b)) ∧ Below w.heap.size w w' := by
 by_cases h0 : 0 ≤ b
 ·
  by_cases h1 : b ≤ 32
  ·
   go_enter Tryz.func117, Tryz.ntmps117
   go_wp2
   go_quiet ((go_at_call 130; exact Calls.quiet_of_same (cutX_any _ _ _ (by omega) (by omega))))
   go_wp2
   go_ret
   exact ⟨ret_bool (by simp [Ad.mayX, h0, h1, Bool.beq_eq_decide_eq]), below_drewN ((Below.refl _ _).alloc (Nat.le_refl _) _) _⟩
  have hd : decide (b ≤ 32) = false := by simpa using h1
  go_enter Tryz.func117, Tryz.ntmps117
  go_wp2
  go_quiet (fail)
  go_wp2
  go_ret
  exact ⟨ret_bool (by simp [Ad.mayX]; omega), below_drewN ((Below.refl _ _).alloc (Nat.le_refl _) _) _⟩
 have hd : decide (0 ≤ b) = false := by simpa using h0
 go_enter Tryz.func117, Tryz.ntmps117
 go_wp2
 go_quiet (fail)
 go_wp2
 go_ret
 exact ⟨ret_bool (by simp [Ad.mayX]; omega), below_drewN ((Below.refl _ _).alloc (Nat.le_refl _) _) _⟩
theorem mayX_is (a b : Int) (r : Bool) (h : Ad.mayX a b = r) (w : World) :
    Calls Tryz.prog 117 #[.agg #[.int .u32 a, .int .i64 b]] w fun e w' => e = .returned (.bool r) ∧ Below w.heap.size w w' := by
 rw [← h]; exact mayX_any a b w
set_option maxHeartbeats 1000000 in
theorem rmayX_any (a b g l : Int) (p : Bool) (w : World) :
    Calls Tryz.prog 103 #[.agg #[.int .u32 a, .int .i64 b, .int .i64 g, .int .i64 l, .bool p]] w fun e w' => e = .returned (.bool (Ad.rmayX (a, b, g, l, p))) ∧ Below w.heap.size w w' := by
 cases hm : Ad.mayX a b
 ·
  go_enter Tryz.func103, Tryz.ntmps103
  go_wp2_with fail
  refine (mayX_is _ _ _ hm _).mono ?_
  rintro e w1 ⟨rfl, hb1⟩
  go_wp2_with fail
  go_ret
  exact ⟨ret_bool (by simp [Ad.rmayX, hm]), bthen (balloc (brefl w) _) hb1⟩
 by_cases h1 : b ≤ g
 focus
  by_cases h2 : g ≤ l
  focus
   skip
  rotate_left
  have hd : decide (g ≤ l) = false := by simpa using h2
 rotate_left 2
 focus
  have hd : decide (b ≤ g) = false := by simpa using h1
 all_goals
  go_enter Tryz.func103, Tryz.ntmps103
  go_wp2_with fail
  refine (mayX_is _ _ _ hm _).mono ?_
  rintro e w1 ⟨rfl, hb1⟩
  obtain ⟨hc1, hf1⟩ := bcell hb1
  go_wp2_with fail
  go_ret
  exact ⟨ret_bool (by simp [Ad.rmayX, hm]; omega), bthen (balloc (brefl w) _) hb1⟩
theorem rmayX_is (a b g l : Int) (p r : Bool) (h : Ad.rmayX (a, b, g, l, p) = r) (w : World) :
    Calls Tryz.prog 103 #[.agg #[.int .u32 a, .int .i64 b, .int .i64 g, .int .i64 l, .bool p]] w fun e w' => e = .returned (.bool r) ∧ Below w.heap.size w w' := by
 rw [← h]; exact rmayX_any a b g l p w
theorem Ad.rwhyX_ok (l : List Ad.R) (h : l.length ≤ 16) (ha : ∀ j (hj : j < l.length), Ad.rmayX l[j] = true) : Ad.rwhyX l = 0 := by
 have hn : l.all Ad.rmayX = true := by
  rw [List.all_eq_true]
  intro x hx
  obtain ⟨j, hj, rfl⟩ := List.getElem_of_mem hx
  exact ha j hj
 rw [Ad.rwhyX, if_neg (by omega), if_pos hn]
theorem Ad.rwhyX_bad (l : List Ad.R) (h : l.length ≤ 16) (k : Nat) (hk : k < l.length) (ha : Ad.rmayX l[k] = false) : Ad.rwhyX l = 1 := by
 have hn : l.all Ad.rmayX = false := by
  rw [List.all_eq_false]
  exact ⟨l[k], List.getElem_mem hk, by simp [ha]⟩
 rw [Ad.rwhyX, if_neg (by omega), if_neg (by rw [hn]; decide)]
set_option maxHeartbeats 1000000 in
theorem pmayX_row (ao : Option Addr) (cap : Nat) (l : List Ad.R) (w : World) (hR : Ad.slotR w ao l) (hlen : l.length ≤ 16) :
    Calls Tryz.prog 90 #[.slice ao l.length cap] w fun e w' => e = .returned (.int .i64 (Ad.rwhyX l)) ∧ Below w.heap.size w w' := by
 have HR := hide hR
 clear hR
 have hgt : ¬ (16 : Int) < (l.length : Int) := by omega
 go_enter Tryz.func90, Tryz.ntmps90
 go_wp2_with fail
 go_loopw [10] (fun i wr => ∃ k : Nat, k ≤ l.length ∧ i = .int .i64 k ∧ (∀ j (hj : j < l.length), j < k → Ad.rmayX l[j] = true) ∧ Below w.heap.size w wr) (fun i _ => l.length - (intOf i).toNat)
 case atStart => exact ⟨0, Nat.zero_le _, rfl, fun j _ hj => absurd hj (Nat.not_lt_zero _), brefl w⟩
 case round =>
  obtain ⟨k, hk, rfl, hall, hbr⟩ := hrel
  have HALL := hide hall
  clear hall
  by_cases hlt : k < l.length
  ·
   obtain ⟨b, off, rfl, hrd⟩ := Ad.slotR_at HR.out hlt
   obtain ⟨e0, e1, e2, e3, e4⟩ := Ad.readsR_at (Ad.readsR_below hrd hbr) k hlt
   clear hrd
   generalize hxx : l[k] = x at *
   obtain ⟨a, d, g, t, p⟩ := x
   have HX := hide hxx
   clear hxx
   cases hm : Ad.rmayX (a, d, g, t, p)
   ·
    go_wp2_with fail
    refine (rmayX_is _ _ _ _ _ _ hm _).mono ?_
    rintro e w1 ⟨rfl, hb1⟩
    go_wp2_with fail
    go_ret
    exact ⟨ret_int (Ad.rwhyX_bad l hlen k hlt (by rw [HX.out]; exact hm)).symm, bthen (balloc hbr _) hb1⟩
   go_wp2_with fail
   refine (rmayX_is _ _ _ _ _ _ hm _).mono ?_
   rintro e w1 ⟨rfl, hb1⟩
   go_wp2_with fail
   refine ⟨⟨k + 1, by omega, by go_num, fun j hj hjk => ?_, bthen (balloc hbr _) hb1⟩, by simp [intOf]; omega⟩
   rcases Nat.lt_succ_iff_lt_or_eq.1 hjk with h1 | rfl
   ·
    exact HALL.out j hj h1
   rw [HX.out]; exact hm
  go_wp2_with fail
  go_ret
  exact ⟨ret_int (Ad.rwhyX_ok l hlen fun j hj => HALL.out j hj (by omega)).symm, hbr⟩
end Go.Proofs.YtnadhplhnfpeaaaGreatDoor.Ax
namespace Go.Proofs.YtnadhplhnfpeaaaGreatDoor.Cm
open Go.RowKit Go.Sort
theorem hide {p : Prop} (h : p) : Hid p := h
theorem heap_lt {w : World} {b : Nat} {o : Obj} (h : w.heap[b]? = some o) : b < w.heap.size := by
 rcases Nat.lt_or_ge b w.heap.size with h' | h'
 ·
  exact h'
 simp [Array.getElem?_eq_none h'] at h
theorem row_below {w w' : World} {B e size n : Nat} {v : Value} {xs : List Value} (h : w.ownsRow B e size v n xs) (hb : Below w.heap.size w w') : w'.ownsRow B e size v n xs := by
 obtain ⟨h1, h2⟩ := h
 refine ⟨h1, ?_⟩
 rcases h2 with h2 | ⟨g, cap, cur, hv, hB, hg, r⟩
 ·
  exact .inl h2
 exact .inr ⟨g, cap, cur, hv, hB, (hb.block g (heap_lt hg)).trans hg, r⟩
theorem ret_int {k : IntKind} {a b : Int} (h : a = b) : Ending.returned (.int k a) = .returned (.int k b) := by rw [h]
theorem ret_bool {a b : Bool} (h : a = b) : Ending.returned (.bool a) = .returned (.bool b) := by rw [h]
theorem bcell {W w1 : World} (hb : Below W.heap.size W w1) : (∀ b o, b < W.heap.size → w1.cell? ⟨b, o, none⟩ = W.cell? ⟨b, o, none⟩) ∧ (∀ b o, b < W.heap.size → w1.frozen? ⟨b, o, none⟩ = W.frozen? ⟨b, o, none⟩) :=
  ⟨fun b o h => hb.cell (p := ⟨b, o, none⟩) h, fun b o h => hb.frozen (p := ⟨b, o, none⟩) h⟩
theorem bthen {w W w1 : World} (h : Below w.heap.size w W) (hb : Below W.heap.size W w1) : Below w.heap.size w w1 := h.trans (hb.mono h.size)
theorem balloc {w W : World} (h : Below w.heap.size w W) (o : Obj) : Below w.heap.size w (W.alloc o) := h.alloc h.size o
theorem brefl (w : World) : Below w.heap.size w w := Below.refl _ _
theorem bset {w W : World} (h : Below w.heap.size w W) {p : Addr} (hp : w.heap.size ≤ p.block) (u : Value) : Below w.heap.size w (W.setCell p u) := h.setCell hp u
def Grows (w w' : World) : Prop := ∃ q os, w' = grow (w.drewN q) os
theorem Grows.refl (w : World) : Grows w w := ⟨0, #[], by rw [grow_empty]; rfl⟩
theorem Grows.trans {a b c : World} (h : Grows a b) (k : Grows b c) : Grows a c := by
 obtain ⟨q, os, rfl⟩ := h
 obtain ⟨q', os', rfl⟩ := k
 refine ⟨q + q', os ++ os', ?_⟩
 rw [← grow_grow, ← World.drewN_drewN]
 rfl
theorem Grows.alloc {a b : World} (h : Grows a b) (o : Obj) : Grows a (b.alloc o) := h.trans ⟨0, #[o], rfl⟩
theorem Grows.below {a b : World} (h : Grows a b) : Below a.heap.size a b := by
 obtain ⟨q, os, rfl⟩ := h
 exact ⟨rfl, rfl, rfl, by simp [grow], fun k hk => by simp [grow, Array.getElem?_append, hk]⟩
def Two (w : World) (n : Nat) (a b : Int) : Prop := w.cell? ⟨n, 0, none⟩ = some (.int .i64 a) ∧ w.cell? ⟨n, 1, none⟩ = some (.int .i64 b) ∧ n < w.heap.size ∧ n < w.heap.size + 1
theorem two_of {W : World} {n : Nat} {a b : Int} (h0 : W.cell? ⟨n, 0, none⟩ = some (.int .i64 a)) (h1 : W.cell? ⟨n, 1, none⟩ = some (.int .i64 b)) : Two W n a b :=
  ⟨h0, h1, block_lt_of_cell h0, Nat.lt_succ_of_lt (block_lt_of_cell h0)⟩
theorem two_below {W w1 : World} {n : Nat} {a b : Int} (hb : Below W.heap.size W w1) (h : Two W n a b) : Two w1 n a b :=
  two_of ((hb.cell (p := ⟨n, 0, none⟩) h.2.2.1).trans h.1) ((hb.cell (p := ⟨n, 1, none⟩) h.2.2.1).trans h.2.1)
theorem two_new (W : World) (a b : Int) (t : TypeId) : Two (W.alloc (.cells #[.int .i64 a, .int .i64 b] t)) W.heap.size a b := two_of (by simp) (by simp)
abbrev Co.C : Type := Int × Int
theorem row_slice {w : World} {B e size n : Nat} {v : Value} {xs : List Value} (h : w.ownsRow B e size v n xs) : ∃ ao cap, v = .slice ao n cap := by
 rcases h.2 with ⟨rfl, rfl⟩ | ⟨g, cap, cur, rfl, _⟩
 ·
  exact ⟨none, 0, rfl⟩
 exact ⟨_, cap, rfl⟩
end Go.Proofs.YtnadhplhnfpeaaaGreatDoor.Cm
namespace Go.Proofs.YtnadhplhnfpeaaaGreatDoor.Cm
open Go.RowKit
def Ad.digs (l : List UInt8) : Bool := l.all fun c => decide (48 ≤ c.toNat) && decide (c.toNat ≤ 57)
def Ad.zeroAhead (l : List UInt8) : Bool := decide (1 < l.length) && (l.head? == some 48)
def Ad.isNum (l : List UInt8) : Bool := !l.isEmpty && !Ad.zeroAhead l && Ad.digs l
def Ad.num (l : List UInt8) : Int := l.foldl (fun n c => 10 * n + ((c.toNat : Int) - 48)) 0
theorem Ad.size_list (s : ByteArray) : s.data.toList.length = s.size := by simp
theorem Ad.get_list (s : ByteArray) (k : Nat) (h : k < s.size) : s.data.toList[k]'(by simpa using h) = s[k] := rfl
theorem Ad.empty_iff (s : ByteArray) : s.toList.isEmpty = decide (s.size = 0) := by
 rw [ByteArray.toList_eq]
 obtain ⟨⟨l⟩⟩ := s
 cases l <;> simp [ByteArray.size]
def Ad.dig (c : UInt8) : Bool := decide (48 ≤ c.toNat) && decide (c.toNat ≤ 57)
theorem Ad.digs_iff (s : ByteArray) : Ad.digs s.data.toList = true ↔ ∀ k (h : k < s.size), Ad.dig s[k] = true := by
 unfold Ad.digs
 rw [List.all_eq_true]
 constructor
 ·
  intro h k hk
  exact h s[k] (by rw [← Ad.get_list s k hk]; exact List.getElem_mem _)
 intro h x hx
 obtain ⟨k, hk, rfl⟩ := List.getElem_of_mem hx
 exact h k (by simpa using hk)
theorem Ad.head_iff (s : ByteArray) (h : 0 < s.size) : s.data.toList.head? = some s[0] := by
 rw [← Ad.get_list s 0 h, List.head?_eq_getElem?]
 simp
set_option maxHeartbeats 1000000 in
theorem isNumber_loop (s : ByteArray) (w : World) (hs : s.size ≤ maxLen) (h0 : 0 < s.size) (hz : Ad.zeroAhead s.data.toList = false) :
    Calls Tryz.prog 138 #[.string s] w fun e w' => e = .returned (.bool (Ad.digs s.data.toList)) ∧ w' = w := by
 unfold maxLen at hs
 have he : s.toList.isEmpty = false := by rw [Ad.empty_iff]; exact decide_eq_false (by omega)
 have hc : (s[0].toNat : Int) = 48 → ¬ (1 : Int) < (s.size : Int) := by
  intro h48 h1
  unfold Ad.zeroAhead at hz
  rw [Ad.head_iff s h0] at hz
  have h2 : s[0] = 48 := UInt8.toNat_inj.1 (by show s[0].toNat = 48; omega)
  rw [h2] at hz
  simp at hz
  omega
 have HZ := hide hc
 clear hc hz
 by_cases h48 : (s[0].toNat : Int) = 48
 all_goals
  first | (have h1 := HZ.out h48) | skip
  go_enter Tryz.func138, Tryz.ntmps138
  go_wp2
  go_loop [18] (fun t => ∃ k : Nat, k ≤ s.size ∧ t = .int .i64 k ∧ ∀ j (h : j < s.size), j < k → Ad.dig s[j] = true) (fun t => s.size - (intOf t).toNat)
  case atStart => exact ⟨0, Nat.zero_le _, rfl, fun j _ h => absurd h (Nat.not_lt_zero _)⟩
  case round =>
   obtain ⟨k, hk, rfl, hall⟩ := hrel
   have HALL := hide hall
   clear hall
   by_cases hlt : k < s.size
   ·
    by_cases hd1 : (s[k].toNat : Int) < 48
    ·
     go_wp2
     go_ret
     refine ⟨ret_bool ?_, rfl⟩
     cases hh : Ad.digs s.data.toList
     ·
      rfl
     have := (Ad.digs_iff s).1 hh k hlt
     simp [Ad.dig] at this
     omega
    by_cases hd2 : (57 : Int) < (s[k].toNat : Int)
    ·
     go_wp2
     go_ret
     refine ⟨ret_bool ?_, rfl⟩
     cases hh : Ad.digs s.data.toList
     ·
      rfl
     have := (Ad.digs_iff s).1 hh k hlt
     simp [Ad.dig] at this
     omega
    go_wp2
    go_round
    case rel =>
     refine ⟨k + 1, by omega, by go_num, fun j hj hjk => ?_⟩
     rcases Nat.lt_succ_iff_lt_or_eq.1 hjk with h | rfl
     ·
      exact HALL.out j hj h
     simp [Ad.dig]; omega
    case measure => simp [intOf]; omega
   go_wp2
   go_ret
   refine ⟨ret_bool ?_, rfl⟩
   symm
   exact (Ad.digs_iff s).2 fun j hj => HALL.out j hj (by omega)
set_option maxHeartbeats 1000000 in
theorem isNumber_any (s : ByteArray) (w : World) (hs : s.size ≤ maxLen) :
    Calls Tryz.prog 138 #[.string s] w fun e w' => e = .returned (.bool (Ad.isNum s.data.toList)) ∧ w' = w := by
 by_cases h0 : s.size = 0
 ·
  have he : s.toList.isEmpty = true := by rw [Ad.empty_iff]; simp [h0]
  have hl : s.data.toList = [] := List.length_eq_zero_iff.1 (by rw [Ad.size_list]; exact h0)
  have HN : Hid (Ad.isNum s.data.toList = false) := by show _ = _; rw [hl]; rfl
  clear hl h0
  go_enter Tryz.func138, Tryz.ntmps138
  go_wp2
  go_ret
  exact ⟨ret_bool HN.out.symm, rfl⟩
 have h0' : 0 < s.size := by omega
 have hne : s.data.toList.isEmpty = false := by
  cases hh : s.data.toList with
  | nil => have := Ad.size_list s; rw [hh] at this; simp at this; omega
  | cons a b => rfl
 cases hz : Ad.zeroAhead s.data.toList
 ·
  have HN : Hid (Ad.isNum s.data.toList = Ad.digs s.data.toList) := by show _ = _; unfold Ad.isNum; rw [hne, hz]; rfl
  refine (isNumber_loop s w hs h0' hz).mono ?_
  rintro e w' ⟨rfl, rfl⟩
  exact ⟨ret_bool HN.out.symm, rfl⟩
 have HN : Hid (Ad.isNum s.data.toList = false) := by show _ = _; unfold Ad.isNum; rw [hz]; simp
 unfold Ad.zeroAhead at hz
 rw [Ad.head_iff s h0'] at hz
 simp at hz
 have h1 : (1 : Int) < (s.size : Int) := by have := hz.1; omega
 have h48 : (s[0].toNat : Int) = 48 := by rw [hz.2]; rfl
 have he : s.toList.isEmpty = false := by rw [Ad.empty_iff]; exact decide_eq_false (by omega)
 clear hz hne h0
 unfold maxLen at hs
 go_enter Tryz.func138, Tryz.ntmps138
 go_wp2
 go_ret
 exact ⟨ret_bool HN.out.symm, rfl⟩
end Go.Proofs.YtnadhplhnfpeaaaGreatDoor.Cm
namespace Go.Proofs.YtnadhplhnfpeaaaGreatDoor.Cm
open Go.RowKit Go.Sort
def Co.may (c : Co.C) : Bool := decide (1 ≤ c.1 ∧ c.1 ≤ 65535 ∧ 0 ≤ c.2 ∧ c.2 ≤ 65535)
theorem may_any (a b : Int) (w : World) : Calls Tryz.prog 140 #[.agg #[.int .i64 a, .int .i64 b]] w fun e w' => e = .returned (.bool (Co.may (a, b))) ∧ Grows w w' := by
 by_cases h0 : 1 ≤ a
 ·
  have h0d : decide (1 ≤ a) = true := by simpa using h0
  by_cases h1 : a ≤ 65535
  ·
   have h1d : decide (a ≤ 65535) = true := by simpa using h1
   by_cases h2 : 0 ≤ b
   ·
    have h2d : decide (0 ≤ b) = true := by simpa using h2
    by_cases h3 : b ≤ 65535
    ·
     have h3d : decide (b ≤ 65535) = true := by simpa using h3
     go_enter Tryz.func140, Tryz.ntmps140
     go_wp2_with fail
     go_ret
     exact ⟨ret_bool (by simp [Co.may]; omega), (Grows.refl w).alloc _⟩
    have h3d : decide (b ≤ 65535) = false := by simpa using h3
    go_enter Tryz.func140, Tryz.ntmps140
    go_wp2_with fail
    go_ret
    exact ⟨ret_bool (by simp [Co.may]; omega), (Grows.refl w).alloc _⟩
   have h2d : decide (0 ≤ b) = false := by simpa using h2
   go_enter Tryz.func140, Tryz.ntmps140
   go_wp2_with fail
   go_ret
   exact ⟨ret_bool (by simp [Co.may]; omega), (Grows.refl w).alloc _⟩
  have h1d : decide (a ≤ 65535) = false := by simpa using h1
  go_enter Tryz.func140, Tryz.ntmps140
  go_wp2_with fail
  go_ret
  exact ⟨ret_bool (by simp [Co.may]; omega), (Grows.refl w).alloc _⟩
 have h0d : decide (1 ≤ a) = false := by simpa using h0
 go_enter Tryz.func140, Tryz.ntmps140
 go_wp2_with fail
 go_ret
 exact ⟨ret_bool (by simp [Co.may]; omega), (Grows.refl w).alloc _⟩
theorem may_is (a b : Int) (r : Bool) (h : Co.may (a, b) = r) (w : World) : Calls Tryz.prog 140 #[.agg #[.int .i64 a, .int .i64 b]] w fun e w' => e = .returned (.bool r) ∧ Below w.heap.size w w' := by
 subst h
 exact (may_any a b w).mono fun e w' ⟨h1, h2⟩ => ⟨h1, h2.below⟩
theorem dec_step (u d : Nat) (hd : d < 10) (hu : 0 < u) : Lib.decDigits (10 * u + d) = Lib.decDigits u ++ [UInt8.ofNat (48 + d)] := by
 rw [Lib.decDigits, dif_neg (by omega)]
 have e1 : (10 * u + d) / 10 = u := by omega
 have e2 : (10 * u + d) % 10 = d := by omega
 rw [e1, e2]
end Go.Proofs.YtnadhplhnfpeaaaGreatDoor.Cm
namespace Go.Proofs.YtnadhplhnfpeaaaGreatDoor.Cm
open Go.RowKit
theorem Ad.num_snoc (l : List UInt8) (c : UInt8) : Ad.num (l ++ [c]) = 10 * Ad.num l + ((c.toNat : Int) - 48) := by
 unfold Ad.num; rw [List.foldl_append]; rfl
theorem Ad.digs_snoc (l : List UInt8) (c : UInt8) : Ad.digs (l ++ [c]) = (Ad.digs l && Ad.dig c) := by
 unfold Ad.digs Ad.dig; simp [List.all_append]
theorem Ad.take_snoc (s : ByteArray) (k : Nat) (h : k < s.size) : s.data.toList.take (k + 1) = s.data.toList.take k ++ [s[k]] := by
 rw [List.take_succ_eq_append_getElem (by simpa using h)]; rfl
theorem Ad.dig_bd (c : UInt8) (h : Ad.dig c = true) : (48 : Int) ≤ (c.toNat : Int) ∧ (c.toNat : Int) ≤ 57 := by
 simp [Ad.dig] at h
 omega
theorem Ad.num_bd (l : List UInt8) (h : Ad.digs l = true) : 0 ≤ Ad.num l ∧ Ad.num l < 10 ^ l.length := by
 have key : ∀ (n : Nat) (l : List UInt8), l.length = n → Ad.digs l = true → 0 ≤ Ad.num l ∧ Ad.num l < 10 ^ l.length := by
  intro n
  induction n with
  | zero =>
   intro l hl _
   obtain rfl := List.length_eq_zero_iff.1 hl
   simp [Ad.num]
  | succ n ih =>
   intro l hl hd
   obtain ⟨m, c, rfl⟩ : ∃ m c, l = m ++ [c] := ⟨l.dropLast, l.getLast (by intro h; rw [h] at hl; simp at hl), (List.dropLast_concat_getLast _).symm⟩
   rw [Ad.digs_snoc, Bool.and_eq_true] at hd
   have := ih m (by simpa using hl) hd.1
   have hc := Ad.dig_bd c hd.2
   rw [Ad.num_snoc, List.length_append]
   have hp : (10 : Int) ^ (m.length + [c].length) = 10 ^ m.length * 10 := Int.pow_succ 10 m.length
   rw [hp]
   omega
 exact key l.length l rfl h
theorem Ad.digs_take (s : ByteArray) (k : Nat) (h : Ad.digs s.data.toList = true) : Ad.digs (s.data.toList.take k) = true := by
 unfold Ad.digs at *
 rw [List.all_eq_true] at *
 exact fun x hx => h x (List.mem_of_mem_take hx)
def Ad.cutL : List UInt8 → UInt8 → Option (List UInt8 × List UInt8)
  | [], _ => none
  | x :: xs, c => if x = c then some ([], xs) else (Ad.cutL xs c).map fun p => (x :: p.1, p.2)
theorem Ad.cutL_some : ∀ (l : List UInt8) (c : UInt8) (t r : List UInt8), Ad.cutL l c = some (t, r) → l = t ++ c :: r ∧ c ∉ t
  | [], c, t, r, h => by simp [Ad.cutL] at h
  | x :: xs, c, t, r, h => by
    unfold Ad.cutL at h
    by_cases hx : x = c
    · rw [if_pos hx] at h
      simp at h
      obtain ⟨rfl, rfl⟩ := h
      exact ⟨by simp [hx], by simp⟩
    · rw [if_neg hx] at h
      cases hc : Ad.cutL xs c with
      | none => rw [hc] at h; simp at h
      | some p =>
        rw [hc] at h
        simp at h
        obtain ⟨rfl, rfl⟩ := h
        have := Ad.cutL_some xs c p.1 p.2 hc
        refine ⟨by rw [List.cons_append, ← this.1], ?_⟩
        simp
        exact ⟨fun e => hx e.symm, this.2⟩
theorem Ad.cutL_app : ∀ (t : List UInt8) (c : UInt8) (r : List UInt8), c ∉ t → Ad.cutL (t ++ c :: r) c = some (t, r)
  | [], c, r, _ => by simp [Ad.cutL]
  | x :: t, c, r, h => by
    simp at h
    rw [List.cons_append, Ad.cutL, if_neg (fun e => h.1 e.symm), Ad.cutL_app t c r h.2]
    rfl
theorem Ad.cutL_none (l : List UInt8) (c : UInt8) (h : Lib.indexByte l c < 0) : Ad.cutL l c = none := by
 cases hc : Ad.cutL l c with
 | none => rfl
 | some p =>
  exfalso
  have h1 := Ad.cutL_some l c p.1 p.2 hc
  have h2 := Lib.indexByte_ge l c
  have h3 : Lib.indexByte l c = -1 := by omega
  have := Lib.indexByte_none h3 p.1.length
  rw [h1.1] at this
  simp at this
theorem Ad.cutL_at (s : ByteArray) (c : UInt8) (o : Nat) (h : Lib.indexByte s.data.toList c = (o : Int)) (hlt : o < s.size) :
    Ad.cutL s.data.toList c = some ((s.extract 0 o).data.toList, (s.extract (o + 1) s.size).data.toList) := by
 obtain ⟨h1, h2⟩ := Lib.indexByte_some h
 have e1 : (s.extract 0 o).data.toList = s.data.toList.take o := by rw [Lib.extract_data]; simp
 have e2 : (s.extract (o + 1) s.size).data.toList = s.data.toList.drop (o + 1) := Lib.extract_to_end s (o + 1)
 have e3 : s.data.toList = s.data.toList.take o ++ c :: s.data.toList.drop (o + 1) := by
  have hl : o < s.data.toList.length := by simpa using hlt
  have h3 : s.data.toList[o]'hl = c := by
   rw [List.getElem?_eq_getElem hl] at h1
   exact Option.some.inj h1
  rw [← h3, ← List.drop_eq_getElem_cons hl, List.take_append_drop]
 rw [e1, e2]
 conv => lhs; rw [e3]
 refine Ad.cutL_app _ _ _ ?_
 intro hm
 obtain ⟨k, hk, he⟩ := List.getElem_of_mem hm
 have hk' : k < o := by rw [List.length_take] at hk; omega
 refine h2 k hk' ?_
 rw [List.getElem_take] at he
 rw [← he]
 simp
theorem Ad.dec_step (m d : Nat) (hm : 1 ≤ m) (hd : d < 10) : Lib.decDigits (10 * m + d) = Lib.decDigits m ++ [UInt8.ofNat (48 + d)] := _root_.Go.Proofs.YtnadhplhnfpeaaaGreatDoor.Cm.dec_step m d hd (by omega)
theorem Ad.snoc_cases (l : List UInt8) (h : l ≠ []) : ∃ l' c, l = l' ++ [c] := ⟨l.dropLast, l.getLast h, (List.dropLast_concat_getLast h).symm⟩
theorem Ad.dec_num : ∀ (n : Nat) (l : List UInt8), l.length = n → l ≠ [] → Ad.digs l = true → (l.head? ≠ some 48 ∨ n = 1) → Lib.decDigits (Ad.num l).toNat = l ∧ (l.head? ≠ some 48 → 1 ≤ Ad.num l)
  | 0, l, hl, h0, _, _ => absurd (List.eq_nil_of_length_eq_zero hl) h0
  | n + 1, l, hl, h0, hd, hz => by
    obtain ⟨l', c, rfl⟩ := Ad.snoc_cases l h0
    rw [Ad.digs_snoc, Bool.and_eq_true] at hd
    obtain ⟨hd1, hd2⟩ := hd
    have hc := Ad.dig_bd c hd2
    have ec : UInt8.ofNat (48 + ((c.toNat : Int) - 48).toNat) = c := by
      have : 48 + ((c.toNat : Int) - 48).toNat = c.toNat := by omega
      rw [this]
      simp
    rw [Ad.num_snoc]
    by_cases hn : l' = []
    · subst hn
      have e : (10 * Ad.num [] + ((c.toNat : Int) - 48)) = (c.toNat : Int) - 48 := by simp [Ad.num]
      rw [e]
      refine ⟨?_, ?_⟩
      · rw [Lib.decDigits_one (by omega), ec]
        rfl
      · intro hh
        have : c ≠ 48 := by intro e'; subst e'; exact hh rfl
        have h48 : c.toNat ≠ 48 := by
          intro e'
          apply this
          have := UInt8.toNat_inj.1 (show c.toNat = (48 : UInt8).toNat from e')
          exact this
        omega
    · have hl' : l'.length = n := by simp at hl; exact hl
      have hn1 : 1 ≤ n := by
        cases l' with
        | nil => exact absurd rfl hn
        | cons _ _ => simp at hl'; omega
      have hhd : (l' ++ [c]).head? = l'.head? := by
        cases l' with
        | nil => exact absurd rfl hn
        | cons _ _ => rfl
      have hz' : l'.head? ≠ some 48 := by
        rcases hz with hz | hz
        · rw [hhd] at hz; exact hz
        · omega
      obtain ⟨i1, i2⟩ := Ad.dec_num n l' hl' hn hd1 (.inl hz')
      have i3 := i2 hz'
      refine ⟨?_, fun _ => by omega⟩
      have e : (10 * Ad.num l' + ((c.toNat : Int) - 48)).toNat = 10 * (Ad.num l').toNat + ((c.toNat : Int) - 48).toNat := by omega
      rw [e, Ad.dec_step _ _ (by omega) (by omega), i1, ec]
theorem Ad.itoa_num (l : List UInt8) (h : Ad.isNum l = true) : Lib.itoa (Ad.num l) = l := by
 unfold Ad.isNum at h
 simp only [Bool.and_eq_true, Bool.not_eq_true'] at h
 obtain ⟨⟨h1, h2⟩, h3⟩ := h
 have h0 : l ≠ [] := by intro e; subst e; simp at h1
 have hb := (Ad.num_bd l h3).1
 unfold Lib.itoa
 rw [if_neg (by omega)]
 refine (Ad.dec_num l.length l rfl h0 h3 ?_).1
 unfold Ad.zeroAhead at h2
 rw [Bool.and_eq_false_iff] at h2
 rcases h2 with h2 | h2
 ·
  right
  have := of_decide_eq_false h2
  cases l with
  | nil => exact absurd rfl h0
  | cons _ t => simp at this ⊢; omega
 left
 simpa using h2
set_option maxHeartbeats 1000000 in
theorem number_is (s : ByteArray) (n : Int) (hn : Ad.num s.data.toList = n) (w : World) (hs5 : s.size ≤ 5) (hd : Ad.digs s.data.toList = true) :
    Calls Tryz.prog 139 #[.string s] w fun e w' => e = .returned (.int .i64 n) ∧ w' = w := by
 have HD := hide hd
 have HN := hide hn
 clear hd hn
 go_enter Tryz.func139, Tryz.ntmps139
 go_wp2
 go_loop [3, 7] (fun n t => ∃ k : Nat, k ≤ s.size ∧ t = .int .i64 k ∧ n = .int .i64 (Ad.num (s.data.toList.take k))) (fun _ t => s.size - (intOf t).toNat)
 case atStart => exact ⟨0, Nat.zero_le _, rfl, by simp [Ad.num]⟩
 case round =>
  obtain ⟨k, hk, rfl, rfl⟩ := hrel
  have hbd := Ad.num_bd (s.data.toList.take k) (Ad.digs_take s k HD.out)
  have hlen : (s.data.toList.take k).length = k := by rw [List.length_take, Ad.size_list]; omega
  rw [hlen] at hbd
  have hp : (10 : Int) ^ k ≤ 100000 := by
   have : (10 : Nat) ^ k ≤ 10 ^ 5 := Nat.pow_le_pow_right (by decide) (by omega)
   have h2 : ((10 ^ k : Nat) : Int) ≤ 100000 := by omega
   simpa using h2
  have hn0 : 0 ≤ Ad.num (s.data.toList.take k) := hbd.1
  have hn1 : Ad.num (s.data.toList.take k) ≤ 99999 := by omega
  clear hbd hlen hp
  by_cases hlt : k < s.size
  ·
   have hb := Ad.dig_bd s[k] ((Ad.digs_iff s).1 HD.out k hlt)
   obtain ⟨hb1, hb2⟩ := hb
   have HS : Hid (Ad.num (s.data.toList.take (k + 1)) = 10 * Ad.num (s.data.toList.take k) + ((s[k].toNat : Int) - 48)) := by
    show _ = _
    rw [Ad.take_snoc s k hlt, Ad.num_snoc]
   generalize Ad.num (s.data.toList.take k) = z at *
   go_wp2
   go_round
   case rel => exact ⟨k + 1, by omega, by go_num, by rw [HS.out]⟩
   case measure => simp [intOf]; omega
  have hk' : k = s.size := by omega
  subst hk'
  have ht : s.data.toList.take s.size = s.data.toList := List.take_of_length_le (by rw [Ad.size_list]; omega)
  rw [ht, HN.out] at hn0 hn1 ⊢
  go_wp2
  go_ret
  exact ⟨rfl, rfl⟩
def CutGood (s : ByteArray) (w : World) (e : Ending) (w' : World) : Prop :=
  ∃ a b f, e = .returned (.tuple #[.string a, .string b, .bool f]) ∧ ((Ad.cutL s.data.toList 58 = none ∧ a = s ∧ b = ⟨#[]⟩) ∨ Ad.cutL s.data.toList 58 = some (a.data.toList, b.data.toList)) ∧ a.size ≤ s.size ∧ b.size ≤ s.size ∧ Below w.heap.size w w'
set_option maxHeartbeats 2000000 in
theorem cut0_is (s : ByteArray) (w : World) (hs : s.size ≤ 2000) : Calls Tryz.prog 149 #[.string s, .string ⟨#[58]⟩] w (CutGood s w) := by
 have CI := hide (Tryz.stringslite_Index_one s 58 w)
 have hnone := hide (Ad.cutL_none s.data.toList 58)
 have hat := hide (Ad.cutL_at s 58)
 have hsome : Hid (∀ k : Nat, Lib.indexByte s.data.toList 58 = (k : Int) → k < s.size) := by
  show ∀ k : Nat, _
  intro k hk
  have := (List.getElem?_eq_some_iff.1 (Lib.indexByte_some hk).1).1
  simpa using this
 obtain ⟨o, ho⟩ : ∃ o, Lib.indexByte s.data.toList 58 = o := ⟨_, rfl⟩
 rw [ho] at CI hnone hat hsome
 clear ho
 by_cases h0 : 0 ≤ o
 ·
  obtain ⟨k, rfl⟩ := Int.eq_ofNat_of_zero_le h0
  have hk := hsome.out k rfl
  have HC := hide (hat.out k rfl hk)
  have hk1 : ¬ (s.size : Int) < (k : Int) := by omega
  have hk2 : ¬ (s.size : Int) < (k : Int) + 1 := by omega
  clear hat hnone hsome h0
  go_enter Tryz.func149, Tryz.ntmps149
  go_wp2_with fail
  refine CI.out.mono ?_
  rintro e w1 ⟨rfl, rfl⟩
  go_wp2_with fail
  refine wp_region_quiet_below (by kernel_rfl) (by kernel_rfl) ?_
  repeat (go_big_quiet_step (fail))
  refine wpQuiet_nil ?_
  rintro _ ⟨⟨dd, os⟩, rfl⟩
  have hb1 := below_regrown w1 dd os
  generalize Sort.grow (redrawn w1 dd) os = w2 at hb1
  have B1 := hide hb1
  clear hb1
  go_wp2_with fail
  refine bodyPost_ret (v := .tuple #[.string (s.extract 0 k), .string (s.extract (k + 1) s.size), .bool true]) (by simp [results, Tryz.results149, go_sem]) rfl ⟨_, _, _, rfl, .inr HC.out, ?_, ?_, B1.out⟩
  ·
   simp; omega
  simp
 have HC := hide (hnone.out (by omega))
 clear hat hnone hsome
 go_enter Tryz.func149, Tryz.ntmps149
 go_wp2_with fail
 refine CI.out.mono ?_
 rintro e w1 ⟨rfl, rfl⟩
 go_wp2_with fail
 exact bodyPost_ret (v := .tuple #[.string s, .string ⟨#[]⟩, .bool false]) (by simp [results, Tryz.results149, go_sem]) rfl ⟨_, _, _, rfl, .inl ⟨HC.out, rfl, rfl⟩, Nat.le_refl _, Nat.zero_le _, brefl _⟩
theorem cut_is (s : ByteArray) (w : World) (hs : s.size ≤ 2000) : Calls Tryz.prog 137 #[.string s, .string ⟨#[58]⟩] w (CutGood s w) := by
 go_enter Tryz.func137, Tryz.ntmps137
 go_wp2_with fail
 refine (cut0_is s w hs).mono ?_
 rintro e w1 ⟨a, b, f, rfl, hc, ha, hb, hb1⟩
 have HC := hide hc
 clear hc
 go_wp2_with fail
 exact bodyPost_ret (v := .tuple #[.string a, .string b, .bool f]) (by simp [results, Tryz.results137, go_sem]) rfl ⟨a, b, f, rfl, HC.out, ha, hb, hb1⟩
end Go.Proofs.YtnadhplhnfpeaaaGreatDoor.Cm
namespace Go.Proofs.YtnadhplhnfpeaaaGreatDoor.Cm
open Go.RowKit Go.Sort
def Co.nE : List UInt8 := [110, 111, 45, 101, 120, 112, 111, 114, 116]
def Co.nA : List UInt8 := [110, 111, 45, 97, 100, 118, 101, 114, 116, 105, 115, 101]
def Co.lo : List UInt8 := [108, 111, 99, 97, 108]
theorem noExport_is (w : World) : Calls Tryz.prog 134 #[] w fun e w' => e = .returned (.agg #[.int .i64 65535, .int .i64 65281]) ∧ Below w.heap.size w w' := by
 go_enter Tryz.func134, Tryz.ntmps134
 go_wp2_with fail
 exact bodyPost_ret (v := .agg #[.int .i64 65535, .int .i64 65281]) (by simp [results, Tryz.results134, go_sem]) rfl ⟨rfl, balloc (brefl w) _⟩
theorem noAdv_is (w : World) : Calls Tryz.prog 135 #[] w fun e w' => e = .returned (.agg #[.int .i64 65535, .int .i64 65282]) ∧ Below w.heap.size w w' := by
 go_enter Tryz.func135, Tryz.ntmps135
 go_wp2_with fail
 exact bodyPost_ret (v := .agg #[.int .i64 65535, .int .i64 65282]) (by simp [results, Tryz.results135, go_sem]) rfl ⟨rfl, balloc (brefl w) _⟩
theorem local_is (w : World) : Calls Tryz.prog 136 #[] w fun e w' => e = .returned (.agg #[.int .i64 65535, .int .i64 65283]) ∧ Below w.heap.size w w' := by
 go_enter Tryz.func136, Tryz.ntmps136
 go_wp2_with fail
 exact bodyPost_ret (v := .agg #[.int .i64 65535, .int .i64 65283]) (by simp [results, Tryz.results136, go_sem]) rfl ⟨rfl, balloc (brefl w) _⟩
theorem Co.may_iff (a b : Int) : Co.may (a, b) = true ↔ 1 ≤ a ∧ a ≤ 65535 ∧ 0 ≤ b ∧ b ≤ 65535 := by simp [Co.may]
set_option maxHeartbeats 2000000 in
theorem parse_nE (w : World) : Calls Tryz.prog 119 #[.string ⟨#[110, 111, 45, 101, 120, 112, 111, 114, 116]⟩] w fun e w' => e = .returned (.tuple #[.agg #[.int .i64 65535, .int .i64 65281], .int .i64 0]) ∧ Below w.heap.size w w' := by
 go_enter Tryz.func119, Tryz.ntmps119
 go_wp2_with fail
 have TB := hide (two_new w 0 0 73)
 have hfr : (w.alloc (.cells #[.int .i64 0, .int .i64 0] 73)).frozen? ⟨w.heap.size, 0, none⟩ = false := by simp [go_sem]
 have hfr2 : (w.alloc (.cells #[.int .i64 0, .int .i64 0] 73)).frozen? ⟨w.heap.size, 1, none⟩ = false := by simp [go_sem]
 have B0 := hide (balloc (brefl w) (.cells #[.int .i64 0, .int .i64 0] 73))
 have HG : Hid (w.heap.size ≤ w.heap.size) := Nat.le_refl _
 refine (noExport_is _).mono ?_
 rintro e w1 ⟨rfl, hb1⟩
 have f0 := (hb1.frozen (p := ⟨w.heap.size, 0, none⟩) TB.out.2.2.1).trans hfr
 have f1 := (hb1.frozen (p := ⟨w.heap.size, 1, none⟩) TB.out.2.2.1).trans hfr2
 obtain ⟨p0, p1, p2, p3⟩ := two_below hb1 TB.out
 have B1 := hide (bthen B0.out hb1)
 clear hb1 hfr hfr2
 go_wp2_with fail
 exact bodyPost_ret (v := .tuple #[.agg #[.int .i64 65535, .int .i64 65281], .int .i64 0]) (by simp [results, Tryz.results119, go_sem, p0, p1]) rfl ⟨rfl, bset (bset B1.out (p := ⟨w.heap.size, 0, none⟩) (Nat.le_refl _) _) (p := ⟨w.heap.size, 1, none⟩) (Nat.le_refl _) _⟩
end Go.Proofs.YtnadhplhnfpeaaaGreatDoor.Cm
