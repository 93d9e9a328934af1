/- No two things of one key. -/
import Derived.Test.YtpmmhmgojjlniaaGreatDoorO03
import Derived.Laws.BitsAllLaws
import Derived.Test.YtpmmhmgojjlniaaGreatDoorProg
import Derived.WalkKit
import Derived.WalkSpells
import Derived.WalkLawsBesides
import Derived.Deep.QuietTactic
import Derived.BigQuiet
import Derived.Lib.QuietBelow
import Derived.Deep.Cut
import Derived.Lib.Builder
namespace Go.Proofs.YtpmmhmgojjlniaaGreatDoor
open Go.RowKit Go.Sort

/-- No two of a few have one key. -/
def uniq {α κ : Type} [DecidableEq κ] (key : α → κ) : List α → Bool
  | [] => true
  | a :: l => !(l.any fun b => decide (key b = key a)) && uniq key l
/-- The like, as it is looked for from the front. -/
def uniqTo {α κ : Type} [DecidableEq κ] (key : α → κ) (l : List α) (k : Nat) : Prop := ∀ i (h : i < l.length), i < k → (l.take i).any (fun b => decide (key l[i] = key b)) = false
theorem uniq_iff {α κ : Type} [DecidableEq κ] (key : α → κ) (l : List α) : uniq key l = true ↔ (l.map key).Nodup := by
  induction l with
  | nil => simp [uniq]
  | cons a l ih =>
    simp only [uniq, Bool.and_eq_true, Bool.not_eq_true', List.map_cons, List.nodup_cons, ih]
    refine and_congr_left fun _ => ?_
    simp
theorem nodup_take {κ : Type} (l : List κ) : l.Nodup ↔ ∀ i (h : i < l.length), l[i] ∉ l.take i := by
  unfold List.Nodup
  rw [List.pairwise_iff_getElem]
  refine ⟨fun H i h hm => ?_, fun H i j hi hj hij e => ?_⟩
  · obtain ⟨j, hj, he⟩ := List.mem_iff_getElem.1 hm
    rw [List.length_take] at hj
    rw [List.getElem_take] at he
    exact H j i (by omega) h (by omega) he
  · refine H j hj (List.mem_iff_getElem.2 ⟨i, by rw [List.length_take]; omega, ?_⟩)
    rw [List.getElem_take]
    exact e
theorem uniq_all {α κ : Type} [DecidableEq κ] (key : α → κ) (l : List α) (h : uniqTo key l l.length) : uniq key l = true := by
  rw [uniq_iff, nodup_take]
  intro i hi
  rw [List.length_map] at hi
  have h1 := h i hi hi
  rw [List.getElem_map, ← List.map_take]
  intro hm
  obtain ⟨b, hb, he⟩ := List.mem_map.1 hm
  have : (l.take i).any (fun b => decide (key l[i] = key b)) = true := List.any_eq_true.2 ⟨b, hb, by simp [he]⟩
  rw [h1] at this
  cases this
theorem uniq_not {α κ : Type} [DecidableEq κ] (key : α → κ) (l : List α) (i : Nat) (hi : i < l.length) (h : (l.take i).any (fun b => decide (key l[i] = key b)) = true) : uniq key l = false := by
  rw [← Bool.not_eq_true, uniq_iff, nodup_take]
  intro H
  obtain ⟨b, hb, he⟩ := List.any_eq_true.1 h
  refine H i (by rw [List.length_map]; exact hi) ?_
  rw [List.getElem_map, ← List.map_take]
  exact List.mem_map.2 ⟨b, hb, by simpa using Eq.symm (of_decide_eq_true he)⟩
theorem grown_below2 {W0 wr : World} {n : Nat} (h : Below n W0 wr) (hn : n ≤ wr.heap.size) (d : Nat) (os : Array Obj) : Below n W0 (Sort.grow (redrawn wr d) os) := h.trans ⟨(below_regrown wr d os).os, (below_regrown wr d os).tape, (below_regrown wr d os).output, (below_regrown wr d os).size, fun k hk => (below_regrown wr d os).block k (Nat.lt_of_lt_of_le hk hn)⟩
theorem Rd.take {α : Type} {w : World} {z : Nat} {R : World → α → List Value → Prop} {ao : Option Addr} {n c : Nat} {l : List α} (h : Rd w z R (.slice ao n c) l) (k : Nat) (hk : k ≤ l.length) : Rd w z R (.slice ao k c) (l.take k) := by
  obtain ⟨ao', c', hv, hc, h⟩ := h
  cases hv
  refine ⟨ao, c, by rw [List.length_take, Nat.min_eq_left hk], by rw [List.length_take]; omega, ?_⟩
  rcases h with h | ⟨b, off, h, hr⟩
  · exact .inl (by rw [h]; simp)
  · refine .inr ⟨b, off, h, fun j hj => ?_⟩
    rw [List.length_take] at hj
    rw [List.getElem_take]
    exact hr j (by omega)
/-- A function value that tells a prefix of things. -/
structure FnPfx {α : Type} (W0 : World) (f : Nat) (caps : Array Value) (z : Nat) (R : World → α → List Value → Prop) (G : α → Prop) (k : α → Int × Int) : Prop where
  enter : ∀ (args : Array Value) (w : World), (callFunc f args).run Tryz.prog w = .ok (.enter f args) w
  ok : ∀ (W : World) (a : α) (x : Value), Below W0.heap.size W0 W → VR z R W a x → G a → Calls Tryz.prog f (#[x] ++ caps) W fun e w' => e = .returned (.agg #[.int .u32 (k a).1, .int .i64 (k a).2]) ∧ Below W.heap.size W w'
theorem FnPfx.from {α : Type} {W0 W1 : World} {f : Nat} {caps : Array Value} {z : Nat} {R : World → α → List Value → Prop} {G : α → Prop} {k : α → Int × Int} (h : FnPfx W0 f caps z R G k) (hb : Below W0.heap.size W0 W1) : FnPfx W1 f caps z R G k := ⟨h.enter, fun W a x hW hx hg => h.ok W a x (bthen hb hW) hx hg⟩
end Go.Proofs.YtpmmhmgojjlniaaGreatDoor
namespace Go.Proofs.YtpmmhmgojjlniaaGreatDoor
open Go.RowKit Go.Sort

/-- The last token is that one. -/
def At (t : Tv) : Sta → Prop
  | .good _ l => l = (t.p, t.q)
  | .bad _ _ _ => True
def okv {α : Type} (a : α) : Sta → Option α
  | .good _ _ => some a
  | .bad _ _ _ => none
theorem taken_at (en : Int × Int) (st : Sta) : At (taken en st).1 (taken en st).2 := by
  cases st with
  | good r l => cases r <;> simp [taken, At]
  | bad p q e => exact trivial
theorem faulted_at {t t' : Tv} {e : Int} {st : Sta} (h : At t st) : At t (faulted t' e st) := by
  cases st with
  | good r l =>
    show At t (if e = 0 then .good r l else .bad t'.p t'.q e)
    split
    · exact h
    · exact trivial
  | bad p q x => exact trivial
theorem exec_ret {α : Type} (en : Int × Int) (a : α) (st : Sta) : (Pg.ret a).exec en st = (okv a st, st) := by cases st <;> rfl
theorem exec_next {α : Type} (en : Int × Int) (k : Int → ByteArray → Pg α) (st : Sta) : (Pg.next k).exec en st = (k (taken en st).1.k (taken en st).1.s).exec en (taken en st).2 := by
  cases st with
  | good r l => cases r <;> rfl
  | bad p q e => rfl
theorem exec_fail {α : Type} (en : Int × Int) {t : Tv} {st : Sta} (h : At t st) {e : Int} (he : e ≠ 0) : (Pg.fail e : Pg α).exec en st = (none, faulted t e st) := by
  cases st with
  | good r l =>
    obtain rfl : l = (t.p, t.q) := h
    simp only [Pg.exec, Pg.run, faulted]
    rw [if_neg he]
  | bad p q x => rfl
theorem exec_chk {α : Type} (en : Int × Int) {t : Tv} {st : Sta} (h : At t st) (e : Int) (k : Unit → Pg α) : ((chk e).bind k).exec en st = (k ()).exec en (faulted t e st) := by
  unfold chk
  by_cases he : e = 0
  · subst he
    rw [if_pos rfl]
    cases st <;> rfl
  · rw [if_neg he]
    show (Pg.fail e : Pg α).exec en st = _
    rw [exec_fail en h he]
    cases st with
    | good r l => simp only [faulted]; rw [if_neg he]; rfl
    | bad p q x => rfl
theorem faulted_zero (t : Tv) (st : Sta) : faulted t 0 st = st := by cases st <;> rfl
/-- A test that tells a fault. -/
theorem exec_if {α : Type} (en : Int × Int) {t : Tv} {st : Sta} (h : At t st) {e : Int} (he : e ≠ 0) (c : Prop) [Decidable c] (g : Pg α) : (if c then Pg.fail e else g).exec en st = g.exec en (faulted t (if c then e else 0) st) := by
  by_cases hc : c
  · rw [if_pos hc, if_pos hc, exec_fail en h he]
    cases st with
    | good r l => simp only [faulted]; rw [if_neg he]; rfl
    | bad p q x => rfl
  · rw [if_neg hc, if_neg hc, faulted_zero]
theorem exec_ifn {α : Type} (en : Int × Int) {t : Tv} {st : Sta} (h : At t st) {e : Int} (he : e ≠ 0) (c : Prop) [Decidable c] (g : Pg α) : (if c then g else Pg.fail e).exec en st = g.exec en (faulted t (if c then 0 else e) st) := by
  by_cases hc : c
  · rw [if_pos hc, if_pos hc, faulted_zero]
  · rw [if_neg hc, if_neg hc, exec_fail en h he]
    cases st with
    | good r l => simp only [faulted]; rw [if_neg he]; rfl
    | bad p q x => rfl
def headS : Sta → Option (Int × ByteArray)
  | .good r _ => r.head?.map Tv.bare
  | .bad _ _ _ => none
theorem exec_peek {α : Type} (en : Int × Int) (k : Option (Int × ByteArray) → Pg α) (st : Sta) : (Pg.peek k).exec en st = (k (headS st)).exec en st := by cases st <;> rfl
theorem taken_size {E : En} {w : World} {st : Sta} (h : Ps E w st) : (taken E.en st).1.s.size ≤ 1000 := by
  obtain ⟨_, _, ao, n, c, a1, a2, e, _, hv⟩ := h
  cases st with
  | good r l =>
    cases r with
    | nil => exact Nat.zero_le _
    | cons t r => exact hv.2.2.2.1 t (List.mem_cons_self ..)
  | bad p q e => exact Nat.zero_le _
theorem wd_size {k : Int} {s : ByteArray} {n : Nat} (h : s.size ≤ n) : (wd k s).size ≤ n := by
  unfold wd
  split
  · exact h
  · exact Nat.zero_le _
/-- What the parser asks of the layers below. -/
structure Kit12 (T : World → Prop) (F : Fn) : Prop where
  nam : ∀ (s : ByteArray), s.size ≤ 1000 → ∀ w, Calls Tryz.prog 141 #[.string s] w fun e w' => e = .returned (.int .i64 (F.nam s)) ∧ Below w.heap.size w w'
  num : ∀ (s : ByteArray) (a b : Int), s.size ≤ 1000 → ∀ w0 w, T w0 → Below w0.heap.size w0 w → Calls Tryz.prog 240 #[.string s, .int .i64 a, .int .i64 b] w fun e w' => e = .returned (.tuple #[.int .i64 (F.num s a b).1, .int .i64 (F.num s a b).2]) ∧ Below w.heap.size w w'
  pfx : ∀ (s : ByteArray), s.size ≤ 1000 → ∀ w0 w, T w0 → Below w0.heap.size w0 w → Calls Tryz.prog 270 #[.string s] w fun e w' => e = .returned (.tuple #[.agg #[.int .u32 (F.pfx s).1, .int .i64 (F.pfx s).2.1], .int .i64 (F.pfx s).2.2]) ∧ Below w.heap.size w w'
  com : ∀ (s : ByteArray), s.size ≤ 1000 → ∀ w0 w, T w0 → Below w0.heap.size w0 w → Calls Tryz.prog 314 #[.string s] w fun e w' => e = .returned (.tuple #[.agg #[.int .i64 (F.com s).1, .int .i64 (F.com s).2.1], .int .i64 (F.com s).2.2]) ∧ Below w.heap.size w w'
  asr : ∀ (s : ByteArray), s.size ≤ 1000 → ∀ w0 w, T w0 → Below w0.heap.size w0 w → Calls Tryz.prog 214 #[.string s] w fun e w' => ∃ x, e = .returned (.tuple #[.pointer x, .int .i64 (F.asr s)]) ∧ Below w.heap.size w w'
  may : ∀ (r : Rg) (g : Nat) (w : World), w.heap[g]? = some (.cells #[.int .u32 r.ad, .int .i64 r.bits, .int .i64 r.ge, .int .i64 r.le, .bool r.ok] 97 (0, 0)) → Calls Tryz.prog 73 #[.slice (some ⟨g, 0, none⟩) 1 1] w fun e w' => ∃ z, e = .returned (.int .i64 z) ∧ (z = 0 ↔ F.may r = true) ∧ Below w.heap.size w w'
  fits : ∀ (s : ByteArray) (a b : Int), (F.num s a b).1 = 0 ∨ a ≤ (F.num s a b).1 ∧ (F.num s a b).1 ≤ b
end Go.Proofs.YtpmmhmgojjlniaaGreatDoor
namespace Go.Proofs.YtpmmhmgojjlniaaGreatDoor.Kn
open Go.RowKit Go.Sort

def ltrC (c : UInt8) : Bool := decide (97 ≤ (c.toNat : Int)) && decide ((c.toNat : Int) ≤ 122)
def dgtC (c : UInt8) : Bool := decide (48 ≤ (c.toNat : Int)) && decide ((c.toNat : Int) ≤ 57)
def inNm (c : UInt8) : Bool := ltrC c || dgtC c || decide ((c.toNat : Int) = 45) || decide ((c.toNat : Int) = 95)
theorem emptyS_iff (s : ByteArray) : s.toList.isEmpty = decide (s.size = 0) := by
  rw [ByteArray.toList_eq]
  obtain ⟨⟨l⟩⟩ := s
  cases l <;> simp [ByteArray.size]
theorem ltrC_is (c : UInt8) (w : World) : Calls Tryz.prog 209 #[.int .u8 (c.toNat : Int)] w fun e w' => e = .returned (.bool (ltrC c)) ∧ w' = w := by
  unfold ltrC
  by_cases h : 97 ≤ (c.toNat : Int)
  · go_enter Tryz.func209, Tryz.ntmps209
    go_wp2_with fail
    all_goals
      go_ret
      exact ⟨ret_bool (by simp [h]; try omega), rfl⟩
  · go_enter Tryz.func209, Tryz.ntmps209
    go_wp2_with fail
    all_goals
      go_ret
      exact ⟨ret_bool (by simp; try omega), rfl⟩
theorem dgtC_is (c : UInt8) (w : World) : Calls Tryz.prog 259 #[.int .u8 (c.toNat : Int)] w fun e w' => e = .returned (.bool (dgtC c)) ∧ w' = w := by
  unfold dgtC
  by_cases h : 48 ≤ (c.toNat : Int)
  · go_enter Tryz.func259, Tryz.ntmps259
    go_wp2_with fail
    all_goals
      go_ret
      exact ⟨ret_bool (by simp [h]; try omega), rfl⟩
  · go_enter Tryz.func259, Tryz.ntmps259
    go_wp2_with fail
    all_goals
      go_ret
      exact ⟨ret_bool (by simp; try omega), rfl⟩
set_option maxHeartbeats 1000000 in
set_option maxRecDepth 100000 in
theorem inNm_is (c : UInt8) (w : World) : Calls Tryz.prog 210 #[.int .u8 (c.toNat : Int)] w fun e w' => e = .returned (.bool (inNm c)) ∧ w' = w := by
  have CL := hide (ltrC_is c)
  have CD := hide (dgtC_is c)
  unfold inNm
  cases hl : ltrC c
  · cases hd : dgtC c
    · rw [hl] at CL
      rw [hd] at CD
      clear hl hd
      by_cases h1 : (c.toNat : Int) = 45
      · generalize (c.toNat : Int) = z at *
        subst h1
        go_enter Tryz.func210, Tryz.ntmps210
        go_wp2_with fail
        refine (CL.out _).mono ?_
        rintro e w1 ⟨rfl, rfl⟩
        go_wp2_with fail
        refine (CD.out _).mono ?_
        rintro e w2 ⟨rfl, rfl⟩
        go_wp2_with fail
        all_goals
          go_ret
          exact ⟨rfl, rfl⟩
      · have h1' := hide h1
        go_enter Tryz.func210, Tryz.ntmps210
        go_wp2_with fail
        refine (CL.out _).mono ?_
        rintro e w1 ⟨rfl, rfl⟩
        go_wp2_with fail
        refine (CD.out _).mono ?_
        rintro e w2 ⟨rfl, rfl⟩
        go_wp2_with fail
        all_goals
          go_ret
          exact ⟨ret_bool (by have := h1'.out; rw [Bool.eq_iff_iff]; simp; try omega), rfl⟩
    · rw [hl] at CL
      rw [hd] at CD
      clear hl hd
      go_enter Tryz.func210, Tryz.ntmps210
      go_wp2_with fail
      refine (CL.out _).mono ?_
      rintro e w1 ⟨rfl, rfl⟩
      go_wp2_with fail
      refine (CD.out _).mono ?_
      rintro e w2 ⟨rfl, rfl⟩
      go_wp2_with fail
      all_goals
        go_ret
        exact ⟨rfl, rfl⟩
  · rw [hl] at CL
    clear hl
    go_enter Tryz.func210, Tryz.ntmps210
    go_wp2_with fail
    refine (CL.out _).mono ?_
    rintro e w1 ⟨rfl, rfl⟩
    go_wp2_with fail
    all_goals
      go_ret
      exact ⟨rfl, rfl⟩
end Go.Proofs.YtpmmhmgojjlniaaGreatDoor.Kn
namespace Go.Proofs.YtpmmhmgojjlniaaGreatDoor.Kn
open Go.RowKit Go.Sort

theorem allB_bad {p : UInt8 → Bool} (s : ByteArray) (j : Nat) (h : j < s.size) (hp : p s[j] = false) : s.data.toList.all p = false := by
  rw [List.all_eq_false]
  refine ⟨s[j], ?_, by rw [hp]; decide⟩
  have : s.data.toList[j]'(by simpa using h) = s[j] := by simp [ByteArray.getElem_eq_getElem_data]
  rw [← this]
  exact List.getElem_mem _
theorem allB_ok {p : UInt8 → Bool} (s : ByteArray) (hp : ∀ j (h : j < s.size), p s[j] = true) : s.data.toList.all p = true := by
  rw [List.all_eq_true]
  intro c hc
  obtain ⟨j, hj, rfl⟩ := List.getElem_of_mem hc
  have hj' : j < s.size := by simpa using hj
  have : s.data.toList[j] = s[j] := by simp [ByteArray.getElem_eq_getElem_data]
  rw [this]
  exact hp j hj'
/-- The fault of a name. -/
def nmF (s : ByteArray) : Int := if h : 0 < s.size then (if ltrC s[0] = false then 4 else if s.data.toList.all inNm = false then 4 else if 12 < s.size then 2 else 0) else 4
set_option maxHeartbeats 2000000 in
set_option maxRecDepth 100000 in
theorem nameFault_is (s : ByteArray) (hs : s.size ≤ 1000) (w : World) : Calls Tryz.prog 141 #[.string s] w fun e w' => e = .returned (.int .i64 (nmF s)) ∧ Below w.heap.size w w' := by
  obtain ⟨R, hR⟩ : ∃ R, R = nmF s := ⟨_, rfl⟩
  rw [← hR]
  by_cases h0 : s.size = 0
  · obtain rfl : s = ⟨#[]⟩ := ByteArray.ext (Array.eq_empty_of_size_eq_zero h0)
    obtain rfl : R = 4 := hR
    go_enter Tryz.func141, Tryz.ntmps141
    go_wp2_with fail
    go_ret
    exact ⟨rfl, brefl w⟩
  · have he : s.toList.isEmpty = false := by rw [emptyS_iff]; exact decide_eq_false h0
    have hp : 0 < s.size := by omega
    have hp' : (0 : Int) < (s.size : Int) := by omega
    have CL := hide (ltrC_is s[0])
    unfold nmF at hR
    rw [dif_pos hp] at hR
    cases hl : ltrC s[0]
    · rw [hl, if_pos rfl] at hR
      subst hR
      rw [hl] at CL
      clear hl
      go_enter Tryz.func141, Tryz.ntmps141
      go_wp2_with fail
      refine (CL.out _).mono ?_
      rintro e w1 ⟨rfl, rfl⟩
      go_wp2_with fail
      go_ret
      exact ⟨rfl, brefl _⟩
    · rw [hl, if_neg (by decide)] at hR
      rw [hl] at CL
      clear hl
      have HBAD : Hid (∀ j (h : j < s.size), inNm s[j] = false → R = 4) := by
        intro j h hn
        rw [hR, if_pos (allB_bad s j h hn)]
      have HEND : Hid ((∀ j (h : j < s.size), inNm s[j] = true) → R = if 12 < s.size then 2 else 0) := by
        intro h
        rw [hR, if_neg (by rw [allB_ok s h]; decide)]
      clear hR
      go_enter Tryz.func141, Tryz.ntmps141
      go_wp2_with fail
      refine (CL.out _).mono ?_
      rintro e w1 ⟨rfl, rfl⟩
      go_wp2_with fail
      go_loopw [14] (fun v wr => ∃ k : Nat, v = .int .i64 k ∧ k ≤ s.size ∧ Hid (∀ j (h : j < s.size), j < k → inNm s[j] = true) ∧ Below w1.heap.size w1 wr) (fun v _ => s.size - (intOf v).toNat)
      case atStart => exact ⟨0, rfl, Nat.zero_le _, hide fun j _ hj => absurd hj (Nat.not_lt_zero _), brefl w1⟩
      case round =>
        obtain ⟨k, rfl, hk, HALL, hbr⟩ := hrel
        have HBR := hide hbr
        clear hbr
        by_cases hkl : k < s.size
        · have hkl' : (k : Int) < (s.size : Int) := by omega
          have HB := hide (HBAD.out k hkl)
          have HNX : Hid (inNm s[k] = true → ∀ j (h : j < s.size), j < k + 1 → inNm s[j] = true) := by
            intro h j hj hjk
            rcases Nat.lt_or_ge j k with h1 | h1
            · exact HALL.out j hj h1
            · obtain rfl : j = k := by omega
              exact h
          have CN := hide (inNm_is s[k])
          cases hn : inNm s[k]
          · rw [hn] at CN HB
            obtain rfl := HB.out rfl
            clear HB HNX hn
            go_wp2_with fail
            refine (CN.out _).mono ?_
            rintro e w2 ⟨rfl, rfl⟩
            go_wp2_with fail
            go_ret
            exact ⟨rfl, HBR.out⟩
          · rw [hn] at CN HNX
            clear HB hn
            go_wp2_with fail
            refine (CN.out _).mono ?_
            rintro e w2 ⟨rfl, rfl⟩
            go_wp2_with fail
            exact ⟨⟨k + 1, by go_num, by omega, hide (HNX.out (by first | exact True.intro | rfl)), HBR.out⟩, by simp [intOf]; omega⟩
        · have hkl' : ¬ (k : Int) < (s.size : Int) := by omega
          have HE := hide (HEND.out fun j h => HALL.out j h (by omega))
          by_cases h12 : 12 < s.size
          · have h12' : (12 : Int) < (s.size : Int) := by omega
            rw [if_pos h12] at HE
            obtain rfl := HE.out
            go_wp2_with fail
            go_ret
            exact ⟨rfl, HBR.out⟩
          · have h12' : ¬ (12 : Int) < (s.size : Int) := by omega
            rw [if_neg h12] at HE
            obtain rfl := HE.out
            go_wp2_with fail
            go_ret
            exact ⟨rfl, HBR.out⟩
end Go.Proofs.YtpmmhmgojjlniaaGreatDoor.Kn
namespace Go.Proofs.YtpmmhmgojjlniaaGreatDoor
open Go.RowKit Go.Sort

/-- Is a text a name? -/
def nmOk (s : ByteArray) : Bool := decide (Kn.nmF s = 0)
set_option maxRecDepth 100000 in
theorem cfgName_is (s : ByteArray) (hs : s.size ≤ 1000) (w : World) : Calls Tryz.prog 70 #[.string s] w fun e w' => e = .returned (.bool (nmOk s)) ∧ Below w.heap.size w w' := by
  have C := hide (Kn.nameFault_is s hs w)
  have HE : Hid (nmOk s = decide (Kn.nmF s = 0)) := rfl
  generalize Kn.nmF s = n at *
  go_enter Tryz.func70, Tryz.ntmps70
  go_wp2_with fail
  refine C.out.mono ?_
  rintro e w1 ⟨rfl, hb⟩
  go_wp2_with fail
  go_ret
  refine ⟨ret_bool ?_, hb⟩
  rw [HE.out]
  rfl
end Go.Proofs.YtpmmhmgojjlniaaGreatDoor
namespace Go.Proofs.YtpmmhmgojjlniaaGreatDoor.Ax.Ad
open Go

/-- How many addresses a prefix of b bits has. -/
def sz (b : Int) : Int := ((2 ^ (32 - b.toNat) : Nat) : Int)
/-- The first b bits of a, with 0 for the others. -/
def cut (a b : Int) : Int := a / sz b * sz b
def may (a b : Int) : Bool := decide (0 ≤ b ∧ b ≤ 32 ∧ cut a b = a)
def has (a b x : Int) : Bool := may a b && decide (cut x b = a)
def contains (a b c d : Int) : Bool := may c d && decide (b ≤ d) && has a b c
def before (a b c d : Int) : Bool := may a b && may c d && (if a = c then decide (b < d) else decide (a < c))
def last (a b : Int) : Int := if may a b = true then a + sz b - 1 else 0

theorem sz_pos (b : Int) : 0 < sz b := by
  unfold sz; have := Nat.two_pow_pos (32 - b.toNat); omega

theorem sz_dvd (b c : Int) (h : b ≤ c) : ∃ k : Int, 0 < k ∧ sz b = k * sz c := by
  refine ⟨((2 ^ ((32 - b.toNat) - (32 - c.toNat)) : Nat) : Int), ?_, ?_⟩
  · have := Nat.two_pow_pos ((32 - b.toNat) - (32 - c.toNat)); omega
  · unfold sz
    rw [← Int.natCast_mul, ← Nat.pow_add]
    congr 2
    omega

theorem sz_half (b : Int) (h0 : 0 ≤ b) (h : b ≤ 31) : sz b = 2 * sz (b + 1) := by
  unfold sz
  have e : 32 - b.toNat = (32 - (b + 1).toNat) + 1 := by omega
  rw [e, Nat.pow_succ]
  omega

theorem sz_32 : sz 32 = 1 := by decide
theorem sz_0 : sz 0 = 4294967296 := by decide

theorem sz_le (b : Int) (h0 : 0 ≤ b) : sz b ≤ 4294967296 := by
  obtain ⟨k, hk, e⟩ := sz_dvd 0 b h0
  rw [sz_0] at e
  have hp := sz_pos b
  have : 1 * sz b ≤ k * sz b := Int.mul_le_mul_of_nonneg_right (by omega) (by omega)
  omega

theorem cut_le (a b : Int) : cut a b ≤ a := by
  unfold cut
  have := Int.ediv_mul_le a (b := sz b) (by have := sz_pos b; omega)
  exact this

theorem cut_lt (a b : Int) : a < cut a b + sz b := by
  unfold cut
  have h := Int.lt_ediv_add_one_mul_self a (sz_pos b)
  rw [Int.add_mul, Int.one_mul] at h
  exact h

theorem cut_nonneg (a b : Int) (h : 0 ≤ a) : 0 ≤ cut a b := by
  unfold cut
  exact Int.mul_nonneg (Int.ediv_nonneg h (by have := sz_pos b; omega)) (by have := sz_pos b; omega)

/-- A multiple of a prefix's size, at most a, and less than a size away: that is the cut. -/
theorem cut_eq (a b q : Int) (h1 : q * sz b ≤ a) (h2 : a < q * sz b + sz b) : cut a b = q * sz b := by
  unfold cut
  have hp := sz_pos b
  have : a / sz b = q := by
    have l1 : q ≤ a / sz b := (Int.le_ediv_iff_mul_le hp).2 h1
    have l2 : a / sz b < q + 1 := (Int.ediv_lt_iff_lt_mul hp).2 (by rw [Int.add_mul]; omega)
    omega
  rw [this]

theorem cut_cut (a b c : Int) (h : b ≤ c) : cut (cut a c) b = cut a b := by
  obtain ⟨k, hk, e⟩ := sz_dvd b c h
  have hp := sz_pos c
  have hq := sz_pos b
  have e1 : cut a c / sz b = a / sz b := by
    have l1 : a / sz b ≤ cut a c / sz b := by
      refine (Int.le_ediv_iff_mul_le hq).2 ?_
      have : a / sz b * k ≤ a / sz c := by
        refine (Int.le_ediv_iff_mul_le hp).2 ?_
        have := Int.ediv_mul_le a (b := sz b) (by omega)
        rw [e] at this ⊢
        rw [Int.mul_assoc]
        exact this
      unfold cut
      have := Int.mul_le_mul_of_nonneg_right this (Int.le_of_lt hp)
      rw [Int.mul_assoc, ← e] at this
      exact this
    have l2 : cut a c / sz b ≤ a / sz b := Int.ediv_le_ediv hq (cut_le a c)
    omega
  unfold cut at *
  rw [e1]

theorem cut_zero (a : Int) (h0 : 0 ≤ a) (h1 : a < 4294967296) : cut a 0 = 0 := by
  have := cut_eq a 0 0 (by simpa using h0) (by rw [sz_0]; omega)
  simpa using this

theorem cut_idem (a b : Int) : cut (cut a b) b = cut a b := cut_cut a b b (Int.le_refl _)

theorem cut_mono (a c : Int) (i j : Int) (h : i ≤ j) (e : cut a j = cut c j) : cut a i = cut c i := by
  rw [← cut_cut a i j h, ← cut_cut c i j h, e]

theorem may_iff (a b : Int) : may a b = true ↔ 0 ≤ b ∧ b ≤ 32 ∧ cut a b = a := by unfold may; exact decide_eq_true_iff

/-- As the walk spells the cut. -/
theorem cut_bits (a b : Int) (h0 : 0 ≤ a) (h1 : a ≤ 4294967295) (hb : 0 ≤ b) (hb2 : b ≤ 32) :
    bits .andNot .u32 a (4294967295 / 2 ^ b.toNat) = cut a b := by
  obtain ⟨A, rfl⟩ := Int.eq_ofNat_of_zero_le h0
  obtain ⟨B, rfl⟩ := Int.eq_ofNat_of_zero_le hb
  have hB : B ≤ 32 := by omega
  have hA : A < 4294967296 := by omega
  have hpow : (4294967295 : Nat) / 2 ^ B = 2 ^ (32 - B) - 1 := by
    have : ∀ n : Fin 33, (4294967295 : Nat) / 2 ^ n.val = 2 ^ (32 - n.val) - 1 := by decide
    exact this ⟨B, by omega⟩
  have e1 : ((4294967295 : Int) / 2 ^ (Int.toNat (B : Int))) = (((4294967295 : Nat) / 2 ^ B : Nat) : Int) := by
    rw [Int.toNat_natCast]; simp
  rw [e1, hpow]
  have hlt : 2 ^ (32 - B) - 1 < 4294967296 := by
    have : (2 : Nat) ^ (32 - B) ≤ 2 ^ 32 := Nat.pow_le_pow_right (by decide) (by omega)
    omega
  rw [u32_andNot_nat A _ hA hlt]
  have e2 : cut (A : Int) (B : Int) = ((A / 2 ^ (32 - B) * 2 ^ (32 - B) : Nat) : Int) := by
    unfold cut sz
    rw [Int.toNat_natCast]; simp
  rw [e2]
  congr 1
  have hle : (2 : Nat) ^ (32 - B) ≤ 2 ^ 32 := Nat.pow_le_pow_right (by decide) (by omega)
  have hp := Nat.two_pow_pos (32 - B)
  have e3 : 4294967295 - (2 ^ (32 - B) - 1) = 2 ^ 32 - ((2 ^ (32 - B) - 1) + 1) := by omega
  rw [e3]
  apply Nat.eq_of_testBit_eq
  intro i
  rw [Nat.testBit_and, Nat.testBit_two_pow_sub_succ (by omega), Nat.testBit_two_pow_sub_one, Nat.testBit_mul_two_pow, Nat.testBit_div_two_pow]
  by_cases hi : 32 - B ≤ i
  · have : i - (32 - B) + (32 - B) = i := by omega
    by_cases h32 : i < 32
    · simp [hi, h32, this]
    · have hge : (2 : Nat) ^ 32 ≤ 2 ^ i := Nat.pow_le_pow_right (by decide) (by omega)
      have : A.testBit i = false := Nat.testBit_lt_two_pow (by omega)
      simp [*]
  · have h2 : i < 32 - B := by omega
    simp [hi, h2]
end Go.Proofs.YtpmmhmgojjlniaaGreatDoor.Ax.Ad
namespace Go.Proofs.YtpmmhmgojjlniaaGreatDoor.Ax
open Go.RowKit

theorem ret_int {k : IntKind} {a b : Int} (h : a = b) : Ending.returned (.int k a) = .returned (.int k b) := by rw [h]

set_option maxHeartbeats 400000 in
theorem cut_any (a b : Int) (w : World) (ha : 0 ≤ a) (ha2 : a ≤ 4294967295) (hb : 0 ≤ b) (hb2 : b ≤ 32) :
    Calls Tryz.prog 159 #[.int .u32 a, .int .i64 b] w fun e w' => e = .returned (.int .u32 (Ad.cut a b)) ∧ w' = w := by
  go_enter Tryz.func159, Tryz.ntmps159
  go_wp2
  go_ret
  exact ⟨ret_int (Ad.cut_bits a b ha ha2 hb hb2), rfl⟩

theorem ret_bool {a b : Bool} (h : a = b) : Ending.returned (.bool a) = .returned (.bool b) := by rw [h]

set_option maxHeartbeats 400000 in
theorem may_any (a b : Int) (w : World) (ha : 0 ≤ a) (ha2 : a ≤ 4294967295) :
    Calls Tryz.prog 85 #[.agg #[.int .u32 a, .int .i64 b]] w fun e w' => e = .returned (.bool (Ad.may a b)) ∧ Below w.heap.size w w' := by
  by_cases h0 : 0 ≤ b
  · by_cases h1 : b ≤ 32
    · go_enter Tryz.func85, Tryz.ntmps85
      go_wp2
      go_quiet ((go_at_call 159; exact Calls.quiet_of_same (cut_any _ _ _ (by omega) (by omega) (by omega) (by omega))))
      go_wp2
      go_ret
      exact ⟨ret_bool (by simp [Ad.may, h0, h1, Bool.beq_eq_decide_eq]), below_drewN ((Below.refl _ _).alloc (Nat.le_refl _) _) _⟩
    · have hd : decide (b ≤ 32) = false := by simpa using h1
      go_enter Tryz.func85, Tryz.ntmps85
      go_wp2
      go_quiet (fail)
      go_wp2
      go_ret
      exact ⟨ret_bool (by simp [Ad.may]; omega), below_drewN ((Below.refl _ _).alloc (Nat.le_refl _) _) _⟩
  · have hd : decide (0 ≤ b) = false := by simpa using h0
    go_enter Tryz.func85, Tryz.ntmps85
    go_wp2
    go_quiet (fail)
    go_wp2
    go_ret
    exact ⟨ret_bool (by simp [Ad.may]; omega), below_drewN ((Below.refl _ _).alloc (Nat.le_refl _) _) _⟩
end Go.Proofs.YtpmmhmgojjlniaaGreatDoor.Ax
namespace Go.Proofs.YtpmmhmgojjlniaaGreatDoor.Ax
open Go.RowKit

theorem bcell {W w1 : World} (hb : Below W.heap.size W w1) : (∀ b o, b < W.heap.size → w1.cell? ⟨b, o, none⟩ = W.cell? ⟨b, o, none⟩) ∧ (∀ b o, b < W.heap.size → w1.frozen? ⟨b, o, none⟩ = W.frozen? ⟨b, o, none⟩) :=
  ⟨fun b o h => hb.cell (p := ⟨b, o, none⟩) h, fun b o h => hb.frozen (p := ⟨b, o, none⟩) h⟩
theorem bthen {w W w1 : World} (h : Below w.heap.size w W) (hb : Below W.heap.size W w1) : Below w.heap.size w w1 := h.trans (hb.mono h.size)
theorem balloc {w W : World} (h : Below w.heap.size w W) (o : Obj) : Below w.heap.size w (W.alloc o) := h.alloc h.size o
theorem brefl (w : World) : Below w.heap.size w w := Below.refl _ _

theorem may_is (a b : Int) (r : Bool) (h : Ad.may a b = r) (w : World) (ha : 0 ≤ a) (ha2 : a ≤ 4294967295) :
    Calls Tryz.prog 85 #[.agg #[.int .u32 a, .int .i64 b]] w fun e w' => e = .returned (.bool r) ∧ Below w.heap.size w w' := by
  rw [← h]; exact may_any a b w ha ha2

end Go.Proofs.YtpmmhmgojjlniaaGreatDoor.Ax
namespace Go.Proofs.YtpmmhmgojjlniaaGreatDoor.Ax
open Go.RowKit

theorem hide {p : Prop} (h : p) : Hid p := h

theorem heap_lt {w : World} {b : Nat} {o : Obj} (h : w.heap[b]? = some o) : b < w.heap.size := by
  rcases Nat.lt_or_ge b w.heap.size with h' | h'
  · exact h'
  · simp [Array.getElem?_eq_none h'] at h

/-- An owned row is owned still behind what leaves all old blocks as they were. -/
theorem row_below {w w' : World} {B e size n : Nat} {v : Value} {xs : List Value} (h : w.ownsRow B e size v n xs) (hb : Below w.heap.size w w') : w'.ownsRow B e size v n xs := by
  obtain ⟨h1, h2⟩ := h
  refine ⟨h1, ?_⟩
  rcases h2 with h2 | ⟨g, cap, cur, hv, hB, hg, r⟩
  · exact .inl h2
  · exact .inr ⟨g, cap, cur, hv, hB, (hb.block g (heap_lt hg)).trans hg, r⟩

/-- .. and so is a builder. -/
theorem builder_below {w w' : World} {T e B b : Nat} {bs : List Value} (h : Lib.IsBuilder T e B b bs w) (hb : Below w.heap.size w w') : Lib.IsBuilder T e B b bs w' := by
  rcases h with ⟨h1, v, h2, h3, h4⟩ | ⟨h1, v, h2, h3, h4⟩
  · exact .inl ⟨h1, v, (hb.block b (heap_lt h2)).trans h2, row_below h3 hb, h4⟩
  · exact .inr ⟨h1, v, (hb.block b (heap_lt h2)).trans h2, row_below h3 hb, h4⟩
end Go.Proofs.YtpmmhmgojjlniaaGreatDoor.Ax
