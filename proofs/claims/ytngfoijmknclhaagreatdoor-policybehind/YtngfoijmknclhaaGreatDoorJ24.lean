/- Pieces of a path. -/
import Derived.Test.YtngfoijmknclhaaGreatDoorJ13
import Derived.Test.YtngfoijmknclhaaGreatDoorJ22
import Derived.Laws.BitsAllLaws
namespace Go.Proofs.YtngfoijmknclhaaGreatDoor.Ar
/-- The numbers between two places of a path. -/
def piece (p : List Int) (i k : Nat) : List Int := (p.take k).drop i
theorem piece_len (p : List Int) (i k : Nat) (hk : k ≤ p.length) : (piece p i k).length = k - i := by
  unfold piece
  rw [List.length_drop, List.length_take]
  omega
theorem piece_app (p : List Int) (i j k : Nat) (h1 : i ≤ j) (h2 : j ≤ k) (hk : k ≤ p.length) : piece p i k = piece p i j ++ piece p j k := by
  unfold piece
  have e : p.take k = p.take j ++ (p.take k).drop j := by
    have h3 := (List.take_append_drop j (p.take k)).symm
    rw [List.take_take, Nat.min_eq_left h2] at h3
    exact h3
  have hl : (p.take j).length = j := by rw [List.length_take]; omega
  conv => lhs; rw [e]
  rw [List.drop_append, hl, Nat.sub_eq_zero_of_le h1, List.drop_zero]
theorem piece_split (p : List Int) (i k : Nat) (hik : i ≤ k) (hk : k ≤ p.length) (a b : List Int) (h : piece p i k = a ++ b) : ∃ j, i ≤ j ∧ j ≤ k ∧ piece p i j = a ∧ piece p j k = b := by
  have hl := congrArg List.length h
  rw [piece_len p i k hk, List.length_append] at hl
  refine ⟨i + a.length, by omega, by omega, ?_⟩
  have h2 := piece_app p i (i + a.length) k (by omega) (by omega) hk
  rw [h] at h2
  have h3 : (piece p i (i + a.length)).length = a.length := by rw [piece_len p _ _ (by omega)]; omega
  have h4 := List.append_inj h2 h3.symm
  exact ⟨h4.1.symm, h4.2.symm⟩
theorem piece_one (p : List Int) (i : Nat) (h : i < p.length) : piece p i (i + 1) = [p.getD i 0] := by
  unfold piece
  rw [List.take_succ_eq_append_getElem h, List.drop_append, List.length_take, Nat.min_eq_left (by omega)]
  simp [h]
end Go.Proofs.YtngfoijmknclhaaGreatDoor.Ar
namespace Go.Proofs.YtngfoijmknclhaaGreatDoor.Ar
/-- From places m one comes to places m' by pieces of P's. -/
def EndsTo (p : List Int) (P : List Int → Prop) (m m' : Nat) : Prop := ∀ k, m'.testBit k = true ↔ k ≤ p.length ∧ ∃ i, i ≤ k ∧ m.testBit i = true ∧ P (piece p i k)
/-- All places of a set are places of the path. -/
def InPath (p : List Int) (m : Nat) : Prop := ∀ k, m.testBit k = true → k ≤ p.length
theorem EndsTo.inPath {p : List Int} {P : List Int → Prop} {m m' : Nat} (h : EndsTo p P m m') : InPath p m' := fun k hk => ((h k).1 hk).1
theorem InPath.lt {p : List Int} {m : Nat} (h : InPath p m) (hp : p.length ≤ 16) : m < 131072 := by
  have : m < 2 ^ 17 := Nat.lt_pow_two_of_testBit m fun i hi => by
    cases hb : m.testBit i with
    | false => rfl
    | true => have := h i hb; omega
  simpa using this
theorem piece_self (p : List Int) (i : Nat) : piece p i i = [] := by
  unfold piece
  rw [List.drop_eq_nil_iff, List.length_take]
  omega
theorem ends_empty {p : List Int} {m : Nat} (h : InPath p m) : EndsTo p (fun q => q = []) m m := by
  intro k
  constructor
  · intro hk
    exact ⟨h k hk, k, Nat.le_refl _, hk, piece_self p k⟩
  · rintro ⟨hk, i, hi, hm, he⟩
    have := piece_len p i k hk
    rw [he] at this
    simp at this
    obtain rfl : k = i := by omega
    exact hm
theorem ends_or {p : List Int} {P Q : List Int → Prop} {m a b : Nat} (ha : EndsTo p P m a) (hb : EndsTo p Q m b) : EndsTo p (fun q => P q ∨ Q q) m (a ||| b) := by
  intro k
  rw [Nat.testBit_or, Bool.or_eq_true, ha k, hb k]
  constructor
  · rintro (⟨hk, i, h1, h2, h3⟩ | ⟨hk, i, h1, h2, h3⟩)
    · exact ⟨hk, i, h1, h2, .inl h3⟩
    · exact ⟨hk, i, h1, h2, .inr h3⟩
  · rintro ⟨hk, i, h1, h2, h3 | h3⟩
    · exact .inl ⟨hk, i, h1, h2, h3⟩
    · exact .inr ⟨hk, i, h1, h2, h3⟩
theorem ends_iff {p : List Int} {P Q : List Int → Prop} {m a : Nat} (h : EndsTo p P m a) (hi : ∀ q, P q ↔ Q q) : EndsTo p Q m a := by
  intro k
  rw [h k]
  simp only [hi]
theorem ends_zero (p : List Int) (m : Nat) : EndsTo p (fun _ => False) m 0 := by
  intro k
  simp
theorem ends_then {p : List Int} {P Q : List Int → Prop} {m a b : Nat} (ha : EndsTo p P m a) (hb : EndsTo p Q a b) : EndsTo p (fun q => ∃ x y, q = x ++ y ∧ P x ∧ Q y) m b := by
  intro k
  rw [hb k]
  constructor
  · rintro ⟨hk, j, hjk, hj, hQ⟩
    obtain ⟨hj2, i, hij, hi, hP⟩ := (ha j).1 hj
    exact ⟨hk, i, by omega, hi, _, _, piece_app p i j k hij hjk hk, hP, hQ⟩
  · rintro ⟨hk, i, hik, hi, x, y, he, hP, hQ⟩
    obtain ⟨j, h1, h2, h3, h4⟩ := piece_split p _ _ hik hk _ _ he
    exact ⟨hk, j, h2, (ha j).2 ⟨by omega, i, h1, hi, by rw [h3]; exact hP⟩, by rw [h4]; exact hQ⟩
/-- Going on from new places alone: E was come to, F is still to be gone on from. -/
structure Often (p : List Int) (P : List Int → Prop) (m F E : Nat) : Prop where
  inF : InPath p F
  sound : ∀ k, E.testBit k = true → k ≤ p.length ∧ ∃ i, i ≤ k ∧ m.testBit i = true ∧ Plus P (piece p i k)
  fresh : ∀ k, F.testBit k = true → m.testBit k = true ∨ E.testBit k = true
  closed : ∀ i k, (m.testBit i = true ∨ E.testBit i = true) → F.testBit i = false → i ≤ k → k ≤ p.length → P (piece p i k) → E.testBit k = true
theorem often_start {p : List Int} {P : List Int → Prop} {m : Nat} (h : InPath p m) : Often p P m m 0 :=
  ⟨h, fun k hk => by simp at hk, fun k hk => .inl hk, fun i k h1 h2 => by simp at h1; rw [h1] at h2; cases h2⟩
theorem plus_one {P : List Int → Prop} {q : List Int} (h : P q) : Plus P q := ⟨q, [], by simp, h, .nil⟩
theorem many_app {P : List Int → Prop} {a b : List Int} (ha : Many P a) (hb : Many P b) : Many P (a ++ b) := by
  induction ha with
  | nil => exact hb
  | cons h _ ih => rw [List.append_assoc]; exact .cons h ih
theorem plus_snoc {P : List Int → Prop} {a b : List Int} (ha : Plus P a) (hb : P b) : Plus P (a ++ b) := by
  obtain ⟨x, y, rfl, h1, h2⟩ := ha
  refine ⟨x, y ++ b, by simp, h1, many_app h2 ?_⟩
  have := Many.cons (P := P) hb .nil
  simpa using this
theorem bit_andNot (a b k : Nat) (hb : b < 4294967296) (ha : a < 4294967296) : (a &&& (4294967295 - b)).testBit k = (a.testBit k && !b.testBit k) := by
  have e : 4294967295 - b = 2 ^ 32 - (b + 1) := by omega
  rw [Nat.testBit_and, e, Nat.testBit_two_pow_sub_succ (by simpa using hb)]
  by_cases hk : k < 32
  · simp [hk]
  · have : a.testBit k = false := Nat.testBit_lt_two_pow (Nat.lt_of_lt_of_le (by simpa using ha) (Nat.pow_le_pow_right (by decide) (by omega : 32 ≤ k)))
    simp [this]
theorem often_step {p : List Int} {P : List Int → Prop} {m F E N F' E' : Nat} (h : Often p P m F E) (hN : EndsTo p P F N) (hF : ∀ k, F'.testBit k = (N.testBit k && !E.testBit k)) (hE : ∀ k, E'.testBit k = (E.testBit k || F'.testBit k)) : Often p P m F' E' := by
  have hE2 : ∀ k, E'.testBit k = true ↔ E.testBit k = true ∨ N.testBit k = true := by
    intro k
    rw [hE, hF]
    cases E.testBit k <;> cases N.testBit k <;> simp
  refine ⟨fun k hk => ?_, fun k hk => ?_, fun k hk => ?_, fun i k h1 h2 hik hk hP => ?_⟩
  · rw [hF, Bool.and_eq_true] at hk
    exact hN.inPath k hk.1
  · rcases (hE2 k).1 hk with h1 | h1
    · exact h.sound k h1
    · obtain ⟨hk, j, hjk, hj, hP⟩ := (hN k).1 h1
      rcases h.fresh j hj with h2 | h2
      · exact ⟨hk, j, hjk, h2, plus_one hP⟩
      · obtain ⟨_, i, hij, hi, hPl⟩ := h.sound j h2
        refine ⟨hk, i, by omega, hi, ?_⟩
        rw [piece_app p i j k hij hjk hk]
        exact plus_snoc hPl hP
  · right
    rw [hE, hk]
    simp
  · rw [hE2]
    by_cases hFi : F.testBit i = true
    · exact .inr ((hN k).2 ⟨hk, i, hik, hFi, hP⟩)
    · have hFi' : F.testBit i = false := by simpa using hFi
      rcases h1 with h1 | h1
      · exact .inl (h.closed i k (.inl h1) hFi' hik hk hP)
      · rcases (hE2 i).1 h1 with h3 | h3
        · exact .inl (h.closed i k (.inr h3) hFi' hik hk hP)
        · by_cases hEi : E.testBit i = true
          · exact .inl (h.closed i k (.inr hEi) hFi' hik hk hP)
          · rw [hF, h3] at h2
            simp at h2
            exact absurd h2 hEi
theorem often_done {p : List Int} {P : List Int → Prop} {m E : Nat} (h : Often p P m 0 E) : EndsTo p (Plus P) m E := by
  intro k
  constructor
  · exact h.sound k
  · rintro ⟨hk, i, hik, hi, a, b, he, ha, hb⟩
    have key : ∀ (q : List Int), Many P q → ∀ j, E.testBit j = true → j ≤ k → piece p j k = q → E.testBit k = true := by
      intro q hq
      induction hq with
      | nil =>
        intro j hj hjk he
        have := piece_len p j k hk
        rw [he] at this
        simp at this
        obtain rfl : k = j := by omega
        exact hj
      | cons hP _ ih =>
        intro j hj hjk he
        obtain ⟨l, h1, h2, h3, h4⟩ := piece_split p _ _ hjk hk _ _ he
        exact ih l (h.closed j l (.inr hj) (by simp) h1 (by omega) (by rw [h3]; exact hP)) h2 h4
    obtain ⟨l, h1, h2, h3, h4⟩ := piece_split p _ _ hik hk _ _ he
    exact key b hb l (h.closed i l (.inl hi) (by simp) h1 (by omega) (by rw [h3]; exact ha)) h2 h4
/-- How many of the first 17 places are not in a set. -/
def lacks (E : Nat) : Nat := ((List.range 17).filter fun k => !E.testBit k).length
theorem filter_lt {l : List Nat} {f g : Nat → Bool} (h : ∀ k, g k = true → f k = true) : (l.filter g).length ≤ (l.filter f).length := by
  induction l with
  | nil => simp
  | cons x l ih =>
    rw [List.filter_cons, List.filter_cons]
    cases hg : g x with
    | true => rw [h x hg]; simp; exact ih
    | false => cases f x <;> simp <;> omega
theorem filter_lt2 {l : List Nat} {f g : Nat → Bool} (h : ∀ k, g k = true → f k = true) {x : Nat} (hx : x ∈ l) (h1 : f x = true) (h2 : g x = false) : (l.filter g).length < (l.filter f).length := by
  induction l with
  | nil => simp at hx
  | cons y l ih =>
    have hle := filter_lt (l := l) h
    rw [List.filter_cons, List.filter_cons]
    rcases List.mem_cons.1 hx with e | hx
    · subst e
      rw [h1, h2]
      simp
      omega
    · have := ih hx
      cases hg : g y with
      | true => rw [h y hg]; simp; exact this
      | false => cases f y <;> simp <;> omega
theorem lacks_le {E E' : Nat} (h : ∀ k, E.testBit k = true → E'.testBit k = true) : lacks E' ≤ lacks E := by
  unfold lacks
  refine filter_lt fun k hk => ?_
  cases hE : E.testBit k with
  | false => rfl
  | true => rw [h k hE] at hk; cases hk
theorem lacks_lt {E E' k : Nat} (h : ∀ k, E.testBit k = true → E'.testBit k = true) (hk : k ≤ 16) (h1 : E.testBit k = false) (h2 : E'.testBit k = true) : lacks E' < lacks E := by
  unfold lacks
  refine filter_lt2 (fun j hj => ?_) (x := k) (by simp; omega) (by simp [h1]) (by simp [h2])
  cases hE : E.testBit j with
  | false => rfl
  | true => rw [h j hE] at hj; cases hj
end Go.Proofs.YtngfoijmknclhaaGreatDoor.Ar
namespace Go.Proofs.YtngfoijmknclhaaGreatDoor.Ar
open Go.RowKit Go.Sort
theorem six3_at {w : World} {b off : Nat} {x0 x1 x2 : Value} (h : Six w b off [x0, x1, x2]) : w.cell? ⟨b, off, none⟩ = some x0 ∧ w.cell? ⟨b, off + 1, none⟩ = some x1 ∧ w.cell? ⟨b, off + 2, none⟩ = some x2 := ⟨h 0 (by simp), h 1 (by simp), h 2 (by simp)⟩

theorem at_is (i : Nat) (hi : i ≤ 17) (j : Int) (hj : j = (i : Int)) (W : World) : Calls Tryz.prog 107 #[.int .i64 j] W fun e w' => e = .returned (.int .u32 ((2 ^ i : Nat) : Int)) ∧ w' = W := by
  subst hj
  have h : i = 0 ∨ i = 1 ∨ i = 2 ∨ i = 3 ∨ i = 4 ∨ i = 5 ∨ i = 6 ∨ i = 7 ∨ i = 8 ∨ i = 9 ∨ i = 10 ∨ i = 11 ∨ i = 12 ∨ i = 13 ∨ i = 14 ∨ i = 15 ∨ i = 16 ∨ i = 17 := by omega
  rcases h with rfl | rfl | rfl | rfl | rfl | rfl | rfl | rfl | rfl | rfl | rfl | rfl | rfl | rfl | rfl | rfl | rfl | rfl <;>
    (go_enter Tryz.func107, Tryz.ntmps107
     go_wp2_with fail
     go_ret
     exact ⟨rfl, rfl⟩)
def within (p : Prt) (x : Int) : Bool := decide (p.1 ≤ x) && decide (x ≤ p.2.1)
theorem within_is (p : Prt) (x : Int) (g : Nat) (W : World) (hg : W.cell? ⟨g, 0, none⟩ = some (.int .i64 x)) : Calls Tryz.prog 190 #[.agg #[.int .i64 p.1, .int .i64 p.2.1, .bool p.2.2], .pointer (some ⟨g, 0, none⟩)] W fun e w' => e = .returned (.bool (within p x)) ∧ Below W.heap.size W w' := by
  obtain ⟨a, c, t⟩ := p
  simp only
  have B0 := hide (balloc (brefl W) (.cells #[.int .i64 a, .int .i64 c, .bool t] 216))
  have hl := block_lt_of_cell hg
  have hn : g ≠ W.heap.size := by simp only at hl; omega
  by_cases h1 : a ≤ x
  · by_cases h2 : x ≤ c
    · have HE : Hid (within (a, c, t) x = true) := by show _ = _; simp [within, h1, h2]
      go_enter Tryz.func190, Tryz.ntmps190
      go_wp2_with fail
      go_ret
      exact ⟨ret_bool HE.out.symm, B0.out⟩
    · have HE : Hid (within (a, c, t) x = false) := by show _ = _; simp [within, h2]
      go_enter Tryz.func190, Tryz.ntmps190
      go_wp2_with fail
      go_ret
      exact ⟨ret_bool HE.out.symm, B0.out⟩
  · have HE : Hid (within (a, c, t) x = false) := by show _ = _; simp [within, h1]
    go_enter Tryz.func190, Tryz.ntmps190
    go_wp2_with fail
    go_ret
    exact ⟨ret_bool HE.out.symm, B0.out⟩

set_option maxHeartbeats 4000000 in
set_option maxRecDepth 100000 in
theorem index_is (ps : List Prt) (x : Int) (g : Nat) (po : Option Addr) (pc : Nat) (W : World) (hn : ps.length ≤ 100000) (hp : Pa.slot W po ps) (hg : W.cell? ⟨g, 0, none⟩ = some (.int .i64 x)) (t : Bool) (ht : Hid (t = ps.any fun p => within p x)) :
    Calls Tryz.prog 202 #[.slice po ps.length pc, .func (.func 190) #[] #[.pointer (some ⟨g, 0, none⟩)]] W fun e w' => (∃ r : Int, e = .returned (.int .i64 r) ∧ ((0 ≤ r) ↔ t = true)) ∧ Below W.heap.size W w' := by
  have HP := hide hp
  have CW := hide (fun i (h : i < ps.length) w (hb : Below W.heap.size W w) => within_is ps[i] x g w ((hb.cell (p := ⟨g, 0, none⟩) (block_lt_of_cell hg)).trans hg))
  clear hp hg
  go_enter Tryz.func202, Tryz.ntmps202
  go_wp2_with fail
  go_loopw [8] (fun v8 wr => ∃ k : Nat, v8 = .int .i64 k ∧ k ≤ ps.length ∧ Hid (∀ i (h : i < ps.length), i < k → within ps[i] x = false) ∧ Below W.heap.size W wr) (fun v8 _ => ps.length - (intOf v8).toNat)
  case atStart => exact ⟨0, rfl, Nat.zero_le _, fun i _ h => by omega, brefl _⟩
  case round =>
    obtain ⟨k, rfl, hk, HA, hbr⟩ := hrel
    have BR := hide hbr
    clear hbr
    by_cases hkl : k < ps.length
    · have hkl' : (k : Int) < (ps.length : Int) := by omega
      obtain ⟨b, off, hpo, h6⟩ : ∃ b off, po = some ⟨b, off, none⟩ ∧ Six W b (off + k * 3) (Pa.enc ps[k]) := by
        rcases HP.out with h | ⟨b, off, h1, h2⟩
        · rw [h] at hkl; simp at hkl
        · exact ⟨b, off, h1, h2 k hkl⟩
      subst hpo
      obtain ⟨e0, e1, e2⟩ := six3_at (six_below h6 BR.out)
      have CC := hide (CW.out k hkl wr BR.out)
      clear h6
      cases hwi : within ps[k] x with
      | true =>
        rw [hwi] at CC
        have HR : Hid (t = true) := by show _ = _; rw [ht.out, List.any_eq_true]; exact ⟨ps[k], List.getElem_mem hkl, hwi⟩
        clear hwi
        generalize ps[k] = q at *
        go_wp2_with fail
        refine CC.out.mono ?_
        rintro e w1 ⟨rfl, hb⟩
        have B1 := hide (bthen BR.out hb)
        clear hb CC
        go_wp2_with fail
        go_ret
        exact ⟨⟨k, rfl, iff_of_true (by omega) HR.out⟩, B1.out⟩
      | false =>
        rw [hwi] at CC
        have HA2 : Hid (∀ i (h : i < ps.length), i < k + 1 → within ps[i] x = false) := by
          intro i h hi
          by_cases he : i = k
          · subst he; exact hwi
          · exact HA.out i h (by omega)
        clear hwi
        generalize ps[k] = q at *
        go_wp2_with fail
        refine CC.out.mono ?_
        rintro e w1 ⟨rfl, hb⟩
        have B1 := hide (bthen BR.out hb)
        clear hb CC
        go_wp2_with fail
        exact ⟨⟨k + 1, by go_num, by omega, HA2, B1.out⟩, by simp [intOf] <;> omega⟩
    · have hkl' : ¬ (k : Int) < (ps.length : Int) := by omega
      have HR : Hid (t = false) := by
        show _ = _
        rw [ht.out, List.any_eq_false]
        intro p hp
        obtain ⟨i, hi, rfl⟩ := List.getElem_of_mem hp
        simp [HA.out i hi (by omega)]
      go_wp2_with fail
      go_ret
      exact ⟨⟨-1, rfl, iff_of_false (by decide) (by rw [HR.out]; decide)⟩, BR.out⟩
theorem contains_is (ps : List Prt) (x : Int) (g : Nat) (po : Option Addr) (pc : Nat) (W : World) (hn : ps.length ≤ 100000) (hp : Pa.slot W po ps) (hg : W.cell? ⟨g, 0, none⟩ = some (.int .i64 x)) (t : Bool) (ht : t = ps.any fun p => within p x) :
    Calls Tryz.prog 191 #[.slice po ps.length pc, .func (.func 190) #[] #[.pointer (some ⟨g, 0, none⟩)]] W fun e w' => e = .returned (.bool t) ∧ Below W.heap.size W w' := by
  have CI := hide (index_is ps x g po pc W hn hp hg t ht)
  clear ht hp hg
  go_enter Tryz.func191, Tryz.ntmps191
  go_wp2_with fail
  refine CI.out.mono ?_
  rintro e w1 ⟨⟨r, rfl, hr⟩, hb⟩
  have B1 := hide hb
  clear hb CI
  cases t with
  | true =>
    have h0 : 0 ≤ r := hr.2 rfl
    clear hr
    go_wp2_with fail
    go_ret
    exact ⟨rfl, B1.out⟩
  | false =>
    have h0 : ¬ 0 ≤ r := fun h => by have := hr.1 h; cases this
    clear hr
    go_wp2_with fail
    go_ret
    exact ⟨ret_bool (decide_eq_false (by omega)), B1.out⟩
set_option maxHeartbeats 4000000 in
theorem has_is5 (k : Int) (ps : List Prt) (x : Int) (po : Option Addr) (pc : Nat) (u : Value) (hu : u.oneCell' = true) (W : World) (hn : ps.length ≤ 100000) (hp : Pa.slot W po ps) (t : Bool) (ht : t = (decide (k = 1) || ps.any fun p => within p x)) :
    Calls Tryz.prog 165 #[.agg #[.int .i64 k, .slice po ps.length pc, u], .int .i64 x] W fun e w' => e = .returned (.bool t) ∧ Below W.heap.size W w' := by
  have B0 := hide (balloc (balloc (brefl W) (.cells #[.int .i64 k, .slice po ps.length pc, u] 136)) (.cells #[.int .i64 x] 3))
  have s2 := fun w a m => run_store Tryz.prog w a u m hu
  by_cases hk : k = 1
  · subst hk
    obtain rfl : t = true := by rw [ht]; rfl
    clear ht hp
    go_enter Tryz.func165, Tryz.ntmps165
    go_wp2_with fail
    go_ret
    exact ⟨rfl, B0.out⟩
  · have ht2 : t = ps.any fun p => within p x := by rw [ht]; simp [hk]
    have hk' : (k == 1) = false := by simpa using hk
    have CC := hide (contains_is ps x (W.heap.size + 1) po pc _ hn (Pa.slot_below hp B0.out) (by simp) t ht2)
    clear ht ht2 hp hk
    go_enter Tryz.func165, Tryz.ntmps165
    go_wp2_with fail
    refine CC.out.mono ?_
    rintro e w1 ⟨rfl, hb⟩
    have B1 := hide (bthen B0.out hb)
    clear hb CC
    go_wp2_with fail
    go_ret
    exact ⟨rfl, B1.out⟩
end Go.Proofs.YtngfoijmknclhaaGreatDoor.Ar
namespace Go.Proofs.YtngfoijmknclhaaGreatDoor.Ar
open Go.RowKit Go.Sort
theorem and_bit (m i : Nat) : (m &&& 2 ^ i = 0) ↔ m.testBit i = false := by
  constructor
  · intro h
    have := congrArg (fun z => Nat.testBit z i) h
    simpa [Nat.testBit_and, Nat.testBit_two_pow_self] using this
  · intro h
    apply Nat.eq_of_testBit_eq
    intro j
    rw [Nat.testBit_and, Nat.testBit_two_pow, Nat.zero_testBit]
    by_cases hj : i = j
    · subst hj; simp [h]
    · simp [hj]
theorem pow_le17 (i : Nat) (h : i ≤ 17) : 2 ^ i ≤ 131072 := by
  have : 2 ^ i ≤ 2 ^ 17 := Nat.pow_le_pow_right (by decide) h
  simpa using this
theorem bit_test (m i : Nat) (hm : m < 131072) (hi : i ≤ 17) : (bits .and .u32 (m : Int) ((2 ^ i : Nat) : Int) != 0) = m.testBit i := by
  have h17 := pow_le17 i hi
  rw [u32_and_nat m (2 ^ i) (by omega) (by omega)]
  cases h : m.testBit i with
  | false => rw [(and_bit m i).2 h]; rfl
  | true =>
    have : m &&& 2 ^ i ≠ 0 := fun e => by rw [(and_bit m i).1 e] at h; cases h
    simp only [bne_iff_ne, ne_eq]
    omega
theorem or_lt (a b : Nat) (ha : a < 131072) (hb : b < 131072) : a ||| b < 131072 := by
  have := Nat.or_lt_two_pow (n := 17) (by simpa using ha) (by simpa using hb)
  simpa using this
/-- Where one number goes. -/
def StepTo (p : List Int) (f : Int → Bool) (m : Nat) (j : Nat) (E : Nat) : Prop := ∀ k, E.testBit k = true ↔ ∃ i, ∃ h : i < p.length, i < j ∧ k = i + 1 ∧ m.testBit i = true ∧ f p[i] = true
theorem step_skip {p : List Int} {f : Int → Bool} {m j E : Nat} (h : StepTo p f m j E) (hj : j < p.length) (hn : m.testBit j = false ∨ f p[j] = false) : StepTo p f m (j + 1) E := by
  intro k
  rw [h k]
  constructor
  · rintro ⟨i, h1, h2, h3⟩
    exact ⟨i, h1, by omega, h3⟩
  · rintro ⟨i, h1, h2, h3, h4, h5⟩
    by_cases he : i = j
    · subst he
      rcases hn with hn | hn
      · rw [hn] at h4; cases h4
      · rw [hn] at h5; cases h5
    · exact ⟨i, h1, by omega, h3, h4, h5⟩
theorem step_take {p : List Int} {f : Int → Bool} {m j E : Nat} (h : StepTo p f m j E) (hj : j < p.length) (h1 : m.testBit j = true) (h2 : f p[j] = true) : StepTo p f m (j + 1) (E ||| 2 ^ (j + 1)) := by
  intro k
  rw [Nat.testBit_or, Bool.or_eq_true, h k, Nat.testBit_two_pow, decide_eq_true_eq]
  constructor
  · rintro (⟨i, a1, a2, a3⟩ | rfl)
    · exact ⟨i, a1, by omega, a3⟩
    · exact ⟨j, hj, by omega, rfl, h1, h2⟩
  · rintro ⟨i, a1, a2, a3, a4, a5⟩
    by_cases he : i = j
    · subst he; exact .inr a3.symm
    · exact .inl ⟨i, a1, by omega, a3, a4, a5⟩
theorem step_lt {p : List Int} {f : Int → Bool} {m j E : Nat} (h : StepTo p f m j E) (hp : p.length ≤ 16) : E < 131072 := by
  have : InPath p E := fun k hk => by
    obtain ⟨i, a1, _, a3, _⟩ := (h k).1 hk
    omega
  exact this.lt hp

set_option maxHeartbeats 8000000 in
set_option maxRecDepth 100000 in
theorem step_is5 (kd : Int) (ps : List Prt) (po : Option Addr) (pc : Nat) (u : Value) (hu : u.oneCell' = true) (f : Int → Bool) (hf : Hid (∀ x, f x = (decide (kd = 1) || ps.any fun q => within q x))) (p : List Int) (ao : Option Addr) (ca m : Nat) (w : World) (hn : ps.length ≤ 100000) (hp : Pa.slot w po ps) (hA : Is.slot w ao p) (hl : p.length ≤ 16) (hm : m < 131072) (W : World) (hW : Below w.heap.size w W) :
    Calls Tryz.prog 144 #[.agg #[.int .i64 kd, .slice po ps.length pc, u], .slice ao p.length ca, .int .u32 (m : Int)] W fun e w' => (∃ E : Nat, e = .returned (.int .u32 (E : Int)) ∧ E < 131072 ∧ Hid (StepTo p f m p.length E)) ∧ Below W.heap.size W w' := by
  have HA := hide hA
  have HP := hide hp
  have HW := hide hW
  have B0 := hide (balloc (brefl W) (.cells #[.int .i64 kd, .slice po ps.length pc, u] 136))
  have X0 := hide (box3_new W (.int .i64 kd) (.slice po ps.length pc) u 136)
  have s2 := fun w a m => run_store Tryz.prog w a u m hu
  have hS0 : Hid (StepTo p f m 0 0) := by
    intro k
    simp
  clear hp hA hW
  go_enter Tryz.func144, Tryz.ntmps144
  go_wp2_with fail
  generalize W.alloc (.cells #[.int .i64 kd, .slice po ps.length pc, u] 136) = W1 at *
  go_loopw [7, 12] (fun v7 v12 wr => ∃ (j E : Nat), v12 = .int .i64 j ∧ v7 = .int .u32 (E : Int) ∧ j ≤ p.length ∧ E < 131072 ∧ Hid (StepTo p f m j E) ∧ Below W1.heap.size W1 wr) (fun _ v12 _ => p.length - (intOf v12).toNat)
  case atStart => exact ⟨0, 0, rfl, rfl, Nat.zero_le _, by decide, hS0, brefl _⟩
  case round =>
    obtain ⟨j, E, rfl, rfl, hj, hE, HS, hbr⟩ := hrel
    have BR := hide hbr
    clear hbr
    by_cases hjl : j < p.length
    · have hjl' : (j : Int) < (p.length : Int) := by omega
      obtain ⟨b, off, rfl, hrd⟩ := Is.slot_at HA.out hjl
      have e0 := Is.reads_below (Is.reads_below hrd HW.out) (bthen B0.out BR.out) j hjl
      obtain ⟨x0, x1, x2⟩ := box3_below X0.out BR.out
      have C1 := hide (at_is j (by omega) (j : Int) rfl wr)
      have hbt := bit_test m j hm (by omega)
      clear hrd
      cases hb : m.testBit j with
      | false =>
        rw [hb] at hbt
        have HS2 := hide (step_skip HS.out hjl (.inl hb))
        clear hb
        generalize ((2 ^ j : Nat) : Int) = A at *
        go_wp2_with fail
        refine C1.out.mono ?_
        rintro e w1 ⟨rfl, hw⟩
        have hw' := hw.symm
        clear hw C1
        subst hw'
        go_wp2_with fail
        exact ⟨⟨j + 1, E, by go_num, rfl, by omega, hE, HS2, BR.out⟩, by simp [intOf] <;> omega⟩
      | true =>
        rw [hb] at hbt
        have C2 := hide (has_is5 kd ps p[j] po pc u hu wr hn (Pa.slot_below (Pa.slot_below HP.out HW.out) (bthen B0.out BR.out)) (f p[j]) (hf.out _))
        cases hfj : f p[j] with
        | false =>
          rw [hfj] at C2
          have HS2 := hide (step_skip HS.out hjl (.inr hfj))
          clear hb hfj
          generalize p[j] = y at *
          generalize ((2 ^ j : Nat) : Int) = A at *
          go_wp2_with fail
          refine C1.out.mono ?_
          rintro e w1 ⟨rfl, hw⟩
          have hw' := hw.symm
          clear hw C1
          subst hw'
          go_wp2_with fail
          refine C2.out.mono ?_
          rintro e w2 ⟨rfl, hb2⟩
          have B2 := hide (bthen BR.out hb2)
          clear hb2 C2
          go_wp2_with fail
          exact ⟨⟨j + 1, E, by go_num, rfl, by omega, hE, HS2, B2.out⟩, by simp [intOf] <;> omega⟩
        | true =>
          rw [hfj] at C2
          have HS2 := hide (step_take HS.out hjl hb hfj)
          have hlt2 := step_lt HS2.out hl
          have h17 := pow_le17 (j + 1) (by omega)
          have hor := u32_or_nat E (2 ^ (j + 1)) (by omega) (by omega)
          have C3 := hide (fun w => at_is (j + 1) (by omega) ((j : Int) + 1) (by omega) w)
          clear hb hfj h17
          generalize p[j] = y at *
          generalize ((2 ^ j : Nat) : Int) = A at *
          generalize hE2 : E ||| 2 ^ (j + 1) = E2 at *
          clear hE2
          generalize ((2 ^ (j + 1) : Nat) : Int) = A2 at *
          go_wp2_with fail
          refine C1.out.mono ?_
          rintro e w1 ⟨rfl, hw⟩
          have hw' := hw.symm
          clear hw C1
          subst hw'
          go_wp2_with fail
          refine C2.out.mono ?_
          rintro e w2 ⟨rfl, hb2⟩
          have B2 := hide (bthen BR.out hb2)
          have D3 := hide (C3.out w2)
          clear hb2 C2 C3
          go_wp2_with fail
          refine D3.out.mono ?_
          rintro e w3 ⟨rfl, hw⟩
          have hw' := hw.symm
          clear hw D3
          subst hw'
          go_wp2_with fail
          exact ⟨⟨j + 1, E2, by go_num, rfl, by omega, hlt2, HS2, B2.out⟩, by simp [intOf] <;> omega⟩
    · have hjl' : ¬ (j : Int) < (p.length : Int) := by omega
      obtain rfl : j = p.length := by omega
      go_wp2_with fail
      go_ret
      exact ⟨⟨E, rfl, hE, HS⟩, bthen B0.out BR.out⟩
end Go.Proofs.YtngfoijmknclhaaGreatDoor.Ar
namespace Go.Proofs.YtngfoijmknclhaaGreatDoor.Ar
open Go.RowKit Go.Sort
/-- What is asked of the places behind a node. -/
def EndsAt (p : List Int) (ao : Option Addr) (ca : Nat) (P : List Int → Prop) (w : World) (cs : List Value) : Prop :=
  ∀ m : Nat, InPath p m → ∀ W, Below w.heap.size w W → Calls Tryz.prog 108 #[.agg cs.toArray, .slice ao p.length ca, .int .u32 (m : Int)] W fun e w' => (∃ E : Nat, e = .returned (.int .u32 (E : Int)) ∧ E < 131072 ∧ Hid (EndsTo p P m E)) ∧ Below W.heap.size W w'
def ofMes (v2 v7 : Value) : Nat := lacks (intOf v7).toNat + (if (intOf v2).toNat = 0 then 0 else 1)
theorem ofMes_int (F E : Nat) : ofMes (.int .u32 (F : Int)) (.int .u32 (E : Int)) = lacks E + (if F = 0 then 0 else 1) := rfl

set_option maxHeartbeats 8000000 in
set_option maxRecDepth 100000 in
theorem often_is5 {p : List Int} (hl : p.length ≤ 16) {ao : Option Addr} {ca : Nat} {P : List Int → Prop} {w : World} {x0 x1 x2 : Value} (h1 : One3 x0 x1 x2) (hC : EndsAt p ao ca P w [x0, x1, x2]) (m : Nat) (hm : InPath p m) (W : World) (hW : Below w.heap.size w W) :
    Calls Tryz.prog 143 #[.agg #[x0, x1, x2], .slice ao p.length ca, .int .u32 (m : Int)] W fun e w' => (∃ E : Nat, e = .returned (.int .u32 (E : Int)) ∧ E < 131072 ∧ Hid (EndsTo p (Plus P) m E)) ∧ Below W.heap.size W w' := by
  obtain ⟨o0, o1, o2⟩ := h1
  have s0 := fun w a m => run_store Tryz.prog w a x0 m o0
  have s1 := fun w a m => run_store Tryz.prog w a x1 m o1
  have s2 := fun w a m => run_store Tryz.prog w a x2 m o2
  have B0 := hide (balloc (brefl W) (.cells #[x0, x1, x2] 136))
  have X0 := hide (box3_new W x0 x1 x2 136)
  have HC := hide hC
  have HW := hide hW
  have HO : Hid (Often p P m m 0) := often_start hm
  have hm2 := hm.lt hl
  clear hC hW hm
  go_enter Tryz.func143, Tryz.ntmps143
  go_wp2_with fail
  generalize W.alloc (.cells #[x0, x1, x2] 136) = W1 at *
  go_loopw [2, 7] (fun v2 v7 wr => ∃ (F E : Nat), v2 = .int .u32 (F : Int) ∧ v7 = .int .u32 (E : Int) ∧ F < 131072 ∧ E < 131072 ∧ Hid (Often p P m F E) ∧ Below W1.heap.size W1 wr) (fun v2 v7 _ => ofMes v2 v7)
  case atStart => exact ⟨m, 0, rfl, rfl, hm2, by decide, HO, brefl _⟩
  case round =>
    obtain ⟨F, E, rfl, rfl, hF, hE, HOF, hbr⟩ := hrel
    have BR := hide hbr
    clear hbr
    by_cases hF0 : F = 0
    · subst hF0
      have HD := hide (often_done HOF.out)
      go_wp2_with fail
      go_ret
      exact ⟨⟨E, rfl, hE, HD⟩, bthen B0.out BR.out⟩
    · have hFi : ((F : Int) != 0) = true := by simpa using hF0
      have CC := hide (HC.out F HOF.out.inF wr (bthen HW.out (bthen B0.out BR.out)))
      obtain ⟨c0, c1, c2⟩ := box3_below X0.out BR.out
      go_wp2_with fail
      refine CC.out.mono ?_
      rintro e w1 ⟨⟨N, rfl, hN, HN⟩, hb⟩
      have B1 := hide (bthen BR.out hb)
      have han := u32_andNot_nat N E (by omega) (by omega)
      have hF'lt : N &&& (4294967295 - E) < 131072 := by
        have := Nat.and_lt_two_pow (n := 17) (4294967295 - E) (by simpa using hN : N < 2 ^ 17)
        rw [Nat.and_comm] at this
        first
          | simpa using this
          | (have h2 := Nat.and_le_left (n := N) (m := 4294967295 - E); omega)
      have hbF := fun k => bit_andNot N E k (by omega) (by omega)
      have hor := u32_or_nat E (N &&& (4294967295 - E)) (by omega) (by omega)
      have hElt := or_lt E (N &&& (4294967295 - E)) hE hF'lt
      have hbE := fun k => Nat.testBit_or E (N &&& (4294967295 - E)) k
      have HO2 := hide (often_step HOF.out HN.out hbF hbE)
      generalize hFF : N &&& (4294967295 - E) = F' at *
      generalize hEE : E ||| F' = E' at *
      have HM : Hid (ofMes (.int .u32 (F' : Int)) (.int .u32 (E' : Int)) < ofMes (.int .u32 (F : Int)) (.int .u32 (E : Int))) := by
        show _ < _
        have hmono : ∀ k, E.testBit k = true → E'.testBit k = true := fun k hk => by rw [hbE k, hk]; rfl
        have hle := lacks_le hmono
        rw [ofMes_int, ofMes_int, if_neg hF0]
        by_cases hF' : F' = 0
        · rw [if_pos hF']
          omega
        · rw [if_neg hF']
          obtain ⟨k, hk⟩ := Nat.exists_testBit_of_ne_zero hF'
          have hk2 := hbF k
          rw [hk] at hk2
          have hk3 : E.testBit k = false := by
            cases hEk : E.testBit k with
            | false => rfl
            | true => rw [hEk] at hk2; simp at hk2
          have := lacks_lt hmono (by have := HO2.out.inF k hk; omega) hk3 (by rw [hbE k, hk]; simp)
          omega
      clear hb CC hFF hEE hbF hbE
      go_wp2_with fail
      exact ⟨⟨F', E', rfl, rfl, hF'lt, hElt, HO2, B1.out⟩, HM.out⟩
end Go.Proofs.YtngfoijmknclhaaGreatDoor.Ar
