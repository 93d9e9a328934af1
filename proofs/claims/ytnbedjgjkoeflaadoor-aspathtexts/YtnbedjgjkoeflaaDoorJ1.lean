/- What the laws of stage 4 ask of the program, and the law's lives. -/
import Derived.Test.YtnbedjgjkoeflaaDoorH11
import Derived.Test.YtnbedjgjkoeflaaDoorH7
import Derived.Test.YtnbedjgjkoeflaaDoorH5
import Derived.Test.YtnbedjgjkoeflaaDoorH2
namespace Go.Proofs.YtnbedjgjkoeflaaDoor
open Go.RowKit Go.Sort

def Is.first (l : List Int) : Int := l.head?.getD 0
def Is.origin (l : List Int) : Int := l.getLast?.getD 0
def Is.tail (p q : List Int) : Bool := decide (q.length ≤ p.length) && decide (p.drop (p.length - q.length) = q)
def Is.short (l : List Int) : List Int := (Ru.runs l).map fun r => r.1
/-- Numbers that a call hands back: none, or a row of its own. -/
def Mine (w' : World) (B : Nat) (o : Option Addr) (c : Nat) (x : List Int) : Prop := (x = [] ∨ w'.ownsRow B 3 1 (.slice o x.length c) x.length (Is.cells x)) ∧ came o c
theorem Mine.slot {w' : World} {B : Nat} {o : Option Addr} {c : Nat} {x : List Int} (h : Mine w' B o c x) : Is.slot w' o x := by
  rcases h.1 with h | h
  · exact .inl h
  · exact Is.slot_own h
theorem Mine.below {w' w2 : World} {B : Nat} {o : Option Addr} {c : Nat} {x : List Int} (h : Mine w' B o c x) (hb : Below w'.heap.size w' w2) : Mine w2 B o c x :=
  ⟨h.1.imp id fun h => row_below h hb, h.2⟩
theorem Mine.own {w' : World} {B : Nat} {o : Option Addr} {c : Nat} {x : List Int} (h : w'.ownsRow B 3 1 (.slice o x.length c) x.length (Is.cells x)) : Mine w' B o c x := ⟨.inr h, own_came h⟩
def PathOk (w : World) (x : List Int) (q : Int) (e : Ending) (w' : World) : Prop := ∃ (o : Option Addr) (c : Nat), e = .returned (.tuple #[.slice o x.length c, .int .i64 q]) ∧ Mine w' w.heap.size o c x ∧ Below w.heap.size w w'
/-- Numbers that a call hands back, wherever they lie. -/
def RowGood (w : World) (x : List Int) (e : Ending) (w' : World) : Prop := ∃ (o : Option Addr) (c : Nat), e = .returned (.slice o x.length c) ∧ Is.slot w' o x ∧ Below w.heap.size w w'

/-- The contracts of the program's functions, over what must be laid. -/
structure Kit (T : World → Prop) : Prop where
  on : ∀ {w w' : World}, T w → Below w.heap.size w w' → T w'
  may : ∀ (ao : Option Addr) (ca : Nat) (l : List Int) (r : Bool), Is.may l = r → ∀ W, T W → Is.slot W ao l → l.length ≤ 320 → Calls Tryd.prog 13 #[.slice ao l.length ca] W fun e w' => e = .returned (.bool r) ∧ Below W.heap.size W w'
  text : ∀ (ao : Option Addr) (ca : Nat) (l : List Int) (t : ByteArray), t = ⟨(Is.text l).toArray⟩ → ∀ W, T W → Is.slot W ao l → l.length ≤ 320 → Calls Tryd.prog 15 #[.slice ao l.length ca] W fun e w' => e = .returned (.string t) ∧ Below W.heap.size W w'
  prepend : ∀ (ao : Option Addr) (ca : Nat) (l : List Int) (n t : Int) (x : List Int) (q : Int), Is.prepend l n t = (x, q) → ∀ W, T W → Is.slot W ao l → came ao ca → l.length ≤ 320 → Calls Tryd.prog 18 #[.slice ao l.length ca, .int .i64 n, .int .i64 t] W (PathOk W x q)
  has : ∀ (ao : Option Addr) (ca : Nat) (l : List Int) (n : Int) (r : Bool), l.contains n = r → ∀ W, T W → Is.slot W ao l → l.length ≤ 320 → Calls Tryd.prog 20 #[.slice ao l.length ca, .int .i64 n] W fun e w' => e = .returned (.bool r) ∧ Below W.heap.size W w'
  first : ∀ (ao : Option Addr) (ca : Nat) (l : List Int) (r : Int), Is.first l = r → ∀ W, T W → Is.slot W ao l → l.length ≤ 320 → Calls Tryd.prog 22 #[.slice ao l.length ca] W fun e w' => e = .returned (.int .i64 r) ∧ Below W.heap.size W w'
  origin : ∀ (ao : Option Addr) (ca : Nat) (l : List Int) (r : Int), Is.origin l = r → ∀ W, T W → Is.slot W ao l → l.length ≤ 320 → Calls Tryd.prog 23 #[.slice ao l.length ca] W fun e w' => e = .returned (.int .i64 r) ∧ Below W.heap.size W w'
  loops : ∀ (ao : Option Addr) (ca : Nat) (l : List Int) (r : Bool), Is.loops l = r → ∀ W, T W → Is.slot W ao l → l.length ≤ 320 → Calls Tryd.prog 24 #[.slice ao l.length ca] W fun e w' => e = .returned (.bool r) ∧ Below W.heap.size W w'
  compare : ∀ (ao bo : Option Addr) (ca cb : Nat) (a b : List Int) (r : Int), Is.compare a b = r → ∀ W, T W → Is.slot W ao a → Is.slot W bo b → a.length ≤ 320 → b.length ≤ 320 → Calls Tryd.prog 26 #[.slice ao a.length ca, .slice bo b.length cb] W fun e w' => e = .returned (.int .i64 r) ∧ Below W.heap.size W w'
  tail : ∀ (ao bo : Option Addr) (ca cb : Nat) (a b : List Int) (r : Bool), Is.tail a b = r → ∀ W, T W → Is.slot W ao a → Is.slot W bo b → came ao ca → a.length ≤ 320 → b.length ≤ 320 → Calls Tryd.prog 28 #[.slice ao a.length ca, .slice bo b.length cb] W fun e w' => e = .returned (.bool r) ∧ Below W.heap.size W w'
  runs : ∀ (ao : Option Addr) (ca : Nat) (l : List Int) (x : List Ru.C), Ru.runs l = x → ∀ W, T W → Is.slot W ao l → l.length ≤ 320 → Calls Tryd.prog 29 #[.slice ao l.length ca] W (RunsGood W x)
  of : ∀ (ao : Option Addr) (ca : Nat) (x : List Ru.C) (y : List Int) (q : Int), Is.of x = (y, q) → ∀ W, T W → Ru.slot W ao x → x.length ≤ 320 → Calls Tryd.prog 30 #[.slice ao x.length ca] W (PathGood W y q)
  short : ∀ (ao : Option Addr) (ca : Nat) (l x : List Int), Is.short l = x → ∀ W, T W → Is.slot W ao l → l.length ≤ 320 → Calls Tryd.prog 34 #[.slice ao l.length ca] W (RowGood W x)

/-- The contract of the program's Parse. -/
structure ParseKit (T : World → Prop) : Prop where
  on : ∀ {w w' : World}, T w → Below w.heap.size w w' → T w'
  parse : ∀ (s : ByteArray) (y : List Int) (q : Int), s.size ≤ 2000 → Is.parse s.data.toList = (y, q) → ∀ W, T W → Calls Tryd.prog 11 #[.string s] W (PathGood W y q)

theorem Is.slot_two (W : World) (a b : Int) (t : TypeId) : Is.slot (W.alloc (.cells #[.int .i64 a, .int .i64 b] t)) (some ⟨W.heap.size, 0, none⟩) [a, b] := by
  refine .inr ⟨_, 0, rfl, fun j hj => ?_⟩
  match j, hj with
  | 0, _ => simp
  | 1, _ => simp
theorem Ru.slot_three (W : World) (a b c d e f : Int) (t : TypeId) : Ru.slot (W.alloc (.cells #[.int .i64 a, .int .i64 b, .int .i64 c, .int .i64 d, .int .i64 e, .int .i64 f] t)) (some ⟨W.heap.size, 0, none⟩) [(a, b), (c, d), (e, f)] := by
  refine .inr ⟨_, 0, rfl, fun j u hu => ?_⟩
  have hj : j < 6 := by have := (List.getElem?_eq_some_iff.1 hu).1; simpa [Ru.cells, Ru.enc] using this
  simp [Ru.cells, Ru.enc] at hu
  match j, hj with
  | 0, _ => simp at hu ⊢; exact hu
  | 1, _ => simp at hu ⊢; exact hu
  | 2, _ => simp at hu ⊢; exact hu
  | 3, _ => simp at hu ⊢; exact hu
  | 4, _ => simp at hu ⊢; exact hu
  | 5, _ => simp at hu ⊢; exact hu

theorem lives_text : Is.text [65000, 65000, 1, 2] = [54, 53, 48, 48, 48, 32, 54, 53, 48, 48, 48, 32, 49, 32, 50] := by
  have e1 : Lib.itoa 65000 = [54, 53, 48, 48, 48] := by
    rw [show (65000 : Int) = ((65000 : Nat) : Int) from rfl, Lib.itoa_nonneg, show (65000 : Nat) = 10 * 6500 + 0 from rfl, dec_step _ _ (by decide) (by decide), show (6500 : Nat) = 10 * 650 + 0 from rfl, dec_step _ _ (by decide) (by decide), show (650 : Nat) = 10 * 65 + 0 from rfl, dec_step _ _ (by decide) (by decide), show (65 : Nat) = 10 * 6 + 5 from rfl, dec_step _ _ (by decide) (by decide), Lib.decDigits_one (by decide)]
    rfl
  have e2 : Lib.itoa 1 = [49] := by
    rw [show (1 : Int) = ((1 : Nat) : Int) from rfl, Lib.itoa_nonneg, Lib.decDigits_one (by decide)]
    rfl
  have e3 : Lib.itoa 2 = [50] := by
    rw [show (2 : Int) = ((2 : Nat) : Int) from rfl, Lib.itoa_nonneg, Lib.decDigits_one (by decide)]
    rfl
  unfold Is.text
  rw [if_pos (by decide)]
  simp only [List.map_cons, List.map_nil, e1, e2, e3]
  decide

set_option maxHeartbeats 4000000 in
theorem lives_is {T : World → Prop} (K : Kit T) (w : World) (hT : T w) : Calls Tryd.prog 10 #[] w fun e w' => e = .returned (.bool true) ∧ Below w.heap.size w w' := by
  have B0 := hide (balloc (brefl w) (.cells #[.int .i64 1, .int .i64 2] 3))
  have CP := hide (K.prepend (some ⟨w.heap.size, 0, none⟩) 2 [1, 2] 65000 2 [65000, 65000, 1, 2] 0 (by decide) _ (K.on hT B0.out) (Is.slot_two w 1 2 3) (came_some _ _ _) (by decide))
  obtain ⟨t, ht⟩ : ∃ t : ByteArray, t = ⟨(Is.text [65000, 65000, 1, 2]).toArray⟩ := ⟨_, rfl⟩
  have HTX := hide ht
  rw [lives_text] at ht
  have HT := hide (K.on hT B0.out)
  clear hT
  go_enter Tryd.func10, Tryd.ntmps10
  go_wp2_with fail
  generalize w.alloc (.cells #[.int .i64 1, .int .i64 2] 3) = W0 at *
  refine CP.out.mono ?_
  rintro e w1 ⟨o, c, rfl, hown, hb1⟩
  have CT := hide (K.text o c [65000, 65000, 1, 2] t HTX.out w1 (K.on HT.out hb1) hown.slot (by decide))
  have HO := hide hown
  have HT1 := hide (K.on HT.out hb1)
  have B1 := hide (bthen B0.out hb1)
  clear hown hb1 CP HT HTX
  subst ht
  go_wp2_with fail
  refine CT.out.mono ?_
  rintro e w2 ⟨rfl, hb2⟩
  have CR := hide (K.runs o c [65000, 65000, 1, 2] [(65000, 2), (1, 1), (2, 1)] (by decide) w2 (K.on HT1.out hb2) (HO.out.below hb2).slot (by decide))
  have B2 := hide (bthen B1.out hb2)
  clear hb2 CT HO HT1
  go_wp2_with fail
  refine CR.out.mono ?_
  rintro e w3 ⟨o2, c2, rfl, hown, hb3⟩
  have B3 := hide (balloc (bthen B2.out hb3) (.cells #[.int .i64 65000, .int .i64 2, .int .i64 1, .int .i64 1, .int .i64 2, .int .i64 1] 42))
  have CS := hide (sameRuns_is o2 (some ⟨w3.heap.size, 0, none⟩) c2 3 [(65000, 2), (1, 1), (2, 1)] [(65000, 2), (1, 1), (2, 1)] true (by decide) _ (Ru.slot_below (Ru.slot_own hown) (balloc (brefl w3) (.cells #[.int .i64 65000, .int .i64 2, .int .i64 1, .int .i64 1, .int .i64 2, .int .i64 1] 42))) (Ru.slot_three w3 65000 2 1 1 2 1 42) (by decide))
  clear hown hb3 CR
  go_wp2_with fail
  refine CS.out.mono ?_
  rintro e w4 ⟨rfl, hb4⟩
  go_wp2_with fail
  go_ret
  exact ⟨rfl, bthen B3.out hb4⟩
end Go.Proofs.YtnbedjgjkoeflaaDoor
