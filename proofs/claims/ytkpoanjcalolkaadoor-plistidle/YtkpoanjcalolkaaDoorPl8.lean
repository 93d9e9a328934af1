import Derived.Test.YtkpoanjcalolkaaDoorPl6
import Derived.Test.YtkpoanjcalolkaaDoorL1
/- A rule's text, by plist and by the document; and that the laws' own lives answers true. -/
namespace Go.Proofs.YtkpoanjcalolkaaDoor
open Go.RowKit

theorem Ad.textI_len (a b : Int) (h0 : 0 ≤ b) (h1 : b ≤ 32) : (Ad.textI a b).length ≤ 100 := by
  rw [Ad.textI_eq]
  have l := fun j => Ad.itoa_len3 _ (Ad.oct_bd a j).1 (by have := (Ad.oct_bd a j).2; omega)
  have l0 := l 0
  have l1 := l 1
  have l2 := l 2
  have l3 := l 3
  have l4 := Ad.itoa_len3 b h0 (by omega)
  simp only [List.length_append, List.length_cons]
  omega

theorem adds_list (x y : List UInt8) (h1 : x.length ≤ 1000) (h2 : y.length ≤ 1000) : Adds ⟨x.toArray⟩ ⟨y.toArray⟩ ⟨(x ++ y).toArray⟩ := by
  have sz : ∀ x : List UInt8, (⟨x.toArray⟩ : ByteArray).size = x.length := fun x => by simp [ByteArray.size]
  exact adds_mk _ _ _ (by rw [sz, sz]; unfold maxLen; omega) (Ad.ba_app x y)

/-- The word of a rule, without the blank. -/
def Ad.tword0 (p : Bool) : List UInt8 := if p = true then [112, 101, 114, 109, 105, 116] else [100, 101, 110, 121]
theorem Ad.tword_eq (p : Bool) : Ad.tword p = Ad.tword0 p ++ [32] := by cases p <;> rfl
theorem Ad.tword_len (p : Bool) : (Ad.tword p).length ≤ 7 := by cases p <;> decide
theorem Ad.tword0_len (p : Bool) : (Ad.tword0 p).length ≤ 6 := by cases p <;> decide
theorem Ad.word_is (p : Bool) : (⟨(Ad.tword p).toArray⟩ : ByteArray) = if p = true then ⟨#[112, 101, 114, 109, 105, 116, 32]⟩ else ⟨#[100, 101, 110, 121, 32]⟩ := by cases p <;> rfl
theorem Ad.word0_is (p : Bool) : (⟨(Ad.tword0 p).toArray⟩ : ByteArray) = if p = true then ⟨#[112, 101, 114, 109, 105, 116]⟩ else ⟨#[100, 101, 110, 121]⟩ := by cases p <;> rfl

theorem ptext_any (a b g l : Int) (p : Bool) (w : World) (ha : 0 ≤ a) (ha2 : a ≤ 4294967295) (ht : Tab w) :
    Calls Tryd.prog 16 #[.agg #[.int .u32 a, .int .i64 b, .int .i64 g, .int .i64 l, .bool p]] w fun e w' => e = .returned (.string ⟨(Ad.rtext (a, b, g, l, p)).toArray⟩) ∧ Below w.heap.size w w' := by
  cases hm : Ad.rmay (a, b, g, l, p)
  · have e : Ad.rtext (a, b, g, l, p) = [] := by unfold Ad.rtext; rw [if_neg (by rw [hm]; decide)]
    rw [e]
    exact ptext_not a b g l p w ha ha2 hm
  · have e : Ad.rtext (a, b, g, l, p) = Ad.tword p ++ Ad.textI a b ++ Ad.tge b g ++ Ad.tle g l := by unfold Ad.rtext; rw [if_pos hm]
    rw [e]
    obtain ⟨r1, r2, r3, r4⟩ := (Ad.rmay_iff _).1 hm
    simp only at r1 r2 r3 r4
    obtain ⟨b0, b1, _⟩ := (Ad.may_iff _ _).1 r1
    have L1 := Ad.textI_len a b b0 b1
    have L0 := Ad.tword_len p
    have Lg := Ad.itoa_len3 g (by omega) (by omega)
    have Ll := Ad.itoa_len3 l (by omega) (by omega)
    have CT : Hid (∀ W, Below w.heap.size w W → Calls Tryd.prog 32 #[.agg #[.int .u32 a, .int .i64 b]] W fun e w' => e = .returned (.string ⟨(Ad.textI a b).toArray⟩) ∧ Below W.heap.size W w') := hide fun W hW => text_may a b W ha ha2 r1 (ht.on hW)
    have CG : Hid (∀ W, Below w.heap.size w W → Calls Tryd.prog 33 #[.int .i64 g] W fun e w' => e = .returned (.string ⟨(Lib.itoa g).toArray⟩) ∧ Below W.heap.size W w') := hide fun W hW => itoa_any g (by omega) (by omega) W (ht.on hW)
    have CL : Hid (∀ W, Below w.heap.size w W → Calls Tryd.prog 33 #[.int .i64 l] W fun e w' => e = .returned (.string ⟨(Lib.itoa l).toArray⟩) ∧ Below W.heap.size W w') := hide fun W hW => itoa_any l (by omega) (by omega) W (ht.on hW)
    have K0 := adds_list (Ad.tword p) (Ad.textI a b) (by omega) (by omega)
    have KG := adds_list [32, 103, 101, 32] (Lib.itoa g) (by decide) (by omega)
    have KL := adds_list [32, 108, 101, 32] (Lib.itoa l) (by decide) (by omega)
    unfold Ad.tge Ad.tle
    by_cases hg : g = b
    · rw [if_pos hg, List.append_nil]
      by_cases hl : l = g
      · rw [if_pos hl, List.append_nil]
        exact ptext_00 a b g l p _ _ _ w ha ha2 hm (Ad.word_is p) K0 CT (by simpa using hg) (by simpa using hl)
      · rw [if_neg hl]
        exact ptext_01 a b g l p _ _ _ _ _ _ w ha ha2 hm (Ad.word_is p) K0 KL (adds_list _ _ (by simp; omega) (by simp; omega)) CT CL (by simpa using hg) (by simpa using hl)
    · rw [if_neg hg]
      have K1 := adds_list (Ad.tword p ++ Ad.textI a b) ([32, 103, 101, 32] ++ Lib.itoa g) (by simp; omega) (by simp; omega)
      by_cases hl : l = g
      · rw [if_pos hl, List.append_nil]
        exact ptext_10 a b g l p _ _ _ _ _ _ w ha ha2 hm (Ad.word_is p) K0 KG K1 CT CG (by simpa using hg) (by simpa using hl)
      · rw [if_neg hl]
        exact ptext_11 a b g l p _ _ _ _ _ _ _ _ _ w ha ha2 hm (Ad.word_is p) K0 KG K1 KL (adds_list _ _ (by simp; omega) (by simp; omega)) CT CG CL (by simpa using hg) (by simpa using hl)

theorem refText_may (a b : Int) (W : World) (ha : 0 ≤ a) (ha2 : a ≤ 4294967295) (hm : Ad.may a b = true) :
    Calls Tryd.prog 34 #[.agg #[.int .u32 a, .int .i64 b]] W fun e w' => e = .returned (.string ⟨(Ad.textI a b).toArray⟩) ∧ Below W.heap.size W w' := by
  have := refText_any a b W ha ha2
  unfold Ad.textA at this
  rw [if_pos hm] at this
  exact this

theorem refRText_any (a b g l : Int) (p : Bool) (w : World) (ha : 0 ≤ a) (ha2 : a ≤ 4294967295) :
    Calls Tryd.prog 17 #[.agg #[.int .u32 a, .int .i64 b, .int .i64 g, .int .i64 l, .bool p]] w fun e w' => e = .returned (.string ⟨(Ad.rtext (a, b, g, l, p)).toArray⟩) ∧ Below w.heap.size w w' := by
  cases hm : Ad.rmay (a, b, g, l, p)
  · have e : Ad.rtext (a, b, g, l, p) = [] := by unfold Ad.rtext; rw [if_neg (by rw [hm]; decide)]
    rw [e]
    exact refRText_not a b g l p w ha ha2 hm
  · have e : Ad.rtext (a, b, g, l, p) = Ad.tword0 p ++ [32] ++ Ad.textI a b ++ Ad.tge b g ++ Ad.tle g l := by unfold Ad.rtext; rw [if_pos hm, Ad.tword_eq]
    rw [e]
    obtain ⟨r1, r2, r3, r4⟩ := (Ad.rmay_iff _).1 hm
    simp only at r1 r2 r3 r4
    obtain ⟨b0, b1, _⟩ := (Ad.may_iff _ _).1 r1
    have L1 := Ad.textI_len a b b0 b1
    have L0 := Ad.tword0_len p
    have Lg := Ad.itoa_len3 g (by omega) (by omega)
    have Ll := Ad.itoa_len3 l (by omega) (by omega)
    have CT : Hid (∀ W, Below w.heap.size w W → Calls Tryd.prog 34 #[.agg #[.int .u32 a, .int .i64 b]] W fun e w' => e = .returned (.string ⟨(Ad.textI a b).toArray⟩) ∧ Below W.heap.size W w') := hide fun W _ => refText_may a b W ha ha2 r1
    have CG : Hid (∀ W, Below w.heap.size w W → Calls Tryd.prog 35 #[.int .i64 g] W fun e w' => e = .returned (.string ⟨(Lib.itoa g).toArray⟩) ∧ Below W.heap.size W w') := hide fun W _ => refNumber_any g (by omega) (by omega) W
    have CL : Hid (∀ W, Below w.heap.size w W → Calls Tryd.prog 35 #[.int .i64 l] W fun e w' => e = .returned (.string ⟨(Lib.itoa l).toArray⟩) ∧ Below W.heap.size W w') := hide fun W _ => refNumber_any l (by omega) (by omega) W
    have Kb := adds_list (Ad.tword0 p) [32] (by omega) (by decide)
    have K0 := adds_list (Ad.tword0 p ++ [32]) (Ad.textI a b) (by simp; omega) (by omega)
    unfold Ad.tge Ad.tle
    by_cases hg : g = b
    · rw [if_pos hg, List.append_nil]
      by_cases hl : l = g
      · rw [if_pos hl, List.append_nil]
        exact refRText_00 a b g l p _ _ _ _ w ha ha2 hm (Ad.word0_is p) Kb K0 CT (by omega) (by omega)
      · rw [if_neg hl, ← List.append_assoc _ _ (Lib.itoa l)]
        exact refRText_01 a b g l p _ _ _ _ _ _ _ w ha ha2 hm (Ad.word0_is p) Kb K0 (adds_list _ [32, 108, 101, 32] (by simp; omega) (by simp)) (adds_list _ _ (by simp; omega) (by omega)) CT CL (by omega) (by omega)
    · rw [if_neg hg, ← List.append_assoc _ _ (Lib.itoa g)]
      have KG := adds_list (Ad.tword0 p ++ [32] ++ Ad.textI a b) [32, 103, 101, 32] (by simp; omega) (by simp)
      have K1 := adds_list (Ad.tword0 p ++ [32] ++ Ad.textI a b ++ [32, 103, 101, 32]) (Lib.itoa g) (by simp; omega) (by omega)
      by_cases hl : l = g
      · rw [if_pos hl, List.append_nil]
        exact refRText_10 a b g l p _ _ _ _ _ _ _ w ha ha2 hm (Ad.word0_is p) Kb K0 KG K1 CT CG (by omega) (by omega)
      · rw [if_neg hl, ← List.append_assoc _ _ (Lib.itoa l)]
        exact refRText_11 a b g l p _ _ _ _ _ _ _ _ _ _ w ha ha2 hm (Ad.word0_is p) Kb K0 KG K1 (adds_list _ [32, 108, 101, 32] (by simp; omega) (by simp)) (adds_list _ _ (by simp; omega) (by omega)) CT CG CL (by omega) (by omega)
end Go.Proofs.YtkpoanjcalolkaaDoor

/- The contract of the laws' own lives: it answers true. -/
namespace Go.Proofs.YtkpoanjcalolkaaDoor
open Go.RowKit

theorem Ad.dg_16 : Ad.dg 16 = [49, 54] := by
  have : Lib.decDigits 16 = [49, 54] := by rw [Lib.decDigits]; simp; rw [Lib.decDigits]; simp
  simp [Ad.dg, this]
theorem Ad.dg_24 : Ad.dg 24 = [50, 52] := by
  have : Lib.decDigits 24 = [50, 52] := by rw [Lib.decDigits]; simp; rw [Lib.decDigits]; simp
  simp [Ad.dg, this]

theorem itoa_16 (W : World) : Calls Tryd.prog 33 #[.int .i64 16] W fun e w' => e = .returned (.string ⟨[49, 54].toArray⟩) ∧ Below W.heap.size W w' := by
  have := itoa_dg 16 (by decide) (by decide) W
  rw [Ad.dg_16] at this
  exact this
theorem itoa_24 (W : World) : Calls Tryd.prog 33 #[.int .i64 24] W fun e w' => e = .returned (.string ⟨[50, 52].toArray⟩) ∧ Below W.heap.size W w' := by
  have := itoa_dg 24 (by decide) (by decide) W
  rw [Ad.dg_24] at this
  exact this

/-- The text of the chapter's rule. -/
def Ad.livesText : ByteArray := ⟨#[112, 101, 114, 109, 105, 116, 32, 49, 48, 46, 48, 46, 48, 46, 48, 47, 56, 32, 103, 101, 32, 49, 54, 32, 108, 101, 32, 50, 52]⟩

theorem ptext_lives (w : World) : Calls Tryd.prog 16 #[.agg #[.int .u32 167772160, .int .i64 8, .int .i64 16, .int .i64 24, .bool true]] w fun e w' => e = .returned (.string Ad.livesText) ∧ Below w.heap.size w w' :=
  ptext_11 167772160 8 16 24 true ⟨(Ad.tword true).toArray⟩ ⟨[49, 48, 46, 48, 46, 48, 46, 48, 47, 56].toArray⟩ _ _ _ _ _ _ _ w (by decide) (by decide) (show Ad.rmay (167772160, 8, 16, 24, true) = true by decide) (Ad.word_is true)
    (adds_list _ _ (by decide) (by decide)) (adds_list [32, 103, 101, 32] [49, 54] (by decide) (by decide)) (adds_list _ _ (by decide) (by decide)) (adds_list [32, 108, 101, 32] [50, 52] (by decide) (by decide)) (adds_list _ _ (by decide) (by decide))
    (hide fun W _ => text_ten W) (hide fun W _ => itoa_16 W) (hide fun W _ => itoa_24 W) (by decide) (by decide)

set_option maxHeartbeats 1000000 in
set_option maxRecDepth 100000 in
theorem lives_any (w : World) : Calls Tryd.prog 15 #[] w fun e w' => e = .returned (.bool true) ∧ Below w.heap.size w w' := by
  have F0 := hide (five_box w 167772160 8 16 24 true)
  go_enter Tryd.func15, Tryd.ntmps15
  go_wp2_with fail
  refine (met_is _ _ _ _ _ _ _ true (by decide) _ (by decide) (by decide) (by decide) (by decide)).mono ?_
  rintro e w1 ⟨rfl, hb1⟩
  have F1 := hide (five_below F0.out hb1)
  have B1 := hide (bthen (balloc (brefl w) _) hb1)
  obtain ⟨c0, c1, c2, c3, c4, c5, c6⟩ := F1.out
  clear hb1 F0
  go_wp2_with fail
  refine (met_is _ _ _ _ _ _ _ false (by decide) _ (by decide) (by decide) (by decide) (by decide)).mono ?_
  rintro e w2 ⟨rfl, hb2⟩
  have F2 := hide (five_below F1.out hb2)
  have B2 := hide (bthen B1.out hb2)
  clear c0 c1 c2 c3 c4 c5 c6
  obtain ⟨c0, c1, c2, c3, c4, c5, c6⟩ := F2.out
  clear hb2 F1 B1
  go_wp2_with fail
  refine (ptext_lives _).mono ?_
  rintro e w3 ⟨rfl, hb3⟩
  have B3 := hide (bthen B2.out hb3)
  clear hb3 B2 F2
  go_wp2_with fail
  go_ret
  exact ⟨ret_bool (by rw [ByteArray.toList_eq]; decide), B3.out⟩
end Go.Proofs.YtkpoanjcalolkaaDoor

