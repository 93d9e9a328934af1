import Derived.Test.YtpkikfojiibdaaaGreatDoorL1
import Derived.Test.YtpkikfojiibdaaaGreatDoorAS1
import Derived.Test.YtpkikfojiibdaaaGreatDoorCB1
import Derived.Test.YtpkikfojiibdaaaGreatDoorCA7
import Derived.Test.YtpkikfojiibdaaaGreatDoorM3
/- New memory: what a row of the call's own may be asked; clones of lists of numbers and of communities. -/
namespace Go.Proofs.YtpkikfojiibdaaaGreatDoor
open Go.RowKit Go.Sort

theorem own_wr {w : World} {B t k n c : Nat} {o : Option Addr} {xs : List Value} (h : w.ownsRow B t k (.slice o n c) n xs) : Wr B w o (n * k) := by
  rcases h.2 with ⟨_, h0⟩ | ⟨g, cap, cur, hv, hB, hg, hn, _, hs, _⟩
  · exact .inl (by rw [h0, Nat.zero_mul])
  · simp only [Value.slice.injEq] at hv
    refine .inr ⟨g, 0, hv.1, hB, fun j hj => ?_⟩
    have hj' : j < cur.size := by
      rw [hs]
      exact Nat.lt_of_lt_of_le hj (Nat.mul_le_mul_right k hn)
    constructor
    · simp [World.cell?, hg, Nat.zero_add, hj']
    · simp [World.frozen?, hg]
theorem wr_below {w w' : World} {B n : Nat} {o : Option Addr} (h : Wr B w o n) (hb : Below w.heap.size w w') : Wr B w' o n := by
  rcases h with h | ⟨g, off, ho, hB, hc⟩
  · exact .inl h
  · refine .inr ⟨g, off, ho, hB, fun j hj => ?_⟩
    obtain ⟨h1, h2⟩ := hc j hj
    have hlt : g < w.heap.size := by
      obtain ⟨v, hv⟩ := Option.isSome_iff_exists.1 h1
      exact block_lt_of_cell (a := ⟨g, off + j, none⟩) hv
    rw [(bcell hb).1 g (off + j) hlt, (bcell hb).2 g (off + j) hlt]
    exact ⟨h1, h2⟩
theorem wr_mono {w : World} {B B' n : Nat} {o : Option Addr} (h : Wr B w o n) (hb : B' ≤ B) : Wr B' w o n := by
  rcases h with h | ⟨g, off, ho, hB, hc⟩
  · exact .inl h
  · exact .inr ⟨g, off, ho, Nat.le_trans hb hB, hc⟩
theorem wrow_wr {w : World} {B : Nat} {o : Option Addr} {x : List Cm.Co.C} (h : Cm.Co.wrow B w o x) : Wr B w o (x.length * 2) := by
  rcases h with h | ⟨g, ho, hB, hc⟩
  · exact .inl (by rw [h]; rfl)
  · refine .inr ⟨g, 0, ho, hB, fun j hj => ?_⟩
    obtain ⟨h1, h2, h3, h4⟩ := hc (j / 2) (by simp; omega)
    rcases Nat.mod_two_eq_zero_or_one j with hm | hm
    · rw [show 0 + j = j / 2 * 2 by omega, h1]; exact ⟨rfl, h3⟩
    · rw [show 0 + j = j / 2 * 2 + 1 by omega, h2]; exact ⟨rfl, h4⟩
theorem own_cameI {w : World} {B n cap : Nat} {ao : Option Addr} {xs : List Value} (h : w.ownsRow B 3 1 (.slice ao n cap) n xs) : Cm.Co.came ao cap := by
  rcases h.2 with ⟨hv, h0⟩ | ⟨g, cap', cur, hv, _⟩
  · simp only [Value.slice.injEq] at hv
    exact ⟨fun _ => hv.2.2, fun ad h => (by rw [hv.1] at h; cases h)⟩
  · simp only [Value.slice.injEq] at hv
    refine ⟨fun h => (by rw [hv.1] at h; cases h), fun ad h => ?_⟩
    rw [hv.1] at h
    cases h
    rfl
theorem own_cap {w : World} {B t k n c : Nat} {o : Option Addr} {xs : List Value} (h : w.ownsRow B t k (.slice o n c) n xs) : n ≤ c := by
  rcases h.2 with ⟨_, h0⟩ | ⟨g, cap, cur, hv, _, _, hn, _⟩
  · omega
  · simp only [Value.slice.injEq] at hv
    rw [hv.2.2]
    exact hn
/-- A new list of numbers. -/
def NewI (w : World) (l : List Int) (e : Ending) (w' : World) : Prop :=
  ∃ o c, e = .returned (.slice o l.length c) ∧ Is.slot w' o l ∧ Wr w.heap.size w' o l.length ∧ (Cm.Co.came o c ∧ l.length ≤ c) ∧ Below w.heap.size w w'
/-- A new list of communities. -/
def NewC (w : World) (l : List Cm.Co.C) (e : Ending) (w' : World) : Prop :=
  ∃ o c, e = .returned (.slice o l.length c) ∧ Cm.Co.slot w' o l ∧ Wr w.heap.size w' o (l.length * 2) ∧ Cm.Co.came o c ∧ Below w.heap.size w w'
theorem cloneI_is (ao : Option Addr) (ca : Nat) (l : List Int) (w : World) (hA : Is.slot w ao l) (hC : Cm.Co.came ao ca) (hlen : l.length ≤ 1000000) : Calls Tryz.prog 45 #[.slice ao l.length ca] w (NewI w l) := by
  cases ao with
  | none =>
    have hl : l = [] := by
      rcases hA with h | ⟨b, off, h, _⟩
      · exact h
      · cases h
    subst hl
    refine (Tryz.slices_Clone_int_nil 0 ca w).mono ?_
    rintro e w' ⟨rfl, rfl⟩
    exact ⟨none, 0, rfl, .inl rfl, .inl rfl, ⟨⟨fun _ => rfl, fun ad had => (by cases had)⟩, Nat.le_refl _⟩, brefl _⟩
  | some ad =>
    obtain ⟨b, off, sp⟩ := ad
    obtain rfl : sp = none := hC.2 _ rfl
    have hR : ∀ j (hj : j < l.length), w.cell? ⟨b, off + j, none⟩ = some (.int .i64 l[j]) := by
      rcases hA with h | ⟨b', off', h, hr⟩
      · subst h; intro j hj; cases hj
      · simp only [Option.some.injEq, Addr.mk.injEq, and_true] at h
        rw [h.1, h.2]; exact hr
    refine (Tryz.slices_Clone_int b off l.length ca l w (Nat.le_refl _) (by omega) (fun j hj => by rw [hR j hj, List.getD_eq_getElem?_getD, List.getElem?_eq_getElem hj]; rfl)).mono ?_
    rintro e w' ⟨v', rfl, hown, _, hb⟩
    rw [List.take_length] at hown
    obtain ⟨o, c, rfl⟩ := row_slice hown
    exact ⟨o, c, rfl, Is.slot_own hown, by simpa using own_wr hown, ⟨own_cameI hown, own_cap hown⟩, hb⟩
theorem cloneC_is (ao : Option Addr) (ca : Nat) (l : List Cm.Co.C) (w : World) (hA : Cm.Co.slot w ao l) (hC : Cm.Co.came ao ca) (hlen : l.length ≤ 1000000) : Calls Tryz.prog 46 #[.slice ao l.length ca] w (NewC w l) := by
  refine (Cm.clone_is ao ca l w hA hC hlen).mono ?_
  rintro e w' ⟨o, c, rfl, hown, hb⟩
  exact ⟨o, c, rfl, Cm.Co.slot_own hown, own_wr hown, Cm.own_came hown, hb⟩
end Go.Proofs.YtpkikfojiibdaaaGreatDoor

/- The program's Plain, Nothing, Plus and Same. -/
namespace Go.Proofs.YtpkikfojiibdaaaGreatDoor
open Go.RowKit Go.Sort

theorem nil_came : Cm.Co.came none 0 := ⟨fun _ => rfl, fun ad h => (by cases h)⟩
set_option maxRecDepth 100000 in
theorem plain_is (w : World) : Calls Tryz.prog 20 #[] w fun e w' => (∃ (po co ko : Option Addr) (cp cc ck : Nat), e = .returned (.agg #[.int .i64 100, .int .i64 0, .int .i64 0, .slice po 0 cp, .slice co 0 cc, .int .i64 0, .slice ko 0 ck])) ∧ Below w.heap.size w w' := by
  have HA := hide (heap_new w #[.int .i64 0, .int .i64 0, .int .i64 0, .slice none 0 0, .slice none 0 0, .int .i64 0, .slice none 0 0] 25)
  have HB := hide (balloc (brefl w) (.cells #[.int .i64 0, .int .i64 0, .int .i64 0, .slice none 0 0, .slice none 0 0, .int .i64 0, .slice none 0 0] 25))
  obtain ⟨g, hg⟩ : ∃ g, g = w.heap.size := ⟨_, rfl⟩
  go_enter Tryz.func20, Tryz.ntmps20
  go_upto_region 1 with fail
  generalize w.alloc (.cells #[.int .i64 0, .int .i64 0, .int .i64 0, .slice none 0 0, .slice none 0 0, .int .i64 0, .slice none 0 0] 25) = w1 at *
  have HG := hide (Nat.le_of_eq hg.symm)
  rw [← hg] at HA ⊢
  clear hg
  obtain ⟨z0, z1, z2, z3, z4, z5, z6⟩ := seven_cells HA.out
  have f0 := frozenG HA.out 0
  have f1 := frozenG HA.out 1
  have f2 := frozenG HA.out 2
  have f3 := frozenG HA.out 3
  have f4 := frozenG HA.out 4
  have f5 := frozenG HA.out 5
  have f6 := frozenG HA.out 6
  have NE := hide (put7_same HA.out (.int .i64 100) (.int .i64 0) (.int .i64 0) (.slice none 0 0) (.slice none 0 0) (.int .i64 0) (.slice none 0 0))
  have BE := hide (put7_below HB.out HG.out (.int .i64 100) (.int .i64 0) (.int .i64 0) (.slice none 0 0) (.slice none 0 0) (.int .i64 0) (.slice none 0 0))
  go_wp2_with fail
  change bodyPost _ _ _ _ _ (put7 w1 g (.int .i64 100) (.int .i64 0) (.int .i64 0) (.slice none 0 0) (.slice none 0 0) (.int .i64 0) (.slice none 0 0))
  generalize put7 w1 g (.int .i64 100) (.int .i64 0) (.int .i64 0) (.slice none 0 0) (.slice none 0 0) (.int .i64 0) (.slice none 0 0) = w9 at *
  obtain ⟨y0, y1, y2, y3, y4, y5, y6⟩ := seven_cells NE.out
  refine bodyPost_ret (v := .agg #[.int .i64 100, .int .i64 0, .int .i64 0, .slice none 0 0, .slice none 0 0, .int .i64 0, .slice none 0 0]) ?_ rfl ⟨⟨none, none, none, 0, 0, 0, rfl⟩, BE.out⟩
  simp [results, Tryz.results20, go_sem, y0, y1, y2, y3, y4, y5, y6]
set_option maxRecDepth 100000 in
theorem nothing_is (w : World) : Calls Tryz.prog 15 #[] w (NoneGood w) := by
  have HA := hide (heap_new w #[.int .i64 0, .int .i64 0, .int .i64 0, .slice none 0 0, .slice none 0 0, .bool false, .slice none 0 0] 27)
  have HB := hide (balloc (brefl w) (.cells #[.int .i64 0, .int .i64 0, .int .i64 0, .slice none 0 0, .slice none 0 0, .bool false, .slice none 0 0] 27))
  obtain ⟨g, hg⟩ : ∃ g, g = w.heap.size := ⟨_, rfl⟩
  go_enter Tryz.func15, Tryz.ntmps15
  go_upto_region 1 with fail
  generalize w.alloc (.cells #[.int .i64 0, .int .i64 0, .int .i64 0, .slice none 0 0, .slice none 0 0, .bool false, .slice none 0 0] 27) = w1 at *
  have HG := hide (Nat.le_of_eq hg.symm)
  rw [← hg] at HA ⊢
  clear hg
  obtain ⟨z0, z1, z2, z3, z4, z5, z6⟩ := seven_cells HA.out
  have f0 := frozenG HA.out 0
  have f1 := frozenG HA.out 1
  have f2 := frozenG HA.out 2
  have f3 := frozenG HA.out 3
  have f4 := frozenG HA.out 4
  have f5 := frozenG HA.out 5
  have f6 := frozenG HA.out 6
  have NE := hide (put7_same HA.out (.int .i64 (-1)) (.int .i64 (-1)) (.int .i64 (-1)) (.slice none 0 0) (.slice none 0 0) (.bool false) (.slice none 0 0))
  have BE := hide (put7_below HB.out HG.out (.int .i64 (-1)) (.int .i64 (-1)) (.int .i64 (-1)) (.slice none 0 0) (.slice none 0 0) (.bool false) (.slice none 0 0))
  go_wp2_with fail
  change bodyPost _ _ _ _ _ (put7 w1 g (.int .i64 (-1)) (.int .i64 (-1)) (.int .i64 (-1)) (.slice none 0 0) (.slice none 0 0) (.bool false) (.slice none 0 0))
  generalize put7 w1 g (.int .i64 (-1)) (.int .i64 (-1)) (.int .i64 (-1)) (.slice none 0 0) (.slice none 0 0) (.bool false) (.slice none 0 0) = w9 at *
  obtain ⟨y0, y1, y2, y3, y4, y5, y6⟩ := seven_cells NE.out
  refine bodyPost_ret (v := .agg #[.int .i64 (-1), .int .i64 (-1), .int .i64 (-1), .slice none 0 0, .slice none 0 0, .bool false, .slice none 0 0]) ?_ rfl ⟨none, none, none, 0, 0, 0, rfl, ⟨nil_came, nil_came, nil_came⟩, BE.out⟩
  simp [results, Tryz.results15, go_sem, y0, y1, y2, y3, y4, y5, y6]
end Go.Proofs.YtpkikfojiibdaaaGreatDoor

