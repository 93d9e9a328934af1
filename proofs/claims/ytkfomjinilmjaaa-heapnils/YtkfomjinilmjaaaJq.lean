/- The law HeapNils. -/
import Derived.Test.YtkfomjinilmjaaaJp
import Derived.Test.YtkfomjinilmjaaaPa
import Derived.Test.YtkfomjinilmjaaaNa
namespace Go.Proofs.Ytkfomjinilmjaaa
open Go.RowKit Go.Maps

/-- A heap of two numbers by texts that the call made. -/
structure HS2 (w0 w : World) (h : Nat) (L : List RwP) (T : Int) (ao : Option Addr) (m : Nat) : Prop where
  hp : Hp2 ltS w h 31 L T ao m
  top : ∀ x ∈ L, x.t ≤ T
  t0 : 0 ≤ T
  base : ∀ b, Own h m ao b → w0.heap.size ≤ b
  below : Below w0.heap.size w0 w
section
variable {w0 w w' : World} {h : Nat} {L : List RwP} {T : Int} {ao : Option Addr} {m : Nat}
theorem HS2.next (S : HS2 w0 w h L T ao m) (hb : Below w.heap.size w w') : HS2 w0 w' h L T ao m := ⟨S.hp.below hb, S.top, S.t0, S.base, bthen S.below hb⟩
theorem HS2.made {e : Ending} (hM : Made2 ltS w 31 e w') (hb : Below w0.heap.size w0 w) : ∃ (h m : Nat), e = .returned (.pointer (some ⟨h, 0, none⟩)) ∧ HS2 w0 w' h [] 0 none m := by
  obtain ⟨h, m, he, hp, h1, h2, h3⟩ := hM
  refine ⟨h, m, he, ⟨hp, fun x hx => (by cases hx), Int.le_refl _, ?_, bthen hb h1⟩⟩
  rintro b (rfl | rfl | ⟨a, e, _⟩)
  · exact Nat.le_trans hb.size h2
  · exact Nat.le_trans hb.size h3
  · cases e
theorem HS2.set {k : Int × Int} {r : ByteArray} {e : Ending} (S : HS2 w0 w h L T ao m) (hT : SetTo2 ltS w h 31 L T ao m k r e w') : e = .returned (.bool false) ∧ ∃ ao', HS2 w0 w' h (L ++ [⟨k, r, T + 1⟩]) (T + 1) ao' m := by
  obtain ⟨he, ao', hp, hk, hn⟩ := hT
  refine ⟨he, ao', ⟨hp, fun x hx => ?_, by have := S.t0; omega, fun b hb => ?_, hk.below' S.below (fun i hi => S.base i hi) S.below.size⟩⟩
  · rcases List.mem_append.1 hx with hx | hx
    · have := S.top x hx; omega
    · rw [List.mem_singleton] at hx; subst hx; exact Int.le_refl _
  · rcases hn.own b hb with e | e
    · exact S.base b e
    · exact Nat.le_trans S.below.size e
end
/-- What is popped of two keys, the second of which comes first. -/
theorem first_two {k : Int × Int} {a b : ByteArray} {l : Int × Int} (hab : ltS b a = true) {x : RwP} (h : Fst ltS [⟨k, a, 1⟩, ⟨l, b, 2⟩] x) : x = ⟨l, b, 2⟩ := by
  have hx1 := h.1
  simp only [List.mem_cons, List.not_mem_nil, or_false] at hx1
  rcases hx1 with rfl | rfl
  · have := h.2 ⟨l, b, 2⟩ (by simp)
    simp [ahd, hab] at this
  · rfl
set_option maxHeartbeats 4000000 in
set_option maxRecDepth 100000 in
theorem law_nils (k r : Int) (s : ByteArray) (hr : (Lit.int .i64 r).wf = true) (w : World) : Calls Try.prog 7 #[.agg #[.int .i64 k, .int .i64 r, .string s]] w fun e w' => e = .returned (.bool true) ∧ Below w.heap.size w w' := by
  have HB0 := hide (balloc (brefl w) (.cells #[.int .i64 k, .int .i64 r, .string s] 28))
  have N0 := hide (heap_alloc_new w (.cells #[.int .i64 k, .int .i64 r, .string s] 28))
  go_enter Try.func7, Try.ntmps7
  go_wp2_with fail
  generalize w.alloc (.cells #[.int .i64 k, .int .i64 r, .string s] 28) = W0 at *
  obtain ⟨p, hp⟩ : ∃ p, w.heap.size = p := ⟨_, rfl⟩
  rw [hp] at N0
  have HP := hide hp
  rw [hp]
  clear hp
  have CG := hide (light_is k r s W0)
  by_cases hs : s.size ≤ 200
  rotate_left
  · rw [decide_eq_false hs] at CG
    refine CG.out.mono ?_
    rintro e w1 ⟨rfl, hb1⟩
    have HB1 := hide (bthen HB0.out hb1)
    clear hb1 HB0 N0 CG
    have CL := hide (lives_is w1)
    go_wp2_with fail
    refine CL.out.mono ?_
    rintro e w2 ⟨rfl, hb2⟩
    have HB2 := hide (bthen HB1.out hb2)
    clear hb2 HB1 CL
    go_wp2_with fail
    go_ret
    exact ⟨rfl, HB2.out⟩
  rw [decide_eq_true hs] at CG
  refine CG.out.mono ?_
  rintro e w1 ⟨rfl, hb1⟩
  have HB1 := hide (bthen HB0.out hb1)
  have N1 := hide ((hb1.block p (lt_of_block N0.out)).trans N0.out)
  clear hb1 HB0 N0 CG
  have C1 := hide (first_nil w1)
  have C2 := hide (pop_nil w1)
  have C3 := hide (rank_nil w1 s)
  have C4 := hide (set_nil w1 s r)
  have C5 := hide (drop_nil w1 s)
  have C6 := hide (len_nil w1)
  have C7 := hide (all_nil w1)
  obtain ⟨a0, a1, a2⟩ := three_cells N1.out
  go_wp2_with fail
  refine C1.out.mono ?_
  rintro e w2 ⟨rfl, hw⟩
  have hw' := hw.symm
  clear hw
  subst hw'
  go_wp2_with fail
  refine C2.out.mono ?_
  rintro e w2 ⟨rfl, hw⟩
  have hw' := hw.symm
  clear hw
  subst hw'
  go_wp2_with fail
  refine C3.out.mono ?_
  rintro e w2 ⟨rfl, hw⟩
  have hw' := hw.symm
  clear hw
  subst hw'
  go_wp2_with fail
  refine C4.out.mono ?_
  rintro e w2 ⟨rfl, hw⟩
  have hw' := hw.symm
  clear hw
  subst hw'
  go_wp2_with fail
  refine C5.out.mono ?_
  rintro e w2 ⟨rfl, hw⟩
  have hw' := hw.symm
  clear hw
  subst hw'
  go_wp2_with fail
  refine C6.out.mono ?_
  rintro e w2 ⟨rfl, hw⟩
  have hw' := hw.symm
  clear hw
  subst hw'
  go_wp2_with fail
  refine C7.out.mono ?_
  rintro e w2 ⟨rfl, hw⟩
  have hw' := hw.symm
  clear hw
  subst hw'
  have CN := hide (new2_is ltS 31 w1)
  clear C1 C2 C3 C4 C5 C6 C7
  go_wp2_with fail
  refine CN.out.mono ?_
  intro e w2 hm
  obtain ⟨h, m, rfl, S2⟩ := HS2.made hm (brefl w1)
  have HS := hide S2
  have H1 : In64 (r, 1) := ⟨hr, (by decide : (Lit.int .i64 1).wf = true)⟩
  have H2 : In64 (r, 2) := ⟨hr, (by decide : (Lit.int .i64 2).wf = true)⟩
  obtain ⟨sb, hsb⟩ : ∃ sb, s ++ (⟨#[98]⟩ : ByteArray) = sb := ⟨_, rfl⟩
  obtain ⟨sa, hsa⟩ : ∃ sa, s ++ (⟨#[97]⟩ : ByteArray) = sa := ⟨_, rfl⟩
  have hab : ltS sa sb = true := by
    rw [← hsa, ← hsb]
    unfold ltS
    have e1 : (s ++ (⟨#[97]⟩ : ByteArray)).toList = s.toList ++ [97] := by rw [ByteArray.toList_eq, ByteArray.toList_eq]; simp [ByteArray.data_append]
    have e2 : (s ++ (⟨#[98]⟩ : ByteArray)).toList = s.toList ++ [98] := by rw [ByteArray.toList_eq, ByteArray.toList_eq]; simp [ByteArray.data_append]
    rw [e1, e2]
    exact bl_tail _
  have addb : ∀ w, (Op.stringOp .add s ⟨#[98]⟩).run Try.prog w = .ok (.string sb) w := fun w => by
    rw [← hsb]
    exact run_string_add_sum w _ _ (Nat.le_trans (Nat.add_le_add_right hs 1) (by decide))
  have adda : ∀ w, (Op.stringOp .add s ⟨#[97]⟩).run Try.prog w = .ok (.string sa) w := fun w => by
    rw [← hsa]
    exact run_string_add_sum w _ _ (Nat.le_trans (Nat.add_le_add_right hs 1) (by decide))
  have HAB := hide hab
  have C1 := hide (set2_is ordsS lessS S2.hp (by simp) H1 sb (by decide) (by decide) S2.top (fun x hx => by cases hx))
  have N2 := hide ((S2.below.block p (lt_of_block N1.out)).trans N1.out)
  clear hm S2 CN hab hsa hsb a0 a1 a2
  obtain ⟨a0, a1, a2⟩ := three_cells N2.out
  go_wp2_with fail
  refine C1.out.mono ?_
  intro e w3 hm
  obtain ⟨rfl, ao3, S3⟩ := HS.out.set hm
  have S3' : HS2 w1 w3 h [⟨(r, 1), sb, 1⟩] 1 ao3 m := S3
  have HS3 := hide S3'
  have C2 := hide (set2_is ordsS lessS S3'.hp (by simp) H2 sa (by decide) (by decide) S3'.top (fun x hx => by
    rw [List.mem_singleton] at hx
    subst hx
    simp))
  have N3 := hide ((S3'.below.block p (lt_of_block N1.out)).trans N1.out)
  clear hm S3 S3' C1 HS a0 a1 a2 N2
  obtain ⟨a0, a1, a2⟩ := three_cells N3.out
  go_wp2_with fail
  refine C2.out.mono ?_
  intro e w4 hm
  obtain ⟨rfl, ao4, S4⟩ := HS3.out.set hm
  have S4' : HS2 w1 w4 h [⟨(r, 1), sb, 1⟩, ⟨(r, 2), sa, 2⟩] 2 ao4 m := S4
  have HS4 := hide S4'
  have C3 := hide (pop2_is ordsS lessS S4'.hp (by simp) (by simp))
  clear hm S4 S4' C2 HS3 a0 a1 a2 N3
  go_wp2_with fail
  refine C3.out.mono ?_
  rintro e w5 ⟨x, hx, rfl, hp5, hk5⟩
  have hx2 := first_two HAB.out hx
  subst hx2
  have hw : without [(⟨(r, 1), sb, 1⟩ : RwP), ⟨(r, 2), sa, 2⟩] (r, 2) = [⟨(r, 1), sb, 1⟩] := by simp [without]
  rw [hw] at hp5
  have B5 : Hid (Below w1.heap.size w1 w5) := hk5.below' HS4.out.below (fun i hi => HS4.out.base i hi) HS4.out.below.size
  have HP5 := hide hp5
  have N5 := hide ((B5.out.block p (lt_of_block N1.out)).trans N1.out)
  have hp5' : p < w5.heap.size := lt_of_block N5.out
  obtain ⟨a0, a1, a2⟩ := three_cells N5.out
  have hps := fun w => pair_same (r, 2) H2 w
  simp only at hps
  have hsab : (sa == sa) = true := by simp [Go.MapKept.bytes_beq]
  have B6 := hide (bthen B5.out (balloc (brefl w5) (.cells #[.int .i64 r, .int .i64 2] 58)))
  have HP6 := hide (HP5.out.below (balloc (brefl w5) (.cells #[.int .i64 r, .int .i64 2] 58)))
  have CL5 := hide (len2_is HP6.out (by simp))
  simp only [List.length_cons, List.length_nil] at CL5
  have CL := hide (lives_is (w5.alloc (.cells #[.int .i64 r, .int .i64 2] 58)))
  clear hx hp5 hk5 C3 HS4 hw HP5 B5 N5
  go_wp2_with fail
  refine CL5.out.mono ?_
  rintro e w6 ⟨rfl, hw⟩
  have hw' := hw.symm
  clear hw
  subst hw'
  go_wp2_with fail
  refine CL.out.mono ?_
  rintro e w7 ⟨rfl, hb7⟩
  have B7 := hide (bthen HB1.out (bthen B6.out hb7))
  clear hb7
  go_wp2_with fail
  go_ret
  exact ⟨rfl, B7.out⟩
end Go.Proofs.Ytkfomjinilmjaaa
