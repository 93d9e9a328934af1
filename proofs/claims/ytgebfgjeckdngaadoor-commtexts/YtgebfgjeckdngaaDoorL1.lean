/- The law's own lives: it answers true. -/
import Derived.Test.YtgebfgjeckdngaaDoorT4
import Derived.Test.YtgebfgjeckdngaaDoorA8
namespace Go.Proofs.YtgebfgjeckdngaaDoor
open Go.RowKit Go.Sort

set_option maxHeartbeats 2000000 in
theorem parse_nE (w : World) : Calls Tryd.prog 10 #[.string ⟨#[110, 111, 45, 101, 120, 112, 111, 114, 116]⟩] w fun e w' => e = .returned (.tuple #[.agg #[.int .i64 65535, .int .i64 65281], .int .i64 0]) ∧ Below w.heap.size w w' := by
  go_enter Tryd.func10, Tryd.ntmps10
  go_wp2_with fail
  have TB := hide (two_new w 0 0 23)
  have hfr : (w.alloc (.cells #[.int .i64 0, .int .i64 0] 23)).frozen? ⟨w.heap.size, 0, none⟩ = false := by simp [go_sem]
  have hfr2 : (w.alloc (.cells #[.int .i64 0, .int .i64 0] 23)).frozen? ⟨w.heap.size, 1, none⟩ = false := by simp [go_sem]
  have B0 := hide (balloc (brefl w) (.cells #[.int .i64 0, .int .i64 0] 23))
  have HG : Hid (w.heap.size ≤ w.heap.size) := Nat.le_refl _
  refine (noExport_is _).mono ?_
  rintro e w1 ⟨rfl, hb1⟩
  have f0 := (hb1.frozen (p := ⟨w.heap.size, 0, none⟩) TB.out.2.2.1).trans hfr
  have f1 := (hb1.frozen (p := ⟨w.heap.size, 1, none⟩) TB.out.2.2.1).trans hfr2
  obtain ⟨p0, p1, p2, p3⟩ := two_below hb1 TB.out
  have B1 := hide (bthen B0.out hb1)
  clear hb1 hfr hfr2
  go_wp2_with fail
  exact bodyPost_ret (v := .tuple #[.agg #[.int .i64 65535, .int .i64 65281], .int .i64 0]) (by simp [results, Tryd.results10, go_sem, p0, p1]) rfl ⟨rfl, bset (bset B1.out (p := ⟨w.heap.size, 0, none⟩) (Nat.le_refl _) _) (p := ⟨w.heap.size, 1, none⟩) (Nat.le_refl _) _⟩

theorem itoa_65000 : Lib.itoa 65000 = [54, 53, 48, 48, 48] := by
  have e : Lib.itoa 65000 = Lib.decDigits 65000 := Lib.itoa_nonneg 65000
  rw [e, show (65000 : Nat) = 10 * 6500 + 0 from rfl, dec_step _ _ (by decide) (by decide), show (6500 : Nat) = 10 * 650 + 0 from rfl, dec_step _ _ (by decide) (by decide), show (650 : Nat) = 10 * 65 + 0 from rfl, dec_step _ _ (by decide) (by decide), show (65 : Nat) = 10 * 6 + 5 from rfl, dec_step _ _ (by decide) (by decide), Lib.decDigits_one (by decide)]
  rfl
theorem itoa_1 : Lib.itoa 1 = [49] := by
  have e : Lib.itoa 1 = Lib.decDigits 1 := Lib.itoa_nonneg 1
  rw [e, Lib.decDigits_one (by decide)]
  rfl
theorem itoa_2 : Lib.itoa 2 = [50] := by
  have e : Lib.itoa 2 = Lib.decDigits 2 := Lib.itoa_nonneg 2
  rw [e, Lib.decDigits_one (by decide)]
  rfl
def Co.two : List Co.C := [(65000, 1), (65000, 2)]
theorem Co.texts_two : Co.texts Co.two = [54, 53, 48, 48, 48, 58, 49, 32, 54, 53, 48, 48, 48, 58, 50] := by
  have h1 : Co.set Co.two = true := by decide
  have t1 : Co.tx (65000, 1) = [54, 53, 48, 48, 48, 58, 49] := by
    unfold Co.tx Co.text
    rw [if_pos (by decide), if_neg (by decide), if_neg (by decide), if_neg (by decide), Co.plain, itoa_65000, itoa_1]
    rfl
  have t2 : Co.tx (65000, 2) = [54, 53, 48, 48, 48, 58, 50] := by
    unfold Co.tx Co.text
    rw [if_pos (by decide), if_neg (by decide), if_neg (by decide), if_neg (by decide), Co.plain, itoa_65000, itoa_2]
    rfl
  unfold Co.texts
  rw [if_pos h1]
  show Lib.join [Co.tx (65000, 1), Co.tx (65000, 2)] [32] = _
  rw [t1, t2]
  rfl
theorem Co.uni_two (x : List Co.C) (h : Co.uni [(65000, 1)] [(65000, 2)] x) : x = Co.two := by
  refine Co.rises_eq x Co.two h.1 ?_ fun c => (h.2 c).trans ?_
  · unfold Co.rises Co.two
    rw [List.pairwise_cons]
    exact ⟨fun a ha => by simp at ha; subst ha; decide, by simp⟩
  · simp [Co.two]

theorem Co.slot_one (W : World) (a b : Int) (g : Nat) (h : Two W g a b) : Co.slot W (some ⟨g, 0, none⟩) [(a, b)] := by
  refine .inr ⟨g, 0, rfl, fun j u hu => ?_⟩
  match j, hu with
  | 0, hu => simp [Co.cells, Co.enc] at hu; subst hu; exact h.1
  | 1, hu => simp [Co.cells, Co.enc] at hu; subst hu; exact h.2.1
  | j + 2, hu => simp [Co.cells, Co.enc] at hu
theorem came_some (g o c : Nat) : Co.came (some ⟨g, o, none⟩) c := ⟨fun h => (by cases h), fun ad h => (by cases h; rfl)⟩

set_option maxHeartbeats 4000000 in
theorem lives_is (w : World) (hT : Tab w) : Calls Tryd.prog 9 #[] w fun e w' => e = .returned (.bool true) ∧ Below w.heap.size w w' := by
  have HT := hide hT
  clear hT
  go_enter Tryd.func9, Tryd.ntmps9
  go_wp2_with fail
  have T1 := hide (two_below (balloc (brefl _) (.cells #[.int .i64 65000, .int .i64 2] 23)) (two_new w 65000 1 23))
  have T2 := hide (two_new (w.alloc (.cells #[.int .i64 65000, .int .i64 1] 23)) 65000 2 23)
  have B0 := hide (balloc (balloc (brefl w) (.cells #[.int .i64 65000, .int .i64 1] 23)) (.cells #[.int .i64 65000, .int .i64 2] 23))
  rw [show (w.alloc (.cells #[.int .i64 65000, .int .i64 1] 23)).heap.size = w.heap.size + 1 by simp] at T2
  generalize (w.alloc (.cells #[.int .i64 65000, .int .i64 1] 23)).alloc (.cells #[.int .i64 65000, .int .i64 2] 23) = W0 at *
  have CA := hide (add_good (some ⟨w.heap.size, 0, none⟩) (some ⟨w.heap.size + 1, 0, none⟩) 1 1 [(65000, 1)] [(65000, 2)] W0 (Co.slot_one _ _ _ _ T1.out) (Co.slot_one _ _ _ _ T2.out) (came_some _ _ _) (came_some _ _ _) (by decide) (by decide) (by decide))
  refine CA.out.mono ?_
  rintro e w1 ⟨x, xo, xc, hu, hcx, hwr, hb1, hcase⟩
  obtain rfl := Co.uni_two x hu
  rcases hcase with ⟨_, rfl⟩ | ⟨h8, _⟩
  · have S1 := hide (Co.wrow_slot hwr)
    have B1 := hide (bthen B0.out hb1)
    clear hb1 hwr hu hcx CA T1 T2 B0
    obtain ⟨n, hn⟩ : ∃ n, n = Co.two.length := ⟨_, rfl⟩
    rw [← hn]
    have HN := hide hn
    clear hn
    go_wp2_with fail
    refine (parse_nE _).mono ?_
    rintro e w2 ⟨rfl, hb2⟩
    have S2 := hide (Co.slot_below S1.out hb2)
    have B2 := hide (bthen B1.out hb2)
    clear hb2 S1 B1
    go_wp2_with fail
    have TB := hide (two_new w2 65535 65281 23)
    have S3 := hide (Co.slot_below S2.out (balloc (brefl w2) (.cells #[.int .i64 65535, .int .i64 65281] 23)))
    have B3 := hide (balloc B2.out (.cells #[.int .i64 65535, .int .i64 65281] 23))
    have CT := hide (texts_is xo xc Co.two _ rfl _ S3.out (HT.out.on B3.out))
    rw [← HN.out, Co.texts_two] at CT
    generalize w2.alloc (.cells #[.int .i64 65535, .int .i64 65281] 23) = W3 at *
    generalize w2.heap.size = R at *
    refine CT.out.mono ?_
    rintro e w4 ⟨rfl, hb4⟩
    obtain ⟨p0, p1, p2, p3⟩ := two_below hb4 TB.out
    have B4 := hide (bthen B3.out hb4)
    clear hb4 CT
    have hq := eqC
    have hgd := guardC
    go_wp2_with fail
    go_ret
    exact ⟨rfl, B4.out⟩
  · exact absurd h8 (by decide)
end Go.Proofs.YtgebfgjeckdngaaDoor
