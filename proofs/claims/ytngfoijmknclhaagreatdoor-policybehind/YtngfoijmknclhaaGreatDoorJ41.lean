/- What a change makes of communities. -/
import Derived.Test.YtngfoijmknclhaaGreatDoorJ33
import Derived.Test.YtngfoijmknclhaaGreatDoorJ40
namespace Go.Proofs.YtngfoijmknclhaaGreatDoor
open Go.RowKit Go.Sort
theorem left_set {a : At} {s : St} (sm : Cm.Co.set a.comms = true) : Cm.Co.set (At.left a s) = true := by
  refine set_of_rises ?_ (fun c hc => set_may sm c ((mem_left _ _ _).1 hc).1.2) ?_
  · have hr := rises_of_set sm
    unfold At.left
    refine List.Pairwise.filter _ ?_
    split
    · exact List.Pairwise.nil
    · exact hr
  · have h8 := ((Cm.Co.set_iff _).1 sm).1
    unfold At.left
    refine Nat.le_trans (List.length_filter_le _ _) ?_
    split
    · simp
    · exact h8
theorem wrow_mono {B B' : Nat} {w : World} {o : Option Addr} {x : List Cm.Co.C} (h : Cm.Co.wrow B w o x) (hb : B' ≤ B) : Cm.Co.wrow B' w o x := by
  rcases h with h | ⟨g, h1, h2, h3⟩
  · exact .inl h
  · exact .inr ⟨g, h1, Nat.le_trans hb h2, h3⟩
theorem left_clr {a : At} {s : St} (h : s.clr = true) : At.left a s = ([] : List Cm.Co.C).filter fun c => !Cm.Co.inL s.del c := by
  unfold At.left
  rw [if_pos h]
theorem left_not {a : At} {s : St} (h : s.clr = false) : At.left a s = a.comms.filter fun c => !Cm.Co.inL s.del c := by
  unfold At.left
  rw [if_neg (by rw [h]; decide)]
set_option maxHeartbeats 4000000 in
set_option maxRecDepth 100000 in
theorem doComms_is (a : At) (s : St) (co : Option Addr) (cc : Nat) (ao dl pr : Option Addr) (ca cd cr : Nat) (w : World) (hl : Cm.Co.slot w co a.comms) (hc : Cm.Co.came co cc) (hS : St.lies w s ao dl pr) (hCA : Cm.Co.nilW ao ca) (sm : Cm.Co.set a.comms = true) (hm : (s.add.any fun x => !Cm.Co.may x) = false) (h1 : s.add.length ≤ 100) (h2 : s.del.length ≤ 100) :
    Calls Tryz.prog 120 #[.slice co a.comms.length cc, .agg #[.int .i64 s.pf, .int .i64 s.md, .int .i64 s.og, .slice ao s.add.length ca, .slice dl s.del.length cd, .bool s.clr, .slice pr s.pre.length cr]] w (Cm.AddGood w (At.left a s) s.add) := by
  have HB := hide (balloc (brefl w) (.cells #[.int .i64 s.pf, .int .i64 s.md, .int .i64 s.og, .slice ao s.add.length ca, .slice dl s.del.length cd, .bool s.clr, .slice pr s.pre.length cr] 43))
  have N0 := hide (heap_new w #[.int .i64 s.pf, .int .i64 s.md, .int .i64 s.og, .slice ao s.add.length ca, .slice dl s.del.length cd, .bool s.clr, .slice pr s.pre.length cr] 43)
  have LS := hide (St.lies_below hS HB.out)
  have LA := hide (Cm.Co.slot_below hl HB.out)
  have SM := hide sm
  have SL := hide (left_set (s := s) sm)
  have HM := hide hm
  have HC := hide hc
  have HCA := hide hCA
  have CA := hide (fun o c W hw hs hco => Cm.add_good o ao c ca (At.left a s) s.add W hw hs hco HCA.out SL.out HM.out (by omega))
  cases hclr : s.clr
  · have CD := hide (fun W hA hM => Cm.del_good co dl cc cd a.comms s.del (At.left a s) (left_not hclr) W hA hM HC.out SM.out (by omega))
    rw [hclr] at HB N0 LS LA
    generalize At.left a s = L at *
    obtain ⟨x0, x1, x2, ad, de, cl, pp⟩ := s
    simp only at *
    clear hl hc hS hCA sm hm h1 h2 hclr
    go_enter Tryz.func120, Tryz.ntmps120
    go_wp2_with fail
    generalize w.alloc (.cells #[.int .i64 x0, .int .i64 x1, .int .i64 x2, .slice ao ad.length ca, .slice dl de.length cd, .bool false, .slice pr pp.length cr] 43) = W at *
    obtain ⟨q, hq⟩ : ∃ q, w.heap.size = q := ⟨_, rfl⟩
    rw [hq] at N0
    rw [hq]
    clear hq
    obtain ⟨c0, c1, c2, c3, c4, c5, c6⟩ := seven_cells N0.out
    refine (CD.out _ LA.out LS.out.2.1).mono ?_
    rintro e w1 ⟨o, c, rfl, hco, hwr, hb1⟩
    have CA1 := hide (CA.out o c w1 (Cm.Co.wrow_slot hwr) (Cm.Co.slot_below LS.out.1 hb1) hco)
    have B1 := hide (bthen HB.out hb1)
    have N1 := hide ((hb1.block q (heap_lt N0.out)).trans N0.out)
    clear c0 c1 c2 c3 c4 c5 c6 CA CD hco hwr hb1
    obtain ⟨c0, c1, c2, c3, c4, c5, c6⟩ := seven_cells N1.out
    go_wp2_with fail
    refine CA1.out.mono ?_
    rintro e w2 ⟨x, xo, xc, hu, hcx, hw2, hb2, he⟩
    have HU := hide hu
    have HCX := hide hcx
    have HW := hide (wrow_mono hw2 B1.out.size)
    have B2 := hide (bthen B1.out hb2)
    clear hu hcx hw2 hb2 CA1
    rcases he with ⟨h8, rfl⟩ | ⟨h8, rfl⟩
    · have H8 := hide h8
      clear h8
      go_wp2_with fail
      refine bodyPost_ret (v := .tuple #[.slice xo x.length xc, .int .i64 0]) ?_ rfl ⟨x, xo, xc, HU.out, HCX.out, HW.out, B2.out, .inl ⟨H8.out, rfl⟩⟩
      simp [results, Tryz.results120, go_sem]
    · have H8 := hide h8
      clear h8
      go_wp2_with fail
      refine bodyPost_ret (v := .tuple #[.slice none 0 0, .int .i64 2]) ?_ rfl ⟨x, xo, xc, HU.out, HCX.out, HW.out, B2.out, .inr ⟨H8.out, rfl⟩⟩
      simp [results, Tryz.results120, go_sem]
  · have CD := hide (fun W hA hM => Cm.del_good none dl 0 cd [] s.del (At.left a s) (left_clr hclr) W hA hM ⟨fun _ => rfl, fun ad h => (by cases h)⟩ (by decide) (by omega))
    rw [hclr] at HB N0 LS LA
    generalize At.left a s = L at *
    obtain ⟨x0, x1, x2, ad, de, cl, pp⟩ := s
    simp only [List.length_nil] at *
    clear hl hc hS hCA sm hm h1 h2 hclr
    go_enter Tryz.func120, Tryz.ntmps120
    go_wp2_with fail
    generalize w.alloc (.cells #[.int .i64 x0, .int .i64 x1, .int .i64 x2, .slice ao ad.length ca, .slice dl de.length cd, .bool true, .slice pr pp.length cr] 43) = W at *
    obtain ⟨q, hq⟩ : ∃ q, w.heap.size = q := ⟨_, rfl⟩
    rw [hq] at N0
    rw [hq]
    clear hq
    obtain ⟨c0, c1, c2, c3, c4, c5, c6⟩ := seven_cells N0.out
    refine (CD.out _ (.inl rfl) LS.out.2.1).mono ?_
    rintro e w1 ⟨o, c, rfl, hco, hwr, hb1⟩
    have CA1 := hide (CA.out o c w1 (Cm.Co.wrow_slot hwr) (Cm.Co.slot_below LS.out.1 hb1) hco)
    have B1 := hide (bthen HB.out hb1)
    have N1 := hide ((hb1.block q (heap_lt N0.out)).trans N0.out)
    clear c0 c1 c2 c3 c4 c5 c6 CA CD hco hwr hb1
    obtain ⟨c0, c1, c2, c3, c4, c5, c6⟩ := seven_cells N1.out
    go_wp2_with fail
    refine CA1.out.mono ?_
    rintro e w2 ⟨x, xo, xc, hu, hcx, hw2, hb2, he⟩
    have HU := hide hu
    have HCX := hide hcx
    have HW := hide (wrow_mono hw2 B1.out.size)
    have B2 := hide (bthen B1.out hb2)
    clear hu hcx hw2 hb2 CA1
    rcases he with ⟨h8, rfl⟩ | ⟨h8, rfl⟩
    · have H8 := hide h8
      clear h8
      go_wp2_with fail
      refine bodyPost_ret (v := .tuple #[.slice xo x.length xc, .int .i64 0]) ?_ rfl ⟨x, xo, xc, HU.out, HCX.out, HW.out, B2.out, .inl ⟨H8.out, rfl⟩⟩
      simp [results, Tryz.results120, go_sem]
    · have H8 := hide h8
      clear h8
      go_wp2_with fail
      refine bodyPost_ret (v := .tuple #[.slice none 0 0, .int .i64 2]) ?_ rfl ⟨x, xo, xc, HU.out, HCX.out, HW.out, B2.out, .inr ⟨H8.out, rfl⟩⟩
      simp [results, Tryz.results120, go_sem]
end Go.Proofs.YtngfoijmknclhaaGreatDoor
