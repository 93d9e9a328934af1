import Derived.Test.YtkhmhmopcofejaaPI
import Derived.Test.YtkhmhmopcofejaaP3
import Derived.Test.YtkhmhmopcofejaaP4
import Derived.Test.YtkhmhmopcofejaaRG
import Derived.Test.YtkhmhmopcofejaaKA
/- The contracts of wire's mayAttr and May. -/
namespace Go.Proofs.Ytkhmhmopcofejaa
open Go.RowKit Go.Sort

/-- Not too many parts. -/
structure Up.Some (u : Up) : Prop where
  wd : u.wd.length ≤ 10000
  td : u.td.length ≤ 10000
  pa : u.at_.path.length ≤ 200
  cm : u.at_.comms.length ≤ 200
  cl : u.at_.cl.length ≤ 200
theorem Up.Few.some {u : Up} (h : u.Few) : u.Some := ⟨by have := h.wd; omega, by have := h.td; omega, by have := h.path; omega, by have := h.comms; omega, by have := h.cl; omega⟩
def atMay (u : Up) : Prop := if u.td = [] then u.at_ = ⟨0, 0, 0, [], [], 0, []⟩ else At.may u.at_ = true
set_option maxHeartbeats 1000000 in
set_option maxRecDepth 100000 in
theorem mayAttr_is (u : Up) (wo tq po co ko : Option Addr) (cw ct cp cc ck : Nat) (r : Bool) (hr : r = true ↔ atMay u) (hs : u.Some) (hk : u.at_.cl.length ≤ ck) (w : World) (hU : Up.lies w u wo tq po co ko) :
    Calls Try.prog 30 #[.agg #[.slice wo u.wd.length cw, .slice tq u.td.length ct, .int .i64 u.at_.pf, .int .i64 u.at_.md, .int .i64 u.at_.og, .slice po u.at_.path.length cp, .slice co u.at_.comms.length cc, .int .i64 u.at_.fr, .slice ko u.at_.cl.length ck]] w fun e w' => e = .returned (.bool r) ∧ Below w.heap.size w w' := by
  have HB := hide (balloc (brefl w) (.cells #[.slice wo u.wd.length cw, .slice tq u.td.length ct, .int .i64 u.at_.pf, .int .i64 u.at_.md, .int .i64 u.at_.og, .slice po u.at_.path.length cp, .slice co u.at_.comms.length cc, .int .i64 u.at_.fr, .slice ko u.at_.cl.length ck] 35))
  have HL := hide (Up.lies_below hU HB.out)
  have HS := hide hs
  have HR := hide hr
  have HK := hide hk
  clear hU hr hs hk
  by_cases ht : u.td = []
  · have htl : u.td.length = 0 := by rw [ht]; rfl
    have htl' : ((u.td.length : Int) == 0) = true := by rw [htl]; rfl
    have HR' : Hid (decide (At.cmp u.at_ ⟨0, 0, 0, [], [], 0, []⟩ = 0) = r) := by
      have h1 := HR.out
      unfold atMay at h1
      rw [if_pos ht, ← At.cmp_zero] at h1
      show _ = _
      rw [Bool.eq_iff_iff, decide_eq_true_eq]
      exact h1.symm
    have CS := hide (sameA_is u.at_ ⟨0, 0, 0, [], [], 0, []⟩ po co ko none none none cp cc ck 0 0 0 r HR'.out (w.alloc (.cells #[.slice wo u.wd.length cw, .slice tq u.td.length ct, .int .i64 u.at_.pf, .int .i64 u.at_.md, .int .i64 u.at_.og, .slice po u.at_.path.length cp, .slice co u.at_.comms.length cc, .int .i64 u.at_.fr, .slice ko u.at_.cl.length ck] 35)) HL.out.2.2 ⟨.inl rfl, .inl rfl, .inl rfl⟩ (by have := HS.out.pa; omega) (by have := HS.out.cm; omega) (by have := HS.out.cl; omega) (by simp) (by simp) (by simp))
    simp only [List.length_nil] at CS
    clear htl
    clear ht HR HR' HL
    go_enter Try.func30, Try.ntmps30
    go_wp2_with fail
    refine CS.out.mono ?_
    rintro e w1 ⟨rfl, b1⟩
    have B1 := hide (bthen HB.out b1)
    clear b1 CS HB
    go_wp2_with fail
    go_ret
    exact ⟨rfl, B1.out⟩
  · have htl : ((u.td.length : Int) == 0) = false := len_ne (fun e => ht (List.length_eq_zero_iff.1 e))
    have HR' : Hid (At.may u.at_ = r) := by
      have h1 := HR.out
      unfold atMay at h1
      rw [if_neg ht] at h1
      show _ = _
      rw [Bool.eq_iff_iff]
      exact h1.symm
    have CS := hide (mayA_is u.at_ po co ko cp cc ck r HR'.out (w.alloc (.cells #[.slice wo u.wd.length cw, .slice tq u.td.length ct, .int .i64 u.at_.pf, .int .i64 u.at_.md, .int .i64 u.at_.og, .slice po u.at_.path.length cp, .slice co u.at_.comms.length cc, .int .i64 u.at_.fr, .slice ko u.at_.cl.length ck] 35)) HL.out.2.2 (by have := HS.out.pa; omega) (by have := HS.out.cm; omega) (by have := HS.out.cl; omega) HK.out)
    clear ht HR HR' HL
    go_enter Try.func30, Try.ntmps30
    go_wp2_with fail
    refine CS.out.mono ?_
    rintro e w1 ⟨rfl, b1⟩
    have B1 := hide (bthen HB.out b1)
    clear b1 CS HB
    go_wp2_with fail
    go_ret
    exact ⟨rfl, B1.out⟩
theorem may_parts (u : Up) : u.may ↔ ¬ (u.wd.length = 0 ∧ u.td.length = 0) ∧ Ups u.wd ∧ Ups u.td ∧ atMay u := by
  unfold Up.may atMay
  constructor
  · rintro ⟨h1, h2, h3, h4⟩
    refine ⟨fun h => ?_, h1, h2, h4⟩
    rcases h3 with h3 | h3
    · exact h3 (List.length_eq_zero_iff.1 h.1)
    · exact h3 (List.length_eq_zero_iff.1 h.2)
  · rintro ⟨h3, h1, h2, h4⟩
    refine ⟨h1, h2, ?_, h4⟩
    by_cases hw : u.wd = []
    · right
      intro ht
      exact h3 ⟨by rw [hw]; rfl, by rw [ht]; rfl⟩
    · exact .inl hw
set_option maxHeartbeats 1000000 in
set_option maxRecDepth 100000 in
theorem mayU_is (u : Up) (wo tq po co ko : Option Addr) (cw ct cp cc ck : Nat) (r : Bool) (hr : r = true ↔ u.may) (hf : u.fits) (hs : u.Some) (hk : u.at_.cl.length ≤ ck) (w : World) (hU : Up.lies w u wo tq po co ko) :
    Calls Try.prog 13 #[.agg #[.slice wo u.wd.length cw, .slice tq u.td.length ct, .int .i64 u.at_.pf, .int .i64 u.at_.md, .int .i64 u.at_.og, .slice po u.at_.path.length cp, .slice co u.at_.comms.length cc, .int .i64 u.at_.fr, .slice ko u.at_.cl.length ck]] w fun e w' => e = .returned (.bool r) ∧ Below w.heap.size w w' := by
  have HB := hide (balloc (brefl w) (.cells #[.slice wo u.wd.length cw, .slice tq u.td.length ct, .int .i64 u.at_.pf, .int .i64 u.at_.md, .int .i64 u.at_.og, .slice po u.at_.path.length cp, .slice co u.at_.comms.length cc, .int .i64 u.at_.fr, .slice ko u.at_.cl.length ck] 35))
  have N0 := hide (heap_new w #[.slice wo u.wd.length cw, .slice tq u.td.length ct, .int .i64 u.at_.pf, .int .i64 u.at_.md, .int .i64 u.at_.og, .slice po u.at_.path.length cp, .slice co u.at_.comms.length cc, .int .i64 u.at_.fr, .slice ko u.at_.cl.length ck] 35)
  have HL := hide (Up.lies_below hU HB.out)
  have HS := hide hs
  have HNO : Hid (¬ u.may → r = false) := fun h => by
    cases r
    · rfl
    · exact absurd (hr.1 rfl) h
  have HYE : Hid (u.may → r = true) := hr.2
  obtain ⟨r1, hr1⟩ : ∃ r1 : Bool, r1 = true ↔ Ups u.wd := ⟨@decide (Ups u.wd) (Classical.propDecidable _), by simp⟩
  obtain ⟨r2, hr2⟩ : ∃ r2 : Bool, r2 = true ↔ Ups u.td := ⟨@decide (Ups u.td) (Classical.propDecidable _), by simp⟩
  obtain ⟨r3, hr3⟩ : ∃ r3 : Bool, r3 = true ↔ atMay u := ⟨@decide (atMay u) (Classical.propDecidable _), by simp⟩
  have C1 := hide (fun W' (hb : Below (w.alloc (.cells #[.slice wo u.wd.length cw, .slice tq u.td.length ct, .int .i64 u.at_.pf, .int .i64 u.at_.md, .int .i64 u.at_.og, .slice po u.at_.path.length cp, .slice co u.at_.comms.length cc, .int .i64 u.at_.fr, .slice ko u.at_.cl.length ck] 35)).heap.size (w.alloc (.cells #[.slice wo u.wd.length cw, .slice tq u.td.length ct, .int .i64 u.at_.pf, .int .i64 u.at_.md, .int .i64 u.at_.og, .slice po u.at_.path.length cp, .slice co u.at_.comms.length cc, .int .i64 u.at_.fr, .slice ko u.at_.cl.length ck] 35)) W') => mayPrefixes_is wo cw u.wd r1 hr1 hf.1 (by have := hs.wd; omega) W' (Ax.Ad.rowAt_below HL.out.1 hb))
  have C2 := hide (fun W' (hb : Below (w.alloc (.cells #[.slice wo u.wd.length cw, .slice tq u.td.length ct, .int .i64 u.at_.pf, .int .i64 u.at_.md, .int .i64 u.at_.og, .slice po u.at_.path.length cp, .slice co u.at_.comms.length cc, .int .i64 u.at_.fr, .slice ko u.at_.cl.length ck] 35)).heap.size (w.alloc (.cells #[.slice wo u.wd.length cw, .slice tq u.td.length ct, .int .i64 u.at_.pf, .int .i64 u.at_.md, .int .i64 u.at_.og, .slice po u.at_.path.length cp, .slice co u.at_.comms.length cc, .int .i64 u.at_.fr, .slice ko u.at_.cl.length ck] 35)) W') => mayPrefixes_is tq ct u.td r2 hr2 hf.2 (by have := hs.td; omega) W' (Ax.Ad.rowAt_below HL.out.2.1 hb))
  have C3 := hide (fun W' (hb : Below (w.alloc (.cells #[.slice wo u.wd.length cw, .slice tq u.td.length ct, .int .i64 u.at_.pf, .int .i64 u.at_.md, .int .i64 u.at_.og, .slice po u.at_.path.length cp, .slice co u.at_.comms.length cc, .int .i64 u.at_.fr, .slice ko u.at_.cl.length ck] 35)).heap.size (w.alloc (.cells #[.slice wo u.wd.length cw, .slice tq u.td.length ct, .int .i64 u.at_.pf, .int .i64 u.at_.md, .int .i64 u.at_.og, .slice po u.at_.path.length cp, .slice co u.at_.comms.length cc, .int .i64 u.at_.fr, .slice ko u.at_.cl.length ck] 35)) W') => mayAttr_is u wo tq po co ko cw ct cp cc ck r3 hr3 hs hk W' (Up.lies_below HL.out hb))
  have H1 := hide hr1
  have H2 := hide hr2
  have H3 := hide hr3
  have MP := hide (may_parts u)
  clear hU hr hf hs hk hr1 hr2 hr3 HL
  by_cases he : u.wd.length = 0 ∧ u.td.length = 0
  · have HN := hide (HNO.out (fun h => (MP.out.1 h).1 he))
    obtain ⟨e1, e2⟩ := he
    have e1' : ((u.wd.length : Int) == 0) = true := by rw [e1]; rfl
    have e2' : ((u.td.length : Int) == 0) = true := by rw [e2]; rfl
    clear C1 C2 C3 e1 e2
    go_enter Try.func13, Try.ntmps13
    go_wp2_with fail
    go_ret
    exact ⟨ret_bool HN.out.symm, HB.out⟩
  · have HE := hide he
    by_cases e0 : u.wd.length = 0
    all_goals
      first
        | (have e1 : ((u.wd.length : Int) == 0) = true := by rw [e0]; rfl
           have e2 : ((u.td.length : Int) == 0) = false := len_ne (fun e => he ⟨e0, e⟩))
        | (have e1 : ((u.wd.length : Int) == 0) = false := len_ne e0)
      clear he e0
      go_enter Try.func13, Try.ntmps13
      go_wp2_with fail
      generalize w.alloc (.cells #[.slice wo u.wd.length cw, .slice tq u.td.length ct, .int .i64 u.at_.pf, .int .i64 u.at_.md, .int .i64 u.at_.og, .slice po u.at_.path.length cp, .slice co u.at_.comms.length cc, .int .i64 u.at_.fr, .slice ko u.at_.cl.length ck] 35) = W at *
      obtain ⟨p, hp⟩ : ∃ p, w.heap.size = p := ⟨_, rfl⟩
      rw [hp] at N0
      rw [hp]
      have PL := hide (heap_lt N0.out)
      have SH : Hid (∀ W', Below W.heap.size W W' → W'.heap[p]? = some (.cells #[.slice wo u.wd.length cw, .slice tq u.td.length ct, .int .i64 u.at_.pf, .int .i64 u.at_.md, .int .i64 u.at_.og, .slice po u.at_.path.length cp, .slice co u.at_.comms.length cc, .int .i64 u.at_.fr, .slice ko u.at_.cl.length ck] 35 (0, 0))) := fun W' hb => (hb.block p PL.out).trans N0.out
      clear hp
      refine (C1.out _ (brefl W)).mono ?_
      rintro e w1 ⟨rfl, b1⟩
      obtain ⟨c0, c1, c2, c3, c4, c5, c6, c7, c8⟩ := nine_cells (SH.out _ b1)
      have B1 := hide b1
      clear b1
      cases hq1 : r1
      · have HN := hide (HNO.out (fun h => by have := H1.out.2 (MP.out.1 h).2.1; rw [hq1] at this; cases this))
        go_wp2_with fail
        go_ret
        exact ⟨ret_bool HN.out.symm, bthen HB.out B1.out⟩
      · go_wp2_with fail
        refine (C2.out _ B1.out).mono ?_
        rintro e w2 ⟨rfl, b2⟩
        have B2 := hide (bthen B1.out b2)
        clear c0 c1 c2 c3 c4 c5 c6 c7 c8 b2
        obtain ⟨c0, c1, c2, c3, c4, c5, c6, c7, c8⟩ := nine_cells (SH.out _ B2.out)
        cases hq2 : r2
        · have HN := hide (HNO.out (fun h => by have := H2.out.2 (MP.out.1 h).2.2.1; rw [hq2] at this; cases this))
          go_wp2_with fail
          go_ret
          exact ⟨ret_bool HN.out.symm, bthen HB.out B2.out⟩
        · go_wp2_with fail
          refine (C3.out _ B2.out).mono ?_
          rintro e w3 ⟨rfl, b3⟩
          have B3 := hide (bthen B2.out b3)
          have HN : Hid (r3 = r) := by
            show _ = _
            cases hq3 : r3
            · exact (HNO.out (fun h => by have := H3.out.2 (MP.out.1 h).2.2.2; rw [hq3] at this; cases this)).symm
            · exact (HYE.out (MP.out.2 ⟨HE.out, H1.out.1 hq1, H2.out.1 hq2, H3.out.1 hq3⟩)).symm
          clear c0 c1 c2 c3 c4 c5 c6 c7 c8 b3
          go_wp2_with fail
          go_ret
          exact ⟨ret_bool HN.out, bthen HB.out B3.out⟩
end Go.Proofs.Ytkhmhmopcofejaa
