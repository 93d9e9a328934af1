/- The document's May. -/
import Derived.Test.YtpkikfojiibdaaaDoorE2
import Derived.Test.YtpkikfojiibdaaaDoorCA2
namespace Go.Proofs.YtpkikfojiibdaaaDoor
open Go.RowKit

set_option maxHeartbeats 4000000 in
set_option maxRecDepth 100000 in
theorem refMayA_is (a : At) (po co ko : Option Addr) (cp cc ck : Nat) (r : Bool) (hr : At.may a = r) (w : World) (hA : At.lies w a po co ko) (h1 : a.path.length ≤ 100) (h2 : a.comms.length ≤ 100) (h3 : a.cl.length ≤ 100) :
    Calls Tryd.prog 10 #[.agg #[.int .i64 a.pf, .int .i64 a.md, .int .i64 a.og, .slice po a.path.length cp, .slice co a.comms.length cc, .int .i64 a.fr, .slice ko a.cl.length ck]] w fun e w' => e = .returned (.bool r) ∧ Below w.heap.size w w' := by
  obtain ⟨x0, x1, x2, pa, cm, x5, kl⟩ := a
  simp only at *
  rw [At.may_eq] at hr
  simp only at hr
  have HB := hide (balloc (brefl w) (.cells #[.int .i64 x0, .int .i64 x1, .int .i64 x2, .slice po pa.length cp, .slice co cm.length cc, .int .i64 x5, .slice ko kl.length ck] 25))
  have N0 := hide (heap_new w #[.int .i64 x0, .int .i64 x1, .int .i64 x2, .slice po pa.length cp, .slice co cm.length cc, .int .i64 x5, .slice ko kl.length ck] 25)
  have HL := hide (At.lies_below hA HB.out)
  clear hA
  rcases nums_cases x0 x1 x2 x5 with ⟨hn, k0, k1, k2, k3, k4, k5, k6, k7⟩ | ⟨hn, hc⟩
  · rw [hn, Bool.true_and] at hr
    have HR := hide hr
    clear hr hn
    have H1 := hide h1
    have H2 := hide h2
    have H3 := hide h3
    clear h1 h2 h3
    go_enter Tryd.func10, Tryd.ntmps10
    go_wp2_with fail
    generalize w.alloc (.cells #[.int .i64 x0, .int .i64 x1, .int .i64 x2, .slice po pa.length cp, .slice co cm.length cc, .int .i64 x5, .slice ko kl.length ck] 25) = W at *
    obtain ⟨p, hp⟩ : ∃ p, w.heap.size = p := ⟨_, rfl⟩
    rw [hp] at N0
    rw [hp]
    clear hp
    obtain ⟨c0, c1, c2, c3, c4, c5, c6⟩ := seven_cells N0.out
    cases hm : Is.may pa
    · have CM := hide (refMay_is po cp pa false hm W HL.out.1 (by have := H1.out; omega))
      have HN : Hid (r = false) := by show _ = _; rw [← HR.out, hm]; rfl
      clear hm
      refine CM.out.mono ?_
      rintro e w1 ⟨rfl, hw⟩
      subst w1
      go_wp2_with fail
      go_ret
      exact ⟨ret_bool HN.out.symm, HB.out⟩
    have CM := hide (refMay_is po cp pa true hm W HL.out.1 (by have := H1.out; omega))
    refine CM.out.mono ?_
    rintro e w1 ⟨rfl, hw⟩
    subst w1
    cases hc : Cm.Co.set cm
    · have CC := hide (Cm.refSet_is co cc cm false hc W HL.out.2.1 (by have := H2.out; omega))
      have HN : Hid (r = false) := by show _ = _; rw [← HR.out, hm, hc]; rfl
      clear hm hc CM
      go_wp2_with fail
      refine CC.out.mono ?_
      rintro e w2 ⟨rfl, hb2⟩
      have HB2 := hide (bthen HB.out hb2)
      clear hb2 CC
      go_wp2_with fail
      go_ret
      exact ⟨ret_bool HN.out.symm, HB2.out⟩
    have CC := hide (Cm.refSet_is co cc cm true hc W HL.out.2.1 (by have := H2.out; omega))
    have HN : Hid (Cl.ok kl = r) := by show _ = _; rw [← HR.out, hm, hc]; rfl
    clear hm hc CM
    go_wp2_with fail
    refine CC.out.mono ?_
    rintro e w2 ⟨rfl, hb2⟩
    have HB2 := hide (bthen HB.out hb2)
    have CK := hide (refClusters_is ko ck kl r HN.out w2 (Is.slot_below HL.out.2.2 hb2) (by have := H3.out; omega))
    have N2 := hide ((hb2.block p (heap_lt N0.out)).trans N0.out)
    clear hb2 CC c0 c1 c2 c3 c4 c5 c6
    obtain ⟨c0, c1, c2, c3, c4, c5, c6⟩ := seven_cells N2.out
    go_wp2_with fail
    refine CK.out.mono ?_
    rintro e w3 ⟨rfl, hb3⟩
    have HB3 := hide (bthen HB2.out hb3)
    clear hb3 CK
    go_wp2_with fail
    go_ret
    exact ⟨rfl, HB3.out⟩
  · rw [hn, Bool.false_and] at hr
    subst hr
    clear hn
    rcases hc with k0 | ⟨k0, k1⟩ | ⟨k0, k1, k2⟩ | ⟨k0, k1, k2, k3⟩ | ⟨k0, k1, k2, k3, k4⟩ | ⟨k0, k1, k2, k3, k4, k5⟩ | ⟨k0, k1, k2, k3, k4, k5, k6⟩ | ⟨k0, k1, k2, k3, k4, k5, k6, k7⟩
    all_goals
      go_enter Tryd.func10, Tryd.ntmps10
      go_wp2_with fail
      go_ret
      exact ⟨rfl, HB.out⟩
end Go.Proofs.YtpkikfojiibdaaaDoor
