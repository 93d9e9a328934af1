import Derived.Test.YtkhmhmopcofejaaPH
import Derived.Test.YtkhmhmopcofejaaPJ
/- The contract of wire's Encode. -/
namespace Go.Proofs.Ytkhmhmopcofejaa
open Go.RowKit Go.Sort

theorem own_apt {w : World} {B : Nat} {o : Option Addr} {c : Nat} {d : List UInt8} (h : Own w B (.slice o d.length c) d) : Apt w o none := by
  intro ad e
  subst e
  exact ⟨(own_lt (.inl h) ad.block rfl).2, fun e => by cases e⟩
/-- What Encode tells. -/
def EncP (w : World) (u : Up) (e : Ending) (w' : World) : Prop :=
  (u.may ∧ ∃ o c, e = .returned (.tuple #[.slice o u.enc.length c, .int .i64 0]) ∧ NewB w u.enc o c w') ∨ (¬ u.may ∧ e = .returned (.tuple #[.slice none 0 0, .int .i64 1]) ∧ Below w.heap.size w w')
set_option maxHeartbeats 4000000 in
set_option maxRecDepth 100000 in
theorem encode_is (u : Up) (wo tq po co ko : Option Addr) (cw ct cp cc ck : Nat) (hf : u.fits) (hs : u.Some) (w : World) (hU : Up.lies w u wo tq po co ko) (hC : Up.came u wo tq po co ko cw ct cp cc ck) :
    Calls Try.prog 11 #[.agg #[.slice wo u.wd.length cw, .slice tq u.td.length ct, .int .i64 u.at_.pf, .int .i64 u.at_.md, .int .i64 u.at_.og, .slice po u.at_.path.length cp, .slice co u.at_.comms.length cc, .int .i64 u.at_.fr, .slice ko u.at_.cl.length ck]] w (EncP w u) := by
  have HB := hide (balloc (brefl w) (.cells #[.slice wo u.wd.length cw, .slice tq u.td.length ct, .int .i64 u.at_.pf, .int .i64 u.at_.md, .int .i64 u.at_.og, .slice po u.at_.path.length cp, .slice co u.at_.comms.length cc, .int .i64 u.at_.fr, .slice ko u.at_.cl.length ck] 35))
  have N0 := hide (heap_new w #[.slice wo u.wd.length cw, .slice tq u.td.length ct, .int .i64 u.at_.pf, .int .i64 u.at_.md, .int .i64 u.at_.og, .slice po u.at_.path.length cp, .slice co u.at_.comms.length cc, .int .i64 u.at_.fr, .slice ko u.at_.cl.length ck] 35)
  have HL := hide (Up.lies_below hU HB.out)
  obtain ⟨r, hr⟩ : ∃ r : Bool, r = true ↔ u.may := ⟨@decide u.may (Classical.propDecidable _), by simp⟩
  have CM := hide (mayU_is u wo tq po co ko cw ct cp cc ck r hr hf hs hC.2.2.2.2.2 (w.alloc (.cells #[.slice wo u.wd.length cw, .slice tq u.td.length ct, .int .i64 u.at_.pf, .int .i64 u.at_.md, .int .i64 u.at_.og, .slice po u.at_.path.length cp, .slice co u.at_.comms.length cc, .int .i64 u.at_.fr, .slice ko u.at_.cl.length ck] 35)) HL.out)
  have HR := hide hr
  clear hU hf hs hC hr
  go_enter Try.func11, Try.ntmps11
  go_wp2_with fail
  have WS := hide HB.out.size
  generalize w.alloc (.cells #[.slice wo u.wd.length cw, .slice tq u.td.length ct, .int .i64 u.at_.pf, .int .i64 u.at_.md, .int .i64 u.at_.og, .slice po u.at_.path.length cp, .slice co u.at_.comms.length cc, .int .i64 u.at_.fr, .slice ko u.at_.cl.length ck] 35) = W at *
  obtain ⟨p, hp⟩ : ∃ p, w.heap.size = p := ⟨_, rfl⟩
  rw [hp] at N0
  rw [hp]
  have HP := hide hp
  have PL := hide (heap_lt N0.out)
  refine CM.out.mono ?_
  rintro e W1 ⟨rfl, b1⟩
  have SH : Hid (∀ W', Below W1.heap.size W1 W' → W'.heap[p]? = some (.cells #[.slice wo u.wd.length cw, .slice tq u.td.length ct, .int .i64 u.at_.pf, .int .i64 u.at_.md, .int .i64 u.at_.og, .slice po u.at_.path.length cp, .slice co u.at_.comms.length cc, .int .i64 u.at_.fr, .slice ko u.at_.cl.length ck] 35 (0, 0))) := fun W' hb => ((bthen b1 hb).block p PL.out).trans N0.out
  have BB := hide (bthen HB.out b1)
  have HL1 := hide (Up.lies_below HL.out b1)
  clear b1 CM HL PL N0 HB
  cases hq : r
  · have HN : Hid (¬ u.may) := fun h => by have := HR.out.2 h; rw [hq] at this; cases this
    clear hp
    go_wp2_with fail
    go_ret2
    exact .inr ⟨HN.out, rfl, BB.out⟩
  have HM := hide (HR.out.1 hq)
  have hwd : ∀ q ∈ u.wd, Gp q := HM.out.1.2.1
  have htd : ∀ q ∈ u.td, Gp q := HM.out.2.1.2.1
  have l1 := HM.out.1.1
  have l2 := HM.out.2.1.1
  have P1 := hide (pfxs_length HM.out.1)
  have P2 := hide (pfxs_length HM.out.2.1)
  have P3 := hide (Up.ab_length HM.out)
  have CP := hide (putPrefixes_is W1 (.slice none 0 0) [] wo cw u.wd hwd (by omega) (by simp) W1 (brefl W1) (own_nil W1 _) HL1.out.1)
  rw [List.nil_append] at CP
  clear hq HR hp
  obtain ⟨c0, c1, c2, c3, c4, c5, c6, c7, c8⟩ := nine_cells (SH.out _ (brefl W1))
  go_wp2_with fail
  refine CP.out.mono ?_
  intro e x1 hx1
  obtain ⟨v1, rfl, o1, b1⟩ := news_of hx1
  obtain ⟨a1, k1, rfl, s1, m1, _⟩ := own_at o1
  have CS := hide (sized_is W1.heap.size (.slice none 0 0) [] a1 k1 (pfxs u.wd) 2 (by decide) (by decide) (by simp) (by have := P1.out; omega) x1 b1.size (own_nil x1 _) s1 m1 (own_apt o1))
  rw [List.nil_append] at CS
  have B1 := hide b1
  clear hx1 o1 b1 s1 m1 CP c0 c1 c2 c3 c4 c5 c6 c7 c8
  obtain ⟨c0, c1, c2, c3, c4, c5, c6, c7, c8⟩ := nine_cells (SH.out _ B1.out)
  go_wp2_with fail
  refine CS.out.mono ?_
  rintro e x2 ⟨v2, rfl, o2, g2, _⟩
  have O2 := hide o2
  have B2 := hide (grown_from B1.out (.inl (own_nil x1 _)) g2)
  clear o2 g2 CS B1 c0 c1 c2 c3 c4 c5 c6 c7 c8
  obtain ⟨c0, c1, c2, c3, c4, c5, c6, c7, c8⟩ := nine_cells (SH.out _ B2.out)
  go_upto_if 16 with fail
  go_cut [5] from 6 (fun v5 wx => ∃ o5 c5, v5 = .slice o5 u.ab.length c5 ∧ Hid (Bs.slot wx o5 u.ab) ∧ Hid (camB o5 u.ab.length c5) ∧ Hid (Apt wx o5 v2.ownBlock) ∧ Hid (Own wx W1.heap.size v2 (num (pfxs u.wd).length 2 ++ pfxs u.wd)) ∧ Hid (Below W1.heap.size W1 wx))
  clear c0 c1 c2 c3 c4 c5 c6 c7 c8
  case first =>
    obtain ⟨c0, c1, c2, c3, c4, c5, c6, c7, c8⟩ := nine_cells (SH.out _ B2.out)
    by_cases ht : u.td = []
    · have ht' : ¬ (0 : Int) < (u.td.length : Int) := by rw [ht]; simp
      have HE : Hid (u.ab = []) := by show _ = _; unfold Up.ab; rw [if_pos ht]
      clear ht
      go_wp2_with fail
      go_meet
      rw [HE.out]
      exact ⟨none, 0, rfl, .inl rfl, ⟨fun _ => rfl, fun ad e => (by cases e), Nat.le_refl _⟩, fun ad e => (by cases e), O2, B2⟩
    · have ht' : (0 : Int) < (u.td.length : Int) := by have := List.length_pos_iff.2 ht; omega
      have HE : Hid (u.ab = u.at_.bytes) := by show _ = _; unfold Up.ab; rw [if_neg ht]
      have CA := hide (attrBytes_is u.at_ po co ko cp cc ck (Up.may_fits HM.out ht) x2 (At.lies_below HL1.out.2.2 B2.out))
      rw [← HE.out] at CA
      clear ht
      go_wp2_with fail
      refine CA.out.mono ?_
      rintro e x3 ⟨v3, rfl, o3, b3⟩
      obtain ⟨a3, k3, hv3, s3, m3, _⟩ := own_at o3
      have A3 := hide (apt_of O2.out o3 hv3)
      subst hv3
      have S3 := hide s3
      have M3 := hide m3
      have O3 := hide (own_below O2.out b3)
      have B3 := hide (bthen B2.out b3)
      clear o3 b3 s3 m3 CA c0 c1 c2 c3 c4 c5 c6 c7 c8
      go_wp2_with fail
      go_meet
      exact ⟨a3, k3, rfl, S3, M3, A3, O3, B3⟩
  case rest =>
  clear O2 B2
  obtain ⟨o5, c5, rfl, S5, M5, A5, O5, B5⟩ := hcut
  have CS := hide (sized_is W1.heap.size v2 (num (pfxs u.wd).length 2 ++ pfxs u.wd) o5 c5 u.ab 2 (by decide) (by decide) (by rw [List.length_append, num_length]; have := P1.out; omega) (by have := P3.out; omega) wc B5.out.size O5.out S5.out M5.out A5.out)
  obtain ⟨c0, c1, c2, c3, c4, c5, c6, c7, c8⟩ := nine_cells (SH.out _ B5.out)
  go_wp2_with fail
  refine CS.out.mono ?_
  rintro e x6 ⟨v6, rfl, o6, g6, _⟩
  have B6 := hide (grown_from B5.out (.inl O5.out) g6)
  have O6 := hide o6
  have CP := hide (putPrefixes_is W1 v6 _ tq ct u.td htd (by omega) (by simp only [List.length_append, num_length]; have := P1.out; have := P3.out; omega) x6 B6.out o6 HL1.out.2.1)
  clear o6 g6 CS O5 B5 S5 M5 A5 c0 c1 c2 c3 c4 c5 c6 c7 c8
  obtain ⟨c0, c1, c2, c3, c4, c5, c6, c7, c8⟩ := nine_cells (SH.out _ B6.out)
  go_wp2_with fail
  refine CP.out.mono ?_
  rintro e x7 ⟨v7, rfl, o7, g7, _⟩
  have B7 := hide (grown_from B6.out (.inl O6.out) g7)
  have HBY : Hid (num (pfxs u.wd).length 2 ++ pfxs u.wd ++ (num u.ab.length 2 ++ u.ab) ++ pfxs u.td = u.body) := by show _ = _; unfold Up.body; simp only [List.append_assoc]
  rw [HBY.out] at o7
  obtain ⟨a7, k7, rfl, s7, m7, _⟩ := own_at o7
  have CG := hide (message_is 2 a7 k7 u.body (by decide) (by have := Up.body_length HM.out; omega) x7 s7 m7 (own_apt o7))
  clear o7 g7 s7 m7 CP O6 B6 c0 c1 c2 c3 c4 c5 c6 c7 c8
  obtain ⟨c0, c1, c2, c3, c4, c5, c6, c7, c8⟩ := nine_cells (SH.out _ B7.out)
  go_wp2_with fail
  refine CG.out.mono ?_
  rintro e x8 ⟨v8, rfl, o8, b8⟩
  have B8 := hide (bthen BB.out (bthen B7.out b8))
  have O8 := hide (own_base o8 (show w.heap.size ≤ x7.heap.size from Nat.le_trans BB.out.size B7.out.size))
  clear o8 b8 CG B7 c0 c1 c2 c3 c4 c5 c6 c7 c8
  obtain ⟨a8, k8, rfl, s8, m8, r8⟩ := own_at O8.out
  have NB : Hid (NewB w u.enc a8 k8 x8) := ⟨s8, r8, m8, B8.out⟩
  have HLE : Hid ((frame 2 u.body).length = u.enc.length) := rfl
  rw [HLE.out]
  clear s8 m8 r8 O8
  go_wp2_with fail
  go_ret2
  exact .inl ⟨HM.out, a8, k8, rfl, NB.out⟩
end Go.Proofs.Ytkhmhmopcofejaa
