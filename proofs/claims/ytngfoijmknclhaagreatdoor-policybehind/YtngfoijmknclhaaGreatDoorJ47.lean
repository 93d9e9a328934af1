/- The law PolicyOpen. -/
import Derived.Test.YtngfoijmknclhaaGreatDoorJ46
namespace Go.Proofs.YtngfoijmknclhaaGreatDoor
open Go.RowKit Go.Sort
/-- A route as a value. -/
def RtV (pa pb : Int) (a : At) (po co ko : Option Addr) (cp cc ck : Nat) : Value := .agg #[.int .u32 pa, .int .i64 pb, .int .i64 a.pf, .int .i64 a.md, .int .i64 a.og, .slice po a.path.length cp, .slice co a.comms.length cc, .int .i64 a.fr, .slice ko a.cl.length ck]
theorem cells9 {w : World} {g t : Nat} {z0 z1 z2 z3 z4 z5 z6 z7 z8 : Value} (h : w.heap[g]? = some (.cells #[z0, z1, z2, z3, z4, z5, z6, z7, z8] t (0, 0))) : w.cell? ⟨g, 0, none⟩ = some z0 ∧ w.cell? ⟨g, 1, none⟩ = some z1 ∧ w.cell? ⟨g, 2, none⟩ = some z2 ∧ w.cell? ⟨g, 3, none⟩ = some z3 ∧ w.cell? ⟨g, 4, none⟩ = some z4 ∧ w.cell? ⟨g, 5, none⟩ = some z5 ∧ w.cell? ⟨g, 6, none⟩ = some z6 ∧ w.cell? ⟨g, 7, none⟩ = some z7 ∧ w.cell? ⟨g, 8, none⟩ = some z8 := by
  refine ⟨?_, ?_, ?_, ?_, ?_, ?_, ?_, ?_, ?_⟩ <;> (unfold World.cell?; rw [h]; rfl)
theorem few_at {a : At} {r : Bool} (h : few3 a.path.length a.comms.length a.cl.length = r) (hr : r = true) : a.path.length ≤ 100 ∧ a.comms.length ≤ 100 ∧ a.cl.length ≤ 100 := (few3_iff _ _ _).1 (h.trans hr)
/-- How far the document's question has come. -/
theorem find_noneQ {m : List Kl} (h : ∀ k (h : k < m.length), openQ m[k] = false) : m.find? openQ = none := find_none h
theorem find_go {m : List Kl} {k : Nat} (h : k < m.length) (ha : ∀ j (hj : j < m.length), j < k → openQ m[j] = false) (hq : openQ m[k] = true) : m.find? openQ = some m[k] :=
  find_some h hq (fun j hj => ha j (by omega) hj)
set_option maxHeartbeats 16000000 in
set_option maxRecDepth 100000 in
theorem law_open (mv v : Value) (m : List Kl) (ls : List Ll) (pa pb : Int) (a : At) (po co ko : Option Addr) (cp cc ck : Nat) (w : World) (hT : Ar.Y4.Pt w) (hm : Rd w 13 KlR mv m) (h : Rd w 2 LlR v ls) (hp : 0 ≤ pa ∧ pa ≤ 4294967295) (hA : At.lies w a po co ko) (hCA : At.came a po co ko cp cc ck) :
    Calls Tryz.prog 6 #[mv, v, RtV pa pb a po co ko cp cc ck] w fun e w' => e = .returned (.bool true) ∧ Below w.heap.size w w' := by
  obtain ⟨g, hg⟩ := goes_ex a.path
  obtain ⟨fr, hfr⟩ : ∃ x, few3 a.path.length a.comms.length a.cl.length = x := ⟨_, rfl⟩
  obtain ⟨mk, hmk⟩ : ∃ x, mapOk m = x := ⟨_, rfl⟩
  obtain ⟨ok, hok⟩ : ∃ x, routeOk pa pb a = x := ⟨_, rfl⟩
  obtain ⟨ob, hob⟩ : ∃ x, openB m = x := ⟨_, rfl⟩
  have CL := hide (fun W' (hb : Below w.heap.size w W') => lives_is W' (hT.on hb))
  have C8 := hide (fun W' (hb : Below w.heap.size w W') => few16_is mv v m ls W' (hm.below KlR.mono hb) (h.below LlR.mono hb))
  have C9 := hide (fun W' => few_is a.pf a.md a.og a.fr po co ko a.path.length a.comms.length a.cl.length cp cc ck fr hfr W')
  have CO := hide (fun (hf : FewAll m ls) W' (hb : Below w.heap.size w W') => open_is mv m W' (hm.below KlR.mono hb) (by have := hf.1; omega) (fun c hc => (hf.2.2.1 c hc).2.2))
  have CY := hide (fun (hf : FewAll m ls) W' (hb : Below w.heap.size w W') => refMay_isK mv m W' (hm.below KlR.mono hb) (fun c hc => (hf.2.2.1 c hc).2.2) (by have := hf.1; omega))
  have CR := hide (fun (hf : FewAll m ls) (hfa : fr = true) W' (hb : Below w.heap.size w W') => run_is mv m v ls pa pb a po co ko cp cc ck g W' (hT.on hb) (hm.below KlR.mono hb) (by have := hf.1; omega) (fun c hc => (hf.2.2.1 c hc).2.2) (h.below LlR.mono hb) (by have := hf.2.1; omega) hp (At.lies_below hA hb) hCA (few_at hfr hfa).1 (few_at hfr hfa).2.1 (few_at hfr hfa).2.2 hg)
  have CK := hide (fun (hfa : fr = true) W' (hb : Below w.heap.size w W') => right_is pa pb a po co ko cp cc ck W' hp (At.lies_below hA hb) (few_at hfr hfa).1 (few_at hfr hfa).2.1 (few_at hfr hfa).2.2)
  have HPASS : Hid (∀ r, RunTo mk ok (metP ls pa pb a g) m a r → ob = true → ok = true → r.pass = true) := fun r hr h1 h2 => open_pass (hob.trans h1) (hok.trans h2) (by rw [hmk, hok]; exact hr)
  have HOB : Hid (ob = (mk && (match m.find? openQ with | some c => easyB c | none => false))) := by show _ = _; rw [← hob, ← hmk]; rfl
  rw [hob] at CO
  rw [hmk] at CY
  rw [hmk, hok] at CR
  rw [hok] at CK
  have HM := hide hm
  obtain ⟨mo, mc, rfl⟩ := hm.slice
  obtain ⟨bo, cb, rfl⟩ := h.slice
  unfold RtV AtV at *
  obtain ⟨nl, hnl⟩ : ∃ x, ls.length = x := ⟨_, rfl⟩
  obtain ⟨pn, hpn⟩ : ∃ x, a.path.length = x := ⟨_, rfl⟩
  obtain ⟨cn, hcn⟩ : ∃ x, a.comms.length = x := ⟨_, rfl⟩
  obtain ⟨kn, hkn⟩ : ∃ x, a.cl.length = x := ⟨_, rfl⟩
  rw [hpn, hcn, hkn] at CR CK C9 ⊢
  rw [hnl] at CR C8 ⊢
  clear hT hm h hp hA hCA hg hfr hmk hok hob hnl hpn hcn hkn
  have A1 := hide (balloc (brefl w) (.cells #[.int .u32 pa, .int .i64 pb, .int .i64 a.pf, .int .i64 a.md, .int .i64 a.og, .slice po pn cp, .slice co cn cc, .int .i64 a.fr, .slice ko kn ck] 32))
  have N1 := hide (heap_new w #[.int .u32 pa, .int .i64 pb, .int .i64 a.pf, .int .i64 a.md, .int .i64 a.og, .slice po pn cp, .slice co cn cc, .int .i64 a.fr, .slice ko kn ck] 32)
  go_enter Tryz.func6, Tryz.ntmps6
  go_upto_region 1 with fail
  obtain ⟨bx, hbx⟩ : ∃ x, w.heap.size = x := ⟨_, rfl⟩
  rw [hbx] at N1
  try rw [hbx]
  obtain ⟨W1, hw1⟩ : ∃ x, x = w.alloc (.cells #[.int .u32 pa, .int .i64 pb, .int .i64 a.pf, .int .i64 a.md, .int .i64 a.og, .slice po pn cp, .slice co cn cc, .int .i64 a.fr, .slice ko kn ck] 32) := ⟨_, rfl⟩
  rw [← hw1] at N1 A1
  try rw [← hw1]
  clear hw1
  go_wp2_with fail
  refine (C8.out W1 A1.out).mono ?_
  rintro e w2 ⟨r8, rfl, hf8, hb2⟩
  have N2 := hide ((hb2.block bx (heap_lt N1.out)).trans N1.out)
  have B2 := hide (bthen A1.out hb2)
  clear hb2 C8 A1 N1
  cases r8 with
  | false =>
    go_wp2_with fail
    refine (CL.out w2 B2.out).mono ?_
    rintro e w3 ⟨rfl, hb3⟩
    have B3 := hide (bthen B2.out hb3)
    clear hb3
    go_wp2_with fail
    go_ret
    exact ⟨rfl, B3.out⟩
  | true =>
    have HF := hide (hf8 rfl)
    clear hf8
    obtain ⟨k0, k1, k2, k3, k4, k5, k6, k7, k8⟩ := cells9 N2.out
    go_wp2_with fail
    refine (C9.out w2).mono ?_
    rintro e w3 ⟨rfl, hb3⟩
    have N3 := hide ((hb3.block bx (heap_lt N2.out)).trans N2.out)
    have B3 := hide (bthen B2.out hb3)
    clear hb3 C9 N2 B2 k0 k1 k2 k3 k4 k5 k6 k7 k8
    cases fr with
    | false =>
      go_wp2_with fail
      refine (CL.out w3 B3.out).mono ?_
      rintro e w4 ⟨rfl, hb4⟩
      have B4 := hide (bthen B3.out hb4)
      clear hb4
      go_wp2_with fail
      go_ret
      exact ⟨rfl, B4.out⟩
    | true =>
      go_wp2_with fail
      refine (CO.out HF.out w3 B3.out).mono ?_
      rintro e w4 ⟨rfl, hb4⟩
      have N4 := hide ((hb4.block bx (heap_lt N3.out)).trans N3.out)
      have B4 := hide (bthen B3.out hb4)
      have CY2 := hide (fun W' hb => CY.out HF.out W' hb)
      have CR2 := hide (fun W' hb => CR.out HF.out (by trivial) W' hb)
      have CK2 := hide (fun W' hb => CK.out (by trivial) W' hb)
      clear hb4 CO CY CR CK N3 B3
      have hms := HF.out.1
      go_upto_block 0 with fail
      go_cut [8] from 9 to 72 (fun v8 wx => v8 = .bool ob ∧ Hid (Below w4.heap.size w4 wx))
      case first =>
        go_wp2_with fail
        go_loopw [8, 9] (fun v8 v9 wr => ∃ k : Nat, v8 = .bool false ∧ v9 = .int .i64 k ∧ k ≤ m.length ∧ Hid (∀ j (hj : j < m.length), j < k → openQ m[j] = false) ∧ Hid (Below w4.heap.size w4 wr)) (fun _ v9 _ => m.length - (intOf v9).toNat)
        case atStart => exact ⟨0, rfl, rfl, Nat.zero_le _, hide (fun j _ h => absurd h (Nat.not_lt_zero j)), brefl w4⟩
        case round =>
          obtain ⟨k, rfl, rfl, hk, HA, HBR⟩ := hrel
          by_cases hkl : k < m.length
          · have hkl' : (k : Int) < (m.length : Int) := by omega
            go_wp2_with fail
            refine (CY2.out wr (bthen B4.out HBR.out)).mono ?_
            rintro e w5 ⟨rfl, hb5⟩
            have B5 := hide (bthen HBR.out hb5)
            clear hb5
            cases mk with
            | false =>
              have HW : Hid (ob = false) := by show _ = _; rw [HOB.out]; rfl
              go_wp2_with fail
              go_meet
              exact ⟨congrArg Value.bool HW.out.symm, B5⟩
            | true =>
              obtain ⟨b, off, xs, rfl, hbw, hx, hxl, ha⟩ := (Rd.below KlR.mono HM.out (bthen B4.out B5.out)).at_ hkl
              obtain ⟨o1, o2, o3, c1, c2, c3, rfl, _, _⟩ := hx
              have HE1 : Hid (easyB m[k] = false → ob = false) := fun he => by
                have hq : openQ m[k] = true := by unfold openQ; rw [he]; rfl
                rw [HOB.out, find_go hkl HA.out hq]
                exact he
              have HE2 : Hid (easyB m[k] = true → askNo m[k] = true → ob = true) := fun he hn => by
                have hq : openQ m[k] = true := by unfold openQ; rw [hn]; simp
                rw [HOB.out, find_go hkl HA.out hq]
                exact he
              have HE3 : Hid (easyB m[k] = true → askNo m[k] = false → ∀ j (hj : j < m.length), j < k + 1 → openQ m[j] = false) := fun he hn j hj hjk => by
                rcases Nat.lt_or_ge j k with h | h
                · exact HA.out j hj h
                · obtain rfl : j = k := by omega
                  unfold openQ
                  rw [he, hn]
                  rfl
              have HEQ : Hid (easyB m[k] = (m[k].ok && (m[k].s.pre.length == 0 && m[k].s.add.length == 0))) := rfl
              have HNQ : Hid (askNo m[k] = (m[k].ls.toList == [] && (m[k].pt.toList == [] && m[k].ca == 0))) := rfl
              unfold Kl.cells at ha
              clear HA hxl
              generalize easyB m[k] = ez at *
              generalize askNo m[k] = nz at *
              generalize hlk : m[k] = y at *
              clear hlk
              obtain ⟨n, okv, ls3, pt, qa, qn, ⟨pf, md, og, ad, de, clr, pp⟩⟩ := y
              simp only at *
              generalize ad.length = na at *
              generalize de.length = nd at *
              generalize pp.length = np at *
              obtain ⟨d0, e0'⟩ : ∃ d, (ls3.toList == []) = d := ⟨_, rfl⟩
              obtain ⟨d1, e1'⟩ : ∃ d, (pt.toList == []) = d := ⟨_, rfl⟩
              rw [e0', e1'] at HNQ
              have e0 := ha 0 _ rfl
              have e1 := ha 1 _ rfl
              have e2 := ha 2 _ rfl
              have e3 := ha 3 _ rfl
              have e4 := ha 4 _ rfl
              have e5 := ha 5 _ rfl
              have e6 := ha 6 _ rfl
              have e7 := ha 7 _ rfl
              have e8 := ha 8 _ rfl
              have e9 := ha 9 _ rfl
              have e10 := ha 10 _ rfl
              have e11 := ha 11 _ rfl
              have e12 := ha 12 _ rfl
              simp only [Nat.add_zero] at e0
              clear ha
              have A6 := balloc (brefl w5) (.cells #[.int .i64 n, .bool okv, .string ls3, .string pt, .int .i64 qa, .int .i64 qn, .int .i64 pf, .int .i64 md, .int .i64 og, .slice o1 na c1, .slice o2 nd c2, .bool clr, .slice o3 np c3] 45)
              have N6 := hide (heap_new w5 #[.int .i64 n, .bool okv, .string ls3, .string pt, .int .i64 qa, .int .i64 qn, .int .i64 pf, .int .i64 md, .int .i64 og, .slice o1 na c1, .slice o2 nd c2, .bool clr, .slice o3 np c3] 45)
              have B6 := hide (bthen B5.out A6)
              clear A6
              go_upto_region 9 with fail
              clear e0 e1 e2 e3 e4 e5 e6 e7 e8 e9 e10 e11 e12
              obtain ⟨bz, hbz⟩ : ∃ x, w5.heap.size = x := ⟨_, rfl⟩
              rw [hbz] at N6
              try rw [hbz]
              obtain ⟨W6, hw6⟩ : ∃ x, x = w5.alloc (.cells #[.int .i64 n, .bool okv, .string ls3, .string pt, .int .i64 qa, .int .i64 qn, .int .i64 pf, .int .i64 md, .int .i64 og, .slice o1 na c1, .slice o2 nd c2, .bool clr, .slice o3 np c3] 45) := ⟨_, rfl⟩
              rw [← hw6] at N6 B6
              try rw [← hw6]
              clear hw6
              obtain ⟨k0, k1, k2, k3, k4, k5, k6, k7, k8, k9, k10, k11, k12⟩ := cells13 N6.out
              cases okv with
              | false =>
                have HW := hide (HE1.out HEQ.out)
                go_wp2_with fail
                go_meet
                exact ⟨congrArg Value.bool HW.out.symm, B6⟩
              | true =>
                by_cases h1 : np = 0
                · subst h1
                  by_cases h2 : na = 0
                  · subst h2
                    have he := HEQ.out
                    simp only [beq_self_eq_true, Bool.and_self] at he
                    subst he
                    cases d0 with
                    | false =>
                      have HN := hide (HE3.out rfl HNQ.out)
                      go_wp2_with fail
                      exact ⟨⟨k + 1, rfl, by go_num, by omega, HN, B6⟩, by simp [intOf] <;> omega⟩
                    | true =>
                      cases d1 with
                      | false =>
                        have HN := hide (HE3.out rfl HNQ.out)
                        go_wp2_with fail
                        exact ⟨⟨k + 1, rfl, by go_num, by omega, HN, B6⟩, by simp [intOf] <;> omega⟩
                      | true =>
                        by_cases h3 : qa = 0
                        · subst h3
                          have HW := hide (HE2.out rfl HNQ.out)
                          go_wp2_with fail
                          go_meet
                          exact ⟨congrArg Value.bool HW.out.symm, B6⟩
                        · have h3' : (qa == 0) = false := by simpa using h3
                          have HN := hide (HE3.out rfl (HNQ.out.trans (by rw [h3']; rfl)))
                          go_wp2_with fail
                          exact ⟨⟨k + 1, rfl, by go_num, by omega, HN, B6⟩, by simp [intOf] <;> omega⟩
                  · have h2' : (0 : Int) < (na : Int) := by omega
                    have HW := hide (HE1.out (HEQ.out.trans (by simp [h2])))
                    go_wp2_with fail
                    go_meet
                    exact ⟨congrArg Value.bool HW.out.symm, B6⟩
                · have h1' : (0 : Int) < (np : Int) := by omega
                  have HW := hide (HE1.out (HEQ.out.trans (by simp [h1])))
                  go_wp2_with fail
                  go_meet
                  exact ⟨congrArg Value.bool HW.out.symm, B6⟩
          · have hkl' : ¬ (k : Int) < (m.length : Int) := by omega
            have HW : Hid (ob = false) := by
              show _ = _
              rw [HOB.out, find_noneQ (fun j hj => HA.out j hj (by omega))]
              cases mk <;> rfl
            go_wp2_with fail
            go_meet
            exact ⟨congrArg Value.bool HW.out.symm, HBR⟩
      case rest =>
        obtain ⟨rfl, HBC⟩ := hcut
        have N5 := hide ((HBC.out.block bx (heap_lt N4.out)).trans N4.out)
        have B5 := hide (bthen B4.out HBC.out)
        clear HBC N4 B4
        obtain ⟨k0, k1, k2, k3, k4, k5, k6, k7, k8⟩ := cells9 N5.out
        cases ob with
        | false =>
          go_wp2_with fail
          refine (CR2.out wc B5.out).mono ?_
          rintro e w6 ⟨r, po2, co2, ko2, cp2, cc2, ck2, rfl, hr, _, _, hb6⟩
          have HP := hide (HPASS.out r hr)
          have N6 := hide ((hb6.block bx (heap_lt N5.out)).trans N5.out)
          have B6 := hide (bthen B5.out hb6)
          clear hb6 hr k0 k1 k2 k3 k4 k5 k6 k7 k8 N5 B5 HPASS CR2
          unfold RsV
          obtain ⟨rp, hrp⟩ : ∃ x, r.pass = x := ⟨_, rfl⟩
          rw [hrp] at HP
          have A7 := hide (balloc (brefl w6) (.cells #[.bool rp, .int .i64 r.atr.pf, .int .i64 r.atr.md, .int .i64 r.atr.og, .slice po2 r.atr.path.length cp2, .slice co2 r.atr.comms.length cc2, .int .i64 r.atr.fr, .slice ko2 r.atr.cl.length ck2, .int .i64 r.cl, .int .i64 r.er] 52))
          have M7 := hide (heap_new w6 #[.bool rp, .int .i64 r.atr.pf, .int .i64 r.atr.md, .int .i64 r.atr.og, .slice po2 r.atr.path.length cp2, .slice co2 r.atr.comms.length cc2, .int .i64 r.atr.fr, .slice ko2 r.atr.cl.length ck2, .int .i64 r.cl, .int .i64 r.er] 52)
          rw [hrp]
          clear hrp
          go_upto_region 15 with fail
          obtain ⟨bz, hbz⟩ : ∃ x, w6.heap.size = x := ⟨_, rfl⟩
          rw [hbz] at M7
          try rw [hbz]
          obtain ⟨W7, hw7⟩ : ∃ x, x = w6.alloc (.cells #[.bool rp, .int .i64 r.atr.pf, .int .i64 r.atr.md, .int .i64 r.atr.og, .slice po2 r.atr.path.length cp2, .slice co2 r.atr.comms.length cc2, .int .i64 r.atr.fr, .slice ko2 r.atr.cl.length ck2, .int .i64 r.cl, .int .i64 r.er] 52) := ⟨_, rfl⟩
          rw [← hw7] at M7 A7
          try rw [← hw7]
          clear hw7
          have N7 := hide ((A7.out.block bx (heap_lt N6.out)).trans N6.out)
          have B7 := hide (bthen B6.out A7.out)
          go_wp2_with fail
          refine (CL.out W7 B7.out).mono ?_
          rintro e w9 ⟨rfl, hb9⟩
          have B9 := hide (bthen B7.out hb9)
          clear hb9
          go_wp2_with fail
          go_ret
          exact ⟨rfl, B9.out⟩
        | true =>
          go_wp2_with fail
          refine (CR2.out wc B5.out).mono ?_
          rintro e w6 ⟨r, po2, co2, ko2, cp2, cc2, ck2, rfl, hr, _, _, hb6⟩
          have HP := hide (HPASS.out r hr)
          have N6 := hide ((hb6.block bx (heap_lt N5.out)).trans N5.out)
          have B6 := hide (bthen B5.out hb6)
          clear hb6 hr k0 k1 k2 k3 k4 k5 k6 k7 k8 N5 B5 HPASS CR2
          unfold RsV
          obtain ⟨rp, hrp⟩ : ∃ x, r.pass = x := ⟨_, rfl⟩
          rw [hrp] at HP
          have A7 := hide (balloc (brefl w6) (.cells #[.bool rp, .int .i64 r.atr.pf, .int .i64 r.atr.md, .int .i64 r.atr.og, .slice po2 r.atr.path.length cp2, .slice co2 r.atr.comms.length cc2, .int .i64 r.atr.fr, .slice ko2 r.atr.cl.length ck2, .int .i64 r.cl, .int .i64 r.er] 52))
          have M7 := hide (heap_new w6 #[.bool rp, .int .i64 r.atr.pf, .int .i64 r.atr.md, .int .i64 r.atr.og, .slice po2 r.atr.path.length cp2, .slice co2 r.atr.comms.length cc2, .int .i64 r.atr.fr, .slice ko2 r.atr.cl.length ck2, .int .i64 r.cl, .int .i64 r.er] 52)
          rw [hrp]
          clear hrp
          go_upto_region 15 with fail
          obtain ⟨bz, hbz⟩ : ∃ x, w6.heap.size = x := ⟨_, rfl⟩
          rw [hbz] at M7
          try rw [hbz]
          obtain ⟨W7, hw7⟩ : ∃ x, x = w6.alloc (.cells #[.bool rp, .int .i64 r.atr.pf, .int .i64 r.atr.md, .int .i64 r.atr.og, .slice po2 r.atr.path.length cp2, .slice co2 r.atr.comms.length cc2, .int .i64 r.atr.fr, .slice ko2 r.atr.cl.length ck2, .int .i64 r.cl, .int .i64 r.er] 52) := ⟨_, rfl⟩
          rw [← hw7] at M7 A7
          try rw [← hw7]
          clear hw7
          have N7 := hide ((A7.out.block bx (heap_lt N6.out)).trans N6.out)
          have B7 := hide (bthen B6.out A7.out)
          obtain ⟨k0, k1, k2, k3, k4, k5, k6, k7, k8⟩ := cells9 N7.out
          go_wp2_with fail
          refine (CK2.out W7 B7.out).mono ?_
          rintro e w8 ⟨rfl, hb8⟩
          have M8 := hide ((hb8.block bz (heap_lt M7.out)).trans M7.out)
          have B8 := hide (bthen B7.out hb8)
          clear hb8 k0 k1 k2 k3 k4 k5 k6 k7 k8
          cases ok with
          | false =>
            go_wp2_with fail
            refine (CL.out w8 B8.out).mono ?_
            rintro e w9 ⟨rfl, hb9⟩
            have B9 := hide (bthen B8.out hb9)
            clear hb9
            go_wp2_with fail
            go_ret
            exact ⟨rfl, B9.out⟩
          | true =>
            have hp := HP.out (by trivial) (by trivial)
            subst hp
            have m0 := cell_of M8.out 0 rfl
            go_wp2_with fail
            refine (CL.out w8 B8.out).mono ?_
            rintro e w9 ⟨rfl, hb9⟩
            have B9 := hide (bthen B8.out hb9)
            clear hb9
            go_wp2_with fail
            go_ret
            exact ⟨rfl, B9.out⟩
end Go.Proofs.YtngfoijmknclhaaGreatDoor
