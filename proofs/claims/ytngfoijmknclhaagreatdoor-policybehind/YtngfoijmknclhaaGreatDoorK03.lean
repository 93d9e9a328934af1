/- The law PolicyBehind. -/
import Derived.Test.YtngfoijmknclhaaGreatDoorK02
import Derived.Maps.AppendAt
namespace Go.Proofs.YtngfoijmknclhaaGreatDoor
open Go.RowKit Go.Sort
/-- Two rows that don't lie in one block. -/
def ApartV (v u : Value) : Prop := ∀ g, v.ownBlock = some g → u.ownBlock = some g → False
theorem ApartV.symm {v u : Value} (h : ApartV v u) : ApartV u v := fun g h1 h2 => h g h2 h1
theorem apart_kept {v u : Value} (h : ApartV v u) : u.ownBlock = none ∨ u.ownBlock ≠ v.ownBlock := by
  cases e : u.ownBlock with
  | none => exact .inl rfl
  | some g => exact .inr fun e2 => h g e2.symm e
theorem apart_new {v u y : Value} {n : Nat} (h : ApartV v u) (hat : y.ownBlock = v.ownBlock ∨ y.ownBlock = some n) (hlt : ∀ g, u.ownBlock = some g → g < n) : ApartV y u := fun g h1 h2 => by
  rcases hat with e | e
  · exact h g (e.symm.trans h1) h2
  · rw [e] at h1
    cases h1
    exact Nat.lt_irrefl _ (hlt _ h2)
def StepK (w : World) (m : List Kl) (f : Kl → Bool) (k : Nat) (xs : List Value) (n : Nat) : Prop := KsR w ((m.take k).filter f) xs ∧ n = ((m.take k).filter f).length
theorem step_yes {w : World} {m : List Kl} {f : Kl → Bool} {k n : Nat} {xs x : List Value} (hk : k < m.length) (h : f m[k] = true) (hx : KlR w m[k] x) (hs : StepK w m f k xs n) : StepK w m f (k + 1) (xs ++ x) (n + 1) := by
  obtain ⟨h1, h2⟩ := hs
  have e : (m.take (k + 1)).filter f = (m.take k).filter f ++ [m[k]] := by
    rw [List.take_succ_eq_append_getElem hk, List.filter_append]
    simp [h]
  unfold StepK
  rw [e]
  exact ⟨.snoc h1 hx, by rw [List.length_append, ← h2]; rfl⟩
theorem step_no {w : World} {m : List Kl} {f : Kl → Bool} {k n : Nat} {xs : List Value} (hk : k < m.length) (h : f m[k] = false) (hs : StepK w m f k xs n) : StepK w m f (k + 1) xs n := by
  have e : (m.take (k + 1)).filter f = (m.take k).filter f := by
    rw [List.take_succ_eq_append_getElem hk, List.filter_append]
    simp [h]
  unfold StepK
  rw [e]
  exact hs
/-- How far the two lists have come. -/
def LoopB (w ws : World) (m : List Kl) (fA : Kl → Bool) (ok : Bool) (MP : Kl → Bool) (v8 v9 v10 : Value) (wr : World) : Prop :=
  ∃ (k n8 n9 : Nat) (xs8 xs9 : List Value), v10 = .int .i64 k ∧ k ≤ m.length ∧ n8 ≤ k ∧ n9 ≤ k ∧ Hid (wr.ownsRow ws.heap.size 45 13 v8 n8 xs8) ∧ Hid (wr.ownsRow ws.heap.size 45 13 v9 n9 xs9) ∧ Hid (ApartV v8 v9) ∧ Hid (StepK w m fA k xs8 n8) ∧ Hid (StepK w m (fun c => ok && MP c) k xs9 n9) ∧ Hid (Below ws.heap.size ws wr)
theorem mine_below {B : Nat} {w w' : World} {a : At} {p c k : Option Addr} (h : At.mine B w a p c k) (hb : Below w.heap.size w w') : At.mine B w' a p c k := ⟨At.lies_below h.1 hb, wr_below h.2.1 hb, wr_below h.2.2.1 hb, wr_below h.2.2.2 hb⟩
/-- No list of attributes lies in a block. -/
def Free (g : Nat) (a : At) (p c k : Option Addr) : Prop := (a.path = [] ∨ ∀ ad, p = some ad → ad.block ≠ g) ∧ (a.comms = [] ∨ ∀ ad, c = some ad → ad.block ≠ g) ∧ (a.cl = [] ∨ ∀ ad, k = some ad → ad.block ≠ g)
theorem free_old {w : World} {a : At} {p c k : Option Addr} {g : Nat} (h : At.lies w a p c k) (hg : w.heap.size = g) : Free g a p c k := by
  obtain ⟨h1, h2, h3⟩ := h
  have key : ∀ {l : List Int} {o : Option Addr}, Is.slot w o l → l = [] ∨ ∀ ad, o = some ad → ad.block ≠ g := fun {l o} h => by
    rcases h with h | ⟨b, off, rfl, hr⟩
    · exact .inl h
    · cases l with
      | nil => exact .inl rfl
      | cons x l =>
        refine .inr fun ad e => ?_
        cases e
        have : b < w.heap.size := block_lt_of_cell (hr 0 (by simp))
        show b ≠ g
        omega
  refine ⟨key h1, ?_, key h3⟩
  rcases h2 with h | ⟨b, off, rfl, hr⟩
  · exact .inl h
  · cases hl : a.comms with
    | nil => exact .inl rfl
    | cons x l =>
      refine .inr fun ad e => ?_
      cases e
      rw [hl] at hr
      have : b < w.heap.size := block_lt_of_cell (hr 0 _ rfl)
      show b ≠ g
      omega
theorem free_new {B : Nat} {w : World} {a : At} {p c k : Option Addr} {g : Nat} (h : At.mine B w a p c k) (hg : g < B) : Free g a p c k := by
  obtain ⟨_, h1, h2, h3⟩ := h
  refine ⟨?_, ?_, ?_⟩
  · rcases h1 with h | ⟨b, off, rfl, hb, _⟩
    · exact .inl (List.length_eq_zero_iff.1 h)
    · exact .inr fun ad e => by cases e; show b ≠ g; omega
  · rcases h2 with h | ⟨b, off, rfl, hb, _⟩
    · exact .inl (List.length_eq_zero_iff.1 (by omega))
    · exact .inr fun ad e => by cases e; show b ≠ g; omega
  · rcases h3 with h | ⟨b, off, rfl, hb, _⟩
    · exact .inl (List.length_eq_zero_iff.1 h)
    · exact .inr fun ad e => by cases e; show b ≠ g; omega
theorem lies_free {w w' : World} {a : At} {p c k : Option Addr} {g : Nat} (h : At.lies w a p c k) (hf : Free g a p c k) (hk : ∀ b, b ≠ g → w'.heap[b]? = w.heap[b]?) : At.lies w' a p c k := by
  obtain ⟨h1, h2, h3⟩ := h
  obtain ⟨f1, f2, f3⟩ := hf
  refine ⟨?_, ?_, ?_⟩
  · rcases f1 with e | f
    · exact .inl e
    · exact is_far h1 (fun ad e hb => f ad e hb) hk
  · rcases f2 with e | f
    · exact .inl e
    · exact co_far h2 (fun ad e hb => f ad e hb) hk
  · rcases f3 with e | f
    · exact .inl e
    · exact is_far h3 (fun ad e hb => f ad e hb) hk

set_option maxHeartbeats 40000000 in
set_option maxRecDepth 100000 in
theorem law_behind (mv v : Value) (m : List Kl) (ls : List Ll) (pa pb : Int) (a : At) (po co ko : Option Addr) (cp cc ck : Nat) (w : World) (hT : Ar.Y4.Pt w) (hm : Rd w 13 KlR mv m) (h : Rd w 2 LlR v ls) (hp : 0 ≤ pa ∧ pa ≤ 4294967295) (hA : At.lies w a po co ko) (hCA : At.came a po co ko cp cc ck) :
    Calls Tryz.prog 5 #[mv, v, RtV pa pb a po co ko cp cc ck] w fun e w' => e = .returned (.bool true) ∧ Below w.heap.size w w' := by
  obtain ⟨g, hg⟩ := goes_ex a.path
  obtain ⟨fr, hfr⟩ : ∃ x, few3 a.path.length a.comms.length a.cl.length = x := ⟨_, rfl⟩
  obtain ⟨mk, hmk⟩ : ∃ x, mapOk m = x := ⟨_, rfl⟩
  obtain ⟨ok, hok⟩ : ∃ x, routeOk pa pb a = x := ⟨_, rfl⟩
  obtain ⟨ob, hob⟩ : ∃ x, openB m = x := ⟨_, rfl⟩
  have CL := hide (fun W' (hb : Below w.heap.size w W') => lives_is W' (hT.on hb))
  have C8 := hide (fun W' (hb : Below w.heap.size w W') => few16_is mv v m ls W' (hm.below KlR.mono hb) (h.below LlR.mono hb))
  have C9 := hide (fun W' => few_is a.pf a.md a.og a.fr po co ko a.path.length a.comms.length a.cl.length cp cc ck fr hfr W')
  have C11 := hide (fun (hf : FewAll m ls) W' (hb : Below w.heap.size w W') => may_isK mv m W' (hm.below KlR.mono hb) (fun c hc => (hf.2.2.1 c hc).2.2))
  have CR := hide (fun (hf : FewAll m ls) (hfa : fr = true) (qv : Value) (q : List Kl) (hq : ∀ c ∈ q, c ∈ m) (hql : q.length ≤ 1000) W' (hb : Below w.heap.size w W') (hqr : Rd W' 13 KlR qv q) => run_is qv q v ls pa pb a po co ko cp cc ck g W' (hT.on hb) hqr hql (fun c hc => (hf.2.2.1 c (hq c hc)).2.2) (h.below LlR.mono hb) (by have := hf.2.1; omega) hp (At.lies_below hA hb) hCA (few_at hfr hfa).1 (few_at hfr hfa).2.1 (few_at hfr hfa).2.2 hg)
  have CMET := hide (fun (hf : FewAll m ls) (hfa : fr = true) (c : Kl) (kv : Value) W' (hb : Below w.heap.size w W') (hk : KlV W' c kv) => met_is c kv v ls pa pb a po co ko cp cc ck g W' (hT.on hb) hk (h.below LlR.mono hb) (by have := hf.2.1; omega) hp (At.lies_below hA hb) hCA (few_at hfr hfa).1 (few_at hfr hfa).2.1 (few_at hfr hfa).2.2 hg)
  have HMK : Hid (mapOk m = mk) := hmk
  rw [hmk] at C11
  rw [hok] at CR CMET
  have HM := hide hm
  obtain ⟨mo, mc, rfl⟩ := hm.slice
  obtain ⟨bo, cb, rfl⟩ := h.slice
  unfold RtV AtV at *
  generalize metP ls pa pb a g = MP at *
  obtain ⟨nl, hnl⟩ : ∃ x, ls.length = x := ⟨_, rfl⟩
  obtain ⟨pn, hpn⟩ : ∃ x, a.path.length = x := ⟨_, rfl⟩
  obtain ⟨cn, hcn⟩ : ∃ x, a.comms.length = x := ⟨_, rfl⟩
  obtain ⟨kn, hkn⟩ : ∃ x, a.cl.length = x := ⟨_, rfl⟩
  rw [hpn, hcn, hkn] at CR C9 CMET ⊢
  rw [hnl] at CR C8 CMET ⊢
  clear hT hm h hp hA hCA hg hfr hmk hok hob hnl hpn hcn hkn
  have A1 := hide (balloc (brefl w) (.cells #[.int .u32 pa, .int .i64 pb, .int .i64 a.pf, .int .i64 a.md, .int .i64 a.og, .slice po pn cp, .slice co cn cc, .int .i64 a.fr, .slice ko kn ck] 32))
  have N1 := hide (heap_new w #[.int .u32 pa, .int .i64 pb, .int .i64 a.pf, .int .i64 a.md, .int .i64 a.og, .slice po pn cp, .slice co cn cc, .int .i64 a.fr, .slice ko kn ck] 32)
  go_enter Tryz.func5, Tryz.ntmps5
  go_upto_region 1 with fail
  obtain ⟨bx, hbx⟩ : ∃ x, w.heap.size = x := ⟨_, rfl⟩
  rw [hbx] at N1
  try rw [hbx]
  obtain ⟨W1, hw1⟩ : ∃ x, x = w.alloc (.cells #[.int .u32 pa, .int .i64 pb, .int .i64 a.pf, .int .i64 a.md, .int .i64 a.og, .slice po pn cp, .slice co cn cc, .int .i64 a.fr, .slice ko kn ck] 32) := ⟨_, rfl⟩
  rw [← hw1] at N1 A1
  try rw [← hw1]
  clear hw1
  go_wp2_with fail
  refine (C8.out W1 A1.out).mono ?_
  rintro e w2 ⟨r8, rfl, hf8, hb2⟩
  have N2 := hide ((hb2.block bx (heap_lt N1.out)).trans N1.out)
  have B2 := hide (bthen A1.out hb2)
  clear hb2 C8 A1 N1
  cases r8 with
  | false =>
    go_wp2_with fail
    refine (CL.out w2 B2.out).mono ?_
    rintro e w3 ⟨rfl, hb3⟩
    have B3 := hide (bthen B2.out hb3)
    clear hb3
    go_wp2_with fail
    go_ret
    exact ⟨rfl, B3.out⟩
  | true =>
    have HF := hide (hf8 rfl)
    clear hf8
    obtain ⟨k0, k1, k2, k3, k4, k5, k6, k7, k8⟩ := cells9 N2.out
    go_wp2_with fail
    refine (C9.out w2).mono ?_
    rintro e w3 ⟨rfl, hb3⟩
    have N3 := hide ((hb3.block bx (heap_lt N2.out)).trans N2.out)
    have B3 := hide (bthen B2.out hb3)
    clear hb3 C9 N2 B2 k0 k1 k2 k3 k4 k5 k6 k7 k8
    cases fr with
    | false =>
      go_wp2_with fail
      refine (CL.out w3 B3.out).mono ?_
      rintro e w4 ⟨rfl, hb4⟩
      have B4 := hide (bthen B3.out hb4)
      clear hb4
      go_wp2_with fail
      go_ret
      exact ⟨rfl, B4.out⟩
    | true =>
      go_wp2_with fail
      refine (C11.out HF.out w3 B3.out).mono ?_
      rintro e w4 ⟨rfl, hb4⟩
      have N4 := hide ((hb4.block bx (heap_lt N3.out)).trans N3.out)
      have B4 := hide (bthen B3.out hb4)
      clear hb4 C11 N3 B3
      cases mk with
      | false =>
        go_wp2_with fail
        refine (CL.out w4 B4.out).mono ?_
        rintro e w5 ⟨rfl, hb5⟩
        have B5 := hide (bthen B4.out hb5)
        clear hb5
        go_wp2_with fail
        go_ret
        exact ⟨rfl, B5.out⟩
      | true =>
        have hms := HF.out.1
        have CRM := hide (CR.out HF.out (by trivial) (.slice mo m.length mc) m (fun _ h => h) (by omega) w4 B4.out (HM.out.below KlR.mono B4.out))
        have CRQ := hide (fun qv q hq hql W' hb hqr => CR.out HF.out (by trivial) qv q hq hql W' hb hqr)
        have CMET := hide (fun c kv W' hb hk => CMET.out HF.out (by trivial) c kv W' hb hk)
        have HMK := hide (show mapOk m = true from HMK.out)
        rw [HMK.out] at CRM
        clear CR
        obtain ⟨k0, k1, k2, k3, k4, k5, k6, k7, k8⟩ := cells9 N4.out
        go_wp2_with fail
        refine CRM.out.mono ?_
        rintro e wb ⟨r, po0, co0, ko0, cp0, cc0, ck0, rfl, hr, hmi, _, hbb⟩
        have HFW := hide (run_few hr)
        have HR := hide hr
        have N6 := hide ((hbb.block bx (heap_lt N4.out)).trans N4.out)
        have B6 := hide (bthen B4.out hbb)
        have L6 := hide hmi.1
        clear hr hmi hbb CRM N4 B4 k0 k1 k2 k3 k4 k5 k6 k7 k8
        unfold RsV
        have A7 := hide (balloc (brefl wb) (.cells #[.bool r.pass, .int .i64 r.atr.pf, .int .i64 r.atr.md, .int .i64 r.atr.og, .slice po0 r.atr.path.length cp0, .slice co0 r.atr.comms.length cc0, .int .i64 r.atr.fr, .slice ko0 r.atr.cl.length ck0, .int .i64 r.cl, .int .i64 r.er] 52))
        have NR := hide (heap_new wb #[.bool r.pass, .int .i64 r.atr.pf, .int .i64 r.atr.md, .int .i64 r.atr.og, .slice po0 r.atr.path.length cp0, .slice co0 r.atr.comms.length cc0, .int .i64 r.atr.fr, .slice ko0 r.atr.cl.length ck0, .int .i64 r.cl, .int .i64 r.er] 52)
        go_upto_region 4 with fail
        obtain ⟨gr, hgr⟩ : ∃ x, wb.heap.size = x := ⟨_, rfl⟩
        rw [hgr] at NR
        try rw [hgr]
        obtain ⟨ws, hws⟩ : ∃ x, x = wb.alloc (.cells #[.bool r.pass, .int .i64 r.atr.pf, .int .i64 r.atr.md, .int .i64 r.atr.og, .slice po0 r.atr.path.length cp0, .slice co0 r.atr.comms.length cc0, .int .i64 r.atr.fr, .slice ko0 r.atr.cl.length ck0, .int .i64 r.cl, .int .i64 r.er] 52) := ⟨_, rfl⟩
        rw [← hws] at NR A7
        try rw [← hws]
        clear hws hgr
        have N5 := hide ((A7.out.block bx (heap_lt N6.out)).trans N6.out)
        have BW := hide (bthen B6.out A7.out)
        have LR := hide (At.lies_below L6.out A7.out)
        clear N6 B6 A7 L6
        obtain ⟨fA, hfA⟩ : ∃ f : Kl → Bool, f = fun c => (r.cl == 0 || decide (c.n ≤ r.cl)) := ⟨_, rfl⟩
        have HfA : Hid (∀ c, fA c = (r.cl == 0 || decide (c.n ≤ r.cl))) := fun c => by rw [hfA]
        clear hfA
        go_wp2_with fail
        go_loopw [8, 9, 10] (fun v8 v9 v10 wr => LoopB w ws m fA ok MP v8 v9 v10 wr) (fun _ _ v10 _ => m.length - (intOf v10).toNat)
        case atStart =>
          unfold LoopB
          exact ⟨0, 0, 0, [], [], rfl, Nat.zero_le _, Nat.le_refl _, Nat.le_refl _, World.ownsRow_nil _ _ _ _, World.ownsRow_nil _ _ _ _, fun g h => (by cases h), ⟨.nil, rfl⟩, ⟨.nil, rfl⟩, brefl ws⟩
        case round =>
          unfold LoopB at hrel
          obtain ⟨k, n8, n9, xs8, xs9, rfl, hk, hn8, hn9, O8, O9, AP, K8, K9, HBR⟩ := hrel
          by_cases hkl : k < m.length
          · have hkl' : (k : Int) < (m.length : Int) := by omega
            obtain ⟨b, off, xs, rfl, hbw, hx, hxl, hcc⟩ := HM.out.at_ hkl
            have HCE := hide (fun W' (hb : Below ws.heap.size ws W') i u (hu : xs[i]? = some u) => ((bthen BW.out hb).cell (p := ⟨b, off + k * 13 + i, none⟩) hbw).trans (hcc i u hu))
            have CMK := hide (fun W' (hb : Below w.heap.size w W') => CMET.out m[k] (.agg xs.toArray) W' hb ⟨xs, KlR.mono _ _ _ _ hb hx, rfl⟩)
            have S8y := hide (fun (h : fA m[k] = true) => step_yes hkl h hx K8.out)
            have S8n := hide (fun (h : fA m[k] = false) => step_no hkl h K8.out)
            have S9y := hide (fun (h : (ok && MP m[k]) = true) => step_yes (f := fun c => ok && MP c) hkl h hx K9.out)
            have S9n := hide (fun (h : (ok && MP m[k]) = false) => step_no (f := fun c => ok && MP c) hkl h K9.out)
            have HFA : Hid (fA m[k] = (r.cl == 0 || decide (m[k].n ≤ r.cl))) := HfA.out m[k]
            obtain ⟨o1, o2, o3, c1, c2, c3, rfl, _, _⟩ := hx
            unfold Kl.cells at *
            clear K8 K9 hxl hbw hcc
            generalize fA m[k] = fa at *
            generalize (ok && MP m[k]) = fb at *
            generalize hlk : m[k] = y at *
            clear hlk
            obtain ⟨n, okv, ls3, pt, qa, qn, ⟨pf, md, og, ad, de, clr, pp⟩⟩ := y
            simp only at *
            by_cases h0 : r.cl = 0
            ·
              have hd0 : (r.cl == 0) = true := by simp [h0]
              clear h0
              have hc := fun i u hu => HCE.out wr HBR.out i u hu
              have e0 := hc 0 _ rfl
              simp only [Nat.add_zero] at e0
              clear hc
              have s0 := fun dd os => cell_regrown e0 dd os
              have c8 := cell_of ((HBR.out.block gr (heap_lt NR.out)).trans NR.out) 8 rfl
              have s8 := fun dd os => cell_regrown c8 dd os
              go_wp2_with fail
              refine wp_region_quiet_below (by kernel_rfl) (by kernel_rfl) ?_
              repeat (go_big_quiet_step (fail))
              refine wpQuiet_nil ?_
              rintro _ ⟨⟨dd, os⟩, rfl⟩
              have hbq := below_regrown wr dd os
              generalize Sort.grow (redrawn wr dd) os = w1 at hbq
              have B1 := hide (bthen HBR.out hbq)
              have O8 := hide (row_below O8.out hbq)
              have O9 := hide (row_below O9.out hbq)
              clear hbq
              clear e0 s0 c8 s8
              have K8 := hide (S8y.out (HFA.out.trans (by rw [hd0]; rfl)))
              have hc := fun i u hu => HCE.out w1 B1.out i u hu
              have e0 := hc 0 _ rfl
              have e1 := hc 1 _ rfl
              have e2 := hc 2 _ rfl
              have e3 := hc 3 _ rfl
              have e4 := hc 4 _ rfl
              have e5 := hc 5 _ rfl
              have e6 := hc 6 _ rfl
              have e7 := hc 7 _ rfl
              have e8 := hc 8 _ rfl
              have e9 := hc 9 _ rfl
              have e10 := hc 10 _ rfl
              have e11 := hc 11 _ rfl
              have e12 := hc 12 _ rfl
              simp only [Nat.add_zero] at e0
              clear hc
              have NK := hide (heap_new w1 #[.int .i64 n, .bool okv, .string ls3, .string pt, .int .i64 qa, .int .i64 qn, .int .i64 pf, .int .i64 md, .int .i64 og, .slice o1 ad.length c1, .slice o2 de.length c2, .bool clr, .slice o3 pp.length c3] 45)
              have BK := hide (bthen B1.out (balloc (brefl w1) (.cells #[.int .i64 n, .bool okv, .string ls3, .string pt, .int .i64 qa, .int .i64 qn, .int .i64 pf, .int .i64 md, .int .i64 og, .slice o1 ad.length c1, .slice o2 de.length c2, .bool clr, .slice o3 pp.length c3] 45)))
              have OA := hide (O8.out.alloc (.cells #[.int .i64 n, .bool okv, .string ls3, .string pt, .int .i64 qa, .int .i64 qn, .int .i64 pf, .int .i64 md, .int .i64 og, .slice o1 ad.length c1, .slice o2 de.length c2, .bool clr, .slice o3 pp.length c3] 45))
              have OB := hide (O9.out.alloc (.cells #[.int .i64 n, .bool okv, .string ls3, .string pt, .int .i64 qa, .int .i64 qn, .int .i64 pf, .int .i64 md, .int .i64 og, .slice o1 ad.length c1, .slice o2 de.length c2, .bool clr, .slice o3 pp.length c3] 45))
              clear O8 O9
              go_wp2_with (at_builtin; go_must (refine append_k rfl _ _ rfl u8 n8 xs8 rfl OA.out _ _ _ rfl rfl NK.out (kl_one ⟨n, okv, ls3, pt, qa, qn, ⟨pf, md, og, ad, de, clr, pp⟩⟩ o1 o2 o3 c1 c2 c3) (by omega) BK.out.size ?_))
              intro y8 w2 hown hgr hat
              have B2 := hide (Below.grown BK.out hgr BK.out.size fun g hg => (OA.out.lt g hg).1)
              have O8 := hide hown
              have O9 := hide (OB.out.kept hgr (apart_kept (AP.out)))
              have AP := hide (apart_new AP.out hat (fun g hg => by have h9 := (OB.out.lt g hg).2; rw [sizeA] at h9; exact h9))
              clear hown hgr hat OA OB NK BK e0 e1 e2 e3 e4 e5 e6 e7 e8 e9 e10 e11 e12
              have hc := fun i u hu => HCE.out w2 B2.out i u hu
              have e0 := hc 0 _ rfl
              have e1 := hc 1 _ rfl
              have e2 := hc 2 _ rfl
              have e3 := hc 3 _ rfl
              have e4 := hc 4 _ rfl
              have e5 := hc 5 _ rfl
              have e6 := hc 6 _ rfl
              have e7 := hc 7 _ rfl
              have e8 := hc 8 _ rfl
              have e9 := hc 9 _ rfl
              have e10 := hc 10 _ rfl
              have e11 := hc 11 _ rfl
              have e12 := hc 12 _ rfl
              simp only [Nat.add_zero] at e0
              clear hc
              have s0 := fun dd os => cell_regrown e0 dd os
              have s1 := fun dd os => cell_regrown e1 dd os
              have s2 := fun dd os => cell_regrown e2 dd os
              have s3 := fun dd os => cell_regrown e3 dd os
              have s4 := fun dd os => cell_regrown e4 dd os
              have s5 := fun dd os => cell_regrown e5 dd os
              have s6 := fun dd os => cell_regrown e6 dd os
              have s7 := fun dd os => cell_regrown e7 dd os
              have s8 := fun dd os => cell_regrown e8 dd os
              have s9 := fun dd os => cell_regrown e9 dd os
              have s10 := fun dd os => cell_regrown e10 dd os
              have s11 := fun dd os => cell_regrown e11 dd os
              have s12 := fun dd os => cell_regrown e12 dd os
              have NX := hide ((B2.out.block bx (heap_lt N5.out)).trans N5.out)
              obtain ⟨k0, k1, k2, k3, k4, k5, k6, k7, k8⟩ := cells9 NX.out
              have t0 := fun dd os => cell_regrown k0 dd os
              have t1 := fun dd os => cell_regrown k1 dd os
              have t2 := fun dd os => cell_regrown k2 dd os
              have t3 := fun dd os => cell_regrown k3 dd os
              have t4 := fun dd os => cell_regrown k4 dd os
              have t5 := fun dd os => cell_regrown k5 dd os
              have t6 := fun dd os => cell_regrown k6 dd os
              have t7 := fun dd os => cell_regrown k7 dd os
              have t8 := fun dd os => cell_regrown k8 dd os
              have CM2 := hide (fun W' hb => CMK.out W' (bthen (bthen BW.out B2.out) hb))
              go_wp2_with fail
              refine wp_region_quiet_below (by kernel_rfl) (by kernel_rfl) ?_
              repeat (go_big_quiet_step ((go_at_call 13; exact Calls.regrown_of (CM2.out _ (below_regrown _ _ _)))))
              refine wpQuiet_nil ?_
              rintro _ ⟨⟨dd, os⟩, rfl⟩
              have hbq := below_regrown w2 dd os
              generalize Sort.grow (redrawn w2 dd) os = w3 at hbq
              have B3 := hide (bthen B2.out hbq)
              have O8 := hide (row_below O8.out hbq)
              have O9 := hide (row_below O9.out hbq)
              clear hbq
              clear CM2 NX e0 s0 e1 s1 e2 s2 e3 s3 e4 s4 e5 s5 e6 s6 e7 s7 e8 s8 e9 s9 e10 s10 e11 s11 e12 s12 k0 t0 k1 t1 k2 t2 k3 t3 k4 t4 k5 t5 k6 t6 k7 t7 k8 t8
              cases fb with
              | false =>
                have K9 := hide (S9n.out rfl)
                go_wp2_with fail
                have hL : LoopB w ws m fA ok MP y8 u9 (.int .i64 ((k : Int) + 1)) w3 := by
                  unfold LoopB
                  exact ⟨k + 1, n8 + 1, n9, _, xs9, by go_num, by omega, by omega, by omega, O8, O9, AP, K8, K9, B3⟩
                have hM : m.length - (intOf (.int .i64 ((k : Int) + 1))).toNat < m.length - (intOf (.int .i64 (k : Int))).toNat := by simp [intOf] <;> omega
                first
                  | exact ⟨hL, hM⟩
                  | exact ⟨⟨_, _, _, hL, rfl, rfl, rfl⟩, hM⟩
                  | exact ⟨⟨_, _, hL, rfl, rfl⟩, hM⟩
                  | exact ⟨⟨_, hL, rfl⟩, hM⟩
                  | exact ⟨⟨_, _, _, _, hL, rfl, rfl, rfl, rfl⟩, hM⟩
                  | (refine ⟨?_, by simp [intOf] <;> omega⟩
                     (repeat apply Exists.intro)
                     apply And.intro hL
                     repeat' (first | exact rfl | apply And.intro)
                     all_goals exact undef)
              | true =>
                have K9 := hide (S9y.out rfl)
                have hc := fun i u hu => HCE.out w3 B3.out i u hu
                have e0 := hc 0 _ rfl
                have e1 := hc 1 _ rfl
                have e2 := hc 2 _ rfl
                have e3 := hc 3 _ rfl
                have e4 := hc 4 _ rfl
                have e5 := hc 5 _ rfl
                have e6 := hc 6 _ rfl
                have e7 := hc 7 _ rfl
                have e8 := hc 8 _ rfl
                have e9 := hc 9 _ rfl
                have e10 := hc 10 _ rfl
                have e11 := hc 11 _ rfl
                have e12 := hc 12 _ rfl
                simp only [Nat.add_zero] at e0
                clear hc
                have NK := hide (heap_new w3 #[.int .i64 n, .bool okv, .string ls3, .string pt, .int .i64 qa, .int .i64 qn, .int .i64 pf, .int .i64 md, .int .i64 og, .slice o1 ad.length c1, .slice o2 de.length c2, .bool clr, .slice o3 pp.length c3] 45)
                have BK := hide (bthen B3.out (balloc (brefl w3) (.cells #[.int .i64 n, .bool okv, .string ls3, .string pt, .int .i64 qa, .int .i64 qn, .int .i64 pf, .int .i64 md, .int .i64 og, .slice o1 ad.length c1, .slice o2 de.length c2, .bool clr, .slice o3 pp.length c3] 45)))
                have OA := hide (O9.out.alloc (.cells #[.int .i64 n, .bool okv, .string ls3, .string pt, .int .i64 qa, .int .i64 qn, .int .i64 pf, .int .i64 md, .int .i64 og, .slice o1 ad.length c1, .slice o2 de.length c2, .bool clr, .slice o3 pp.length c3] 45))
                have OB := hide (O8.out.alloc (.cells #[.int .i64 n, .bool okv, .string ls3, .string pt, .int .i64 qa, .int .i64 qn, .int .i64 pf, .int .i64 md, .int .i64 og, .slice o1 ad.length c1, .slice o2 de.length c2, .bool clr, .slice o3 pp.length c3] 45))
                clear O8 O9
                go_wp2_with (at_builtin; go_must (refine append_k rfl _ _ rfl u9 n9 xs9 rfl OA.out _ _ _ rfl rfl NK.out (kl_one ⟨n, okv, ls3, pt, qa, qn, ⟨pf, md, og, ad, de, clr, pp⟩⟩ o1 o2 o3 c1 c2 c3) (by omega) BK.out.size ?_))
                intro y9 w4 hown hgr hat
                have B4 := hide (Below.grown BK.out hgr BK.out.size fun g hg => (OA.out.lt g hg).1)
                have O9 := hide hown
                have O8 := hide (OB.out.kept hgr (apart_kept (AP.out.symm)))
                have AP := hide (ApartV.symm (apart_new AP.out.symm hat (fun g hg => by have h9 := (OB.out.lt g hg).2; rw [sizeA] at h9; exact h9)))
                clear hown hgr hat OA OB NK BK e0 e1 e2 e3 e4 e5 e6 e7 e8 e9 e10 e11 e12
                go_wp2_with fail
                have hL : LoopB w ws m fA ok MP y8 y9 (.int .i64 ((k : Int) + 1)) w4 := by
                  unfold LoopB
                  exact ⟨k + 1, n8 + 1, n9 + 1, _, _, by go_num, by omega, by omega, by omega, O8, O9, AP, K8, K9, B4⟩
                have hM : m.length - (intOf (.int .i64 ((k : Int) + 1))).toNat < m.length - (intOf (.int .i64 (k : Int))).toNat := by simp [intOf] <;> omega
                first
                  | exact ⟨hL, hM⟩
                  | exact ⟨⟨_, _, _, hL, rfl, rfl, rfl⟩, hM⟩
                  | exact ⟨⟨_, _, hL, rfl, rfl⟩, hM⟩
                  | exact ⟨⟨_, hL, rfl⟩, hM⟩
                  | exact ⟨⟨_, _, _, _, hL, rfl, rfl, rfl, rfl⟩, hM⟩
                  | (refine ⟨?_, by simp [intOf] <;> omega⟩
                     (repeat apply Exists.intro)
                     apply And.intro hL
                     repeat' (first | exact rfl | apply And.intro)
                     all_goals exact undef)
            · have hd0 : (r.cl == 0) = false := by simp [h0]
              by_cases h1 : n ≤ r.cl
              ·
                have hd1 : decide (n ≤ r.cl) = true := by simp [h1]
                have hc := fun i u hu => HCE.out wr HBR.out i u hu
                have e0 := hc 0 _ rfl
                simp only [Nat.add_zero] at e0
                clear hc
                have s0 := fun dd os => cell_regrown e0 dd os
                have c8 := cell_of ((HBR.out.block gr (heap_lt NR.out)).trans NR.out) 8 rfl
                have s8 := fun dd os => cell_regrown c8 dd os
                go_wp2_with fail
                refine wp_region_quiet_below (by kernel_rfl) (by kernel_rfl) ?_
                repeat (go_big_quiet_step (fail))
                refine wpQuiet_nil ?_
                rintro _ ⟨⟨dd, os⟩, rfl⟩
                have hbq := below_regrown wr dd os
                generalize Sort.grow (redrawn wr dd) os = w1 at hbq
                have B1 := hide (bthen HBR.out hbq)
                have O8 := hide (row_below O8.out hbq)
                have O9 := hide (row_below O9.out hbq)
                clear hbq
                clear e0 s0 c8 s8
                have K8 := hide (S8y.out (HFA.out.trans (by rw [hd0, hd1]; rfl)))
                have hc := fun i u hu => HCE.out w1 B1.out i u hu
                have e0 := hc 0 _ rfl
                have e1 := hc 1 _ rfl
                have e2 := hc 2 _ rfl
                have e3 := hc 3 _ rfl
                have e4 := hc 4 _ rfl
                have e5 := hc 5 _ rfl
                have e6 := hc 6 _ rfl
                have e7 := hc 7 _ rfl
                have e8 := hc 8 _ rfl
                have e9 := hc 9 _ rfl
                have e10 := hc 10 _ rfl
                have e11 := hc 11 _ rfl
                have e12 := hc 12 _ rfl
                simp only [Nat.add_zero] at e0
                clear hc
                have NK := hide (heap_new w1 #[.int .i64 n, .bool okv, .string ls3, .string pt, .int .i64 qa, .int .i64 qn, .int .i64 pf, .int .i64 md, .int .i64 og, .slice o1 ad.length c1, .slice o2 de.length c2, .bool clr, .slice o3 pp.length c3] 45)
                have BK := hide (bthen B1.out (balloc (brefl w1) (.cells #[.int .i64 n, .bool okv, .string ls3, .string pt, .int .i64 qa, .int .i64 qn, .int .i64 pf, .int .i64 md, .int .i64 og, .slice o1 ad.length c1, .slice o2 de.length c2, .bool clr, .slice o3 pp.length c3] 45)))
                have OA := hide (O8.out.alloc (.cells #[.int .i64 n, .bool okv, .string ls3, .string pt, .int .i64 qa, .int .i64 qn, .int .i64 pf, .int .i64 md, .int .i64 og, .slice o1 ad.length c1, .slice o2 de.length c2, .bool clr, .slice o3 pp.length c3] 45))
                have OB := hide (O9.out.alloc (.cells #[.int .i64 n, .bool okv, .string ls3, .string pt, .int .i64 qa, .int .i64 qn, .int .i64 pf, .int .i64 md, .int .i64 og, .slice o1 ad.length c1, .slice o2 de.length c2, .bool clr, .slice o3 pp.length c3] 45))
                clear O8 O9
                go_wp2_with (at_builtin; go_must (refine append_k rfl _ _ rfl u8 n8 xs8 rfl OA.out _ _ _ rfl rfl NK.out (kl_one ⟨n, okv, ls3, pt, qa, qn, ⟨pf, md, og, ad, de, clr, pp⟩⟩ o1 o2 o3 c1 c2 c3) (by omega) BK.out.size ?_))
                intro y8 w2 hown hgr hat
                have B2 := hide (Below.grown BK.out hgr BK.out.size fun g hg => (OA.out.lt g hg).1)
                have O8 := hide hown
                have O9 := hide (OB.out.kept hgr (apart_kept (AP.out)))
                have AP := hide (apart_new AP.out hat (fun g hg => by have h9 := (OB.out.lt g hg).2; rw [sizeA] at h9; exact h9))
                clear hown hgr hat OA OB NK BK e0 e1 e2 e3 e4 e5 e6 e7 e8 e9 e10 e11 e12
                have hc := fun i u hu => HCE.out w2 B2.out i u hu
                have e0 := hc 0 _ rfl
                have e1 := hc 1 _ rfl
                have e2 := hc 2 _ rfl
                have e3 := hc 3 _ rfl
                have e4 := hc 4 _ rfl
                have e5 := hc 5 _ rfl
                have e6 := hc 6 _ rfl
                have e7 := hc 7 _ rfl
                have e8 := hc 8 _ rfl
                have e9 := hc 9 _ rfl
                have e10 := hc 10 _ rfl
                have e11 := hc 11 _ rfl
                have e12 := hc 12 _ rfl
                simp only [Nat.add_zero] at e0
                clear hc
                have s0 := fun dd os => cell_regrown e0 dd os
                have s1 := fun dd os => cell_regrown e1 dd os
                have s2 := fun dd os => cell_regrown e2 dd os
                have s3 := fun dd os => cell_regrown e3 dd os
                have s4 := fun dd os => cell_regrown e4 dd os
                have s5 := fun dd os => cell_regrown e5 dd os
                have s6 := fun dd os => cell_regrown e6 dd os
                have s7 := fun dd os => cell_regrown e7 dd os
                have s8 := fun dd os => cell_regrown e8 dd os
                have s9 := fun dd os => cell_regrown e9 dd os
                have s10 := fun dd os => cell_regrown e10 dd os
                have s11 := fun dd os => cell_regrown e11 dd os
                have s12 := fun dd os => cell_regrown e12 dd os
                have NX := hide ((B2.out.block bx (heap_lt N5.out)).trans N5.out)
                obtain ⟨k0, k1, k2, k3, k4, k5, k6, k7, k8⟩ := cells9 NX.out
                have t0 := fun dd os => cell_regrown k0 dd os
                have t1 := fun dd os => cell_regrown k1 dd os
                have t2 := fun dd os => cell_regrown k2 dd os
                have t3 := fun dd os => cell_regrown k3 dd os
                have t4 := fun dd os => cell_regrown k4 dd os
                have t5 := fun dd os => cell_regrown k5 dd os
                have t6 := fun dd os => cell_regrown k6 dd os
                have t7 := fun dd os => cell_regrown k7 dd os
                have t8 := fun dd os => cell_regrown k8 dd os
                have CM2 := hide (fun W' hb => CMK.out W' (bthen (bthen BW.out B2.out) hb))
                go_wp2_with fail
                refine wp_region_quiet_below (by kernel_rfl) (by kernel_rfl) ?_
                repeat (go_big_quiet_step ((go_at_call 13; exact Calls.regrown_of (CM2.out _ (below_regrown _ _ _)))))
                refine wpQuiet_nil ?_
                rintro _ ⟨⟨dd, os⟩, rfl⟩
                have hbq := below_regrown w2 dd os
                generalize Sort.grow (redrawn w2 dd) os = w3 at hbq
                have B3 := hide (bthen B2.out hbq)
                have O8 := hide (row_below O8.out hbq)
                have O9 := hide (row_below O9.out hbq)
                clear hbq
                clear CM2 NX e0 s0 e1 s1 e2 s2 e3 s3 e4 s4 e5 s5 e6 s6 e7 s7 e8 s8 e9 s9 e10 s10 e11 s11 e12 s12 k0 t0 k1 t1 k2 t2 k3 t3 k4 t4 k5 t5 k6 t6 k7 t7 k8 t8
                cases fb with
                | false =>
                  have K9 := hide (S9n.out rfl)
                  go_wp2_with fail
                  have hL : LoopB w ws m fA ok MP y8 u9 (.int .i64 ((k : Int) + 1)) w3 := by
                    unfold LoopB
                    exact ⟨k + 1, n8 + 1, n9, _, xs9, by go_num, by omega, by omega, by omega, O8, O9, AP, K8, K9, B3⟩
                  have hM : m.length - (intOf (.int .i64 ((k : Int) + 1))).toNat < m.length - (intOf (.int .i64 (k : Int))).toNat := by simp [intOf] <;> omega
                  first
                    | exact ⟨hL, hM⟩
                    | exact ⟨⟨_, _, _, hL, rfl, rfl, rfl⟩, hM⟩
                    | exact ⟨⟨_, _, hL, rfl, rfl⟩, hM⟩
                    | exact ⟨⟨_, hL, rfl⟩, hM⟩
                    | exact ⟨⟨_, _, _, _, hL, rfl, rfl, rfl, rfl⟩, hM⟩
                    | (refine ⟨?_, by simp [intOf] <;> omega⟩
                       (repeat apply Exists.intro)
                       apply And.intro hL
                       repeat' (first | exact rfl | apply And.intro)
                       all_goals exact undef)
                | true =>
                  have K9 := hide (S9y.out rfl)
                  have hc := fun i u hu => HCE.out w3 B3.out i u hu
                  have e0 := hc 0 _ rfl
                  have e1 := hc 1 _ rfl
                  have e2 := hc 2 _ rfl
                  have e3 := hc 3 _ rfl
                  have e4 := hc 4 _ rfl
                  have e5 := hc 5 _ rfl
                  have e6 := hc 6 _ rfl
                  have e7 := hc 7 _ rfl
                  have e8 := hc 8 _ rfl
                  have e9 := hc 9 _ rfl
                  have e10 := hc 10 _ rfl
                  have e11 := hc 11 _ rfl
                  have e12 := hc 12 _ rfl
                  simp only [Nat.add_zero] at e0
                  clear hc
                  have NK := hide (heap_new w3 #[.int .i64 n, .bool okv, .string ls3, .string pt, .int .i64 qa, .int .i64 qn, .int .i64 pf, .int .i64 md, .int .i64 og, .slice o1 ad.length c1, .slice o2 de.length c2, .bool clr, .slice o3 pp.length c3] 45)
                  have BK := hide (bthen B3.out (balloc (brefl w3) (.cells #[.int .i64 n, .bool okv, .string ls3, .string pt, .int .i64 qa, .int .i64 qn, .int .i64 pf, .int .i64 md, .int .i64 og, .slice o1 ad.length c1, .slice o2 de.length c2, .bool clr, .slice o3 pp.length c3] 45)))
                  have OA := hide (O9.out.alloc (.cells #[.int .i64 n, .bool okv, .string ls3, .string pt, .int .i64 qa, .int .i64 qn, .int .i64 pf, .int .i64 md, .int .i64 og, .slice o1 ad.length c1, .slice o2 de.length c2, .bool clr, .slice o3 pp.length c3] 45))
                  have OB := hide (O8.out.alloc (.cells #[.int .i64 n, .bool okv, .string ls3, .string pt, .int .i64 qa, .int .i64 qn, .int .i64 pf, .int .i64 md, .int .i64 og, .slice o1 ad.length c1, .slice o2 de.length c2, .bool clr, .slice o3 pp.length c3] 45))
                  clear O8 O9
                  go_wp2_with (at_builtin; go_must (refine append_k rfl _ _ rfl u9 n9 xs9 rfl OA.out _ _ _ rfl rfl NK.out (kl_one ⟨n, okv, ls3, pt, qa, qn, ⟨pf, md, og, ad, de, clr, pp⟩⟩ o1 o2 o3 c1 c2 c3) (by omega) BK.out.size ?_))
                  intro y9 w4 hown hgr hat
                  have B4 := hide (Below.grown BK.out hgr BK.out.size fun g hg => (OA.out.lt g hg).1)
                  have O9 := hide hown
                  have O8 := hide (OB.out.kept hgr (apart_kept (AP.out.symm)))
                  have AP := hide (ApartV.symm (apart_new AP.out.symm hat (fun g hg => by have h9 := (OB.out.lt g hg).2; rw [sizeA] at h9; exact h9)))
                  clear hown hgr hat OA OB NK BK e0 e1 e2 e3 e4 e5 e6 e7 e8 e9 e10 e11 e12
                  go_wp2_with fail
                  have hL : LoopB w ws m fA ok MP y8 y9 (.int .i64 ((k : Int) + 1)) w4 := by
                    unfold LoopB
                    exact ⟨k + 1, n8 + 1, n9 + 1, _, _, by go_num, by omega, by omega, by omega, O8, O9, AP, K8, K9, B4⟩
                  have hM : m.length - (intOf (.int .i64 ((k : Int) + 1))).toNat < m.length - (intOf (.int .i64 (k : Int))).toNat := by simp [intOf] <;> omega
                  first
                    | exact ⟨hL, hM⟩
                    | exact ⟨⟨_, _, _, hL, rfl, rfl, rfl⟩, hM⟩
                    | exact ⟨⟨_, _, hL, rfl, rfl⟩, hM⟩
                    | exact ⟨⟨_, hL, rfl⟩, hM⟩
                    | exact ⟨⟨_, _, _, _, hL, rfl, rfl, rfl, rfl⟩, hM⟩
                    | (refine ⟨?_, by simp [intOf] <;> omega⟩
                       (repeat apply Exists.intro)
                       apply And.intro hL
                       repeat' (first | exact rfl | apply And.intro)
                       all_goals exact undef)
              ·
                have hd1 : decide (n ≤ r.cl) = false := by simp [h1]
                have hc := fun i u hu => HCE.out wr HBR.out i u hu
                have e0 := hc 0 _ rfl
                simp only [Nat.add_zero] at e0
                clear hc
                have s0 := fun dd os => cell_regrown e0 dd os
                have c8 := cell_of ((HBR.out.block gr (heap_lt NR.out)).trans NR.out) 8 rfl
                have s8 := fun dd os => cell_regrown c8 dd os
                go_wp2_with fail
                refine wp_region_quiet_below (by kernel_rfl) (by kernel_rfl) ?_
                repeat (go_big_quiet_step (fail))
                refine wpQuiet_nil ?_
                rintro _ ⟨⟨dd, os⟩, rfl⟩
                have hbq := below_regrown wr dd os
                generalize Sort.grow (redrawn wr dd) os = w1 at hbq
                have B1 := hide (bthen HBR.out hbq)
                have O8 := hide (row_below O8.out hbq)
                have O9 := hide (row_below O9.out hbq)
                clear hbq
                clear e0 s0 c8 s8
                have K8 := hide (S8n.out (HFA.out.trans (by rw [hd0, hd1]; rfl)))
                have hc := fun i u hu => HCE.out w1 B1.out i u hu
                have e0 := hc 0 _ rfl
                have e1 := hc 1 _ rfl
                have e2 := hc 2 _ rfl
                have e3 := hc 3 _ rfl
                have e4 := hc 4 _ rfl
                have e5 := hc 5 _ rfl
                have e6 := hc 6 _ rfl
                have e7 := hc 7 _ rfl
                have e8 := hc 8 _ rfl
                have e9 := hc 9 _ rfl
                have e10 := hc 10 _ rfl
                have e11 := hc 11 _ rfl
                have e12 := hc 12 _ rfl
                simp only [Nat.add_zero] at e0
                clear hc
                have s0 := fun dd os => cell_regrown e0 dd os
                have s1 := fun dd os => cell_regrown e1 dd os
                have s2 := fun dd os => cell_regrown e2 dd os
                have s3 := fun dd os => cell_regrown e3 dd os
                have s4 := fun dd os => cell_regrown e4 dd os
                have s5 := fun dd os => cell_regrown e5 dd os
                have s6 := fun dd os => cell_regrown e6 dd os
                have s7 := fun dd os => cell_regrown e7 dd os
                have s8 := fun dd os => cell_regrown e8 dd os
                have s9 := fun dd os => cell_regrown e9 dd os
                have s10 := fun dd os => cell_regrown e10 dd os
                have s11 := fun dd os => cell_regrown e11 dd os
                have s12 := fun dd os => cell_regrown e12 dd os
                have NX := hide ((B1.out.block bx (heap_lt N5.out)).trans N5.out)
                obtain ⟨k0, k1, k2, k3, k4, k5, k6, k7, k8⟩ := cells9 NX.out
                have t0 := fun dd os => cell_regrown k0 dd os
                have t1 := fun dd os => cell_regrown k1 dd os
                have t2 := fun dd os => cell_regrown k2 dd os
                have t3 := fun dd os => cell_regrown k3 dd os
                have t4 := fun dd os => cell_regrown k4 dd os
                have t5 := fun dd os => cell_regrown k5 dd os
                have t6 := fun dd os => cell_regrown k6 dd os
                have t7 := fun dd os => cell_regrown k7 dd os
                have t8 := fun dd os => cell_regrown k8 dd os
                have CM2 := hide (fun W' hb => CMK.out W' (bthen (bthen BW.out B1.out) hb))
                go_wp2_with fail
                refine wp_region_quiet_below (by kernel_rfl) (by kernel_rfl) ?_
                repeat (go_big_quiet_step ((go_at_call 13; exact Calls.regrown_of (CM2.out _ (below_regrown _ _ _)))))
                refine wpQuiet_nil ?_
                rintro _ ⟨⟨dd, os⟩, rfl⟩
                have hbq := below_regrown w1 dd os
                generalize Sort.grow (redrawn w1 dd) os = w3 at hbq
                have B3 := hide (bthen B1.out hbq)
                have O8 := hide (row_below O8.out hbq)
                have O9 := hide (row_below O9.out hbq)
                clear hbq
                clear CM2 NX e0 s0 e1 s1 e2 s2 e3 s3 e4 s4 e5 s5 e6 s6 e7 s7 e8 s8 e9 s9 e10 s10 e11 s11 e12 s12 k0 t0 k1 t1 k2 t2 k3 t3 k4 t4 k5 t5 k6 t6 k7 t7 k8 t8
                cases fb with
                | false =>
                  have K9 := hide (S9n.out rfl)
                  go_wp2_with fail
                  have hL : LoopB w ws m fA ok MP u8 u9 (.int .i64 ((k : Int) + 1)) w3 := by
                    unfold LoopB
                    exact ⟨k + 1, n8, n9, xs8, xs9, by go_num, by omega, by omega, by omega, O8, O9, AP, K8, K9, B3⟩
                  have hM : m.length - (intOf (.int .i64 ((k : Int) + 1))).toNat < m.length - (intOf (.int .i64 (k : Int))).toNat := by simp [intOf] <;> omega
                  first
                    | exact ⟨hL, hM⟩
                    | exact ⟨⟨_, _, _, hL, rfl, rfl, rfl⟩, hM⟩
                    | exact ⟨⟨_, _, hL, rfl, rfl⟩, hM⟩
                    | exact ⟨⟨_, hL, rfl⟩, hM⟩
                    | exact ⟨⟨_, _, _, _, hL, rfl, rfl, rfl, rfl⟩, hM⟩
                    | (refine ⟨?_, by simp [intOf] <;> omega⟩
                       (repeat apply Exists.intro)
                       apply And.intro hL
                       repeat' (first | exact rfl | apply And.intro)
                       all_goals exact undef)
                | true =>
                  have K9 := hide (S9y.out rfl)
                  have hc := fun i u hu => HCE.out w3 B3.out i u hu
                  have e0 := hc 0 _ rfl
                  have e1 := hc 1 _ rfl
                  have e2 := hc 2 _ rfl
                  have e3 := hc 3 _ rfl
                  have e4 := hc 4 _ rfl
                  have e5 := hc 5 _ rfl
                  have e6 := hc 6 _ rfl
                  have e7 := hc 7 _ rfl
                  have e8 := hc 8 _ rfl
                  have e9 := hc 9 _ rfl
                  have e10 := hc 10 _ rfl
                  have e11 := hc 11 _ rfl
                  have e12 := hc 12 _ rfl
                  simp only [Nat.add_zero] at e0
                  clear hc
                  have NK := hide (heap_new w3 #[.int .i64 n, .bool okv, .string ls3, .string pt, .int .i64 qa, .int .i64 qn, .int .i64 pf, .int .i64 md, .int .i64 og, .slice o1 ad.length c1, .slice o2 de.length c2, .bool clr, .slice o3 pp.length c3] 45)
                  have BK := hide (bthen B3.out (balloc (brefl w3) (.cells #[.int .i64 n, .bool okv, .string ls3, .string pt, .int .i64 qa, .int .i64 qn, .int .i64 pf, .int .i64 md, .int .i64 og, .slice o1 ad.length c1, .slice o2 de.length c2, .bool clr, .slice o3 pp.length c3] 45)))
                  have OA := hide (O9.out.alloc (.cells #[.int .i64 n, .bool okv, .string ls3, .string pt, .int .i64 qa, .int .i64 qn, .int .i64 pf, .int .i64 md, .int .i64 og, .slice o1 ad.length c1, .slice o2 de.length c2, .bool clr, .slice o3 pp.length c3] 45))
                  have OB := hide (O8.out.alloc (.cells #[.int .i64 n, .bool okv, .string ls3, .string pt, .int .i64 qa, .int .i64 qn, .int .i64 pf, .int .i64 md, .int .i64 og, .slice o1 ad.length c1, .slice o2 de.length c2, .bool clr, .slice o3 pp.length c3] 45))
                  clear O8 O9
                  go_wp2_with (at_builtin; go_must (refine append_k rfl _ _ rfl u9 n9 xs9 rfl OA.out _ _ _ rfl rfl NK.out (kl_one ⟨n, okv, ls3, pt, qa, qn, ⟨pf, md, og, ad, de, clr, pp⟩⟩ o1 o2 o3 c1 c2 c3) (by omega) BK.out.size ?_))
                  intro y9 w4 hown hgr hat
                  have B4 := hide (Below.grown BK.out hgr BK.out.size fun g hg => (OA.out.lt g hg).1)
                  have O9 := hide hown
                  have O8 := hide (OB.out.kept hgr (apart_kept (AP.out.symm)))
                  have AP := hide (ApartV.symm (apart_new AP.out.symm hat (fun g hg => by have h9 := (OB.out.lt g hg).2; rw [sizeA] at h9; exact h9)))
                  clear hown hgr hat OA OB NK BK e0 e1 e2 e3 e4 e5 e6 e7 e8 e9 e10 e11 e12
                  go_wp2_with fail
                  have hL : LoopB w ws m fA ok MP u8 y9 (.int .i64 ((k : Int) + 1)) w4 := by
                    unfold LoopB
                    exact ⟨k + 1, n8, n9 + 1, xs8, _, by go_num, by omega, by omega, by omega, O8, O9, AP, K8, K9, B4⟩
                  have hM : m.length - (intOf (.int .i64 ((k : Int) + 1))).toNat < m.length - (intOf (.int .i64 (k : Int))).toNat := by simp [intOf] <;> omega
                  first
                    | exact ⟨hL, hM⟩
                    | exact ⟨⟨_, _, _, hL, rfl, rfl, rfl⟩, hM⟩
                    | exact ⟨⟨_, _, hL, rfl, rfl⟩, hM⟩
                    | exact ⟨⟨_, hL, rfl⟩, hM⟩
                    | exact ⟨⟨_, _, _, _, hL, rfl, rfl, rfl, rfl⟩, hM⟩
                    | (refine ⟨?_, by simp [intOf] <;> omega⟩
                       (repeat apply Exists.intro)
                       apply And.intro hL
                       repeat' (first | exact rfl | apply And.intro)
                       all_goals exact undef)
          · have hkl' : ¬ (k : Int) < (m.length : Int) := by omega
            obtain rfl : k = m.length := by omega
            have HKA : Hid (KsR w (m.filter fA) xs8 ∧ n8 = (m.filter fA).length) := by have h := K8.out; unfold StepK at h; rw [List.take_length] at h; exact h
            have HKB : Hid (KsR w (m.filter fun c => ok && MP c) xs9 ∧ n9 = (m.filter fun c => ok && MP c).length) := by have h := K9.out; unfold StepK at h; rw [List.take_length] at h; exact h
            have HRA : Hid (∀ r', RunTo true ok MP (m.filter fA) a r' → r = r') := fun r' h' => (behind_eq HMK.out HR.out fA (fun c _ _ hc => by rw [HfA.out, hc]; simp) h').symm
            have HRB : Hid (∀ r', RunTo true ok MP (m.filter fun c => ok && MP c) a r' → r = r') := fun r' h' => (behind_eq HMK.out HR.out _ (fun c ho hc _ => by rw [ho, List.find?_some hc]; rfl) h').symm
            have CRA := hide (fun W' (hb : Below wr.heap.size wr W') => CRQ.out u8 (m.filter fA) (fun _ h => (List.mem_filter.1 h).1) (Nat.le_trans (List.length_filter_le _ _) (by omega)) W' (bthen (bthen BW.out HBR.out) hb) (rd_own (row_below O8.out hb) (HKA.out.1.keep (bthen (bthen BW.out HBR.out) hb)) HKA.out.2))
            have CRB := hide (fun W' (hb : Below wr.heap.size wr W') => CRQ.out u9 (m.filter fun c => ok && MP c) (fun _ h => (List.mem_filter.1 h).1) (Nat.le_trans (List.length_filter_le _ _) (by omega)) W' (bthen (bthen BW.out HBR.out) hb) (rd_own (row_below O9.out hb) (HKB.out.1.keep (bthen (bthen BW.out HBR.out) hb)) HKB.out.2))
            rw [map_filter fA HMK.out] at CRA
            rw [map_filter _ HMK.out] at CRB
            have NW := hide ((HBR.out.block bx (heap_lt N5.out)).trans N5.out)
            have PR0 := hide ((HBR.out.block gr (heap_lt NR.out)).trans NR.out)
            have LR1 := hide (At.lies_below LR.out HBR.out)
            have BL := hide (bthen BW.out HBR.out)
            clear O8 O9 AP K8 K9 HKA HKB CRQ HR HMK HfA CMET HM N5 NR LR BW HBR
            obtain ⟨wl, hwl⟩ : ∃ x, x = wr := ⟨_, rfl⟩
            subst hwl
            have CE := hide (fun W' (hb : Below wl.heap.size wl W') => (hb.block bx (heap_lt NW.out)).trans NW.out)
            go_upto_region 12 with fail
            go_cut [11, 12] from 79 to 92 (fun v11 v12 wx => ∃ gx gy po1 co1 ko1 cp1 cc1 ck1 po2 co2 ko2 cp2 cc2 ck2, v11 = .pointer (some ⟨gx, 0, none⟩) ∧ v12 = .pointer (some ⟨gy, 0, none⟩) ∧ Hid (wx.heap[gx]? = some (.cells #[.bool r.pass, .int .i64 r.atr.pf, .int .i64 r.atr.md, .int .i64 r.atr.og, .slice po1 r.atr.path.length cp1, .slice co1 r.atr.comms.length cc1, .int .i64 r.atr.fr, .slice ko1 r.atr.cl.length ck1, .int .i64 r.cl, .int .i64 r.er] 52 (0, 0))) ∧ Hid (wx.heap[gy]? = some (.cells #[.bool r.pass, .int .i64 r.atr.pf, .int .i64 r.atr.md, .int .i64 r.atr.og, .slice po2 r.atr.path.length cp2, .slice co2 r.atr.comms.length cc2, .int .i64 r.atr.fr, .slice ko2 r.atr.cl.length ck2, .int .i64 r.cl, .int .i64 r.er] 52 (0, 0))) ∧ Hid (At.lies wx r.atr po1 co1 ko1) ∧ Hid (At.lies wx r.atr po2 co2 ko2) ∧ Hid (Below wl.heap.size wl wx))
            case first =>
              have BD := hide (Below.drew (brefl wl))
              refine wp_region_held_drew (S := fun w' => Below wl.heap.size wl w') (by kernel_rfl) BD.out (fun hHeld => ?_)
              obtain ⟨v0, hv0⟩ : ∃ x, x = wl.drew := ⟨_, rfl⟩
              rw [← hv0] at BD hHeld ⊢
              have Bv0 := hide BD.out
              clear hv0 BD
              refine wpAnyH_take (i := 0) (v := u8) rfl (by kernel_rfl) (by kernel_rfl) (by kernel_rfl) (fun _ _ _ h => h) (Or.inl ⟨by rfl, fun w hSw => by clear hSw; go_simp⟩) hHeld ?_
              simp only [Act.put, List.getElem_toArray, List.getElem_cons_zero, List.setIfInBounds_toArray, List.set_cons_zero, List.set_cons_succ]
              refine wpAnyH_take (i := 1) (v := .slice bo nl cb) rfl (by kernel_rfl) (by kernel_rfl) (by kernel_rfl) (fun _ _ _ h => h) (Or.inl ⟨by rfl, fun w hSw => by clear hSw; go_simp⟩) hHeld ?_
              simp only [Act.put, List.getElem_toArray, List.getElem_cons_zero, List.getElem_cons_succ, List.setIfInBounds_toArray, List.set_cons_zero, List.set_cons_succ]
              refine wpAnyH_take (i := 2) (v := .pointer (some ⟨bx, 0, none⟩)) rfl (by kernel_rfl) (by kernel_rfl) (by kernel_rfl) (fun _ _ _ h => h) (Or.inl ⟨by rfl, fun w hSw => by clear hSw; go_simp⟩) hHeld ?_
              simp only [Act.put, List.getElem_toArray, List.getElem_cons_zero, List.getElem_cons_succ, List.setIfInBounds_toArray, List.set_cons_zero, List.set_cons_succ]
              refine wpAnyH_take (i := 3) (v := .agg #[.int .u32 pa, .int .i64 pb]) rfl (by kernel_rfl) (by kernel_rfl) (by kernel_rfl) (fun _ _ _ h => h) (Or.inl ⟨by rfl, fun w hSw => by have NN := CE.out _ hSw; have n0 := cell_of NN 0 rfl; have n1 := cell_of NN 1 rfl; clear NN hSw; go_simp⟩) hHeld ?_
              simp only [Act.put, List.getElem_toArray, List.getElem_cons_zero, List.getElem_cons_succ, List.setIfInBounds_toArray, List.set_cons_zero, List.set_cons_succ]
              refine wpAnyH_take (i := 4) (v := .pointer (some ⟨bx, 2, none⟩)) rfl (by kernel_rfl) (by kernel_rfl) (by kernel_rfl) (fun _ _ _ h => h) (Or.inl ⟨by rfl, fun w hSw => by clear hSw; go_simp⟩) hHeld ?_
              simp only [Act.put, List.getElem_toArray, List.getElem_cons_zero, List.getElem_cons_succ, List.setIfInBounds_toArray, List.set_cons_zero, List.set_cons_succ]
              refine wpAnyH_take (i := 5) (v := .agg #[.int .i64 a.pf, .int .i64 a.md, .int .i64 a.og, .slice po pn cp, .slice co cn cc, .int .i64 a.fr, .slice ko kn ck]) rfl (by kernel_rfl) (by kernel_rfl) (by kernel_rfl) (fun _ _ _ h => h) (Or.inl ⟨by rfl, fun w hSw => by have NN := CE.out _ hSw; have n2 := cell_of NN 2 rfl; have n3 := cell_of NN 3 rfl; have n4 := cell_of NN 4 rfl; have n5 := cell_of NN 5 rfl; have n6 := cell_of NN 6 rfl; have n7 := cell_of NN 7 rfl; have n8 := cell_of NN 8 rfl; clear NN hSw; go_simp⟩) hHeld ?_
              simp only [Act.put, List.getElem_toArray, List.getElem_cons_zero, List.getElem_cons_succ, List.setIfInBounds_toArray, List.set_cons_zero, List.set_cons_succ]
              refine wpAnyH_take (i := 7) (v := u9) rfl (by kernel_rfl) (by kernel_rfl) (by kernel_rfl) (fun _ _ _ h => h) (Or.inl ⟨by rfl, fun w hSw => by clear hSw; go_simp⟩) hHeld ?_
              simp only [Act.put, List.getElem_toArray, List.getElem_cons_zero, List.getElem_cons_succ, List.setIfInBounds_toArray, List.set_cons_zero, List.set_cons_succ]
              refine wpAnyH_take (i := 8) (v := .slice bo nl cb) rfl (by kernel_rfl) (by kernel_rfl) (by kernel_rfl) (fun _ _ _ h => h) (Or.inl ⟨by rfl, fun w hSw => by clear hSw; go_simp⟩) hHeld ?_
              simp only [Act.put, List.getElem_toArray, List.getElem_cons_zero, List.getElem_cons_succ, List.setIfInBounds_toArray, List.set_cons_zero, List.set_cons_succ]
              refine wpAnyH_take (i := 9) (v := .pointer (some ⟨bx, 0, none⟩)) rfl (by kernel_rfl) (by kernel_rfl) (by kernel_rfl) (fun _ _ _ h => h) (Or.inl ⟨by rfl, fun w hSw => by clear hSw; go_simp⟩) hHeld ?_
              simp only [Act.put, List.getElem_toArray, List.getElem_cons_zero, List.getElem_cons_succ, List.setIfInBounds_toArray, List.set_cons_zero, List.set_cons_succ]
              refine wpAnyH_take (i := 10) (v := .agg #[.int .u32 pa, .int .i64 pb]) rfl (by kernel_rfl) (by kernel_rfl) (by kernel_rfl) (fun _ _ _ h => h) (Or.inl ⟨by rfl, fun w hSw => by have NN := CE.out _ hSw; have n0 := cell_of NN 0 rfl; have n1 := cell_of NN 1 rfl; clear NN hSw; go_simp⟩) hHeld ?_
              simp only [Act.put, List.getElem_toArray, List.getElem_cons_zero, List.getElem_cons_succ, List.setIfInBounds_toArray, List.set_cons_zero, List.set_cons_succ]
              refine wpAnyH_take (i := 11) (v := .pointer (some ⟨bx, 2, none⟩)) rfl (by kernel_rfl) (by kernel_rfl) (by kernel_rfl) (fun _ _ _ h => h) (Or.inl ⟨by rfl, fun w hSw => by clear hSw; go_simp⟩) hHeld ?_
              simp only [Act.put, List.getElem_toArray, List.getElem_cons_zero, List.getElem_cons_succ, List.setIfInBounds_toArray, List.set_cons_zero, List.set_cons_succ]
              refine wpAnyH_take (i := 12) (v := .agg #[.int .i64 a.pf, .int .i64 a.md, .int .i64 a.og, .slice po pn cp, .slice co cn cc, .int .i64 a.fr, .slice ko kn ck]) rfl (by kernel_rfl) (by kernel_rfl) (by kernel_rfl) (fun _ _ _ h => h) (Or.inl ⟨by rfl, fun w hSw => by have NN := CE.out _ hSw; have n2 := cell_of NN 2 rfl; have n3 := cell_of NN 3 rfl; have n4 := cell_of NN 4 rfl; have n5 := cell_of NN 5 rfl; have n6 := cell_of NN 6 rfl; have n7 := cell_of NN 7 rfl; have n8 := cell_of NN 8 rfl; clear NN hSw; go_simp⟩) hHeld ?_
              simp only [Act.put, List.getElem_toArray, List.getElem_cons_zero, List.getElem_cons_succ, List.setIfInBounds_toArray, List.set_cons_zero, List.set_cons_succ]
              refine wpAnyH_ready (rs := [6, 14, 15]) (by kernel_rfl) (by simp) ?_
              refine AllReadyH.cons rfl (fun K hK => ?_) (AllReadyH.cons rfl (fun K hK => ?_) (AllReadyH.cons rfl (fun K hK => ?_) AllReadyH.nil))
              ·
                go_simp
                go_wp2_with (refine (CRA.out v0 Bv0.out).mono ?_; rintro e v1 ⟨r1, po1, co1, ko1, cp1, cc1, ck1, rfl, hr1, hm1, _, hb1⟩)
                obtain rfl := HRA.out r1 hr1
                have Av1 := hide hb1
                have LA := hide hm1
                have Bv1 := hide (bthen Bv0.out hb1)
                clear hr1 hm1 hb1
                refine hK.out _ _ Bv1.out (fun hHeld => ?_)
                clear hK K
                unfold RsV
                try simp only [Act.put, List.getElem_toArray, List.getElem_cons_zero, List.getElem_cons_succ, List.setIfInBounds_toArray, List.set_cons_zero, List.set_cons_succ]
                clear Bv0
                clear Av1
                refine wpAnyH_ready (rs := [13, 14, 15]) (by kernel_rfl) (by simp) ?_
                refine AllReadyH.cons rfl (fun K hK => ?_) (AllReadyH.cons rfl (fun K hK => ?_) (AllReadyH.cons rfl (fun K hK => ?_) AllReadyH.nil))
                ·
                  go_simp
                  go_wp2_with (refine (CRB.out v1 Bv1.out).mono ?_; rintro e v2 ⟨r2, po2, co2, ko2, cp2, cc2, ck2, rfl, hr2, hm2, _, hb2⟩)
                  obtain rfl := HRB.out r2 hr2
                  have Av2 := hide hb2
                  have LB := hide hm2
                  have Bv2 := hide (bthen Bv1.out hb2)
                  clear hr2 hm2 hb2
                  refine hK.out _ _ Bv2.out (fun hHeld => ?_)
                  clear hK K
                  unfold RsV
                  try simp only [Act.put, List.getElem_toArray, List.getElem_cons_zero, List.getElem_cons_succ, List.setIfInBounds_toArray, List.set_cons_zero, List.set_cons_succ]
                  clear Bv1
                  have LA := hide (mine_below LA.out Av2.out)
                  clear Av2
                  refine wpAnyH_ready (rs := [14, 15]) (by kernel_rfl) (by simp) ?_
                  refine AllReadyH.cons rfl (fun K hK => ?_) (AllReadyH.cons rfl (fun K hK => ?_) AllReadyH.nil)
                  ·
                    go_simp
                    have Av3 := hide (balloc (brefl v2) (.cells #[.bool false, .int .i64 0, .int .i64 0, .int .i64 0, .slice none 0 0, .slice none 0 0, .int .i64 0, .slice none 0 0, .int .i64 0, .int .i64 0] 52))
                    have HX := hide (heap_new v2 #[.bool false, .int .i64 0, .int .i64 0, .int .i64 0, .slice none 0 0, .slice none 0 0, .int .i64 0, .slice none 0 0, .int .i64 0, .int .i64 0] 52)
                    have Bv3 := hide (bthen Bv2.out Av3.out)
                    refine hK.out _ _ Bv3.out (fun hHeld => ?_)
                    clear hK K
                    try simp only [Act.put, List.getElem_toArray, List.getElem_cons_zero, List.getElem_cons_succ, List.setIfInBounds_toArray, List.set_cons_zero, List.set_cons_succ]
                    obtain ⟨gx, hgx⟩ : ∃ x, v2.heap.size = x := ⟨_, rfl⟩
                    have FXA := hide (free_old (LA.out.1) hgx)
                    have FXB := hide (free_old (LB.out.1) hgx)
                    have SX := hide (show wl.heap.size ≤ gx by have := Bv2.out.size; omega)
                    rw [hgx] at HX
                    try rw [hgx]
                    obtain ⟨v3, hv3⟩ : ∃ x, x = v2.alloc (.cells #[.bool false, .int .i64 0, .int .i64 0, .int .i64 0, .slice none 0 0, .slice none 0 0, .int .i64 0, .slice none 0 0, .int .i64 0, .int .i64 0] 52) := ⟨_, rfl⟩
                    rw [← hv3] at Av3 HX Bv3 hHeld
                    try rw [← hv3]
                    clear hv3 hgx Bv2
                    have LA := hide (mine_below LA.out Av3.out)
                    have LB := hide (mine_below LB.out Av3.out)
                    clear Av3
                    refine wpAnyH_ready (rs := [15]) (by kernel_rfl) (by simp) ?_
                    refine AllReadyH.cons rfl (fun K hK => ?_) AllReadyH.nil
                    go_simp
                    have Av4 := hide (balloc (brefl v3) (.cells #[.bool false, .int .i64 0, .int .i64 0, .int .i64 0, .slice none 0 0, .slice none 0 0, .int .i64 0, .slice none 0 0, .int .i64 0, .int .i64 0] 52))
                    have HY := hide (heap_new v3 #[.bool false, .int .i64 0, .int .i64 0, .int .i64 0, .slice none 0 0, .slice none 0 0, .int .i64 0, .slice none 0 0, .int .i64 0, .int .i64 0] 52)
                    have Bv4 := hide (bthen Bv3.out Av4.out)
                    refine hK.out _ _ Bv4.out (fun hHeld => ?_)
                    clear hK K
                    try simp only [Act.put, List.getElem_toArray, List.getElem_cons_zero, List.getElem_cons_succ, List.setIfInBounds_toArray, List.set_cons_zero, List.set_cons_succ]
                    obtain ⟨gy, hgy⟩ : ∃ x, v3.heap.size = x := ⟨_, rfl⟩
                    have FYA := hide (free_old (LA.out.1) hgy)
                    have FYB := hide (free_old (LB.out.1) hgy)
                    have NX := hide (show gx ≠ gy by have := heap_lt HX.out; omega)
                    have SY := hide (show wl.heap.size ≤ gy by have := Bv3.out.size; omega)
                    rw [hgy] at HY
                    try rw [hgy]
                    obtain ⟨v4, hv4⟩ : ∃ x, x = v3.alloc (.cells #[.bool false, .int .i64 0, .int .i64 0, .int .i64 0, .slice none 0 0, .slice none 0 0, .int .i64 0, .slice none 0 0, .int .i64 0, .int .i64 0] 52) := ⟨_, rfl⟩
                    rw [← hv4] at Av4 HY Bv4 hHeld
                    try rw [← hv4]
                    clear hv4 hgy Bv3
                    have LA := hide (mine_below LA.out Av4.out)
                    have LB := hide (mine_below LB.out Av4.out)
                    have HX := hide ((Av4.out.block gx (heap_lt HX.out)).trans HX.out)
                    clear Av4
                    refine wpAnyH_ready (rs := [16]) (by kernel_rfl) (by simp) ?_
                    refine AllReadyH.cons rfl (fun K hK => ?_) AllReadyH.nil
                    obtain ⟨p0, p1, p2, p3, p4, p5, p6, p7, p8, p9⟩ := cells10 HX.out
                    have pf0 := frozenG HX.out 0
                    have pf1 := frozenG HX.out 1
                    have pf2 := frozenG HX.out 2
                    have pf3 := frozenG HX.out 3
                    have pf4 := frozenG HX.out 4
                    have pf5 := frozenG HX.out 5
                    have pf6 := frozenG HX.out 6
                    have pf7 := frozenG HX.out 7
                    have pf8 := frozenG HX.out 8
                    have pf9 := frozenG HX.out 9
                    go_simp
                    change K _ (put10 v4 gx (.bool r.pass) (.int .i64 r.atr.pf) (.int .i64 r.atr.md) (.int .i64 r.atr.og) (.slice po1 r.atr.path.length cp1) (.slice co1 r.atr.comms.length cc1) (.int .i64 r.atr.fr) (.slice ko1 r.atr.cl.length ck1) (.int .i64 r.cl) (.int .i64 r.er))
                    have PX := hide (put10_same HX.out (.bool r.pass) (.int .i64 r.atr.pf) (.int .i64 r.atr.md) (.int .i64 r.atr.og) (.slice po1 r.atr.path.length cp1) (.slice co1 r.atr.comms.length cc1) (.int .i64 r.atr.fr) (.slice ko1 r.atr.cl.length ck1) (.int .i64 r.cl) (.int .i64 r.er))
                    have BX := hide (put10_below Bv4.out SX.out (.bool r.pass) (.int .i64 r.atr.pf) (.int .i64 r.atr.md) (.int .i64 r.atr.og) (.slice po1 r.atr.path.length cp1) (.slice co1 r.atr.comms.length cc1) (.int .i64 r.atr.fr) (.slice ko1 r.atr.cl.length ck1) (.int .i64 r.cl) (.int .i64 r.er))
                    have OX : Hid (∀ b, b ≠ gx → (put10 v4 gx (.bool r.pass) (.int .i64 r.atr.pf) (.int .i64 r.atr.md) (.int .i64 r.atr.og) (.slice po1 r.atr.path.length cp1) (.slice co1 r.atr.comms.length cc1) (.int .i64 r.atr.fr) (.slice ko1 r.atr.cl.length ck1) (.int .i64 r.cl) (.int .i64 r.er)).heap[b]? = v4.heap[b]?) := fun b hb => put10_other _ _ _ _ _ _ _ _ _ _ _ _ b hb
                    refine hK.out _ _ BX.out (fun hHeld => ?_)
                    clear hK K p0 pf0 p1 pf1 p2 pf2 p3 pf3 p4 pf4 p5 pf5 p6 pf6 p7 pf7 p8 pf8 p9 pf9
                    generalize put10 v4 gx (.bool r.pass) (.int .i64 r.atr.pf) (.int .i64 r.atr.md) (.int .i64 r.atr.og) (.slice po1 r.atr.path.length cp1) (.slice co1 r.atr.comms.length cc1) (.int .i64 r.atr.fr) (.slice ko1 r.atr.cl.length ck1) (.int .i64 r.cl) (.int .i64 r.er) = q1 at *
                    have HY := hide ((OX.out gy (Ne.symm NX.out)).trans HY.out)
                    have LA := hide (lies_free LA.out.1 FXA.out OX.out)
                    have LB := hide (lies_free LB.out.1 FXB.out OX.out)
                    try simp only [Act.put, List.getElem_toArray, List.getElem_cons_zero, List.getElem_cons_succ, List.setIfInBounds_toArray, List.set_cons_zero, List.set_cons_succ]
                    refine wpAnyH_ready (rs := [17]) (by kernel_rfl) (by simp) ?_
                    refine AllReadyH.cons rfl (fun K hK => ?_) AllReadyH.nil
                    obtain ⟨p0, p1, p2, p3, p4, p5, p6, p7, p8, p9⟩ := cells10 HY.out
                    have pf0 := frozenG HY.out 0
                    have pf1 := frozenG HY.out 1
                    have pf2 := frozenG HY.out 2
                    have pf3 := frozenG HY.out 3
                    have pf4 := frozenG HY.out 4
                    have pf5 := frozenG HY.out 5
                    have pf6 := frozenG HY.out 6
                    have pf7 := frozenG HY.out 7
                    have pf8 := frozenG HY.out 8
                    have pf9 := frozenG HY.out 9
                    go_simp
                    change K _ (put10 q1 gy (.bool r.pass) (.int .i64 r.atr.pf) (.int .i64 r.atr.md) (.int .i64 r.atr.og) (.slice po2 r.atr.path.length cp2) (.slice co2 r.atr.comms.length cc2) (.int .i64 r.atr.fr) (.slice ko2 r.atr.cl.length ck2) (.int .i64 r.cl) (.int .i64 r.er))
                    have PY := hide (put10_same HY.out (.bool r.pass) (.int .i64 r.atr.pf) (.int .i64 r.atr.md) (.int .i64 r.atr.og) (.slice po2 r.atr.path.length cp2) (.slice co2 r.atr.comms.length cc2) (.int .i64 r.atr.fr) (.slice ko2 r.atr.cl.length ck2) (.int .i64 r.cl) (.int .i64 r.er))
                    have BY := hide (put10_below BX.out SY.out (.bool r.pass) (.int .i64 r.atr.pf) (.int .i64 r.atr.md) (.int .i64 r.atr.og) (.slice po2 r.atr.path.length cp2) (.slice co2 r.atr.comms.length cc2) (.int .i64 r.atr.fr) (.slice ko2 r.atr.cl.length ck2) (.int .i64 r.cl) (.int .i64 r.er))
                    have OY : Hid (∀ b, b ≠ gy → (put10 q1 gy (.bool r.pass) (.int .i64 r.atr.pf) (.int .i64 r.atr.md) (.int .i64 r.atr.og) (.slice po2 r.atr.path.length cp2) (.slice co2 r.atr.comms.length cc2) (.int .i64 r.atr.fr) (.slice ko2 r.atr.cl.length ck2) (.int .i64 r.cl) (.int .i64 r.er)).heap[b]? = q1.heap[b]?) := fun b hb => put10_other _ _ _ _ _ _ _ _ _ _ _ _ b hb
                    refine hK.out _ _ BY.out (fun hHeld => ?_)
                    clear hK K p0 pf0 p1 pf1 p2 pf2 p3 pf3 p4 pf4 p5 pf5 p6 pf6 p7 pf7 p8 pf8 p9 pf9
                    generalize put10 q1 gy (.bool r.pass) (.int .i64 r.atr.pf) (.int .i64 r.atr.md) (.int .i64 r.atr.og) (.slice po2 r.atr.path.length cp2) (.slice co2 r.atr.comms.length cc2) (.int .i64 r.atr.fr) (.slice ko2 r.atr.cl.length ck2) (.int .i64 r.cl) (.int .i64 r.er) = q2 at *
                    have PX := hide ((OY.out gx NX.out).trans PX.out)
                    have LA := hide (lies_free LA.out FYA.out OY.out)
                    have LB := hide (lies_free LB.out FYB.out OY.out)
                    try simp only [Act.put, List.getElem_toArray, List.getElem_cons_zero, List.getElem_cons_succ, List.setIfInBounds_toArray, List.set_cons_zero, List.set_cons_succ]
                    refine wpAnyH_done (by kernel_rfl) ?_ _
                    clear hHeld
                    go_wp2_with fail
                    go_meet
                    exact ⟨gx, gy, po1, co1, ko1, cp1, cc1, ck1, po2, co2, ko2, cp2, cc2, ck2, rfl, rfl, PX, PY, LA, LB, BY⟩
                  ·
                    go_simp
                    have Av5 := hide (balloc (brefl v2) (.cells #[.bool false, .int .i64 0, .int .i64 0, .int .i64 0, .slice none 0 0, .slice none 0 0, .int .i64 0, .slice none 0 0, .int .i64 0, .int .i64 0] 52))
                    have HY := hide (heap_new v2 #[.bool false, .int .i64 0, .int .i64 0, .int .i64 0, .slice none 0 0, .slice none 0 0, .int .i64 0, .slice none 0 0, .int .i64 0, .int .i64 0] 52)
                    have Bv5 := hide (bthen Bv2.out Av5.out)
                    refine hK.out _ _ Bv5.out (fun hHeld => ?_)
                    clear hK K
                    try simp only [Act.put, List.getElem_toArray, List.getElem_cons_zero, List.getElem_cons_succ, List.setIfInBounds_toArray, List.set_cons_zero, List.set_cons_succ]
                    obtain ⟨gy, hgy⟩ : ∃ x, v2.heap.size = x := ⟨_, rfl⟩
                    have FYA := hide (free_old (LA.out.1) hgy)
                    have FYB := hide (free_old (LB.out.1) hgy)
                    have SY := hide (show wl.heap.size ≤ gy by have := Bv2.out.size; omega)
                    rw [hgy] at HY
                    try rw [hgy]
                    obtain ⟨v5, hv5⟩ : ∃ x, x = v2.alloc (.cells #[.bool false, .int .i64 0, .int .i64 0, .int .i64 0, .slice none 0 0, .slice none 0 0, .int .i64 0, .slice none 0 0, .int .i64 0, .int .i64 0] 52) := ⟨_, rfl⟩
                    rw [← hv5] at Av5 HY Bv5 hHeld
                    try rw [← hv5]
                    clear hv5 hgy Bv2
                    have LA := hide (mine_below LA.out Av5.out)
                    have LB := hide (mine_below LB.out Av5.out)
                    clear Av5
                    refine wpAnyH_ready (rs := [14]) (by kernel_rfl) (by simp) ?_
                    refine AllReadyH.cons rfl (fun K hK => ?_) AllReadyH.nil
                    go_simp
                    have Av6 := hide (balloc (brefl v5) (.cells #[.bool false, .int .i64 0, .int .i64 0, .int .i64 0, .slice none 0 0, .slice none 0 0, .int .i64 0, .slice none 0 0, .int .i64 0, .int .i64 0] 52))
                    have HX := hide (heap_new v5 #[.bool false, .int .i64 0, .int .i64 0, .int .i64 0, .slice none 0 0, .slice none 0 0, .int .i64 0, .slice none 0 0, .int .i64 0, .int .i64 0] 52)
                    have Bv6 := hide (bthen Bv5.out Av6.out)
                    refine hK.out _ _ Bv6.out (fun hHeld => ?_)
                    clear hK K
                    try simp only [Act.put, List.getElem_toArray, List.getElem_cons_zero, List.getElem_cons_succ, List.setIfInBounds_toArray, List.set_cons_zero, List.set_cons_succ]
                    obtain ⟨gx, hgx⟩ : ∃ x, v5.heap.size = x := ⟨_, rfl⟩
                    have FXA := hide (free_old (LA.out.1) hgx)
                    have FXB := hide (free_old (LB.out.1) hgx)
                    have NX := hide (show gx ≠ gy by have := heap_lt HY.out; omega)
                    have SX := hide (show wl.heap.size ≤ gx by have := Bv5.out.size; omega)
                    rw [hgx] at HX
                    try rw [hgx]
                    obtain ⟨v6, hv6⟩ : ∃ x, x = v5.alloc (.cells #[.bool false, .int .i64 0, .int .i64 0, .int .i64 0, .slice none 0 0, .slice none 0 0, .int .i64 0, .slice none 0 0, .int .i64 0, .int .i64 0] 52) := ⟨_, rfl⟩
                    rw [← hv6] at Av6 HX Bv6 hHeld
                    try rw [← hv6]
                    clear hv6 hgx Bv5
                    have LA := hide (mine_below LA.out Av6.out)
                    have LB := hide (mine_below LB.out Av6.out)
                    have HY := hide ((Av6.out.block gy (heap_lt HY.out)).trans HY.out)
                    clear Av6
                    refine wpAnyH_ready (rs := [16]) (by kernel_rfl) (by simp) ?_
                    refine AllReadyH.cons rfl (fun K hK => ?_) AllReadyH.nil
                    obtain ⟨p0, p1, p2, p3, p4, p5, p6, p7, p8, p9⟩ := cells10 HX.out
                    have pf0 := frozenG HX.out 0
                    have pf1 := frozenG HX.out 1
                    have pf2 := frozenG HX.out 2
                    have pf3 := frozenG HX.out 3
                    have pf4 := frozenG HX.out 4
                    have pf5 := frozenG HX.out 5
                    have pf6 := frozenG HX.out 6
                    have pf7 := frozenG HX.out 7
                    have pf8 := frozenG HX.out 8
                    have pf9 := frozenG HX.out 9
                    go_simp
                    change K _ (put10 v6 gx (.bool r.pass) (.int .i64 r.atr.pf) (.int .i64 r.atr.md) (.int .i64 r.atr.og) (.slice po1 r.atr.path.length cp1) (.slice co1 r.atr.comms.length cc1) (.int .i64 r.atr.fr) (.slice ko1 r.atr.cl.length ck1) (.int .i64 r.cl) (.int .i64 r.er))
                    have PX := hide (put10_same HX.out (.bool r.pass) (.int .i64 r.atr.pf) (.int .i64 r.atr.md) (.int .i64 r.atr.og) (.slice po1 r.atr.path.length cp1) (.slice co1 r.atr.comms.length cc1) (.int .i64 r.atr.fr) (.slice ko1 r.atr.cl.length ck1) (.int .i64 r.cl) (.int .i64 r.er))
                    have BX := hide (put10_below Bv6.out SX.out (.bool r.pass) (.int .i64 r.atr.pf) (.int .i64 r.atr.md) (.int .i64 r.atr.og) (.slice po1 r.atr.path.length cp1) (.slice co1 r.atr.comms.length cc1) (.int .i64 r.atr.fr) (.slice ko1 r.atr.cl.length ck1) (.int .i64 r.cl) (.int .i64 r.er))
                    have OX : Hid (∀ b, b ≠ gx → (put10 v6 gx (.bool r.pass) (.int .i64 r.atr.pf) (.int .i64 r.atr.md) (.int .i64 r.atr.og) (.slice po1 r.atr.path.length cp1) (.slice co1 r.atr.comms.length cc1) (.int .i64 r.atr.fr) (.slice ko1 r.atr.cl.length ck1) (.int .i64 r.cl) (.int .i64 r.er)).heap[b]? = v6.heap[b]?) := fun b hb => put10_other _ _ _ _ _ _ _ _ _ _ _ _ b hb
                    refine hK.out _ _ BX.out (fun hHeld => ?_)
                    clear hK K p0 pf0 p1 pf1 p2 pf2 p3 pf3 p4 pf4 p5 pf5 p6 pf6 p7 pf7 p8 pf8 p9 pf9
                    generalize put10 v6 gx (.bool r.pass) (.int .i64 r.atr.pf) (.int .i64 r.atr.md) (.int .i64 r.atr.og) (.slice po1 r.atr.path.length cp1) (.slice co1 r.atr.comms.length cc1) (.int .i64 r.atr.fr) (.slice ko1 r.atr.cl.length ck1) (.int .i64 r.cl) (.int .i64 r.er) = q1 at *
                    have HY := hide ((OX.out gy (Ne.symm NX.out)).trans HY.out)
                    have LA := hide (lies_free LA.out.1 FXA.out OX.out)
                    have LB := hide (lies_free LB.out.1 FXB.out OX.out)
                    try simp only [Act.put, List.getElem_toArray, List.getElem_cons_zero, List.getElem_cons_succ, List.setIfInBounds_toArray, List.set_cons_zero, List.set_cons_succ]
                    refine wpAnyH_ready (rs := [17]) (by kernel_rfl) (by simp) ?_
                    refine AllReadyH.cons rfl (fun K hK => ?_) AllReadyH.nil
                    obtain ⟨p0, p1, p2, p3, p4, p5, p6, p7, p8, p9⟩ := cells10 HY.out
                    have pf0 := frozenG HY.out 0
                    have pf1 := frozenG HY.out 1
                    have pf2 := frozenG HY.out 2
                    have pf3 := frozenG HY.out 3
                    have pf4 := frozenG HY.out 4
                    have pf5 := frozenG HY.out 5
                    have pf6 := frozenG HY.out 6
                    have pf7 := frozenG HY.out 7
                    have pf8 := frozenG HY.out 8
                    have pf9 := frozenG HY.out 9
                    go_simp
                    change K _ (put10 q1 gy (.bool r.pass) (.int .i64 r.atr.pf) (.int .i64 r.atr.md) (.int .i64 r.atr.og) (.slice po2 r.atr.path.length cp2) (.slice co2 r.atr.comms.length cc2) (.int .i64 r.atr.fr) (.slice ko2 r.atr.cl.length ck2) (.int .i64 r.cl) (.int .i64 r.er))
                    have PY := hide (put10_same HY.out (.bool r.pass) (.int .i64 r.atr.pf) (.int .i64 r.atr.md) (.int .i64 r.atr.og) (.slice po2 r.atr.path.length cp2) (.slice co2 r.atr.comms.length cc2) (.int .i64 r.atr.fr) (.slice ko2 r.atr.cl.length ck2) (.int .i64 r.cl) (.int .i64 r.er))
                    have BY := hide (put10_below BX.out SY.out (.bool r.pass) (.int .i64 r.atr.pf) (.int .i64 r.atr.md) (.int .i64 r.atr.og) (.slice po2 r.atr.path.length cp2) (.slice co2 r.atr.comms.length cc2) (.int .i64 r.atr.fr) (.slice ko2 r.atr.cl.length ck2) (.int .i64 r.cl) (.int .i64 r.er))
                    have OY : Hid (∀ b, b ≠ gy → (put10 q1 gy (.bool r.pass) (.int .i64 r.atr.pf) (.int .i64 r.atr.md) (.int .i64 r.atr.og) (.slice po2 r.atr.path.length cp2) (.slice co2 r.atr.comms.length cc2) (.int .i64 r.atr.fr) (.slice ko2 r.atr.cl.length ck2) (.int .i64 r.cl) (.int .i64 r.er)).heap[b]? = q1.heap[b]?) := fun b hb => put10_other _ _ _ _ _ _ _ _ _ _ _ _ b hb
                    refine hK.out _ _ BY.out (fun hHeld => ?_)
                    clear hK K p0 pf0 p1 pf1 p2 pf2 p3 pf3 p4 pf4 p5 pf5 p6 pf6 p7 pf7 p8 pf8 p9 pf9
                    generalize put10 q1 gy (.bool r.pass) (.int .i64 r.atr.pf) (.int .i64 r.atr.md) (.int .i64 r.atr.og) (.slice po2 r.atr.path.length cp2) (.slice co2 r.atr.comms.length cc2) (.int .i64 r.atr.fr) (.slice ko2 r.atr.cl.length ck2) (.int .i64 r.cl) (.int .i64 r.er) = q2 at *
                    have PX := hide ((OY.out gx NX.out).trans PX.out)
                    have LA := hide (lies_free LA.out FYA.out OY.out)
                    have LB := hide (lies_free LB.out FYB.out OY.out)
                    try simp only [Act.put, List.getElem_toArray, List.getElem_cons_zero, List.getElem_cons_succ, List.setIfInBounds_toArray, List.set_cons_zero, List.set_cons_succ]
                    refine wpAnyH_done (by kernel_rfl) ?_ _
                    clear hHeld
                    go_wp2_with fail
                    go_meet
                    exact ⟨gx, gy, po1, co1, ko1, cp1, cc1, ck1, po2, co2, ko2, cp2, cc2, ck2, rfl, rfl, PX, PY, LA, LB, BY⟩
                ·
                  go_simp
                  have Av7 := hide (balloc (brefl v1) (.cells #[.bool false, .int .i64 0, .int .i64 0, .int .i64 0, .slice none 0 0, .slice none 0 0, .int .i64 0, .slice none 0 0, .int .i64 0, .int .i64 0] 52))
                  have HX := hide (heap_new v1 #[.bool false, .int .i64 0, .int .i64 0, .int .i64 0, .slice none 0 0, .slice none 0 0, .int .i64 0, .slice none 0 0, .int .i64 0, .int .i64 0] 52)
                  have Bv7 := hide (bthen Bv1.out Av7.out)
                  refine hK.out _ _ Bv7.out (fun hHeld => ?_)
                  clear hK K
                  try simp only [Act.put, List.getElem_toArray, List.getElem_cons_zero, List.getElem_cons_succ, List.setIfInBounds_toArray, List.set_cons_zero, List.set_cons_succ]
                  obtain ⟨gx, hgx⟩ : ∃ x, v1.heap.size = x := ⟨_, rfl⟩
                  have FXA := hide (free_old (LA.out.1) hgx)
                  have SX := hide (show wl.heap.size ≤ gx by have := Bv1.out.size; omega)
                  rw [hgx] at HX
                  try rw [hgx]
                  obtain ⟨v7, hv7⟩ : ∃ x, x = v1.alloc (.cells #[.bool false, .int .i64 0, .int .i64 0, .int .i64 0, .slice none 0 0, .slice none 0 0, .int .i64 0, .slice none 0 0, .int .i64 0, .int .i64 0] 52) := ⟨_, rfl⟩
                  rw [← hv7] at Av7 HX Bv7 hHeld
                  try rw [← hv7]
                  clear hv7 hgx Bv1
                  have LA := hide (mine_below LA.out Av7.out)
                  clear Av7
                  refine wpAnyH_ready (rs := [13, 15]) (by kernel_rfl) (by simp) ?_
                  refine AllReadyH.cons rfl (fun K hK => ?_) (AllReadyH.cons rfl (fun K hK => ?_) AllReadyH.nil)
                  ·
                    go_simp
                    go_wp2_with (refine (CRB.out v7 Bv7.out).mono ?_; rintro e v8 ⟨r2, po2, co2, ko2, cp2, cc2, ck2, rfl, hr2, hm2, _, hb2⟩)
                    obtain rfl := HRB.out r2 hr2
                    have Av8 := hide hb2
                    have LB := hide hm2
                    have Bv8 := hide (bthen Bv7.out hb2)
                    have FXB := hide (free_new hm2 (heap_lt HX.out))
                    clear hr2 hm2 hb2
                    refine hK.out _ _ Bv8.out (fun hHeld => ?_)
                    clear hK K
                    unfold RsV
                    try simp only [Act.put, List.getElem_toArray, List.getElem_cons_zero, List.getElem_cons_succ, List.setIfInBounds_toArray, List.set_cons_zero, List.set_cons_succ]
                    clear Bv7
                    have LA := hide (mine_below LA.out Av8.out)
                    have HX := hide ((Av8.out.block gx (heap_lt HX.out)).trans HX.out)
                    clear Av8
                    refine wpAnyH_ready (rs := [15]) (by kernel_rfl) (by simp) ?_
                    refine AllReadyH.cons rfl (fun K hK => ?_) AllReadyH.nil
                    go_simp
                    have Av9 := hide (balloc (brefl v8) (.cells #[.bool false, .int .i64 0, .int .i64 0, .int .i64 0, .slice none 0 0, .slice none 0 0, .int .i64 0, .slice none 0 0, .int .i64 0, .int .i64 0] 52))
                    have HY := hide (heap_new v8 #[.bool false, .int .i64 0, .int .i64 0, .int .i64 0, .slice none 0 0, .slice none 0 0, .int .i64 0, .slice none 0 0, .int .i64 0, .int .i64 0] 52)
                    have Bv9 := hide (bthen Bv8.out Av9.out)
                    refine hK.out _ _ Bv9.out (fun hHeld => ?_)
                    clear hK K
                    try simp only [Act.put, List.getElem_toArray, List.getElem_cons_zero, List.getElem_cons_succ, List.setIfInBounds_toArray, List.set_cons_zero, List.set_cons_succ]
                    obtain ⟨gy, hgy⟩ : ∃ x, v8.heap.size = x := ⟨_, rfl⟩
                    have FYA := hide (free_old (LA.out.1) hgy)
                    have FYB := hide (free_old (LB.out.1) hgy)
                    have NX := hide (show gx ≠ gy by have := heap_lt HX.out; omega)
                    have SY := hide (show wl.heap.size ≤ gy by have := Bv8.out.size; omega)
                    rw [hgy] at HY
                    try rw [hgy]
                    obtain ⟨v9, hv9⟩ : ∃ x, x = v8.alloc (.cells #[.bool false, .int .i64 0, .int .i64 0, .int .i64 0, .slice none 0 0, .slice none 0 0, .int .i64 0, .slice none 0 0, .int .i64 0, .int .i64 0] 52) := ⟨_, rfl⟩
                    rw [← hv9] at Av9 HY Bv9 hHeld
                    try rw [← hv9]
                    clear hv9 hgy Bv8
                    have LA := hide (mine_below LA.out Av9.out)
                    have HX := hide ((Av9.out.block gx (heap_lt HX.out)).trans HX.out)
                    have LB := hide (mine_below LB.out Av9.out)
                    clear Av9
                    refine wpAnyH_ready (rs := [16]) (by kernel_rfl) (by simp) ?_
                    refine AllReadyH.cons rfl (fun K hK => ?_) AllReadyH.nil
                    obtain ⟨p0, p1, p2, p3, p4, p5, p6, p7, p8, p9⟩ := cells10 HX.out
                    have pf0 := frozenG HX.out 0
                    have pf1 := frozenG HX.out 1
                    have pf2 := frozenG HX.out 2
                    have pf3 := frozenG HX.out 3
                    have pf4 := frozenG HX.out 4
                    have pf5 := frozenG HX.out 5
                    have pf6 := frozenG HX.out 6
                    have pf7 := frozenG HX.out 7
                    have pf8 := frozenG HX.out 8
                    have pf9 := frozenG HX.out 9
                    go_simp
                    change K _ (put10 v9 gx (.bool r.pass) (.int .i64 r.atr.pf) (.int .i64 r.atr.md) (.int .i64 r.atr.og) (.slice po1 r.atr.path.length cp1) (.slice co1 r.atr.comms.length cc1) (.int .i64 r.atr.fr) (.slice ko1 r.atr.cl.length ck1) (.int .i64 r.cl) (.int .i64 r.er))
                    have PX := hide (put10_same HX.out (.bool r.pass) (.int .i64 r.atr.pf) (.int .i64 r.atr.md) (.int .i64 r.atr.og) (.slice po1 r.atr.path.length cp1) (.slice co1 r.atr.comms.length cc1) (.int .i64 r.atr.fr) (.slice ko1 r.atr.cl.length ck1) (.int .i64 r.cl) (.int .i64 r.er))
                    have BX := hide (put10_below Bv9.out SX.out (.bool r.pass) (.int .i64 r.atr.pf) (.int .i64 r.atr.md) (.int .i64 r.atr.og) (.slice po1 r.atr.path.length cp1) (.slice co1 r.atr.comms.length cc1) (.int .i64 r.atr.fr) (.slice ko1 r.atr.cl.length ck1) (.int .i64 r.cl) (.int .i64 r.er))
                    have OX : Hid (∀ b, b ≠ gx → (put10 v9 gx (.bool r.pass) (.int .i64 r.atr.pf) (.int .i64 r.atr.md) (.int .i64 r.atr.og) (.slice po1 r.atr.path.length cp1) (.slice co1 r.atr.comms.length cc1) (.int .i64 r.atr.fr) (.slice ko1 r.atr.cl.length ck1) (.int .i64 r.cl) (.int .i64 r.er)).heap[b]? = v9.heap[b]?) := fun b hb => put10_other _ _ _ _ _ _ _ _ _ _ _ _ b hb
                    refine hK.out _ _ BX.out (fun hHeld => ?_)
                    clear hK K p0 pf0 p1 pf1 p2 pf2 p3 pf3 p4 pf4 p5 pf5 p6 pf6 p7 pf7 p8 pf8 p9 pf9
                    generalize put10 v9 gx (.bool r.pass) (.int .i64 r.atr.pf) (.int .i64 r.atr.md) (.int .i64 r.atr.og) (.slice po1 r.atr.path.length cp1) (.slice co1 r.atr.comms.length cc1) (.int .i64 r.atr.fr) (.slice ko1 r.atr.cl.length ck1) (.int .i64 r.cl) (.int .i64 r.er) = q1 at *
                    have HY := hide ((OX.out gy (Ne.symm NX.out)).trans HY.out)
                    have LA := hide (lies_free LA.out.1 FXA.out OX.out)
                    have LB := hide (lies_free LB.out.1 FXB.out OX.out)
                    try simp only [Act.put, List.getElem_toArray, List.getElem_cons_zero, List.getElem_cons_succ, List.setIfInBounds_toArray, List.set_cons_zero, List.set_cons_succ]
                    refine wpAnyH_ready (rs := [17]) (by kernel_rfl) (by simp) ?_
                    refine AllReadyH.cons rfl (fun K hK => ?_) AllReadyH.nil
                    obtain ⟨p0, p1, p2, p3, p4, p5, p6, p7, p8, p9⟩ := cells10 HY.out
                    have pf0 := frozenG HY.out 0
                    have pf1 := frozenG HY.out 1
                    have pf2 := frozenG HY.out 2
                    have pf3 := frozenG HY.out 3
                    have pf4 := frozenG HY.out 4
                    have pf5 := frozenG HY.out 5
                    have pf6 := frozenG HY.out 6
                    have pf7 := frozenG HY.out 7
                    have pf8 := frozenG HY.out 8
                    have pf9 := frozenG HY.out 9
                    go_simp
                    change K _ (put10 q1 gy (.bool r.pass) (.int .i64 r.atr.pf) (.int .i64 r.atr.md) (.int .i64 r.atr.og) (.slice po2 r.atr.path.length cp2) (.slice co2 r.atr.comms.length cc2) (.int .i64 r.atr.fr) (.slice ko2 r.atr.cl.length ck2) (.int .i64 r.cl) (.int .i64 r.er))
                    have PY := hide (put10_same HY.out (.bool r.pass) (.int .i64 r.atr.pf) (.int .i64 r.atr.md) (.int .i64 r.atr.og) (.slice po2 r.atr.path.length cp2) (.slice co2 r.atr.comms.length cc2) (.int .i64 r.atr.fr) (.slice ko2 r.atr.cl.length ck2) (.int .i64 r.cl) (.int .i64 r.er))
                    have BY := hide (put10_below BX.out SY.out (.bool r.pass) (.int .i64 r.atr.pf) (.int .i64 r.atr.md) (.int .i64 r.atr.og) (.slice po2 r.atr.path.length cp2) (.slice co2 r.atr.comms.length cc2) (.int .i64 r.atr.fr) (.slice ko2 r.atr.cl.length ck2) (.int .i64 r.cl) (.int .i64 r.er))
                    have OY : Hid (∀ b, b ≠ gy → (put10 q1 gy (.bool r.pass) (.int .i64 r.atr.pf) (.int .i64 r.atr.md) (.int .i64 r.atr.og) (.slice po2 r.atr.path.length cp2) (.slice co2 r.atr.comms.length cc2) (.int .i64 r.atr.fr) (.slice ko2 r.atr.cl.length ck2) (.int .i64 r.cl) (.int .i64 r.er)).heap[b]? = q1.heap[b]?) := fun b hb => put10_other _ _ _ _ _ _ _ _ _ _ _ _ b hb
                    refine hK.out _ _ BY.out (fun hHeld => ?_)
                    clear hK K p0 pf0 p1 pf1 p2 pf2 p3 pf3 p4 pf4 p5 pf5 p6 pf6 p7 pf7 p8 pf8 p9 pf9
                    generalize put10 q1 gy (.bool r.pass) (.int .i64 r.atr.pf) (.int .i64 r.atr.md) (.int .i64 r.atr.og) (.slice po2 r.atr.path.length cp2) (.slice co2 r.atr.comms.length cc2) (.int .i64 r.atr.fr) (.slice ko2 r.atr.cl.length ck2) (.int .i64 r.cl) (.int .i64 r.er) = q2 at *
                    have PX := hide ((OY.out gx NX.out).trans PX.out)
                    have LA := hide (lies_free LA.out FYA.out OY.out)
                    have LB := hide (lies_free LB.out FYB.out OY.out)
                    try simp only [Act.put, List.getElem_toArray, List.getElem_cons_zero, List.getElem_cons_succ, List.setIfInBounds_toArray, List.set_cons_zero, List.set_cons_succ]
                    refine wpAnyH_done (by kernel_rfl) ?_ _
                    clear hHeld
                    go_wp2_with fail
                    go_meet
                    exact ⟨gx, gy, po1, co1, ko1, cp1, cc1, ck1, po2, co2, ko2, cp2, cc2, ck2, rfl, rfl, PX, PY, LA, LB, BY⟩
                  ·
                    go_simp
                    have Av10 := hide (balloc (brefl v7) (.cells #[.bool false, .int .i64 0, .int .i64 0, .int .i64 0, .slice none 0 0, .slice none 0 0, .int .i64 0, .slice none 0 0, .int .i64 0, .int .i64 0] 52))
                    have HY := hide (heap_new v7 #[.bool false, .int .i64 0, .int .i64 0, .int .i64 0, .slice none 0 0, .slice none 0 0, .int .i64 0, .slice none 0 0, .int .i64 0, .int .i64 0] 52)
                    have Bv10 := hide (bthen Bv7.out Av10.out)
                    refine hK.out _ _ Bv10.out (fun hHeld => ?_)
                    clear hK K
                    try simp only [Act.put, List.getElem_toArray, List.getElem_cons_zero, List.getElem_cons_succ, List.setIfInBounds_toArray, List.set_cons_zero, List.set_cons_succ]
                    obtain ⟨gy, hgy⟩ : ∃ x, v7.heap.size = x := ⟨_, rfl⟩
                    have FYA := hide (free_old (LA.out.1) hgy)
                    have NX := hide (show gx ≠ gy by have := heap_lt HX.out; omega)
                    have SY := hide (show wl.heap.size ≤ gy by have := Bv7.out.size; omega)
                    rw [hgy] at HY
                    try rw [hgy]
                    obtain ⟨v10, hv10⟩ : ∃ x, x = v7.alloc (.cells #[.bool false, .int .i64 0, .int .i64 0, .int .i64 0, .slice none 0 0, .slice none 0 0, .int .i64 0, .slice none 0 0, .int .i64 0, .int .i64 0] 52) := ⟨_, rfl⟩
                    rw [← hv10] at Av10 HY Bv10 hHeld
                    try rw [← hv10]
                    clear hv10 hgy Bv7
                    have LA := hide (mine_below LA.out Av10.out)
                    have HX := hide ((Av10.out.block gx (heap_lt HX.out)).trans HX.out)
                    clear Av10
                    refine wpAnyH_ready (rs := [13]) (by kernel_rfl) (by simp) ?_
                    refine AllReadyH.cons rfl (fun K hK => ?_) AllReadyH.nil
                    go_simp
                    go_wp2_with (refine (CRB.out v10 Bv10.out).mono ?_; rintro e v11 ⟨r2, po2, co2, ko2, cp2, cc2, ck2, rfl, hr2, hm2, _, hb2⟩)
                    obtain rfl := HRB.out r2 hr2
                    have Av11 := hide hb2
                    have LB := hide hm2
                    have Bv11 := hide (bthen Bv10.out hb2)
                    have FXB := hide (free_new hm2 (heap_lt HX.out))
                    have FYB := hide (free_new hm2 (heap_lt HY.out))
                    clear hr2 hm2 hb2
                    refine hK.out _ _ Bv11.out (fun hHeld => ?_)
                    clear hK K
                    unfold RsV
                    try simp only [Act.put, List.getElem_toArray, List.getElem_cons_zero, List.getElem_cons_succ, List.setIfInBounds_toArray, List.set_cons_zero, List.set_cons_succ]
                    clear Bv10
                    have LA := hide (mine_below LA.out Av11.out)
                    have HX := hide ((Av11.out.block gx (heap_lt HX.out)).trans HX.out)
                    have HY := hide ((Av11.out.block gy (heap_lt HY.out)).trans HY.out)
                    clear Av11
                    refine wpAnyH_ready (rs := [16]) (by kernel_rfl) (by simp) ?_
                    refine AllReadyH.cons rfl (fun K hK => ?_) AllReadyH.nil
                    obtain ⟨p0, p1, p2, p3, p4, p5, p6, p7, p8, p9⟩ := cells10 HX.out
                    have pf0 := frozenG HX.out 0
                    have pf1 := frozenG HX.out 1
                    have pf2 := frozenG HX.out 2
                    have pf3 := frozenG HX.out 3
                    have pf4 := frozenG HX.out 4
                    have pf5 := frozenG HX.out 5
                    have pf6 := frozenG HX.out 6
                    have pf7 := frozenG HX.out 7
                    have pf8 := frozenG HX.out 8
                    have pf9 := frozenG HX.out 9
                    go_simp
                    change K _ (put10 v11 gx (.bool r.pass) (.int .i64 r.atr.pf) (.int .i64 r.atr.md) (.int .i64 r.atr.og) (.slice po1 r.atr.path.length cp1) (.slice co1 r.atr.comms.length cc1) (.int .i64 r.atr.fr) (.slice ko1 r.atr.cl.length ck1) (.int .i64 r.cl) (.int .i64 r.er))
                    have PX := hide (put10_same HX.out (.bool r.pass) (.int .i64 r.atr.pf) (.int .i64 r.atr.md) (.int .i64 r.atr.og) (.slice po1 r.atr.path.length cp1) (.slice co1 r.atr.comms.length cc1) (.int .i64 r.atr.fr) (.slice ko1 r.atr.cl.length ck1) (.int .i64 r.cl) (.int .i64 r.er))
                    have BX := hide (put10_below Bv11.out SX.out (.bool r.pass) (.int .i64 r.atr.pf) (.int .i64 r.atr.md) (.int .i64 r.atr.og) (.slice po1 r.atr.path.length cp1) (.slice co1 r.atr.comms.length cc1) (.int .i64 r.atr.fr) (.slice ko1 r.atr.cl.length ck1) (.int .i64 r.cl) (.int .i64 r.er))
                    have OX : Hid (∀ b, b ≠ gx → (put10 v11 gx (.bool r.pass) (.int .i64 r.atr.pf) (.int .i64 r.atr.md) (.int .i64 r.atr.og) (.slice po1 r.atr.path.length cp1) (.slice co1 r.atr.comms.length cc1) (.int .i64 r.atr.fr) (.slice ko1 r.atr.cl.length ck1) (.int .i64 r.cl) (.int .i64 r.er)).heap[b]? = v11.heap[b]?) := fun b hb => put10_other _ _ _ _ _ _ _ _ _ _ _ _ b hb
                    refine hK.out _ _ BX.out (fun hHeld => ?_)
                    clear hK K p0 pf0 p1 pf1 p2 pf2 p3 pf3 p4 pf4 p5 pf5 p6 pf6 p7 pf7 p8 pf8 p9 pf9
                    generalize put10 v11 gx (.bool r.pass) (.int .i64 r.atr.pf) (.int .i64 r.atr.md) (.int .i64 r.atr.og) (.slice po1 r.atr.path.length cp1) (.slice co1 r.atr.comms.length cc1) (.int .i64 r.atr.fr) (.slice ko1 r.atr.cl.length ck1) (.int .i64 r.cl) (.int .i64 r.er) = q1 at *
                    have HY := hide ((OX.out gy (Ne.symm NX.out)).trans HY.out)
                    have LA := hide (lies_free LA.out.1 FXA.out OX.out)
                    have LB := hide (lies_free LB.out.1 FXB.out OX.out)
                    try simp only [Act.put, List.getElem_toArray, List.getElem_cons_zero, List.getElem_cons_succ, List.setIfInBounds_toArray, List.set_cons_zero, List.set_cons_succ]
                    refine wpAnyH_ready (rs := [17]) (by kernel_rfl) (by simp) ?_
                    refine AllReadyH.cons rfl (fun K hK => ?_) AllReadyH.nil
                    obtain ⟨p0, p1, p2, p3, p4, p5, p6, p7, p8, p9⟩ := cells10 HY.out
                    have pf0 := frozenG HY.out 0
                    have pf1 := frozenG HY.out 1
                    have pf2 := frozenG HY.out 2
                    have pf3 := frozenG HY.out 3
                    have pf4 := frozenG HY.out 4
                    have pf5 := frozenG HY.out 5
                    have pf6 := frozenG HY.out 6
                    have pf7 := frozenG HY.out 7
                    have pf8 := frozenG HY.out 8
                    have pf9 := frozenG HY.out 9
                    go_simp
                    change K _ (put10 q1 gy (.bool r.pass) (.int .i64 r.atr.pf) (.int .i64 r.atr.md) (.int .i64 r.atr.og) (.slice po2 r.atr.path.length cp2) (.slice co2 r.atr.comms.length cc2) (.int .i64 r.atr.fr) (.slice ko2 r.atr.cl.length ck2) (.int .i64 r.cl) (.int .i64 r.er))
                    have PY := hide (put10_same HY.out (.bool r.pass) (.int .i64 r.atr.pf) (.int .i64 r.atr.md) (.int .i64 r.atr.og) (.slice po2 r.atr.path.length cp2) (.slice co2 r.atr.comms.length cc2) (.int .i64 r.atr.fr) (.slice ko2 r.atr.cl.length ck2) (.int .i64 r.cl) (.int .i64 r.er))
                    have BY := hide (put10_below BX.out SY.out (.bool r.pass) (.int .i64 r.atr.pf) (.int .i64 r.atr.md) (.int .i64 r.atr.og) (.slice po2 r.atr.path.length cp2) (.slice co2 r.atr.comms.length cc2) (.int .i64 r.atr.fr) (.slice ko2 r.atr.cl.length ck2) (.int .i64 r.cl) (.int .i64 r.er))
                    have OY : Hid (∀ b, b ≠ gy → (put10 q1 gy (.bool r.pass) (.int .i64 r.atr.pf) (.int .i64 r.atr.md) (.int .i64 r.atr.og) (.slice po2 r.atr.path.length cp2) (.slice co2 r.atr.comms.length cc2) (.int .i64 r.atr.fr) (.slice ko2 r.atr.cl.length ck2) (.int .i64 r.cl) (.int .i64 r.er)).heap[b]? = q1.heap[b]?) := fun b hb => put10_other _ _ _ _ _ _ _ _ _ _ _ _ b hb
                    refine hK.out _ _ BY.out (fun hHeld => ?_)
                    clear hK K p0 pf0 p1 pf1 p2 pf2 p3 pf3 p4 pf4 p5 pf5 p6 pf6 p7 pf7 p8 pf8 p9 pf9
                    generalize put10 q1 gy (.bool r.pass) (.int .i64 r.atr.pf) (.int .i64 r.atr.md) (.int .i64 r.atr.og) (.slice po2 r.atr.path.length cp2) (.slice co2 r.atr.comms.length cc2) (.int .i64 r.atr.fr) (.slice ko2 r.atr.cl.length ck2) (.int .i64 r.cl) (.int .i64 r.er) = q2 at *
                    have PX := hide ((OY.out gx NX.out).trans PX.out)
                    have LA := hide (lies_free LA.out FYA.out OY.out)
                    have LB := hide (lies_free LB.out FYB.out OY.out)
                    try simp only [Act.put, List.getElem_toArray, List.getElem_cons_zero, List.getElem_cons_succ, List.setIfInBounds_toArray, List.set_cons_zero, List.set_cons_succ]
                    refine wpAnyH_done (by kernel_rfl) ?_ _
                    clear hHeld
                    go_wp2_with fail
                    go_meet
                    exact ⟨gx, gy, po1, co1, ko1, cp1, cc1, ck1, po2, co2, ko2, cp2, cc2, ck2, rfl, rfl, PX, PY, LA, LB, BY⟩
                ·
                  go_simp
                  have Av12 := hide (balloc (brefl v1) (.cells #[.bool false, .int .i64 0, .int .i64 0, .int .i64 0, .slice none 0 0, .slice none 0 0, .int .i64 0, .slice none 0 0, .int .i64 0, .int .i64 0] 52))
                  have HY := hide (heap_new v1 #[.bool false, .int .i64 0, .int .i64 0, .int .i64 0, .slice none 0 0, .slice none 0 0, .int .i64 0, .slice none 0 0, .int .i64 0, .int .i64 0] 52)
                  have Bv12 := hide (bthen Bv1.out Av12.out)
                  refine hK.out _ _ Bv12.out (fun hHeld => ?_)
                  clear hK K
                  try simp only [Act.put, List.getElem_toArray, List.getElem_cons_zero, List.getElem_cons_succ, List.setIfInBounds_toArray, List.set_cons_zero, List.set_cons_succ]
                  obtain ⟨gy, hgy⟩ : ∃ x, v1.heap.size = x := ⟨_, rfl⟩
                  have FYA := hide (free_old (LA.out.1) hgy)
                  have SY := hide (show wl.heap.size ≤ gy by have := Bv1.out.size; omega)
                  rw [hgy] at HY
                  try rw [hgy]
                  obtain ⟨v12, hv12⟩ : ∃ x, x = v1.alloc (.cells #[.bool false, .int .i64 0, .int .i64 0, .int .i64 0, .slice none 0 0, .slice none 0 0, .int .i64 0, .slice none 0 0, .int .i64 0, .int .i64 0] 52) := ⟨_, rfl⟩
                  rw [← hv12] at Av12 HY Bv12 hHeld
                  try rw [← hv12]
                  clear hv12 hgy Bv1
                  have LA := hide (mine_below LA.out Av12.out)
                  clear Av12
                  refine wpAnyH_ready (rs := [13, 14]) (by kernel_rfl) (by simp) ?_
                  refine AllReadyH.cons rfl (fun K hK => ?_) (AllReadyH.cons rfl (fun K hK => ?_) AllReadyH.nil)
                  ·
                    go_simp
                    go_wp2_with (refine (CRB.out v12 Bv12.out).mono ?_; rintro e v13 ⟨r2, po2, co2, ko2, cp2, cc2, ck2, rfl, hr2, hm2, _, hb2⟩)
                    obtain rfl := HRB.out r2 hr2
                    have Av13 := hide hb2
                    have LB := hide hm2
                    have Bv13 := hide (bthen Bv12.out hb2)
                    have FYB := hide (free_new hm2 (heap_lt HY.out))
                    clear hr2 hm2 hb2
                    refine hK.out _ _ Bv13.out (fun hHeld => ?_)
                    clear hK K
                    unfold RsV
                    try simp only [Act.put, List.getElem_toArray, List.getElem_cons_zero, List.getElem_cons_succ, List.setIfInBounds_toArray, List.set_cons_zero, List.set_cons_succ]
                    clear Bv12
                    have LA := hide (mine_below LA.out Av13.out)
                    have HY := hide ((Av13.out.block gy (heap_lt HY.out)).trans HY.out)
                    clear Av13
                    refine wpAnyH_ready (rs := [14]) (by kernel_rfl) (by simp) ?_
                    refine AllReadyH.cons rfl (fun K hK => ?_) AllReadyH.nil
                    go_simp
                    have Av14 := hide (balloc (brefl v13) (.cells #[.bool false, .int .i64 0, .int .i64 0, .int .i64 0, .slice none 0 0, .slice none 0 0, .int .i64 0, .slice none 0 0, .int .i64 0, .int .i64 0] 52))
                    have HX := hide (heap_new v13 #[.bool false, .int .i64 0, .int .i64 0, .int .i64 0, .slice none 0 0, .slice none 0 0, .int .i64 0, .slice none 0 0, .int .i64 0, .int .i64 0] 52)
                    have Bv14 := hide (bthen Bv13.out Av14.out)
                    refine hK.out _ _ Bv14.out (fun hHeld => ?_)
                    clear hK K
                    try simp only [Act.put, List.getElem_toArray, List.getElem_cons_zero, List.getElem_cons_succ, List.setIfInBounds_toArray, List.set_cons_zero, List.set_cons_succ]
                    obtain ⟨gx, hgx⟩ : ∃ x, v13.heap.size = x := ⟨_, rfl⟩
                    have FXA := hide (free_old (LA.out.1) hgx)
                    have FXB := hide (free_old (LB.out.1) hgx)
                    have NX := hide (show gx ≠ gy by have := heap_lt HY.out; omega)
                    have SX := hide (show wl.heap.size ≤ gx by have := Bv13.out.size; omega)
                    rw [hgx] at HX
                    try rw [hgx]
                    obtain ⟨v14, hv14⟩ : ∃ x, x = v13.alloc (.cells #[.bool false, .int .i64 0, .int .i64 0, .int .i64 0, .slice none 0 0, .slice none 0 0, .int .i64 0, .slice none 0 0, .int .i64 0, .int .i64 0] 52) := ⟨_, rfl⟩
                    rw [← hv14] at Av14 HX Bv14 hHeld
                    try rw [← hv14]
                    clear hv14 hgx Bv13
                    have LA := hide (mine_below LA.out Av14.out)
                    have HY := hide ((Av14.out.block gy (heap_lt HY.out)).trans HY.out)
                    have LB := hide (mine_below LB.out Av14.out)
                    clear Av14
                    refine wpAnyH_ready (rs := [16]) (by kernel_rfl) (by simp) ?_
                    refine AllReadyH.cons rfl (fun K hK => ?_) AllReadyH.nil
                    obtain ⟨p0, p1, p2, p3, p4, p5, p6, p7, p8, p9⟩ := cells10 HX.out
                    have pf0 := frozenG HX.out 0
                    have pf1 := frozenG HX.out 1
                    have pf2 := frozenG HX.out 2
                    have pf3 := frozenG HX.out 3
                    have pf4 := frozenG HX.out 4
                    have pf5 := frozenG HX.out 5
                    have pf6 := frozenG HX.out 6
                    have pf7 := frozenG HX.out 7
                    have pf8 := frozenG HX.out 8
                    have pf9 := frozenG HX.out 9
                    go_simp
                    change K _ (put10 v14 gx (.bool r.pass) (.int .i64 r.atr.pf) (.int .i64 r.atr.md) (.int .i64 r.atr.og) (.slice po1 r.atr.path.length cp1) (.slice co1 r.atr.comms.length cc1) (.int .i64 r.atr.fr) (.slice ko1 r.atr.cl.length ck1) (.int .i64 r.cl) (.int .i64 r.er))
                    have PX := hide (put10_same HX.out (.bool r.pass) (.int .i64 r.atr.pf) (.int .i64 r.atr.md) (.int .i64 r.atr.og) (.slice po1 r.atr.path.length cp1) (.slice co1 r.atr.comms.length cc1) (.int .i64 r.atr.fr) (.slice ko1 r.atr.cl.length ck1) (.int .i64 r.cl) (.int .i64 r.er))
                    have BX := hide (put10_below Bv14.out SX.out (.bool r.pass) (.int .i64 r.atr.pf) (.int .i64 r.atr.md) (.int .i64 r.atr.og) (.slice po1 r.atr.path.length cp1) (.slice co1 r.atr.comms.length cc1) (.int .i64 r.atr.fr) (.slice ko1 r.atr.cl.length ck1) (.int .i64 r.cl) (.int .i64 r.er))
                    have OX : Hid (∀ b, b ≠ gx → (put10 v14 gx (.bool r.pass) (.int .i64 r.atr.pf) (.int .i64 r.atr.md) (.int .i64 r.atr.og) (.slice po1 r.atr.path.length cp1) (.slice co1 r.atr.comms.length cc1) (.int .i64 r.atr.fr) (.slice ko1 r.atr.cl.length ck1) (.int .i64 r.cl) (.int .i64 r.er)).heap[b]? = v14.heap[b]?) := fun b hb => put10_other _ _ _ _ _ _ _ _ _ _ _ _ b hb
                    refine hK.out _ _ BX.out (fun hHeld => ?_)
                    clear hK K p0 pf0 p1 pf1 p2 pf2 p3 pf3 p4 pf4 p5 pf5 p6 pf6 p7 pf7 p8 pf8 p9 pf9
                    generalize put10 v14 gx (.bool r.pass) (.int .i64 r.atr.pf) (.int .i64 r.atr.md) (.int .i64 r.atr.og) (.slice po1 r.atr.path.length cp1) (.slice co1 r.atr.comms.length cc1) (.int .i64 r.atr.fr) (.slice ko1 r.atr.cl.length ck1) (.int .i64 r.cl) (.int .i64 r.er) = q1 at *
                    have HY := hide ((OX.out gy (Ne.symm NX.out)).trans HY.out)
                    have LA := hide (lies_free LA.out.1 FXA.out OX.out)
                    have LB := hide (lies_free LB.out.1 FXB.out OX.out)
                    try simp only [Act.put, List.getElem_toArray, List.getElem_cons_zero, List.getElem_cons_succ, List.setIfInBounds_toArray, List.set_cons_zero, List.set_cons_succ]
                    refine wpAnyH_ready (rs := [17]) (by kernel_rfl) (by simp) ?_
                    refine AllReadyH.cons rfl (fun K hK => ?_) AllReadyH.nil
                    obtain ⟨p0, p1, p2, p3, p4, p5, p6, p7, p8, p9⟩ := cells10 HY.out
                    have pf0 := frozenG HY.out 0
                    have pf1 := frozenG HY.out 1
                    have pf2 := frozenG HY.out 2
                    have pf3 := frozenG HY.out 3
                    have pf4 := frozenG HY.out 4
                    have pf5 := frozenG HY.out 5
                    have pf6 := frozenG HY.out 6
                    have pf7 := frozenG HY.out 7
                    have pf8 := frozenG HY.out 8
                    have pf9 := frozenG HY.out 9
                    go_simp
                    change K _ (put10 q1 gy (.bool r.pass) (.int .i64 r.atr.pf) (.int .i64 r.atr.md) (.int .i64 r.atr.og) (.slice po2 r.atr.path.length cp2) (.slice co2 r.atr.comms.length cc2) (.int .i64 r.atr.fr) (.slice ko2 r.atr.cl.length ck2) (.int .i64 r.cl) (.int .i64 r.er))
                    have PY := hide (put10_same HY.out (.bool r.pass) (.int .i64 r.atr.pf) (.int .i64 r.atr.md) (.int .i64 r.atr.og) (.slice po2 r.atr.path.length cp2) (.slice co2 r.atr.comms.length cc2) (.int .i64 r.atr.fr) (.slice ko2 r.atr.cl.length ck2) (.int .i64 r.cl) (.int .i64 r.er))
                    have BY := hide (put10_below BX.out SY.out (.bool r.pass) (.int .i64 r.atr.pf) (.int .i64 r.atr.md) (.int .i64 r.atr.og) (.slice po2 r.atr.path.length cp2) (.slice co2 r.atr.comms.length cc2) (.int .i64 r.atr.fr) (.slice ko2 r.atr.cl.length ck2) (.int .i64 r.cl) (.int .i64 r.er))
                    have OY : Hid (∀ b, b ≠ gy → (put10 q1 gy (.bool r.pass) (.int .i64 r.atr.pf) (.int .i64 r.atr.md) (.int .i64 r.atr.og) (.slice po2 r.atr.path.length cp2) (.slice co2 r.atr.comms.length cc2) (.int .i64 r.atr.fr) (.slice ko2 r.atr.cl.length ck2) (.int .i64 r.cl) (.int .i64 r.er)).heap[b]? = q1.heap[b]?) := fun b hb => put10_other _ _ _ _ _ _ _ _ _ _ _ _ b hb
                    refine hK.out _ _ BY.out (fun hHeld => ?_)
                    clear hK K p0 pf0 p1 pf1 p2 pf2 p3 pf3 p4 pf4 p5 pf5 p6 pf6 p7 pf7 p8 pf8 p9 pf9
                    generalize put10 q1 gy (.bool r.pass) (.int .i64 r.atr.pf) (.int .i64 r.atr.md) (.int .i64 r.atr.og) (.slice po2 r.atr.path.length cp2) (.slice co2 r.atr.comms.length cc2) (.int .i64 r.atr.fr) (.slice ko2 r.atr.cl.length ck2) (.int .i64 r.cl) (.int .i64 r.er) = q2 at *
                    have PX := hide ((OY.out gx NX.out).trans PX.out)
                    have LA := hide (lies_free LA.out FYA.out OY.out)
                    have LB := hide (lies_free LB.out FYB.out OY.out)
                    try simp only [Act.put, List.getElem_toArray, List.getElem_cons_zero, List.getElem_cons_succ, List.setIfInBounds_toArray, List.set_cons_zero, List.set_cons_succ]
                    refine wpAnyH_done (by kernel_rfl) ?_ _
                    clear hHeld
                    go_wp2_with fail
                    go_meet
                    exact ⟨gx, gy, po1, co1, ko1, cp1, cc1, ck1, po2, co2, ko2, cp2, cc2, ck2, rfl, rfl, PX, PY, LA, LB, BY⟩
                  ·
                    go_simp
                    have Av15 := hide (balloc (brefl v12) (.cells #[.bool false, .int .i64 0, .int .i64 0, .int .i64 0, .slice none 0 0, .slice none 0 0, .int .i64 0, .slice none 0 0, .int .i64 0, .int .i64 0] 52))
                    have HX := hide (heap_new v12 #[.bool false, .int .i64 0, .int .i64 0, .int .i64 0, .slice none 0 0, .slice none 0 0, .int .i64 0, .slice none 0 0, .int .i64 0, .int .i64 0] 52)
                    have Bv15 := hide (bthen Bv12.out Av15.out)
                    refine hK.out _ _ Bv15.out (fun hHeld => ?_)
                    clear hK K
                    try simp only [Act.put, List.getElem_toArray, List.getElem_cons_zero, List.getElem_cons_succ, List.setIfInBounds_toArray, List.set_cons_zero, List.set_cons_succ]
                    obtain ⟨gx, hgx⟩ : ∃ x, v12.heap.size = x := ⟨_, rfl⟩
                    have FXA := hide (free_old (LA.out.1) hgx)
                    have NX := hide (show gx ≠ gy by have := heap_lt HY.out; omega)
                    have SX := hide (show wl.heap.size ≤ gx by have := Bv12.out.size; omega)
                    rw [hgx] at HX
                    try rw [hgx]
                    obtain ⟨v15, hv15⟩ : ∃ x, x = v12.alloc (.cells #[.bool false, .int .i64 0, .int .i64 0, .int .i64 0, .slice none 0 0, .slice none 0 0, .int .i64 0, .slice none 0 0, .int .i64 0, .int .i64 0] 52) := ⟨_, rfl⟩
                    rw [← hv15] at Av15 HX Bv15 hHeld
                    try rw [← hv15]
                    clear hv15 hgx Bv12
                    have LA := hide (mine_below LA.out Av15.out)
                    have HY := hide ((Av15.out.block gy (heap_lt HY.out)).trans HY.out)
                    clear Av15
                    refine wpAnyH_ready (rs := [13]) (by kernel_rfl) (by simp) ?_
                    refine AllReadyH.cons rfl (fun K hK => ?_) AllReadyH.nil
                    go_simp
                    go_wp2_with (refine (CRB.out v15 Bv15.out).mono ?_; rintro e v16 ⟨r2, po2, co2, ko2, cp2, cc2, ck2, rfl, hr2, hm2, _, hb2⟩)
                    obtain rfl := HRB.out r2 hr2
                    have Av16 := hide hb2
                    have LB := hide hm2
                    have Bv16 := hide (bthen Bv15.out hb2)
                    have FXB := hide (free_new hm2 (heap_lt HX.out))
                    have FYB := hide (free_new hm2 (heap_lt HY.out))
                    clear hr2 hm2 hb2
                    refine hK.out _ _ Bv16.out (fun hHeld => ?_)
                    clear hK K
                    unfold RsV
                    try simp only [Act.put, List.getElem_toArray, List.getElem_cons_zero, List.getElem_cons_succ, List.setIfInBounds_toArray, List.set_cons_zero, List.set_cons_succ]
                    clear Bv15
                    have LA := hide (mine_below LA.out Av16.out)
                    have HY := hide ((Av16.out.block gy (heap_lt HY.out)).trans HY.out)
                    have HX := hide ((Av16.out.block gx (heap_lt HX.out)).trans HX.out)
                    clear Av16
                    refine wpAnyH_ready (rs := [16]) (by kernel_rfl) (by simp) ?_
                    refine AllReadyH.cons rfl (fun K hK => ?_) AllReadyH.nil
                    obtain ⟨p0, p1, p2, p3, p4, p5, p6, p7, p8, p9⟩ := cells10 HX.out
                    have pf0 := frozenG HX.out 0
                    have pf1 := frozenG HX.out 1
                    have pf2 := frozenG HX.out 2
                    have pf3 := frozenG HX.out 3
                    have pf4 := frozenG HX.out 4
                    have pf5 := frozenG HX.out 5
                    have pf6 := frozenG HX.out 6
                    have pf7 := frozenG HX.out 7
                    have pf8 := frozenG HX.out 8
                    have pf9 := frozenG HX.out 9
                    go_simp
                    change K _ (put10 v16 gx (.bool r.pass) (.int .i64 r.atr.pf) (.int .i64 r.atr.md) (.int .i64 r.atr.og) (.slice po1 r.atr.path.length cp1) (.slice co1 r.atr.comms.length cc1) (.int .i64 r.atr.fr) (.slice ko1 r.atr.cl.length ck1) (.int .i64 r.cl) (.int .i64 r.er))
                    have PX := hide (put10_same HX.out (.bool r.pass) (.int .i64 r.atr.pf) (.int .i64 r.atr.md) (.int .i64 r.atr.og) (.slice po1 r.atr.path.length cp1) (.slice co1 r.atr.comms.length cc1) (.int .i64 r.atr.fr) (.slice ko1 r.atr.cl.length ck1) (.int .i64 r.cl) (.int .i64 r.er))
                    have BX := hide (put10_below Bv16.out SX.out (.bool r.pass) (.int .i64 r.atr.pf) (.int .i64 r.atr.md) (.int .i64 r.atr.og) (.slice po1 r.atr.path.length cp1) (.slice co1 r.atr.comms.length cc1) (.int .i64 r.atr.fr) (.slice ko1 r.atr.cl.length ck1) (.int .i64 r.cl) (.int .i64 r.er))
                    have OX : Hid (∀ b, b ≠ gx → (put10 v16 gx (.bool r.pass) (.int .i64 r.atr.pf) (.int .i64 r.atr.md) (.int .i64 r.atr.og) (.slice po1 r.atr.path.length cp1) (.slice co1 r.atr.comms.length cc1) (.int .i64 r.atr.fr) (.slice ko1 r.atr.cl.length ck1) (.int .i64 r.cl) (.int .i64 r.er)).heap[b]? = v16.heap[b]?) := fun b hb => put10_other _ _ _ _ _ _ _ _ _ _ _ _ b hb
                    refine hK.out _ _ BX.out (fun hHeld => ?_)
                    clear hK K p0 pf0 p1 pf1 p2 pf2 p3 pf3 p4 pf4 p5 pf5 p6 pf6 p7 pf7 p8 pf8 p9 pf9
                    generalize put10 v16 gx (.bool r.pass) (.int .i64 r.atr.pf) (.int .i64 r.atr.md) (.int .i64 r.atr.og) (.slice po1 r.atr.path.length cp1) (.slice co1 r.atr.comms.length cc1) (.int .i64 r.atr.fr) (.slice ko1 r.atr.cl.length ck1) (.int .i64 r.cl) (.int .i64 r.er) = q1 at *
                    have HY := hide ((OX.out gy (Ne.symm NX.out)).trans HY.out)
                    have LA := hide (lies_free LA.out.1 FXA.out OX.out)
                    have LB := hide (lies_free LB.out.1 FXB.out OX.out)
                    try simp only [Act.put, List.getElem_toArray, List.getElem_cons_zero, List.getElem_cons_succ, List.setIfInBounds_toArray, List.set_cons_zero, List.set_cons_succ]
                    refine wpAnyH_ready (rs := [17]) (by kernel_rfl) (by simp) ?_
                    refine AllReadyH.cons rfl (fun K hK => ?_) AllReadyH.nil
                    obtain ⟨p0, p1, p2, p3, p4, p5, p6, p7, p8, p9⟩ := cells10 HY.out
                    have pf0 := frozenG HY.out 0
                    have pf1 := frozenG HY.out 1
                    have pf2 := frozenG HY.out 2
                    have pf3 := frozenG HY.out 3
                    have pf4 := frozenG HY.out 4
                    have pf5 := frozenG HY.out 5
                    have pf6 := frozenG HY.out 6
                    have pf7 := frozenG HY.out 7
                    have pf8 := frozenG HY.out 8
                    have pf9 := frozenG HY.out 9
                    go_simp
                    change K _ (put10 q1 gy (.bool r.pass) (.int .i64 r.atr.pf) (.int .i64 r.atr.md) (.int .i64 r.atr.og) (.slice po2 r.atr.path.length cp2) (.slice co2 r.atr.comms.length cc2) (.int .i64 r.atr.fr) (.slice ko2 r.atr.cl.length ck2) (.int .i64 r.cl) (.int .i64 r.er))
                    have PY := hide (put10_same HY.out (.bool r.pass) (.int .i64 r.atr.pf) (.int .i64 r.atr.md) (.int .i64 r.atr.og) (.slice po2 r.atr.path.length cp2) (.slice co2 r.atr.comms.length cc2) (.int .i64 r.atr.fr) (.slice ko2 r.atr.cl.length ck2) (.int .i64 r.cl) (.int .i64 r.er))
                    have BY := hide (put10_below BX.out SY.out (.bool r.pass) (.int .i64 r.atr.pf) (.int .i64 r.atr.md) (.int .i64 r.atr.og) (.slice po2 r.atr.path.length cp2) (.slice co2 r.atr.comms.length cc2) (.int .i64 r.atr.fr) (.slice ko2 r.atr.cl.length ck2) (.int .i64 r.cl) (.int .i64 r.er))
                    have OY : Hid (∀ b, b ≠ gy → (put10 q1 gy (.bool r.pass) (.int .i64 r.atr.pf) (.int .i64 r.atr.md) (.int .i64 r.atr.og) (.slice po2 r.atr.path.length cp2) (.slice co2 r.atr.comms.length cc2) (.int .i64 r.atr.fr) (.slice ko2 r.atr.cl.length ck2) (.int .i64 r.cl) (.int .i64 r.er)).heap[b]? = q1.heap[b]?) := fun b hb => put10_other _ _ _ _ _ _ _ _ _ _ _ _ b hb
                    refine hK.out _ _ BY.out (fun hHeld => ?_)
                    clear hK K p0 pf0 p1 pf1 p2 pf2 p3 pf3 p4 pf4 p5 pf5 p6 pf6 p7 pf7 p8 pf8 p9 pf9
                    generalize put10 q1 gy (.bool r.pass) (.int .i64 r.atr.pf) (.int .i64 r.atr.md) (.int .i64 r.atr.og) (.slice po2 r.atr.path.length cp2) (.slice co2 r.atr.comms.length cc2) (.int .i64 r.atr.fr) (.slice ko2 r.atr.cl.length ck2) (.int .i64 r.cl) (.int .i64 r.er) = q2 at *
                    have PX := hide ((OY.out gx NX.out).trans PX.out)
                    have LA := hide (lies_free LA.out FYA.out OY.out)
                    have LB := hide (lies_free LB.out FYB.out OY.out)
                    try simp only [Act.put, List.getElem_toArray, List.getElem_cons_zero, List.getElem_cons_succ, List.setIfInBounds_toArray, List.set_cons_zero, List.set_cons_succ]
                    refine wpAnyH_done (by kernel_rfl) ?_ _
                    clear hHeld
                    go_wp2_with fail
                    go_meet
                    exact ⟨gx, gy, po1, co1, ko1, cp1, cc1, ck1, po2, co2, ko2, cp2, cc2, ck2, rfl, rfl, PX, PY, LA, LB, BY⟩
              ·
                go_simp
                have Av17 := hide (balloc (brefl v0) (.cells #[.bool false, .int .i64 0, .int .i64 0, .int .i64 0, .slice none 0 0, .slice none 0 0, .int .i64 0, .slice none 0 0, .int .i64 0, .int .i64 0] 52))
                have HX := hide (heap_new v0 #[.bool false, .int .i64 0, .int .i64 0, .int .i64 0, .slice none 0 0, .slice none 0 0, .int .i64 0, .slice none 0 0, .int .i64 0, .int .i64 0] 52)
                have Bv17 := hide (bthen Bv0.out Av17.out)
                refine hK.out _ _ Bv17.out (fun hHeld => ?_)
                clear hK K
                try simp only [Act.put, List.getElem_toArray, List.getElem_cons_zero, List.getElem_cons_succ, List.setIfInBounds_toArray, List.set_cons_zero, List.set_cons_succ]
                obtain ⟨gx, hgx⟩ : ∃ x, v0.heap.size = x := ⟨_, rfl⟩
                have SX := hide (show wl.heap.size ≤ gx by have := Bv0.out.size; omega)
                rw [hgx] at HX
                try rw [hgx]
                obtain ⟨v17, hv17⟩ : ∃ x, x = v0.alloc (.cells #[.bool false, .int .i64 0, .int .i64 0, .int .i64 0, .slice none 0 0, .slice none 0 0, .int .i64 0, .slice none 0 0, .int .i64 0, .int .i64 0] 52) := ⟨_, rfl⟩
                rw [← hv17] at Av17 HX Bv17 hHeld
                try rw [← hv17]
                clear hv17 hgx Bv0
                clear Av17
                refine wpAnyH_ready (rs := [6, 15]) (by kernel_rfl) (by simp) ?_
                refine AllReadyH.cons rfl (fun K hK => ?_) (AllReadyH.cons rfl (fun K hK => ?_) AllReadyH.nil)
                ·
                  go_simp
                  go_wp2_with (refine (CRA.out v17 Bv17.out).mono ?_; rintro e v18 ⟨r1, po1, co1, ko1, cp1, cc1, ck1, rfl, hr1, hm1, _, hb1⟩)
                  obtain rfl := HRA.out r1 hr1
                  have Av18 := hide hb1
                  have LA := hide hm1
                  have Bv18 := hide (bthen Bv17.out hb1)
                  have FXA := hide (free_new hm1 (heap_lt HX.out))
                  clear hr1 hm1 hb1
                  refine hK.out _ _ Bv18.out (fun hHeld => ?_)
                  clear hK K
                  unfold RsV
                  try simp only [Act.put, List.getElem_toArray, List.getElem_cons_zero, List.getElem_cons_succ, List.setIfInBounds_toArray, List.set_cons_zero, List.set_cons_succ]
                  clear Bv17
                  have HX := hide ((Av18.out.block gx (heap_lt HX.out)).trans HX.out)
                  clear Av18
                  refine wpAnyH_ready (rs := [13, 15]) (by kernel_rfl) (by simp) ?_
                  refine AllReadyH.cons rfl (fun K hK => ?_) (AllReadyH.cons rfl (fun K hK => ?_) AllReadyH.nil)
                  ·
                    go_simp
                    go_wp2_with (refine (CRB.out v18 Bv18.out).mono ?_; rintro e v19 ⟨r2, po2, co2, ko2, cp2, cc2, ck2, rfl, hr2, hm2, _, hb2⟩)
                    obtain rfl := HRB.out r2 hr2
                    have Av19 := hide hb2
                    have LB := hide hm2
                    have Bv19 := hide (bthen Bv18.out hb2)
                    have FXB := hide (free_new hm2 (heap_lt HX.out))
                    clear hr2 hm2 hb2
                    refine hK.out _ _ Bv19.out (fun hHeld => ?_)
                    clear hK K
                    unfold RsV
                    try simp only [Act.put, List.getElem_toArray, List.getElem_cons_zero, List.getElem_cons_succ, List.setIfInBounds_toArray, List.set_cons_zero, List.set_cons_succ]
                    clear Bv18
                    have HX := hide ((Av19.out.block gx (heap_lt HX.out)).trans HX.out)
                    have LA := hide (mine_below LA.out Av19.out)
                    clear Av19
                    refine wpAnyH_ready (rs := [15]) (by kernel_rfl) (by simp) ?_
                    refine AllReadyH.cons rfl (fun K hK => ?_) AllReadyH.nil
                    go_simp
                    have Av20 := hide (balloc (brefl v19) (.cells #[.bool false, .int .i64 0, .int .i64 0, .int .i64 0, .slice none 0 0, .slice none 0 0, .int .i64 0, .slice none 0 0, .int .i64 0, .int .i64 0] 52))
                    have HY := hide (heap_new v19 #[.bool false, .int .i64 0, .int .i64 0, .int .i64 0, .slice none 0 0, .slice none 0 0, .int .i64 0, .slice none 0 0, .int .i64 0, .int .i64 0] 52)
                    have Bv20 := hide (bthen Bv19.out Av20.out)
                    refine hK.out _ _ Bv20.out (fun hHeld => ?_)
                    clear hK K
                    try simp only [Act.put, List.getElem_toArray, List.getElem_cons_zero, List.getElem_cons_succ, List.setIfInBounds_toArray, List.set_cons_zero, List.set_cons_succ]
                    obtain ⟨gy, hgy⟩ : ∃ x, v19.heap.size = x := ⟨_, rfl⟩
                    have FYA := hide (free_old (LA.out.1) hgy)
                    have FYB := hide (free_old (LB.out.1) hgy)
                    have NX := hide (show gx ≠ gy by have := heap_lt HX.out; omega)
                    have SY := hide (show wl.heap.size ≤ gy by have := Bv19.out.size; omega)
                    rw [hgy] at HY
                    try rw [hgy]
                    obtain ⟨v20, hv20⟩ : ∃ x, x = v19.alloc (.cells #[.bool false, .int .i64 0, .int .i64 0, .int .i64 0, .slice none 0 0, .slice none 0 0, .int .i64 0, .slice none 0 0, .int .i64 0, .int .i64 0] 52) := ⟨_, rfl⟩
                    rw [← hv20] at Av20 HY Bv20 hHeld
                    try rw [← hv20]
                    clear hv20 hgy Bv19
                    have HX := hide ((Av20.out.block gx (heap_lt HX.out)).trans HX.out)
                    have LA := hide (mine_below LA.out Av20.out)
                    have LB := hide (mine_below LB.out Av20.out)
                    clear Av20
                    refine wpAnyH_ready (rs := [16]) (by kernel_rfl) (by simp) ?_
                    refine AllReadyH.cons rfl (fun K hK => ?_) AllReadyH.nil
                    obtain ⟨p0, p1, p2, p3, p4, p5, p6, p7, p8, p9⟩ := cells10 HX.out
                    have pf0 := frozenG HX.out 0
                    have pf1 := frozenG HX.out 1
                    have pf2 := frozenG HX.out 2
                    have pf3 := frozenG HX.out 3
                    have pf4 := frozenG HX.out 4
                    have pf5 := frozenG HX.out 5
                    have pf6 := frozenG HX.out 6
                    have pf7 := frozenG HX.out 7
                    have pf8 := frozenG HX.out 8
                    have pf9 := frozenG HX.out 9
                    go_simp
                    change K _ (put10 v20 gx (.bool r.pass) (.int .i64 r.atr.pf) (.int .i64 r.atr.md) (.int .i64 r.atr.og) (.slice po1 r.atr.path.length cp1) (.slice co1 r.atr.comms.length cc1) (.int .i64 r.atr.fr) (.slice ko1 r.atr.cl.length ck1) (.int .i64 r.cl) (.int .i64 r.er))
                    have PX := hide (put10_same HX.out (.bool r.pass) (.int .i64 r.atr.pf) (.int .i64 r.atr.md) (.int .i64 r.atr.og) (.slice po1 r.atr.path.length cp1) (.slice co1 r.atr.comms.length cc1) (.int .i64 r.atr.fr) (.slice ko1 r.atr.cl.length ck1) (.int .i64 r.cl) (.int .i64 r.er))
                    have BX := hide (put10_below Bv20.out SX.out (.bool r.pass) (.int .i64 r.atr.pf) (.int .i64 r.atr.md) (.int .i64 r.atr.og) (.slice po1 r.atr.path.length cp1) (.slice co1 r.atr.comms.length cc1) (.int .i64 r.atr.fr) (.slice ko1 r.atr.cl.length ck1) (.int .i64 r.cl) (.int .i64 r.er))
                    have OX : Hid (∀ b, b ≠ gx → (put10 v20 gx (.bool r.pass) (.int .i64 r.atr.pf) (.int .i64 r.atr.md) (.int .i64 r.atr.og) (.slice po1 r.atr.path.length cp1) (.slice co1 r.atr.comms.length cc1) (.int .i64 r.atr.fr) (.slice ko1 r.atr.cl.length ck1) (.int .i64 r.cl) (.int .i64 r.er)).heap[b]? = v20.heap[b]?) := fun b hb => put10_other _ _ _ _ _ _ _ _ _ _ _ _ b hb
                    refine hK.out _ _ BX.out (fun hHeld => ?_)
                    clear hK K p0 pf0 p1 pf1 p2 pf2 p3 pf3 p4 pf4 p5 pf5 p6 pf6 p7 pf7 p8 pf8 p9 pf9
                    generalize put10 v20 gx (.bool r.pass) (.int .i64 r.atr.pf) (.int .i64 r.atr.md) (.int .i64 r.atr.og) (.slice po1 r.atr.path.length cp1) (.slice co1 r.atr.comms.length cc1) (.int .i64 r.atr.fr) (.slice ko1 r.atr.cl.length ck1) (.int .i64 r.cl) (.int .i64 r.er) = q1 at *
                    have HY := hide ((OX.out gy (Ne.symm NX.out)).trans HY.out)
                    have LA := hide (lies_free LA.out.1 FXA.out OX.out)
                    have LB := hide (lies_free LB.out.1 FXB.out OX.out)
                    try simp only [Act.put, List.getElem_toArray, List.getElem_cons_zero, List.getElem_cons_succ, List.setIfInBounds_toArray, List.set_cons_zero, List.set_cons_succ]
                    refine wpAnyH_ready (rs := [17]) (by kernel_rfl) (by simp) ?_
                    refine AllReadyH.cons rfl (fun K hK => ?_) AllReadyH.nil
                    obtain ⟨p0, p1, p2, p3, p4, p5, p6, p7, p8, p9⟩ := cells10 HY.out
                    have pf0 := frozenG HY.out 0
                    have pf1 := frozenG HY.out 1
                    have pf2 := frozenG HY.out 2
                    have pf3 := frozenG HY.out 3
                    have pf4 := frozenG HY.out 4
                    have pf5 := frozenG HY.out 5
                    have pf6 := frozenG HY.out 6
                    have pf7 := frozenG HY.out 7
                    have pf8 := frozenG HY.out 8
                    have pf9 := frozenG HY.out 9
                    go_simp
                    change K _ (put10 q1 gy (.bool r.pass) (.int .i64 r.atr.pf) (.int .i64 r.atr.md) (.int .i64 r.atr.og) (.slice po2 r.atr.path.length cp2) (.slice co2 r.atr.comms.length cc2) (.int .i64 r.atr.fr) (.slice ko2 r.atr.cl.length ck2) (.int .i64 r.cl) (.int .i64 r.er))
                    have PY := hide (put10_same HY.out (.bool r.pass) (.int .i64 r.atr.pf) (.int .i64 r.atr.md) (.int .i64 r.atr.og) (.slice po2 r.atr.path.length cp2) (.slice co2 r.atr.comms.length cc2) (.int .i64 r.atr.fr) (.slice ko2 r.atr.cl.length ck2) (.int .i64 r.cl) (.int .i64 r.er))
                    have BY := hide (put10_below BX.out SY.out (.bool r.pass) (.int .i64 r.atr.pf) (.int .i64 r.atr.md) (.int .i64 r.atr.og) (.slice po2 r.atr.path.length cp2) (.slice co2 r.atr.comms.length cc2) (.int .i64 r.atr.fr) (.slice ko2 r.atr.cl.length ck2) (.int .i64 r.cl) (.int .i64 r.er))
                    have OY : Hid (∀ b, b ≠ gy → (put10 q1 gy (.bool r.pass) (.int .i64 r.atr.pf) (.int .i64 r.atr.md) (.int .i64 r.atr.og) (.slice po2 r.atr.path.length cp2) (.slice co2 r.atr.comms.length cc2) (.int .i64 r.atr.fr) (.slice ko2 r.atr.cl.length ck2) (.int .i64 r.cl) (.int .i64 r.er)).heap[b]? = q1.heap[b]?) := fun b hb => put10_other _ _ _ _ _ _ _ _ _ _ _ _ b hb
                    refine hK.out _ _ BY.out (fun hHeld => ?_)
                    clear hK K p0 pf0 p1 pf1 p2 pf2 p3 pf3 p4 pf4 p5 pf5 p6 pf6 p7 pf7 p8 pf8 p9 pf9
                    generalize put10 q1 gy (.bool r.pass) (.int .i64 r.atr.pf) (.int .i64 r.atr.md) (.int .i64 r.atr.og) (.slice po2 r.atr.path.length cp2) (.slice co2 r.atr.comms.length cc2) (.int .i64 r.atr.fr) (.slice ko2 r.atr.cl.length ck2) (.int .i64 r.cl) (.int .i64 r.er) = q2 at *
                    have PX := hide ((OY.out gx NX.out).trans PX.out)
                    have LA := hide (lies_free LA.out FYA.out OY.out)
                    have LB := hide (lies_free LB.out FYB.out OY.out)
                    try simp only [Act.put, List.getElem_toArray, List.getElem_cons_zero, List.getElem_cons_succ, List.setIfInBounds_toArray, List.set_cons_zero, List.set_cons_succ]
                    refine wpAnyH_done (by kernel_rfl) ?_ _
                    clear hHeld
                    go_wp2_with fail
                    go_meet
                    exact ⟨gx, gy, po1, co1, ko1, cp1, cc1, ck1, po2, co2, ko2, cp2, cc2, ck2, rfl, rfl, PX, PY, LA, LB, BY⟩
                  ·
                    go_simp
                    have Av21 := hide (balloc (brefl v18) (.cells #[.bool false, .int .i64 0, .int .i64 0, .int .i64 0, .slice none 0 0, .slice none 0 0, .int .i64 0, .slice none 0 0, .int .i64 0, .int .i64 0] 52))
                    have HY := hide (heap_new v18 #[.bool false, .int .i64 0, .int .i64 0, .int .i64 0, .slice none 0 0, .slice none 0 0, .int .i64 0, .slice none 0 0, .int .i64 0, .int .i64 0] 52)
                    have Bv21 := hide (bthen Bv18.out Av21.out)
                    refine hK.out _ _ Bv21.out (fun hHeld => ?_)
                    clear hK K
                    try simp only [Act.put, List.getElem_toArray, List.getElem_cons_zero, List.getElem_cons_succ, List.setIfInBounds_toArray, List.set_cons_zero, List.set_cons_succ]
                    obtain ⟨gy, hgy⟩ : ∃ x, v18.heap.size = x := ⟨_, rfl⟩
                    have FYA := hide (free_old (LA.out.1) hgy)
                    have NX := hide (show gx ≠ gy by have := heap_lt HX.out; omega)
                    have SY := hide (show wl.heap.size ≤ gy by have := Bv18.out.size; omega)
                    rw [hgy] at HY
                    try rw [hgy]
                    obtain ⟨v21, hv21⟩ : ∃ x, x = v18.alloc (.cells #[.bool false, .int .i64 0, .int .i64 0, .int .i64 0, .slice none 0 0, .slice none 0 0, .int .i64 0, .slice none 0 0, .int .i64 0, .int .i64 0] 52) := ⟨_, rfl⟩
                    rw [← hv21] at Av21 HY Bv21 hHeld
                    try rw [← hv21]
                    clear hv21 hgy Bv18
                    have HX := hide ((Av21.out.block gx (heap_lt HX.out)).trans HX.out)
                    have LA := hide (mine_below LA.out Av21.out)
                    clear Av21
                    refine wpAnyH_ready (rs := [13]) (by kernel_rfl) (by simp) ?_
                    refine AllReadyH.cons rfl (fun K hK => ?_) AllReadyH.nil
                    go_simp
                    go_wp2_with (refine (CRB.out v21 Bv21.out).mono ?_; rintro e v22 ⟨r2, po2, co2, ko2, cp2, cc2, ck2, rfl, hr2, hm2, _, hb2⟩)
                    obtain rfl := HRB.out r2 hr2
                    have Av22 := hide hb2
                    have LB := hide hm2
                    have Bv22 := hide (bthen Bv21.out hb2)
                    have FXB := hide (free_new hm2 (heap_lt HX.out))
                    have FYB := hide (free_new hm2 (heap_lt HY.out))
                    clear hr2 hm2 hb2
                    refine hK.out _ _ Bv22.out (fun hHeld => ?_)
                    clear hK K
                    unfold RsV
                    try simp only [Act.put, List.getElem_toArray, List.getElem_cons_zero, List.getElem_cons_succ, List.setIfInBounds_toArray, List.set_cons_zero, List.set_cons_succ]
                    clear Bv21
                    have HX := hide ((Av22.out.block gx (heap_lt HX.out)).trans HX.out)
                    have LA := hide (mine_below LA.out Av22.out)
                    have HY := hide ((Av22.out.block gy (heap_lt HY.out)).trans HY.out)
                    clear Av22
                    refine wpAnyH_ready (rs := [16]) (by kernel_rfl) (by simp) ?_
                    refine AllReadyH.cons rfl (fun K hK => ?_) AllReadyH.nil
                    obtain ⟨p0, p1, p2, p3, p4, p5, p6, p7, p8, p9⟩ := cells10 HX.out
                    have pf0 := frozenG HX.out 0
                    have pf1 := frozenG HX.out 1
                    have pf2 := frozenG HX.out 2
                    have pf3 := frozenG HX.out 3
                    have pf4 := frozenG HX.out 4
                    have pf5 := frozenG HX.out 5
                    have pf6 := frozenG HX.out 6
                    have pf7 := frozenG HX.out 7
                    have pf8 := frozenG HX.out 8
                    have pf9 := frozenG HX.out 9
                    go_simp
                    change K _ (put10 v22 gx (.bool r.pass) (.int .i64 r.atr.pf) (.int .i64 r.atr.md) (.int .i64 r.atr.og) (.slice po1 r.atr.path.length cp1) (.slice co1 r.atr.comms.length cc1) (.int .i64 r.atr.fr) (.slice ko1 r.atr.cl.length ck1) (.int .i64 r.cl) (.int .i64 r.er))
                    have PX := hide (put10_same HX.out (.bool r.pass) (.int .i64 r.atr.pf) (.int .i64 r.atr.md) (.int .i64 r.atr.og) (.slice po1 r.atr.path.length cp1) (.slice co1 r.atr.comms.length cc1) (.int .i64 r.atr.fr) (.slice ko1 r.atr.cl.length ck1) (.int .i64 r.cl) (.int .i64 r.er))
                    have BX := hide (put10_below Bv22.out SX.out (.bool r.pass) (.int .i64 r.atr.pf) (.int .i64 r.atr.md) (.int .i64 r.atr.og) (.slice po1 r.atr.path.length cp1) (.slice co1 r.atr.comms.length cc1) (.int .i64 r.atr.fr) (.slice ko1 r.atr.cl.length ck1) (.int .i64 r.cl) (.int .i64 r.er))
                    have OX : Hid (∀ b, b ≠ gx → (put10 v22 gx (.bool r.pass) (.int .i64 r.atr.pf) (.int .i64 r.atr.md) (.int .i64 r.atr.og) (.slice po1 r.atr.path.length cp1) (.slice co1 r.atr.comms.length cc1) (.int .i64 r.atr.fr) (.slice ko1 r.atr.cl.length ck1) (.int .i64 r.cl) (.int .i64 r.er)).heap[b]? = v22.heap[b]?) := fun b hb => put10_other _ _ _ _ _ _ _ _ _ _ _ _ b hb
                    refine hK.out _ _ BX.out (fun hHeld => ?_)
                    clear hK K p0 pf0 p1 pf1 p2 pf2 p3 pf3 p4 pf4 p5 pf5 p6 pf6 p7 pf7 p8 pf8 p9 pf9
                    generalize put10 v22 gx (.bool r.pass) (.int .i64 r.atr.pf) (.int .i64 r.atr.md) (.int .i64 r.atr.og) (.slice po1 r.atr.path.length cp1) (.slice co1 r.atr.comms.length cc1) (.int .i64 r.atr.fr) (.slice ko1 r.atr.cl.length ck1) (.int .i64 r.cl) (.int .i64 r.er) = q1 at *
                    have HY := hide ((OX.out gy (Ne.symm NX.out)).trans HY.out)
                    have LA := hide (lies_free LA.out.1 FXA.out OX.out)
                    have LB := hide (lies_free LB.out.1 FXB.out OX.out)
                    try simp only [Act.put, List.getElem_toArray, List.getElem_cons_zero, List.getElem_cons_succ, List.setIfInBounds_toArray, List.set_cons_zero, List.set_cons_succ]
                    refine wpAnyH_ready (rs := [17]) (by kernel_rfl) (by simp) ?_
                    refine AllReadyH.cons rfl (fun K hK => ?_) AllReadyH.nil
                    obtain ⟨p0, p1, p2, p3, p4, p5, p6, p7, p8, p9⟩ := cells10 HY.out
                    have pf0 := frozenG HY.out 0
                    have pf1 := frozenG HY.out 1
                    have pf2 := frozenG HY.out 2
                    have pf3 := frozenG HY.out 3
                    have pf4 := frozenG HY.out 4
                    have pf5 := frozenG HY.out 5
                    have pf6 := frozenG HY.out 6
                    have pf7 := frozenG HY.out 7
                    have pf8 := frozenG HY.out 8
                    have pf9 := frozenG HY.out 9
                    go_simp
                    change K _ (put10 q1 gy (.bool r.pass) (.int .i64 r.atr.pf) (.int .i64 r.atr.md) (.int .i64 r.atr.og) (.slice po2 r.atr.path.length cp2) (.slice co2 r.atr.comms.length cc2) (.int .i64 r.atr.fr) (.slice ko2 r.atr.cl.length ck2) (.int .i64 r.cl) (.int .i64 r.er))
                    have PY := hide (put10_same HY.out (.bool r.pass) (.int .i64 r.atr.pf) (.int .i64 r.atr.md) (.int .i64 r.atr.og) (.slice po2 r.atr.path.length cp2) (.slice co2 r.atr.comms.length cc2) (.int .i64 r.atr.fr) (.slice ko2 r.atr.cl.length ck2) (.int .i64 r.cl) (.int .i64 r.er))
                    have BY := hide (put10_below BX.out SY.out (.bool r.pass) (.int .i64 r.atr.pf) (.int .i64 r.atr.md) (.int .i64 r.atr.og) (.slice po2 r.atr.path.length cp2) (.slice co2 r.atr.comms.length cc2) (.int .i64 r.atr.fr) (.slice ko2 r.atr.cl.length ck2) (.int .i64 r.cl) (.int .i64 r.er))
                    have OY : Hid (∀ b, b ≠ gy → (put10 q1 gy (.bool r.pass) (.int .i64 r.atr.pf) (.int .i64 r.atr.md) (.int .i64 r.atr.og) (.slice po2 r.atr.path.length cp2) (.slice co2 r.atr.comms.length cc2) (.int .i64 r.atr.fr) (.slice ko2 r.atr.cl.length ck2) (.int .i64 r.cl) (.int .i64 r.er)).heap[b]? = q1.heap[b]?) := fun b hb => put10_other _ _ _ _ _ _ _ _ _ _ _ _ b hb
                    refine hK.out _ _ BY.out (fun hHeld => ?_)
                    clear hK K p0 pf0 p1 pf1 p2 pf2 p3 pf3 p4 pf4 p5 pf5 p6 pf6 p7 pf7 p8 pf8 p9 pf9
                    generalize put10 q1 gy (.bool r.pass) (.int .i64 r.atr.pf) (.int .i64 r.atr.md) (.int .i64 r.atr.og) (.slice po2 r.atr.path.length cp2) (.slice co2 r.atr.comms.length cc2) (.int .i64 r.atr.fr) (.slice ko2 r.atr.cl.length ck2) (.int .i64 r.cl) (.int .i64 r.er) = q2 at *
                    have PX := hide ((OY.out gx NX.out).trans PX.out)
                    have LA := hide (lies_free LA.out FYA.out OY.out)
                    have LB := hide (lies_free LB.out FYB.out OY.out)
                    try simp only [Act.put, List.getElem_toArray, List.getElem_cons_zero, List.getElem_cons_succ, List.setIfInBounds_toArray, List.set_cons_zero, List.set_cons_succ]
                    refine wpAnyH_done (by kernel_rfl) ?_ _
                    clear hHeld
                    go_wp2_with fail
                    go_meet
                    exact ⟨gx, gy, po1, co1, ko1, cp1, cc1, ck1, po2, co2, ko2, cp2, cc2, ck2, rfl, rfl, PX, PY, LA, LB, BY⟩
                ·
                  go_simp
                  have Av23 := hide (balloc (brefl v17) (.cells #[.bool false, .int .i64 0, .int .i64 0, .int .i64 0, .slice none 0 0, .slice none 0 0, .int .i64 0, .slice none 0 0, .int .i64 0, .int .i64 0] 52))
                  have HY := hide (heap_new v17 #[.bool false, .int .i64 0, .int .i64 0, .int .i64 0, .slice none 0 0, .slice none 0 0, .int .i64 0, .slice none 0 0, .int .i64 0, .int .i64 0] 52)
                  have Bv23 := hide (bthen Bv17.out Av23.out)
                  refine hK.out _ _ Bv23.out (fun hHeld => ?_)
                  clear hK K
                  try simp only [Act.put, List.getElem_toArray, List.getElem_cons_zero, List.getElem_cons_succ, List.setIfInBounds_toArray, List.set_cons_zero, List.set_cons_succ]
                  obtain ⟨gy, hgy⟩ : ∃ x, v17.heap.size = x := ⟨_, rfl⟩
                  have NX := hide (show gx ≠ gy by have := heap_lt HX.out; omega)
                  have SY := hide (show wl.heap.size ≤ gy by have := Bv17.out.size; omega)
                  rw [hgy] at HY
                  try rw [hgy]
                  obtain ⟨v23, hv23⟩ : ∃ x, x = v17.alloc (.cells #[.bool false, .int .i64 0, .int .i64 0, .int .i64 0, .slice none 0 0, .slice none 0 0, .int .i64 0, .slice none 0 0, .int .i64 0, .int .i64 0] 52) := ⟨_, rfl⟩
                  rw [← hv23] at Av23 HY Bv23 hHeld
                  try rw [← hv23]
                  clear hv23 hgy Bv17
                  have HX := hide ((Av23.out.block gx (heap_lt HX.out)).trans HX.out)
                  clear Av23
                  refine wpAnyH_ready (rs := [6]) (by kernel_rfl) (by simp) ?_
                  refine AllReadyH.cons rfl (fun K hK => ?_) AllReadyH.nil
                  go_simp
                  go_wp2_with (refine (CRA.out v23 Bv23.out).mono ?_; rintro e v24 ⟨r1, po1, co1, ko1, cp1, cc1, ck1, rfl, hr1, hm1, _, hb1⟩)
                  obtain rfl := HRA.out r1 hr1
                  have Av24 := hide hb1
                  have LA := hide hm1
                  have Bv24 := hide (bthen Bv23.out hb1)
                  have FXA := hide (free_new hm1 (heap_lt HX.out))
                  have FYA := hide (free_new hm1 (heap_lt HY.out))
                  clear hr1 hm1 hb1
                  refine hK.out _ _ Bv24.out (fun hHeld => ?_)
                  clear hK K
                  unfold RsV
                  try simp only [Act.put, List.getElem_toArray, List.getElem_cons_zero, List.getElem_cons_succ, List.setIfInBounds_toArray, List.set_cons_zero, List.set_cons_succ]
                  clear Bv23
                  have HX := hide ((Av24.out.block gx (heap_lt HX.out)).trans HX.out)
                  have HY := hide ((Av24.out.block gy (heap_lt HY.out)).trans HY.out)
                  clear Av24
                  refine wpAnyH_ready (rs := [13]) (by kernel_rfl) (by simp) ?_
                  refine AllReadyH.cons rfl (fun K hK => ?_) AllReadyH.nil
                  go_simp
                  go_wp2_with (refine (CRB.out v24 Bv24.out).mono ?_; rintro e v25 ⟨r2, po2, co2, ko2, cp2, cc2, ck2, rfl, hr2, hm2, _, hb2⟩)
                  obtain rfl := HRB.out r2 hr2
                  have Av25 := hide hb2
                  have LB := hide hm2
                  have Bv25 := hide (bthen Bv24.out hb2)
                  have FXB := hide (free_new hm2 (heap_lt HX.out))
                  have FYB := hide (free_new hm2 (heap_lt HY.out))
                  clear hr2 hm2 hb2
                  refine hK.out _ _ Bv25.out (fun hHeld => ?_)
                  clear hK K
                  unfold RsV
                  try simp only [Act.put, List.getElem_toArray, List.getElem_cons_zero, List.getElem_cons_succ, List.setIfInBounds_toArray, List.set_cons_zero, List.set_cons_succ]
                  clear Bv24
                  have HX := hide ((Av25.out.block gx (heap_lt HX.out)).trans HX.out)
                  have HY := hide ((Av25.out.block gy (heap_lt HY.out)).trans HY.out)
                  have LA := hide (mine_below LA.out Av25.out)
                  clear Av25
                  refine wpAnyH_ready (rs := [16]) (by kernel_rfl) (by simp) ?_
                  refine AllReadyH.cons rfl (fun K hK => ?_) AllReadyH.nil
                  obtain ⟨p0, p1, p2, p3, p4, p5, p6, p7, p8, p9⟩ := cells10 HX.out
                  have pf0 := frozenG HX.out 0
                  have pf1 := frozenG HX.out 1
                  have pf2 := frozenG HX.out 2
                  have pf3 := frozenG HX.out 3
                  have pf4 := frozenG HX.out 4
                  have pf5 := frozenG HX.out 5
                  have pf6 := frozenG HX.out 6
                  have pf7 := frozenG HX.out 7
                  have pf8 := frozenG HX.out 8
                  have pf9 := frozenG HX.out 9
                  go_simp
                  change K _ (put10 v25 gx (.bool r.pass) (.int .i64 r.atr.pf) (.int .i64 r.atr.md) (.int .i64 r.atr.og) (.slice po1 r.atr.path.length cp1) (.slice co1 r.atr.comms.length cc1) (.int .i64 r.atr.fr) (.slice ko1 r.atr.cl.length ck1) (.int .i64 r.cl) (.int .i64 r.er))
                  have PX := hide (put10_same HX.out (.bool r.pass) (.int .i64 r.atr.pf) (.int .i64 r.atr.md) (.int .i64 r.atr.og) (.slice po1 r.atr.path.length cp1) (.slice co1 r.atr.comms.length cc1) (.int .i64 r.atr.fr) (.slice ko1 r.atr.cl.length ck1) (.int .i64 r.cl) (.int .i64 r.er))
                  have BX := hide (put10_below Bv25.out SX.out (.bool r.pass) (.int .i64 r.atr.pf) (.int .i64 r.atr.md) (.int .i64 r.atr.og) (.slice po1 r.atr.path.length cp1) (.slice co1 r.atr.comms.length cc1) (.int .i64 r.atr.fr) (.slice ko1 r.atr.cl.length ck1) (.int .i64 r.cl) (.int .i64 r.er))
                  have OX : Hid (∀ b, b ≠ gx → (put10 v25 gx (.bool r.pass) (.int .i64 r.atr.pf) (.int .i64 r.atr.md) (.int .i64 r.atr.og) (.slice po1 r.atr.path.length cp1) (.slice co1 r.atr.comms.length cc1) (.int .i64 r.atr.fr) (.slice ko1 r.atr.cl.length ck1) (.int .i64 r.cl) (.int .i64 r.er)).heap[b]? = v25.heap[b]?) := fun b hb => put10_other _ _ _ _ _ _ _ _ _ _ _ _ b hb
                  refine hK.out _ _ BX.out (fun hHeld => ?_)
                  clear hK K p0 pf0 p1 pf1 p2 pf2 p3 pf3 p4 pf4 p5 pf5 p6 pf6 p7 pf7 p8 pf8 p9 pf9
                  generalize put10 v25 gx (.bool r.pass) (.int .i64 r.atr.pf) (.int .i64 r.atr.md) (.int .i64 r.atr.og) (.slice po1 r.atr.path.length cp1) (.slice co1 r.atr.comms.length cc1) (.int .i64 r.atr.fr) (.slice ko1 r.atr.cl.length ck1) (.int .i64 r.cl) (.int .i64 r.er) = q1 at *
                  have HY := hide ((OX.out gy (Ne.symm NX.out)).trans HY.out)
                  have LA := hide (lies_free LA.out.1 FXA.out OX.out)
                  have LB := hide (lies_free LB.out.1 FXB.out OX.out)
                  try simp only [Act.put, List.getElem_toArray, List.getElem_cons_zero, List.getElem_cons_succ, List.setIfInBounds_toArray, List.set_cons_zero, List.set_cons_succ]
                  refine wpAnyH_ready (rs := [17]) (by kernel_rfl) (by simp) ?_
                  refine AllReadyH.cons rfl (fun K hK => ?_) AllReadyH.nil
                  obtain ⟨p0, p1, p2, p3, p4, p5, p6, p7, p8, p9⟩ := cells10 HY.out
                  have pf0 := frozenG HY.out 0
                  have pf1 := frozenG HY.out 1
                  have pf2 := frozenG HY.out 2
                  have pf3 := frozenG HY.out 3
                  have pf4 := frozenG HY.out 4
                  have pf5 := frozenG HY.out 5
                  have pf6 := frozenG HY.out 6
                  have pf7 := frozenG HY.out 7
                  have pf8 := frozenG HY.out 8
                  have pf9 := frozenG HY.out 9
                  go_simp
                  change K _ (put10 q1 gy (.bool r.pass) (.int .i64 r.atr.pf) (.int .i64 r.atr.md) (.int .i64 r.atr.og) (.slice po2 r.atr.path.length cp2) (.slice co2 r.atr.comms.length cc2) (.int .i64 r.atr.fr) (.slice ko2 r.atr.cl.length ck2) (.int .i64 r.cl) (.int .i64 r.er))
                  have PY := hide (put10_same HY.out (.bool r.pass) (.int .i64 r.atr.pf) (.int .i64 r.atr.md) (.int .i64 r.atr.og) (.slice po2 r.atr.path.length cp2) (.slice co2 r.atr.comms.length cc2) (.int .i64 r.atr.fr) (.slice ko2 r.atr.cl.length ck2) (.int .i64 r.cl) (.int .i64 r.er))
                  have BY := hide (put10_below BX.out SY.out (.bool r.pass) (.int .i64 r.atr.pf) (.int .i64 r.atr.md) (.int .i64 r.atr.og) (.slice po2 r.atr.path.length cp2) (.slice co2 r.atr.comms.length cc2) (.int .i64 r.atr.fr) (.slice ko2 r.atr.cl.length ck2) (.int .i64 r.cl) (.int .i64 r.er))
                  have OY : Hid (∀ b, b ≠ gy → (put10 q1 gy (.bool r.pass) (.int .i64 r.atr.pf) (.int .i64 r.atr.md) (.int .i64 r.atr.og) (.slice po2 r.atr.path.length cp2) (.slice co2 r.atr.comms.length cc2) (.int .i64 r.atr.fr) (.slice ko2 r.atr.cl.length ck2) (.int .i64 r.cl) (.int .i64 r.er)).heap[b]? = q1.heap[b]?) := fun b hb => put10_other _ _ _ _ _ _ _ _ _ _ _ _ b hb
                  refine hK.out _ _ BY.out (fun hHeld => ?_)
                  clear hK K p0 pf0 p1 pf1 p2 pf2 p3 pf3 p4 pf4 p5 pf5 p6 pf6 p7 pf7 p8 pf8 p9 pf9
                  generalize put10 q1 gy (.bool r.pass) (.int .i64 r.atr.pf) (.int .i64 r.atr.md) (.int .i64 r.atr.og) (.slice po2 r.atr.path.length cp2) (.slice co2 r.atr.comms.length cc2) (.int .i64 r.atr.fr) (.slice ko2 r.atr.cl.length ck2) (.int .i64 r.cl) (.int .i64 r.er) = q2 at *
                  have PX := hide ((OY.out gx NX.out).trans PX.out)
                  have LA := hide (lies_free LA.out FYA.out OY.out)
                  have LB := hide (lies_free LB.out FYB.out OY.out)
                  try simp only [Act.put, List.getElem_toArray, List.getElem_cons_zero, List.getElem_cons_succ, List.setIfInBounds_toArray, List.set_cons_zero, List.set_cons_succ]
                  refine wpAnyH_done (by kernel_rfl) ?_ _
                  clear hHeld
                  go_wp2_with fail
                  go_meet
                  exact ⟨gx, gy, po1, co1, ko1, cp1, cc1, ck1, po2, co2, ko2, cp2, cc2, ck2, rfl, rfl, PX, PY, LA, LB, BY⟩
              ·
                go_simp
                have Av26 := hide (balloc (brefl v0) (.cells #[.bool false, .int .i64 0, .int .i64 0, .int .i64 0, .slice none 0 0, .slice none 0 0, .int .i64 0, .slice none 0 0, .int .i64 0, .int .i64 0] 52))
                have HY := hide (heap_new v0 #[.bool false, .int .i64 0, .int .i64 0, .int .i64 0, .slice none 0 0, .slice none 0 0, .int .i64 0, .slice none 0 0, .int .i64 0, .int .i64 0] 52)
                have Bv26 := hide (bthen Bv0.out Av26.out)
                refine hK.out _ _ Bv26.out (fun hHeld => ?_)
                clear hK K
                try simp only [Act.put, List.getElem_toArray, List.getElem_cons_zero, List.getElem_cons_succ, List.setIfInBounds_toArray, List.set_cons_zero, List.set_cons_succ]
                obtain ⟨gy, hgy⟩ : ∃ x, v0.heap.size = x := ⟨_, rfl⟩
                have SY := hide (show wl.heap.size ≤ gy by have := Bv0.out.size; omega)
                rw [hgy] at HY
                try rw [hgy]
                obtain ⟨v26, hv26⟩ : ∃ x, x = v0.alloc (.cells #[.bool false, .int .i64 0, .int .i64 0, .int .i64 0, .slice none 0 0, .slice none 0 0, .int .i64 0, .slice none 0 0, .int .i64 0, .int .i64 0] 52) := ⟨_, rfl⟩
                rw [← hv26] at Av26 HY Bv26 hHeld
                try rw [← hv26]
                clear hv26 hgy Bv0
                clear Av26
                refine wpAnyH_ready (rs := [6, 14]) (by kernel_rfl) (by simp) ?_
                refine AllReadyH.cons rfl (fun K hK => ?_) (AllReadyH.cons rfl (fun K hK => ?_) AllReadyH.nil)
                ·
                  go_simp
                  go_wp2_with (refine (CRA.out v26 Bv26.out).mono ?_; rintro e v27 ⟨r1, po1, co1, ko1, cp1, cc1, ck1, rfl, hr1, hm1, _, hb1⟩)
                  obtain rfl := HRA.out r1 hr1
                  have Av27 := hide hb1
                  have LA := hide hm1
                  have Bv27 := hide (bthen Bv26.out hb1)
                  have FYA := hide (free_new hm1 (heap_lt HY.out))
                  clear hr1 hm1 hb1
                  refine hK.out _ _ Bv27.out (fun hHeld => ?_)
                  clear hK K
                  unfold RsV
                  try simp only [Act.put, List.getElem_toArray, List.getElem_cons_zero, List.getElem_cons_succ, List.setIfInBounds_toArray, List.set_cons_zero, List.set_cons_succ]
                  clear Bv26
                  have HY := hide ((Av27.out.block gy (heap_lt HY.out)).trans HY.out)
                  clear Av27
                  refine wpAnyH_ready (rs := [13, 14]) (by kernel_rfl) (by simp) ?_
                  refine AllReadyH.cons rfl (fun K hK => ?_) (AllReadyH.cons rfl (fun K hK => ?_) AllReadyH.nil)
                  ·
                    go_simp
                    go_wp2_with (refine (CRB.out v27 Bv27.out).mono ?_; rintro e v28 ⟨r2, po2, co2, ko2, cp2, cc2, ck2, rfl, hr2, hm2, _, hb2⟩)
                    obtain rfl := HRB.out r2 hr2
                    have Av28 := hide hb2
                    have LB := hide hm2
                    have Bv28 := hide (bthen Bv27.out hb2)
                    have FYB := hide (free_new hm2 (heap_lt HY.out))
                    clear hr2 hm2 hb2
                    refine hK.out _ _ Bv28.out (fun hHeld => ?_)
                    clear hK K
                    unfold RsV
                    try simp only [Act.put, List.getElem_toArray, List.getElem_cons_zero, List.getElem_cons_succ, List.setIfInBounds_toArray, List.set_cons_zero, List.set_cons_succ]
                    clear Bv27
                    have HY := hide ((Av28.out.block gy (heap_lt HY.out)).trans HY.out)
                    have LA := hide (mine_below LA.out Av28.out)
                    clear Av28
                    refine wpAnyH_ready (rs := [14]) (by kernel_rfl) (by simp) ?_
                    refine AllReadyH.cons rfl (fun K hK => ?_) AllReadyH.nil
                    go_simp
                    have Av29 := hide (balloc (brefl v28) (.cells #[.bool false, .int .i64 0, .int .i64 0, .int .i64 0, .slice none 0 0, .slice none 0 0, .int .i64 0, .slice none 0 0, .int .i64 0, .int .i64 0] 52))
                    have HX := hide (heap_new v28 #[.bool false, .int .i64 0, .int .i64 0, .int .i64 0, .slice none 0 0, .slice none 0 0, .int .i64 0, .slice none 0 0, .int .i64 0, .int .i64 0] 52)
                    have Bv29 := hide (bthen Bv28.out Av29.out)
                    refine hK.out _ _ Bv29.out (fun hHeld => ?_)
                    clear hK K
                    try simp only [Act.put, List.getElem_toArray, List.getElem_cons_zero, List.getElem_cons_succ, List.setIfInBounds_toArray, List.set_cons_zero, List.set_cons_succ]
                    obtain ⟨gx, hgx⟩ : ∃ x, v28.heap.size = x := ⟨_, rfl⟩
                    have FXA := hide (free_old (LA.out.1) hgx)
                    have FXB := hide (free_old (LB.out.1) hgx)
                    have NX := hide (show gx ≠ gy by have := heap_lt HY.out; omega)
                    have SX := hide (show wl.heap.size ≤ gx by have := Bv28.out.size; omega)
                    rw [hgx] at HX
                    try rw [hgx]
                    obtain ⟨v29, hv29⟩ : ∃ x, x = v28.alloc (.cells #[.bool false, .int .i64 0, .int .i64 0, .int .i64 0, .slice none 0 0, .slice none 0 0, .int .i64 0, .slice none 0 0, .int .i64 0, .int .i64 0] 52) := ⟨_, rfl⟩
                    rw [← hv29] at Av29 HX Bv29 hHeld
                    try rw [← hv29]
                    clear hv29 hgx Bv28
                    have HY := hide ((Av29.out.block gy (heap_lt HY.out)).trans HY.out)
                    have LA := hide (mine_below LA.out Av29.out)
                    have LB := hide (mine_below LB.out Av29.out)
                    clear Av29
                    refine wpAnyH_ready (rs := [16]) (by kernel_rfl) (by simp) ?_
                    refine AllReadyH.cons rfl (fun K hK => ?_) AllReadyH.nil
                    obtain ⟨p0, p1, p2, p3, p4, p5, p6, p7, p8, p9⟩ := cells10 HX.out
                    have pf0 := frozenG HX.out 0
                    have pf1 := frozenG HX.out 1
                    have pf2 := frozenG HX.out 2
                    have pf3 := frozenG HX.out 3
                    have pf4 := frozenG HX.out 4
                    have pf5 := frozenG HX.out 5
                    have pf6 := frozenG HX.out 6
                    have pf7 := frozenG HX.out 7
                    have pf8 := frozenG HX.out 8
                    have pf9 := frozenG HX.out 9
                    go_simp
                    change K _ (put10 v29 gx (.bool r.pass) (.int .i64 r.atr.pf) (.int .i64 r.atr.md) (.int .i64 r.atr.og) (.slice po1 r.atr.path.length cp1) (.slice co1 r.atr.comms.length cc1) (.int .i64 r.atr.fr) (.slice ko1 r.atr.cl.length ck1) (.int .i64 r.cl) (.int .i64 r.er))
                    have PX := hide (put10_same HX.out (.bool r.pass) (.int .i64 r.atr.pf) (.int .i64 r.atr.md) (.int .i64 r.atr.og) (.slice po1 r.atr.path.length cp1) (.slice co1 r.atr.comms.length cc1) (.int .i64 r.atr.fr) (.slice ko1 r.atr.cl.length ck1) (.int .i64 r.cl) (.int .i64 r.er))
                    have BX := hide (put10_below Bv29.out SX.out (.bool r.pass) (.int .i64 r.atr.pf) (.int .i64 r.atr.md) (.int .i64 r.atr.og) (.slice po1 r.atr.path.length cp1) (.slice co1 r.atr.comms.length cc1) (.int .i64 r.atr.fr) (.slice ko1 r.atr.cl.length ck1) (.int .i64 r.cl) (.int .i64 r.er))
                    have OX : Hid (∀ b, b ≠ gx → (put10 v29 gx (.bool r.pass) (.int .i64 r.atr.pf) (.int .i64 r.atr.md) (.int .i64 r.atr.og) (.slice po1 r.atr.path.length cp1) (.slice co1 r.atr.comms.length cc1) (.int .i64 r.atr.fr) (.slice ko1 r.atr.cl.length ck1) (.int .i64 r.cl) (.int .i64 r.er)).heap[b]? = v29.heap[b]?) := fun b hb => put10_other _ _ _ _ _ _ _ _ _ _ _ _ b hb
                    refine hK.out _ _ BX.out (fun hHeld => ?_)
                    clear hK K p0 pf0 p1 pf1 p2 pf2 p3 pf3 p4 pf4 p5 pf5 p6 pf6 p7 pf7 p8 pf8 p9 pf9
                    generalize put10 v29 gx (.bool r.pass) (.int .i64 r.atr.pf) (.int .i64 r.atr.md) (.int .i64 r.atr.og) (.slice po1 r.atr.path.length cp1) (.slice co1 r.atr.comms.length cc1) (.int .i64 r.atr.fr) (.slice ko1 r.atr.cl.length ck1) (.int .i64 r.cl) (.int .i64 r.er) = q1 at *
                    have HY := hide ((OX.out gy (Ne.symm NX.out)).trans HY.out)
                    have LA := hide (lies_free LA.out.1 FXA.out OX.out)
                    have LB := hide (lies_free LB.out.1 FXB.out OX.out)
                    try simp only [Act.put, List.getElem_toArray, List.getElem_cons_zero, List.getElem_cons_succ, List.setIfInBounds_toArray, List.set_cons_zero, List.set_cons_succ]
                    refine wpAnyH_ready (rs := [17]) (by kernel_rfl) (by simp) ?_
                    refine AllReadyH.cons rfl (fun K hK => ?_) AllReadyH.nil
                    obtain ⟨p0, p1, p2, p3, p4, p5, p6, p7, p8, p9⟩ := cells10 HY.out
                    have pf0 := frozenG HY.out 0
                    have pf1 := frozenG HY.out 1
                    have pf2 := frozenG HY.out 2
                    have pf3 := frozenG HY.out 3
                    have pf4 := frozenG HY.out 4
                    have pf5 := frozenG HY.out 5
                    have pf6 := frozenG HY.out 6
                    have pf7 := frozenG HY.out 7
                    have pf8 := frozenG HY.out 8
                    have pf9 := frozenG HY.out 9
                    go_simp
                    change K _ (put10 q1 gy (.bool r.pass) (.int .i64 r.atr.pf) (.int .i64 r.atr.md) (.int .i64 r.atr.og) (.slice po2 r.atr.path.length cp2) (.slice co2 r.atr.comms.length cc2) (.int .i64 r.atr.fr) (.slice ko2 r.atr.cl.length ck2) (.int .i64 r.cl) (.int .i64 r.er))
                    have PY := hide (put10_same HY.out (.bool r.pass) (.int .i64 r.atr.pf) (.int .i64 r.atr.md) (.int .i64 r.atr.og) (.slice po2 r.atr.path.length cp2) (.slice co2 r.atr.comms.length cc2) (.int .i64 r.atr.fr) (.slice ko2 r.atr.cl.length ck2) (.int .i64 r.cl) (.int .i64 r.er))
                    have BY := hide (put10_below BX.out SY.out (.bool r.pass) (.int .i64 r.atr.pf) (.int .i64 r.atr.md) (.int .i64 r.atr.og) (.slice po2 r.atr.path.length cp2) (.slice co2 r.atr.comms.length cc2) (.int .i64 r.atr.fr) (.slice ko2 r.atr.cl.length ck2) (.int .i64 r.cl) (.int .i64 r.er))
                    have OY : Hid (∀ b, b ≠ gy → (put10 q1 gy (.bool r.pass) (.int .i64 r.atr.pf) (.int .i64 r.atr.md) (.int .i64 r.atr.og) (.slice po2 r.atr.path.length cp2) (.slice co2 r.atr.comms.length cc2) (.int .i64 r.atr.fr) (.slice ko2 r.atr.cl.length ck2) (.int .i64 r.cl) (.int .i64 r.er)).heap[b]? = q1.heap[b]?) := fun b hb => put10_other _ _ _ _ _ _ _ _ _ _ _ _ b hb
                    refine hK.out _ _ BY.out (fun hHeld => ?_)
                    clear hK K p0 pf0 p1 pf1 p2 pf2 p3 pf3 p4 pf4 p5 pf5 p6 pf6 p7 pf7 p8 pf8 p9 pf9
                    generalize put10 q1 gy (.bool r.pass) (.int .i64 r.atr.pf) (.int .i64 r.atr.md) (.int .i64 r.atr.og) (.slice po2 r.atr.path.length cp2) (.slice co2 r.atr.comms.length cc2) (.int .i64 r.atr.fr) (.slice ko2 r.atr.cl.length ck2) (.int .i64 r.cl) (.int .i64 r.er) = q2 at *
                    have PX := hide ((OY.out gx NX.out).trans PX.out)
                    have LA := hide (lies_free LA.out FYA.out OY.out)
                    have LB := hide (lies_free LB.out FYB.out OY.out)
                    try simp only [Act.put, List.getElem_toArray, List.getElem_cons_zero, List.getElem_cons_succ, List.setIfInBounds_toArray, List.set_cons_zero, List.set_cons_succ]
                    refine wpAnyH_done (by kernel_rfl) ?_ _
                    clear hHeld
                    go_wp2_with fail
                    go_meet
                    exact ⟨gx, gy, po1, co1, ko1, cp1, cc1, ck1, po2, co2, ko2, cp2, cc2, ck2, rfl, rfl, PX, PY, LA, LB, BY⟩
                  ·
                    go_simp
                    have Av30 := hide (balloc (brefl v27) (.cells #[.bool false, .int .i64 0, .int .i64 0, .int .i64 0, .slice none 0 0, .slice none 0 0, .int .i64 0, .slice none 0 0, .int .i64 0, .int .i64 0] 52))
                    have HX := hide (heap_new v27 #[.bool false, .int .i64 0, .int .i64 0, .int .i64 0, .slice none 0 0, .slice none 0 0, .int .i64 0, .slice none 0 0, .int .i64 0, .int .i64 0] 52)
                    have Bv30 := hide (bthen Bv27.out Av30.out)
                    refine hK.out _ _ Bv30.out (fun hHeld => ?_)
                    clear hK K
                    try simp only [Act.put, List.getElem_toArray, List.getElem_cons_zero, List.getElem_cons_succ, List.setIfInBounds_toArray, List.set_cons_zero, List.set_cons_succ]
                    obtain ⟨gx, hgx⟩ : ∃ x, v27.heap.size = x := ⟨_, rfl⟩
                    have FXA := hide (free_old (LA.out.1) hgx)
                    have NX := hide (show gx ≠ gy by have := heap_lt HY.out; omega)
                    have SX := hide (show wl.heap.size ≤ gx by have := Bv27.out.size; omega)
                    rw [hgx] at HX
                    try rw [hgx]
                    obtain ⟨v30, hv30⟩ : ∃ x, x = v27.alloc (.cells #[.bool false, .int .i64 0, .int .i64 0, .int .i64 0, .slice none 0 0, .slice none 0 0, .int .i64 0, .slice none 0 0, .int .i64 0, .int .i64 0] 52) := ⟨_, rfl⟩
                    rw [← hv30] at Av30 HX Bv30 hHeld
                    try rw [← hv30]
                    clear hv30 hgx Bv27
                    have HY := hide ((Av30.out.block gy (heap_lt HY.out)).trans HY.out)
                    have LA := hide (mine_below LA.out Av30.out)
                    clear Av30
                    refine wpAnyH_ready (rs := [13]) (by kernel_rfl) (by simp) ?_
                    refine AllReadyH.cons rfl (fun K hK => ?_) AllReadyH.nil
                    go_simp
                    go_wp2_with (refine (CRB.out v30 Bv30.out).mono ?_; rintro e v31 ⟨r2, po2, co2, ko2, cp2, cc2, ck2, rfl, hr2, hm2, _, hb2⟩)
                    obtain rfl := HRB.out r2 hr2
                    have Av31 := hide hb2
                    have LB := hide hm2
                    have Bv31 := hide (bthen Bv30.out hb2)
                    have FXB := hide (free_new hm2 (heap_lt HX.out))
                    have FYB := hide (free_new hm2 (heap_lt HY.out))
                    clear hr2 hm2 hb2
                    refine hK.out _ _ Bv31.out (fun hHeld => ?_)
                    clear hK K
                    unfold RsV
                    try simp only [Act.put, List.getElem_toArray, List.getElem_cons_zero, List.getElem_cons_succ, List.setIfInBounds_toArray, List.set_cons_zero, List.set_cons_succ]
                    clear Bv30
                    have HY := hide ((Av31.out.block gy (heap_lt HY.out)).trans HY.out)
                    have LA := hide (mine_below LA.out Av31.out)
                    have HX := hide ((Av31.out.block gx (heap_lt HX.out)).trans HX.out)
                    clear Av31
                    refine wpAnyH_ready (rs := [16]) (by kernel_rfl) (by simp) ?_
                    refine AllReadyH.cons rfl (fun K hK => ?_) AllReadyH.nil
                    obtain ⟨p0, p1, p2, p3, p4, p5, p6, p7, p8, p9⟩ := cells10 HX.out
                    have pf0 := frozenG HX.out 0
                    have pf1 := frozenG HX.out 1
                    have pf2 := frozenG HX.out 2
                    have pf3 := frozenG HX.out 3
                    have pf4 := frozenG HX.out 4
                    have pf5 := frozenG HX.out 5
                    have pf6 := frozenG HX.out 6
                    have pf7 := frozenG HX.out 7
                    have pf8 := frozenG HX.out 8
                    have pf9 := frozenG HX.out 9
                    go_simp
                    change K _ (put10 v31 gx (.bool r.pass) (.int .i64 r.atr.pf) (.int .i64 r.atr.md) (.int .i64 r.atr.og) (.slice po1 r.atr.path.length cp1) (.slice co1 r.atr.comms.length cc1) (.int .i64 r.atr.fr) (.slice ko1 r.atr.cl.length ck1) (.int .i64 r.cl) (.int .i64 r.er))
                    have PX := hide (put10_same HX.out (.bool r.pass) (.int .i64 r.atr.pf) (.int .i64 r.atr.md) (.int .i64 r.atr.og) (.slice po1 r.atr.path.length cp1) (.slice co1 r.atr.comms.length cc1) (.int .i64 r.atr.fr) (.slice ko1 r.atr.cl.length ck1) (.int .i64 r.cl) (.int .i64 r.er))
                    have BX := hide (put10_below Bv31.out SX.out (.bool r.pass) (.int .i64 r.atr.pf) (.int .i64 r.atr.md) (.int .i64 r.atr.og) (.slice po1 r.atr.path.length cp1) (.slice co1 r.atr.comms.length cc1) (.int .i64 r.atr.fr) (.slice ko1 r.atr.cl.length ck1) (.int .i64 r.cl) (.int .i64 r.er))
                    have OX : Hid (∀ b, b ≠ gx → (put10 v31 gx (.bool r.pass) (.int .i64 r.atr.pf) (.int .i64 r.atr.md) (.int .i64 r.atr.og) (.slice po1 r.atr.path.length cp1) (.slice co1 r.atr.comms.length cc1) (.int .i64 r.atr.fr) (.slice ko1 r.atr.cl.length ck1) (.int .i64 r.cl) (.int .i64 r.er)).heap[b]? = v31.heap[b]?) := fun b hb => put10_other _ _ _ _ _ _ _ _ _ _ _ _ b hb
                    refine hK.out _ _ BX.out (fun hHeld => ?_)
                    clear hK K p0 pf0 p1 pf1 p2 pf2 p3 pf3 p4 pf4 p5 pf5 p6 pf6 p7 pf7 p8 pf8 p9 pf9
                    generalize put10 v31 gx (.bool r.pass) (.int .i64 r.atr.pf) (.int .i64 r.atr.md) (.int .i64 r.atr.og) (.slice po1 r.atr.path.length cp1) (.slice co1 r.atr.comms.length cc1) (.int .i64 r.atr.fr) (.slice ko1 r.atr.cl.length ck1) (.int .i64 r.cl) (.int .i64 r.er) = q1 at *
                    have HY := hide ((OX.out gy (Ne.symm NX.out)).trans HY.out)
                    have LA := hide (lies_free LA.out.1 FXA.out OX.out)
                    have LB := hide (lies_free LB.out.1 FXB.out OX.out)
                    try simp only [Act.put, List.getElem_toArray, List.getElem_cons_zero, List.getElem_cons_succ, List.setIfInBounds_toArray, List.set_cons_zero, List.set_cons_succ]
                    refine wpAnyH_ready (rs := [17]) (by kernel_rfl) (by simp) ?_
                    refine AllReadyH.cons rfl (fun K hK => ?_) AllReadyH.nil
                    obtain ⟨p0, p1, p2, p3, p4, p5, p6, p7, p8, p9⟩ := cells10 HY.out
                    have pf0 := frozenG HY.out 0
                    have pf1 := frozenG HY.out 1
                    have pf2 := frozenG HY.out 2
                    have pf3 := frozenG HY.out 3
                    have pf4 := frozenG HY.out 4
                    have pf5 := frozenG HY.out 5
                    have pf6 := frozenG HY.out 6
                    have pf7 := frozenG HY.out 7
                    have pf8 := frozenG HY.out 8
                    have pf9 := frozenG HY.out 9
                    go_simp
                    change K _ (put10 q1 gy (.bool r.pass) (.int .i64 r.atr.pf) (.int .i64 r.atr.md) (.int .i64 r.atr.og) (.slice po2 r.atr.path.length cp2) (.slice co2 r.atr.comms.length cc2) (.int .i64 r.atr.fr) (.slice ko2 r.atr.cl.length ck2) (.int .i64 r.cl) (.int .i64 r.er))
                    have PY := hide (put10_same HY.out (.bool r.pass) (.int .i64 r.atr.pf) (.int .i64 r.atr.md) (.int .i64 r.atr.og) (.slice po2 r.atr.path.length cp2) (.slice co2 r.atr.comms.length cc2) (.int .i64 r.atr.fr) (.slice ko2 r.atr.cl.length ck2) (.int .i64 r.cl) (.int .i64 r.er))
                    have BY := hide (put10_below BX.out SY.out (.bool r.pass) (.int .i64 r.atr.pf) (.int .i64 r.atr.md) (.int .i64 r.atr.og) (.slice po2 r.atr.path.length cp2) (.slice co2 r.atr.comms.length cc2) (.int .i64 r.atr.fr) (.slice ko2 r.atr.cl.length ck2) (.int .i64 r.cl) (.int .i64 r.er))
                    have OY : Hid (∀ b, b ≠ gy → (put10 q1 gy (.bool r.pass) (.int .i64 r.atr.pf) (.int .i64 r.atr.md) (.int .i64 r.atr.og) (.slice po2 r.atr.path.length cp2) (.slice co2 r.atr.comms.length cc2) (.int .i64 r.atr.fr) (.slice ko2 r.atr.cl.length ck2) (.int .i64 r.cl) (.int .i64 r.er)).heap[b]? = q1.heap[b]?) := fun b hb => put10_other _ _ _ _ _ _ _ _ _ _ _ _ b hb
                    refine hK.out _ _ BY.out (fun hHeld => ?_)
                    clear hK K p0 pf0 p1 pf1 p2 pf2 p3 pf3 p4 pf4 p5 pf5 p6 pf6 p7 pf7 p8 pf8 p9 pf9
                    generalize put10 q1 gy (.bool r.pass) (.int .i64 r.atr.pf) (.int .i64 r.atr.md) (.int .i64 r.atr.og) (.slice po2 r.atr.path.length cp2) (.slice co2 r.atr.comms.length cc2) (.int .i64 r.atr.fr) (.slice ko2 r.atr.cl.length ck2) (.int .i64 r.cl) (.int .i64 r.er) = q2 at *
                    have PX := hide ((OY.out gx NX.out).trans PX.out)
                    have LA := hide (lies_free LA.out FYA.out OY.out)
                    have LB := hide (lies_free LB.out FYB.out OY.out)
                    try simp only [Act.put, List.getElem_toArray, List.getElem_cons_zero, List.getElem_cons_succ, List.setIfInBounds_toArray, List.set_cons_zero, List.set_cons_succ]
                    refine wpAnyH_done (by kernel_rfl) ?_ _
                    clear hHeld
                    go_wp2_with fail
                    go_meet
                    exact ⟨gx, gy, po1, co1, ko1, cp1, cc1, ck1, po2, co2, ko2, cp2, cc2, ck2, rfl, rfl, PX, PY, LA, LB, BY⟩
                ·
                  go_simp
                  have Av32 := hide (balloc (brefl v26) (.cells #[.bool false, .int .i64 0, .int .i64 0, .int .i64 0, .slice none 0 0, .slice none 0 0, .int .i64 0, .slice none 0 0, .int .i64 0, .int .i64 0] 52))
                  have HX := hide (heap_new v26 #[.bool false, .int .i64 0, .int .i64 0, .int .i64 0, .slice none 0 0, .slice none 0 0, .int .i64 0, .slice none 0 0, .int .i64 0, .int .i64 0] 52)
                  have Bv32 := hide (bthen Bv26.out Av32.out)
                  refine hK.out _ _ Bv32.out (fun hHeld => ?_)
                  clear hK K
                  try simp only [Act.put, List.getElem_toArray, List.getElem_cons_zero, List.getElem_cons_succ, List.setIfInBounds_toArray, List.set_cons_zero, List.set_cons_succ]
                  obtain ⟨gx, hgx⟩ : ∃ x, v26.heap.size = x := ⟨_, rfl⟩
                  have NX := hide (show gx ≠ gy by have := heap_lt HY.out; omega)
                  have SX := hide (show wl.heap.size ≤ gx by have := Bv26.out.size; omega)
                  rw [hgx] at HX
                  try rw [hgx]
                  obtain ⟨v32, hv32⟩ : ∃ x, x = v26.alloc (.cells #[.bool false, .int .i64 0, .int .i64 0, .int .i64 0, .slice none 0 0, .slice none 0 0, .int .i64 0, .slice none 0 0, .int .i64 0, .int .i64 0] 52) := ⟨_, rfl⟩
                  rw [← hv32] at Av32 HX Bv32 hHeld
                  try rw [← hv32]
                  clear hv32 hgx Bv26
                  have HY := hide ((Av32.out.block gy (heap_lt HY.out)).trans HY.out)
                  clear Av32
                  refine wpAnyH_ready (rs := [6]) (by kernel_rfl) (by simp) ?_
                  refine AllReadyH.cons rfl (fun K hK => ?_) AllReadyH.nil
                  go_simp
                  go_wp2_with (refine (CRA.out v32 Bv32.out).mono ?_; rintro e v33 ⟨r1, po1, co1, ko1, cp1, cc1, ck1, rfl, hr1, hm1, _, hb1⟩)
                  obtain rfl := HRA.out r1 hr1
                  have Av33 := hide hb1
                  have LA := hide hm1
                  have Bv33 := hide (bthen Bv32.out hb1)
                  have FXA := hide (free_new hm1 (heap_lt HX.out))
                  have FYA := hide (free_new hm1 (heap_lt HY.out))
                  clear hr1 hm1 hb1
                  refine hK.out _ _ Bv33.out (fun hHeld => ?_)
                  clear hK K
                  unfold RsV
                  try simp only [Act.put, List.getElem_toArray, List.getElem_cons_zero, List.getElem_cons_succ, List.setIfInBounds_toArray, List.set_cons_zero, List.set_cons_succ]
                  clear Bv32
                  have HY := hide ((Av33.out.block gy (heap_lt HY.out)).trans HY.out)
                  have HX := hide ((Av33.out.block gx (heap_lt HX.out)).trans HX.out)
                  clear Av33
                  refine wpAnyH_ready (rs := [13]) (by kernel_rfl) (by simp) ?_
                  refine AllReadyH.cons rfl (fun K hK => ?_) AllReadyH.nil
                  go_simp
                  go_wp2_with (refine (CRB.out v33 Bv33.out).mono ?_; rintro e v34 ⟨r2, po2, co2, ko2, cp2, cc2, ck2, rfl, hr2, hm2, _, hb2⟩)
                  obtain rfl := HRB.out r2 hr2
                  have Av34 := hide hb2
                  have LB := hide hm2
                  have Bv34 := hide (bthen Bv33.out hb2)
                  have FXB := hide (free_new hm2 (heap_lt HX.out))
                  have FYB := hide (free_new hm2 (heap_lt HY.out))
                  clear hr2 hm2 hb2
                  refine hK.out _ _ Bv34.out (fun hHeld => ?_)
                  clear hK K
                  unfold RsV
                  try simp only [Act.put, List.getElem_toArray, List.getElem_cons_zero, List.getElem_cons_succ, List.setIfInBounds_toArray, List.set_cons_zero, List.set_cons_succ]
                  clear Bv33
                  have HY := hide ((Av34.out.block gy (heap_lt HY.out)).trans HY.out)
                  have HX := hide ((Av34.out.block gx (heap_lt HX.out)).trans HX.out)
                  have LA := hide (mine_below LA.out Av34.out)
                  clear Av34
                  refine wpAnyH_ready (rs := [16]) (by kernel_rfl) (by simp) ?_
                  refine AllReadyH.cons rfl (fun K hK => ?_) AllReadyH.nil
                  obtain ⟨p0, p1, p2, p3, p4, p5, p6, p7, p8, p9⟩ := cells10 HX.out
                  have pf0 := frozenG HX.out 0
                  have pf1 := frozenG HX.out 1
                  have pf2 := frozenG HX.out 2
                  have pf3 := frozenG HX.out 3
                  have pf4 := frozenG HX.out 4
                  have pf5 := frozenG HX.out 5
                  have pf6 := frozenG HX.out 6
                  have pf7 := frozenG HX.out 7
                  have pf8 := frozenG HX.out 8
                  have pf9 := frozenG HX.out 9
                  go_simp
                  change K _ (put10 v34 gx (.bool r.pass) (.int .i64 r.atr.pf) (.int .i64 r.atr.md) (.int .i64 r.atr.og) (.slice po1 r.atr.path.length cp1) (.slice co1 r.atr.comms.length cc1) (.int .i64 r.atr.fr) (.slice ko1 r.atr.cl.length ck1) (.int .i64 r.cl) (.int .i64 r.er))
                  have PX := hide (put10_same HX.out (.bool r.pass) (.int .i64 r.atr.pf) (.int .i64 r.atr.md) (.int .i64 r.atr.og) (.slice po1 r.atr.path.length cp1) (.slice co1 r.atr.comms.length cc1) (.int .i64 r.atr.fr) (.slice ko1 r.atr.cl.length ck1) (.int .i64 r.cl) (.int .i64 r.er))
                  have BX := hide (put10_below Bv34.out SX.out (.bool r.pass) (.int .i64 r.atr.pf) (.int .i64 r.atr.md) (.int .i64 r.atr.og) (.slice po1 r.atr.path.length cp1) (.slice co1 r.atr.comms.length cc1) (.int .i64 r.atr.fr) (.slice ko1 r.atr.cl.length ck1) (.int .i64 r.cl) (.int .i64 r.er))
                  have OX : Hid (∀ b, b ≠ gx → (put10 v34 gx (.bool r.pass) (.int .i64 r.atr.pf) (.int .i64 r.atr.md) (.int .i64 r.atr.og) (.slice po1 r.atr.path.length cp1) (.slice co1 r.atr.comms.length cc1) (.int .i64 r.atr.fr) (.slice ko1 r.atr.cl.length ck1) (.int .i64 r.cl) (.int .i64 r.er)).heap[b]? = v34.heap[b]?) := fun b hb => put10_other _ _ _ _ _ _ _ _ _ _ _ _ b hb
                  refine hK.out _ _ BX.out (fun hHeld => ?_)
                  clear hK K p0 pf0 p1 pf1 p2 pf2 p3 pf3 p4 pf4 p5 pf5 p6 pf6 p7 pf7 p8 pf8 p9 pf9
                  generalize put10 v34 gx (.bool r.pass) (.int .i64 r.atr.pf) (.int .i64 r.atr.md) (.int .i64 r.atr.og) (.slice po1 r.atr.path.length cp1) (.slice co1 r.atr.comms.length cc1) (.int .i64 r.atr.fr) (.slice ko1 r.atr.cl.length ck1) (.int .i64 r.cl) (.int .i64 r.er) = q1 at *
                  have HY := hide ((OX.out gy (Ne.symm NX.out)).trans HY.out)
                  have LA := hide (lies_free LA.out.1 FXA.out OX.out)
                  have LB := hide (lies_free LB.out.1 FXB.out OX.out)
                  try simp only [Act.put, List.getElem_toArray, List.getElem_cons_zero, List.getElem_cons_succ, List.setIfInBounds_toArray, List.set_cons_zero, List.set_cons_succ]
                  refine wpAnyH_ready (rs := [17]) (by kernel_rfl) (by simp) ?_
                  refine AllReadyH.cons rfl (fun K hK => ?_) AllReadyH.nil
                  obtain ⟨p0, p1, p2, p3, p4, p5, p6, p7, p8, p9⟩ := cells10 HY.out
                  have pf0 := frozenG HY.out 0
                  have pf1 := frozenG HY.out 1
                  have pf2 := frozenG HY.out 2
                  have pf3 := frozenG HY.out 3
                  have pf4 := frozenG HY.out 4
                  have pf5 := frozenG HY.out 5
                  have pf6 := frozenG HY.out 6
                  have pf7 := frozenG HY.out 7
                  have pf8 := frozenG HY.out 8
                  have pf9 := frozenG HY.out 9
                  go_simp
                  change K _ (put10 q1 gy (.bool r.pass) (.int .i64 r.atr.pf) (.int .i64 r.atr.md) (.int .i64 r.atr.og) (.slice po2 r.atr.path.length cp2) (.slice co2 r.atr.comms.length cc2) (.int .i64 r.atr.fr) (.slice ko2 r.atr.cl.length ck2) (.int .i64 r.cl) (.int .i64 r.er))
                  have PY := hide (put10_same HY.out (.bool r.pass) (.int .i64 r.atr.pf) (.int .i64 r.atr.md) (.int .i64 r.atr.og) (.slice po2 r.atr.path.length cp2) (.slice co2 r.atr.comms.length cc2) (.int .i64 r.atr.fr) (.slice ko2 r.atr.cl.length ck2) (.int .i64 r.cl) (.int .i64 r.er))
                  have BY := hide (put10_below BX.out SY.out (.bool r.pass) (.int .i64 r.atr.pf) (.int .i64 r.atr.md) (.int .i64 r.atr.og) (.slice po2 r.atr.path.length cp2) (.slice co2 r.atr.comms.length cc2) (.int .i64 r.atr.fr) (.slice ko2 r.atr.cl.length ck2) (.int .i64 r.cl) (.int .i64 r.er))
                  have OY : Hid (∀ b, b ≠ gy → (put10 q1 gy (.bool r.pass) (.int .i64 r.atr.pf) (.int .i64 r.atr.md) (.int .i64 r.atr.og) (.slice po2 r.atr.path.length cp2) (.slice co2 r.atr.comms.length cc2) (.int .i64 r.atr.fr) (.slice ko2 r.atr.cl.length ck2) (.int .i64 r.cl) (.int .i64 r.er)).heap[b]? = q1.heap[b]?) := fun b hb => put10_other _ _ _ _ _ _ _ _ _ _ _ _ b hb
                  refine hK.out _ _ BY.out (fun hHeld => ?_)
                  clear hK K p0 pf0 p1 pf1 p2 pf2 p3 pf3 p4 pf4 p5 pf5 p6 pf6 p7 pf7 p8 pf8 p9 pf9
                  generalize put10 q1 gy (.bool r.pass) (.int .i64 r.atr.pf) (.int .i64 r.atr.md) (.int .i64 r.atr.og) (.slice po2 r.atr.path.length cp2) (.slice co2 r.atr.comms.length cc2) (.int .i64 r.atr.fr) (.slice ko2 r.atr.cl.length ck2) (.int .i64 r.cl) (.int .i64 r.er) = q2 at *
                  have PX := hide ((OY.out gx NX.out).trans PX.out)
                  have LA := hide (lies_free LA.out FYA.out OY.out)
                  have LB := hide (lies_free LB.out FYB.out OY.out)
                  try simp only [Act.put, List.getElem_toArray, List.getElem_cons_zero, List.getElem_cons_succ, List.setIfInBounds_toArray, List.set_cons_zero, List.set_cons_succ]
                  refine wpAnyH_done (by kernel_rfl) ?_ _
                  clear hHeld
                  go_wp2_with fail
                  go_meet
                  exact ⟨gx, gy, po1, co1, ko1, cp1, cc1, ck1, po2, co2, ko2, cp2, cc2, ck2, rfl, rfl, PX, PY, LA, LB, BY⟩
            case rest =>
              obtain ⟨gx, gy, po1, co1, ko1, cp1, cc1, ck1, po2, co2, ko2, cp2, cc2, ck2, rfl, rfl, PX, PY, LA, LB, BX⟩ := hcut
              have PR := hide ((BX.out.block gr (heap_lt PR0.out)).trans PR0.out)
              have LC := hide (At.lies_below LR1.out BX.out)
              have BC := hide (bthen BL.out BX.out)
              have TA := hide (fun W' => theirs_is r po1 co1 ko1 cp1 cc1 ck1 W')
              have TB := hide (fun W' => theirs_is r po2 co2 ko2 cp2 cc2 ck2 W')
              have TC := hide (fun W' => theirs_is r po0 co0 ko0 cp0 cc0 ck0 W')
              have SA := hide (fun W' (hb : Below wc.heap.size wc W') => same16_is r po1 co1 ko1 po0 co0 ko0 cp1 cc1 ck1 cp0 cc0 ck0 W' (At.lies_below LA.out hb) (At.lies_below LC.out hb) HFW.out)
              have SB := hide (fun W' (hb : Below wc.heap.size wc W') => same16_is r po2 co2 ko2 po0 co0 ko0 cp2 cc2 ck2 cp0 cc0 ck0 W' (At.lies_below LB.out hb) (At.lies_below LC.out hb) HFW.out)
              have CL2 := hide (fun W' (hb : Below wc.heap.size wc W') => CL.out W' (bthen BC.out hb))
              unfold RsV at TA TB TC SA SB
              clear CRA CRB HRA HRB CE NW PR0 LR1 BL LA LB LC BX HFW CL
              obtain ⟨xc0, xc1, xc2, xc3, xc4, xc5, xc6, xc7, xc8, xc9⟩ := cells10 PX.out
              have xr0 := fun dd os => cell_regrown xc0 dd os
              have xr1 := fun dd os => cell_regrown xc1 dd os
              have xr2 := fun dd os => cell_regrown xc2 dd os
              have xr3 := fun dd os => cell_regrown xc3 dd os
              have xr4 := fun dd os => cell_regrown xc4 dd os
              have xr5 := fun dd os => cell_regrown xc5 dd os
              have xr6 := fun dd os => cell_regrown xc6 dd os
              have xr7 := fun dd os => cell_regrown xc7 dd os
              have xr8 := fun dd os => cell_regrown xc8 dd os
              have xr9 := fun dd os => cell_regrown xc9 dd os
              obtain ⟨yc0, yc1, yc2, yc3, yc4, yc5, yc6, yc7, yc8, yc9⟩ := cells10 PY.out
              have yr0 := fun dd os => cell_regrown yc0 dd os
              have yr1 := fun dd os => cell_regrown yc1 dd os
              have yr2 := fun dd os => cell_regrown yc2 dd os
              have yr3 := fun dd os => cell_regrown yc3 dd os
              have yr4 := fun dd os => cell_regrown yc4 dd os
              have yr5 := fun dd os => cell_regrown yc5 dd os
              have yr6 := fun dd os => cell_regrown yc6 dd os
              have yr7 := fun dd os => cell_regrown yc7 dd os
              have yr8 := fun dd os => cell_regrown yc8 dd os
              have yr9 := fun dd os => cell_regrown yc9 dd os
              obtain ⟨zc0, zc1, zc2, zc3, zc4, zc5, zc6, zc7, zc8, zc9⟩ := cells10 PR.out
              have zr0 := fun dd os => cell_regrown zc0 dd os
              have zr1 := fun dd os => cell_regrown zc1 dd os
              have zr2 := fun dd os => cell_regrown zc2 dd os
              have zr3 := fun dd os => cell_regrown zc3 dd os
              have zr4 := fun dd os => cell_regrown zc4 dd os
              have zr5 := fun dd os => cell_regrown zc5 dd os
              have zr6 := fun dd os => cell_regrown zc6 dd os
              have zr7 := fun dd os => cell_regrown zc7 dd os
              have zr8 := fun dd os => cell_regrown zc8 dd os
              have zr9 := fun dd os => cell_regrown zc9 dd os
              go_wp2_with fail
              refine wp_region_quiet_below (by kernel_rfl) (by kernel_rfl) ?_
              repeat (go_big_quiet_step (fail))
              go_big_quiet_step ((go_at_call 17; exact Calls.regrown_of (TA.out _)))
              repeat (go_big_quiet_step (fail))
              go_big_quiet_step ((go_at_call 17; exact Calls.regrown_of (TC.out _)))
              repeat (go_big_quiet_step (fail))
              go_big_quiet_step ((go_at_call 16; exact Calls.regrown_of (SA.out _ (below_regrown _ _ _))))
              repeat (go_big_quiet_step (fail))
              go_big_quiet_step ((go_at_call 17; exact Calls.regrown_of (TB.out _)))
              repeat (go_big_quiet_step (fail))
              go_big_quiet_step ((go_at_call 17; exact Calls.regrown_of (TC.out _)))
              repeat (go_big_quiet_step (fail))
              go_big_quiet_step ((go_at_call 16; exact Calls.regrown_of (SB.out _ (below_regrown _ _ _))))
              repeat (go_big_quiet_step (fail))
              go_big_quiet_step ((go_at_call 10; exact Calls.regrown_of (CL2.out _ (below_regrown _ _ _))))
              repeat (go_big_quiet_step (fail))
              refine wpQuiet_nil ?_
              rintro _ ⟨⟨dd, os⟩, rfl⟩
              have hbq := below_regrown wc dd os
              generalize Sort.grow (redrawn wc dd) os = w9 at hbq
              have B9 := hide (bthen BC.out hbq)
              clear hbq
              go_wp2_with fail
              go_ret
              exact ⟨rfl, B9.out⟩
end Go.Proofs.YtngfoijmknclhaaGreatDoor
