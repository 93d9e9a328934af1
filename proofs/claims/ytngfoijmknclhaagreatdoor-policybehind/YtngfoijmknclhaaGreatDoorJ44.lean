/- policy.Run. -/
import Derived.Test.YtngfoijmknclhaaGreatDoorJ43
namespace Go.Proofs.YtngfoijmknclhaaGreatDoor
open Go.RowKit Go.Sort
/-- What a map makes of a route. -/
def RunTo (mp : Bool) (ok : Bool) (p : Kl → Bool) (m : List Kl) (a : At) (r : Rs) : Prop :=
  if mp = true ∧ ok = true then (m.find? p = none ∧ r = ⟨false, At.zero, 0, 0⟩ ∨ ∃ c, m.find? p = some c ∧ DecTo c a r) else r = ⟨false, At.zero, 0, 1⟩
set_option maxHeartbeats 16000000 in
set_option maxRecDepth 100000 in
theorem run_is (mv : Value) (m : List Kl) (v : Value) (ls : List Ll) (pa pb : Int) (a : At) (po co ko : Option Addr) (cp cc ck : Nat) (g : ByteArray → Bool) (w : World) (hT : Ar.Y4.Pt w) (hm : Rd w 13 KlR mv m) (hmz : m.length ≤ 1000) (hf : ∀ c ∈ m, fewK c) (h : Rd w 2 LlR v ls) (hz : ls.length ≤ 100000) (hp : 0 ≤ pa ∧ pa ≤ 4294967295) (hA : At.lies w a po co ko) (hCA : At.came a po co ko cp cc ck) (h1 : a.path.length ≤ 100) (h2 : a.comms.length ≤ 100) (h3 : a.cl.length ≤ 100) (hg : ∀ s, g s = true ↔ GoesP s a.path) :
    Calls Tryz.prog 18 #[mv, v, .agg #[.int .u32 pa, .int .i64 pb], AtV a po co ko cp cc ck] w (ResGood (RunTo (mapOk m) (routeOk pa pb a) (metP ls pa pb a g) m a) w) := by
  obtain ⟨mr, hmr⟩ : ∃ x, routeOk pa pb a = x := ⟨_, rfl⟩
  obtain ⟨mk, hmk⟩ : ∃ x, mapOk m = x := ⟨_, rfl⟩
  have C1 := hide (fun W' (hb : Below w.heap.size w W') => may_isK mv m W' (hm.below KlR.mono hb) hf)
  have CM := hide (fun W' (hb : Below w.heap.size w W') => mayRoute_is pa pb a po co ko cp cc ck W' hp (At.lies_below hA hb) hCA h1 h2 h3)
  have CB := hide (fun (hm : mr = true) W' (hb : Below w.heap.size w W') => metBy_is v ls pa pb a po co ko cp cc ck g W' (hT.on hb) (h.below LlR.mono hb) hz hp (At.lies_below hA hb) (by
    have : routeOk pa pb a = true := hmr.trans hm
    unfold routeOk At.may at this
    simp only [Bool.and_eq_true] at this
    exact this.2.2.1) h2 hg)
  have CF := hide (fun W' (cs : Array Value) (hb : Below w.heap.size w W') (hfn : FnIs W' 65 cs KlV (fun _ => True) (metP ls pa pb a g)) => first_is mv m W' hfn (hm.below KlR.mono hb) (by omega))
  have CD := hide (fun W' (c : Kl) (cv : Value) (hb : Below w.heap.size w W') (hc : c ∈ m) (hk : KlV W' c cv) => decided_is c cv a po co ko cp cc ck W' hk (hf c hc) (At.lies_below hA hb) hCA h1 h2 h3)
  rw [hmr] at CM
  rw [hmk] at C1
  rw [hmr, hmk]
  have HP : Hid (∀ r, RunTo mk mr (metP ls pa pb a g) m a r ↔ if mk = true ∧ mr = true then (m.find? (metP ls pa pb a g) = none ∧ r = ⟨false, At.zero, 0, 0⟩ ∨ ∃ c, m.find? (metP ls pa pb a g) = some c ∧ DecTo c a r) else r = ⟨false, At.zero, 0, 1⟩) := fun r => Iff.rfl
  obtain ⟨mo, mc, rfl⟩ := hm.slice
  obtain ⟨bo, cb, rfl⟩ := h.slice
  unfold AtV at *
  obtain ⟨nm, hnm⟩ : ∃ x, m.length = x := ⟨_, rfl⟩
  obtain ⟨nl, hnl⟩ : ∃ x, ls.length = x := ⟨_, rfl⟩
  obtain ⟨pn, hpn⟩ : ∃ x, a.path.length = x := ⟨_, rfl⟩
  obtain ⟨cn, hcn⟩ : ∃ x, a.comms.length = x := ⟨_, rfl⟩
  obtain ⟨kn, hkn⟩ : ∃ x, a.cl.length = x := ⟨_, rfl⟩
  rw [hpn, hcn, hkn] at CM CB CD
  rw [hpn, hcn, hkn]
  rw [hnl] at CB ⊢
  rw [hnm] at C1 CF ⊢
  clear hT hm hmz hf h hz hp hA hCA h1 h2 h3 hg hmr hmk hnm hnl hpn hcn hkn
  generalize metP ls pa pb a g = MP at *
  have A1 := balloc (brefl w) (.cells #[.int .u32 pa, .int .i64 pb] 26)
  have A2 := balloc A1 (.cells #[.int .i64 a.pf, .int .i64 a.md, .int .i64 a.og, .slice po pn cp, .slice co cn cc, .int .i64 a.fr, .slice ko kn ck] 30)
  have A3 := balloc A2 (.cells #[.bool false, .int .i64 0, .int .i64 0, .int .i64 0, .slice none 0 0, .slice none 0 0, .int .i64 0, .slice none 0 0, .int .i64 0, .int .i64 0] 52)
  have B3 := hide A3
  have N1 := heap_new w #[.int .u32 pa, .int .i64 pb] 26
  have N2 := heap_new (w.alloc (.cells #[.int .u32 pa, .int .i64 pb] 26)) #[.int .i64 a.pf, .int .i64 a.md, .int .i64 a.og, .slice po pn cp, .slice co cn cc, .int .i64 a.fr, .slice ko kn ck] 30
  have N3 := heap_new ((w.alloc (.cells #[.int .u32 pa, .int .i64 pb] 26)).alloc (.cells #[.int .i64 a.pf, .int .i64 a.md, .int .i64 a.og, .slice po pn cp, .slice co cn cc, .int .i64 a.fr, .slice ko kn ck] 30)) #[.bool false, .int .i64 0, .int .i64 0, .int .i64 0, .slice none 0 0, .slice none 0 0, .int .i64 0, .slice none 0 0, .int .i64 0, .int .i64 0] 52
  have D2 := balloc (brefl (w.alloc (.cells #[.int .u32 pa, .int .i64 pb] 26))) (.cells #[.int .i64 a.pf, .int .i64 a.md, .int .i64 a.og, .slice po pn cp, .slice co cn cc, .int .i64 a.fr, .slice ko kn ck] 30)
  have D3 := balloc (brefl ((w.alloc (.cells #[.int .u32 pa, .int .i64 pb] 26)).alloc (.cells #[.int .i64 a.pf, .int .i64 a.md, .int .i64 a.og, .slice po pn cp, .slice co cn cc, .int .i64 a.fr, .slice ko kn ck] 30))) (.cells #[.bool false, .int .i64 0, .int .i64 0, .int .i64 0, .slice none 0 0, .slice none 0 0, .int .i64 0, .slice none 0 0, .int .i64 0, .int .i64 0] 52)
  have M1 := hide (((bthen D2 D3).block _ (heap_lt N1)).trans N1)
  have M2 := hide ((D3.block _ (heap_lt N2)).trans N2)
  have M3 := hide N3
  rw [sizeA] at M2
  rw [sizeA, sizeA] at M3
  clear A1 A2 A3 N1 N2 N3 D2 D3
  go_enter Tryz.func18, Tryz.ntmps18
  go_upto_region 1 with fail
  obtain ⟨p, hp0⟩ : ∃ x, w.heap.size = x := ⟨_, rfl⟩
  obtain ⟨q, hq0⟩ : ∃ x, p + 1 = x := ⟨_, rfl⟩
  obtain ⟨z, hz0⟩ : ∃ x, q + 1 = x := ⟨_, rfl⟩
  rw [hp0, hq0, hz0] at M3
  rw [hp0, hq0] at M2
  rw [hp0] at M1
  rw [hp0, hq0, hz0]
  have HZ := hide (show w.heap.size ≤ z by omega)
  clear hp0 hq0 hz0
  generalize ((w.alloc (.cells #[.int .u32 pa, .int .i64 pb] 26)).alloc (.cells #[.int .i64 a.pf, .int .i64 a.md, .int .i64 a.og, .slice po pn cp, .slice co cn cc, .int .i64 a.fr, .slice ko kn ck] 30)).alloc (.cells #[.bool false, .int .i64 0, .int .i64 0, .int .i64 0, .slice none 0 0, .slice none 0 0, .int .i64 0, .slice none 0 0, .int .i64 0, .int .i64 0] 52) = W3 at *
  go_wp2_with fail
  refine (C1.out W3 B3.out).mono ?_
  rintro e w4 ⟨rfl, hb4⟩
  have K1 := hide ((hb4.block p (heap_lt M1.out)).trans M1.out)
  have K2 := hide ((hb4.block q (heap_lt M2.out)).trans M2.out)
  have K3 := hide ((hb4.block z (heap_lt M3.out)).trans M3.out)
  have B4 := hide (bthen B3.out hb4)
  clear hb4 C1 M1 M2 M3 B3
  cases mk with
  | false =>
    have HR : Hid (RunTo false mr MP m a ⟨false, At.zero, 0, 1⟩) := (HP.out _).2 (by simp)
    obtain ⟨u0, u1, u2, u3, u4, u5, u6, u7, u8, u9⟩ := cells10 K3.out
    have f0 := frozenG K3.out 0
    have f1 := frozenG K3.out 1
    have f2 := frozenG K3.out 2
    have f3 := frozenG K3.out 3
    have f4 := frozenG K3.out 4
    have f5 := frozenG K3.out 5
    have f6 := frozenG K3.out 6
    have f7 := frozenG K3.out 7
    have f8 := frozenG K3.out 8
    have f9 := frozenG K3.out 9
    go_wp2_with fail
    have BE := hide (put10_below B4.out HZ.out (.bool false) (.int .i64 0) (.int .i64 0) (.int .i64 0) (.slice none 0 0) (.slice none 0 0) (.int .i64 0) (.slice none 0 0) (.int .i64 0) (.int .i64 1))
    have NE := hide (put10_same K3.out (.bool false) (.int .i64 0) (.int .i64 0) (.int .i64 0) (.slice none 0 0) (.slice none 0 0) (.int .i64 0) (.slice none 0 0) (.int .i64 0) (.int .i64 1))
    change bodyPost _ _ _ _ _ (put10 w4 z (.bool false) (.int .i64 0) (.int .i64 0) (.int .i64 0) (.slice none 0 0) (.slice none 0 0) (.int .i64 0) (.slice none 0 0) (.int .i64 0) (.int .i64 1))
    generalize hW9 : put10 w4 z (.bool false) (.int .i64 0) (.int .i64 0) (.int .i64 0) (.slice none 0 0) (.slice none 0 0) (.int .i64 0) (.slice none 0 0) (.int .i64 0) (.int .i64 1) = w9 at *
    obtain ⟨y0, y1, y2, y3, y4, y5, y6, y7, y8, y9⟩ := cells10 NE.out
    refine bodyPost_ret (v := .agg #[.bool false, .int .i64 0, .int .i64 0, .int .i64 0, .slice none 0 0, .slice none 0 0, .int .i64 0, .slice none 0 0, .int .i64 0, .int .i64 1]) ?_ rfl ?_
    · simp [results, Tryz.results18, go_sem, y0, y1, y2, y3, y4, y5, y6, y7, y8, y9]
    · exact zero_res HR.out BE.out
  | true =>
    obtain ⟨p0, p1⟩ : w4.cell? ⟨p, 0, none⟩ = some (.int .u32 pa) ∧ w4.cell? ⟨p, 1, none⟩ = some (.int .i64 pb) := ⟨cell_of K1.out 0 rfl, cell_of K1.out 1 rfl⟩
    obtain ⟨l0, l1, l2, l3, l4, l5, l6⟩ := seven_cells K2.out
    go_wp2_with fail
    refine (CM.out w4 B4.out).mono ?_
    rintro e w5 ⟨rfl, hb5⟩
    have L1 := hide ((hb5.block p (heap_lt K1.out)).trans K1.out)
    have L2 := hide ((hb5.block q (heap_lt K2.out)).trans K2.out)
    have L3 := hide ((hb5.block z (heap_lt K3.out)).trans K3.out)
    have B5 := hide (bthen B4.out hb5)
    clear hb5 CM K1 K2 K3 B4 p0 p1 l0 l1 l2 l3 l4 l5 l6
    cases mr with
    | false =>
      have HR : Hid (RunTo true false MP m a ⟨false, At.zero, 0, 1⟩) := (HP.out _).2 (by simp)
      obtain ⟨u0, u1, u2, u3, u4, u5, u6, u7, u8, u9⟩ := cells10 L3.out
      have f0 := frozenG L3.out 0
      have f1 := frozenG L3.out 1
      have f2 := frozenG L3.out 2
      have f3 := frozenG L3.out 3
      have f4 := frozenG L3.out 4
      have f5 := frozenG L3.out 5
      have f6 := frozenG L3.out 6
      have f7 := frozenG L3.out 7
      have f8 := frozenG L3.out 8
      have f9 := frozenG L3.out 9
      go_wp2_with fail
      have BE := hide (put10_below B5.out HZ.out (.bool false) (.int .i64 0) (.int .i64 0) (.int .i64 0) (.slice none 0 0) (.slice none 0 0) (.int .i64 0) (.slice none 0 0) (.int .i64 0) (.int .i64 1))
      have NE := hide (put10_same L3.out (.bool false) (.int .i64 0) (.int .i64 0) (.int .i64 0) (.slice none 0 0) (.slice none 0 0) (.int .i64 0) (.slice none 0 0) (.int .i64 0) (.int .i64 1))
      change bodyPost _ _ _ _ _ (put10 w5 z (.bool false) (.int .i64 0) (.int .i64 0) (.int .i64 0) (.slice none 0 0) (.slice none 0 0) (.int .i64 0) (.slice none 0 0) (.int .i64 0) (.int .i64 1))
      generalize hW9 : put10 w5 z (.bool false) (.int .i64 0) (.int .i64 0) (.int .i64 0) (.slice none 0 0) (.slice none 0 0) (.int .i64 0) (.slice none 0 0) (.int .i64 0) (.int .i64 1) = w9 at *
      obtain ⟨y0, y1, y2, y3, y4, y5, y6, y7, y8, y9⟩ := cells10 NE.out
      refine bodyPost_ret (v := .agg #[.bool false, .int .i64 0, .int .i64 0, .int .i64 0, .slice none 0 0, .slice none 0 0, .int .i64 0, .slice none 0 0, .int .i64 0, .int .i64 1]) ?_ rfl ?_
      · simp [results, Tryz.results18, go_sem, y0, y1, y2, y3, y4, y5, y6, y7, y8, y9]
      · exact zero_res HR.out BE.out
    | true =>
      obtain ⟨p0, p1⟩ : w5.cell? ⟨p, 0, none⟩ = some (.int .u32 pa) ∧ w5.cell? ⟨p, 1, none⟩ = some (.int .i64 pb) := ⟨cell_of L1.out 0 rfl, cell_of L1.out 1 rfl⟩
      obtain ⟨l0, l1, l2, l3, l4, l5, l6⟩ := seven_cells L2.out
      go_wp2_with fail
      refine (CB.out (by trivial) w5 B5.out).mono ?_
      rintro e w6 ⟨cs, rfl, hfn, hb6⟩
      have Q2 := hide ((hb6.block q (heap_lt L2.out)).trans L2.out)
      have Q3 := hide ((hb6.block z (heap_lt L3.out)).trans L3.out)
      have B6 := hide (bthen B5.out hb6)
      have CF2 := hide (CF.out w6 cs B6.out hfn)
      clear hb6 hfn CB CF L1 L2 L3 B5 p0 p1 l0 l1 l2 l3 l4 l5 l6
      go_wp2_with fail
      refine CF2.out.mono ?_
      rintro e w7 ⟨hb7, ⟨hno, rfl⟩ | ⟨c, kv, hso, hmem, hkv, rfl⟩⟩
      · have HR : Hid (RunTo true true MP m a ⟨false, At.zero, 0, 0⟩) := (HP.out _).2 (by rw [if_pos (by simp)]; exact .inl ⟨hno, rfl⟩)
        have R3 := hide ((hb7.block z (heap_lt Q3.out)).trans Q3.out)
        have B7 := hide (bthen B6.out hb7)
        clear hb7 CF2 hno
        unfold zeroK
        have A8 := hide (balloc (brefl w7) (.cells #[.int .i64 0, .bool false, .string ⟨#[]⟩, .string ⟨#[]⟩, .int .i64 0, .int .i64 0, .int .i64 0, .int .i64 0, .int .i64 0, .slice none 0 0, .slice none 0 0, .bool false, .slice none 0 0] 45))
        go_upto_region 4 with fail
        generalize w7.alloc (.cells #[.int .i64 0, .bool false, .string ⟨#[]⟩, .string ⟨#[]⟩, .int .i64 0, .int .i64 0, .int .i64 0, .int .i64 0, .int .i64 0, .slice none 0 0, .slice none 0 0, .bool false, .slice none 0 0] 45) = w8 at *
        have R4 := hide ((A8.out.block z (heap_lt R3.out)).trans R3.out)
        have B8 := hide (bthen B7.out A8.out)
        obtain ⟨u0, u1, u2, u3, u4, u5, u6, u7, u8, u9⟩ := cells10 R4.out
        have f0 := frozenG R4.out 0
        have f1 := frozenG R4.out 1
        have f2 := frozenG R4.out 2
        have f3 := frozenG R4.out 3
        have f4 := frozenG R4.out 4
        have f5 := frozenG R4.out 5
        have f6 := frozenG R4.out 6
        have f7 := frozenG R4.out 7
        have f8 := frozenG R4.out 8
        have f9 := frozenG R4.out 9
        go_wp2_with fail
        have BE := hide (put10_below B8.out HZ.out (.bool false) (.int .i64 0) (.int .i64 0) (.int .i64 0) (.slice none 0 0) (.slice none 0 0) (.int .i64 0) (.slice none 0 0) (.int .i64 0) (.int .i64 0))
        have NE := hide (put10_same R4.out (.bool false) (.int .i64 0) (.int .i64 0) (.int .i64 0) (.slice none 0 0) (.slice none 0 0) (.int .i64 0) (.slice none 0 0) (.int .i64 0) (.int .i64 0))
        change bodyPost _ _ _ _ _ (put10 w8 z (.bool false) (.int .i64 0) (.int .i64 0) (.int .i64 0) (.slice none 0 0) (.slice none 0 0) (.int .i64 0) (.slice none 0 0) (.int .i64 0) (.int .i64 0))
        generalize hW9 : put10 w8 z (.bool false) (.int .i64 0) (.int .i64 0) (.int .i64 0) (.slice none 0 0) (.slice none 0 0) (.int .i64 0) (.slice none 0 0) (.int .i64 0) (.int .i64 0) = w9 at *
        obtain ⟨y0, y1, y2, y3, y4, y5, y6, y7, y8, y9⟩ := cells10 NE.out
        refine bodyPost_ret (v := .agg #[.bool false, .int .i64 0, .int .i64 0, .int .i64 0, .slice none 0 0, .slice none 0 0, .int .i64 0, .slice none 0 0, .int .i64 0, .int .i64 0]) ?_ rfl ?_
        · simp [results, Tryz.results18, go_sem, y0, y1, y2, y3, y4, y5, y6, y7, y8, y9]
        · exact zero_res HR.out BE.out
      · have R2 := hide ((hb7.block q (heap_lt Q2.out)).trans Q2.out)
        have R3 := hide ((hb7.block z (heap_lt Q3.out)).trans Q3.out)
        have B7 := hide (bthen B6.out hb7)
        have HSO := hide hso
        have HKV := hide hkv
        have CD2 := hide (fun W' hb hk => CD.out W' c kv hb hmem hk)
        obtain ⟨xs, hx, rfl⟩ := hkv
        obtain ⟨o1, o2, o3, c1, c2, c3, rfl, _, _⟩ := hx
        clear hb7 CF2 CD hso hmem Q2 Q3 B6
        unfold Kl.cells at *
        have HD : Hid (∀ r, DecTo c a r → RunTo true true MP m a r) := fun r hr => (HP.out _).2 (by rw [if_pos (by simp)]; exact .inr ⟨c, HSO.out, hr⟩)
        clear HP HSO
        obtain ⟨n, okv, ls3, pt, qa, qn, ⟨pf, md, og, ad, de, clr, pp⟩⟩ := c
        simp only at *
        obtain ⟨na, hna⟩ : ∃ x, ad.length = x := ⟨_, rfl⟩
        obtain ⟨nd, hnd⟩ : ∃ x, de.length = x := ⟨_, rfl⟩
        obtain ⟨np, hnp⟩ : ∃ x, pp.length = x := ⟨_, rfl⟩
        rw [hna, hnd, hnp] at CD2 HKV ⊢
        clear hna hnd hnp
        have A8 := hide (balloc (brefl w7) (.cells #[.int .i64 n, .bool okv, .string ls3, .string pt, .int .i64 qa, .int .i64 qn, .int .i64 pf, .int .i64 md, .int .i64 og, .slice o1 na c1, .slice o2 nd c2, .bool clr, .slice o3 np c3] 45))
        have N8 := hide (heap_new w7 #[.int .i64 n, .bool okv, .string ls3, .string pt, .int .i64 qa, .int .i64 qn, .int .i64 pf, .int .i64 md, .int .i64 og, .slice o1 na c1, .slice o2 nd c2, .bool clr, .slice o3 np c3] 45)
        go_upto_region 4 with fail
        obtain ⟨c9, hc9⟩ : ∃ x, w7.heap.size = x := ⟨_, rfl⟩
        rw [hc9] at N8 ⊢
        clear hc9
        generalize w7.alloc (.cells #[.int .i64 n, .bool okv, .string ls3, .string pt, .int .i64 qa, .int .i64 qn, .int .i64 pf, .int .i64 md, .int .i64 og, .slice o1 na c1, .slice o2 nd c2, .bool clr, .slice o3 np c3] 45) = w8 at *
        have S2 := hide ((A8.out.block q (heap_lt R2.out)).trans R2.out)
        have S3 := hide ((A8.out.block z (heap_lt R3.out)).trans R3.out)
        have B8 := hide (bthen B7.out A8.out)
        have CD3 := hide (CD2.out w8 B8.out (HKV.out.below A8.out))
        clear CD2 HKV A8 R2 R3 B7
        obtain ⟨k0, k1, k2, k3, k4, k5, k6, k7, k8, k9, k10, k11, k12⟩ := cells13 N8.out
        obtain ⟨l0, l1, l2, l3, l4, l5, l6⟩ := seven_cells S2.out
        go_wp2_with fail
        refine CD3.out.mono ?_
        rintro e w9 ⟨r, po2, co2, ko2, cp2, cc2, ck2, rfl, hr, hmi, hca, hb9⟩
        have HR := hide (HD.out r hr)
        have HM := hide hmi
        have HC := hide hca
        have T3 := hide ((hb9.block z (heap_lt S3.out)).trans S3.out)
        have GL := hide (heap_lt S3.out)
        have B9 := hide (bthen B8.out hb9)
        clear hr hmi hca hb9 CD3 HD S2 S3 N8 k0 k1 k2 k3 k4 k5 k6 k7 k8 k9 k10 k11 k12 l0 l1 l2 l3 l4 l5 l6
        unfold RsV
        obtain ⟨rp, hrp⟩ : ∃ x, r.atr.path.length = x := ⟨_, rfl⟩
        obtain ⟨rc, hrc⟩ : ∃ x, r.atr.comms.length = x := ⟨_, rfl⟩
        obtain ⟨rk, hrk⟩ : ∃ x, r.atr.cl.length = x := ⟨_, rfl⟩
        rw [hrp, hrc, hrk]
        have HRL := hide (And.intro hrp (And.intro hrc hrk))
        clear hrp hrc hrk
        have H9 : Hid (At.mine w.heap.size (put10 w9 z (.bool r.pass) (.int .i64 r.atr.pf) (.int .i64 r.atr.md) (.int .i64 r.atr.og) (.slice po2 rp cp2) (.slice co2 rc cc2) (.int .i64 r.atr.fr) (.slice ko2 rk ck2) (.int .i64 r.cl) (.int .i64 r.er)) r.atr po2 co2 ko2) :=
          mine_hold HM.out B8.out.size (fun b hb hbw => put10_other _ _ _ _ _ _ _ _ _ _ _ _ b (by have := GL.out; omega))
        obtain ⟨u0, u1, u2, u3, u4, u5, u6, u7, u8, u9⟩ := cells10 T3.out
        have f0 := frozenG T3.out 0
        have f1 := frozenG T3.out 1
        have f2 := frozenG T3.out 2
        have f3 := frozenG T3.out 3
        have f4 := frozenG T3.out 4
        have f5 := frozenG T3.out 5
        have f6 := frozenG T3.out 6
        have f7 := frozenG T3.out 7
        have f8 := frozenG T3.out 8
        have f9 := frozenG T3.out 9
        go_wp2_with fail
        have BE := hide (put10_below B9.out HZ.out (.bool r.pass) (.int .i64 r.atr.pf) (.int .i64 r.atr.md) (.int .i64 r.atr.og) (.slice po2 rp cp2) (.slice co2 rc cc2) (.int .i64 r.atr.fr) (.slice ko2 rk ck2) (.int .i64 r.cl) (.int .i64 r.er))
        have NE := hide (put10_same T3.out (.bool r.pass) (.int .i64 r.atr.pf) (.int .i64 r.atr.md) (.int .i64 r.atr.og) (.slice po2 rp cp2) (.slice co2 rc cc2) (.int .i64 r.atr.fr) (.slice ko2 rk ck2) (.int .i64 r.cl) (.int .i64 r.er))
        change bodyPost _ _ _ _ _ (put10 w9 z (.bool r.pass) (.int .i64 r.atr.pf) (.int .i64 r.atr.md) (.int .i64 r.atr.og) (.slice po2 rp cp2) (.slice co2 rc cc2) (.int .i64 r.atr.fr) (.slice ko2 rk ck2) (.int .i64 r.cl) (.int .i64 r.er))
        generalize hW9 : put10 w9 z (.bool r.pass) (.int .i64 r.atr.pf) (.int .i64 r.atr.md) (.int .i64 r.atr.og) (.slice po2 rp cp2) (.slice co2 rc cc2) (.int .i64 r.atr.fr) (.slice ko2 rk ck2) (.int .i64 r.cl) (.int .i64 r.er) = w10 at *
        obtain ⟨y0, y1, y2, y3, y4, y5, y6, y7, y8, y9⟩ := cells10 NE.out
        refine bodyPost_ret (v := .agg #[.bool r.pass, .int .i64 r.atr.pf, .int .i64 r.atr.md, .int .i64 r.atr.og, .slice po2 rp cp2, .slice co2 rc cc2, .int .i64 r.atr.fr, .slice ko2 rk ck2, .int .i64 r.cl, .int .i64 r.er]) ?_ rfl ?_
        · simp [results, Tryz.results18, go_sem, y0, y1, y2, y3, y4, y5, y6, y7, y8, y9]
        · obtain ⟨e1, e2, e3⟩ := HRL.out
          subst e1 e2 e3
          exact ⟨r, po2, co2, ko2, cp2, cc2, ck2, rfl, HR.out, H9.out, HC.out, BE.out⟩
end Go.Proofs.YtngfoijmknclhaaGreatDoor
namespace Go.Proofs.YtngfoijmknclhaaGreatDoor
open Go.RowKit Go.Sort
def fewT (c : Kl) : Prop := c.ls.size ≤ 100 ∧ c.pt.size ≤ 100 ∧ fewK c
def fewL (l : Ll) : Prop := l.nm.size ≤ 100 ∧ l.rs.length ≤ 20
def FewAll (m : List Kl) (ls : List Ll) : Prop := m.length ≤ 20 ∧ ls.length ≤ 20 ∧ (∀ c ∈ m, fewT c) ∧ ∀ l ∈ ls, fewL l
def Few16Good (m : List Kl) (ls : List Ll) (w : World) (e : Ending) (w' : World) : Prop := ∃ r, e = .returned (.bool r) ∧ (r = true → FewAll m ls) ∧ Below w.heap.size w w'
theorem all_of {α : Type} {l : List α} {P : α → Prop} (h : ∀ j (hj : j < l.length), P l[j]) : ∀ c ∈ l, P c := fun c hc => by
  obtain ⟨k, hk, rfl⟩ := List.getElem_of_mem hc
  exact h k hk
set_option maxHeartbeats 8000000 in
set_option maxRecDepth 100000 in
theorem few16_is (mv v : Value) (m : List Kl) (ls : List Ll) (w : World) (hm : Rd w 13 KlR mv m) (h : Rd w 2 LlR v ls) :
    Calls Tryz.prog 8 #[mv, v] w (Few16Good m ls w) := by
  obtain ⟨mo, mc, rfl⟩ := hm.slice
  obtain ⟨bo, cb, rfl⟩ := h.slice
  by_cases hz1 : 20 < m.length
  · have hz : (20 : Int) < (m.length : Int) := by omega
    go_enter Tryz.func8, Tryz.ntmps8
    go_wp2_with fail
    go_ret
    exact ⟨false, rfl, fun h => (by cases h), brefl w⟩
  by_cases hz2 : 20 < ls.length
  · have hz : ¬ (20 : Int) < (m.length : Int) := by omega
    have hz' : (20 : Int) < (ls.length : Int) := by omega
    go_enter Tryz.func8, Tryz.ntmps8
    go_wp2_with fail
    go_ret
    exact ⟨false, rfl, fun h => (by cases h), brefl w⟩
  have z1 : ¬ (20 : Int) < (m.length : Int) := by omega
  have z2 : ¬ (20 : Int) < (ls.length : Int) := by omega
  have HZ : Hid (m.length ≤ 20 ∧ ls.length ≤ 20) := ⟨by omega, by omega⟩
  have HM := hide hm
  have HL := hide h
  clear hm h
  go_enter Tryz.func8, Tryz.ntmps8
  go_wp2_with fail
  go_loopw [5] (fun v5 wr => ∃ k : Nat, v5 = .int .i64 k ∧ k ≤ m.length ∧ Hid (∀ j (hj : j < m.length), j < k → fewT m[j]) ∧ Hid (Below w.heap.size w wr)) (fun v5 _ => m.length - (intOf v5).toNat)
  case atStart => exact ⟨0, rfl, Nat.zero_le _, hide (fun j _ h => absurd h (Nat.not_lt_zero j)), brefl w⟩
  case round =>
    obtain ⟨k, rfl, hk, HA, HBR⟩ := hrel
    by_cases hkl : k < m.length
    · have hkl' : (k : Int) < (m.length : Int) := by omega
      obtain ⟨b, off, xs, rfl, hbw, hx, hxl, ha⟩ := (Rd.below KlR.mono HM.out HBR.out).at_ hkl
      obtain ⟨o1, o2, o3, c1, c2, c3, rfl, _, _⟩ := hx
      have HNX : Hid (m[k].ls.size ≤ 100 → m[k].pt.size ≤ 100 → fewK m[k] → ∀ j (hj : j < m.length), j < k + 1 → fewT m[j]) := fun e1 e2 e3 j hj hjk => by
        rcases Nat.lt_or_ge j k with h | h
        · exact HA.out j hj h
        · obtain rfl : j = k := by omega
          exact ⟨e1, e2, e3⟩
      unfold Kl.cells at ha
      unfold fewK at HNX
      clear HA hxl
      generalize hlk : m[k] = y at *
      clear hlk
      obtain ⟨n, okv, lt, pt, qa, qn, ⟨pf, md, og, ad, de, clr, pp⟩⟩ := y
      simp only at *
      obtain ⟨fr, hfr⟩ : ∃ x, few3 ad.length de.length pp.length = x := ⟨_, rfl⟩
      have CF := hide (fun W => fewSet_is pf md og o1 o2 o3 ad.length de.length pp.length c1 c2 c3 clr fr hfr W)
      have HF : Hid (fr = true → ad.length ≤ 100 ∧ de.length ≤ 100 ∧ pp.length ≤ 100) := fun h => (few3_iff _ _ _).1 (hfr.trans h)
      clear hfr
      generalize ad.length = na at *
      generalize de.length = nd at *
      generalize pp.length = np at *
      have e2 := ha 2 _ rfl
      have e3 := ha 3 _ rfl
      have e6 := ha 6 _ rfl
      have e7 := ha 7 _ rfl
      have e8 := ha 8 _ rfl
      have e9 := ha 9 _ rfl
      have e10 := ha 10 _ rfl
      have e11 := ha 11 _ rfl
      have e12 := ha 12 _ rfl
      clear ha
      by_cases h1 : (100 : Int) < (lt.size : Int)
      · go_wp2_with fail
        go_ret
        exact ⟨false, rfl, fun h => (by cases h), HBR.out⟩
      · by_cases h2 : (100 : Int) < (pt.size : Int)
        · go_wp2_with fail
          go_ret
          exact ⟨false, rfl, fun h => (by cases h), HBR.out⟩
        · have HS : Hid (lt.size ≤ 100 ∧ pt.size ≤ 100) := ⟨by omega, by omega⟩
          go_wp2_with fail
          refine (CF.out wr).mono ?_
          rintro e w1 ⟨rfl, hb1⟩
          have B1 := hide (bthen HBR.out hb1)
          clear hb1 CF e2 e3 e6 e7 e8 e9 e10 e11 e12
          cases fr with
          | false =>
            go_wp2_with fail
            go_ret
            exact ⟨false, rfl, fun h => (by cases h), B1.out⟩
          | true =>
            have HX := hide (HNX.out HS.out.1 HS.out.2 (HF.out rfl))
            clear HNX HF HS
            go_wp2_with fail
            exact ⟨⟨k + 1, by go_num, by omega, HX, B1⟩, by simp [intOf] <;> omega⟩
    · have hkl' : ¬ (k : Int) < (m.length : Int) := by omega
      have HALL := hide (all_of (P := fewT) (fun j hj => HA.out j hj (by omega)))
      clear HA
      go_wp2_with fail
      go_loopw [6] (fun v6 wq => ∃ k : Nat, v6 = .int .i64 k ∧ k ≤ ls.length ∧ Hid (∀ j (hj : j < ls.length), j < k → fewL ls[j]) ∧ Hid (Below w.heap.size w wq)) (fun v6 _ => ls.length - (intOf v6).toNat)
      case atStart => exact ⟨0, rfl, Nat.zero_le _, hide (fun j _ h => absurd h (Nat.not_lt_zero j)), HBR⟩
      case round =>
        obtain ⟨i, rfl, hi, HA2, HBR2⟩ := hrel
        by_cases hil : i < ls.length
        · have hil' : (i : Int) < (ls.length : Int) := by omega
          obtain ⟨b, off, xs, rfl, hbw, hx, hxl, ha⟩ := (Rd.below LlR.mono HL.out HBR2.out).at_ hil
          obtain ⟨o1, c1, rfl, _, _⟩ := hx
          have HNX : Hid (ls[i].nm.size ≤ 100 → ls[i].rs.length ≤ 20 → ∀ j (hj : j < ls.length), j < i + 1 → fewL ls[j]) := fun e1 e2 j hj hjk => by
            rcases Nat.lt_or_ge j i with h | h
            · exact HA2.out j hj h
            · obtain rfl : j = i := by omega
              exact ⟨e1, e2⟩
          clear HA2 hxl
          generalize hlk : ls[i] = y at *
          clear hlk
          obtain ⟨nm, rs⟩ := y
          simp only at *
          generalize rs.length = nr at *
          have e0 := ha 0 _ rfl
          have e1 := ha 1 _ rfl
          simp only [Nat.add_zero] at e0
          clear ha
          by_cases h1 : (100 : Int) < (nm.size : Int)
          · go_wp2_with fail
            go_ret
            exact ⟨false, rfl, fun h => (by cases h), HBR2.out⟩
          · by_cases h2 : (20 : Int) < (nr : Int)
            · go_wp2_with fail
              go_ret
              exact ⟨false, rfl, fun h => (by cases h), HBR2.out⟩
            · have HX := hide (HNX.out (by omega) (by omega))
              clear HNX
              go_wp2_with fail
              exact ⟨⟨i + 1, by go_num, by omega, HX, HBR2⟩, by simp [intOf] <;> omega⟩
        · have hil' : ¬ (i : Int) < (ls.length : Int) := by omega
          have HALL2 := hide (all_of (P := fewL) (fun j hj => HA2.out j hj (by omega)))
          clear HA2
          go_wp2_with fail
          go_ret
          exact ⟨true, rfl, fun _ => ⟨HZ.out.1, HZ.out.2, HALL.out, HALL2.out⟩, HBR2.out⟩
end Go.Proofs.YtngfoijmknclhaaGreatDoor
