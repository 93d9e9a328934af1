/- Part of the proof. -/
import Derived.Test.YtnadhplhnfpeaaaGreatDoorAZ
import Derived.Test.YtnadhplhnfpeaaaGreatDoorA24
namespace Go.Proofs.YtnadhplhnfpeaaaGreatDoor
open Go.RowKit Go.Sort
theorem infoLs : (Tryz.prog.info? 66).map (fun i => (i.zero, i.size, i.bytes)) = some (some (.agg #[.string ⟨#[]⟩, .slice none 0 0]), 2, 40) := by kernel_rfl
theorem info_partsLs : ∃ i0 : TypeInfo, Tryz.prog.info? 66 = some i0 ∧ i0.zero = some (.agg #[.string ⟨#[]⟩, .slice none 0 0]) ∧ i0.size = 2 ∧ i0.bytes = 40 := by
 have h := infoLs
 cases hi : Tryz.prog.info? 66 with
 | none => rw [hi] at h; cases h
 | some i0 =>
  rw [hi] at h
  simp only [Option.map_some, Option.some.injEq, Prod.mk.injEq] at h
  exact ⟨i0, rfl, h.1, h.2.1, h.2.2⟩
theorem infoMp : (Tryz.prog.info? 70).map (fun i => (i.zero, i.size, i.bytes)) = some (some (.agg #[.string ⟨#[]⟩, .slice none 0 0]), 2, 40) := by kernel_rfl
theorem info_partsMp : ∃ i0 : TypeInfo, Tryz.prog.info? 70 = some i0 ∧ i0.zero = some (.agg #[.string ⟨#[]⟩, .slice none 0 0]) ∧ i0.size = 2 ∧ i0.bytes = 40 := by
 have h := infoMp
 cases hi : Tryz.prog.info? 70 with
 | none => rw [hi] at h; cases h
 | some i0 =>
  rw [hi] at h
  simp only [Option.map_some, Option.some.injEq, Prod.mk.injEq] at h
  exact ⟨i0, rfl, h.1, h.2.1, h.2.2⟩
theorem infoRt : (Tryz.prog.info? 50).map (fun i => (i.zero, i.size, i.bytes)) = some (some (.agg #[.string ⟨#[]⟩, .int .i64 0, .int .i64 0, .slice none 0 0, .slice none 0 0, .slice none 0 0]), 6, 104) := by kernel_rfl
theorem info_partsRt : ∃ i0 : TypeInfo, Tryz.prog.info? 50 = some i0 ∧ i0.zero = some (.agg #[.string ⟨#[]⟩, .int .i64 0, .int .i64 0, .slice none 0 0, .slice none 0 0, .slice none 0 0]) ∧ i0.size = 6 ∧ i0.bytes = 104 := by
 have h := infoRt
 cases hi : Tryz.prog.info? 50 with
 | none => rw [hi] at h; cases h
 | some i0 =>
  rw [hi] at h
  simp only [Option.map_some, Option.some.injEq, Prod.mk.injEq] at h
  exact ⟨i0, rfl, h.1, h.2.1, h.2.2⟩
theorem three_cells {w : World} {b y : Nat} {x0 x1 x2 : Value} (h : w.heap[b]? = some (.cells #[x0, x1, x2] y (0, 0))) : w.cell? ⟨b, 0, none⟩ = some x0 ∧ w.cell? ⟨b, 1, none⟩ = some x1 ∧ w.cell? ⟨b, 2, none⟩ = some x2 := by
 simp [World.cell?, h]
structure CvOk (v : Cv) : Prop where
  n1 : v.n1 = v.lists.map Ls.name
  n2 : v.n2 = v.maps.map Mp.name
  n3 : v.n3 = v.routers.map Rt.name
  many : v.lists.length ≤ 17 ∧ v.maps.length ≤ 17 ∧ v.routers.length ≤ 9
def CvFit (v : Cv) : Prop := v.lists.length ≤ 16 ∧ v.maps.length ≤ 16 ∧ v.routers.length ≤ 8
theorem head_none {s : Sta} (h : s.len = 0) : headS s = none := by
 cases s with
 | good r l =>
  obtain rfl : r = [] := List.length_eq_zero_iff.1 h
  rfl
 | bad p q e => rfl
theorem cf_end (F : Fn) (en : Int × Int) (f g : Nat) (c : Cf) (s : Sta) (h : s.len = 0) : (pCf F f (g + 1) c).exec en s = (okv c s, s) := by
 rw [pCf, exec_peek, head_none h]
 show (if _ then _ else _ : Pg Cf).exec en s = _
 rw [if_pos (by rfl), exec_ret]
theorem cf_on (F : Fn) (en : Int × Int) (f g : Nat) (c y : Cf) (s : Sta) (h : ¬ s.len = 0) (hy : ∀ a, ((pItem F f c (taken en s).1.k (taken en s).1.s).exec en (taken en s).2).1 = some a → y = a) : (pCf F f (g + 1) c).exec en s = (pCf F f g y).exec en ((pItem F f c (taken en s).1.k (taken en s).1.s).exec en (taken en s).2).2 := by
 cases s with
 | bad p q e => exact absurd rfl h
 | good r l =>
  cases r with
  | nil => exact absurd rfl h
  | cons t r =>
   rw [pCf, exec_peek]
   show (if _ then _ else _ : Pg Cf).exec en _ = _
   rw [if_neg (by simp [headS]), exec_next]
   exact exec_then en _ (fun d => pCf F f g d) _ y hy
theorem taken_good (en : Int × Int) (s : Sta) (h : ¬ s.len = 0) : ∃ r m, (taken en s).2 = .good r m ∧ s.len = r.length + 1 := by
 cases s with
 | bad p q e => exact absurd rfl h
 | good r l =>
  cases r with
  | nil => exact absurd rfl h
  | cons t r => exact ⟨r, _, rfl, rfl⟩
structure CfIs (E : En) (w : World) (F : Fn) (f : Nat) (R : Option Cf × Sta) (rc cb c1 x1 c2 x2 c3 x3 : Nat) (v : Cv) (s : Sta) (g : Nat) (wr : World) : Prop where
  at_ : CvAt E w.heap.size wr v
  ps : Ps E wr s
  rest : (pCf F f g v.cf).exec E.en s = R
  fuel : s.len < g
  but : But (but1 E.pb) w wr
  ok : CvOk v
  fit : ∀ r m, s = .good r m → CvFit v
  fixed : cb = v.cb ∧ (c1 = v.c1 ∧ x1 = v.x1) ∧ (c2 = v.c2 ∧ x2 = v.x2) ∧ c3 = v.c3 ∧ x3 = v.x3
  rc : wr.heap[rc]? = some (.cells #[.slice none 0 0, .slice none 0 0, .slice none 0 0] 33 (0, 0))
set_option maxHeartbeats 16000000 in
set_option maxRecDepth 100000 in
theorem config_is {T : World → Prop} {F : Fn} (K : Kit12 T F) (E : En) (hT : T E.w0) (f : Nat) (hf : 100000 < f) (st : Sta) (w : World) (h : Ps E w st) : Calls Tryz.prog 21 #[.pointer (some ⟨E.pb, 0, none⟩)] w fun e w' => ∃ (c : Cf) (v1 v2 v3 : Value), e = .returned (.agg #[v1, v2, v3]) ∧ (RowOf w' w.heap.size 66 2 LsC v1 c.lists ∧ RowOf w' w.heap.size 70 2 MpC v2 c.maps ∧ RowOf w' w.heap.size 50 6 RtC v3 c.routers) ∧ But (but1 E.pb) w w' ∧ Ps E w' ((pCf F f f .nil).exec E.en st).2 ∧ ∀ a, ((pCf F f f .nil).exec E.en st).1 = some a → c = a := by
 obtain ⟨i1, hi1, hy1, hy2, hy3⟩ := info_partsLs
 obtain ⟨i2, hi2, hz1, hz2, hz3⟩ := info_partsMp
 obtain ⟨i3, hi3, hu1, hu2, hu3⟩ := info_partsRt
 have C37 := hide (fun W (hW : Ps E W st) => once_new E st W hW)
 have HLN : Hid (st.len < f) := Nat.lt_of_le_of_lt h.few hf
 obtain ⟨R, hR⟩ : ∃ R, (pCf F f f .nil).exec E.en st = R := ⟨_, rfl⟩
 rw [hR]
 have HR := hide hR
 clear hR
 have A0 := hide (balloc (balloc (brefl w) (.cells #[.slice none 0 0, .slice none 0 0, .slice none 0 0] 33)) (.cells #[.slice none 0 0, .slice none 0 0, .slice none 0 0] 33))
 have R0 := hide (((balloc (brefl (w.alloc (.cells #[.slice none 0 0, .slice none 0 0, .slice none 0 0] 33))) (.cells #[.slice none 0 0, .slice none 0 0, .slice none 0 0] 33)).block w.heap.size (by rw [size_alloc]; omega)).trans (heap_new w #[.slice none 0 0, .slice none 0 0, .slice none 0 0] 33))
 have M0 := hide (heap_new (w.alloc (.cells #[.slice none 0 0, .slice none 0 0, .slice none 0 0] 33)) #[.slice none 0 0, .slice none 0 0, .slice none 0 0] 33)
 rw [size_alloc] at M0
 have P0 := hide (h.below A0.out)
 have HPB := hide h.lt
 have HW0 := hide h.1.size
 have HKT := hide (And.intro hT hf)
 have KK := hide K
 clear h hT hf K
 obtain ⟨W0, pb, en⟩ := E
 unfold Oc.fn at C37
 simp only at *
 go_enter Tryz.func21, Tryz.ntmps21
 go_upto_region 2 with fail
 obtain ⟨rc, hrc⟩ : ∃ rc, w.heap.size = rc := ⟨_, rfl⟩
 obtain ⟨cb, hcb⟩ : ∃ cb, w.heap.size + 1 = cb := ⟨_, rfl⟩
 have HNE : Hid (rc ≠ pb ∧ cb ≠ pb ∧ rc ≠ cb ∧ w.heap.size ≤ rc ∧ w.heap.size ≤ cb ∧ W0.heap.size ≤ rc ∧ W0.heap.size ≤ cb) := by have h9 := HPB.out; have h8 := HW0.out; exact ⟨by omega, by omega, by omega, by omega, by omega, by omega, by omega⟩
 rw [hrc] at R0
 rw [hcb] at M0 ⊢
 rw [hrc]
 generalize (w.alloc (.cells #[.slice none 0 0, .slice none 0 0, .slice none 0 0] 33)).alloc (.cells #[.slice none 0 0, .slice none 0 0, .slice none 0 0] 33) = W at *
 clear hrc hcb
 go_wp2_with fail
 refine (C37.out _ P0.out).mono ?_
 rintro e w1 ⟨c1, x1, rfl, o1, l1, _, b1⟩
 have P1 := hide (P0.out.below b1)
 have A1 := hide (bthen A0.out b1)
 have O11 := hide o1
 have HL1 := hide (And.intro (Nat.le_trans A0.out.size l1) o1.lt.1)
 have R1 := hide ((b1.block rc (heap_lt R0.out)).trans R0.out)
 have M1 := hide ((b1.block cb (heap_lt M0.out)).trans M0.out)
 clear o1 l1 b1 P0 A0 R0 M0
 go_wp2_with fail
 refine (C37.out _ P1.out).mono ?_
 rintro e w2 ⟨c2, x2, rfl, o2, l2, _, b2⟩
 have P2 := hide (P1.out.below b2)
 have A2 := hide (bthen A1.out b2)
 have O12 := hide (O11.out.below b2)
 have O22 := hide o2
 have HL2 := hide (And.intro (Nat.le_trans A1.out.size l2) (And.intro o2.lt.1 (show c1 ≠ c2 from by have h9 : c1 < w1.heap.size := HL1.out.2; omega)))
 have R2 := hide ((b2.block rc (heap_lt R1.out)).trans R1.out)
 have M2 := hide ((b2.block cb (heap_lt M1.out)).trans M1.out)
 clear o2 l2 b2 P1 A1 R1 M1 O11
 go_wp2_with fail
 refine (C37.out _ P2.out).mono ?_
 rintro e w3 ⟨c3, x3, rfl, o3, l3, _, b3⟩
 have P3 := hide (P2.out.below b3)
 have A3 := hide (bthen A2.out b3)
 have O13 := hide (O12.out.below b3)
 have O23 := hide (O22.out.below b3)
 have O33 := hide o3
 have HL3 := hide (And.intro (Nat.le_trans A2.out.size l3) (And.intro (show c1 ≠ c3 from by have h9 : c1 < w2.heap.size := O12.out.lt.1; omega) (show c2 ≠ c3 from by have h9 : c2 < w2.heap.size := HL2.out.2.1; omega)))
 have R3 := hide ((b3.block rc (heap_lt R2.out)).trans R2.out)
 have M3 := hide ((b3.block cb (heap_lt M2.out)).trans M2.out)
 clear o3 l3 b3 P2 A2 R2 M2 O12 O22 C37
 have I3 : Hid (CvAt ⟨W0, pb, en⟩ w.heap.size w3 ⟨cb, c1, x1, c2, x2, c3, x3, .slice none 0 0, .slice none 0 0, .slice none 0 0, [], [], [], [], [], [], none, none, none⟩) := ⟨M3.out, rowOf_nil _ _ _ _ _, rowOf_nil _ _ _ _ _, rowOf_nil _ _ _ _ _, O13.out, O23.out, O33.out, ⟨⟨HL2.out.2.2, HL3.out.2.1, HL3.out.2.2⟩, fun _ h => (by cases h), fun _ h => (by cases h)⟩, ⟨HW0.out, A3.out.size⟩, HNE.out.2.2.2.2.1, HNE.out.2.1, HL1.out.1, HL2.out.1, HL3.out.1, fun _ h => (by cases h), fun _ h => (by cases h), fun _ h => (by cases h)⟩
 have START : Hid (CfIs ⟨W0, pb, en⟩ w F f R rc cb c1 x1 c2 x2 c3 x3 ⟨cb, c1, x1, c2, x2, c3, x3, .slice none 0 0, .slice none 0 0, .slice none 0 0, [], [], [], [], [], [], none, none, none⟩ st f w3) := ⟨I3.out, P3.out, HR.out, HLN.out, But.of A3.out, ⟨rfl, rfl, rfl, by simp⟩, fun _ _ _ => by simp [CvFit], ⟨rfl, ⟨rfl, rfl⟩, ⟨rfl, rfl⟩, rfl, rfl⟩, R3.out⟩
 clear I3 P3 A3 O13 O23 O33 R3 M3 HL1 HL2 HL3 HR HLN
 go_wp2_with fail
 go_loopw [7] (fun _ wr => ∃ (v : Cv) (s : Sta) (g : Nat), Hid (CfIs ⟨W0, pb, en⟩ w F f R rc cb c1 x1 c2 x2 c3 x3 v s g wr)) (fun _ wr => pbLen wr pb)
 case atStart => exact ⟨_, st, f, START⟩
 case round =>
 clear START
 obtain ⟨v, s, g, CI⟩ := hrel
 obtain ⟨g, rfl⟩ : ∃ g', g = g' + 1 := ⟨g - 1, by have := CI.out.fuel; omega⟩
 have HLE := hide CI.out.ps.len
 obtain ⟨_, _, ao, n, cp, q1, q2, q5, hg, hv⟩ := CI.out.ps
 obtain ⟨⟨z0, _, _, _, _, _⟩, _⟩ := six_cells hg
 have hns : n = s.len := by
  cases s with
  | good r l => exact hv.1.symm
  | bad p q x => exact hv.2.1
 simp only at z0
 clear hg hv
 by_cases hs0 : s.len = 0
 ·
  have h1 : ¬ (0 : Int) < (n : Int) := by omega
  have HRE : Hid (R = (okv v.cf s, s)) := by rw [← CI.out.rest]; exact cf_end F en f g v.cf s hs0
  obtain ⟨h1a, h2a, h3a⟩ := And.intro CI.out.at_.lists (And.intro CI.out.at_.maps CI.out.at_.routers)
  obtain ⟨a1, k1, hv1⟩ := h1a.slice
  obtain ⟨a2, k2, hv2⟩ := h2a.slice
  obtain ⟨a3, k3, hv3⟩ := h3a.slice
  have MM := CI.out.at_.mem
  rw [hv1, hv2, hv3, ← CI.out.fixed.1] at MM
  rw [hv1] at h1a
  rw [hv2] at h2a
  rw [hv3] at h3a
  have H1 := hide h1a
  have H2 := hide h2a
  have H3 := hide h3a
  have MB := hide MM
  have RC := hide CI.out.rc
  have BB := hide CI.out.but
  have PP := hide CI.out.ps
  obtain ⟨N1, hN1⟩ : ∃ N, v.lists.length = N := ⟨_, rfl⟩
  obtain ⟨N2, hN2⟩ : ∃ N, v.maps.length = N := ⟨_, rfl⟩
  obtain ⟨N3, hN3⟩ : ∃ N, v.routers.length = N := ⟨_, rfl⟩
  rw [hN1] at H1 MB
  rw [hN2] at H2 MB
  rw [hN3] at H3 MB
  clear h1a h2a h3a hv1 hv2 hv3 hN1 hN2 hN3 MM CI hns hs0
  go_upto_region 16 with fail
  obtain ⟨m0, m1, m2⟩ := three_cells MB.out
  obtain ⟨r0, r1, r2⟩ := three_cells RC.out
  have f0 := unfrozen RC.out 0
  have f1 := unfrozen RC.out 1
  have f2 := unfrozen RC.out 2
  clear z0 h1
  go_wp2_with fail
  have b6 := (((But.refl (fun k => k = rc) wr).setCell (p := ⟨rc, 0, none⟩) (.inl rfl) (.slice a1 N1 k1)).setCell (p := ⟨rc, 1, none⟩) (.inl rfl) (.slice a2 N2 k2)).setCell (p := ⟨rc, 2, none⟩) (.inl rfl) (.slice a3 N3 k3)
  have R6 := heap_setCell_same _ rc 2 _ 33 (.slice a3 N3 k3) (heap_setCell_same _ rc 1 _ 33 (.slice a2 N2 k2) (heap_setCell_same _ rc 0 _ 33 (.slice a1 N1 k1) RC.out))
  have av := fun t (ht : (33 : Nat) ≠ t) => av_one RC.out ht
  refine bodyPost_ret (v := .agg #[.slice a1 N1 k1, .slice a2 N2 k2, .slice a3 N3 k3]) ?_ rfl ⟨v.cf, _, _, _, rfl, ⟨RowOf.keep LsC.keeps H1.out b6 (fun t h => av t (by intro e; subst e; revert h; simp [tLs])) (av 66 (by decide)), RowOf.keep MpC.keeps H2.out b6 (fun t h => av t (by intro e; subst e; revert h; simp [tMp])) (av 70 (by decide)), RowOf.keep RtC.keeps H3.out b6 (fun t h => av t (by intro e; subst e; revert h; simp [tRt])) (av 50 (by decide))⟩, BB.out.thens b6 (fun i hi e => by have h1 := HNE.out.2.2.2.1; have h2 : i = rc := e; omega), ?_, fun a ha => by rw [HRE.out] at ha; exact okv_some ha⟩
  ·
   obtain ⟨t0, t1, t2⟩ := three_cells R6
   simp [results, Tryz.results21, go_sem, t0, t1, t2]
  rw [HRE.out]
  exact PP.out.of b6 (fun e => HNE.out.1 e.symm) (fun k e => by rw [show k = rc from e]; exact HNE.out.2.2.2.2.2.1)
 have h1 : (0 : Int) < (n : Int) := by omega
 have CN := hide (next_is ⟨W0, pb, en⟩ s wr CI.out.ps)
 obtain ⟨rr, mm, htk, hlen⟩ := taken_good en s hs0
 have HTA := hide (taken_at en s)
 have HSTEP := hide (fun y hy => (cf_on F en f g v.cf y s hs0 hy).symm.trans CI.out.rest)
 have HFIT := hide (fun r m (e : s = .good r m) => CI.out.fit r m e)
 have HFV : Hid (CvFit v) := by cases s with | good r m => exact CI.out.fit r m rfl | bad p q e => exact absurd rfl hs0
 simp only at CN
 obtain ⟨s1, hs1⟩ : ∃ x, (taken en s).2 = x := ⟨_, rfl⟩
 rw [hs1] at CN HTA HSTEP htk
 obtain ⟨t, ht⟩ : ∃ x, (taken en s).1 = x := ⟨_, rfl⟩
 rw [ht] at CN HTA HSTEP
 clear hs1 ht
 have HS1 : Hid (s1.len < s.len) := by rw [htk]; show rr.length < _; omega
 have HG : Hid (s.len < g + 1) := CI.out.fuel
 have I0 := hide CI.out.at_
 have P0 := hide CI.out.ps
 have B0 := hide CI.out.but
 have RC0 := hide CI.out.rc
 have HOK := hide CI.out.ok
 have HFX := hide CI.out.fixed
 have HWR : Hid (pbLen wr pb = s.len) := HLE.out
 clear HFIT CI HLE hs0 hns htk hlen
 have CW := hide (word_is t)
 have CF := hide (fault_is ⟨W0, pb, en⟩ s1 t 4)
 have CR1 := hide (room_is ⟨W0, pb, en⟩ s1 t v.lists.length 16)
 have CR2 := hide (room_is ⟨W0, pb, en⟩ s1 t v.maps.length 16)
 have CR3 := hide (room_is ⟨W0, pb, en⟩ s1 t v.routers.length 8)
 have HE0 : Hid (wd t.k t.s = wList → ∀ x, (∀ a, ((pList F f v.n1).exec en (faulted t (if 16 ≤ v.lists.length then 2 else 0) s1)).1 = some a → x = a) → ((pItem F f v.cf t.k t.s).exec en s1).2 = ((pList F f v.n1).exec en (faulted t (if 16 ≤ v.lists.length then 2 else 0) s1)).2 ∧ ∀ a, ((pItem F f v.cf t.k t.s).exec en s1).1 = some a → (⟨v.lists ++ [x], v.maps, v.routers⟩ : Cf) = a) := fun h0 x hy => by
  rw [HOK.out.n1] at hy ⊢
  unfold pItem
  rw [if_pos h0]
  show (((room v.lists.length 16).bind _).exec en s1).2 = _ ∧ ∀ a, (((room v.lists.length 16).bind _).exec en s1).1 = some a → _
  rw [room_bind, exec_if en HTA.out (by decide)]
  exact exec_map en _ (fun x => (⟨v.lists ++ [x], v.maps, v.routers⟩ : Cf)) _ x hy
 have HE1 : Hid (¬ wd t.k t.s = wList → wd t.k t.s = wMap → ∀ x, (∀ a, ((pMap F f v.n2).exec en (faulted t (if 16 ≤ v.maps.length then 2 else 0) s1)).1 = some a → x = a) → ((pItem F f v.cf t.k t.s).exec en s1).2 = ((pMap F f v.n2).exec en (faulted t (if 16 ≤ v.maps.length then 2 else 0) s1)).2 ∧ ∀ a, ((pItem F f v.cf t.k t.s).exec en s1).1 = some a → (⟨v.lists, v.maps ++ [x], v.routers⟩ : Cf) = a) := fun h0 h1 x hy => by
  rw [HOK.out.n2] at hy ⊢
  unfold pItem
  rw [if_neg h0, if_pos h1]
  show (((room v.maps.length 16).bind _).exec en s1).2 = _ ∧ ∀ a, (((room v.maps.length 16).bind _).exec en s1).1 = some a → _
  rw [room_bind, exec_if en HTA.out (by decide)]
  exact exec_map en _ (fun x => (⟨v.lists, v.maps ++ [x], v.routers⟩ : Cf)) _ x hy
 have HE2 : Hid (¬ wd t.k t.s = wList → ¬ wd t.k t.s = wMap → wd t.k t.s = wRouter → ∀ x, (∀ a, ((pRouter F f v.n3).exec en (faulted t (if 8 ≤ v.routers.length then 2 else 0) s1)).1 = some a → x = a) → ((pItem F f v.cf t.k t.s).exec en s1).2 = ((pRouter F f v.n3).exec en (faulted t (if 8 ≤ v.routers.length then 2 else 0) s1)).2 ∧ ∀ a, ((pItem F f v.cf t.k t.s).exec en s1).1 = some a → (⟨v.lists, v.maps, v.routers ++ [x]⟩ : Cf) = a) := fun h0 h1 h2 x hy => by
  rw [HOK.out.n3] at hy ⊢
  unfold pItem
  rw [if_neg h0, if_neg h1, if_pos h2]
  show (((room v.routers.length 8).bind _).exec en s1).2 = _ ∧ ∀ a, (((room v.routers.length 8).bind _).exec en s1).1 = some a → _
  rw [room_bind, exec_if en HTA.out (by decide)]
  exact exec_map en _ (fun x => (⟨v.lists, v.maps, v.routers ++ [x]⟩ : Cf)) _ x hy
 have HED : Hid (¬ wd t.k t.s = wList → ¬ wd t.k t.s = wMap → ¬ wd t.k t.s = wRouter → (pItem F f v.cf t.k t.s).exec en s1 = (none, faulted t 4 s1)) := fun h0 h1 h2 => by
  unfold pItem
  rw [if_neg h0, if_neg h1, if_neg h2, exec_fail en HTA.out (by decide)]
 have HLI := hide (exec_len en (pItem F f v.cf t.k t.s) s1)
 generalize (pItem F f v.cf t.k t.s).exec en s1 = RI at *
 have HTB : Hid (∀ r m, faulted t (if 16 ≤ v.lists.length then 2 else 0) s1 = .good r m → v.lists.length < 16) := fun r m e => by rcases Nat.lt_or_ge v.lists.length 16 with h | h; exact h; rw [if_pos h] at e; cases s1 <;> simp [faulted] at e
 have HTC : Hid (∀ r m, faulted t (if 16 ≤ v.maps.length then 2 else 0) s1 = .good r m → v.maps.length < 16) := fun r m e => by rcases Nat.lt_or_ge v.maps.length 16 with h | h; exact h; rw [if_pos h] at e; cases s1 <;> simp [faulted] at e
 have HTD : Hid (∀ r m, faulted t (if 8 ≤ v.routers.length then 2 else 0) s1 = .good r m → v.routers.length < 8) := fun r m e => by rcases Nat.lt_or_ge v.routers.length 8 with h | h; exact h; rw [if_pos h] at e; cases s1 <;> simp [faulted] at e
 generalize faulted t (if 16 ≤ v.lists.length then 2 else 0) s1 = sA at *
 generalize faulted t (if 16 ≤ v.maps.length then 2 else 0) s1 = sB at *
 generalize faulted t (if 8 ≤ v.routers.length then 2 else 0) s1 = sC at *
 have CI1 := hide (fun W hW (hO : OcAt ⟨W0, pb, en⟩ W v.o1) => list_is KK.out ⟨W0, pb, en⟩ HKT.out.1 v.o1 f sA W hW hO (by show v.n1.length ≤ _; rw [HOK.out.n1, List.length_map]; have := HOK.out.many; omega) (Nat.lt_of_le_of_lt hW.few HKT.out.2))
 have CI2 := hide (fun W hW (hO : OcAt ⟨W0, pb, en⟩ W v.o2) => map_is KK.out ⟨W0, pb, en⟩ HKT.out.1 v.o2 f HKT.out.2 sB W hW hO (by show v.n2.length ≤ _; rw [HOK.out.n2, List.length_map]; have := HOK.out.many; omega))
 have CI3 := hide (fun W hW (hO : OcAt ⟨W0, pb, en⟩ W v.o3) => router_is KK.out ⟨W0, pb, en⟩ HKT.out.1 v.o3 f HKT.out.2 sC W hW hO (by show v.n3.length ≤ _; rw [HOK.out.n3, List.length_map]; have := HOK.out.many; omega))
 unfold ItTo at CI1 CI2 CI3
 obtain ⟨a1, k1, hv1⟩ := I0.out.lists.slice
 obtain ⟨a2, k2, hv2⟩ := I0.out.maps.slice
 obtain ⟨a3, k3, hv3⟩ := I0.out.routers.slice
 obtain ⟨N1, hN1⟩ : ∃ N, v.lists.length = N := ⟨_, rfl⟩
 obtain ⟨N2, hN2⟩ : ∃ N, v.maps.length = N := ⟨_, rfl⟩
 obtain ⟨N3, hN3⟩ : ∃ N, v.routers.length = N := ⟨_, rfl⟩
 rw [hN1] at hv1 CR1
 rw [hN2] at hv2 CR2
 rw [hN3] at hv3 CR3
 have HN1 := hide hN1
 have HN2 := hide hN2
 have HN3 := hide hN3
 have HLL : Hid (N1 ≤ 16 ∧ N2 ≤ 16 ∧ N3 ≤ 8) := by rw [← hN1, ← hN2, ← hN3]; exact HFV.out
 have HV1 := hide hv1
 have HV2 := hide hv2
 have HV3 := hide hv3
 clear hN1 hN2 hN3 hv1 hv2 hv3
 have e1 : Oc.fn v.o1 = .func (.func 59) #[] #[.pointer (some ⟨c1, 0, none⟩), .pointer (some ⟨x1, 0, none⟩)] := by unfold Oc.fn; rw [show v.o1.oc = c1 from HFX.out.2.1.1.symm, show v.o1.bx = x1 from HFX.out.2.1.2.symm]
 have e2 : Oc.fn v.o2 = .func (.func 59) #[] #[.pointer (some ⟨c2, 0, none⟩), .pointer (some ⟨x2, 0, none⟩)] := by unfold Oc.fn; rw [show v.o2.oc = c2 from HFX.out.2.2.1.1.symm, show v.o2.bx = x2 from HFX.out.2.2.1.2.symm]
 have e3 : Oc.fn v.o3 = .func (.func 59) #[] #[.pointer (some ⟨c3, 0, none⟩), .pointer (some ⟨x3, 0, none⟩)] := by unfold Oc.fn; rw [show v.o3.oc = c3 from HFX.out.2.2.2.1.symm, show v.o3.bx = x3 from HFX.out.2.2.2.2.symm]
 rw [e1] at CI1
 rw [e2] at CI2
 rw [e3] at CI3
 clear e1 e2 e3
 obtain ⟨tk, tt, tp, tq⟩ := t
 simp only [Tv.val] at *
 go_wp2_with fail
 refine CN.out.mono ?_
 rintro e w2 ⟨rfl, b2, p2⟩
 have P1 := hide (p2.alloc (.cells #[.int .i64 tk, .string tt, .int .i64 tp, .int .i64 tq] 95))
 have I1 := hide ((I0.out.keep b2 (fun t h1 _ => P0.out.av h1)).below (balloc (brefl _) (.cells #[.int .i64 tk, .string tt, .int .i64 tp, .int .i64 tq] 95)))
 have B1 := hide ((B0.out.trans b2).alloc (.cells #[.int .i64 tk, .string tt, .int .i64 tp, .int .i64 tq] 95))
 have RC1 := hide (((balloc (brefl w2) (.cells #[.int .i64 tk, .string tt, .int .i64 tp, .int .i64 tq] 95)).block rc (heap_lt (b2.keep RC0.out HNE.out.1))).trans (b2.keep RC0.out HNE.out.1))
 have TK1 := hide (heap_new w2 #[.int .i64 tk, .string tt, .int .i64 tp, .int .i64 tq] 95)
 clear p2 b2 CN P0 I0 B0 RC0 z0 h1
 go_upto_region 5 with fail
 obtain ⟨tb, htb⟩ : ∃ tb, w2.heap.size = tb := ⟨_, rfl⟩
 rw [htb] at TK1 ⊢
 generalize w2.alloc (.cells #[.int .i64 tk, .string tt, .int .i64 tp, .int .i64 tq] 95) = W2 at *
 clear htb
 obtain ⟨⟨c0, cc1, cc2, cc3⟩, _⟩ := four_cells TK1.out
 go_wp2_with fail
 refine (CW.out _).mono ?_
 rintro e w3 ⟨rfl, b3⟩
 have P3 := hide (P1.out.below b3)
 have I3 := hide (I1.out.below b3)
 have B3 := hide (B1.out.trans (But.of b3))
 have RC3 := hide ((b3.block rc (heap_lt RC1.out)).trans RC1.out)
 have TK3 := hide ((b3.block tb (heap_lt TK1.out)).trans TK1.out)
 clear b3 CW c0 cc1 cc2 cc3 P1 I1 B1 RC1 TK1
 unfold wList at HE0
 unfold wList wMap at HE1
 unfold wList wMap wRouter at HE2
 unfold wList wMap wRouter at HED
 obtain ⟨⟨c0, cc1, cc2, cc3⟩, _⟩ := four_cells TK3.out
 by_cases h0 : wd tk tt = (bs [112, 114, 101, 102, 105, 120, 45, 108, 105, 115, 116])
 ·
  have hb0 := beq_ll (wd tk tt) [112, 114, 101, 102, 105, 120, 45, 108, 105, 115, 116]
  rw [decide_eq_true h0] at hb0
  have mm := I3.out.mem
  rw [HV1.out, HV2.out, HV3.out, ← HFX.out.1] at mm
  obtain ⟨m0, m1, m2⟩ := three_cells mm
  clear mm
  go_wp2_with fail
  refine (CR1.out _ P3.out).mono ?_
  rintro e w4 ⟨rfl, b4, p4⟩
  have P4 := hide p4
  have I4 := hide (I3.out.keep b4 (fun t h1 _ => P3.out.av h1))
  have B4 := hide (B3.out.trans b4)
  have RC4 := hide (b4.keep RC3.out HNE.out.1)
  clear p4 b4 c0 cc1 cc2 cc3 m0 m1 m2 P3 I3 B3 RC3 TK3 CR1 CR2 CR3 CF CI2 CI3
  go_upto_region 9 with fail
  have d5 := Below.drew (brefl w4)
  have P5 := hide (P4.out.below d5)
  have I5 := hide (I4.out.below d5)
  have B5 := hide (B4.out.trans (But.of d5))
  have RC5 := hide ((d5.block rc (heap_lt RC4.out)).trans RC4.out)
  refine wp_region_held_drew (S := fun _ => True) (by kernel_rfl) trivial (fun hHeld => ?_)
  clear d5 P4 I4 B4 RC4
  generalize w4.drew = w5 at *
  refine tak 0 ((.pointer (some ⟨cb, 0, none⟩))) rfl (Or.inl ⟨by rfl, fun w _ => by go_simp⟩) hHeld ?_
  simp only [Act.put, g1, g2, g4, g5, g6]
  refine tak 2 ((.pointer (some ⟨pb, 0, none⟩))) rfl (Or.inl ⟨by rfl, fun w _ => by go_simp⟩) hHeld ?_
  simp only [Act.put, g1, g2, g3, g4, g5, g6]
  refine tak 3 ((.func (.func 59) #[] #[.pointer (some ⟨c1, 0, none⟩), .pointer (some ⟨x1, 0, none⟩)])) rfl (Or.inl ⟨by rfl, fun w _ => by go_simp⟩) hHeld ?_
  simp only [Act.put, g1, g2, g3, g4, g5, g6]
  refine wpAnyH_ready (rs := [1, 4]) (by kernel_rfl) (by simp) ?_
  refine AllReadyH.cons rfl (fun K hK => ?_) ?_
  focus
   have mm := I5.out.mem
   rw [HV1.out, HV2.out, HV3.out, ← HFX.out.1] at mm
   obtain ⟨m0, m1, m2⟩ := three_cells mm
   clear mm
   go_simp
   refine hK.out _ _ trivial (fun hHeld => ?_)
   clear hK K m0 m1 m2
   try simp only [Act.put, g1, g2, g3, g4, g5, g6]
   refine rdy 4 (by kernel_rfl) rfl fun K hK => ?_
   go_simp
   go_wp2_with (refine (CI1.out _ P5.out I5.out.oc1).mono ?_; rintro e w6 ⟨s5, l5, v5, rfl, _, _, hrow, rb', o5, l6, b5, p5, u5⟩)
   obtain ⟨ap, np, kp, hvp⟩ := own_slice hrow
   subst hvp
   have P6 := hide p5
   have I6 := hide (I5.out.told1 P5.out b5 _ _ o5 l6)
   have HLR : Hid (∀ g, rb' = some g → v.r1 = some g ∨ w5.heap.size ≤ g) := l6
   have B6 := hide (B5.out.thens b5 (fun j hj e => by rcases e with e | e | e; exact e; have h1 := I5.out.base.2.2.2.1; have h2 : j = v.c1 := e; omega; have h1 := I5.out.base.2.2.2.2.2.2.1 j e; omega))
   have RC6 := hide (b5.keep RC5.out (by rintro (e | e | e); exact HNE.out.1 e; exact I5.out.oc1.av (by decide) (by decide) rc _ RC5.out (.inl e); exact I5.out.oc1.av (by decide) (by decide) rc _ RC5.out (.inr e)))
   have HQV := hide u5
   have HXC : Hid (LsC w6 (⟨s5, l5⟩ : Ls) [.string s5, .slice ap np kp]) := ⟨_, rfl, row_from hrow (fun _ _ => Nat.zero_le _)⟩
   clear p5 b5 o5 l6 u5 hrow P5 I5 B5 RC5 CI1
   refine hK.out _ _ trivial (fun hHeld => ?_)
   clear hK K
   try simp only [Act.put, g1, g2, g3, g4, g5, g6]
   refine rdy 5 (by kernel_rfl) rfl fun K hK => ?_
   go_simp
   have b5 := balloc (brefl w6) (.cells #[.string s5, .slice ap np kp] 66)
   have EE := hide (heap_new w6 #[.string s5, .slice ap np kp] 66)
   have P7 := hide (P6.out.below b5)
   have I7 := hide (I6.out.below b5)
   have B7 := hide (B6.out.trans (But.of b5))
   have RC7 := hide ((b5.block rc (heap_lt RC6.out)).trans RC6.out)
   have HXD := hide (LsC.keeps _ _ (fun _ => False) _ _ (But.of b5) (AvT.none _ _) HXC.out)
   clear b5 P6 I6 B6 RC6 HXC
   refine hK.out _ _ trivial (fun hHeld => ?_)
   clear hK K
   try simp only [Act.put, g1, g2, g3, g4, g5, g6]
   obtain ⟨al, hal⟩ : ∃ al, w6.heap.size = al := ⟨_, rfl⟩
   rw [hal] at EE ⊢
   generalize w6.alloc (.cells #[.string s5, .slice ap np kp] 66) = w7 at *
   clear hal
  rotate_left
  focus
   refine AllReadyH.cons rfl (fun K hK => ?_) AllReadyH.nil
   go_simp
   go_wp2_with (refine (CI1.out _ P5.out I5.out.oc1).mono ?_; rintro e w6 ⟨s5, l5, v5, rfl, _, _, hrow, rb', o5, l6, b5, p5, u5⟩)
   obtain ⟨ap, np, kp, hvp⟩ := own_slice hrow
   subst hvp
   have P6 := hide p5
   have I6 := hide (I5.out.told1 P5.out b5 _ _ o5 l6)
   have HLR : Hid (∀ g, rb' = some g → v.r1 = some g ∨ w5.heap.size ≤ g) := l6
   have B6 := hide (B5.out.thens b5 (fun j hj e => by rcases e with e | e | e; exact e; have h1 := I5.out.base.2.2.2.1; have h2 : j = v.c1 := e; omega; have h1 := I5.out.base.2.2.2.2.2.2.1 j e; omega))
   have RC6 := hide (b5.keep RC5.out (by rintro (e | e | e); exact HNE.out.1 e; exact I5.out.oc1.av (by decide) (by decide) rc _ RC5.out (.inl e); exact I5.out.oc1.av (by decide) (by decide) rc _ RC5.out (.inr e)))
   have HQV := hide u5
   have HXC : Hid (LsC w6 (⟨s5, l5⟩ : Ls) [.string s5, .slice ap np kp]) := ⟨_, rfl, row_from hrow (fun _ _ => Nat.zero_le _)⟩
   clear p5 b5 o5 l6 u5 hrow P5 I5 B5 RC5 CI1
   refine hK.out _ _ trivial (fun hHeld => ?_)
   clear hK K
   try simp only [Act.put, g1, g2, g3, g4, g5, g6]
   refine wpAnyH_ready (rs := [1, 5]) (by kernel_rfl) (by simp) ?_
   refine AllReadyH.cons rfl (fun K hK => ?_) ?_
   focus
    have mm := I6.out.mem
    rw [HV1.out, HV2.out, HV3.out, ← HFX.out.1] at mm
    obtain ⟨m0, m1, m2⟩ := three_cells mm
    clear mm
    go_simp
    refine hK.out _ _ trivial (fun hHeld => ?_)
    clear hK K m0 m1 m2
    try simp only [Act.put, g1, g2, g3, g4, g5, g6]
    refine rdy 5 (by kernel_rfl) rfl fun K hK => ?_
    go_simp
    have b5 := balloc (brefl w6) (.cells #[.string s5, .slice ap np kp] 66)
    have EE := hide (heap_new w6 #[.string s5, .slice ap np kp] 66)
    have P7 := hide (P6.out.below b5)
    have I7 := hide (I6.out.below b5)
    have B7 := hide (B6.out.trans (But.of b5))
    have RC7 := hide ((b5.block rc (heap_lt RC6.out)).trans RC6.out)
    have HXD := hide (LsC.keeps _ _ (fun _ => False) _ _ (But.of b5) (AvT.none _ _) HXC.out)
    clear b5 P6 I6 B6 RC6 HXC
    refine hK.out _ _ trivial (fun hHeld => ?_)
    clear hK K
    try simp only [Act.put, g1, g2, g3, g4, g5, g6]
    obtain ⟨al, hal⟩ : ∃ al, w6.heap.size = al := ⟨_, rfl⟩
    rw [hal] at EE ⊢
    generalize w6.alloc (.cells #[.string s5, .slice ap np kp] 66) = w7 at *
    clear hal
   rotate_left
   refine AllReadyH.cons rfl (fun K hK => ?_) AllReadyH.nil
   go_simp
   have b5 := balloc (brefl w6) (.cells #[.string s5, .slice ap np kp] 66)
   have EE := hide (heap_new w6 #[.string s5, .slice ap np kp] 66)
   have P7 := hide (P6.out.below b5)
   have I7 := hide (I6.out.below b5)
   have B7 := hide (B6.out.trans (But.of b5))
   have RC7 := hide ((b5.block rc (heap_lt RC6.out)).trans RC6.out)
   have HXD := hide (LsC.keeps _ _ (fun _ => False) _ _ (But.of b5) (AvT.none _ _) HXC.out)
   clear b5 P6 I6 B6 RC6 HXC
   refine hK.out _ _ trivial (fun hHeld => ?_)
   clear hK K
   try simp only [Act.put, g1, g2, g3, g4, g5, g6]
   obtain ⟨al, hal⟩ : ∃ al, w6.heap.size = al := ⟨_, rfl⟩
   rw [hal] at EE ⊢
   generalize w6.alloc (.cells #[.string s5, .slice ap np kp] 66) = w7 at *
   clear hal
   refine rdy 1 (by kernel_rfl) rfl fun K hK => ?_
   have mm := I7.out.mem
   rw [HV1.out, HV2.out, HV3.out, ← HFX.out.1] at mm
   obtain ⟨m0, m1, m2⟩ := three_cells mm
   clear mm
   go_simp
   refine hK.out _ _ trivial (fun hHeld => ?_)
   clear hK K m0 m1 m2
   try simp only [Act.put, g1, g2, g3, g4, g5, g6]
  all_goals
   refine rdy 6 (by kernel_rfl) rfl fun K hK => ?_
   obtain ⟨xs, al_, row⟩ := I7.out.lists
   have row2 := row
   have hvn : Cv.v1 { v with n1 := v.n1 ++ [s5], r1 := rb' } = .slice a1 N1 k1 := HV1.out
   rw [hvn] at row2
   have hnn : (Cv.lists { v with n1 := v.n1 ++ [s5], r1 := rb' }).length = N1 := HN1.out
   rw [hnn] at row2
   have hll := HLL.out
   try rw [if_pos (by rfl)]
   refine wp_append_where _ _ _ 29 rfl w.heap.size 66 i1 _ 2 40 Tryz.underlying29 hi1 hy1 hy2 hy3 rfl (by decide) (.slice a1 N1 k1) N1 xs.flatten rfl row2 ⟨al, 0, none⟩ 1 1 [.string s5, .slice ap np kp] rfl rfl (cells_reads EE.out) (by intro u hu; simp only [List.mem_cons, List.not_mem_nil, or_false] at hu; rcases hu with rfl | rfl <;> rfl) (by unfold maxLen; omega) (by omega) B7.out.size ?_
   intro v9 w8 o9 g9 l9
   have g9x : w7.grownBy w8 (Value.ownBlock (Cv.v1 { v with n1 := v.n1 ++ [s5], r1 := rb' })) := by rw [hvn]; exact g9
   have HROW : RowOf w8 w.heap.size 66 2 LsC v9 (Cv.lists { v with n1 := v.n1 ++ [s5], r1 := rb' } ++ [(⟨s5, l5⟩ : Ls)]) := push_row LsC.keeps al_ row (fun t ht => by intro e; subst e; revert ht; simp [tLs]) g9x (by rw [hnn]; exact o9) HXD.out
   have I8 : Hid (CvAt ⟨W0, pb, en⟩ w.heap.size (w8.setCell ⟨cb, 0, none⟩ v9) { v with n1 := v.n1 ++ [s5], r1 := rb', v1 := v9, lists := v.lists ++ [(⟨s5, l5⟩ : Ls)] }) := by rw [HFX.out.1]; exact I7.out.push1 g9x v9 (⟨s5, l5⟩ : Ls) HROW
   have gb := grown_but g9
   have hrow := I7.out.lists
   rw [hvn] at hrow
   have ga := fun t (ht : (66 : Nat) ≠ t) => row_av' hrow t ht
   have mm := gb.keep I7.out.mem (ga 33 (by decide) _ _ I7.out.mem)
   rw [show (Cv.cb { v with n1 := v.n1 ++ [s5], r1 := rb' }) = cb from HFX.out.1.symm] at mm
   rw [show Cv.v1 { v with n1 := v.n1 ++ [s5], r1 := rb' } = .slice a1 N1 k1 from HV1.out, show Cv.v2 { v with n1 := v.n1 ++ [s5], r1 := rb' } = .slice a2 N2 k2 from HV2.out, show Cv.v3 { v with n1 := v.n1 ++ [s5], r1 := rb' } = .slice a3 N3 k3 from HV3.out] at mm
   have RC8 := hide (gb.keep RC7.out (ga 33 (by decide) _ _ RC7.out))
   have P8 := hide (P7.out.of gb (fun e => by obtain ⟨_, _, cs, hc⟩ := hrow.lt _ e; exact P7.out.av (by decide) _ _ hc rfl) (fun k e => Nat.le_trans HW0.out (hrow.lt k e).1))
   have B8 := hide (B7.out.thens gb (fun j hj e => by have := (hrow.lt j e).1; omega))
   obtain ⟨qq, nq, cq, hv9⟩ := own_slice o9
   have MM := hide mm
   clear o9 g9 g9x l9 gb ga hrow al_ row row2 HROW EE HXD P7 I7 B7 RC7 mm hvn hnn
   refine hK.out _ _ trivial (fun hHeld => ?_)
   clear hK K
   try simp only [Act.put, g1, g2, g3, g4, g5, g6]
   refine tak 7 ((.pointer (some ⟨cb, 0, none⟩))) rfl (Or.inl ⟨by rfl, fun w _ => by go_simp⟩) hHeld ?_
   simp only [Act.put, g1, g2, g3, g4, g5, g6]
   refine rdy 8 (by kernel_rfl) rfl fun K hK => ?_
   obtain ⟨m0, m1, m2⟩ := three_cells MM.out
   have ff := unfrozen MM.out 0
   rw [hv9]
   go_simp
   rw [← hv9]
   have P9 := hide (P8.out.put (p := ⟨cb, 0, none⟩) HNE.out.2.1 HNE.out.2.2.2.2.2.2 v9)
   have B9 := hide (B8.out.setCell (p := ⟨cb, 0, none⟩) (.inr HNE.out.2.2.2.2.1) v9)
   have RC9 := hide (set_far (o := 0) (v := v9) RC8.out HNE.out.2.2.1)
   refine hK.out _ _ trivial (fun hHeld => ?_)
   clear hK K m0 m1 m2 ff MM P8 B8 RC8
   try simp only [Act.put, g1, g2, g3, g4, g5, g6]
   refine wpAnyH_done (by kernel_rfl) ?_ _
   clear hHeld
   generalize w8.setCell ⟨cb, 0, none⟩ v9 = w9 at *
   have HX := HE0.out h0 (⟨s5, l5⟩ : Ls) HQV.out
   have HGO := HSTEP.out _ HX.2
   have HLS := hide P9.out.len
   have HNX : Hid (CfIs ⟨W0, pb, en⟩ w F f R rc cb c1 x1 c2 x2 c3 x3 { v with n1 := v.n1 ++ [s5], r1 := rb', v1 := v9, lists := v.lists ++ [(⟨s5, l5⟩ : Ls)] } RI.2 g w9) := ⟨I8.out, by rw [HX.1]; exact P9.out, HGO, by have h1 := HLI.out; have h2 := HS1.out; have h3 := HG.out; omega, B9.out, ⟨by show v.n1 ++ [s5] = (v.lists ++ [(⟨s5, l5⟩ : Ls)]).map Ls.name; rw [List.map_append, ← HOK.out.n1]; rfl, HOK.out.n2, HOK.out.n3, ⟨by show (v.lists ++ [_]).length ≤ 17; rw [List.length_append, HN1.out]; simp only [List.length_cons, List.length_nil]; have := HLL.out; omega, HOK.out.many.2.1, HOK.out.many.2.2⟩⟩, fun r m e => by
     have h9 : v.lists.length < 16 := by
       rw [HX.1] at e
       cases hq : sA with
       | good r0 m0 => exact HTB.out r0 m0 hq
       | bad p0 q0 e0 => rw [hq] at e; cases e
     exact ⟨by show (v.lists ++ [_]).length ≤ 16; rw [List.length_append]; simp only [List.length_cons, List.length_nil]; omega, HFV.out.2.1, HFV.out.2.2⟩, HFX.out, RC9.out⟩
   clear HX HGO HE0 HE1 HE2 HED HSTEP
   go_wp2_with fail
   refine ⟨⟨_, _, _, HNX⟩, ?_⟩
   have h1 := HLS.out
   have h2 := HWR.out
   have h3 := HLI.out
   have h4 := HS1.out
   have h5 := HNX.out.ps.len
   simp only at h5
   omega
 have hb0 := beq_ll (wd tk tt) [112, 114, 101, 102, 105, 120, 45, 108, 105, 115, 116]
 rw [decide_eq_false h0] at hb0
 by_cases h1 : wd tk tt = (bs [114, 111, 117, 116, 101, 45, 109, 97, 112])
 ·
  have hb1 := beq_ll (wd tk tt) [114, 111, 117, 116, 101, 45, 109, 97, 112]
  rw [decide_eq_true h1] at hb1
  have mm := I3.out.mem
  rw [HV1.out, HV2.out, HV3.out, ← HFX.out.1] at mm
  obtain ⟨m0, m1, m2⟩ := three_cells mm
  clear mm
  go_wp2_with fail
  refine (CR2.out _ P3.out).mono ?_
  rintro e w4 ⟨rfl, b4, p4⟩
  have P4 := hide p4
  have I4 := hide (I3.out.keep b4 (fun t h1 _ => P3.out.av h1))
  have B4 := hide (B3.out.trans b4)
  have RC4 := hide (b4.keep RC3.out HNE.out.1)
  clear p4 b4 c0 cc1 cc2 cc3 m0 m1 m2 P3 I3 B3 RC3 TK3 CR1 CR2 CR3 CF CI1 CI3
  go_upto_region 12 with fail
  have d5 := Below.drew (brefl w4)
  have P5 := hide (P4.out.below d5)
  have I5 := hide (I4.out.below d5)
  have B5 := hide (B4.out.trans (But.of d5))
  have RC5 := hide ((d5.block rc (heap_lt RC4.out)).trans RC4.out)
  refine wp_region_held_drew (S := fun _ => True) (by kernel_rfl) trivial (fun hHeld => ?_)
  clear d5 P4 I4 B4 RC4
  generalize w4.drew = w5 at *
  refine tak 0 ((.pointer (some ⟨cb, 1, none⟩))) rfl (Or.inl ⟨by rfl, fun w _ => by go_simp⟩) hHeld ?_
  simp only [Act.put, g1, g2, g4, g5, g6]
  refine tak 2 ((.pointer (some ⟨pb, 0, none⟩))) rfl (Or.inl ⟨by rfl, fun w _ => by go_simp⟩) hHeld ?_
  simp only [Act.put, g1, g2, g3, g4, g5, g6]
  refine tak 3 ((.func (.func 59) #[] #[.pointer (some ⟨c2, 0, none⟩), .pointer (some ⟨x2, 0, none⟩)])) rfl (Or.inl ⟨by rfl, fun w _ => by go_simp⟩) hHeld ?_
  simp only [Act.put, g1, g2, g3, g4, g5, g6]
  refine wpAnyH_ready (rs := [1, 4]) (by kernel_rfl) (by simp) ?_
  refine AllReadyH.cons rfl (fun K hK => ?_) ?_
  focus
   have mm := I5.out.mem
   rw [HV1.out, HV2.out, HV3.out, ← HFX.out.1] at mm
   obtain ⟨m0, m1, m2⟩ := three_cells mm
   clear mm
   go_simp
   refine hK.out _ _ trivial (fun hHeld => ?_)
   clear hK K m0 m1 m2
   try simp only [Act.put, g1, g2, g3, g4, g5, g6]
   refine rdy 4 (by kernel_rfl) rfl fun K hK => ?_
   go_simp
   go_wp2_with (refine (CI2.out _ P5.out I5.out.oc2).mono ?_; rintro e w6 ⟨s5, l5, v5, rfl, _, _, hrow, rb', o5, l6, b5, p5, u5⟩)
   obtain ⟨ap, kp, hvp⟩ := hrow.slice
   obtain ⟨np, hnp⟩ : ∃ n, l5.length = n := ⟨_, rfl⟩
   rw [hnp] at hvp
   clear hnp
   subst hvp
   have P6 := hide p5
   have I6 := hide (I5.out.told2 P5.out b5 _ _ o5 l6)
   have HLR : Hid (∀ g, rb' = some g → v.r2 = some g ∨ w5.heap.size ≤ g) := l6
   have B6 := hide (B5.out.thens b5 (fun j hj e => by rcases e with e | e | e; exact e; have h1 := I5.out.base.2.2.2.2.1; have h2 : j = v.c2 := e; omega; have h1 := I5.out.base.2.2.2.2.2.2.2.1 j e; omega))
   have RC6 := hide (b5.keep RC5.out (by rintro (e | e | e); exact HNE.out.1 e; exact I5.out.oc2.av (by decide) (by decide) rc _ RC5.out (.inl e); exact I5.out.oc2.av (by decide) (by decide) rc _ RC5.out (.inr e)))
   have HQV := hide u5
   have HXC : Hid (MpC w6 (⟨s5, l5⟩ : Mp) [.string s5, .slice ap np kp]) := ⟨_, rfl, RowOf.from hrow (fun _ _ => Nat.zero_le _)⟩
   clear p5 b5 o5 l6 u5 hrow P5 I5 B5 RC5 CI2
   refine hK.out _ _ trivial (fun hHeld => ?_)
   clear hK K
   try simp only [Act.put, g1, g2, g3, g4, g5, g6]
   refine rdy 5 (by kernel_rfl) rfl fun K hK => ?_
   go_simp
   have b5 := balloc (brefl w6) (.cells #[.string s5, .slice ap np kp] 70)
   have EE := hide (heap_new w6 #[.string s5, .slice ap np kp] 70)
   have P7 := hide (P6.out.below b5)
   have I7 := hide (I6.out.below b5)
   have B7 := hide (B6.out.trans (But.of b5))
   have RC7 := hide ((b5.block rc (heap_lt RC6.out)).trans RC6.out)
   have HXD := hide (MpC.keeps _ _ (fun _ => False) _ _ (But.of b5) (AvT.none _ _) HXC.out)
   clear b5 P6 I6 B6 RC6 HXC
   refine hK.out _ _ trivial (fun hHeld => ?_)
   clear hK K
   try simp only [Act.put, g1, g2, g3, g4, g5, g6]
   obtain ⟨al, hal⟩ : ∃ al, w6.heap.size = al := ⟨_, rfl⟩
   rw [hal] at EE ⊢
   generalize w6.alloc (.cells #[.string s5, .slice ap np kp] 70) = w7 at *
   clear hal
  rotate_left
  focus
   refine AllReadyH.cons rfl (fun K hK => ?_) AllReadyH.nil
   go_simp
   go_wp2_with (refine (CI2.out _ P5.out I5.out.oc2).mono ?_; rintro e w6 ⟨s5, l5, v5, rfl, _, _, hrow, rb', o5, l6, b5, p5, u5⟩)
   obtain ⟨ap, kp, hvp⟩ := hrow.slice
   obtain ⟨np, hnp⟩ : ∃ n, l5.length = n := ⟨_, rfl⟩
   rw [hnp] at hvp
   clear hnp
   subst hvp
   have P6 := hide p5
   have I6 := hide (I5.out.told2 P5.out b5 _ _ o5 l6)
   have HLR : Hid (∀ g, rb' = some g → v.r2 = some g ∨ w5.heap.size ≤ g) := l6
   have B6 := hide (B5.out.thens b5 (fun j hj e => by rcases e with e | e | e; exact e; have h1 := I5.out.base.2.2.2.2.1; have h2 : j = v.c2 := e; omega; have h1 := I5.out.base.2.2.2.2.2.2.2.1 j e; omega))
   have RC6 := hide (b5.keep RC5.out (by rintro (e | e | e); exact HNE.out.1 e; exact I5.out.oc2.av (by decide) (by decide) rc _ RC5.out (.inl e); exact I5.out.oc2.av (by decide) (by decide) rc _ RC5.out (.inr e)))
   have HQV := hide u5
   have HXC : Hid (MpC w6 (⟨s5, l5⟩ : Mp) [.string s5, .slice ap np kp]) := ⟨_, rfl, RowOf.from hrow (fun _ _ => Nat.zero_le _)⟩
   clear p5 b5 o5 l6 u5 hrow P5 I5 B5 RC5 CI2
   refine hK.out _ _ trivial (fun hHeld => ?_)
   clear hK K
   try simp only [Act.put, g1, g2, g3, g4, g5, g6]
   refine wpAnyH_ready (rs := [1, 5]) (by kernel_rfl) (by simp) ?_
   refine AllReadyH.cons rfl (fun K hK => ?_) ?_
   focus
    have mm := I6.out.mem
    rw [HV1.out, HV2.out, HV3.out, ← HFX.out.1] at mm
    obtain ⟨m0, m1, m2⟩ := three_cells mm
    clear mm
    go_simp
    refine hK.out _ _ trivial (fun hHeld => ?_)
    clear hK K m0 m1 m2
    try simp only [Act.put, g1, g2, g3, g4, g5, g6]
    refine rdy 5 (by kernel_rfl) rfl fun K hK => ?_
    go_simp
    have b5 := balloc (brefl w6) (.cells #[.string s5, .slice ap np kp] 70)
    have EE := hide (heap_new w6 #[.string s5, .slice ap np kp] 70)
    have P7 := hide (P6.out.below b5)
    have I7 := hide (I6.out.below b5)
    have B7 := hide (B6.out.trans (But.of b5))
    have RC7 := hide ((b5.block rc (heap_lt RC6.out)).trans RC6.out)
    have HXD := hide (MpC.keeps _ _ (fun _ => False) _ _ (But.of b5) (AvT.none _ _) HXC.out)
    clear b5 P6 I6 B6 RC6 HXC
    refine hK.out _ _ trivial (fun hHeld => ?_)
    clear hK K
    try simp only [Act.put, g1, g2, g3, g4, g5, g6]
    obtain ⟨al, hal⟩ : ∃ al, w6.heap.size = al := ⟨_, rfl⟩
    rw [hal] at EE ⊢
    generalize w6.alloc (.cells #[.string s5, .slice ap np kp] 70) = w7 at *
    clear hal
   rotate_left
   refine AllReadyH.cons rfl (fun K hK => ?_) AllReadyH.nil
   go_simp
   have b5 := balloc (brefl w6) (.cells #[.string s5, .slice ap np kp] 70)
   have EE := hide (heap_new w6 #[.string s5, .slice ap np kp] 70)
   have P7 := hide (P6.out.below b5)
   have I7 := hide (I6.out.below b5)
   have B7 := hide (B6.out.trans (But.of b5))
   have RC7 := hide ((b5.block rc (heap_lt RC6.out)).trans RC6.out)
   have HXD := hide (MpC.keeps _ _ (fun _ => False) _ _ (But.of b5) (AvT.none _ _) HXC.out)
   clear b5 P6 I6 B6 RC6 HXC
   refine hK.out _ _ trivial (fun hHeld => ?_)
   clear hK K
   try simp only [Act.put, g1, g2, g3, g4, g5, g6]
   obtain ⟨al, hal⟩ : ∃ al, w6.heap.size = al := ⟨_, rfl⟩
   rw [hal] at EE ⊢
   generalize w6.alloc (.cells #[.string s5, .slice ap np kp] 70) = w7 at *
   clear hal
   refine rdy 1 (by kernel_rfl) rfl fun K hK => ?_
   have mm := I7.out.mem
   rw [HV1.out, HV2.out, HV3.out, ← HFX.out.1] at mm
   obtain ⟨m0, m1, m2⟩ := three_cells mm
   clear mm
   go_simp
   refine hK.out _ _ trivial (fun hHeld => ?_)
   clear hK K m0 m1 m2
   try simp only [Act.put, g1, g2, g3, g4, g5, g6]
  all_goals
   refine rdy 6 (by kernel_rfl) rfl fun K hK => ?_
   obtain ⟨xs, al_, row⟩ := I7.out.maps
   have row2 := row
   have hvn : Cv.v2 { v with n2 := v.n2 ++ [s5], r2 := rb' } = .slice a2 N2 k2 := HV2.out
   rw [hvn] at row2
   have hnn : (Cv.maps { v with n2 := v.n2 ++ [s5], r2 := rb' }).length = N2 := HN2.out
   rw [hnn] at row2
   have hll := HLL.out
   try rw [if_pos (by rfl)]
   refine wp_append_where _ _ _ 30 rfl w.heap.size 70 i2 _ 2 40 Tryz.underlying30 hi2 hz1 hz2 hz3 rfl (by decide) (.slice a2 N2 k2) N2 xs.flatten rfl row2 ⟨al, 0, none⟩ 1 1 [.string s5, .slice ap np kp] rfl rfl (cells_reads EE.out) (by intro u hu; simp only [List.mem_cons, List.not_mem_nil, or_false] at hu; rcases hu with rfl | rfl <;> rfl) (by unfold maxLen; omega) (by omega) B7.out.size ?_
   intro v9 w8 o9 g9 l9
   have g9x : w7.grownBy w8 (Value.ownBlock (Cv.v2 { v with n2 := v.n2 ++ [s5], r2 := rb' })) := by rw [hvn]; exact g9
   have HROW : RowOf w8 w.heap.size 70 2 MpC v9 (Cv.maps { v with n2 := v.n2 ++ [s5], r2 := rb' } ++ [(⟨s5, l5⟩ : Mp)]) := push_row MpC.keeps al_ row (fun t ht => by intro e; subst e; revert ht; simp [tMp]) g9x (by rw [hnn]; exact o9) HXD.out
   have I8 : Hid (CvAt ⟨W0, pb, en⟩ w.heap.size (w8.setCell ⟨cb, 1, none⟩ v9) { v with n2 := v.n2 ++ [s5], r2 := rb', v2 := v9, maps := v.maps ++ [(⟨s5, l5⟩ : Mp)] }) := by rw [HFX.out.1]; exact I7.out.push2 g9x v9 (⟨s5, l5⟩ : Mp) HROW
   have gb := grown_but g9
   have hrow := I7.out.maps
   rw [hvn] at hrow
   have ga := fun t (ht : (70 : Nat) ≠ t) => row_av' hrow t ht
   have mm := gb.keep I7.out.mem (ga 33 (by decide) _ _ I7.out.mem)
   rw [show (Cv.cb { v with n2 := v.n2 ++ [s5], r2 := rb' }) = cb from HFX.out.1.symm] at mm
   rw [show Cv.v1 { v with n2 := v.n2 ++ [s5], r2 := rb' } = .slice a1 N1 k1 from HV1.out, show Cv.v2 { v with n2 := v.n2 ++ [s5], r2 := rb' } = .slice a2 N2 k2 from HV2.out, show Cv.v3 { v with n2 := v.n2 ++ [s5], r2 := rb' } = .slice a3 N3 k3 from HV3.out] at mm
   have RC8 := hide (gb.keep RC7.out (ga 33 (by decide) _ _ RC7.out))
   have P8 := hide (P7.out.of gb (fun e => by obtain ⟨_, _, cs, hc⟩ := hrow.lt _ e; exact P7.out.av (by decide) _ _ hc rfl) (fun k e => Nat.le_trans HW0.out (hrow.lt k e).1))
   have B8 := hide (B7.out.thens gb (fun j hj e => by have := (hrow.lt j e).1; omega))
   obtain ⟨qq, nq, cq, hv9⟩ := own_slice o9
   have MM := hide mm
   clear o9 g9 g9x l9 gb ga hrow al_ row row2 HROW EE HXD P7 I7 B7 RC7 mm hvn hnn
   refine hK.out _ _ trivial (fun hHeld => ?_)
   clear hK K
   try simp only [Act.put, g1, g2, g3, g4, g5, g6]
   refine tak 7 ((.pointer (some ⟨cb, 1, none⟩))) rfl (Or.inl ⟨by rfl, fun w _ => by go_simp⟩) hHeld ?_
   simp only [Act.put, g1, g2, g3, g4, g5, g6]
   refine rdy 8 (by kernel_rfl) rfl fun K hK => ?_
   obtain ⟨m0, m1, m2⟩ := three_cells MM.out
   have ff := unfrozen MM.out 1
   rw [hv9]
   go_simp
   rw [← hv9]
   have P9 := hide (P8.out.put (p := ⟨cb, 1, none⟩) HNE.out.2.1 HNE.out.2.2.2.2.2.2 v9)
   have B9 := hide (B8.out.setCell (p := ⟨cb, 1, none⟩) (.inr HNE.out.2.2.2.2.1) v9)
   have RC9 := hide (set_far (o := 1) (v := v9) RC8.out HNE.out.2.2.1)
   refine hK.out _ _ trivial (fun hHeld => ?_)
   clear hK K m0 m1 m2 ff MM P8 B8 RC8
   try simp only [Act.put, g1, g2, g3, g4, g5, g6]
   refine wpAnyH_done (by kernel_rfl) ?_ _
   clear hHeld
   generalize w8.setCell ⟨cb, 1, none⟩ v9 = w9 at *
   have HX := HE1.out h0 h1 (⟨s5, l5⟩ : Mp) HQV.out
   have HGO := HSTEP.out _ HX.2
   have HLS := hide P9.out.len
   have HNX : Hid (CfIs ⟨W0, pb, en⟩ w F f R rc cb c1 x1 c2 x2 c3 x3 { v with n2 := v.n2 ++ [s5], r2 := rb', v2 := v9, maps := v.maps ++ [(⟨s5, l5⟩ : Mp)] } RI.2 g w9) := ⟨I8.out, by rw [HX.1]; exact P9.out, HGO, by have h1 := HLI.out; have h2 := HS1.out; have h3 := HG.out; omega, B9.out, ⟨HOK.out.n1, by show v.n2 ++ [s5] = (v.maps ++ [(⟨s5, l5⟩ : Mp)]).map Mp.name; rw [List.map_append, ← HOK.out.n2]; rfl, HOK.out.n3, ⟨HOK.out.many.1, by show (v.maps ++ [_]).length ≤ 17; rw [List.length_append, HN2.out]; simp only [List.length_cons, List.length_nil]; have := HLL.out; omega, HOK.out.many.2.2⟩⟩, fun r m e => by
     have h9 : v.maps.length < 16 := by
       rw [HX.1] at e
       cases hq : sB with
       | good r0 m0 => exact HTC.out r0 m0 hq
       | bad p0 q0 e0 => rw [hq] at e; cases e
     exact ⟨HFV.out.1, by show (v.maps ++ [_]).length ≤ 16; rw [List.length_append]; simp only [List.length_cons, List.length_nil]; omega, HFV.out.2.2⟩, HFX.out, RC9.out⟩
   clear HX HGO HE0 HE1 HE2 HED HSTEP
   go_wp2_with fail
   refine ⟨⟨_, _, _, HNX⟩, ?_⟩
   have h1 := HLS.out
   have h2 := HWR.out
   have h3 := HLI.out
   have h4 := HS1.out
   have h5 := HNX.out.ps.len
   simp only at h5
   omega
 have hb1 := beq_ll (wd tk tt) [114, 111, 117, 116, 101, 45, 109, 97, 112]
 rw [decide_eq_false h1] at hb1
 by_cases h2 : wd tk tt = (bs [114, 111, 117, 116, 101, 114])
 ·
  have hb2 := beq_ll (wd tk tt) [114, 111, 117, 116, 101, 114]
  rw [decide_eq_true h2] at hb2
  have mm := I3.out.mem
  rw [HV1.out, HV2.out, HV3.out, ← HFX.out.1] at mm
  obtain ⟨m0, m1, m2⟩ := three_cells mm
  clear mm
  go_wp2_with fail
  refine (CR3.out _ P3.out).mono ?_
  rintro e w4 ⟨rfl, b4, p4⟩
  have P4 := hide p4
  have I4 := hide (I3.out.keep b4 (fun t h1 _ => P3.out.av h1))
  have B4 := hide (B3.out.trans b4)
  have RC4 := hide (b4.keep RC3.out HNE.out.1)
  clear p4 b4 c0 cc1 cc2 cc3 m0 m1 m2 P3 I3 B3 RC3 TK3 CR1 CR2 CR3 CF CI1 CI2
  go_upto_region 15 with fail
  have d5 := Below.drew (brefl w4)
  have P5 := hide (P4.out.below d5)
  have I5 := hide (I4.out.below d5)
  have B5 := hide (B4.out.trans (But.of d5))
  have RC5 := hide ((d5.block rc (heap_lt RC4.out)).trans RC4.out)
  refine wp_region_held_drew (S := fun _ => True) (by kernel_rfl) trivial (fun hHeld => ?_)
  clear d5 P4 I4 B4 RC4
  generalize w4.drew = w5 at *
  refine tak 0 ((.pointer (some ⟨cb, 2, none⟩))) rfl (Or.inl ⟨by rfl, fun w _ => by go_simp⟩) hHeld ?_
  simp only [Act.put, g1, g2, g4, g5, g6]
  refine tak 2 ((.pointer (some ⟨pb, 0, none⟩))) rfl (Or.inl ⟨by rfl, fun w _ => by go_simp⟩) hHeld ?_
  simp only [Act.put, g1, g2, g3, g4, g5, g6]
  refine tak 3 ((.func (.func 59) #[] #[.pointer (some ⟨c3, 0, none⟩), .pointer (some ⟨x3, 0, none⟩)])) rfl (Or.inl ⟨by rfl, fun w _ => by go_simp⟩) hHeld ?_
  simp only [Act.put, g1, g2, g3, g4, g5, g6]
  refine wpAnyH_ready (rs := [1, 4]) (by kernel_rfl) (by simp) ?_
  refine AllReadyH.cons rfl (fun K hK => ?_) ?_
  focus
   have mm := I5.out.mem
   rw [HV1.out, HV2.out, HV3.out, ← HFX.out.1] at mm
   obtain ⟨m0, m1, m2⟩ := three_cells mm
   clear mm
   go_simp
   refine hK.out _ _ trivial (fun hHeld => ?_)
   clear hK K m0 m1 m2
   try simp only [Act.put, g1, g2, g3, g4, g5, g6]
   refine rdy 4 (by kernel_rfl) rfl fun K hK => ?_
   go_simp
   go_wp2_with (refine (CI3.out _ P5.out I5.out.oc3).mono ?_; rintro e w6 ⟨r5, y1, y2, y3, rfl, _, hr1, hr2, hr3, rb', o5, l6, b5, p5, u5⟩)
   obtain ⟨ap1, kp1, hvp1⟩ := hr1.slice
   obtain ⟨ap2, kp2, hvp2⟩ := hr2.slice
   obtain ⟨ap3, kp3, hvp3⟩ := hr3.slice
   obtain ⟨np1, hnp1⟩ : ∃ n, r5.nets.length = n := ⟨_, rfl⟩
   obtain ⟨np2, hnp2⟩ : ∃ n, r5.nbs.length = n := ⟨_, rfl⟩
   obtain ⟨np3, hnp3⟩ : ∃ n, r5.links.length = n := ⟨_, rfl⟩
   rw [hnp1] at hvp1
   rw [hnp2] at hvp2
   rw [hnp3] at hvp3
   clear hnp1 hnp2 hnp3
   subst hvp1 hvp2 hvp3
   have P6 := hide p5
   have I6 := hide (I5.out.told3 P5.out b5 _ _ o5 l6)
   have HLR : Hid (∀ g, rb' = some g → v.r3 = some g ∨ w5.heap.size ≤ g) := l6
   have B6 := hide (B5.out.thens b5 (fun j hj e => by rcases e with e | e | e; exact e; have h1 := I5.out.base.2.2.2.2.2.1; have h2 : j = v.c3 := e; omega; have h1 := I5.out.base.2.2.2.2.2.2.2.2 j e; omega))
   have RC6 := hide (b5.keep RC5.out (by rintro (e | e | e); exact HNE.out.1 e; exact I5.out.oc3.av (by decide) (by decide) rc _ RC5.out (.inl e); exact I5.out.oc3.av (by decide) (by decide) rc _ RC5.out (.inr e)))
   have HQV := hide u5
   have HXC : Hid (RtC w6 r5 [.string r5.name, .int .i64 r5.asn, .int .i64 r5.id, .slice ap1 np1 kp1, .slice ap2 np2 kp2, .slice ap3 np3 kp3]) := ⟨_, _, _, rfl, RowOf.from hr1 (fun _ _ => Nat.zero_le _), RowOf.from hr2 (fun _ _ => Nat.zero_le _), RowOf.from hr3 (fun _ _ => Nat.zero_le _)⟩
   clear p5 b5 o5 l6 u5 hr1 hr2 hr3 P5 I5 B5 RC5 CI3
   refine hK.out _ _ trivial (fun hHeld => ?_)
   clear hK K
   try simp only [Act.put, g1, g2, g3, g4, g5, g6]
   refine rdy 5 (by kernel_rfl) rfl fun K hK => ?_
   go_simp
   have b5 := balloc (brefl w6) (.cells #[.string r5.name, .int .i64 r5.asn, .int .i64 r5.id, .slice ap1 np1 kp1, .slice ap2 np2 kp2, .slice ap3 np3 kp3] 50)
   have EE := hide (heap_new w6 #[.string r5.name, .int .i64 r5.asn, .int .i64 r5.id, .slice ap1 np1 kp1, .slice ap2 np2 kp2, .slice ap3 np3 kp3] 50)
   have P7 := hide (P6.out.below b5)
   have I7 := hide (I6.out.below b5)
   have B7 := hide (B6.out.trans (But.of b5))
   have RC7 := hide ((b5.block rc (heap_lt RC6.out)).trans RC6.out)
   have HXD := hide (RtC.keeps _ _ (fun _ => False) _ _ (But.of b5) (AvT.none _ _) HXC.out)
   clear b5 P6 I6 B6 RC6 HXC
   refine hK.out _ _ trivial (fun hHeld => ?_)
   clear hK K
   try simp only [Act.put, g1, g2, g3, g4, g5, g6]
   obtain ⟨al, hal⟩ : ∃ al, w6.heap.size = al := ⟨_, rfl⟩
   rw [hal] at EE ⊢
   generalize w6.alloc (.cells #[.string r5.name, .int .i64 r5.asn, .int .i64 r5.id, .slice ap1 np1 kp1, .slice ap2 np2 kp2, .slice ap3 np3 kp3] 50) = w7 at *
   clear hal
  rotate_left
  focus
   refine AllReadyH.cons rfl (fun K hK => ?_) AllReadyH.nil
   go_simp
   go_wp2_with (refine (CI3.out _ P5.out I5.out.oc3).mono ?_; rintro e w6 ⟨r5, y1, y2, y3, rfl, _, hr1, hr2, hr3, rb', o5, l6, b5, p5, u5⟩)
   obtain ⟨ap1, kp1, hvp1⟩ := hr1.slice
   obtain ⟨ap2, kp2, hvp2⟩ := hr2.slice
   obtain ⟨ap3, kp3, hvp3⟩ := hr3.slice
   obtain ⟨np1, hnp1⟩ : ∃ n, r5.nets.length = n := ⟨_, rfl⟩
   obtain ⟨np2, hnp2⟩ : ∃ n, r5.nbs.length = n := ⟨_, rfl⟩
   obtain ⟨np3, hnp3⟩ : ∃ n, r5.links.length = n := ⟨_, rfl⟩
   rw [hnp1] at hvp1
   rw [hnp2] at hvp2
   rw [hnp3] at hvp3
   clear hnp1 hnp2 hnp3
   subst hvp1 hvp2 hvp3
   have P6 := hide p5
   have I6 := hide (I5.out.told3 P5.out b5 _ _ o5 l6)
   have HLR : Hid (∀ g, rb' = some g → v.r3 = some g ∨ w5.heap.size ≤ g) := l6
   have B6 := hide (B5.out.thens b5 (fun j hj e => by rcases e with e | e | e; exact e; have h1 := I5.out.base.2.2.2.2.2.1; have h2 : j = v.c3 := e; omega; have h1 := I5.out.base.2.2.2.2.2.2.2.2 j e; omega))
   have RC6 := hide (b5.keep RC5.out (by rintro (e | e | e); exact HNE.out.1 e; exact I5.out.oc3.av (by decide) (by decide) rc _ RC5.out (.inl e); exact I5.out.oc3.av (by decide) (by decide) rc _ RC5.out (.inr e)))
   have HQV := hide u5
   have HXC : Hid (RtC w6 r5 [.string r5.name, .int .i64 r5.asn, .int .i64 r5.id, .slice ap1 np1 kp1, .slice ap2 np2 kp2, .slice ap3 np3 kp3]) := ⟨_, _, _, rfl, RowOf.from hr1 (fun _ _ => Nat.zero_le _), RowOf.from hr2 (fun _ _ => Nat.zero_le _), RowOf.from hr3 (fun _ _ => Nat.zero_le _)⟩
   clear p5 b5 o5 l6 u5 hr1 hr2 hr3 P5 I5 B5 RC5 CI3
   refine hK.out _ _ trivial (fun hHeld => ?_)
   clear hK K
   try simp only [Act.put, g1, g2, g3, g4, g5, g6]
   refine wpAnyH_ready (rs := [1, 5]) (by kernel_rfl) (by simp) ?_
   refine AllReadyH.cons rfl (fun K hK => ?_) ?_
   focus
    have mm := I6.out.mem
    rw [HV1.out, HV2.out, HV3.out, ← HFX.out.1] at mm
    obtain ⟨m0, m1, m2⟩ := three_cells mm
    clear mm
    go_simp
    refine hK.out _ _ trivial (fun hHeld => ?_)
    clear hK K m0 m1 m2
    try simp only [Act.put, g1, g2, g3, g4, g5, g6]
    refine rdy 5 (by kernel_rfl) rfl fun K hK => ?_
    go_simp
    have b5 := balloc (brefl w6) (.cells #[.string r5.name, .int .i64 r5.asn, .int .i64 r5.id, .slice ap1 np1 kp1, .slice ap2 np2 kp2, .slice ap3 np3 kp3] 50)
    have EE := hide (heap_new w6 #[.string r5.name, .int .i64 r5.asn, .int .i64 r5.id, .slice ap1 np1 kp1, .slice ap2 np2 kp2, .slice ap3 np3 kp3] 50)
    have P7 := hide (P6.out.below b5)
    have I7 := hide (I6.out.below b5)
    have B7 := hide (B6.out.trans (But.of b5))
    have RC7 := hide ((b5.block rc (heap_lt RC6.out)).trans RC6.out)
    have HXD := hide (RtC.keeps _ _ (fun _ => False) _ _ (But.of b5) (AvT.none _ _) HXC.out)
    clear b5 P6 I6 B6 RC6 HXC
    refine hK.out _ _ trivial (fun hHeld => ?_)
    clear hK K
    try simp only [Act.put, g1, g2, g3, g4, g5, g6]
    obtain ⟨al, hal⟩ : ∃ al, w6.heap.size = al := ⟨_, rfl⟩
    rw [hal] at EE ⊢
    generalize w6.alloc (.cells #[.string r5.name, .int .i64 r5.asn, .int .i64 r5.id, .slice ap1 np1 kp1, .slice ap2 np2 kp2, .slice ap3 np3 kp3] 50) = w7 at *
    clear hal
   rotate_left
   refine AllReadyH.cons rfl (fun K hK => ?_) AllReadyH.nil
   go_simp
   have b5 := balloc (brefl w6) (.cells #[.string r5.name, .int .i64 r5.asn, .int .i64 r5.id, .slice ap1 np1 kp1, .slice ap2 np2 kp2, .slice ap3 np3 kp3] 50)
   have EE := hide (heap_new w6 #[.string r5.name, .int .i64 r5.asn, .int .i64 r5.id, .slice ap1 np1 kp1, .slice ap2 np2 kp2, .slice ap3 np3 kp3] 50)
   have P7 := hide (P6.out.below b5)
   have I7 := hide (I6.out.below b5)
   have B7 := hide (B6.out.trans (But.of b5))
   have RC7 := hide ((b5.block rc (heap_lt RC6.out)).trans RC6.out)
   have HXD := hide (RtC.keeps _ _ (fun _ => False) _ _ (But.of b5) (AvT.none _ _) HXC.out)
   clear b5 P6 I6 B6 RC6 HXC
   refine hK.out _ _ trivial (fun hHeld => ?_)
   clear hK K
   try simp only [Act.put, g1, g2, g3, g4, g5, g6]
   obtain ⟨al, hal⟩ : ∃ al, w6.heap.size = al := ⟨_, rfl⟩
   rw [hal] at EE ⊢
   generalize w6.alloc (.cells #[.string r5.name, .int .i64 r5.asn, .int .i64 r5.id, .slice ap1 np1 kp1, .slice ap2 np2 kp2, .slice ap3 np3 kp3] 50) = w7 at *
   clear hal
   refine rdy 1 (by kernel_rfl) rfl fun K hK => ?_
   have mm := I7.out.mem
   rw [HV1.out, HV2.out, HV3.out, ← HFX.out.1] at mm
   obtain ⟨m0, m1, m2⟩ := three_cells mm
   clear mm
   go_simp
   refine hK.out _ _ trivial (fun hHeld => ?_)
   clear hK K m0 m1 m2
   try simp only [Act.put, g1, g2, g3, g4, g5, g6]
  all_goals
   refine rdy 6 (by kernel_rfl) rfl fun K hK => ?_
   obtain ⟨xs, al_, row⟩ := I7.out.routers
   have row2 := row
   have hvn : Cv.v3 { v with n3 := v.n3 ++ [r5.name], r3 := rb' } = .slice a3 N3 k3 := HV3.out
   rw [hvn] at row2
   have hnn : (Cv.routers { v with n3 := v.n3 ++ [r5.name], r3 := rb' }).length = N3 := HN3.out
   rw [hnn] at row2
   have hll := HLL.out
   try rw [if_pos (by rfl)]
   refine wp_append_where _ _ _ 31 rfl w.heap.size 50 i3 _ 6 104 Tryz.underlying31 hi3 hu1 hu2 hu3 rfl (by decide) (.slice a3 N3 k3) N3 xs.flatten rfl row2 ⟨al, 0, none⟩ 1 1 [.string r5.name, .int .i64 r5.asn, .int .i64 r5.id, .slice ap1 np1 kp1, .slice ap2 np2 kp2, .slice ap3 np3 kp3] rfl rfl (cells_reads EE.out) (by intro u hu; simp only [List.mem_cons, List.not_mem_nil, or_false] at hu; rcases hu with rfl | rfl | rfl | rfl | rfl | rfl <;> rfl) (by unfold maxLen; omega) (by omega) B7.out.size ?_
   intro v9 w8 o9 g9 l9
   have g9x : w7.grownBy w8 (Value.ownBlock (Cv.v3 { v with n3 := v.n3 ++ [r5.name], r3 := rb' })) := by rw [hvn]; exact g9
   have HROW : RowOf w8 w.heap.size 50 6 RtC v9 (Cv.routers { v with n3 := v.n3 ++ [r5.name], r3 := rb' } ++ [r5]) := push_row RtC.keeps al_ row (fun t ht => by intro e; subst e; revert ht; simp [tRt]) g9x (by rw [hnn]; exact o9) HXD.out
   have I8 : Hid (CvAt ⟨W0, pb, en⟩ w.heap.size (w8.setCell ⟨cb, 2, none⟩ v9) { v with n3 := v.n3 ++ [r5.name], r3 := rb', v3 := v9, routers := v.routers ++ [r5] }) := by rw [HFX.out.1]; exact I7.out.push3 g9x v9 r5 HROW
   have gb := grown_but g9
   have hrow := I7.out.routers
   rw [hvn] at hrow
   have ga := fun t (ht : (50 : Nat) ≠ t) => row_av' hrow t ht
   have mm := gb.keep I7.out.mem (ga 33 (by decide) _ _ I7.out.mem)
   rw [show (Cv.cb { v with n3 := v.n3 ++ [r5.name], r3 := rb' }) = cb from HFX.out.1.symm] at mm
   rw [show Cv.v1 { v with n3 := v.n3 ++ [r5.name], r3 := rb' } = .slice a1 N1 k1 from HV1.out, show Cv.v2 { v with n3 := v.n3 ++ [r5.name], r3 := rb' } = .slice a2 N2 k2 from HV2.out, show Cv.v3 { v with n3 := v.n3 ++ [r5.name], r3 := rb' } = .slice a3 N3 k3 from HV3.out] at mm
   have RC8 := hide (gb.keep RC7.out (ga 33 (by decide) _ _ RC7.out))
   have P8 := hide (P7.out.of gb (fun e => by obtain ⟨_, _, cs, hc⟩ := hrow.lt _ e; exact P7.out.av (by decide) _ _ hc rfl) (fun k e => Nat.le_trans HW0.out (hrow.lt k e).1))
   have B8 := hide (B7.out.thens gb (fun j hj e => by have := (hrow.lt j e).1; omega))
   obtain ⟨qq, nq, cq, hv9⟩ := own_slice o9
   have MM := hide mm
   clear o9 g9 g9x l9 gb ga hrow al_ row row2 HROW EE HXD P7 I7 B7 RC7 mm hvn hnn
   refine hK.out _ _ trivial (fun hHeld => ?_)
   clear hK K
   try simp only [Act.put, g1, g2, g3, g4, g5, g6]
   refine tak 7 ((.pointer (some ⟨cb, 2, none⟩))) rfl (Or.inl ⟨by rfl, fun w _ => by go_simp⟩) hHeld ?_
   simp only [Act.put, g1, g2, g3, g4, g5, g6]
   refine rdy 8 (by kernel_rfl) rfl fun K hK => ?_
   obtain ⟨m0, m1, m2⟩ := three_cells MM.out
   have ff := unfrozen MM.out 2
   rw [hv9]
   go_simp
   rw [← hv9]
   have P9 := hide (P8.out.put (p := ⟨cb, 2, none⟩) HNE.out.2.1 HNE.out.2.2.2.2.2.2 v9)
   have B9 := hide (B8.out.setCell (p := ⟨cb, 2, none⟩) (.inr HNE.out.2.2.2.2.1) v9)
   have RC9 := hide (set_far (o := 2) (v := v9) RC8.out HNE.out.2.2.1)
   refine hK.out _ _ trivial (fun hHeld => ?_)
   clear hK K m0 m1 m2 ff MM P8 B8 RC8
   try simp only [Act.put, g1, g2, g3, g4, g5, g6]
   refine wpAnyH_done (by kernel_rfl) ?_ _
   clear hHeld
   generalize w8.setCell ⟨cb, 2, none⟩ v9 = w9 at *
   have HX := HE2.out h0 h1 h2 r5 HQV.out
   have HGO := HSTEP.out _ HX.2
   have HLS := hide P9.out.len
   have HNX : Hid (CfIs ⟨W0, pb, en⟩ w F f R rc cb c1 x1 c2 x2 c3 x3 { v with n3 := v.n3 ++ [r5.name], r3 := rb', v3 := v9, routers := v.routers ++ [r5] } RI.2 g w9) := ⟨I8.out, by rw [HX.1]; exact P9.out, HGO, by have h1 := HLI.out; have h2 := HS1.out; have h3 := HG.out; omega, B9.out, ⟨HOK.out.n1, HOK.out.n2, by show v.n3 ++ [r5.name] = (v.routers ++ [r5]).map Rt.name; rw [List.map_append, ← HOK.out.n3]; rfl, ⟨HOK.out.many.1, HOK.out.many.2.1, by show (v.routers ++ [_]).length ≤ 9; rw [List.length_append, HN3.out]; simp only [List.length_cons, List.length_nil]; have := HLL.out; omega⟩⟩, fun r m e => by
     have h9 : v.routers.length < 8 := by
       rw [HX.1] at e
       cases hq : sC with
       | good r0 m0 => exact HTD.out r0 m0 hq
       | bad p0 q0 e0 => rw [hq] at e; cases e
     exact ⟨HFV.out.1, HFV.out.2.1, by show (v.routers ++ [_]).length ≤ 8; rw [List.length_append]; simp only [List.length_cons, List.length_nil]; omega⟩, HFX.out, RC9.out⟩
   clear HX HGO HE0 HE1 HE2 HED HSTEP
   go_wp2_with fail
   refine ⟨⟨_, _, _, HNX⟩, ?_⟩
   have h1 := HLS.out
   have h2 := HWR.out
   have h3 := HLI.out
   have h4 := HS1.out
   have h5 := HNX.out.ps.len
   simp only at h5
   omega
 have hb2 := beq_ll (wd tk tt) [114, 111, 117, 116, 101, 114]
 rw [decide_eq_false h2] at hb2
 go_wp2_with fail
 refine (CF.out _ P3.out).mono ?_
 rintro e w4 ⟨rfl, b4, p4⟩
 have HX := HED.out h0 h1 h2
 have HGO := HSTEP.out v.cf (fun a ha => by rw [HX] at ha; cases ha)
 have HNX : Hid (CfIs ⟨W0, pb, en⟩ w F f R rc cb c1 x1 c2 x2 c3 x3 v RI.2 g w4) := ⟨I3.out.keep b4 (fun t h1 _ => P3.out.av h1), by rw [HX]; exact p4, HGO, by have h1 := HLI.out; have h2 := HS1.out; have h3 := HG.out; omega, B3.out.trans b4, HOK.out, fun _ _ _ => HFV.out, HFX.out, b4.keep RC3.out HNE.out.1⟩
 clear HX HGO HE0 HE1 HE2 HED HSTEP
 go_wp2_with fail
 refine ⟨⟨_, _, _, HNX⟩, ?_⟩
 have h2 := HWR.out
 have h3 := HLI.out
 have h4 := HS1.out
 have h5 := HNX.out.ps.len
 simp only at h5
 omega
end Go.Proofs.YtnadhplhnfpeaaaGreatDoor
