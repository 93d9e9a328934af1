/- Part of the proof. -/
import Derived.Test.YtnadhplhnfpeaaaGreatDoorAZ
import Derived.Test.YtnadhplhnfpeaaaGreatDoorA17
namespace Go.Proofs.YtnadhplhnfpeaaaGreatDoor
open Go.RowKit Go.Sort
theorem pfx_bind {α : Type} (F : Fn) (en : Int × Int) (h : Int × Int → Pg α) {t : Tv} {st : Sta} (ha : At t st) : ((pPfx F t.k t.s).bind h).exec en st = (h ((F.pfx (wd t.k t.s)).1, (F.pfx (wd t.k t.s)).2.1)).exec en (faulted t (F.pfx (wd t.k t.s)).2.2 st) := by
 unfold pPfx
 rw [bind_assoc, exec_chk en ha]
 rfl
theorem net_exec (F : Fn) (en : Int × Int) (old : List (Int × Int)) (st : Sta) (t : Tv) (st1 s2 : Sta) (x : Int × Int) (ht : (taken en st).1 = t) (h1 : faulted t (F.pfx (wd t.k t.s)).2.2 (taken en st).2 = st1) (hx : ((F.pfx (wd t.k t.s)).1, (F.pfx (wd t.k t.s)).2.1) = x) (h2 : faulted t (if x ∈ old then 6 else 0) st1 = s2) : (pNet F old).exec en st = (okv x s2, s2) := by
 have ha := taken_at en st
 unfold pNet
 rw [exec_next, pfx_bind F en _ ha, ht, h1, hx]
 show (if _ then _ else _ : Pg (Int × Int)).exec en _ = _
 rw [exec_if en (by rw [← h1]; rw [ht] at ha; exact faulted_at ha) (by decide), h2, exec_ret]
set_option maxHeartbeats 2000000 in
set_option maxRecDepth 100000 in
theorem network_is {T : World → Prop} {F : Fn} (K : Kit12 T F) (E : En) (hT : T E.w0) (B : Nat) (v : Value) (l : List (Int × Int)) (hl : l.length ≤ 100) (st : Sta) (w : World) (h : Ps E w st) (hr : w.ownsRow B 107 2 v l.length (pxs l)) : Calls Tryz.prog 72 #[.pointer (some ⟨E.pb, 0, none⟩), v] w fun e w' => ∃ x : Int × Int, e = .returned (.agg #[.int .u32 x.1, .int .i64 x.2]) ∧ But (but1 E.pb) w w' ∧ Ps E w' ((pNet F l).exec E.en st).2 ∧ ∀ a, ((pNet F l).exec E.en st).1 = some a → x = a := by
 have A0 := hide (balloc (brefl w) (.cells #[.int .u32 0, .int .i64 0] 107))
 have R0 := hide (heap_new w #[.int .u32 0, .int .i64 0] 107)
 have P0 := hide (h.below A0.out)
 have O0 := hide (row_of (w' := w.alloc (.cells #[.int .u32 0, .int .i64 0] 107)) hr (fun g hg => A0.out.block g (hr.lt g hg).2))
 have HPB := hide h.lt
 have HW0 := hide h.1.size
 have HNO : Hid (∀ g, v.ownBlock = some g → g < w.heap.size) := fun g hg => (hr.lt g hg).2
 have CN := hide (next_is E st)
 have HZ := hide (taken_size h)
 have CP := hide (fun W hW => prefix_is K E (taken E.en st).2 (taken E.en st).1 W hW hT HZ.out)
 have HEX := hide (fun st1 s2 x h1 hx h2 => net_exec F E.en l st (taken E.en st).1 st1 s2 x rfl h1 hx h2)
 obtain ⟨ao, c, hv, _⟩ := pxs_at hr
 obtain ⟨R, hR⟩ : ∃ R, (pNet F l).exec E.en st = R := ⟨_, rfl⟩
 rw [hR] at HEX ⊢
 clear hR h hr hT
 generalize (taken E.en st).2 = stT at *
 generalize (taken E.en st).1 = t at *
 have CF := hide (fun s1 => fault_is E s1 t 6)
 obtain ⟨st1, hs1⟩ : ∃ s, faulted t (F.pfx (wd t.k t.s)).2.2 stT = s := ⟨_, rfl⟩
 rw [hs1] at CP HEX
 obtain ⟨x1, hx1⟩ : ∃ x, (F.pfx (wd t.k t.s)).1 = x := ⟨_, rfl⟩
 obtain ⟨x2, hx2⟩ : ∃ x, (F.pfx (wd t.k t.s)).2.1 = x := ⟨_, rfl⟩
 rw [hx1, hx2] at CP HEX
 clear hs1 hx1 hx2
 obtain ⟨W0, pb, en⟩ := E
 obtain ⟨tk, tt, tp, tq⟩ := t
 subst hv
 simp only [Tv.val] at *
 go_enter Tryz.func72, Tryz.ntmps72
 go_upto_region 1 with fail
 obtain ⟨rb, hrb⟩ : ∃ rb, w.heap.size = rb := ⟨_, rfl⟩
 have HRB : Hid (rb ≠ pb ∧ w.heap.size ≤ rb ∧ ∀ g, Value.ownBlock (.slice ao l.length c) = some g → g ≠ rb) := ⟨by have := HPB.out; omega, by omega, fun g hg => by have := HNO.out g hg; omega⟩
 rw [hrb] at R0 ⊢
 have B0 := hide (But.of (S := but1 pb) A0.out)
 generalize w.alloc (.cells #[.int .u32 0, .int .i64 0] 107) = W at *
 clear hrb A0 HNO
 go_wp2_with fail
 refine (CN.out _ P0.out).mono ?_
 rintro e w1 ⟨rfl, b1, p1⟩
 have P1 := hide p1
 have B1 := hide (B0.out.trans b1)
 have R1 := hide (b1.keep R0.out (P0.out.av (by decide) _ _ R0.out))
 have O1 := hide (row_av O0.out b1 (P0.out.av (by decide)))
 clear p1 b1 CN P0 B0 R0 O0
 go_upto_region 2 with fail
 have a2 := balloc (brefl w1) (.cells #[.int .i64 tk, .string tt, .int .i64 tp, .int .i64 tq] 95)
 have T2 := hide (heap_new w1 #[.int .i64 tk, .string tt, .int .i64 tp, .int .i64 tq] 95)
 have P2 := hide (P1.out.below a2)
 have B2 := hide (B1.out.trans (But.of a2))
 have R2 := hide ((a2.block rb (heap_lt R1.out)).trans R1.out)
 have O2 := hide (row_of (w' := w1.alloc (.cells #[.int .i64 tk, .string tt, .int .i64 tp, .int .i64 tq] 95)) O1.out (fun g hg => a2.block g (O1.out.lt g hg).2))
 obtain ⟨tb, htb⟩ : ∃ tb, w1.heap.size = tb := ⟨_, rfl⟩
 rw [htb] at T2 ⊢
 generalize w1.alloc (.cells #[.int .i64 tk, .string tt, .int .i64 tp, .int .i64 tq] 95) = W2 at *
 clear a2 htb P1 B1 R1 O1
 obtain ⟨⟨c0, c1, c2, c3⟩, _⟩ := four_cells T2.out
 go_wp2_with fail
 refine (CP.out _ P2.out).mono ?_
 rintro e w3 ⟨rfl, b3, p3⟩
 have P3 := hide p3
 have B3 := hide (B2.out.trans b3)
 have R3 := hide (b3.keep R2.out (P2.out.av (by decide) _ _ R2.out))
 have T3 := hide (b3.keep T2.out (P2.out.av (by decide) _ _ T2.out))
 have O3 := hide (row_av O2.out b3 (P2.out.av (by decide)))
 clear p3 b3 CP P2 B2 R2 T2 O2 c0 c1 c2 c3
 go_upto_region 3 with fail
 have a4 := balloc (brefl w3) (.cells #[.int .u32 x1, .int .i64 x2] 107)
 have X4 := hide (heap_new w3 #[.int .u32 x1, .int .i64 x2] 107)
 have P4 := hide (P3.out.below a4)
 have B4 := hide (B3.out.trans (But.of a4))
 have R4 := hide ((a4.block rb (heap_lt R3.out)).trans R3.out)
 have T4 := hide ((a4.block tb (heap_lt T3.out)).trans T3.out)
 have O4 := hide (row_of (w' := w3.alloc (.cells #[.int .u32 x1, .int .i64 x2] 107)) O3.out (fun g hg => a4.block g (O3.out.lt g hg).2))
 obtain ⟨xb, hxb⟩ : ∃ xb, w3.heap.size = xb := ⟨_, rfl⟩
 have HXB : Hid (xb ≠ rb) := by have := heap_lt R3.out; show _ ≠ _; omega
 rw [hxb] at X4 ⊢
 generalize w3.alloc (.cells #[.int .u32 x1, .int .i64 x2] 107) = W4 at *
 clear a4 hxb P3 B3 R3 T3 O3
 have CC := hide (containsP_is B (.slice ao l.length c) l x1 x2 (by omega) W4 O4.out)
 obtain ⟨x0, x0', _, _⟩ := two_cells X4.out
 obtain ⟨q, hq⟩ : ∃ q, decide ((x1, x2) ∈ l) = q := ⟨_, rfl⟩
 rw [hq] at CC
 have HQ := hide hq
 clear hq
 go_wp2_with fail
 refine CC.out.mono ?_
 rintro e w5 ⟨rfl, b5⟩
 have P5 := hide (P4.out.below b5)
 have B5 := hide (B4.out.trans (But.of b5))
 have R5 := hide ((b5.block rb (heap_lt R4.out)).trans R4.out)
 have T5 := hide ((b5.block tb (heap_lt T4.out)).trans T4.out)
 have X5 := hide ((b5.block xb (heap_lt X4.out)).trans X4.out)
 clear b5 CC P4 B4 R4 T4 X4 O4 x0 x0'
 cases q with
 | true =>
  have HM := hide (of_decide_eq_true HQ.out)
  obtain ⟨⟨c0, c1, c2, c3⟩, _⟩ := four_cells T5.out
  go_wp2_with fail
  refine (CF.out _ _ P5.out).mono ?_
  rintro e w6 ⟨rfl, b6, p6⟩
  have P6 := hide p6
  have B6 := hide (B5.out.trans b6)
  have R6 := hide (b6.keep R5.out (P5.out.av (by decide) _ _ R5.out))
  have X6 := hide (b6.keep X5.out (P5.out.av (by decide) _ _ X5.out))
  clear p6 b6 CF P5 B5 R5 X5 T5 c0 c1 c2 c3
  have HR := hide (HEX.out _ _ (x1, x2) rfl rfl rfl)
  rw [if_pos HM.out] at HR
  obtain ⟨x0, x0', _, _⟩ := two_cells X6.out
  obtain ⟨r0, r1, f0, f1⟩ := two_cells R6.out
  go_wp2_with fail
  have B7 := hide ((B6.out.setCell (p := ⟨rb, 0, none⟩) (.inr HRB.out.2.1) (.int .u32 x1)).setCell (p := ⟨rb, 1, none⟩) (.inr HRB.out.2.1) (.int .i64 x2))
  have P7 := hide ((P6.out.put (p := ⟨rb, 0, none⟩) HRB.out.1 (by have h1 := P6.out.1.size; have h2 := HW0.out; have h3 := HRB.out.2.1; simp only at *; omega) (.int .u32 x1)).put (p := ⟨rb, 1, none⟩) HRB.out.1 (by have h2 := HW0.out; have h3 := HRB.out.2.1; simp only at *; omega) (.int .i64 x2))
  have R7 := hide (heap_setCell_same _ rb 1 _ 107 (.int .i64 x2) (heap_setCell_same _ rb 0 _ 107 (.int .u32 x1) R6.out))
  refine bodyPost_ret (v := .agg #[.int .u32 x1, .int .i64 x2]) ?_ rfl ⟨(x1, x2), rfl, B7.out, by rw [HR.out]; exact P7.out, fun a ha => by rw [HR.out] at ha; exact okv_some ha⟩
  obtain ⟨t0, t1, _, _⟩ := two_cells R7.out
  simp [results, Tryz.results72, go_sem, t0, t1]
 | false =>
  have HM := hide (of_decide_eq_false HQ.out)
  have P6 := P5
  have B6 := B5
  have R6 := R5
  have X6 := X5
  clear CF P5 B5 R5 X5 T5
  have HR := hide (HEX.out _ _ (x1, x2) rfl rfl rfl)
  rw [if_neg HM.out, faulted_zero] at HR
  obtain ⟨x0, x0', _, _⟩ := two_cells X6.out
  obtain ⟨r0, r1, f0, f1⟩ := two_cells R6.out
  go_wp2_with fail
  have B7 := hide ((B6.out.setCell (p := ⟨rb, 0, none⟩) (.inr HRB.out.2.1) (.int .u32 x1)).setCell (p := ⟨rb, 1, none⟩) (.inr HRB.out.2.1) (.int .i64 x2))
  have P7 := hide ((P6.out.put (p := ⟨rb, 0, none⟩) HRB.out.1 (by have h1 := P6.out.1.size; have h2 := HW0.out; have h3 := HRB.out.2.1; simp only at *; omega) (.int .u32 x1)).put (p := ⟨rb, 1, none⟩) HRB.out.1 (by have h2 := HW0.out; have h3 := HRB.out.2.1; simp only at *; omega) (.int .i64 x2))
  have R7 := hide (heap_setCell_same _ rb 1 _ 107 (.int .i64 x2) (heap_setCell_same _ rb 0 _ 107 (.int .u32 x1) R6.out))
  refine bodyPost_ret (v := .agg #[.int .u32 x1, .int .i64 x2]) ?_ rfl ⟨(x1, x2), rfl, B7.out, by rw [HR.out]; exact P7.out, fun a ha => by rw [HR.out] at ha; exact okv_some ha⟩
  obtain ⟨t0, t1, _, _⟩ := two_cells R7.out
  simp [results, Tryz.results72, go_sem, t0, t1]
theorem key_ex (en : Int × Int) (x : ByteArray) (st : Sta) : (pKey x).exec en st = (okv () ((pKey x).exec en st).2, ((pKey x).exec en st).2) := by
 unfold pKey
 rw [exec_next, exec_ifn en (taken_at en st) (by decide), exec_ret]
theorem lk_exec (F : Fn) (en : Int × Int) (old : List ByteArray) (st s2 s3 : Sta) (s : ByteArray) (t : Tv) (s4 : Sta) (n : Int) (h1 : ((pNew F old).exec en st).1 = okv s ((pNew F old).exec en st).2) (h2 : ((pNew F old).exec en st).2 = s2) (h3 : ((pKey wCost).exec en s2).2 = s3) (ht : (taken en s3).1 = t) (h4 : faulted t (F.num (wd t.k t.s) 0 65536).2 (taken en s3).2 = s4) (hn : (F.num (wd t.k t.s) 0 65536).1 = n) : (pLk F old).exec en st = (okv ⟨s, n⟩ s4, s4) := by
 unfold pLk
 rw [exec_then en (pNew F old) _ st s (fun a ha => by rw [h1] at ha; exact okv_some ha), h2, okv_bind en _ _ _ _ _ (key_ex en wCost s2), h3, exec_next]
 have ha := taken_at en s3
 rw [num_bind F _ _ en _ ha, ht, h4, hn, exec_ret]
theorem ow_of {E : En} {w : World} {o : Oc} {b : Nat} (h : OcAt E w o) (hw : w.heap.size ≤ b) : ¬ o.S b := fun e => by have := h.sz b e; omega
set_option maxHeartbeats 2000000 in
set_option maxRecDepth 100000 in
theorem link_is {T : World → Prop} {F : Fn} (K : Kit12 T F) (E : En) (hT : T E.w0) (o : Oc) (st : Sta) (w : World) (h : Ps E w st) (ho : OcAt E w o) (hl : o.old.length ≤ 10000) : Calls Tryz.prog 74 #[.pointer (some ⟨E.pb, 0, none⟩), o.fn] w fun e w' => ∃ s n, e = .returned (.agg #[.string s, .int .i64 n]) ∧ s.size ≤ 1000 ∧ ItTo E o ((pLk F o.old).exec E.en st) w w' ⟨s, n⟩ s := by
 unfold ItTo
 have A0 := hide (balloc (brefl w) (.cells #[.string ⟨#[]⟩, .int .i64 0] 115))
 have R0 := hide (heap_new w #[.string ⟨#[]⟩, .int .i64 0] 115)
 have P0 := hide (h.below A0.out)
 have O0 := hide (ho.below A0.out)
 have HOS := hide (ow_of ho (Nat.le_refl _))
 have HPB := hide h.lt
 have HW0 := hide h.1.size
 have CN := hide (fun W hW hO => newName_is K E o st W hW hO hl)
 unfold NewTo at CN
 have HEX := hide (fun s (h1 : ((pNew F o.old).exec E.en st).1 = okv s ((pNew F o.old).exec E.en st).2) => lk_exec F E.en o.old st _ _ s _ _ _ h1 rfl rfl rfl rfl rfl)
 obtain ⟨R, hR⟩ : ∃ R, (pLk F o.old).exec E.en st = R := ⟨_, rfl⟩
 rw [hR] at HEX ⊢
 clear hR h ho hl
 generalize (pNew F o.old).exec E.en st = RN at *
 have CK := hide (keyword_is E RN.2 wCost)
 generalize ((pKey wCost).exec E.en RN.2).2 = s3 at *
 have CX := hide (next_is E s3)
 have HZ := hide (fun W (hW : Ps E W s3) => taken_size hW)
 have CM := hide (fun W hW (hz : (taken E.en s3).1.s.size ≤ 1000) => number_is K E (taken E.en s3).2 (taken E.en s3).1 0 65536 W hW hT hz)
 generalize faulted (taken E.en s3).1 (F.num (wd (taken E.en s3).1.k (taken E.en s3).1.s) 0 65536).2 (taken E.en s3).2 = s4 at *
 generalize (F.num (wd (taken E.en s3).1.k (taken E.en s3).1.s) 0 65536).1 = n at *
 generalize (taken E.en s3).2 = s3t at *
 generalize (taken E.en s3).1 = t at *
 clear hT
 obtain ⟨W0, pb, en⟩ := E
 obtain ⟨tk, tt, tp, tq⟩ := t
 unfold wCost at CK
 simp only [Tv.val, Oc.fn] at *
 go_enter Tryz.func74, Tryz.ntmps74
 go_upto_region 1 with fail
 obtain ⟨rb, hrb⟩ : ∃ rb, w.heap.size = rb := ⟨_, rfl⟩
 have HRB : Hid (rb ≠ pb ∧ w.heap.size ≤ rb ∧ W0.heap.size ≤ rb ∧ ¬ o.S rb) := ⟨by have := HPB.out; omega, by omega, by have := HW0.out; omega, by rw [← hrb]; exact HOS.out⟩
 rw [hrb] at R0 ⊢
 have B0 := hide (But.of (S := fun k => k = pb ∨ o.S k) A0.out)
 generalize w.alloc (.cells #[.string ⟨#[]⟩, .int .i64 0] 115) = W at *
 clear hrb A0 HOS
 go_wp2_with fail
 refine (CN.out _ P0.out O0.out).mono ?_
 rintro e w1 ⟨s, rfl, hs, rb1, o1, l1, b1, p1, v1⟩
 have HS := hide hs
 have HR := hide (HEX.out s v1)
 have HL1 : Hid (∀ g, rb1 = some g → o.rb = some g ∨ w.heap.size ≤ g) := fun g hg => (l1 g hg).imp id (fun h => Nat.le_trans B0.out.size h)
 have P1 := hide p1
 have O1 := hide o1
 have B1 := hide (B0.out.trans b1)
 have R1 := hide (b1.keep R0.out (fun e => e.elim HRB.out.1 HRB.out.2.2.2))
 clear b1 p1 o1 v1 l1 hs CN P0 O0 B0 R0 HEX
 go_upto_region 2 with fail
 have a2 := balloc (brefl w1) (.cells #[.string s, .int .i64 0] 115)
 have X2 := hide (heap_new w1 #[.string s, .int .i64 0] 115)
 have P2 := hide (P1.out.below a2)
 have O2 := hide (O1.out.below a2)
 have B2 := hide (B1.out.trans (But.of a2))
 have R2 := hide ((a2.block rb (heap_lt R1.out)).trans R1.out)
 obtain ⟨xb, hxb⟩ : ∃ xb, w1.heap.size = xb := ⟨_, rfl⟩
 have HXB : Hid (xb ≠ rb ∧ xb ≠ pb ∧ w.heap.size ≤ xb ∧ W0.heap.size ≤ xb) := by have h1 := heap_lt R1.out; have h2 := B1.out.size; have h3 := P1.out.lt; have h4 := P1.out.1.size; simp only at h3 h4; exact ⟨by omega, by omega, by omega, by omega⟩
 rw [hxb] at X2 ⊢
 generalize w1.alloc (.cells #[.string s, .int .i64 0] 115) = W2 at *
 clear a2 hxb P1 O1 B1 R1
 go_wp2_with fail
 refine (CK.out _ P2.out).mono ?_
 rintro e w3 ⟨rfl, b3, p3⟩
 have P3 := hide p3
 have O3 := hide (O2.out.but1 P2.out b3)
 have B3 := hide (B2.out.trans (b3.mono fun k _ e => .inl e))
 have R3 := hide (b3.keep R2.out (P2.out.av (by decide) _ _ R2.out))
 have X3 := hide (b3.keep X2.out (P2.out.av (by decide) _ _ X2.out))
 clear b3 p3 CK P2 O2 B2 R2 X2
 have HZ3 := hide (HZ.out _ P3.out)
 go_wp2_with fail
 refine (CX.out _ P3.out).mono ?_
 rintro e w4 ⟨rfl, b4, p4⟩
 have P4 := hide p4
 have O4 := hide (O3.out.but1 P3.out b4)
 have B4 := hide (B3.out.trans (b4.mono fun k _ e => .inl e))
 have R4 := hide (b4.keep R3.out (P3.out.av (by decide) _ _ R3.out))
 have X4 := hide (b4.keep X3.out (P3.out.av (by decide) _ _ X3.out))
 clear b4 p4 CX P3 O3 B3 R3 X3 HZ
 go_wp2_with fail
 refine (CM.out _ P4.out HZ3.out).mono ?_
 rintro e w5 ⟨rfl, b5, p5⟩
 have P5 := hide p5
 have O5 := hide (O4.out.but1 P4.out b5)
 have B5 := hide (B4.out.trans (b5.mono fun k _ e => .inl e))
 have R5 := hide (b5.keep R4.out (P4.out.av (by decide) _ _ R4.out))
 have X5 := hide (b5.keep X4.out (P4.out.av (by decide) _ _ X4.out))
 clear b5 p5 CM P4 O4 B4 R4 X4 HZ3
 obtain ⟨x0, x1, y0, y1⟩ := two_cells X5.out
 go_upto_region 4 with fail
 have a6 := (But.refl (fun k => k = xb) w5).setCell (p := ⟨xb, 1, none⟩) (.inl rfl) (.int .i64 n)
 have X6 := hide (heap_setCell_same _ xb 1 _ 115 (.int .i64 n) X5.out)
 have R6 := hide (a6.keep R5.out (fun e => HXB.out.1 e.symm))
 have P6 := hide (P5.out.put (p := ⟨xb, 1, none⟩) HXB.out.2.1 HXB.out.2.2.2 (.int .i64 n))
 have O6 := hide (O5.out.put X5.out (by decide) (by decide) (by decide) 1 (.int .i64 n))
 have B6 := hide (B5.out.setCell (p := ⟨xb, 1, none⟩) (.inr HXB.out.2.2.1) (.int .i64 n))
 clear a6 P5 O5 B5 R5 X5 x0 x1 y0 y1
 generalize w5.setCell ⟨xb, 1, none⟩ (.int .i64 n) = w6 at *
 obtain ⟨x0, x1, _, _⟩ := two_cells X6.out
 obtain ⟨r0, r1, f0, f1⟩ := two_cells R6.out
 go_wp2_with fail
 have R7 := hide (heap_setCell_same _ rb 1 _ 115 (.int .i64 n) (heap_setCell_same _ rb 0 _ 115 (.string s) R6.out))
 refine bodyPost_ret (v := .agg #[.string s, .int .i64 n]) ?_ rfl ⟨s, n, rfl, HS.out, rb1, (O6.out.put R6.out (by decide) (by decide) (by decide) 0 (.string s)).put (heap_setCell_same _ rb 0 _ 115 (.string s) R6.out) (by decide) (by decide) (by decide) 1 (.int .i64 n), HL1.out, (B6.out.setCell (p := ⟨rb, 0, none⟩) (.inr HRB.out.2.1) (.string s)).setCell (p := ⟨rb, 1, none⟩) (.inr HRB.out.2.1) (.int .i64 n), ?_, ?_⟩
 ·
  obtain ⟨t0, t1, _, _⟩ := two_cells R7.out
  simp [results, Tryz.results74, go_sem, t0, t1]
 ·
  rw [HR.out]
  exact (P6.out.put (p := ⟨rb, 0, none⟩) HRB.out.1 HRB.out.2.2.1 (.string s)).put (p := ⟨rb, 1, none⟩) HRB.out.1 HRB.out.2.2.1 (.int .i64 n)
 intro a ha
 rw [HR.out] at ha
 exact okv_some ha
end Go.Proofs.YtnadhplhnfpeaaaGreatDoor
