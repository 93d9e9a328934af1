/- Part of the proof. -/
import Derived.Test.YtnadhplhnfpeaaaGreatDoorAZ
import Derived.Test.YtnadhplhnfpeaaaGreatDoorA03
namespace Go.Proofs.YtnadhplhnfpeaaaGreatDoor
open Go.RowKit Go.Sort
set_option maxHeartbeats 2000000 in
set_option maxRecDepth 100000 in
theorem name_is {T : World → Prop} {F : Fn} (K : Kit12 T F) (E : En) (st : Sta) (t : Tv) (w : World) (h : Ps E w st) (hz : t.s.size ≤ 1000) : Calls Tryz.prog 85 #[.pointer (some ⟨E.pb, 0, none⟩), t.val] w fun r w' => r = .returned (.string t.s) ∧ But (but1 E.pb) w w' ∧ Ps E w' (faulted t (F.nam (wd t.k t.s)) st) := by
 have CF := hide (fault_is E st t (F.nam (wd t.k t.s)))
 have CW := hide (word_is t)
 have CK := hide (fun w => K.nam (wd t.k t.s) (wd_size hz) w)
 clear hz
 have HPB := hide h.lt
 have P0 := hide (h.alloc (.cells #[.int .i64 t.k, .string t.s, .int .i64 t.p, .int .i64 t.q] 95))
 have B0 := hide (But.of (S := but1 E.pb) (balloc (brefl w) (.cells #[.int .i64 t.k, .string t.s, .int .i64 t.p, .int .i64 t.q] 95)))
 have N0 := hide (heap_new w #[.int .i64 t.k, .string t.s, .int .i64 t.p, .int .i64 t.q] 95)
 have HNE : Hid (w.heap.size ≠ E.pb) := by have h9 := HPB.out; show _ ≠ _; omega
 have HSZ : Hid (w.heap.size ≤ w.heap.size) := Nat.le_refl _
 obtain ⟨W0, pb, en⟩ := E
 obtain ⟨tk, tt, tp, tq⟩ := t
 simp only [Tv.val] at *
 clear h
 go_enter Tryz.func85, Tryz.ntmps85
 go_upto_region 1 with fail
 obtain ⟨tb, htb⟩ : ∃ tb, w.heap.size = tb := ⟨_, rfl⟩
 rw [htb] at N0 HNE ⊢
 generalize w.alloc (.cells #[.int .i64 tk, .string tt, .int .i64 tp, .int .i64 tq] 95) = W at *
 clear htb
 obtain ⟨⟨c0, c1, c2, c3⟩, _⟩ := four_cells N0.out
 clear c0 c1 c2 c3
 have BD := hide ((brefl W).drew)
 have N1 := hide ((BD.out.block tb (heap_lt N0.out)).trans N0.out)
 have P1 := hide (P0.out.below BD.out)
 have B1 := hide (B0.out.trans (But.of BD.out))
 refine wp_region_held_drew (S := (fun w' => w'.cell? ⟨tb, 0, none⟩ = some (.int .i64 tk) ∧ w'.cell? ⟨tb, 1, none⟩ = some (.string tt) ∧ w'.cell? ⟨tb, 2, none⟩ = some (.int .i64 tp) ∧ w'.cell? ⟨tb, 3, none⟩ = some (.int .i64 tq))) (by kernel_rfl) (four_cells N1.out).1 (fun hHeld => ?_)
 clear BD N0 P0 B0
 generalize W.drew = W1 at *
 refine tak 0 (.pointer (some ⟨pb, 0, none⟩)) rfl (Or.inl ⟨by rfl, fun w hSw => by dsimp only at hSw; go_simp⟩) hHeld ?_
 simp only [Act.put, g1, g2, g4, g5, g6]
 refine tak 1 (.agg #[.int .i64 tk, .string tt, .int .i64 tp, .int .i64 tq]) rfl (Or.inl ⟨by rfl, fun w hSw => by dsimp only at hSw; go_simp⟩) hHeld ?_
 simp only [Act.put, g1, g2, g3, g4, g5, g6]
 refine tak 2 (.agg #[.int .i64 tk, .string tt, .int .i64 tp, .int .i64 tq]) rfl (Or.inl ⟨by rfl, fun w hSw => by dsimp only at hSw; go_simp⟩) hHeld ?_
 simp only [Act.put, g1, g2, g3, g4, g5, g6]
 refine rdy 3 (by kernel_rfl) rfl fun K hK => ?_
 go_simp
 go_wp2_with (refine (CW.out _).mono ?_; rintro e w2 ⟨rfl, b2⟩; have N2 := hide ((b2.block tb (heap_lt N1.out)).trans N1.out); have P2 := hide (P1.out.below b2); have B2 := hide (B1.out.trans (But.of b2)))
 refine hK.out _ _ (four_cells N2.out).1 (fun hHeld => ?_)
 clear hK K
 try simp only [Act.put, g1, g2, g3, g4, g5, g6]
 clear N1 P1 B1 b2 CW
 refine rdy 4 (by kernel_rfl) rfl fun K hK => ?_
 go_simp
 go_wp2_with (refine (CK.out _).mono ?_; rintro e w3 ⟨rfl, b3⟩; have N3 := hide ((b3.block tb (heap_lt N2.out)).trans N2.out); have P3 := hide (P2.out.below b3); have B3 := hide (B2.out.trans (But.of b3)))
 refine hK.out _ _ (four_cells N3.out).1 (fun hHeld => ?_)
 clear hK K
 try simp only [Act.put, g1, g2, g3, g4, g5, g6]
 clear N2 P2 B2 b3 CK
 refine rdy 5 (by kernel_rfl) rfl fun K hK => ?_
 go_simp
 go_wp2_with (refine (CF.out _ P3.out).mono ?_; rintro e w4 ⟨rfl, b4, p4⟩; have N4 := hide (b4.keep N3.out HNE.out); have P4 := hide (p4); have B4 := hide (B3.out.trans b4))
 refine hK.out _ _ (four_cells N4.out).1 (fun hHeld => ?_)
 clear hK K
 try simp only [Act.put, g1, g2, g3, g4, g5, g6]
 refine wpAnyH_done (by kernel_rfl) ?_ _
 clear N3 P3 B3 b4 p4 CF hHeld
 obtain ⟨⟨c0, c1, c2, c3⟩, _⟩ := four_cells N4.out
 go_wp2_with fail
 go_ret
 exact ⟨rfl, B4.out, P4.out⟩
theorem two_cells {w : World} {b y : Nat} {x0 x1 : Value} (h : w.heap[b]? = some (.cells #[x0, x1] y (0, 0))) : w.cell? ⟨b, 0, none⟩ = some x0 ∧ w.cell? ⟨b, 1, none⟩ = some x1 ∧ w.frozen? ⟨b, 0, none⟩ = false ∧ w.frozen? ⟨b, 1, none⟩ = false := by
 simp [World.cell?, World.frozen?, h]
theorem beq_ll (a : ByteArray) (l : List UInt8) : (a.toList == l) = decide (a = bs l) := by
 have h := beq_tl a (bs l)
 rw [ByteArray.toList_eq (bs l)] at h
 exact h
set_option maxHeartbeats 2000000 in
set_option maxRecDepth 100000 in
theorem prefix_is {T : World → Prop} {F : Fn} (K : Kit12 T F) (E : En) (st : Sta) (t : Tv) (w : World) (h : Ps E w st) (hT : T E.w0) (hz : t.s.size ≤ 1000) : Calls Tryz.prog 87 #[.pointer (some ⟨E.pb, 0, none⟩), t.val] w fun r w' => r = .returned (.agg #[.int .u32 (F.pfx (wd t.k t.s)).1, .int .i64 (F.pfx (wd t.k t.s)).2.1]) ∧ But (but1 E.pb) w w' ∧ Ps E w' (faulted t (F.pfx (wd t.k t.s)).2.2 st) := by
 have CF := hide (fault_is E st t (F.pfx (wd t.k t.s)).2.2)
 have CW := hide (word_is t)
 have CK := hide (fun w hw => K.pfx (wd t.k t.s) (wd_size hz) E.w0 w hT hw)
 generalize (F.pfx (wd t.k t.s)).2.2 = ve at *
 generalize (F.pfx (wd t.k t.s)).2.1 = v2 at *
 generalize (F.pfx (wd t.k t.s)).1 = v1 at *
 have HPB := hide h.lt
 have HW0 := hide (Nat.le_trans h.1.size (Nat.le_refl w.heap.size))
 have P0 := hide ((h.alloc (.cells #[.int .i64 t.k, .string t.s, .int .i64 t.p, .int .i64 t.q] 95)).alloc (.cells #[.int .u32 0, .int .i64 0] 107))
 have A0 := hide (balloc (balloc (brefl w) (.cells #[.int .i64 t.k, .string t.s, .int .i64 t.p, .int .i64 t.q] 95)) (.cells #[.int .u32 0, .int .i64 0] 107))
 have N0 := hide (((balloc (brefl (w.alloc (.cells #[.int .i64 t.k, .string t.s, .int .i64 t.p, .int .i64 t.q] 95))) (.cells #[.int .u32 0, .int .i64 0] 107)).block w.heap.size (by rw [size_alloc]; omega)).trans (heap_new w #[.int .i64 t.k, .string t.s, .int .i64 t.p, .int .i64 t.q] 95))
 have M0 := hide (heap_new (w.alloc (.cells #[.int .i64 t.k, .string t.s, .int .i64 t.p, .int .i64 t.q] 95)) #[.int .u32 0, .int .i64 0] 107)
 rw [size_alloc] at M0
 obtain ⟨W0, pb, en⟩ := E
 obtain ⟨tk, tt, tp, tq⟩ := t
 simp only [Tv.val] at *
 clear h hT hz
 go_enter Tryz.func87, Tryz.ntmps87
 go_upto_region 1 with fail
 obtain ⟨tb, htb⟩ : ∃ tb, w.heap.size = tb := ⟨_, rfl⟩
 obtain ⟨rb, hrb⟩ : ∃ rb, w.heap.size + 1 = rb := ⟨_, rfl⟩
 have HNE : Hid (tb ≠ pb ∧ rb ≠ pb ∧ w.heap.size ≤ rb ∧ W0.heap.size ≤ rb) := by have h9 := HPB.out; have h8 := HW0.out; exact ⟨by omega, by omega, by omega, by omega⟩
 rw [hrb] at M0 ⊢
 rw [htb] at N0 ⊢
 generalize (w.alloc (.cells #[.int .i64 tk, .string tt, .int .i64 tp, .int .i64 tq] 95)).alloc (.cells #[.int .u32 0, .int .i64 0] 107) = W at *
 clear htb hrb
 obtain ⟨⟨c0, c1, c2, c3⟩, _⟩ := four_cells N0.out
 go_wp2_with fail
 refine (CW.out _).mono ?_
 rintro e w1 ⟨rfl, b1⟩
 have P1 := hide (P0.out.below b1)
 have B1 := hide ((But.of (S := but1 pb) A0.out).trans (But.of b1))
 have N1 := hide ((b1.block tb (heap_lt N0.out)).trans N0.out)
 have M1 := hide ((b1.block rb (heap_lt M0.out)).trans M0.out)
 clear b1 CW c0 c1 c2 c3 P0 A0 N0 M0
 go_wp2_with fail
 refine (CK.out _ P1.out.1).mono ?_
 rintro e w2 ⟨rfl, b2⟩
 have A2 := hide (balloc (brefl w2) (.cells #[.int .u32 v1, .int .i64 v2] 107))
 have P2 := hide ((P1.out.below b2).below A2.out)
 have B2 := hide (B1.out.trans (But.of (bthen b2 A2.out)))
 have N2 := hide (((bthen b2 A2.out).block tb (heap_lt N1.out)).trans N1.out)
 have M2 := hide (((bthen b2 A2.out).block rb (heap_lt M1.out)).trans M1.out)
 have X2 := hide (heap_new w2 #[.int .u32 v1, .int .i64 v2] 107)
 have HXN : Hid (w2.heap.size ≠ pb ∧ w2.heap.size ≠ rb) := by have h1 := heap_lt M1.out; have h2 := P1.out.lt; have h3 := b2.size; simp only at h2; exact ⟨by omega, by omega⟩
 clear b2 CK P1 B1 N1 M1 A2
 go_upto_region 2 with fail
 obtain ⟨xb, hxb⟩ : ∃ xb, w2.heap.size = xb := ⟨_, rfl⟩
 rw [hxb] at X2 HXN ⊢
 generalize w2.alloc (.cells #[.int .u32 v1, .int .i64 v2] 107) = W2 at *
 clear hxb
 obtain ⟨⟨c0, c1, c2, c3⟩, _⟩ := four_cells N2.out
 go_wp2_with fail
 refine (CF.out _ P2.out).mono ?_
 rintro e w3 ⟨rfl, b3, p3⟩
 have P3 := hide p3
 have B3 := hide (B2.out.trans b3)
 have M3 := hide (b3.keep M2.out HNE.out.2.1)
 have X3 := hide (b3.keep X2.out HXN.out.1)
 clear b3 p3 CF c0 c1 c2 c3 P2 B2 N2 M2 X2
 obtain ⟨d0, d1, _, _⟩ := two_cells X3.out
 obtain ⟨e0, e1, f0, f1⟩ := two_cells M3.out
 go_wp2_with fail
 have B4 := hide ((B3.out.setCell (p := ⟨rb, 0, none⟩) (.inr HNE.out.2.2.1) (.int .u32 v1)).setCell (p := ⟨rb, 1, none⟩) (.inr HNE.out.2.2.1) (.int .i64 v2))
 have P4 := hide ((P3.out.put (p := ⟨rb, 0, none⟩) HNE.out.2.1 HNE.out.2.2.2 (.int .u32 v1)).put (p := ⟨rb, 1, none⟩) HNE.out.2.1 HNE.out.2.2.2 (.int .i64 v2))
 refine bodyPost_ret (v := .agg #[.int .u32 v1, .int .i64 v2]) ?_ rfl ⟨rfl, B4.out, P4.out⟩
 obtain ⟨t0, t1, _, _⟩ := two_cells (heap_setCell_same _ rb 1 _ 107 (.int .i64 v2) (heap_setCell_same _ rb 0 _ 107 (.int .u32 v1) M3.out))
 simp [results, Tryz.results87, go_sem, t0, t1]
set_option maxHeartbeats 2000000 in
set_option maxRecDepth 100000 in
theorem comm_is {T : World → Prop} {F : Fn} (K : Kit12 T F) (E : En) (st : Sta) (t : Tv) (w : World) (h : Ps E w st) (hT : T E.w0) (hz : t.s.size ≤ 1000) : Calls Tryz.prog 105 #[.pointer (some ⟨E.pb, 0, none⟩), t.val] w fun r w' => r = .returned (.agg #[.int .i64 (F.com (wd t.k t.s)).1, .int .i64 (F.com (wd t.k t.s)).2.1]) ∧ But (but1 E.pb) w w' ∧ Ps E w' (faulted t (F.com (wd t.k t.s)).2.2 st) := by
 have CF := hide (fault_is E st t (F.com (wd t.k t.s)).2.2)
 have CW := hide (word_is t)
 have CK := hide (fun w hw => K.com (wd t.k t.s) (wd_size hz) E.w0 w hT hw)
 generalize (F.com (wd t.k t.s)).2.2 = ve at *
 generalize (F.com (wd t.k t.s)).2.1 = v2 at *
 generalize (F.com (wd t.k t.s)).1 = v1 at *
 have HPB := hide h.lt
 have HW0 := hide (Nat.le_trans h.1.size (Nat.le_refl w.heap.size))
 have P0 := hide ((h.alloc (.cells #[.int .i64 t.k, .string t.s, .int .i64 t.p, .int .i64 t.q] 95)).alloc (.cells #[.int .i64 0, .int .i64 0] 73))
 have A0 := hide (balloc (balloc (brefl w) (.cells #[.int .i64 t.k, .string t.s, .int .i64 t.p, .int .i64 t.q] 95)) (.cells #[.int .i64 0, .int .i64 0] 73))
 have N0 := hide (((balloc (brefl (w.alloc (.cells #[.int .i64 t.k, .string t.s, .int .i64 t.p, .int .i64 t.q] 95))) (.cells #[.int .i64 0, .int .i64 0] 73)).block w.heap.size (by rw [size_alloc]; omega)).trans (heap_new w #[.int .i64 t.k, .string t.s, .int .i64 t.p, .int .i64 t.q] 95))
 have M0 := hide (heap_new (w.alloc (.cells #[.int .i64 t.k, .string t.s, .int .i64 t.p, .int .i64 t.q] 95)) #[.int .i64 0, .int .i64 0] 73)
 rw [size_alloc] at M0
 obtain ⟨W0, pb, en⟩ := E
 obtain ⟨tk, tt, tp, tq⟩ := t
 simp only [Tv.val] at *
 clear h hT hz
 go_enter Tryz.func105, Tryz.ntmps105
 go_upto_region 1 with fail
 obtain ⟨tb, htb⟩ : ∃ tb, w.heap.size = tb := ⟨_, rfl⟩
 obtain ⟨rb, hrb⟩ : ∃ rb, w.heap.size + 1 = rb := ⟨_, rfl⟩
 have HNE : Hid (tb ≠ pb ∧ rb ≠ pb ∧ w.heap.size ≤ rb ∧ W0.heap.size ≤ rb) := by have h9 := HPB.out; have h8 := HW0.out; exact ⟨by omega, by omega, by omega, by omega⟩
 rw [hrb] at M0 ⊢
 rw [htb] at N0 ⊢
 generalize (w.alloc (.cells #[.int .i64 tk, .string tt, .int .i64 tp, .int .i64 tq] 95)).alloc (.cells #[.int .i64 0, .int .i64 0] 73) = W at *
 clear htb hrb
 obtain ⟨⟨c0, c1, c2, c3⟩, _⟩ := four_cells N0.out
 go_wp2_with fail
 refine (CW.out _).mono ?_
 rintro e w1 ⟨rfl, b1⟩
 have P1 := hide (P0.out.below b1)
 have B1 := hide ((But.of (S := but1 pb) A0.out).trans (But.of b1))
 have N1 := hide ((b1.block tb (heap_lt N0.out)).trans N0.out)
 have M1 := hide ((b1.block rb (heap_lt M0.out)).trans M0.out)
 clear b1 CW c0 c1 c2 c3 P0 A0 N0 M0
 go_wp2_with fail
 refine (CK.out _ P1.out.1).mono ?_
 rintro e w2 ⟨rfl, b2⟩
 have A2 := hide (balloc (brefl w2) (.cells #[.int .i64 v1, .int .i64 v2] 73))
 have P2 := hide ((P1.out.below b2).below A2.out)
 have B2 := hide (B1.out.trans (But.of (bthen b2 A2.out)))
 have N2 := hide (((bthen b2 A2.out).block tb (heap_lt N1.out)).trans N1.out)
 have M2 := hide (((bthen b2 A2.out).block rb (heap_lt M1.out)).trans M1.out)
 have X2 := hide (heap_new w2 #[.int .i64 v1, .int .i64 v2] 73)
 have HXN : Hid (w2.heap.size ≠ pb ∧ w2.heap.size ≠ rb) := by have h1 := heap_lt M1.out; have h2 := P1.out.lt; have h3 := b2.size; simp only at h2; exact ⟨by omega, by omega⟩
 clear b2 CK P1 B1 N1 M1 A2
 go_upto_region 2 with fail
 obtain ⟨xb, hxb⟩ : ∃ xb, w2.heap.size = xb := ⟨_, rfl⟩
 rw [hxb] at X2 HXN ⊢
 generalize w2.alloc (.cells #[.int .i64 v1, .int .i64 v2] 73) = W2 at *
 clear hxb
 obtain ⟨⟨c0, c1, c2, c3⟩, _⟩ := four_cells N2.out
 go_wp2_with fail
 refine (CF.out _ P2.out).mono ?_
 rintro e w3 ⟨rfl, b3, p3⟩
 have P3 := hide p3
 have B3 := hide (B2.out.trans b3)
 have M3 := hide (b3.keep M2.out HNE.out.2.1)
 have X3 := hide (b3.keep X2.out HXN.out.1)
 clear b3 p3 CF c0 c1 c2 c3 P2 B2 N2 M2 X2
 obtain ⟨d0, d1, _, _⟩ := two_cells X3.out
 obtain ⟨e0, e1, f0, f1⟩ := two_cells M3.out
 go_wp2_with fail
 have B4 := hide ((B3.out.setCell (p := ⟨rb, 0, none⟩) (.inr HNE.out.2.2.1) (.int .i64 v1)).setCell (p := ⟨rb, 1, none⟩) (.inr HNE.out.2.2.1) (.int .i64 v2))
 have P4 := hide ((P3.out.put (p := ⟨rb, 0, none⟩) HNE.out.2.1 HNE.out.2.2.2 (.int .i64 v1)).put (p := ⟨rb, 1, none⟩) HNE.out.2.1 HNE.out.2.2.2 (.int .i64 v2))
 refine bodyPost_ret (v := .agg #[.int .i64 v1, .int .i64 v2]) ?_ rfl ⟨rfl, B4.out, P4.out⟩
 obtain ⟨t0, t1, _, _⟩ := two_cells (heap_setCell_same _ rb 1 _ 73 (.int .i64 v2) (heap_setCell_same _ rb 0 _ 73 (.int .i64 v1) M3.out))
 simp [results, Tryz.results105, go_sem, t0, t1]
set_option maxHeartbeats 2000000 in
set_option maxRecDepth 100000 in
theorem permits_is (E : En) (st : Sta) (t : Tv) (w : World) (h : Ps E w st) : Calls Tryz.prog 64 #[.pointer (some ⟨E.pb, 0, none⟩), t.val] w fun r w' => r = .returned (.bool (if wd t.k t.s = wPermit then true else (if wd t.k t.s = wDeny then false else false))) ∧ But (but1 E.pb) w w' ∧ Ps E w' (faulted t (if wd t.k t.s = wPermit then 0 else (if wd t.k t.s = wDeny then 0 else 4)) st) := by
 obtain ⟨fin, hfin⟩ : ∃ fin, faulted t (if wd t.k t.s = wPermit then 0 else (if wd t.k t.s = wDeny then 0 else 4)) st = fin := ⟨_, rfl⟩
 obtain ⟨ret, hret⟩ : ∃ ret, (if wd t.k t.s = wPermit then true else (if wd t.k t.s = wDeny then false else false)) = ret := ⟨_, rfl⟩
 rw [hfin, hret]
 have HFIN := hide hfin
 have HRET := hide hret
 clear hfin hret
 have CF := hide (fault_is E st t 4)
 have CW := hide (word_is t)
 have HPB := hide h.lt
 have P0 := hide (h.alloc (.cells #[.int .i64 t.k, .string t.s, .int .i64 t.p, .int .i64 t.q] 95))
 have B0 := hide (But.of (S := but1 E.pb) (balloc (brefl w) (.cells #[.int .i64 t.k, .string t.s, .int .i64 t.p, .int .i64 t.q] 95)))
 have N0 := hide (heap_new w #[.int .i64 t.k, .string t.s, .int .i64 t.p, .int .i64 t.q] 95)
 have HNE : Hid (w.heap.size ≠ E.pb) := by have h9 := HPB.out; show _ ≠ _; omega
 have HSZ : Hid (w.heap.size ≤ w.heap.size) := Nat.le_refl _
 obtain ⟨W0, pb, en⟩ := E
 obtain ⟨tk, tt, tp, tq⟩ := t
 simp only [Tv.val] at *
 clear h
 go_enter Tryz.func64, Tryz.ntmps64
 go_upto_region 1 with fail
 obtain ⟨tb, htb⟩ : ∃ tb, w.heap.size = tb := ⟨_, rfl⟩
 rw [htb] at N0 HNE ⊢
 generalize w.alloc (.cells #[.int .i64 tk, .string tt, .int .i64 tp, .int .i64 tq] 95) = W at *
 clear htb
 obtain ⟨⟨c0, c1, c2, c3⟩, _⟩ := four_cells N0.out
 go_wp2_with fail
 refine (CW.out _).mono ?_
 rintro e w1 ⟨rfl, b1⟩
 have P1 := hide (P0.out.below b1)
 have B1 := hide (B0.out.trans (But.of b1))
 have N1 := hide ((b1.block tb (heap_lt N0.out)).trans N0.out)
 clear b1 CW c0 c1 c2 c3 P0 B0 N0
 unfold wPermit wDeny at HFIN HRET
 obtain ⟨⟨c0, c1, c2, c3⟩, _⟩ := four_cells N1.out
 by_cases h0 : wd tk tt = (bs [112, 101, 114, 109, 105, 116])
 ·
  have hb0 := beq_ll (wd tk tt) [112, 101, 114, 109, 105, 116]
  rw [decide_eq_true h0] at hb0
  go_wp2_with fail
  go_ret
  refine ⟨?_, B1.out, ?_⟩
  ·
   rw [← HRET.out]; simp only [if_pos h0]; try rfl
  rw [← HFIN.out]; simp only [if_pos h0]; rw [faulted_zero]; exact P1.out
 have hb0 := beq_ll (wd tk tt) [112, 101, 114, 109, 105, 116]
 rw [decide_eq_false h0] at hb0
 by_cases h1 : wd tk tt = (bs [100, 101, 110, 121])
 ·
  have hb1 := beq_ll (wd tk tt) [100, 101, 110, 121]
  rw [decide_eq_true h1] at hb1
  go_wp2_with fail
  go_ret
  refine ⟨?_, B1.out, ?_⟩
  ·
   rw [← HRET.out]; simp only [if_pos h1, if_neg h0]; try rfl
  rw [← HFIN.out]; simp only [if_pos h1, if_neg h0]; rw [faulted_zero]; exact P1.out
 have hb1 := beq_ll (wd tk tt) [100, 101, 110, 121]
 rw [decide_eq_false h1] at hb1
 go_wp2_with fail
 refine (CF.out _ P1.out).mono ?_
 rintro e w3 ⟨rfl, b3, p3⟩
 go_wp2_with fail
 go_ret
 refine ⟨?_, B1.out.trans b3, ?_⟩
 ·
  rw [← HRET.out]; simp only [if_neg h0, if_neg h1]; rfl
 rw [← HFIN.out]; simp only [if_neg h0, if_neg h1]; exact p3
set_option maxHeartbeats 2000000 in
set_option maxRecDepth 100000 in
theorem origin_is (E : En) (st : Sta) (t : Tv) (w : World) (h : Ps E w st) : Calls Tryz.prog 106 #[.pointer (some ⟨E.pb, 0, none⟩), t.val] w fun r w' => r = .returned (.int .i64 (if wd t.k t.s = wIgp then (0 : Int) else (if wd t.k t.s = wEgp then 1 else (if wd t.k t.s = wNone then 2 else -1)))) ∧ But (but1 E.pb) w w' ∧ Ps E w' (faulted t (if wd t.k t.s = wIgp then 0 else (if wd t.k t.s = wEgp then 0 else (if wd t.k t.s = wNone then 0 else 4))) st) := by
 obtain ⟨fin, hfin⟩ : ∃ fin, faulted t (if wd t.k t.s = wIgp then 0 else (if wd t.k t.s = wEgp then 0 else (if wd t.k t.s = wNone then 0 else 4))) st = fin := ⟨_, rfl⟩
 obtain ⟨ret, hret⟩ : ∃ ret, (if wd t.k t.s = wIgp then (0 : Int) else (if wd t.k t.s = wEgp then 1 else (if wd t.k t.s = wNone then 2 else -1))) = ret := ⟨_, rfl⟩
 rw [hfin, hret]
 have HFIN := hide hfin
 have HRET := hide hret
 clear hfin hret
 have CF := hide (fault_is E st t 4)
 have CW := hide (word_is t)
 have HPB := hide h.lt
 have P0 := hide (h.alloc (.cells #[.int .i64 t.k, .string t.s, .int .i64 t.p, .int .i64 t.q] 95))
 have B0 := hide (But.of (S := but1 E.pb) (balloc (brefl w) (.cells #[.int .i64 t.k, .string t.s, .int .i64 t.p, .int .i64 t.q] 95)))
 have N0 := hide (heap_new w #[.int .i64 t.k, .string t.s, .int .i64 t.p, .int .i64 t.q] 95)
 have HNE : Hid (w.heap.size ≠ E.pb) := by have h9 := HPB.out; show _ ≠ _; omega
 have HSZ : Hid (w.heap.size ≤ w.heap.size) := Nat.le_refl _
 obtain ⟨W0, pb, en⟩ := E
 obtain ⟨tk, tt, tp, tq⟩ := t
 simp only [Tv.val] at *
 clear h
 go_enter Tryz.func106, Tryz.ntmps106
 go_upto_region 1 with fail
 obtain ⟨tb, htb⟩ : ∃ tb, w.heap.size = tb := ⟨_, rfl⟩
 rw [htb] at N0 HNE ⊢
 generalize w.alloc (.cells #[.int .i64 tk, .string tt, .int .i64 tp, .int .i64 tq] 95) = W at *
 clear htb
 obtain ⟨⟨c0, c1, c2, c3⟩, _⟩ := four_cells N0.out
 go_wp2_with fail
 refine (CW.out _).mono ?_
 rintro e w1 ⟨rfl, b1⟩
 have P1 := hide (P0.out.below b1)
 have B1 := hide (B0.out.trans (But.of b1))
 have N1 := hide ((b1.block tb (heap_lt N0.out)).trans N0.out)
 clear b1 CW c0 c1 c2 c3 P0 B0 N0
 unfold wIgp wEgp wNone at HFIN HRET
 obtain ⟨⟨c0, c1, c2, c3⟩, _⟩ := four_cells N1.out
 by_cases h0 : wd tk tt = (bs [105, 103, 112])
 ·
  have hb0 := beq_ll (wd tk tt) [105, 103, 112]
  rw [decide_eq_true h0] at hb0
  go_wp2_with fail
  go_ret
  refine ⟨?_, B1.out, ?_⟩
  ·
   rw [← HRET.out]; simp only [if_pos h0]; try rfl
  rw [← HFIN.out]; simp only [if_pos h0]; rw [faulted_zero]; exact P1.out
 have hb0 := beq_ll (wd tk tt) [105, 103, 112]
 rw [decide_eq_false h0] at hb0
 by_cases h1 : wd tk tt = (bs [101, 103, 112])
 ·
  have hb1 := beq_ll (wd tk tt) [101, 103, 112]
  rw [decide_eq_true h1] at hb1
  go_wp2_with fail
  go_ret
  refine ⟨?_, B1.out, ?_⟩
  ·
   rw [← HRET.out]; simp only [if_pos h1, if_neg h0]; try rfl
  rw [← HFIN.out]; simp only [if_pos h1, if_neg h0]; rw [faulted_zero]; exact P1.out
 have hb1 := beq_ll (wd tk tt) [101, 103, 112]
 rw [decide_eq_false h1] at hb1
 by_cases h2 : wd tk tt = (bs [110, 111, 110, 101])
 ·
  have hb2 := beq_ll (wd tk tt) [110, 111, 110, 101]
  rw [decide_eq_true h2] at hb2
  go_wp2_with fail
  go_ret
  refine ⟨?_, B1.out, ?_⟩
  ·
   rw [← HRET.out]; simp only [if_pos h2, if_neg h0, if_neg h1]; try rfl
  rw [← HFIN.out]; simp only [if_pos h2, if_neg h0, if_neg h1]; rw [faulted_zero]; exact P1.out
 have hb2 := beq_ll (wd tk tt) [110, 111, 110, 101]
 rw [decide_eq_false h2] at hb2
 go_wp2_with fail
 refine (CF.out _ P1.out).mono ?_
 rintro e w3 ⟨rfl, b3, p3⟩
 go_wp2_with fail
 go_ret
 refine ⟨?_, B1.out.trans b3, ?_⟩
 ·
  rw [← HRET.out]; simp only [if_neg h0, if_neg h1, if_neg h2]; rfl
 rw [← HFIN.out]; simp only [if_neg h0, if_neg h1, if_neg h2]; exact p3
set_option maxHeartbeats 2000000 in
set_option maxRecDepth 100000 in
theorem path_is {T : World → Prop} {F : Fn} (K : Kit12 T F) (E : En) (st : Sta) (t : Tv) (w : World) (h : Ps E w st) (hT : T E.w0) (hz : t.s.size ≤ 1000) : Calls Tryz.prog 104 #[.pointer (some ⟨E.pb, 0, none⟩), t.val] w fun r w' => r = .returned (.string t.s) ∧ But (but1 E.pb) w w' ∧ Ps E w' (faulted t (F.asr t.s) (faulted t (if t.k = 1 then 0 else 4) st)) := by
 obtain ⟨fin, hfin⟩ : ∃ fin, faulted t (F.asr t.s) (faulted t (if t.k = 1 then 0 else 4) st) = fin := ⟨_, rfl⟩
 rw [hfin]
 have HFIN := hide hfin
 clear hfin
 have CF1 := hide (fault_is E st t 4)
 have CF2 := hide (fun st => fault_is E st t (F.asr t.s))
 have CK := hide (fun w hw => K.asr t.s hz E.w0 w hT hw)
 clear hT hz
 have HPB := hide h.lt
 have P0 := hide (h.alloc (.cells #[.int .i64 t.k, .string t.s, .int .i64 t.p, .int .i64 t.q] 95))
 have B0 := hide (But.of (S := but1 E.pb) (balloc (brefl w) (.cells #[.int .i64 t.k, .string t.s, .int .i64 t.p, .int .i64 t.q] 95)))
 have N0 := hide (heap_new w #[.int .i64 t.k, .string t.s, .int .i64 t.p, .int .i64 t.q] 95)
 have HNE : Hid (w.heap.size ≠ E.pb) := by have h9 := HPB.out; show _ ≠ _; omega
 have HSZ : Hid (w.heap.size ≤ w.heap.size) := Nat.le_refl _
 obtain ⟨W0, pb, en⟩ := E
 obtain ⟨tk, tt, tp, tq⟩ := t
 simp only [Tv.val] at *
 clear h
 go_enter Tryz.func104, Tryz.ntmps104
 go_upto_region 1 with fail
 obtain ⟨tb, htb⟩ : ∃ tb, w.heap.size = tb := ⟨_, rfl⟩
 rw [htb] at N0 HNE ⊢
 generalize w.alloc (.cells #[.int .i64 tk, .string tt, .int .i64 tp, .int .i64 tq] 95) = W at *
 clear htb
 obtain ⟨⟨c0, c1, c2, c3⟩, _⟩ := four_cells N0.out
 by_cases hk : tk = 1
 focus
  have hk' : (tk != 1) = false := by simp [hk]
  have HC : (if tk = 1 then (0 : Int) else 4) = 0 := if_pos hk
  have P1 : Hid (Ps ⟨W0, pb, en⟩ W (faulted ⟨tk, tt, tp, tq⟩ 0 st)) := by rw [faulted_zero]; exact P0
  have B1 := B0
  have N1 := N0
  clear hk P0 B0 N0
 rotate_left
 focus
  have hk' : (tk != 1) = true := by rw [bne_iff_ne]; exact hk
  have HC : (if tk = 1 then (0 : Int) else 4) = 4 := if_neg hk
  clear hk
  go_wp2_with fail
  refine (CF1.out _ P0.out).mono ?_
  rintro e w1 ⟨rfl, b1, p1⟩
  have P1 := hide p1
  have B1 := hide (B0.out.trans b1)
  have N1 := hide (b1.keep N0.out HNE.out)
  clear b1 p1 c0 c1 c2 c3 N0 B0 P0
  obtain ⟨⟨c0, c1, c2, c3⟩, _⟩ := four_cells N1.out
 all_goals
  go_wp2_with fail
  refine (CK.out _ P1.out.1).mono ?_
  rintro e w2 ⟨x, rfl, b2⟩
  have P2 := hide (P1.out.below b2)
  have B2 := hide (B1.out.trans (But.of b2))
  have N2 := hide ((b2.block tb (heap_lt N1.out)).trans N1.out)
  clear b2 CK c0 c1 c2 c3 P1 B1 N1
  obtain ⟨⟨c0, c1, c2, c3⟩, _⟩ := four_cells N2.out
  go_wp2_with fail
  refine (CF2.out _ _ P2.out).mono ?_
  rintro e w3 ⟨rfl, b3, p3⟩
  have B3 := hide (B2.out.trans b3)
  have N3 := hide (b3.keep N2.out HNE.out)
  have P3 := hide p3
  clear b3 p3 c0 c1 c2 c3 N2 B2 P2
  obtain ⟨⟨c0, c1, c2, c3⟩, _⟩ := four_cells N3.out
  go_wp2_with fail
  go_ret
  refine ⟨rfl, B3.out, ?_⟩
  rw [← HFIN.out, HC]
  exact P3.out
theorem Ps.head {E : En} {w : World} {st : Sta} (h : Ps E w st) : ∃ ao n c a1 a2 e, w.heap[E.pb]? = some (.cells #[.slice ao n c, .int .i64 E.en.1, .int .i64 E.en.2, .int .i64 a1, .int .i64 a2, .int .i64 e] 62 (0, 0)) ∧ (e = 0 ↔ ∃ r l, st = .good r l) ∧ ((n = 0 ∧ headS st = none ∧ ∀ t r l, st ≠ .good (t :: r) l) ∨ (1 ≤ n ∧ n ≤ c ∧ ∃ b off t r l, st = .good (t :: r) l ∧ ao = some ⟨b, off, none⟩ ∧ Tv.at_ w b off t)) := by
 obtain ⟨h1, h2, ao, n, c, a1, a2, e, hg, hv⟩ := h
 refine ⟨ao, n, c, a1, a2, e, hg, ?_, ?_⟩
 ·
  cases st with
  | good r l => exact ⟨fun _ => ⟨r, l, rfl⟩, fun _ => hv.2.2.2.2.2.2.2⟩
  | bad p q x => exact ⟨fun e0 => absurd (hv.2.2.2.2.2.1.symm.trans e0) hv.2.2.2.2.2.2, fun ⟨r, l, e0⟩ => by cases e0⟩
 cases st with
 | good r l =>
  obtain ⟨hr, hnc, hnb, _, hsl, _⟩ := hv
  cases r with
  | nil => exact .inl ⟨hr.symm, rfl, fun t r l e => by cases e⟩
  | cons t r =>
   refine .inr ⟨by rw [← hr]; simp, hnc, ?_⟩
   rcases hsl with h | ⟨b, off, rfl, h⟩
   ·
    cases h
   have hat := h 0 (by simp)
   rw [Nat.zero_mul, Nat.add_zero] at hat
   have hb : b < E.w0.heap.size := World.block_lt_of_cell? _ _ hat.1
   refine ⟨b, off, t, r, l, rfl, rfl, ?_⟩
   unfold Tv.at_
   rw [h1.cell (p := ⟨b, off, none⟩) hb, h1.cell (p := ⟨b, off + 1, none⟩) hb, h1.cell (p := ⟨b, off + 2, none⟩) hb, h1.cell (p := ⟨b, off + 3, none⟩) hb]
   exact hat
 | bad p q x => exact .inl ⟨hv.2.1, rfl, fun t r l e => by cases e⟩
set_option maxHeartbeats 2000000 in
set_option maxRecDepth 100000 in
theorem ends_is (E : En) (st : Sta) (w : World) (h : Ps E w st) : Calls Tryz.prog 121 #[.pointer (some ⟨E.pb, 0, none⟩)] w fun r w' => r = .returned (.bool (isE (headS st))) ∧ Below w.heap.size w w' := by
 obtain ⟨ao, n, c, a1, a2, x0, hg, hx0, hn⟩ := h.head
 obtain ⟨⟨z0, z1, z2, z3, z4, z5⟩, _⟩ := six_cells hg
 obtain ⟨W0, pb, en⟩ := E
 simp only at *
 clear h hg hx0
 rcases hn with ⟨rfl, hh, _⟩ | ⟨hn1, hnc, b, off, t, r, l, rfl, rfl, t0, t1, t2, t3⟩
 ·
  rw [hh]
  go_enter Tryz.func121, Tryz.ntmps121
  go_wp2_with fail
  go_ret
  exact ⟨rfl, brefl w⟩
 have CM := hide (isMark_is 59 t w)
 have HH : Hid (isE (headS (.good (t :: r) l)) = decide (isM 59 t.k t.s)) := rfl
 rw [HH.out]
 obtain ⟨tk, tt, tp, tq⟩ := t
 simp only [Tv.val] at *
 generalize decide (isM 59 tk tt) = B at *
 have hni : (0 : Int) < (n : Int) := by omega
 go_enter Tryz.func121, Tryz.ntmps121
 go_wp2_with fail
 refine CM.out.mono ?_
 rintro e w1 ⟨rfl, b1⟩
 go_wp2_with fail
 go_ret
 exact ⟨rfl, b1⟩
theorem opt_exec (E : En) (x : ByteArray) (st : Sta) : (pOpt x).exec E.en st = if isW x (headS st) = true then (okv true (taken E.en st).2, (taken E.en st).2) else (okv false st, st) := by
 unfold pOpt
 rw [exec_peek]
 split
 ·
  rw [exec_next, exec_ret]
 rw [exec_ret]
set_option maxHeartbeats 2000000 in
set_option maxRecDepth 100000 in
theorem option_is (E : En) (st : Sta) (x : ByteArray) (w : World) (h : Ps E w st) : Calls Tryz.prog 89 #[.pointer (some ⟨E.pb, 0, none⟩), .string x] w fun r w' => r = .returned (.bool (isW x (headS st))) ∧ But (but1 E.pb) w w' ∧ Ps E w' (if isW x (headS st) = true then (taken E.en st).2 else st) := by
 have H := hide h
 obtain ⟨ao, n, c, a1, a2, x0, hg, hx0, hn⟩ := h.head
 obtain ⟨⟨z0, z1, z2, z3, z4, z5⟩, _⟩ := six_cells hg
 have CN := hide (next_is E st)
 obtain ⟨W0, pb, en⟩ := E
 simp only at *
 clear h hg hx0
 rcases hn with ⟨rfl, hh, _⟩ | ⟨hn1, hnc, b, off, t, r, l, rfl, rfl, t0, t1, t2, t3⟩
 ·
  rw [hh]
  go_enter Tryz.func89, Tryz.ntmps89
  go_wp2_with fail
  go_ret
  exact ⟨rfl, But.refl _ _, H.out⟩
 have CW := hide (word_is t w)
 have HH : Hid (isW x (headS (.good (t :: r) l)) = decide (wd t.k t.s = x)) := rfl
 obtain ⟨B, hB⟩ : ∃ B, isW x (headS (.good (t :: r) l)) = B := ⟨_, rfl⟩
 obtain ⟨fin, hfin⟩ : ∃ fin, (if isW x (headS (.good (t :: r) l)) = true then (taken en (.good (t :: r) l)).2 else .good (t :: r) l) = fin := ⟨_, rfl⟩
 have HFIN := hide hfin
 rw [hfin, hB]
 have HB : Hid (decide (wd t.k t.s = x) = B) := HH.out.symm.trans hB
 rw [hB] at HFIN
 clear hB hfin HH
 have hbt := beq_tl (wd t.k t.s) x
 rw [HB.out] at hbt
 generalize Sta.good (t :: r) l = st at *
 obtain ⟨tk, tt, tp, tq⟩ := t
 simp only [Tv.val] at *
 generalize wd tk tt = wx at *
 have hni : ¬ (n : Int) = 0 := by omega
 have hnb : ((n : Int) == 0) = false := by rw [beq_eq_false_iff_ne]; exact hni
 go_enter Tryz.func89, Tryz.ntmps89
 go_wp2_with fail
 refine CW.out.mono ?_
 rintro e w1 ⟨rfl, b1⟩
 have P1 := hide (H.out.below b1)
 cases B with
 | false =>
  go_wp2_with fail
  go_ret
  refine ⟨rfl, But.of b1, ?_⟩
  rw [← HFIN.out, if_neg (by decide)]
  exact P1.out
 | true =>
  go_wp2_with fail
  refine (CN.out _ P1.out).mono ?_
  rintro e w2 ⟨rfl, b2, p2⟩
  go_wp2_with fail
  go_ret
  refine ⟨rfl, (But.of b1).trans b2, ?_⟩
  rw [← HFIN.out]
  simp only [if_true]
  exact p2
end Go.Proofs.YtnadhplhnfpeaaaGreatDoor
