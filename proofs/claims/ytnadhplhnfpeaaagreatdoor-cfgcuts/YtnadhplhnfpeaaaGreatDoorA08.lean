/- Part of the proof. -/
import Derived.Test.YtnadhplhnfpeaaaGreatDoorAZ
import Derived.Test.YtnadhplhnfpeaaaGreatDoorA07
import Derived.Defers
namespace Go.Proofs.YtnadhplhnfpeaaaGreatDoor
open Go.RowKit Go.Sort
def prs (l : List (Int × Int)) : List Value := l.flatMap fun x => [.int .i64 x.1, .int .i64 x.2]
theorem infoC : (Tryz.prog.info? 73).map (fun i => (i.zero, i.size, i.bytes)) = some (some (.agg #[.int .i64 0, .int .i64 0]), 2, 16) := by kernel_rfl
theorem info_partsC : ∃ i0 : TypeInfo, Tryz.prog.info? 73 = some i0 ∧ i0.zero = some (.agg #[.int .i64 0, .int .i64 0]) ∧ i0.size = 2 ∧ i0.bytes = 16 := by
 have h := infoC
 cases hi : Tryz.prog.info? 73 with
 | none => rw [hi] at h; cases h
 | some i0 =>
  rw [hi] at h
  simp only [Option.map_some, Option.some.injEq, Prod.mk.injEq] at h
  exact ⟨i0, rfl, h.1, h.2.1, h.2.2⟩
def SevCTo (E : En) (_st : Sta) (w : World) (R : Option (List (Int × Int)) × Sta) (e : Ending) (w' : World) : Prop := ∃ v l, e = .returned v ∧ w'.ownsRow w.heap.size 73 2 v l.length (prs l) ∧ But (but1 E.pb) w w' ∧ Ps E w' R.2 ∧ ∀ a, R.1 = some a → l = a
set_option maxHeartbeats 4000000 in
set_option maxRecDepth 100000 in
theorem severalC_is {T : World → Prop} {F : Fn} (K : Kit12 T F) (E : En) (most Fu : Nat) (st : Sta) (w : World) (h : Ps E w st) (hT : T E.w0) (hF : st.len < Fu) : Calls Tryz.prog 120 #[.pointer (some ⟨E.pb, 0, none⟩), .int .i64 (most : Int), .func (.func 105) #[.pointer (some ⟨E.pb, 0, none⟩)] #[]] w (SevCTo E st w ((pSev most (pCom F) Fu []).exec E.en st)) := by
 obtain ⟨i0, hi, hz0, hz1, hz2⟩ := info_partsC
 have hTH : (pCom F) = pThing (fun k s => (F.com (wd k s)).2.2) (fun k s => ((F.com (wd k s)).1, (F.com (wd k s)).2.1)) := rfl
 rw [hTH]
 clear hTH
 obtain ⟨R, hR⟩ : ∃ R, (pSev most (pThing (fun k s => (F.com (wd k s)).2.2) (fun k s => ((F.com (wd k s)).1, (F.com (wd k s)).2.1))) Fu []).exec E.en st = R := ⟨_, rfl⟩
 have HA0 : Hid (SevAt E.en most st.len (pThing (fun k s => (F.com (wd k s)).2.2) (fun k s => ((F.com (wd k s)).1, (F.com (wd k s)).2.1))) R [] st Fu) := by
  refine ⟨by rw [sevC_zero _ _ _ _ rfl]; exact hR, ⟨fun r m e => ?_, fun _ => by omega⟩, ⟨by simp, fun r m e => ?_⟩⟩
  ·
   subst e; exact hF
  subst e; simp [Sta.len]
 have HK : Hid (st.len ≤ 100000) := by
  obtain ⟨_, _, ao, n, c, a1, a2, e, _, hv⟩ := h
  cases st with
  | good r l => have h1 := hv.1; have h2 := hv.2.2.1; show r.length ≤ _; omega
  | bad p q x => exact Nat.zero_le _
 rw [hR]
 clear hR hF
 have H := hide h
 have HT := hide hT
 have HW0 := hide h.1.size
 have HPB := hide h.lt
 clear h hT
 obtain ⟨W0, pb, en⟩ := E
 simp only at *
 generalize st.len = KK at *
 go_enter Tryz.func120, Tryz.ntmps120
 go_wp2_with fail
 go_loopw [7] (fun v7 wr => ∃ (l : List (Int × Int)) (st' : Sta) (g : Nat), Hid (wr.ownsRow w.heap.size 73 2 v7 l.length (prs l)) ∧ Hid (Ps ⟨W0, pb, en⟩ wr st') ∧ Hid (SevAt en most KK (pThing (fun k s => (F.com (wd k s)).2.2) (fun k s => ((F.com (wd k s)).1, (F.com (wd k s)).2.1))) R l st' g) ∧ Hid (But (but1 pb) w wr)) (fun v7 wr => 2 * pbLen wr pb + (if sliceLen v7 = 0 then 1 else 0) + pbGood wr pb)
 case atStart => exact ⟨[], st, Fu, World.ownsRow_nil _ _ _ _, H, HA0, But.refl _ _⟩
 case round =>
  clear H HA0
  obtain ⟨l, st', g, HR, HP, HS, HB⟩ := hrel
  have HLE := hide HP.out.len
  have HGD := hide HP.out.gd
  simp only at HLE HGD
  obtain ⟨ao, c, hv⟩ : ∃ ao c, u7 = .slice ao l.length c := by
   rcases HR.out.2 with ⟨hv, h0⟩ | ⟨g, cap, cur, hv, _⟩
   ·
    exact ⟨none, 0, by rw [hv, h0]⟩
   exact ⟨_, _, hv⟩
  subst hv
  obtain ⟨N, hN⟩ : ∃ N, l.length = N := ⟨_, rfl⟩
  have HN := hide hN
  rw [hN] at HR ⊢
  have HNB : Hid (N ≤ 100001) := by have h1 := HS.out.many.1; have h2 := HK.out; show _ ≤ _; omega
  clear hN
  obtain ⟨ao1, n1, cc1, a1, a2, x0, hg, hx0, hhd⟩ := HP.out.head
  obtain ⟨⟨_, _, _, _, _, z5⟩, _⟩ := six_cells hg
  simp only at z5
  have CE := hide (ends_is ⟨W0, pb, en⟩ st' wr HP.out)
  simp only at CE
  clear hg hhd
  by_cases hN0 : N = 0
  ·
   have hgo : N = 0 ∨ ((∃ r m, st' = .good r m) ∧ ¬ isE (headS st') = true) := .inl hN0
   have hNi : (N : Int) = 0 := by omega
   have HRx := HR
   have HPx := HP
   have HBx := HB
   clear HR HP HB CE hx0 hN0
   go_upto_region 3 with fail
   clear z5 hNi
   have CN := hide (next_is ⟨W0, pb, en⟩ st' wr HPx.out)
   simp only at CN
   have HST := hide (HS.out.step (by rw [HN.out]; exact hgo))
   have HLS := hide (fun e1 e2 => sev_less en st' (taken en st').1 e1 e2 N hgo)
   have HSZ := hide (taken_size HPx.out)
   simp only at HSZ
   have CT := hide (fun W hW => comm_is K ⟨W0, pb, en⟩ (taken en st').2 (taken en st').1 W hW HT.out HSZ.out)
   have CR := hide (fun W hW => room_is ⟨W0, pb, en⟩ (faulted (taken en st').1 (F.com (wd (taken en st').1.k (taken en st').1.s)).2.2 (taken en st').2) (taken en st').1 N most W hW)
   go_wp2_with fail
   refine CN.out.mono ?_
   rintro e w2 ⟨rfl, b2, p2⟩
   have A3 := hide (balloc (brefl w2) (.cells #[.int .i64 (taken en st').1.k, .string (taken en st').1.s, .int .i64 (taken en st').1.p, .int .i64 (taken en st').1.q] 95))
   have M3 := hide (heap_new w2 #[.int .i64 (taken en st').1.k, .string (taken en st').1.s, .int .i64 (taken en st').1.p, .int .i64 (taken en st').1.q] 95)
   have P3 := hide (p2.below A3.out)
   have B3 := hide ((HBx.out.trans b2).trans (But.of A3.out))
   have R3 := hide (row_but (row_but HRx.out b2 (fun g hg e => by have h1 := (HRx.out.lt g hg).1; have h2 := HPB.out; have e9 : g = pb := e; omega)) (But.of (S := fun _ => False) A3.out) (fun _ _ h => h))
   have HTB : Hid (w2.heap.size ≠ pb) := by have h1 := p2.lt; simp only at h1; show _ ≠ _; omega
   clear CN b2 p2 HRx HPx HBx HS hgo
   generalize (taken en st').2 = st1 at *
   generalize (taken en st').1 = t at *
   obtain ⟨tk, tt, tp, tq⟩ := t
   simp only [Tv.val] at *
   go_upto_region 4 with fail
   obtain ⟨tb, htb⟩ : ∃ tb, w2.heap.size = tb := ⟨_, rfl⟩
   rw [htb] at M3 HTB ⊢
   generalize w2.alloc (.cells #[.int .i64 tk, .string tt, .int .i64 tp, .int .i64 tq] 95) = W3 at *
   clear htb A3
   obtain ⟨⟨c0, c1, c2, c3⟩, _⟩ := four_cells M3.out
   go_wp2_with fail
   refine (CT.out _ P3.out).mono ?_
   rintro e w4 ⟨rfl, b4, p4⟩
   have A4 := hide (balloc (brefl w4) (.cells #[.int .i64 (F.com (wd tk tt)).1, .int .i64 (F.com (wd tk tt)).2.1] 73))
   have X4 := hide (heap_new w4 #[.int .i64 (F.com (wd tk tt)).1, .int .i64 (F.com (wd tk tt)).2.1] 73)
   have P4 := hide (p4.below A4.out)
   have B4 := hide ((B3.out.trans b4).trans (But.of A4.out))
   have R4 := hide (row_but (row_but R3.out b4 (fun g hg e => by have h1 := (R3.out.lt g hg).1; have h2 := HPB.out; have e9 : g = pb := e; omega)) (But.of (S := fun _ => False) A4.out) (fun _ _ h => h))
   have M4 := hide ((A4.out.block tb (Nat.lt_of_lt_of_le (heap_lt M3.out) b4.size)).trans (b4.keep M3.out HTB.out))
   have HXB : Hid (w4.heap.size ≠ pb) := by have h1 := p4.lt; simp only at h1; show _ ≠ _; omega
   clear b4 p4
   go_upto_region 5 with fail
   obtain ⟨xb, hxb⟩ : ∃ xb, w4.heap.size = xb := ⟨_, rfl⟩
   rw [hxb] at X4 HXB ⊢
   generalize w4.alloc (.cells #[.int .i64 (F.com (wd tk tt)).1, .int .i64 (F.com (wd tk tt)).2.1] 73) = W4 at *
   clear hxb A4
   clear c0 c1 c2 c3 P3 B3 R3 M3
   obtain ⟨⟨c0, c1, c2, c3⟩, _⟩ := four_cells M4.out
   go_wp2_with fail
   refine (CR.out _ P4.out).mono ?_
   rintro e w5 ⟨rfl, b5, p5⟩
   have P5 := hide p5
   have B5 := hide (B4.out.trans b5)
   have R5 := hide (row_but R4.out b5 (fun g hg e => by have h1 := (R4.out.lt g hg).1; have h2 := HPB.out; have e9 : g = pb := e; omega))
   have X5 := hide (b5.keep X4.out HXB.out)
   obtain ⟨x0', x1', _, _⟩ := two_cells X5.out
   clear b5 p5 CR CT P4 B4 R4 M4 c0 c1 c2 c3
   have A6 := hide (balloc (brefl w5) (.cells #[.int .i64 (F.com (wd tk tt)).1, .int .i64 (F.com (wd tk tt)).2.1] 73))
   have N6 := hide (heap_new w5 #[.int .i64 (F.com (wd tk tt)).1, .int .i64 (F.com (wd tk tt)).2.1] 73)
   have S6 := hide (row_but R5.out (But.of (S := fun _ => False) A6.out) (fun _ _ h => h))
   have P6 := hide (P5.out.below A6.out)
   have B6 := hide (B5.out.trans (But.of A6.out))
   have HSZ6 : Hid (w.heap.size ≤ (w5.alloc (.cells #[.int .i64 (F.com (wd tk tt)).1, .int .i64 (F.com (wd tk tt)).2.1] 73)).heap.size) := B6.out.size
   have HNB2 := HNB.out
   go_wp2_with (at_builtin; go_must (refine wpList_append_where rfl _ _ 76 rfl w.heap.size 73 i0 (.agg #[.int .i64 0, .int .i64 0]) 2 16 Tryz.underlying76 hi hz0 hz1 hz2 rfl (by decide) _ _ _ rfl S6.out ⟨w5.heap.size, 0, none⟩ 1 1 [.int .i64 (F.com (wd tk tt)).1, .int .i64 (F.com (wd tk tt)).2.1] rfl rfl ?c1 ?c2 ?c3 ?c4 HSZ6.out ?_))
   case c1 =>
    intro j u hj
    match j, hj with
    | 0, hj => simp at hj; subst hj; simp [Addr.add]
    | 1, hj => simp at hj; subst hj; simp [Addr.add]
   case c2 => intro u hu; simp at hu; rcases hu with rfl | rfl <;> rfl
   case c3 => unfold maxLen; omega
   case c4 => omega
   intro v7 w7 o7 g7 l7
   have P7 := hide (P6.out.of (S := fun k => some k = Value.ownBlock (.slice ao N c)) ⟨g7.os, g7.tape, g7.output, g7.size, fun k hk hl => g7.block k hl hk⟩ (fun e => by have h1 := (S6.out.lt pb e.symm).1; have h2 := HPB.out; omega) (fun k e => Nat.le_trans HW0.out (S6.out.lt k e.symm).1))
   have B7 := hide (B6.out.grown g7 (fun k hk => .inr (S6.out.lt k hk).1))
   have HLE7 := hide P7.out.len
   have HGD7 := hide P7.out.gd
   simp only at HLE7 HGD7
   obtain ⟨g8, hS8⟩ := HST.out
   have hS9 := hS8
   rw [HN.out] at hS9
   have HSL : Hid (sliceLen v7 = N + 1) := by
    rcases o7.2 with ⟨hv, h0⟩ | ⟨g, cap, cur, hv, _⟩
    ·
     omega
    rw [hv]; rfl
   have O7 : Hid (w7.ownsRow w.heap.size 73 2 v7 (l ++ [((F.com (wd tk tt)).1, (F.com (wd tk tt)).2.1)]).length (prs (l ++ [((F.com (wd tk tt)).1, (F.com (wd tk tt)).2.1)]))) := by
    rw [List.length_append, HN.out, show prs (l ++ [((F.com (wd tk tt)).1, (F.com (wd tk tt)).2.1)]) = prs l ++ [.int .i64 (F.com (wd tk tt)).1, .int .i64 (F.com (wd tk tt)).2.1] from by simp [prs]]
    exact o7
   clear o7 g7 l7 hS8
   go_wp2_with fail
   refine ⟨⟨l ++ [((F.com (wd tk tt)).1, (F.com (wd tk tt)).2.1)], _, g8, O7, P7, hS9, B7⟩, ?_⟩
   rw [HLE7.out, HGD7.out, HSL.out, if_neg (show ¬ N + 1 = 0 by omega), HLE.out, HGD.out]
   show _ < 2 * st'.len + (if sliceLen (.slice ao N c) = 0 then 1 else 0) + st'.gd
   have h9 := HLS.out (if most ≤ N then 2 else 0) ((F.com (wd tk tt)).2.2)
   exact h9
  have hNi : ¬ (N : Int) = 0 := by omega
  have hNb : ((N : Int) == 0) = false := by rw [beq_eq_false_iff_ne]; exact hNi
  cases hst : st' with
  | bad p q e =>
   have hxb : (x0 == 0) = false := by
    rw [beq_eq_false_iff_ne]
    intro e0
    obtain ⟨r, m, h⟩ := hx0.1 e0
    rw [hst] at h
    cases h
   have HRR : Hid (R = (none, .bad p q e)) := by have h := HS.out.rest; rw [hst] at h; exact h.symm
   rw [hst] at HP
   clear CE hx0
   go_wp2_with fail
   go_ret
   refine ⟨_, l, rfl, by rw [HN.out]; exact HR.out, HB.out, by rw [HRR.out]; exact HP.out, fun a ha => by rw [HRR.out] at ha; cases ha⟩
  | good r m =>
   obtain rfl : x0 = 0 := hx0.2 ⟨r, m, hst⟩
   clear hx0
   go_wp2_with fail
   refine CE.out.mono ?_
   rintro e w1 ⟨rfl, b1⟩
   have HPx := hide (HP.out.below b1)
   have HBx := hide (HB.out.trans (But.of b1))
   have HRx := hide (row_but HR.out (But.of (S := fun _ => False) b1) (fun _ _ h => h))
   clear CE b1 HP HB HR z5
   cases hends : isE (headS st') with
   | true =>
    have HRR : Hid (R = (some l, st')) := by
     have h := HS.out.rest
     rw [sevC_end en most _ g l (by rw [HN.out]; exact hN0) st' hends, hst] at h
     rw [hst]
     exact h.symm
    go_wp2_with fail
    go_ret
    refine ⟨_, l, rfl, by rw [HN.out]; exact HRx.out, HBx.out, by rw [HRR.out]; exact HPx.out, fun a ha => by rw [HRR.out] at ha; cases ha; rfl⟩
   | false =>
    have hgo : N = 0 ∨ ((∃ r m, st' = .good r m) ∧ ¬ isE (headS st') = true) := .inr ⟨⟨r, m, hst⟩, by rw [hends]; decide⟩
    clear hends hst
    go_upto_region 3 with fail
    clear hNi hNb hN0
    have CN := hide (next_is ⟨W0, pb, en⟩ st' w1 HPx.out)
    simp only at CN
    have HST := hide (HS.out.step (by rw [HN.out]; exact hgo))
    have HLS := hide (fun e1 e2 => sev_less en st' (taken en st').1 e1 e2 N hgo)
    have HSZ := hide (taken_size HPx.out)
    simp only at HSZ
    have CT := hide (fun W hW => comm_is K ⟨W0, pb, en⟩ (taken en st').2 (taken en st').1 W hW HT.out HSZ.out)
    have CR := hide (fun W hW => room_is ⟨W0, pb, en⟩ (faulted (taken en st').1 (F.com (wd (taken en st').1.k (taken en st').1.s)).2.2 (taken en st').2) (taken en st').1 N most W hW)
    go_wp2_with fail
    refine CN.out.mono ?_
    rintro e w2 ⟨rfl, b2, p2⟩
    have A3 := hide (balloc (brefl w2) (.cells #[.int .i64 (taken en st').1.k, .string (taken en st').1.s, .int .i64 (taken en st').1.p, .int .i64 (taken en st').1.q] 95))
    have M3 := hide (heap_new w2 #[.int .i64 (taken en st').1.k, .string (taken en st').1.s, .int .i64 (taken en st').1.p, .int .i64 (taken en st').1.q] 95)
    have P3 := hide (p2.below A3.out)
    have B3 := hide ((HBx.out.trans b2).trans (But.of A3.out))
    have R3 := hide (row_but (row_but HRx.out b2 (fun g hg e => by have h1 := (HRx.out.lt g hg).1; have h2 := HPB.out; have e9 : g = pb := e; omega)) (But.of (S := fun _ => False) A3.out) (fun _ _ h => h))
    have HTB : Hid (w2.heap.size ≠ pb) := by have h1 := p2.lt; simp only at h1; show _ ≠ _; omega
    clear CN b2 p2 HRx HPx HBx HS hgo
    generalize (taken en st').2 = st1 at *
    generalize (taken en st').1 = t at *
    obtain ⟨tk, tt, tp, tq⟩ := t
    simp only [Tv.val] at *
    go_upto_region 4 with fail
    obtain ⟨tb, htb⟩ : ∃ tb, w2.heap.size = tb := ⟨_, rfl⟩
    rw [htb] at M3 HTB ⊢
    generalize w2.alloc (.cells #[.int .i64 tk, .string tt, .int .i64 tp, .int .i64 tq] 95) = W3 at *
    clear htb A3
    obtain ⟨⟨c0, c1, c2, c3⟩, _⟩ := four_cells M3.out
    go_wp2_with fail
    refine (CT.out _ P3.out).mono ?_
    rintro e w4 ⟨rfl, b4, p4⟩
    have A4 := hide (balloc (brefl w4) (.cells #[.int .i64 (F.com (wd tk tt)).1, .int .i64 (F.com (wd tk tt)).2.1] 73))
    have X4 := hide (heap_new w4 #[.int .i64 (F.com (wd tk tt)).1, .int .i64 (F.com (wd tk tt)).2.1] 73)
    have P4 := hide (p4.below A4.out)
    have B4 := hide ((B3.out.trans b4).trans (But.of A4.out))
    have R4 := hide (row_but (row_but R3.out b4 (fun g hg e => by have h1 := (R3.out.lt g hg).1; have h2 := HPB.out; have e9 : g = pb := e; omega)) (But.of (S := fun _ => False) A4.out) (fun _ _ h => h))
    have M4 := hide ((A4.out.block tb (Nat.lt_of_lt_of_le (heap_lt M3.out) b4.size)).trans (b4.keep M3.out HTB.out))
    have HXB : Hid (w4.heap.size ≠ pb) := by have h1 := p4.lt; simp only at h1; show _ ≠ _; omega
    clear b4 p4
    go_upto_region 5 with fail
    obtain ⟨xb, hxb⟩ : ∃ xb, w4.heap.size = xb := ⟨_, rfl⟩
    rw [hxb] at X4 HXB ⊢
    generalize w4.alloc (.cells #[.int .i64 (F.com (wd tk tt)).1, .int .i64 (F.com (wd tk tt)).2.1] 73) = W4 at *
    clear hxb A4
    clear c0 c1 c2 c3 P3 B3 R3 M3
    obtain ⟨⟨c0, c1, c2, c3⟩, _⟩ := four_cells M4.out
    go_wp2_with fail
    refine (CR.out _ P4.out).mono ?_
    rintro e w5 ⟨rfl, b5, p5⟩
    have P5 := hide p5
    have B5 := hide (B4.out.trans b5)
    have R5 := hide (row_but R4.out b5 (fun g hg e => by have h1 := (R4.out.lt g hg).1; have h2 := HPB.out; have e9 : g = pb := e; omega))
    have X5 := hide (b5.keep X4.out HXB.out)
    obtain ⟨x0', x1', _, _⟩ := two_cells X5.out
    clear b5 p5 CR CT P4 B4 R4 M4 c0 c1 c2 c3
    have A6 := hide (balloc (brefl w5) (.cells #[.int .i64 (F.com (wd tk tt)).1, .int .i64 (F.com (wd tk tt)).2.1] 73))
    have N6 := hide (heap_new w5 #[.int .i64 (F.com (wd tk tt)).1, .int .i64 (F.com (wd tk tt)).2.1] 73)
    have S6 := hide (row_but R5.out (But.of (S := fun _ => False) A6.out) (fun _ _ h => h))
    have P6 := hide (P5.out.below A6.out)
    have B6 := hide (B5.out.trans (But.of A6.out))
    have HSZ6 : Hid (w.heap.size ≤ (w5.alloc (.cells #[.int .i64 (F.com (wd tk tt)).1, .int .i64 (F.com (wd tk tt)).2.1] 73)).heap.size) := B6.out.size
    have HNB2 := HNB.out
    go_wp2_with (at_builtin; go_must (refine wpList_append_where rfl _ _ 76 rfl w.heap.size 73 i0 (.agg #[.int .i64 0, .int .i64 0]) 2 16 Tryz.underlying76 hi hz0 hz1 hz2 rfl (by decide) _ _ _ rfl S6.out ⟨w5.heap.size, 0, none⟩ 1 1 [.int .i64 (F.com (wd tk tt)).1, .int .i64 (F.com (wd tk tt)).2.1] rfl rfl ?c1 ?c2 ?c3 ?c4 HSZ6.out ?_))
    case c1 =>
     intro j u hj
     match j, hj with
     | 0, hj => simp at hj; subst hj; simp [Addr.add]
     | 1, hj => simp at hj; subst hj; simp [Addr.add]
    case c2 => intro u hu; simp at hu; rcases hu with rfl | rfl <;> rfl
    case c3 => unfold maxLen; omega
    case c4 => omega
    intro v7 w7 o7 g7 l7
    have P7 := hide (P6.out.of (S := fun k => some k = Value.ownBlock (.slice ao N c)) ⟨g7.os, g7.tape, g7.output, g7.size, fun k hk hl => g7.block k hl hk⟩ (fun e => by have h1 := (S6.out.lt pb e.symm).1; have h2 := HPB.out; omega) (fun k e => Nat.le_trans HW0.out (S6.out.lt k e.symm).1))
    have B7 := hide (B6.out.grown g7 (fun k hk => .inr (S6.out.lt k hk).1))
    have HLE7 := hide P7.out.len
    have HGD7 := hide P7.out.gd
    simp only at HLE7 HGD7
    obtain ⟨g8, hS8⟩ := HST.out
    have hS9 := hS8
    rw [HN.out] at hS9
    have HSL : Hid (sliceLen v7 = N + 1) := by
     rcases o7.2 with ⟨hv, h0⟩ | ⟨g, cap, cur, hv, _⟩
     ·
      omega
     rw [hv]; rfl
    have O7 : Hid (w7.ownsRow w.heap.size 73 2 v7 (l ++ [((F.com (wd tk tt)).1, (F.com (wd tk tt)).2.1)]).length (prs (l ++ [((F.com (wd tk tt)).1, (F.com (wd tk tt)).2.1)]))) := by
     rw [List.length_append, HN.out, show prs (l ++ [((F.com (wd tk tt)).1, (F.com (wd tk tt)).2.1)]) = prs l ++ [.int .i64 (F.com (wd tk tt)).1, .int .i64 (F.com (wd tk tt)).2.1] from by simp [prs]]
     exact o7
    clear o7 g7 l7 hS8
    go_wp2_with fail
    refine ⟨⟨l ++ [((F.com (wd tk tt)).1, (F.com (wd tk tt)).2.1)], _, g8, O7, P7, hS9, B7⟩, ?_⟩
    rw [HLE7.out, HGD7.out, HSL.out, if_neg (show ¬ N + 1 = 0 by omega), HLE.out, HGD.out]
    show _ < 2 * st'.len + (if sliceLen (.slice ao N c) = 0 then 1 else 0) + st'.gd
    have h9 := HLS.out (if most ≤ N then 2 else 0) ((F.com (wd tk tt)).2.2)
    exact h9
set_option maxHeartbeats 2000000 in
set_option maxRecDepth 100000 in
theorem mark_d (E : En) (st : Sta) (m : UInt8) (w : World) (h : Ps E w st) : CallsD Tryz.prog 70 #[.pointer (some ⟨E.pb, 0, none⟩), .string (bs [m])] .returning w fun r u' w' => u' = .returning ∧ (r = .returned (.tuple #[]) ∧ But (but1 E.pb) w w' ∧ Ps E w' ((pMark m).exec E.en st).2) := by
 have HX : Hid (((pMark m).exec E.en st).2 = faulted (taken E.en st).1 (if isM m (taken E.en st).1.k (taken E.en st).1.s then 0 else 4) (taken E.en st).2) := by
  show _ = _
  unfold pMark
  rw [exec_next, exec_ifn E.en (taken_at E.en st) (by decide), exec_ret]
 rw [HX.out]
 have CN := hide (next_is E st w h)
 have HPB := hide h.lt
 clear HX h
 obtain ⟨fin, hfin⟩ : ∃ fin, faulted (taken E.en st).1 (if isM m (taken E.en st).1.k (taken E.en st).1.s then 0 else 4) (taken E.en st).2 = fin := ⟨_, rfl⟩
 rw [hfin]
 have HFIN := hide hfin
 clear hfin
 generalize (taken E.en st).2 = st1 at *
 generalize (taken E.en st).1 = t at *
 have CF := hide (fault_is E st1 t 4)
 have CW := hide (isMark_is m t)
 obtain ⟨W0, pb, en⟩ := E
 obtain ⟨tk, tt, tp, tq⟩ := t
 simp only [Tv.val] at *
 go_enter_d Tryz.func70, Tryz.ntmps70
 go_wp2_with fail
 refine CN.out.mono ?_
 rintro e w1 ⟨rfl, b1, p1⟩
 have P1 := hide (p1.alloc (.cells #[.int .i64 tk, .string tt, .int .i64 tp, .int .i64 tq] 95))
 have B1 := hide (b1.alloc (.cells #[.int .i64 tk, .string tt, .int .i64 tp, .int .i64 tq] 95))
 have N1 := hide (heap_new w1 #[.int .i64 tk, .string tt, .int .i64 tp, .int .i64 tq] 95)
 have HNE : Hid (w1.heap.size ≠ pb) := by have h9 := HPB.out; have h8 := b1.size; show _ ≠ _; omega
 clear b1 p1 CN
 go_upto_region 1 with fail
 obtain ⟨tb, htb⟩ : ∃ tb, w1.heap.size = tb := ⟨_, rfl⟩
 rw [htb] at N1 HNE ⊢
 generalize w1.alloc (.cells #[.int .i64 tk, .string tt, .int .i64 tp, .int .i64 tq] 95) = W1 at *
 clear htb
 obtain ⟨⟨c0, c1, c2, c3⟩, _⟩ := four_cells N1.out
 go_wp2_with fail
 refine (CW.out _).mono ?_
 rintro e w2 ⟨rfl, b2⟩
 have P2 := hide (P1.out.below b2)
 have B2 := hide (B1.out.trans (But.of b2))
 have N2 := hide ((b2.block tb (heap_lt N1.out)).trans N1.out)
 clear b2 CW c0 c1 c2 c3 P1 B1 N1
 obtain ⟨⟨c0, c1, c2, c3⟩, _⟩ := four_cells N2.out
 by_cases hc : isM m tk tt
 ·
  rw [decide_eq_true hc]
  go_wp2_with fail
  go_end0
  refine ⟨rfl, B2.out, ?_⟩
  rw [← HFIN.out, if_pos hc, faulted_zero]
  exact P2.out
 rw [decide_eq_false hc]
 go_wp2_with fail
 refine (CF.out _ P2.out).mono ?_
 rintro e w3 ⟨rfl, b3, p3⟩
 go_wp2_with fail
 go_end0
 refine ⟨rfl, B2.out.trans b3, ?_⟩
 rw [← HFIN.out, if_neg hc]
 exact p3
def Rg.enc (r : Rg) : List Value := [.int .u32 r.ad, .int .i64 r.bits, .int .i64 r.ge, .int .i64 r.le, .bool r.ok]
def Rg.val (r : Rg) : Value := .agg #[.int .u32 r.ad, .int .i64 r.bits, .int .i64 r.ge, .int .i64 r.le, .bool r.ok]
def RgAt (w : World) (b : Nat) (r : Rg) : Prop := w.heap[b]? = some (.cells #[.int .u32 r.ad, .int .i64 r.bits, .int .i64 r.ge, .int .i64 r.le, .bool r.ok] 109 (0, 0))
theorem five_cells {w : World} {b y : Nat} {x0 x1 x2 x3 x4 : Value} (h : w.heap[b]? = some (.cells #[x0, x1, x2, x3, x4] y (0, 0))) : (w.cell? ⟨b, 0, none⟩ = some x0 ∧ w.cell? ⟨b, 1, none⟩ = some x1 ∧ w.cell? ⟨b, 2, none⟩ = some x2 ∧ w.cell? ⟨b, 3, none⟩ = some x3 ∧ w.cell? ⟨b, 4, none⟩ = some x4) ∧ w.frozen? ⟨b, 0, none⟩ = false ∧ w.frozen? ⟨b, 1, none⟩ = false ∧ w.frozen? ⟨b, 2, none⟩ = false ∧ w.frozen? ⟨b, 3, none⟩ = false ∧ w.frozen? ⟨b, 4, none⟩ = false := by
 simp [World.cell?, World.frozen?, h]
structure SetIs (f : Nat) (set : Rg → Int → Rg) : Prop where
  eg : ∀ (args : Array Value) (w : World), (callFunc f args).run Tryz.prog w = .ok (.enter f args) w
  call : ∀ (r : Rg) (n : Int) (b : Nat) (w : World), RgAt w b r → Calls Tryz.prog f #[.int .i64 n, .pointer (some ⟨b, 0, none⟩)] w fun e w' => e = .returned (.tuple #[]) ∧ RgAt w' b (set r n) ∧ But (fun k => k = b) w w'
set_option maxRecDepth 100000 in
theorem setGe_is : SetIs 91 setGe := by
 refine ⟨fun args w => by rfl, fun r n b w h => ?_⟩
 have H : Hid (w.heap[b]? = some (.cells #[.int .u32 r.ad, .int .i64 r.bits, .int .i64 r.ge, .int .i64 r.le, .bool r.ok] 109 (0, 0))) := h
 clear h
 obtain ⟨⟨c0, c1, c2, c3, c4⟩, f0, f1, f2, f3, f4⟩ := five_cells H.out
 go_enter Tryz.func91, Tryz.ntmps91
 go_wp2_with fail
 go_end0
 exact ⟨rfl, heap_setCell_same _ b 3 _ 109 (.int .i64 n) (heap_setCell_same _ b 2 _ 109 (.int .i64 n) H.out), ((But.refl (fun k => k = b) w).setCell (p := ⟨b, 2, none⟩) (.inl rfl) _).setCell (p := ⟨b, 3, none⟩) (.inl rfl) _⟩
set_option maxRecDepth 100000 in
theorem setLe_is : SetIs 92 setLe := by
 refine ⟨fun args w => by rfl, fun r n b w h => ?_⟩
 have H : Hid (w.heap[b]? = some (.cells #[.int .u32 r.ad, .int .i64 r.bits, .int .i64 r.ge, .int .i64 r.le, .bool r.ok] 109 (0, 0))) := h
 clear h
 obtain ⟨⟨c0, c1, c2, c3, c4⟩, f0, f1, f2, f3, f4⟩ := five_cells H.out
 go_enter Tryz.func92, Tryz.ntmps92
 go_wp2_with fail
 go_end0
 exact ⟨rfl, heap_setCell_same _ b 3 _ 109 (.int .i64 n) H.out, (But.refl (fun k => k = b) w).setCell (p := ⟨b, 3, none⟩) (.inl rfl) _⟩
theorem exec_num (F : Fn) (en : Int × Int) (a b k : Int) (s : ByteArray) {t : Tv} {st : Sta} (h : At t st) {α : Type} (g : Int → Pg α) : ((pNum F a b k s).bind g).exec en st = (g (F.num (wd k s) a b).1).exec en (faulted t (F.num (wd k s) a b).2 st) := by
 unfold pNum
 rw [bind_assoc, exec_chk en h]
 rfl
theorem okv_bind {α β : Type} (en : Int × Int) (g : Pg α) (h : α → Pg β) (st : Sta) (a : α) (st' : Sta) (he : g.exec en st = (okv a st', st')) : (g.bind h).exec en st = (h a).exec en st' := by
 rw [exec_bind, he]
 cases st' <;> rfl
theorem bound_no (F : Fn) (en : Int × Int) (x : ByteArray) (set : Rg → Int → Rg) (r : Rg) (st : Sta) (h : ¬ isW x (headS st) = true) : (pBound F x set r).exec en st = (okv r st, st) := by
 unfold pBound
 have e : (pOpt x).exec en st = (okv false st, st) := by
  unfold pOpt
  rw [exec_peek, if_neg h, exec_ret]
 rw [okv_bind en _ _ st false st e, if_neg (by decide), exec_ret]
theorem bound_yes (F : Fn) (en : Int × Int) (x : ByteArray) (set : Rg → Int → Rg) (r : Rg) (st : Sta) (h : isW x (headS st) = true) (t : Tv) (st1 : Sta) (ht : (taken en (taken en st).2).1 = t) (h1 : (taken en (taken en st).2).2 = st1) (n e : Int) (hn : (F.num (wd t.k t.s) 0 9223372036854775807).1 = n) (he : (F.num (wd t.k t.s) 0 9223372036854775807).2 = e) : (pBound F x set r).exec en st = (okv (set r n) (faulted t (if F.may (set r n) = true then 0 else 7) (faulted t e st1)), faulted t (if F.may (set r n) = true then 0 else 7) (faulted t e st1)) := by
 have e0 : (pOpt x).exec en st = (okv true (taken en st).2, (taken en st).2) := by
  unfold pOpt
  rw [exec_peek, if_pos h, exec_next, exec_ret]
 have hat : At t st1 := by rw [← ht, ← h1]; exact taken_at _ _
 unfold pBound
 rw [okv_bind en _ _ st true (taken en st).2 e0, if_pos rfl, exec_next, ht, h1, exec_num F en _ _ _ _ hat, hn, he, exec_ifn en (faulted_at hat) (by decide), exec_ret]
def BoundTo (E : En) (rc : Nat) (w : World) (R : Option Rg × Sta) (w' : World) : Prop := ∃ r, RgAt w' rc r ∧ But (orS E.pb (fun k => k = rc)) w w' ∧ Ps E w' R.2 ∧ ∀ a, R.1 = some a → r = a
end Go.Proofs.YtnadhplhnfpeaaaGreatDoor
