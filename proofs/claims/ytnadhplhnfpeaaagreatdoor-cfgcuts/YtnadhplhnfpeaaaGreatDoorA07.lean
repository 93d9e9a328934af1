/- Part of the proof. -/
import Derived.Test.YtnadhplhnfpeaaaGreatDoorAZ
import Derived.Test.YtnadhplhnfpeaaaGreatDoorA06
namespace Go.Proofs.YtnadhplhnfpeaaaGreatDoor
open Go.RowKit Go.Sort
def pThing {α : Type} (er : Int → ByteArray → Int) (vl : Int → ByteArray → α) (k : Int) (s : ByteArray) : Pg α := (chk (er k s)).bind fun _ => .ret (vl k s)
def pSevC {α : Type} (most : Nat) (th : Int → ByteArray → Pg α) (f : Nat) (l : List α) : Pg (List α) := if l.length = 0 then pSev most th f l else .peek fun o => if isE o = true then .ret l else pSev most th f l
theorem sev_step {α : Type} (en : Int × Int) (most : Nat) (er : Int → ByteArray → Int) (vl : Int → ByteArray → α) (f : Nat) (l : List α) (st : Sta) : (pSev most (pThing er vl) (f + 1) l).exec en st = (pSevC most (pThing er vl) f (l ++ [vl (taken en st).1.k (taken en st).1.s])).exec en (faulted (taken en st).1 (if most ≤ l.length then 2 else 0) (faulted (taken en st).1 (er (taken en st).1.k (taken en st).1.s) (taken en st).2)) := by
 have e1 : pSevC most (pThing er vl) f (l ++ [vl (taken en st).1.k (taken en st).1.s]) = .peek fun o => if isE o = true then .ret (l ++ [vl (taken en st).1.k (taken en st).1.s]) else pSev most (pThing er vl) f (l ++ [vl (taken en st).1.k (taken en st).1.s]) := if_neg (by simp)
 rw [e1, pSev, exec_next]
 show (((chk (er _ _)).bind fun _ => Pg.ret (vl _ _)).bind _).exec en _ = _
 rw [bind_assoc, exec_chk en (taken_at en st)]
 show ((room l.length most).bind _).exec en _ = _
 rw [room_bind, exec_if en (faulted_at (taken_at en st)) (by decide)]
theorem sevC_zero {α : Type} (most : Nat) (th : Int → ByteArray → Pg α) (f : Nat) (l : List α) (h : l.length = 0) : pSevC most th f l = pSev most th f l := if_pos h
theorem sevC_end {α : Type} (en : Int × Int) (most : Nat) (th : Int → ByteArray → Pg α) (f : Nat) (l : List α) (h : ¬ l.length = 0) (st : Sta) (he : isE (headS st) = true) : (pSevC most th f l).exec en st = (okv l st, st) := by
 rw [pSevC, if_neg h, exec_peek, if_pos he, exec_ret]
theorem sevC_more {α : Type} (en : Int × Int) (most : Nat) (th : Int → ByteArray → Pg α) (f : Nat) (l : List α) (h : ¬ l.length = 0) (st : Sta) (he : ¬ isE (headS st) = true) : (pSevC most th f l).exec en st = (pSev most th f l).exec en st := by
 rw [pSevC, if_neg h, exec_peek, if_neg he]
theorem faulted_len (t : Tv) (e : Int) (st : Sta) : (faulted t e st).len ≤ st.len := by
 cases st with
 | good r l =>
  show Sta.len (if e = 0 then .good r l else .bad t.p t.q e) ≤ _
  split
  ·
   exact Nat.le_refl _
  exact Nat.zero_le _
 | bad p q x => exact Nat.le_refl _
theorem faulted_good {t : Tv} {e : Int} {st : Sta} {r : List Tv} {l : Int × Int} (h : faulted t e st = .good r l) : st = .good r l := by
 cases st with
 | good r0 l0 =>
  have h' : (if e = 0 then Sta.good r0 l0 else .bad t.p t.q e) = .good r l := h
  split at h'
  ·
   exact h'
  cases h'
 | bad p q x => cases h
structure SevAt {α : Type} (en : Int × Int) (most K : Nat) (th : Int → ByteArray → Pg α) (R : Option (List α) × Sta) (l : List α) (st : Sta) (g : Nat) : Prop where
  rest : (pSevC most th g l).exec en st = R
  fuel : (∀ r m, st = .good r m → r.length < g) ∧ (l.length = 0 → 1 ≤ g)
  many : l.length ≤ K + 1 ∧ ∀ r m, st = .good r m → l.length + r.length ≤ K
theorem SevAt.step {α : Type} {en : Int × Int} {most K : Nat} {er : Int → ByteArray → Int} {vl : Int → ByteArray → α} {R : Option (List α) × Sta} {l : List α} {st : Sta} {g : Nat} (h : SevAt en most K (pThing er vl) R l st g) (hc : l.length = 0 ∨ ((∃ r m, st = .good r m) ∧ ¬ isE (headS st) = true)) : ∃ g', SevAt en most K (pThing er vl) R (l ++ [vl (taken en st).1.k (taken en st).1.s]) (faulted (taken en st).1 (if most ≤ l.length then 2 else 0) (faulted (taken en st).1 (er (taken en st).1.k (taken en st).1.s) (taken en st).2)) g' := by
 obtain ⟨g, rfl⟩ : ∃ g', g = g' + 1 := by
  rcases hc with hc | ⟨⟨r, m, hc⟩, _⟩
  ·
   have := h.fuel.2 hc; exact ⟨g - 1, by omega⟩
  have := h.fuel.1 r m hc; exact ⟨g - 1, by omega⟩
 refine ⟨g, ?_, ?_, ?_⟩
 ·
  rw [← sev_step, ← h.rest]
  by_cases h0 : l.length = 0
  ·
   rw [sevC_zero _ _ _ _ h0]
  rcases hc with hc | ⟨_, hc⟩
  ·
   exact absurd hc h0
  rw [sevC_more en most _ _ l h0 st hc]
 ·
  refine ⟨fun r m e => ?_, fun e => by simp at e⟩
  have e1 := faulted_good (faulted_good e)
  have h1 := taken_len en st e1
  cases st with
  | good r0 l0 =>
   have := h.fuel.1 r0 l0 rfl
   simp only [Sta.len] at h1
   omega
  | bad p q x => cases e1
 rw [List.length_append]
 constructor
 ·
  rcases hc with hc | ⟨⟨r, m, hc⟩, _⟩
  ·
   simp [hc]
  have := h.many.2 r m hc
  simp only [List.length_cons, List.length_nil]
  omega
 intro r m e
 have e1 := faulted_good (faulted_good e)
 have h1 := taken_len en st e1
 cases st with
 | good r0 l0 =>
  have := h.many.2 r0 l0 rfl
  simp only [Sta.len] at h1
  simp only [List.length_cons, List.length_nil]
  omega
 | bad p q x => cases e1
def Sta.gd : Sta → Nat
  | .good _ _ => 1
  | .bad _ _ _ => 0
def pbGood (w : World) (pb : Nat) : Nat := match w.cell? ⟨pb, 5, none⟩ with
  | some (.int _ e) => if e = 0 then 1 else 0
  | _ => 0
theorem Ps.gd {E : En} {w : World} {st : Sta} (h : Ps E w st) : pbGood w E.pb = st.gd := by
 obtain ⟨_, _, ao, n, c, a1, a2, e, hg, hv⟩ := h
 unfold pbGood
 rw [(six_cells hg).1.2.2.2.2.2]
 cases st with
 | good r l => simp only [hv.2.2.2.2.2.2.2]; rfl
 | bad p q x =>
  obtain ⟨_, _, _, _, _, rfl, hx⟩ := hv
  simp only [if_neg hx]
  rfl
theorem faulted_bad {t : Tv} {e : Int} {st : Sta} (h : ∀ r l, st ≠ .good r l) : (faulted t e st).len = 0 ∧ (faulted t e st).gd = 0 ∧ ∀ r l, faulted t e st ≠ .good r l := by
 cases st with
 | good r l => exact absurd rfl (h r l)
 | bad p q x => exact ⟨rfl, rfl, fun r l e => by cases e⟩
theorem gd_le (st : Sta) : st.gd ≤ 1 := by cases st <;> simp [Sta.gd]
theorem sev_less (en : Int × Int) (st : Sta) (t : Tv) (e1 e2 : Int) (N : Nat) (h : N = 0 ∨ ((∃ r m, st = .good r m) ∧ ¬ isE (headS st) = true)) : 2 * (faulted t e1 (faulted t e2 (taken en st).2)).len + 0 + (faulted t e1 (faulted t e2 (taken en st).2)).gd < 2 * st.len + (if N = 0 then 1 else 0) + st.gd := by
 have h1 := gd_le (faulted t e1 (faulted t e2 (taken en st).2))
 cases st with
 | good r l =>
  cases r with
  | nil =>
   obtain ⟨_, _, h3⟩ := faulted_bad (t := t) (e := e2) (st := (taken en (.good [] l)).2) (fun r l e => by cases e)
   obtain ⟨h4, h5, _⟩ := faulted_bad (t := t) (e := e1) h3
   rw [h4, h5]
   simp [Sta.gd]
  | cons u r =>
   have h2 := faulted_len t e1 (faulted t e2 (taken en (.good (u :: r) l)).2)
   have h3 := faulted_len t e2 (taken en (.good (u :: r) l)).2
   have h4 : (taken en (.good (u :: r) l)).2.len = r.length := rfl
   have h5 : Sta.len (.good (u :: r) l) = r.length + 1 := rfl
   omega
 | bad p q x =>
  rcases h with h | ⟨⟨r, m, h⟩, _⟩
  ·
   rw [if_pos h]
   show 2 * 0 + 0 + 0 < 2 * 0 + 1 + 0
   omega
  cases h
def sliceLen : Value → Nat
  | .slice _ n _ => n
  | _ => 0
def ints (l : List Int) : List Value := l.map (.int .i64)
theorem infoI : (Tryz.prog.info? 3).map (fun i => (i.zero, i.size, i.bytes)) = some (some (.int .i64 0), 1, 8) := by kernel_rfl
theorem info_partsI : ∃ i0 : TypeInfo, Tryz.prog.info? 3 = some i0 ∧ i0.zero = some (.int .i64 0) ∧ i0.size = 1 ∧ i0.bytes = 8 := by
 have h := infoI
 cases hi : Tryz.prog.info? 3 with
 | none => rw [hi] at h; cases h
 | some i0 =>
  rw [hi] at h
  simp only [Option.map_some, Option.some.injEq, Prod.mk.injEq] at h
  exact ⟨i0, rfl, h.1, h.2.1, h.2.2⟩
def SevITo (E : En) (_st : Sta) (w : World) (R : Option (List (Int)) × Sta) (e : Ending) (w' : World) : Prop := ∃ v l, e = .returned v ∧ w'.ownsRow w.heap.size 3 1 v l.length (ints l) ∧ But (but1 E.pb) w w' ∧ Ps E w' R.2 ∧ ∀ a, R.1 = some a → l = a
set_option maxHeartbeats 4000000 in
set_option maxRecDepth 100000 in
theorem severalI_is {T : World → Prop} {F : Fn} (K : Kit12 T F) (E : En) (most Fu : Nat) (st : Sta) (w : World) (h : Ps E w st) (hT : T E.w0) (hF : st.len < Fu) : Calls Tryz.prog 108 #[.pointer (some ⟨E.pb, 0, none⟩), .int .i64 (most : Int), .func (.func 71) #[.pointer (some ⟨E.pb, 0, none⟩)] #[]] w (SevITo E st w ((pSev most (pNum F 1 65535) Fu []).exec E.en st)) := by
 obtain ⟨i0, hi, hz0, hz1, hz2⟩ := info_partsI
 have hTH : (pNum F 1 65535) = pThing (fun k s => (F.num (wd k s) 1 65535).2) (fun k s => (F.num (wd k s) 1 65535).1) := rfl
 rw [hTH]
 clear hTH
 obtain ⟨R, hR⟩ : ∃ R, (pSev most (pThing (fun k s => (F.num (wd k s) 1 65535).2) (fun k s => (F.num (wd k s) 1 65535).1)) Fu []).exec E.en st = R := ⟨_, rfl⟩
 have HA0 : Hid (SevAt E.en most st.len (pThing (fun k s => (F.num (wd k s) 1 65535).2) (fun k s => (F.num (wd k s) 1 65535).1)) R [] st Fu) := by
  refine ⟨by rw [sevC_zero _ _ _ _ rfl]; exact hR, ⟨fun r m e => ?_, fun _ => by omega⟩, ⟨by simp, fun r m e => ?_⟩⟩
  ·
   subst e; exact hF
  subst e; simp [Sta.len]
 have HK : Hid (st.len ≤ 100000) := by
  obtain ⟨_, _, ao, n, c, a1, a2, e, _, hv⟩ := h
  cases st with
  | good r l => have h1 := hv.1; have h2 := hv.2.2.1; show r.length ≤ _; omega
  | bad p q x => exact Nat.zero_le _
 rw [hR]
 clear hR hF
 have H := hide h
 have HT := hide hT
 have HW0 := hide h.1.size
 have HPB := hide h.lt
 clear h hT
 obtain ⟨W0, pb, en⟩ := E
 simp only at *
 generalize st.len = KK at *
 go_enter Tryz.func108, Tryz.ntmps108
 go_wp2_with fail
 go_loopw [7] (fun v7 wr => ∃ (l : List (Int)) (st' : Sta) (g : Nat), Hid (wr.ownsRow w.heap.size 3 1 v7 l.length (ints l)) ∧ Hid (Ps ⟨W0, pb, en⟩ wr st') ∧ Hid (SevAt en most KK (pThing (fun k s => (F.num (wd k s) 1 65535).2) (fun k s => (F.num (wd k s) 1 65535).1)) R l st' g) ∧ Hid (But (but1 pb) w wr)) (fun v7 wr => 2 * pbLen wr pb + (if sliceLen v7 = 0 then 1 else 0) + pbGood wr pb)
 case atStart => exact ⟨[], st, Fu, World.ownsRow_nil _ _ _ _, H, HA0, But.refl _ _⟩
 case round =>
  clear H HA0
  obtain ⟨l, st', g, HR, HP, HS, HB⟩ := hrel
  have HLE := hide HP.out.len
  have HGD := hide HP.out.gd
  simp only at HLE HGD
  obtain ⟨ao, c, hv⟩ : ∃ ao c, u7 = .slice ao l.length c := by
   rcases HR.out.2 with ⟨hv, h0⟩ | ⟨g, cap, cur, hv, _⟩
   ·
    exact ⟨none, 0, by rw [hv, h0]⟩
   exact ⟨_, _, hv⟩
  subst hv
  obtain ⟨N, hN⟩ : ∃ N, l.length = N := ⟨_, rfl⟩
  have HN := hide hN
  rw [hN] at HR ⊢
  have HNB : Hid (N ≤ 100001) := by have h1 := HS.out.many.1; have h2 := HK.out; show _ ≤ _; omega
  clear hN
  obtain ⟨ao1, n1, cc1, a1, a2, x0, hg, hx0, hhd⟩ := HP.out.head
  obtain ⟨⟨_, _, _, _, _, z5⟩, _⟩ := six_cells hg
  simp only at z5
  have CE := hide (ends_is ⟨W0, pb, en⟩ st' wr HP.out)
  simp only at CE
  clear hg hhd
  by_cases hN0 : N = 0
  ·
   have hgo : N = 0 ∨ ((∃ r m, st' = .good r m) ∧ ¬ isE (headS st') = true) := .inl hN0
   have hNi : (N : Int) = 0 := by omega
   have HRx := HR
   have HPx := HP
   have HBx := HB
   clear HR HP HB CE hx0 hN0
   go_upto_region 3 with fail
   clear z5 hNi
   have CN := hide (next_is ⟨W0, pb, en⟩ st' wr HPx.out)
   simp only at CN
   have HST := hide (HS.out.step (by rw [HN.out]; exact hgo))
   have HLS := hide (fun e1 e2 => sev_less en st' (taken en st').1 e1 e2 N hgo)
   have HSZ := hide (taken_size HPx.out)
   simp only at HSZ
   have CT := hide (fun W hW => as_is K ⟨W0, pb, en⟩ (taken en st').2 (taken en st').1 W hW HT.out HSZ.out)
   have CR := hide (fun W hW => room_is ⟨W0, pb, en⟩ (faulted (taken en st').1 (F.num (wd (taken en st').1.k (taken en st').1.s) 1 65535).2 (taken en st').2) (taken en st').1 N most W hW)
   go_wp2_with fail
   refine CN.out.mono ?_
   rintro e w2 ⟨rfl, b2, p2⟩
   have A3 := hide (balloc (brefl w2) (.cells #[.int .i64 (taken en st').1.k, .string (taken en st').1.s, .int .i64 (taken en st').1.p, .int .i64 (taken en st').1.q] 95))
   have M3 := hide (heap_new w2 #[.int .i64 (taken en st').1.k, .string (taken en st').1.s, .int .i64 (taken en st').1.p, .int .i64 (taken en st').1.q] 95)
   have P3 := hide (p2.below A3.out)
   have B3 := hide ((HBx.out.trans b2).trans (But.of A3.out))
   have R3 := hide (row_but (row_but HRx.out b2 (fun g hg e => by have h1 := (HRx.out.lt g hg).1; have h2 := HPB.out; have e9 : g = pb := e; omega)) (But.of (S := fun _ => False) A3.out) (fun _ _ h => h))
   have HTB : Hid (w2.heap.size ≠ pb) := by have h1 := p2.lt; simp only at h1; show _ ≠ _; omega
   clear CN b2 p2 HRx HPx HBx HS hgo
   generalize (taken en st').2 = st1 at *
   generalize (taken en st').1 = t at *
   obtain ⟨tk, tt, tp, tq⟩ := t
   simp only [Tv.val] at *
   go_upto_region 4 with fail
   obtain ⟨tb, htb⟩ : ∃ tb, w2.heap.size = tb := ⟨_, rfl⟩
   rw [htb] at M3 HTB ⊢
   generalize w2.alloc (.cells #[.int .i64 tk, .string tt, .int .i64 tp, .int .i64 tq] 95) = W3 at *
   clear htb A3
   obtain ⟨⟨c0, c1, c2, c3⟩, _⟩ := four_cells M3.out
   go_wp2_with fail
   refine (CT.out _ P3.out).mono ?_
   rintro e w4 ⟨rfl, b4, p4⟩
   have P4 := hide p4
   have B4 := hide (B3.out.trans b4)
   have R4 := hide (row_but R3.out b4 (fun g hg e => by have h1 := (R3.out.lt g hg).1; have h2 := HPB.out; have e9 : g = pb := e; omega))
   have M4 := hide (b4.keep M3.out HTB.out)
   clear b4 p4
   clear c0 c1 c2 c3 P3 B3 R3 M3
   obtain ⟨⟨c0, c1, c2, c3⟩, _⟩ := four_cells M4.out
   go_wp2_with fail
   refine (CR.out _ P4.out).mono ?_
   rintro e w5 ⟨rfl, b5, p5⟩
   have P5 := hide p5
   have B5 := hide (B4.out.trans b5)
   have R5 := hide (row_but R4.out b5 (fun g hg e => by have h1 := (R4.out.lt g hg).1; have h2 := HPB.out; have e9 : g = pb := e; omega))
   clear b5 p5 CR CT P4 B4 R4 M4 c0 c1 c2 c3
   have A6 := hide (balloc (brefl w5) (.cells #[.int .i64 (F.num (wd tk tt) 1 65535).1] 3))
   have N6 := hide (heap_new w5 #[.int .i64 (F.num (wd tk tt) 1 65535).1] 3)
   have S6 := hide (row_but R5.out (But.of (S := fun _ => False) A6.out) (fun _ _ h => h))
   have P6 := hide (P5.out.below A6.out)
   have B6 := hide (B5.out.trans (But.of A6.out))
   have HSZ6 : Hid (w.heap.size ≤ (w5.alloc (.cells #[.int .i64 (F.num (wd tk tt) 1 65535).1] 3)).heap.size) := B6.out.size
   have HNB2 := HNB.out
   go_wp2_with (at_builtin; go_must (refine wpList_append_where rfl _ _ 77 rfl w.heap.size 3 i0 (.int .i64 0) 1 8 Tryz.underlying77 hi hz0 hz1 hz2 rfl (by decide) _ _ _ rfl S6.out ⟨w5.heap.size, 0, none⟩ 1 1 [.int .i64 (F.num (wd tk tt) 1 65535).1] rfl rfl ?c1 ?c2 ?c3 ?c4 HSZ6.out ?_))
   case c1 =>
    intro j u hj
    match j, hj with
    | 0, hj => simp at hj; subst hj; simp [Addr.add]
   case c2 => intro u hu; simp at hu; subst hu; rfl
   case c3 => unfold maxLen; omega
   case c4 => omega
   intro v7 w7 o7 g7 l7
   have P7 := hide (P6.out.of (S := fun k => some k = Value.ownBlock (.slice ao N c)) ⟨g7.os, g7.tape, g7.output, g7.size, fun k hk hl => g7.block k hl hk⟩ (fun e => by have h1 := (S6.out.lt pb e.symm).1; have h2 := HPB.out; omega) (fun k e => Nat.le_trans HW0.out (S6.out.lt k e.symm).1))
   have B7 := hide (B6.out.grown g7 (fun k hk => .inr (S6.out.lt k hk).1))
   have HLE7 := hide P7.out.len
   have HGD7 := hide P7.out.gd
   simp only at HLE7 HGD7
   obtain ⟨g8, hS8⟩ := HST.out
   have hS9 := hS8
   rw [HN.out] at hS9
   have HSL : Hid (sliceLen v7 = N + 1) := by
    rcases o7.2 with ⟨hv, h0⟩ | ⟨g, cap, cur, hv, _⟩
    ·
     omega
    rw [hv]; rfl
   have O7 : Hid (w7.ownsRow w.heap.size 3 1 v7 (l ++ [(F.num (wd tk tt) 1 65535).1]).length (ints (l ++ [(F.num (wd tk tt) 1 65535).1]))) := by
    rw [List.length_append, HN.out, show ints (l ++ [(F.num (wd tk tt) 1 65535).1]) = ints l ++ [.int .i64 (F.num (wd tk tt) 1 65535).1] from by simp [ints]]
    exact o7
   clear o7 g7 l7 hS8
   go_wp2_with fail
   refine ⟨⟨l ++ [(F.num (wd tk tt) 1 65535).1], _, g8, O7, P7, hS9, B7⟩, ?_⟩
   rw [HLE7.out, HGD7.out, HSL.out, if_neg (show ¬ N + 1 = 0 by omega), HLE.out, HGD.out]
   show _ < 2 * st'.len + (if sliceLen (.slice ao N c) = 0 then 1 else 0) + st'.gd
   have h9 := HLS.out (if most ≤ N then 2 else 0) ((F.num (wd tk tt) 1 65535).2)
   exact h9
  have hNi : ¬ (N : Int) = 0 := by omega
  have hNb : ((N : Int) == 0) = false := by rw [beq_eq_false_iff_ne]; exact hNi
  cases hst : st' with
  | bad p q e =>
   have hxb : (x0 == 0) = false := by
    rw [beq_eq_false_iff_ne]
    intro e0
    obtain ⟨r, m, h⟩ := hx0.1 e0
    rw [hst] at h
    cases h
   have HRR : Hid (R = (none, .bad p q e)) := by have h := HS.out.rest; rw [hst] at h; exact h.symm
   rw [hst] at HP
   clear CE hx0
   go_wp2_with fail
   go_ret
   refine ⟨_, l, rfl, by rw [HN.out]; exact HR.out, HB.out, by rw [HRR.out]; exact HP.out, fun a ha => by rw [HRR.out] at ha; cases ha⟩
  | good r m =>
   obtain rfl : x0 = 0 := hx0.2 ⟨r, m, hst⟩
   clear hx0
   go_wp2_with fail
   refine CE.out.mono ?_
   rintro e w1 ⟨rfl, b1⟩
   have HPx := hide (HP.out.below b1)
   have HBx := hide (HB.out.trans (But.of b1))
   have HRx := hide (row_but HR.out (But.of (S := fun _ => False) b1) (fun _ _ h => h))
   clear CE b1 HP HB HR z5
   cases hends : isE (headS st') with
   | true =>
    have HRR : Hid (R = (some l, st')) := by
     have h := HS.out.rest
     rw [sevC_end en most _ g l (by rw [HN.out]; exact hN0) st' hends, hst] at h
     rw [hst]
     exact h.symm
    go_wp2_with fail
    go_ret
    refine ⟨_, l, rfl, by rw [HN.out]; exact HRx.out, HBx.out, by rw [HRR.out]; exact HPx.out, fun a ha => by rw [HRR.out] at ha; cases ha; rfl⟩
   | false =>
    have hgo : N = 0 ∨ ((∃ r m, st' = .good r m) ∧ ¬ isE (headS st') = true) := .inr ⟨⟨r, m, hst⟩, by rw [hends]; decide⟩
    clear hends hst
    go_upto_region 3 with fail
    clear hNi hNb hN0
    have CN := hide (next_is ⟨W0, pb, en⟩ st' w1 HPx.out)
    simp only at CN
    have HST := hide (HS.out.step (by rw [HN.out]; exact hgo))
    have HLS := hide (fun e1 e2 => sev_less en st' (taken en st').1 e1 e2 N hgo)
    have HSZ := hide (taken_size HPx.out)
    simp only at HSZ
    have CT := hide (fun W hW => as_is K ⟨W0, pb, en⟩ (taken en st').2 (taken en st').1 W hW HT.out HSZ.out)
    have CR := hide (fun W hW => room_is ⟨W0, pb, en⟩ (faulted (taken en st').1 (F.num (wd (taken en st').1.k (taken en st').1.s) 1 65535).2 (taken en st').2) (taken en st').1 N most W hW)
    go_wp2_with fail
    refine CN.out.mono ?_
    rintro e w2 ⟨rfl, b2, p2⟩
    have A3 := hide (balloc (brefl w2) (.cells #[.int .i64 (taken en st').1.k, .string (taken en st').1.s, .int .i64 (taken en st').1.p, .int .i64 (taken en st').1.q] 95))
    have M3 := hide (heap_new w2 #[.int .i64 (taken en st').1.k, .string (taken en st').1.s, .int .i64 (taken en st').1.p, .int .i64 (taken en st').1.q] 95)
    have P3 := hide (p2.below A3.out)
    have B3 := hide ((HBx.out.trans b2).trans (But.of A3.out))
    have R3 := hide (row_but (row_but HRx.out b2 (fun g hg e => by have h1 := (HRx.out.lt g hg).1; have h2 := HPB.out; have e9 : g = pb := e; omega)) (But.of (S := fun _ => False) A3.out) (fun _ _ h => h))
    have HTB : Hid (w2.heap.size ≠ pb) := by have h1 := p2.lt; simp only at h1; show _ ≠ _; omega
    clear CN b2 p2 HRx HPx HBx HS hgo
    generalize (taken en st').2 = st1 at *
    generalize (taken en st').1 = t at *
    obtain ⟨tk, tt, tp, tq⟩ := t
    simp only [Tv.val] at *
    go_upto_region 4 with fail
    obtain ⟨tb, htb⟩ : ∃ tb, w2.heap.size = tb := ⟨_, rfl⟩
    rw [htb] at M3 HTB ⊢
    generalize w2.alloc (.cells #[.int .i64 tk, .string tt, .int .i64 tp, .int .i64 tq] 95) = W3 at *
    clear htb A3
    obtain ⟨⟨c0, c1, c2, c3⟩, _⟩ := four_cells M3.out
    go_wp2_with fail
    refine (CT.out _ P3.out).mono ?_
    rintro e w4 ⟨rfl, b4, p4⟩
    have P4 := hide p4
    have B4 := hide (B3.out.trans b4)
    have R4 := hide (row_but R3.out b4 (fun g hg e => by have h1 := (R3.out.lt g hg).1; have h2 := HPB.out; have e9 : g = pb := e; omega))
    have M4 := hide (b4.keep M3.out HTB.out)
    clear b4 p4
    clear c0 c1 c2 c3 P3 B3 R3 M3
    obtain ⟨⟨c0, c1, c2, c3⟩, _⟩ := four_cells M4.out
    go_wp2_with fail
    refine (CR.out _ P4.out).mono ?_
    rintro e w5 ⟨rfl, b5, p5⟩
    have P5 := hide p5
    have B5 := hide (B4.out.trans b5)
    have R5 := hide (row_but R4.out b5 (fun g hg e => by have h1 := (R4.out.lt g hg).1; have h2 := HPB.out; have e9 : g = pb := e; omega))
    clear b5 p5 CR CT P4 B4 R4 M4 c0 c1 c2 c3
    have A6 := hide (balloc (brefl w5) (.cells #[.int .i64 (F.num (wd tk tt) 1 65535).1] 3))
    have N6 := hide (heap_new w5 #[.int .i64 (F.num (wd tk tt) 1 65535).1] 3)
    have S6 := hide (row_but R5.out (But.of (S := fun _ => False) A6.out) (fun _ _ h => h))
    have P6 := hide (P5.out.below A6.out)
    have B6 := hide (B5.out.trans (But.of A6.out))
    have HSZ6 : Hid (w.heap.size ≤ (w5.alloc (.cells #[.int .i64 (F.num (wd tk tt) 1 65535).1] 3)).heap.size) := B6.out.size
    have HNB2 := HNB.out
    go_wp2_with (at_builtin; go_must (refine wpList_append_where rfl _ _ 77 rfl w.heap.size 3 i0 (.int .i64 0) 1 8 Tryz.underlying77 hi hz0 hz1 hz2 rfl (by decide) _ _ _ rfl S6.out ⟨w5.heap.size, 0, none⟩ 1 1 [.int .i64 (F.num (wd tk tt) 1 65535).1] rfl rfl ?c1 ?c2 ?c3 ?c4 HSZ6.out ?_))
    case c1 =>
     intro j u hj
     match j, hj with
     | 0, hj => simp at hj; subst hj; simp [Addr.add]
    case c2 => intro u hu; simp at hu; subst hu; rfl
    case c3 => unfold maxLen; omega
    case c4 => omega
    intro v7 w7 o7 g7 l7
    have P7 := hide (P6.out.of (S := fun k => some k = Value.ownBlock (.slice ao N c)) ⟨g7.os, g7.tape, g7.output, g7.size, fun k hk hl => g7.block k hl hk⟩ (fun e => by have h1 := (S6.out.lt pb e.symm).1; have h2 := HPB.out; omega) (fun k e => Nat.le_trans HW0.out (S6.out.lt k e.symm).1))
    have B7 := hide (B6.out.grown g7 (fun k hk => .inr (S6.out.lt k hk).1))
    have HLE7 := hide P7.out.len
    have HGD7 := hide P7.out.gd
    simp only at HLE7 HGD7
    obtain ⟨g8, hS8⟩ := HST.out
    have hS9 := hS8
    rw [HN.out] at hS9
    have HSL : Hid (sliceLen v7 = N + 1) := by
     rcases o7.2 with ⟨hv, h0⟩ | ⟨g, cap, cur, hv, _⟩
     ·
      omega
     rw [hv]; rfl
    have O7 : Hid (w7.ownsRow w.heap.size 3 1 v7 (l ++ [(F.num (wd tk tt) 1 65535).1]).length (ints (l ++ [(F.num (wd tk tt) 1 65535).1]))) := by
     rw [List.length_append, HN.out, show ints (l ++ [(F.num (wd tk tt) 1 65535).1]) = ints l ++ [.int .i64 (F.num (wd tk tt) 1 65535).1] from by simp [ints]]
     exact o7
    clear o7 g7 l7 hS8
    go_wp2_with fail
    refine ⟨⟨l ++ [(F.num (wd tk tt) 1 65535).1], _, g8, O7, P7, hS9, B7⟩, ?_⟩
    rw [HLE7.out, HGD7.out, HSL.out, if_neg (show ¬ N + 1 = 0 by omega), HLE.out, HGD.out]
    show _ < 2 * st'.len + (if sliceLen (.slice ao N c) = 0 then 1 else 0) + st'.gd
    have h9 := HLS.out (if most ≤ N then 2 else 0) ((F.num (wd tk tt) 1 65535).2)
    exact h9
end Go.Proofs.YtnadhplhnfpeaaaGreatDoor
