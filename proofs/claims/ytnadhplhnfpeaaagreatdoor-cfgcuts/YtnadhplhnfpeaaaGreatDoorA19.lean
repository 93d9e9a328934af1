/- Part of the proof. -/
import Derived.Test.YtnadhplhnfpeaaaGreatDoorAZ
import Derived.Test.YtnadhplhnfpeaaaGreatDoorA18
namespace Go.Proofs.YtnadhplhnfpeaaaGreatDoor
open Go.RowKit Go.Sort
theorem option_yes (E : En) (st : Sta) (x : ByteArray) (w : World) (h : Ps E w st) (hq : isW x (headS st) = true) : Calls Tryz.prog 89 #[.pointer (some ⟨E.pb, 0, none⟩), .string x] w fun r w' => r = .returned (.bool true) ∧ But (but1 E.pb) w w' ∧ Ps E w' (taken E.en st).2 := by
 have := option_is E st x w h
 rw [hq, if_pos rfl] at this
 exact this
theorem option_no (E : En) (st : Sta) (x : ByteArray) (w : World) (h : Ps E w st) (hq : isW x (headS st) = false) : Calls Tryz.prog 89 #[.pointer (some ⟨E.pb, 0, none⟩), .string x] w fun r w' => r = .returned (.bool false) ∧ But (but1 E.pb) w w' ∧ Ps E w' st := by
 have := option_is E st x w h
 rw [hq, if_neg (by decide)] at this
 exact this
theorem named_yes (F : Fn) (E : En) (x : ByteArray) (st : Sta) (t : Tv) (s' : Sta) (hq : isW x (headS st) = true) (ht : (taken E.en (taken E.en st).2).1 = t) (hs : faulted t (F.nam (wd t.k t.s)) (taken E.en (taken E.en st).2).2 = s') : (pNamed F x).exec E.en st = (okv t.s s', s') := by
 unfold pNamed
 have h1 := opt_exec E x st
 rw [if_pos hq] at h1
 rw [okv_bind E.en _ _ _ _ _ h1, if_pos rfl, exec_next]
 have ha := taken_at E.en (taken E.en st).2
 have h2 := name_bind F E.en (fun y => Pg.ret y) ha
 have h3 : ∀ {α : Type} (g : Pg α), (g.bind fun y => Pg.ret y) = g := by
  intro α g
  induction g with
  | ret a => rfl
  | fail e => rfl
  | next k ih => simp only [Pg.bind]; congr; funext a b; exact ih a b
  | peek k ih => simp only [Pg.bind]; congr; funext a; exact ih a
 rw [h3] at h2
 rw [h2, ht, hs, exec_ret]
theorem named_no (F : Fn) (E : En) (x : ByteArray) (st : Sta) (hq : isW x (headS st) = false) : (pNamed F x).exec E.en st = (okv (bs []) st, st) := by
 unfold pNamed
 have h1 := opt_exec E x st
 rw [if_neg (by rw [hq]; decide)] at h1
 rw [okv_bind E.en _ _ _ _ _ h1, if_neg (by decide), exec_ret]
theorem opt_both (E : En) (x : ByteArray) (st s' : Sta) (c : Bool) (hc : isW x (headS st) = c) (hs : (if isW x (headS st) = true then (taken E.en st).2 else st) = s') : (pOpt x).exec E.en st = (okv c s', s') := by
 rw [opt_exec]
 cases c with
 | true => rw [if_pos hc] at hs ⊢; rw [hs]
 | false => rw [if_neg (by rw [hc]; decide)] at hs ⊢; rw [hs]
theorem nb_exec (F : Fn) (E : En) (old : List ByteArray) (st s2 s3 s4 s5 : Sta) (s i e : ByteArray) (c : Bool) (h1 : ((pNew F old).exec E.en st).1 = okv s ((pNew F old).exec E.en st).2) (h2 : ((pNew F old).exec E.en st).2 = s2) (h3 : (pNamed F wImport).exec E.en s2 = (okv i s3, s3)) (h4 : (pNamed F wExport).exec E.en s3 = (okv e s4, s4)) (h5 : (pOpt wClient).exec E.en s4 = (okv c s5, s5)) : (pNb F old).exec E.en st = (okv ⟨s, i, e, c⟩ s5, s5) := by
 unfold pNb
 rw [exec_then E.en (pNew F old) _ st s (fun a ha => by rw [h1] at ha; exact okv_some ha), h2, okv_bind E.en _ _ _ _ _ h3, okv_bind E.en _ _ _ _ _ h4, okv_bind E.en _ _ _ _ _ h5, exec_ret]
set_option maxHeartbeats 4000000 in
set_option maxRecDepth 100000 in
theorem neighbor_is {T : World → Prop} {F : Fn} (K : Kit12 T F) (E : En) (o : Oc) (st : Sta) (w : World) (h : Ps E w st) (ho : OcAt E w o) (hl : o.old.length ≤ 10000) : Calls Tryz.prog 73 #[.pointer (some ⟨E.pb, 0, none⟩), o.fn] w fun e w' => ∃ n : Nb, e = .returned (.agg #[.string n.name, .string n.imp, .string n.exp, .bool n.client]) ∧ n.name.size ≤ 1000 ∧ ItTo E o ((pNb F o.old).exec E.en st) w w' n n.name := by
 unfold ItTo
 have A0 := hide (balloc (brefl w) (.cells #[.string ⟨#[]⟩, .string ⟨#[]⟩, .string ⟨#[]⟩, .bool false] 113))
 have R0 := hide (heap_new w #[.string ⟨#[]⟩, .string ⟨#[]⟩, .string ⟨#[]⟩, .bool false] 113)
 have P0 := hide (h.below A0.out)
 have O0 := hide (ho.below A0.out)
 have HOS := hide (ow_of ho (Nat.le_refl _))
 have HPB := hide h.lt
 have HW0 := hide h.1.size
 have CN := hide (fun W hW hO => newName_is K E o st W hW hO hl)
 unfold NewTo at CN
 have HEX := hide (fun s s3 s4 s5 i e c (h1 : ((pNew F o.old).exec E.en st).1 = okv s ((pNew F o.old).exec E.en st).2) h3 h4 h5 => nb_exec F E o.old st _ s3 s4 s5 s i e c h1 rfl h3 h4 h5)
 obtain ⟨R, hR⟩ : ∃ R, (pNb F o.old).exec E.en st = R := ⟨_, rfl⟩
 rw [hR] at HEX ⊢
 clear hR h ho hl
 generalize (pNew F o.old).exec E.en st = RN at *
 obtain ⟨RN1, s2⟩ := RN
 simp only at CN HEX
 have CY := hide (fun s x W (hW : Ps E W s) => option_yes E s x W hW)
 have CO := hide (fun s x W (hW : Ps E W s) => option_no E s x W hW)
 have CI := hide (fun s x W (hW : Ps E W s) => option_is E s x W hW)
 have CX := hide (fun s => next_is E s)
 have CM := hide (fun s t W hW hz => name_is K E s t W hW hz)
 have NY := hide (fun x s t s' => named_yes F E x s t s')
 have NN := hide (fun x s => named_no F E x s)
 have OB := hide (fun x s s' c => opt_both E x s s' c)
 obtain ⟨W0, pb, en⟩ := E
 simp only [Oc.fn] at *
 go_enter Tryz.func73, Tryz.ntmps73
 go_upto_region 1 with fail
 obtain ⟨rb, hrb⟩ : ∃ rb, w.heap.size = rb := ⟨_, rfl⟩
 have HRB : Hid (rb ≠ pb ∧ w.heap.size ≤ rb ∧ W0.heap.size ≤ rb ∧ ¬ o.S rb) := ⟨by have := HPB.out; omega, by omega, by have := HW0.out; omega, by rw [← hrb]; exact HOS.out⟩
 rw [hrb] at R0 ⊢
 have B0 := hide (But.of (S := fun k => k = pb ∨ o.S k) A0.out)
 generalize w.alloc (.cells #[.string ⟨#[]⟩, .string ⟨#[]⟩, .string ⟨#[]⟩, .bool false] 113) = W at *
 clear hrb A0 HOS
 go_wp2_with fail
 refine (CN.out _ P0.out O0.out).mono ?_
 rintro e w1 ⟨s, rfl, hs, rb1, o1, l1, b1, p1, v1⟩
 have HS := hide hs
 have HEY := hide (fun s3 s4 s5 i e c => HEX.out s s3 s4 s5 i e c v1)
 have HL1 : Hid (∀ g, rb1 = some g → o.rb = some g ∨ w.heap.size ≤ g) := fun g hg => (l1 g hg).imp id (fun h => Nat.le_trans B0.out.size h)
 have P1 := hide p1
 have O1 := hide o1
 have B1 := hide (B0.out.trans b1)
 have R1 := hide (b1.keep R0.out (fun e => e.elim HRB.out.1 HRB.out.2.2.2))
 clear b1 p1 o1 v1 l1 hs CN P0 O0 B0 R0 HEX
 go_upto_region 2 with fail
 have a2 := balloc (brefl w1) (.cells #[.string s, .string ⟨#[]⟩, .string ⟨#[]⟩, .bool false] 113)
 have X2 := hide (heap_new w1 #[.string s, .string ⟨#[]⟩, .string ⟨#[]⟩, .bool false] 113)
 have P2 := hide (P1.out.below a2)
 have O2 := hide (O1.out.below a2)
 have B2 := hide (B1.out.trans (But.of a2))
 have R2 := hide ((a2.block rb (heap_lt R1.out)).trans R1.out)
 obtain ⟨xb, hxb⟩ : ∃ xb, w1.heap.size = xb := ⟨_, rfl⟩
 have HXB : Hid (xb ≠ rb ∧ xb ≠ pb ∧ w.heap.size ≤ xb ∧ W0.heap.size ≤ xb) := by have h1 := heap_lt R1.out; have h2 := B1.out.size; have h3 := P1.out.lt; have h4 := P1.out.1.size; simp only at h3 h4; exact ⟨by omega, by omega, by omega, by omega⟩
 rw [hxb] at X2 ⊢
 generalize w1.alloc (.cells #[.string s, .string ⟨#[]⟩, .string ⟨#[]⟩, .bool false] 113) = W2 at *
 clear a2 hxb P1 O1 B1 R1
 cases hqimp : isW wImport (headS s2) with
 | true =>
  have HQimp := hide hqimp
  have CZ := hide (fun W hW => CY.out s2 wImport W hW hqimp)
  unfold wImport at CZ
  clear hqimp
  go_wp2_with fail
  refine (CZ.out _ P2.out).mono ?_
  rintro e w3 ⟨rfl, b, p⟩
  have P3 := hide p
  have O3 := hide (O2.out.but1 P2.out b)
  have B3 := hide (B2.out.trans (b.mono fun k _ e => .inl e))
  have R3 := hide (b.keep R2.out (P2.out.av (by decide) _ _ R2.out))
  have X3 := hide (b.keep X2.out (P2.out.av (by decide) _ _ X2.out))
  clear b p P2 O2 B2 R2 X2
  have HZ := hide (taken_size P3.out)
  go_wp2_with fail
  refine (CX.out _ _ P3.out).mono ?_
  rintro e w4 ⟨rfl, b, p⟩
  have P4 := hide p
  have O4 := hide (O3.out.but1 P3.out b)
  have B4 := hide (B3.out.trans (b.mono fun k _ e => .inl e))
  have R4 := hide (b.keep R3.out (P3.out.av (by decide) _ _ R3.out))
  have X4 := hide (b.keep X3.out (P3.out.av (by decide) _ _ X3.out))
  clear b p P3 O3 B3 R3 X3
  have CZ := hide (fun W hW => CM.out (taken en (taken en s2).2).2 _ W hW HZ.out)
  have HNimp := hide (fun hq => NY.out wImport s2 _ _ hq rfl rfl)
  obtain ⟨timp, htimp⟩ : ∃ t, (taken en (taken en s2).2).1 = t := ⟨_, rfl⟩
  try simp only at CZ HZ HNimp P4
  rw [htimp] at CZ HZ HNimp
  try rw [htimp]
  obtain ⟨simp, hsimp⟩ : ∃ x, faulted timp (F.nam (wd timp.k timp.s)) (taken en (taken en s2).2).2 = x := ⟨_, rfl⟩
  rw [hsimp] at CZ HNimp
  clear htimp hsimp
  obtain ⟨tkimp, ttimp, tpimp, tqimp⟩ := timp
  simp only [Tv.val] at *
  go_wp2_with fail
  refine (CZ.out _ P4.out).mono ?_
  rintro e w5 ⟨rfl, b, p⟩
  have P5 := hide p
  have O5 := hide (O4.out.but1 P4.out b)
  have B5 := hide (B4.out.trans (b.mono fun k _ e => .inl e))
  have R5 := hide (b.keep R4.out (P4.out.av (by decide) _ _ R4.out))
  have X5 := hide (b.keep X4.out (P4.out.av (by decide) _ _ X4.out))
  clear b p P4 O4 B4 R4 X4
  have HVimp := hide (HNimp.out HQimp.out)
  clear CZ HZ HNimp HQimp
  obtain ⟨⟨x0, x1, x2, x3⟩, y0, y1, y2, y3⟩ := four_cells X5.out
  go_upto_region 4 with fail
  have a_ := (But.refl (fun k => k = xb) w5).setCell (p := ⟨xb, 1, none⟩) (.inl rfl) (.string ttimp)
  have X6 := hide (heap_setCell_same _ xb 1 _ 113 (.string ttimp) X5.out)
  have R6 := hide (a_.keep R5.out (fun e => HXB.out.1 e.symm))
  have P6 := hide (P5.out.put (p := ⟨xb, 1, none⟩) HXB.out.2.1 HXB.out.2.2.2 (.string ttimp))
  have O6 := hide (O5.out.put X5.out (by decide) (by decide) (by decide) 1 (.string ttimp))
  have B6 := hide (B5.out.setCell (p := ⟨xb, 1, none⟩) (.inr HXB.out.2.2.1) (.string ttimp))
  clear a_ P5 O5 B5 R5 X5 x0 x1 x2 x3 y0 y1 y2 y3
  generalize w5.setCell ⟨xb, 1, none⟩ (.string ttimp) = w6 at *
  cases hqexp : isW wExport (headS simp) with
  | true =>
   have HQexp := hide hqexp
   have CZ := hide (fun W hW => CY.out simp wExport W hW hqexp)
   unfold wExport at CZ
   clear hqexp
   go_wp2_with fail
   refine (CZ.out _ P6.out).mono ?_
   rintro e w7 ⟨rfl, b, p⟩
   have P7 := hide p
   have O7 := hide (O6.out.but1 P6.out b)
   have B7 := hide (B6.out.trans (b.mono fun k _ e => .inl e))
   have R7 := hide (b.keep R6.out (P6.out.av (by decide) _ _ R6.out))
   have X7 := hide (b.keep X6.out (P6.out.av (by decide) _ _ X6.out))
   clear b p P6 O6 B6 R6 X6
   have HZ := hide (taken_size P7.out)
   go_wp2_with fail
   refine (CX.out _ _ P7.out).mono ?_
   rintro e w8 ⟨rfl, b, p⟩
   have P8 := hide p
   have O8 := hide (O7.out.but1 P7.out b)
   have B8 := hide (B7.out.trans (b.mono fun k _ e => .inl e))
   have R8 := hide (b.keep R7.out (P7.out.av (by decide) _ _ R7.out))
   have X8 := hide (b.keep X7.out (P7.out.av (by decide) _ _ X7.out))
   clear b p P7 O7 B7 R7 X7
   have CZ := hide (fun W hW => CM.out (taken en (taken en simp).2).2 _ W hW HZ.out)
   have HNexp := hide (fun hq => NY.out wExport simp _ _ hq rfl rfl)
   obtain ⟨texp, htexp⟩ : ∃ t, (taken en (taken en simp).2).1 = t := ⟨_, rfl⟩
   try simp only at CZ HZ HNexp P8
   rw [htexp] at CZ HZ HNexp
   try rw [htexp]
   obtain ⟨sexp, hsexp⟩ : ∃ x, faulted texp (F.nam (wd texp.k texp.s)) (taken en (taken en simp).2).2 = x := ⟨_, rfl⟩
   rw [hsexp] at CZ HNexp
   clear htexp hsexp
   obtain ⟨tkexp, ttexp, tpexp, tqexp⟩ := texp
   simp only [] at *
   go_wp2_with fail
   refine (CZ.out _ P8.out).mono ?_
   rintro e w9 ⟨rfl, b, p⟩
   have P9 := hide p
   have O9 := hide (O8.out.but1 P8.out b)
   have B9 := hide (B8.out.trans (b.mono fun k _ e => .inl e))
   have R9 := hide (b.keep R8.out (P8.out.av (by decide) _ _ R8.out))
   have X9 := hide (b.keep X8.out (P8.out.av (by decide) _ _ X8.out))
   clear b p P8 O8 B8 R8 X8
   have HVexp := hide (HNexp.out HQexp.out)
   clear CZ HZ HNexp HQexp
   obtain ⟨⟨x0, x1, x2, x3⟩, y0, y1, y2, y3⟩ := four_cells X9.out
   go_upto_region 6 with fail
   have a_ := (But.refl (fun k => k = xb) w9).setCell (p := ⟨xb, 2, none⟩) (.inl rfl) (.string ttexp)
   have X10 := hide (heap_setCell_same _ xb 2 _ 113 (.string ttexp) X9.out)
   have R10 := hide (a_.keep R9.out (fun e => HXB.out.1 e.symm))
   have P10 := hide (P9.out.put (p := ⟨xb, 2, none⟩) HXB.out.2.1 HXB.out.2.2.2 (.string ttexp))
   have O10 := hide (O9.out.put X9.out (by decide) (by decide) (by decide) 2 (.string ttexp))
   have B10 := hide (B9.out.setCell (p := ⟨xb, 2, none⟩) (.inr HXB.out.2.2.1) (.string ttexp))
   clear a_ P9 O9 B9 R9 X9 x0 x1 x2 x3 y0 y1 y2 y3
   generalize w9.setCell ⟨xb, 2, none⟩ (.string ttexp) = w10 at *
   have CZ := hide (fun W hW => CI.out sexp wClient W hW)
   have HC := hide (fun c s5 => OB.out wClient sexp s5 c)
   obtain ⟨cl, hcl⟩ : ∃ c, isW wClient (headS sexp) = c := ⟨_, rfl⟩
   obtain ⟨s5, hs5⟩ : ∃ s, (if isW wClient (headS sexp) = true then (taken en sexp).2 else sexp) = s := ⟨_, rfl⟩
   try simp only at CZ
   have HC5 := hide (HC.out cl s5 hcl hs5)
   rw [hs5, hcl] at CZ
   clear hs5 hcl HC
   unfold wClient at CZ
   go_wp2_with fail
   refine (CZ.out _ P10.out).mono ?_
   rintro e w11 ⟨rfl, b, p⟩
   have P11 := hide p
   have O11 := hide (O10.out.but1 P10.out b)
   have B11 := hide (B10.out.trans (b.mono fun k _ e => .inl e))
   have R11 := hide (b.keep R10.out (P10.out.av (by decide) _ _ R10.out))
   have X11 := hide (b.keep X10.out (P10.out.av (by decide) _ _ X10.out))
   clear b p P10 O10 B10 R10 X10
   clear CZ
   obtain ⟨⟨x0, x1, x2, x3⟩, y0, y1, y2, y3⟩ := four_cells X11.out
   go_upto_region 7 with fail
   have a_ := (But.refl (fun k => k = xb) w11).setCell (p := ⟨xb, 3, none⟩) (.inl rfl) (.bool cl)
   have X12 := hide (heap_setCell_same _ xb 3 _ 113 (.bool cl) X11.out)
   have R12 := hide (a_.keep R11.out (fun e => HXB.out.1 e.symm))
   have P12 := hide (P11.out.put (p := ⟨xb, 3, none⟩) HXB.out.2.1 HXB.out.2.2.2 (.bool cl))
   have O12 := hide (O11.out.put X11.out (by decide) (by decide) (by decide) 3 (.bool cl))
   have B12 := hide (B11.out.setCell (p := ⟨xb, 3, none⟩) (.inr HXB.out.2.2.1) (.bool cl))
   clear a_ P11 O11 B11 R11 X11 x0 x1 x2 x3 y0 y1 y2 y3
   generalize w11.setCell ⟨xb, 3, none⟩ (.bool cl) = w12 at *
   obtain ⟨⟨x0, x1, x2, x3⟩, _⟩ := four_cells X12.out
   obtain ⟨⟨r0, r1, r2, r3⟩, f0, f1, f2, f3⟩ := four_cells R12.out
   go_wp2_with fail
   have HR := hide (HEY.out _ _ _ _ _ _ HVimp.out HVexp.out HC5.out)
   have RZ := hide (heap_setCell_same _ rb 3 _ 113 (.bool cl) (heap_setCell_same _ rb 2 _ 113 (.string ttexp) (heap_setCell_same _ rb 1 _ 113 (.string ttimp) (heap_setCell_same _ rb 0 _ 113 (.string s) R12.out))))
   refine bodyPost_ret (v := .agg #[.string s, .string ttimp, .string ttexp, .bool cl]) ?_ rfl ⟨⟨s, ttimp, ttexp, cl⟩, rfl, HS.out, rb1, ((((O12.out.put R12.out (by decide) (by decide) (by decide) 0 (.string s)).put (heap_setCell_same _ rb 0 _ 113 (.string s) R12.out) (by decide) (by decide) (by decide) 1 (.string ttimp)).put (heap_setCell_same _ rb 1 _ 113 (.string ttimp) (heap_setCell_same _ rb 0 _ 113 (.string s) R12.out)) (by decide) (by decide) (by decide) 2 (.string ttexp)).put (heap_setCell_same _ rb 2 _ 113 (.string ttexp) (heap_setCell_same _ rb 1 _ 113 (.string ttimp) (heap_setCell_same _ rb 0 _ 113 (.string s) R12.out))) (by decide) (by decide) (by decide) 3 (.bool cl)), HL1.out, ((((B12.out.setCell (p := ⟨rb, 0, none⟩) (.inr HRB.out.2.1) (.string s)).setCell (p := ⟨rb, 1, none⟩) (.inr HRB.out.2.1) (.string ttimp)).setCell (p := ⟨rb, 2, none⟩) (.inr HRB.out.2.1) (.string ttexp)).setCell (p := ⟨rb, 3, none⟩) (.inr HRB.out.2.1) (.bool cl)), ?_, ?_⟩
   ·
    obtain ⟨⟨t0, t1, t2, t3⟩, _⟩ := four_cells RZ.out
    simp [results, Tryz.results73, go_sem, t0, t1, t2, t3]
   ·
    rw [HR.out]
    exact ((((P12.out.put (p := ⟨rb, 0, none⟩) HRB.out.1 HRB.out.2.2.1 (.string s)).put (p := ⟨rb, 1, none⟩) HRB.out.1 HRB.out.2.2.1 (.string ttimp)).put (p := ⟨rb, 2, none⟩) HRB.out.1 HRB.out.2.2.1 (.string ttexp)).put (p := ⟨rb, 3, none⟩) HRB.out.1 HRB.out.2.2.1 (.bool cl))
   intro a ha
   rw [HR.out] at ha
   exact okv_some ha
  | false =>
   have HVexp := hide (NN.out wExport simp hqexp)
   have CZ := hide (fun W hW => CO.out simp wExport W hW hqexp)
   unfold wExport at CZ
   clear hqexp
   go_wp2_with fail
   refine (CZ.out _ P6.out).mono ?_
   rintro e w7 ⟨rfl, b, p⟩
   have P7 := hide p
   have O7 := hide (O6.out.but1 P6.out b)
   have B7 := hide (B6.out.trans (b.mono fun k _ e => .inl e))
   have R7 := hide (b.keep R6.out (P6.out.av (by decide) _ _ R6.out))
   have X7 := hide (b.keep X6.out (P6.out.av (by decide) _ _ X6.out))
   clear b p P6 O6 B6 R6 X6
   clear CZ
   go_upto_region 6 with fail
   have CZ := hide (fun W hW => CI.out simp wClient W hW)
   have HC := hide (fun c s5 => OB.out wClient simp s5 c)
   obtain ⟨cl, hcl⟩ : ∃ c, isW wClient (headS simp) = c := ⟨_, rfl⟩
   obtain ⟨s5, hs5⟩ : ∃ s, (if isW wClient (headS simp) = true then (taken en simp).2 else simp) = s := ⟨_, rfl⟩
   try simp only at CZ
   have HC5 := hide (HC.out cl s5 hcl hs5)
   rw [hs5, hcl] at CZ
   clear hs5 hcl HC
   unfold wClient at CZ
   go_wp2_with fail
   refine (CZ.out _ P7.out).mono ?_
   rintro e w8 ⟨rfl, b, p⟩
   have P8 := hide p
   have O8 := hide (O7.out.but1 P7.out b)
   have B8 := hide (B7.out.trans (b.mono fun k _ e => .inl e))
   have R8 := hide (b.keep R7.out (P7.out.av (by decide) _ _ R7.out))
   have X8 := hide (b.keep X7.out (P7.out.av (by decide) _ _ X7.out))
   clear b p P7 O7 B7 R7 X7
   clear CZ
   obtain ⟨⟨x0, x1, x2, x3⟩, y0, y1, y2, y3⟩ := four_cells X8.out
   go_upto_region 7 with fail
   have a_ := (But.refl (fun k => k = xb) w8).setCell (p := ⟨xb, 3, none⟩) (.inl rfl) (.bool cl)
   have X9 := hide (heap_setCell_same _ xb 3 _ 113 (.bool cl) X8.out)
   have R9 := hide (a_.keep R8.out (fun e => HXB.out.1 e.symm))
   have P9 := hide (P8.out.put (p := ⟨xb, 3, none⟩) HXB.out.2.1 HXB.out.2.2.2 (.bool cl))
   have O9 := hide (O8.out.put X8.out (by decide) (by decide) (by decide) 3 (.bool cl))
   have B9 := hide (B8.out.setCell (p := ⟨xb, 3, none⟩) (.inr HXB.out.2.2.1) (.bool cl))
   clear a_ P8 O8 B8 R8 X8 x0 x1 x2 x3 y0 y1 y2 y3
   generalize w8.setCell ⟨xb, 3, none⟩ (.bool cl) = w9 at *
   obtain ⟨⟨x0, x1, x2, x3⟩, _⟩ := four_cells X9.out
   obtain ⟨⟨r0, r1, r2, r3⟩, f0, f1, f2, f3⟩ := four_cells R9.out
   go_wp2_with fail
   have HR := hide (HEY.out _ _ _ _ _ _ HVimp.out HVexp.out HC5.out)
   have RZ := hide (heap_setCell_same _ rb 3 _ 113 (.bool cl) (heap_setCell_same _ rb 2 _ 113 (.string ⟨#[]⟩) (heap_setCell_same _ rb 1 _ 113 (.string ttimp) (heap_setCell_same _ rb 0 _ 113 (.string s) R9.out))))
   refine bodyPost_ret (v := .agg #[.string s, .string ttimp, .string ⟨#[]⟩, .bool cl]) ?_ rfl ⟨⟨s, ttimp, (bs []), cl⟩, rfl, HS.out, rb1, ((((O9.out.put R9.out (by decide) (by decide) (by decide) 0 (.string s)).put (heap_setCell_same _ rb 0 _ 113 (.string s) R9.out) (by decide) (by decide) (by decide) 1 (.string ttimp)).put (heap_setCell_same _ rb 1 _ 113 (.string ttimp) (heap_setCell_same _ rb 0 _ 113 (.string s) R9.out)) (by decide) (by decide) (by decide) 2 (.string ⟨#[]⟩)).put (heap_setCell_same _ rb 2 _ 113 (.string ⟨#[]⟩) (heap_setCell_same _ rb 1 _ 113 (.string ttimp) (heap_setCell_same _ rb 0 _ 113 (.string s) R9.out))) (by decide) (by decide) (by decide) 3 (.bool cl)), HL1.out, ((((B9.out.setCell (p := ⟨rb, 0, none⟩) (.inr HRB.out.2.1) (.string s)).setCell (p := ⟨rb, 1, none⟩) (.inr HRB.out.2.1) (.string ttimp)).setCell (p := ⟨rb, 2, none⟩) (.inr HRB.out.2.1) (.string ⟨#[]⟩)).setCell (p := ⟨rb, 3, none⟩) (.inr HRB.out.2.1) (.bool cl)), ?_, ?_⟩
   ·
    obtain ⟨⟨t0, t1, t2, t3⟩, _⟩ := four_cells RZ.out
    simp [results, Tryz.results73, go_sem, t0, t1, t2, t3]
   ·
    rw [HR.out]
    exact ((((P9.out.put (p := ⟨rb, 0, none⟩) HRB.out.1 HRB.out.2.2.1 (.string s)).put (p := ⟨rb, 1, none⟩) HRB.out.1 HRB.out.2.2.1 (.string ttimp)).put (p := ⟨rb, 2, none⟩) HRB.out.1 HRB.out.2.2.1 (.string ⟨#[]⟩)).put (p := ⟨rb, 3, none⟩) HRB.out.1 HRB.out.2.2.1 (.bool cl))
   intro a ha
   rw [HR.out] at ha
   exact okv_some ha
 | false =>
  have HVimp := hide (NN.out wImport s2 hqimp)
  have CZ := hide (fun W hW => CO.out s2 wImport W hW hqimp)
  unfold wImport at CZ
  clear hqimp
  go_wp2_with fail
  refine (CZ.out _ P2.out).mono ?_
  rintro e w3 ⟨rfl, b, p⟩
  have P3 := hide p
  have O3 := hide (O2.out.but1 P2.out b)
  have B3 := hide (B2.out.trans (b.mono fun k _ e => .inl e))
  have R3 := hide (b.keep R2.out (P2.out.av (by decide) _ _ R2.out))
  have X3 := hide (b.keep X2.out (P2.out.av (by decide) _ _ X2.out))
  clear b p P2 O2 B2 R2 X2
  clear CZ
  go_upto_region 4 with fail
  cases hqexp : isW wExport (headS s2) with
  | true =>
   have HQexp := hide hqexp
   have CZ := hide (fun W hW => CY.out s2 wExport W hW hqexp)
   unfold wExport at CZ
   clear hqexp
   go_wp2_with fail
   refine (CZ.out _ P3.out).mono ?_
   rintro e w4 ⟨rfl, b, p⟩
   have P4 := hide p
   have O4 := hide (O3.out.but1 P3.out b)
   have B4 := hide (B3.out.trans (b.mono fun k _ e => .inl e))
   have R4 := hide (b.keep R3.out (P3.out.av (by decide) _ _ R3.out))
   have X4 := hide (b.keep X3.out (P3.out.av (by decide) _ _ X3.out))
   clear b p P3 O3 B3 R3 X3
   have HZ := hide (taken_size P4.out)
   go_wp2_with fail
   refine (CX.out _ _ P4.out).mono ?_
   rintro e w5 ⟨rfl, b, p⟩
   have P5 := hide p
   have O5 := hide (O4.out.but1 P4.out b)
   have B5 := hide (B4.out.trans (b.mono fun k _ e => .inl e))
   have R5 := hide (b.keep R4.out (P4.out.av (by decide) _ _ R4.out))
   have X5 := hide (b.keep X4.out (P4.out.av (by decide) _ _ X4.out))
   clear b p P4 O4 B4 R4 X4
   have CZ := hide (fun W hW => CM.out (taken en (taken en s2).2).2 _ W hW HZ.out)
   have HNexp := hide (fun hq => NY.out wExport s2 _ _ hq rfl rfl)
   obtain ⟨texp, htexp⟩ : ∃ t, (taken en (taken en s2).2).1 = t := ⟨_, rfl⟩
   try simp only at CZ HZ HNexp P5
   rw [htexp] at CZ HZ HNexp
   try rw [htexp]
   obtain ⟨sexp, hsexp⟩ : ∃ x, faulted texp (F.nam (wd texp.k texp.s)) (taken en (taken en s2).2).2 = x := ⟨_, rfl⟩
   rw [hsexp] at CZ HNexp
   clear htexp hsexp
   obtain ⟨tkexp, ttexp, tpexp, tqexp⟩ := texp
   simp only [Tv.val] at *
   go_wp2_with fail
   refine (CZ.out _ P5.out).mono ?_
   rintro e w6 ⟨rfl, b, p⟩
   have P6 := hide p
   have O6 := hide (O5.out.but1 P5.out b)
   have B6 := hide (B5.out.trans (b.mono fun k _ e => .inl e))
   have R6 := hide (b.keep R5.out (P5.out.av (by decide) _ _ R5.out))
   have X6 := hide (b.keep X5.out (P5.out.av (by decide) _ _ X5.out))
   clear b p P5 O5 B5 R5 X5
   have HVexp := hide (HNexp.out HQexp.out)
   clear CZ HZ HNexp HQexp
   obtain ⟨⟨x0, x1, x2, x3⟩, y0, y1, y2, y3⟩ := four_cells X6.out
   go_upto_region 6 with fail
   have a_ := (But.refl (fun k => k = xb) w6).setCell (p := ⟨xb, 2, none⟩) (.inl rfl) (.string ttexp)
   have X7 := hide (heap_setCell_same _ xb 2 _ 113 (.string ttexp) X6.out)
   have R7 := hide (a_.keep R6.out (fun e => HXB.out.1 e.symm))
   have P7 := hide (P6.out.put (p := ⟨xb, 2, none⟩) HXB.out.2.1 HXB.out.2.2.2 (.string ttexp))
   have O7 := hide (O6.out.put X6.out (by decide) (by decide) (by decide) 2 (.string ttexp))
   have B7 := hide (B6.out.setCell (p := ⟨xb, 2, none⟩) (.inr HXB.out.2.2.1) (.string ttexp))
   clear a_ P6 O6 B6 R6 X6 x0 x1 x2 x3 y0 y1 y2 y3
   generalize w6.setCell ⟨xb, 2, none⟩ (.string ttexp) = w7 at *
   have CZ := hide (fun W hW => CI.out sexp wClient W hW)
   have HC := hide (fun c s5 => OB.out wClient sexp s5 c)
   obtain ⟨cl, hcl⟩ : ∃ c, isW wClient (headS sexp) = c := ⟨_, rfl⟩
   obtain ⟨s5, hs5⟩ : ∃ s, (if isW wClient (headS sexp) = true then (taken en sexp).2 else sexp) = s := ⟨_, rfl⟩
   try simp only at CZ
   have HC5 := hide (HC.out cl s5 hcl hs5)
   rw [hs5, hcl] at CZ
   clear hs5 hcl HC
   unfold wClient at CZ
   go_wp2_with fail
   refine (CZ.out _ P7.out).mono ?_
   rintro e w8 ⟨rfl, b, p⟩
   have P8 := hide p
   have O8 := hide (O7.out.but1 P7.out b)
   have B8 := hide (B7.out.trans (b.mono fun k _ e => .inl e))
   have R8 := hide (b.keep R7.out (P7.out.av (by decide) _ _ R7.out))
   have X8 := hide (b.keep X7.out (P7.out.av (by decide) _ _ X7.out))
   clear b p P7 O7 B7 R7 X7
   clear CZ
   obtain ⟨⟨x0, x1, x2, x3⟩, y0, y1, y2, y3⟩ := four_cells X8.out
   go_upto_region 7 with fail
   have a_ := (But.refl (fun k => k = xb) w8).setCell (p := ⟨xb, 3, none⟩) (.inl rfl) (.bool cl)
   have X9 := hide (heap_setCell_same _ xb 3 _ 113 (.bool cl) X8.out)
   have R9 := hide (a_.keep R8.out (fun e => HXB.out.1 e.symm))
   have P9 := hide (P8.out.put (p := ⟨xb, 3, none⟩) HXB.out.2.1 HXB.out.2.2.2 (.bool cl))
   have O9 := hide (O8.out.put X8.out (by decide) (by decide) (by decide) 3 (.bool cl))
   have B9 := hide (B8.out.setCell (p := ⟨xb, 3, none⟩) (.inr HXB.out.2.2.1) (.bool cl))
   clear a_ P8 O8 B8 R8 X8 x0 x1 x2 x3 y0 y1 y2 y3
   generalize w8.setCell ⟨xb, 3, none⟩ (.bool cl) = w9 at *
   obtain ⟨⟨x0, x1, x2, x3⟩, _⟩ := four_cells X9.out
   obtain ⟨⟨r0, r1, r2, r3⟩, f0, f1, f2, f3⟩ := four_cells R9.out
   go_wp2_with fail
   have HR := hide (HEY.out _ _ _ _ _ _ HVimp.out HVexp.out HC5.out)
   have RZ := hide (heap_setCell_same _ rb 3 _ 113 (.bool cl) (heap_setCell_same _ rb 2 _ 113 (.string ttexp) (heap_setCell_same _ rb 1 _ 113 (.string ⟨#[]⟩) (heap_setCell_same _ rb 0 _ 113 (.string s) R9.out))))
   refine bodyPost_ret (v := .agg #[.string s, .string ⟨#[]⟩, .string ttexp, .bool cl]) ?_ rfl ⟨⟨s, (bs []), ttexp, cl⟩, rfl, HS.out, rb1, ((((O9.out.put R9.out (by decide) (by decide) (by decide) 0 (.string s)).put (heap_setCell_same _ rb 0 _ 113 (.string s) R9.out) (by decide) (by decide) (by decide) 1 (.string ⟨#[]⟩)).put (heap_setCell_same _ rb 1 _ 113 (.string ⟨#[]⟩) (heap_setCell_same _ rb 0 _ 113 (.string s) R9.out)) (by decide) (by decide) (by decide) 2 (.string ttexp)).put (heap_setCell_same _ rb 2 _ 113 (.string ttexp) (heap_setCell_same _ rb 1 _ 113 (.string ⟨#[]⟩) (heap_setCell_same _ rb 0 _ 113 (.string s) R9.out))) (by decide) (by decide) (by decide) 3 (.bool cl)), HL1.out, ((((B9.out.setCell (p := ⟨rb, 0, none⟩) (.inr HRB.out.2.1) (.string s)).setCell (p := ⟨rb, 1, none⟩) (.inr HRB.out.2.1) (.string ⟨#[]⟩)).setCell (p := ⟨rb, 2, none⟩) (.inr HRB.out.2.1) (.string ttexp)).setCell (p := ⟨rb, 3, none⟩) (.inr HRB.out.2.1) (.bool cl)), ?_, ?_⟩
   ·
    obtain ⟨⟨t0, t1, t2, t3⟩, _⟩ := four_cells RZ.out
    simp [results, Tryz.results73, go_sem, t0, t1, t2, t3]
   ·
    rw [HR.out]
    exact ((((P9.out.put (p := ⟨rb, 0, none⟩) HRB.out.1 HRB.out.2.2.1 (.string s)).put (p := ⟨rb, 1, none⟩) HRB.out.1 HRB.out.2.2.1 (.string ⟨#[]⟩)).put (p := ⟨rb, 2, none⟩) HRB.out.1 HRB.out.2.2.1 (.string ttexp)).put (p := ⟨rb, 3, none⟩) HRB.out.1 HRB.out.2.2.1 (.bool cl))
   intro a ha
   rw [HR.out] at ha
   exact okv_some ha
  | false =>
   have HVexp := hide (NN.out wExport s2 hqexp)
   have CZ := hide (fun W hW => CO.out s2 wExport W hW hqexp)
   unfold wExport at CZ
   clear hqexp
   go_wp2_with fail
   refine (CZ.out _ P3.out).mono ?_
   rintro e w4 ⟨rfl, b, p⟩
   have P4 := hide p
   have O4 := hide (O3.out.but1 P3.out b)
   have B4 := hide (B3.out.trans (b.mono fun k _ e => .inl e))
   have R4 := hide (b.keep R3.out (P3.out.av (by decide) _ _ R3.out))
   have X4 := hide (b.keep X3.out (P3.out.av (by decide) _ _ X3.out))
   clear b p P3 O3 B3 R3 X3
   clear CZ
   go_upto_region 6 with fail
   have CZ := hide (fun W hW => CI.out s2 wClient W hW)
   have HC := hide (fun c s5 => OB.out wClient s2 s5 c)
   obtain ⟨cl, hcl⟩ : ∃ c, isW wClient (headS s2) = c := ⟨_, rfl⟩
   obtain ⟨s5, hs5⟩ : ∃ s, (if isW wClient (headS s2) = true then (taken en s2).2 else s2) = s := ⟨_, rfl⟩
   try simp only at CZ
   have HC5 := hide (HC.out cl s5 hcl hs5)
   rw [hs5, hcl] at CZ
   clear hs5 hcl HC
   unfold wClient at CZ
   go_wp2_with fail
   refine (CZ.out _ P4.out).mono ?_
   rintro e w5 ⟨rfl, b, p⟩
   have P5 := hide p
   have O5 := hide (O4.out.but1 P4.out b)
   have B5 := hide (B4.out.trans (b.mono fun k _ e => .inl e))
   have R5 := hide (b.keep R4.out (P4.out.av (by decide) _ _ R4.out))
   have X5 := hide (b.keep X4.out (P4.out.av (by decide) _ _ X4.out))
   clear b p P4 O4 B4 R4 X4
   clear CZ
   obtain ⟨⟨x0, x1, x2, x3⟩, y0, y1, y2, y3⟩ := four_cells X5.out
   go_upto_region 7 with fail
   have a_ := (But.refl (fun k => k = xb) w5).setCell (p := ⟨xb, 3, none⟩) (.inl rfl) (.bool cl)
   have X6 := hide (heap_setCell_same _ xb 3 _ 113 (.bool cl) X5.out)
   have R6 := hide (a_.keep R5.out (fun e => HXB.out.1 e.symm))
   have P6 := hide (P5.out.put (p := ⟨xb, 3, none⟩) HXB.out.2.1 HXB.out.2.2.2 (.bool cl))
   have O6 := hide (O5.out.put X5.out (by decide) (by decide) (by decide) 3 (.bool cl))
   have B6 := hide (B5.out.setCell (p := ⟨xb, 3, none⟩) (.inr HXB.out.2.2.1) (.bool cl))
   clear a_ P5 O5 B5 R5 X5 x0 x1 x2 x3 y0 y1 y2 y3
   generalize w5.setCell ⟨xb, 3, none⟩ (.bool cl) = w6 at *
   obtain ⟨⟨x0, x1, x2, x3⟩, _⟩ := four_cells X6.out
   obtain ⟨⟨r0, r1, r2, r3⟩, f0, f1, f2, f3⟩ := four_cells R6.out
   go_wp2_with fail
   have HR := hide (HEY.out _ _ _ _ _ _ HVimp.out HVexp.out HC5.out)
   have RZ := hide (heap_setCell_same _ rb 3 _ 113 (.bool cl) (heap_setCell_same _ rb 2 _ 113 (.string ⟨#[]⟩) (heap_setCell_same _ rb 1 _ 113 (.string ⟨#[]⟩) (heap_setCell_same _ rb 0 _ 113 (.string s) R6.out))))
   refine bodyPost_ret (v := .agg #[.string s, .string ⟨#[]⟩, .string ⟨#[]⟩, .bool cl]) ?_ rfl ⟨⟨s, (bs []), (bs []), cl⟩, rfl, HS.out, rb1, ((((O6.out.put R6.out (by decide) (by decide) (by decide) 0 (.string s)).put (heap_setCell_same _ rb 0 _ 113 (.string s) R6.out) (by decide) (by decide) (by decide) 1 (.string ⟨#[]⟩)).put (heap_setCell_same _ rb 1 _ 113 (.string ⟨#[]⟩) (heap_setCell_same _ rb 0 _ 113 (.string s) R6.out)) (by decide) (by decide) (by decide) 2 (.string ⟨#[]⟩)).put (heap_setCell_same _ rb 2 _ 113 (.string ⟨#[]⟩) (heap_setCell_same _ rb 1 _ 113 (.string ⟨#[]⟩) (heap_setCell_same _ rb 0 _ 113 (.string s) R6.out))) (by decide) (by decide) (by decide) 3 (.bool cl)), HL1.out, ((((B6.out.setCell (p := ⟨rb, 0, none⟩) (.inr HRB.out.2.1) (.string s)).setCell (p := ⟨rb, 1, none⟩) (.inr HRB.out.2.1) (.string ⟨#[]⟩)).setCell (p := ⟨rb, 2, none⟩) (.inr HRB.out.2.1) (.string ⟨#[]⟩)).setCell (p := ⟨rb, 3, none⟩) (.inr HRB.out.2.1) (.bool cl)), ?_, ?_⟩
   ·
    obtain ⟨⟨t0, t1, t2, t3⟩, _⟩ := four_cells RZ.out
    simp [results, Tryz.results73, go_sem, t0, t1, t2, t3]
   ·
    rw [HR.out]
    exact ((((P6.out.put (p := ⟨rb, 0, none⟩) HRB.out.1 HRB.out.2.2.1 (.string s)).put (p := ⟨rb, 1, none⟩) HRB.out.1 HRB.out.2.2.1 (.string ⟨#[]⟩)).put (p := ⟨rb, 2, none⟩) HRB.out.1 HRB.out.2.2.1 (.string ⟨#[]⟩)).put (p := ⟨rb, 3, none⟩) HRB.out.1 HRB.out.2.2.1 (.bool cl))
   intro a ha
   rw [HR.out] at ha
   exact okv_some ha
end Go.Proofs.YtnadhplhnfpeaaaGreatDoor
