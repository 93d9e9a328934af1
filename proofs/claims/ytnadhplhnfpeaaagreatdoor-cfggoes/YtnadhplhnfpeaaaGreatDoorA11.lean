/- Part of the proof. -/
import Derived.Test.YtnadhplhnfpeaaaGreatDoorAZ
import Derived.Test.YtnadhplhnfpeaaaGreatDoorA10
namespace Go.Proofs.YtnadhplhnfpeaaaGreatDoor
open Go.RowKit Go.Sort
theorem once_exec (en : Int × Int) (old : List ByteArray) (s : ByteArray) {t : Tv} {st : Sta} (h : At t st) : (once old s).exec en st = (okv (old ++ [s]) (faulted t (if inB old s = true then 6 else 0) st), faulted t (if inB old s = true then 6 else 0) st) := by
 unfold once
 rw [exec_if en h (by decide), exec_ret]
theorem told_exec {α : Type} (en : Int × Int) (old : List ByteArray) (s : ByteArray) (k : List ByteArray → Pg α) {t : Tv} {st : Sta} (h : At t st) : ((once old s).bind k).exec en st = (k (old ++ [s])).exec en (faulted t (if inB old s = true then 6 else 0) st) := okv_bind en _ _ _ _ _ (once_exec en old s h)
theorem name_bind {α : Type} (F : Fn) (en : Int × Int) (h : ByteArray → Pg α) {t : Tv} {st : Sta} (ha : At t st) : ((pName F t.k t.s).bind h).exec en st = (h t.s).exec en (faulted t (F.nam (wd t.k t.s)) st) := by
 unfold pName
 rw [bind_assoc, exec_chk en ha]
 rfl
theorem num_bind {α : Type} (F : Fn) (a b : Int) (en : Int × Int) (h : Int → Pg α) {t : Tv} {st : Sta} (ha : At t st) : ((pNum F a b t.k t.s).bind h).exec en st = (h (F.num (wd t.k t.s) a b).1).exec en (faulted t (F.num (wd t.k t.s) a b).2 st) := by
 unfold pNum
 rw [bind_assoc, exec_chk en ha]
 rfl
theorem com_bind {α : Type} (F : Fn) (en : Int × Int) (h : Int × Int → Pg α) {t : Tv} {st : Sta} (ha : At t st) : ((pCom F t.k t.s).bind h).exec en st = (h ((F.com (wd t.k t.s)).1, (F.com (wd t.k t.s)).2.1)).exec en (faulted t (F.com (wd t.k t.s)).2.2 st) := by
 unfold pCom
 rw [bind_assoc, exec_chk en ha]
 rfl
theorem asr_bind {α : Type} (F : Fn) (en : Int × Int) (h : ByteArray → Pg α) {t : Tv} {st : Sta} (ha : At t st) : ((pAsr F t.k t.s).bind h).exec en st = (h t.s).exec en (faulted t (F.asr t.s) (faulted t (if t.k = 1 then 0 else 4) st)) := by
 unfold pAsr
 rw [bind_assoc, exec_chk en ha]
 show (((chk (F.asr t.s)).bind _).bind h).exec en _ = _
 rw [bind_assoc, exec_chk en (faulted_at ha)]
 rfl
def orgV (x : ByteArray) : Int := if x = wIgp then (0 : Int) else (if x = wEgp then 1 else (if x = wNone then 2 else -1))
def orgE (x : ByteArray) : Int := if x = wIgp then (0 : Int) else (if x = wEgp then 0 else (if x = wNone then 0 else 4))
theorem org_bind {α : Type} (en : Int × Int) (h : Int → Pg α) {t : Tv} {st : Sta} (ha : At t st) : ((pOrg t.k t.s).bind h).exec en st = (h (orgV (wd t.k t.s))).exec en (faulted t (orgE (wd t.k t.s)) st) := by
 refine okv_bind en _ _ _ _ _ ?_
 unfold pOrg orgV orgE
 by_cases h1 : wd t.k t.s = wIgp
 ·
  simp only [if_pos h1]
  rw [faulted_zero, exec_ret]
 simp only [if_neg h1]
 by_cases h2 : wd t.k t.s = wEgp
 ·
  simp only [if_pos h2]
  rw [faulted_zero, exec_ret]
 simp only [if_neg h2]
 by_cases h3 : wd t.k t.s = wNone
 ·
  simp only [if_pos h3]
  rw [faulted_zero, exec_ret]
 simp only [if_neg h3]
 rw [exec_fail en ha (by decide)]
 cases st with
 | good r l => rfl
 | bad p q e => rfl
def Av (w : World) (S : Nat → Prop) (t : Nat) : Prop := ∀ k cs, w.heap[k]? = some (.cells cs t (0, 0)) → ¬ S k
theorem Ps.av {E : En} {w : World} {st : Sta} (h : Ps E w st) {t : Nat} (ht : t ≠ 62) : Av w (but1 E.pb) t := fun k cs hk e => by
  obtain ⟨_, _, ao, n, c, a1, a2, e0, hg, _⟩ := h
  cases e
  rw [hg] at hk
  cases hk
  exact ht rfl
theorem OcAt.av {E : En} {w : World} {o : Oc} (h : OcAt E w o) {t : Nat} (h1 : t ≠ 126) (h2 : t ≠ 9) : Av w o.S t := fun k cs hk e => by
  rcases e with rfl | e
  · obtain ⟨v, r1, _⟩ := h.row
    rw [r1] at hk
    cases hk
    exact h1 rfl
  · exact h.other hk h2 e
theorem av_or {w : World} {S S' : Nat → Prop} {t : Nat} (h1 : Av w S t) (h2 : Av w S' t) : Av w (fun k => S k ∨ S' k) t := fun k cs hk e => e.elim (h1 k cs hk) (h2 k cs hk)
theorem own_cells {w : World} {B e z n : Nat} {v : Value} {xs : List Value} (h : w.ownsRow B e z v n xs) : ∀ g, v.ownBlock = some g → ∃ cs, w.heap[g]? = some (.cells cs e (0, 0)) := by
 intro g hg
 rcases h.2 with ⟨hv, _⟩ | ⟨g', cap, cur, hv, _, hg', _⟩
 ·
  rw [hv] at hg; cases hg
 rw [hv] at hg
 obtain rfl : g' = g := by simpa [Value.ownBlock] using hg
 exact ⟨_, hg'⟩
theorem row_av {w w' : World} {S : Nat → Prop} {B e z n : Nat} {v : Value} {xs : List Value} (h : w.ownsRow B e z v n xs) (hb : But S w w') (ha : Av w S e) : w'.ownsRow B e z v n xs := row_but h hb fun g hg => by
  obtain ⟨cs, hc⟩ := own_cells h g hg
  exact ha g cs hc
theorem OcAt.put {E : En} {w : World} {o : Oc} (h : OcAt E w o) {g t : Nat} {cs : Array Value} (hg : w.heap[g]? = some (.cells cs t (0, 0))) (h1 : t ≠ 126) (h2 : t ≠ 9) (h3 : t ≠ 59) (j : Nat) (v : Value) : OcAt E (w.setCell ⟨g, j, none⟩ v) o := by
 refine h.of ((But.refl (fun k => k = g) w).setCell (p := ⟨g, j, none⟩) (.inl rfl) v) (fun e => h.av h1 h2 g cs hg (.inl e.symm)) (fun e => ?_) (fun k hk e => ?_)
 ·
  have hx := h.box
  have e' : o.bx = g := e
  rw [e', hg] at hx
  cases hx
  exact h3 rfl
 have e' : k = g := e
 subst e'
 exact h.av h1 h2 k cs hg (.inr hk)
def MtAt (w : World) (mb : Nat) (m : Mt) : Prop := w.heap[mb]? = some (.cells #[.string m.list, .string m.path, .int .i64 m.ca, .int .i64 m.cn] 75 (0, 0))
def SeAt (w : World) (N sb : Nat) (s : Se) : Prop := ∃ va vd vp, w.heap[sb]? = some (.cells #[.int .i64 s.pref, .int .i64 s.med, .int .i64 s.org, va, vd, .bool s.clr, vp] 79 (0, 0)) ∧ w.ownsRow N 73 2 va s.add.length (prs s.add) ∧ w.ownsRow N 73 2 vd s.del.length (prs s.del) ∧ w.ownsRow N 3 1 vp s.prep.length (ints s.prep)
theorem MtAt.keep {w w' : World} {mb : Nat} {m : Mt} (h : MtAt w mb m) {S : Nat → Prop} (hb : But S w w') (ha : Av w S 75) : MtAt w' mb m := hb.keep h (ha mb _ h)
theorem SeAt.keep {w w' : World} {N sb : Nat} {s : Se} (h : SeAt w N sb s) {S : Nat → Prop} (hb : But S w w') (h1 : Av w S 79) (h2 : Av w S 73) (h3 : Av w S 3) : SeAt w' N sb s := by
 obtain ⟨va, vd, vp, r0, r1, r2, r3⟩ := h
 exact ⟨va, vd, vp, hb.keep r0 (h1 sb _ r0), row_av r1 hb h2, row_av r2 hb h2, row_av r3 hb h3⟩
def MatchTo (E : En) (o : Oc) (mb : Nat) (c : Cs) (R : Option Cs × Sta) (w w' : World) : Prop := ∃ m' old' rb', MtAt w' mb m' ∧ OcAt E w' ⟨o.oc, o.bx, old', rb'⟩ ∧ (∀ g, rb' = some g → o.rb = some g ∨ w.heap.size ≤ g) ∧ But (fun k => (k = E.pb ∨ k = mb) ∨ o.S k) w w' ∧ Ps E w' R.2 ∧ ∀ a, R.1 = some a → (⟨m', c.s, old', c.ss⟩ : Cs) = a
def SetTo (E : En) (o : Oc) (N sb : Nat) (c : Cs) (R : Option Cs × Sta) (w w' : World) : Prop := ∃ s' old' rb', SeAt w' N sb s' ∧ OcAt E w' ⟨o.oc, o.bx, old', rb'⟩ ∧ (∀ g, rb' = some g → o.rb = some g ∨ w.heap.size ≤ g) ∧ But (fun k => (k = E.pb ∨ k = sb) ∨ o.S k) w w' ∧ Ps E w' R.2 ∧ ∀ a, R.1 = some a → (⟨c.m, s', c.ms, old'⟩ : Cs) = a
set_option maxHeartbeats 4000000 in
set_option maxRecDepth 100000 in
theorem match_is {T : World → Prop} {F : Fn} (K : Kit12 T F) (E : En) (hT : T E.w0) (o : Oc) (mb : Nat) (c : Cs) (st : Sta) (w : World) (h : Ps E w st) (ho : OcAt E w o) (hm : MtAt w mb c.m) (hb : E.w0.heap.size ≤ mb ∧ mb ≠ E.pb) (hc : o.old = c.ms) (hl : o.old.length ≤ 10000) : Calls Tryz.prog 94 #[.pointer (some ⟨E.pb, 0, none⟩), .pointer (some ⟨mb, 0, none⟩), o.fn] w fun e w' => e = .returned (.tuple #[]) ∧ MatchTo E o mb c ((pMatch F c).exec E.en st) w w' := by
 unfold MatchTo
 have CN := hide (next_is E st w h)
 have HPB := hide h.lt
 have HW0 := hide h.1.size
 have CW := hide (word_is (taken E.en st).1)
 have CO := hide (fun W hW (hO : OcAt E W o) => once_call E o (taken E.en st).1 (taken E.en st).2 W hW hO hl)
 unfold OnceTo at CO
 have CF := hide (fault_is E (taken E.en st).2 (taken E.en st).1 4)
 obtain ⟨R, hR⟩ : ∃ R, (pMatch F c).exec E.en st = R := ⟨_, rfl⟩
 rw [hR]
 have HTA := hide (taken_at E.en st)
 rw [pMatch, exec_next, ← hc] at hR
 have HR := hide hR
 have HO := hide ho
 have HM := hide hm
 have HB := hide hb
 have H := hide h
 clear hR ho hm hb h
 generalize (taken E.en st).2 = st1 at *
 generalize (taken E.en st).1 = t at *
 obtain ⟨st2, hst2⟩ : ∃ st2, faulted t (if inB o.old t.s = true then 6 else 0) st1 = st2 := ⟨_, rfl⟩
 rw [hst2] at CO
 have HE0 : Hid (wd t.k t.s = wPrefix → R = (okv (⟨⟨(taken E.en st2).1.s, c.m.path, c.m.ca, c.m.cn⟩, c.s, o.old ++ [(t).s], c.ss⟩ : Cs) (faulted (taken E.en st2).1 (F.nam (wd (taken E.en st2).1.k (taken E.en st2).1.s)) (taken E.en st2).2), faulted (taken E.en st2).1 (F.nam (wd (taken E.en st2).1.k (taken E.en st2).1.s)) (taken E.en st2).2)) := fun h0 => by rw [← HR.out, if_pos h0, told_exec E.en _ _ _ HTA.out, hst2, exec_next, name_bind F E.en _ (taken_at E.en st2), exec_ret]
 have HE1 : Hid (¬ wd t.k t.s = wPrefix → wd t.k t.s = wPath → R = (okv (⟨⟨c.m.list, (taken E.en st2).1.s, c.m.ca, c.m.cn⟩, c.s, o.old ++ [(t).s], c.ss⟩ : Cs) (faulted (taken E.en st2).1 (F.asr (taken E.en st2).1.s) (faulted (taken E.en st2).1 (if (taken E.en st2).1.k = 1 then 0 else 4) (taken E.en st2).2)), faulted (taken E.en st2).1 (F.asr (taken E.en st2).1.s) (faulted (taken E.en st2).1 (if (taken E.en st2).1.k = 1 then 0 else 4) (taken E.en st2).2))) := fun h0 h1 => by rw [← HR.out, if_neg (h0), if_pos h1, told_exec E.en _ _ _ HTA.out, hst2, exec_next, asr_bind F E.en _ (taken_at E.en st2), exec_ret]
 have HE2 : Hid (¬ wd t.k t.s = wPrefix → ¬ wd t.k t.s = wPath → wd t.k t.s = wComm → R = (okv (⟨⟨c.m.list, c.m.path, (F.com (wd (taken E.en st2).1.k (taken E.en st2).1.s)).1, (F.com (wd (taken E.en st2).1.k (taken E.en st2).1.s)).2.1⟩, c.s, o.old ++ [(t).s], c.ss⟩ : Cs) (faulted (taken E.en st2).1 (F.com (wd (taken E.en st2).1.k (taken E.en st2).1.s)).2.2 (taken E.en st2).2), faulted (taken E.en st2).1 (F.com (wd (taken E.en st2).1.k (taken E.en st2).1.s)).2.2 (taken E.en st2).2)) := fun h0 h1 h2 => by rw [← HR.out, if_neg (h0), if_neg (h1), if_pos h2, told_exec E.en _ _ _ HTA.out, hst2, exec_next, com_bind F E.en _ (taken_at E.en st2), exec_ret]
 have HED : Hid (¬ wd t.k t.s = wPrefix → ¬ wd t.k t.s = wPath → ¬ wd t.k t.s = wComm → R = (none, faulted t 4 st1)) := fun h0 h1 h2 => by rw [← HR.out, if_neg h0, if_neg h1, if_neg h2, exec_fail E.en HTA.out (by decide)]
 have CN2 := hide (next_is E st2)
 have HZ2 := hide (fun W (hW : Ps E W st2) => taken_size hW)
 have CXname := hide (fun W hW (hz : (taken E.en st2).1.s.size ≤ 1000) => name_is K E (taken E.en st2).2 (taken E.en st2).1 W hW hz)
 have CXpath := hide (fun W hW (hz : (taken E.en st2).1.s.size ≤ 1000) => path_is K E (taken E.en st2).2 (taken E.en st2).1 W hW hT hz)
 have CXcomm := hide (fun W hW (hz : (taken E.en st2).1.s.size ≤ 1000) => comm_is K E (taken E.en st2).2 (taken E.en st2).1 W hW hT hz)
 generalize faulted (taken E.en st2).1 (F.nam (wd (taken E.en st2).1.k (taken E.en st2).1.s)) (taken E.en st2).2 = fname at *
 generalize faulted (taken E.en st2).1 (F.asr (taken E.en st2).1.s) (faulted (taken E.en st2).1 (if (taken E.en st2).1.k = 1 then 0 else 4) (taken E.en st2).2) = fpath at *
 generalize faulted (taken E.en st2).1 (F.com (wd (taken E.en st2).1.k (taken E.en st2).1.s)).2.2 (taken E.en st2).2 = fcomm at *
 generalize (F.com (wd (taken E.en st2).1.k (taken E.en st2).1.s)).2.1 = vb at *
 generalize (F.com (wd (taken E.en st2).1.k (taken E.en st2).1.s)).1 = va at *
 generalize (taken E.en st2).2 = st3 at *
 generalize (taken E.en st2).1 = t2 at *
 clear HR HTA hst2 hc hl hT
 obtain ⟨W0, pb, en⟩ := E
 obtain ⟨tk, tt, tp, tq⟩ := t
 obtain ⟨uk, ut, up, uq⟩ := t2
 simp only [Tv.val, Oc.fn] at *
 go_enter Tryz.func94, Tryz.ntmps94
 go_wp2_with fail
 refine CN.out.mono ?_
 rintro e w1 ⟨rfl, b1, p1⟩
 have B1 := hide (b1.alloc (.cells #[.int .i64 tk, .string tt, .int .i64 tp, .int .i64 tq] 95))
 have P1 := hide (p1.alloc (.cells #[.int .i64 tk, .string tt, .int .i64 tp, .int .i64 tq] 95))
 have N1 := hide (heap_new w1 #[.int .i64 tk, .string tt, .int .i64 tp, .int .i64 tq] 95)
 have O1 := hide (HO.out.but1 H.out B1.out)
 have M1 := hide (HM.out.keep B1.out (H.out.av (by decide)))
 clear b1 p1 CN H HO HM
 go_upto_region 1 with fail
 obtain ⟨tb, htb⟩ : ∃ tb, w1.heap.size = tb := ⟨_, rfl⟩
 rw [htb] at N1 ⊢
 generalize w1.alloc (.cells #[.int .i64 tk, .string tt, .int .i64 tp, .int .i64 tq] 95) = W1 at *
 clear htb
 have HTB : Hid (tb ≠ pb ∧ w1.heap.size ≤ w1.heap.size) := ⟨fun e => P1.out.av (by decide) tb _ N1.out e, Nat.le_refl _⟩
 obtain ⟨⟨c0, c1, c2, c3⟩, _⟩ := four_cells N1.out
 go_wp2_with fail
 refine (CW.out _).mono ?_
 rintro e w2 ⟨rfl, b2⟩
 have P2 := hide (P1.out.below b2)
 have B2 : Hid (But (fun k => (k = pb ∨ k = mb) ∨ o.S k) w w2) := (B1.out.trans (But.of b2)).mono (fun _ _ e => .inl (.inl e))
 have N2 := hide ((b2.block tb (heap_lt N1.out)).trans N1.out)
 have O2 := hide (O1.out.below b2)
 have M2 := hide (M1.out.keep (S := fun _ => False) (But.of b2) (fun _ _ _ h => h))
 clear b2 CW c0 c1 c2 c3 P1 B1 N1 O1 M1
 unfold wPrefix at HE0
 unfold wPrefix wPath at HE1
 unfold wPrefix wPath wComm at HE2
 unfold wPrefix wPath wComm at HED
 obtain ⟨⟨c0, c1, c2, c3⟩, _⟩ := four_cells N2.out
 by_cases h0 : wd tk tt = (bs [112, 114, 101, 102, 105, 120])
 ·
  have hb0 := beq_ll (wd tk tt) [112, 114, 101, 102, 105, 120]
  rw [decide_eq_true h0] at hb0
  go_wp2_with fail
  refine (CO.out _ P2.out O2.out).mono ?_
  rintro e w3 ⟨rfl, rb, o3, l3, b3, p3⟩
  have P3 := hide p3
  have O3 := hide o3
  have HL : Hid (∀ g, rb = some g → o.rb = some g ∨ w.heap.size ≤ g) := fun g hg => (l3 g hg).imp id (fun h => Nat.le_trans B2.out.size h)
  have B3 := hide (B2.out.trans (b3.mono (fun k _ e => e.elim (fun e => .inl (.inl e)) .inr)))
  have M3 := hide (M2.out.keep b3 (av_or (P2.out.av (by decide)) (O2.out.av (by decide) (by decide))))
  clear b3 p3 o3 l3 c0 c1 c2 c3 P2 B2 N2 O2 M2  CF
  have HZ := hide (HZ2.out _ P3.out)
  go_wp2_with fail
  refine (CN2.out _ P3.out).mono ?_
  rintro e w4 ⟨rfl, b4, p4⟩
  have P4 := hide p4
  have O4 := hide (O3.out.but1 P3.out b4)
  have B4 := hide (B3.out.trans (b4.mono (fun k _ e => .inl (.inl e))))
  have M4 := hide (M3.out.keep b4 (P3.out.av (by decide)))
  clear b4 p4 P3 O3 B3 M3
  go_wp2_with fail
  refine (CXname.out _ P4.out HZ.out).mono ?_
  rintro e w5 ⟨rfl, b5, p5⟩
  have P5 := hide p5
  have O5 := hide (O4.out.but1 P4.out b5)
  have B5 := hide (B4.out.trans (b5.mono (fun k _ e => .inl (.inl e))))
  have M5 := hide (M4.out.keep b5 (P4.out.av (by decide)))
  clear b5 p5 P4 O4 B4 M4
  have MU : Hid (w5.heap[mb]? = some (.cells #[.string c.m.list, .string c.m.path, .int .i64 c.m.ca, .int .i64 c.m.cn] 75 (0, 0))) := M5.out
  obtain ⟨⟨d0, d1, d2, d3⟩, e0, e1, e2, e3⟩ := four_cells MU.out
  go_wp2_with fail
  go_end0
  rw [HE0.out h0]
  exact ⟨rfl, ⟨ut, c.m.path, c.m.ca, c.m.cn⟩, o.old ++ [tt], rb, (heap_setCell_same _ mb 0 _ 75 (.string ut) MU.out), (O5.out.put MU.out (by decide) (by decide) (by decide) 0 (.string ut)), HL.out, (B5.out.setCell (p := ⟨mb, 0, none⟩) (.inl (.inl (.inr rfl))) (.string ut)), (P5.out.put (p := ⟨mb, 0, none⟩) HB.out.2 HB.out.1 (.string ut)), fun a ha => okv_some ha⟩
 have hb0 := beq_ll (wd tk tt) [112, 114, 101, 102, 105, 120]
 rw [decide_eq_false h0] at hb0
 by_cases h1 : wd tk tt = (bs [112, 97, 116, 104])
 ·
  have hb1 := beq_ll (wd tk tt) [112, 97, 116, 104]
  rw [decide_eq_true h1] at hb1
  go_wp2_with fail
  refine (CO.out _ P2.out O2.out).mono ?_
  rintro e w3 ⟨rfl, rb, o3, l3, b3, p3⟩
  have P3 := hide p3
  have O3 := hide o3
  have HL : Hid (∀ g, rb = some g → o.rb = some g ∨ w.heap.size ≤ g) := fun g hg => (l3 g hg).imp id (fun h => Nat.le_trans B2.out.size h)
  have B3 := hide (B2.out.trans (b3.mono (fun k _ e => e.elim (fun e => .inl (.inl e)) .inr)))
  have M3 := hide (M2.out.keep b3 (av_or (P2.out.av (by decide)) (O2.out.av (by decide) (by decide))))
  clear b3 p3 o3 l3 c0 c1 c2 c3 P2 B2 N2 O2 M2  CF
  have HZ := hide (HZ2.out _ P3.out)
  go_wp2_with fail
  refine (CN2.out _ P3.out).mono ?_
  rintro e w4 ⟨rfl, b4, p4⟩
  have P4 := hide p4
  have O4 := hide (O3.out.but1 P3.out b4)
  have B4 := hide (B3.out.trans (b4.mono (fun k _ e => .inl (.inl e))))
  have M4 := hide (M3.out.keep b4 (P3.out.av (by decide)))
  clear b4 p4 P3 O3 B3 M3
  go_wp2_with fail
  refine (CXpath.out _ P4.out HZ.out).mono ?_
  rintro e w5 ⟨rfl, b5, p5⟩
  have P5 := hide p5
  have O5 := hide (O4.out.but1 P4.out b5)
  have B5 := hide (B4.out.trans (b5.mono (fun k _ e => .inl (.inl e))))
  have M5 := hide (M4.out.keep b5 (P4.out.av (by decide)))
  clear b5 p5 P4 O4 B4 M4
  have MU : Hid (w5.heap[mb]? = some (.cells #[.string c.m.list, .string c.m.path, .int .i64 c.m.ca, .int .i64 c.m.cn] 75 (0, 0))) := M5.out
  obtain ⟨⟨d0, d1, d2, d3⟩, e0, e1, e2, e3⟩ := four_cells MU.out
  go_wp2_with fail
  go_end0
  rw [HE1.out h0 h1]
  exact ⟨rfl, ⟨c.m.list, ut, c.m.ca, c.m.cn⟩, o.old ++ [tt], rb, (heap_setCell_same _ mb 1 _ 75 (.string ut) MU.out), (O5.out.put MU.out (by decide) (by decide) (by decide) 1 (.string ut)), HL.out, (B5.out.setCell (p := ⟨mb, 1, none⟩) (.inl (.inl (.inr rfl))) (.string ut)), (P5.out.put (p := ⟨mb, 1, none⟩) HB.out.2 HB.out.1 (.string ut)), fun a ha => okv_some ha⟩
 have hb1 := beq_ll (wd tk tt) [112, 97, 116, 104]
 rw [decide_eq_false h1] at hb1
 by_cases h2 : wd tk tt = (bs [99, 111, 109, 109, 117, 110, 105, 116, 121])
 ·
  have hb2 := beq_ll (wd tk tt) [99, 111, 109, 109, 117, 110, 105, 116, 121]
  rw [decide_eq_true h2] at hb2
  go_wp2_with fail
  refine (CO.out _ P2.out O2.out).mono ?_
  rintro e w3 ⟨rfl, rb, o3, l3, b3, p3⟩
  have P3 := hide p3
  have O3 := hide o3
  have HL : Hid (∀ g, rb = some g → o.rb = some g ∨ w.heap.size ≤ g) := fun g hg => (l3 g hg).imp id (fun h => Nat.le_trans B2.out.size h)
  have B3 := hide (B2.out.trans (b3.mono (fun k _ e => e.elim (fun e => .inl (.inl e)) .inr)))
  have M3 := hide (M2.out.keep b3 (av_or (P2.out.av (by decide)) (O2.out.av (by decide) (by decide))))
  clear b3 p3 o3 l3 c0 c1 c2 c3 P2 B2 N2 O2 M2  CF
  have HZ := hide (HZ2.out _ P3.out)
  go_wp2_with fail
  refine (CN2.out _ P3.out).mono ?_
  rintro e w4 ⟨rfl, b4, p4⟩
  have P4 := hide p4
  have O4 := hide (O3.out.but1 P3.out b4)
  have B4 := hide (B3.out.trans (b4.mono (fun k _ e => .inl (.inl e))))
  have M4 := hide (M3.out.keep b4 (P3.out.av (by decide)))
  clear b4 p4 P3 O3 B3 M3
  go_wp2_with fail
  refine (CXcomm.out _ P4.out HZ.out).mono ?_
  rintro e w5 ⟨rfl, b5, p5⟩
  have P5 := hide p5
  have O5 := hide (O4.out.but1 P4.out b5)
  have B5 := hide (B4.out.trans (b5.mono (fun k _ e => .inl (.inl e))))
  have M5 := hide (M4.out.keep b5 (P4.out.av (by decide)))
  clear b5 p5 P4 O4 B4 M4
  have MU : Hid (w5.heap[mb]? = some (.cells #[.string c.m.list, .string c.m.path, .int .i64 c.m.ca, .int .i64 c.m.cn] 75 (0, 0))) := M5.out
  obtain ⟨⟨d0, d1, d2, d3⟩, e0, e1, e2, e3⟩ := four_cells MU.out
  go_wp2_with fail
  go_end0
  rw [HE2.out h0 h1 h2]
  exact ⟨rfl, ⟨c.m.list, c.m.path, va, vb⟩, o.old ++ [tt], rb, (heap_setCell_same _ mb 3 _ 75 (.int .i64 vb) (heap_setCell_same _ mb 2 _ 75 (.int .i64 va) MU.out)), ((O5.out.put MU.out (by decide) (by decide) (by decide) 2 (.int .i64 va)).put (heap_setCell_same _ mb 2 _ 75 (.int .i64 va) MU.out) (by decide) (by decide) (by decide) 3 (.int .i64 vb)), HL.out, ((B5.out.setCell (p := ⟨mb, 2, none⟩) (.inl (.inl (.inr rfl))) (.int .i64 va)).setCell (p := ⟨mb, 3, none⟩) (.inl (.inl (.inr rfl))) (.int .i64 vb)), ((P5.out.put (p := ⟨mb, 2, none⟩) HB.out.2 HB.out.1 (.int .i64 va)).put (p := ⟨mb, 3, none⟩) HB.out.2 HB.out.1 (.int .i64 vb)), fun a ha => okv_some ha⟩
 have hb2 := beq_ll (wd tk tt) [99, 111, 109, 109, 117, 110, 105, 116, 121]
 rw [decide_eq_false h2] at hb2
 go_wp2_with fail
 refine (CF.out _ P2.out).mono ?_
 rintro e w3 ⟨rfl, b3, p3⟩
 go_wp2_with fail
 go_end0
 rw [HED.out h0 h1 h2]
 exact ⟨rfl, c.m, o.old, o.rb, M2.out.keep b3 (P2.out.av (by decide)), O2.out.but1 P2.out b3, fun g hg => .inl hg, B2.out.trans (b3.mono (fun k _ e => .inl (.inl e))), p3, fun a ha => by cases ha⟩
theorem seven_cells {w : World} {b y : Nat} {x0 x1 x2 x3 x4 x5 x6 : Value} (h : w.heap[b]? = some (.cells #[x0, x1, x2, x3, x4, x5, x6] y (0, 0))) : (w.cell? ⟨b, 0, none⟩ = some x0 ∧ w.cell? ⟨b, 1, none⟩ = some x1 ∧ w.cell? ⟨b, 2, none⟩ = some x2 ∧ w.cell? ⟨b, 3, none⟩ = some x3 ∧ w.cell? ⟨b, 4, none⟩ = some x4 ∧ w.cell? ⟨b, 5, none⟩ = some x5 ∧ w.cell? ⟨b, 6, none⟩ = some x6) ∧ w.frozen? ⟨b, 0, none⟩ = false ∧ w.frozen? ⟨b, 1, none⟩ = false ∧ w.frozen? ⟨b, 2, none⟩ = false ∧ w.frozen? ⟨b, 3, none⟩ = false ∧ w.frozen? ⟨b, 4, none⟩ = false ∧ w.frozen? ⟨b, 5, none⟩ = false ∧ w.frozen? ⟨b, 6, none⟩ = false := by
 simp [World.cell?, World.frozen?, h]
theorem row_put {w : World} {B e z n : Nat} {v : Value} {xs : List Value} (h : w.ownsRow B e z v n xs) {g t : Nat} {cs : Array Value} (hg : w.heap[g]? = some (.cells cs t (0, 0))) (ht : t ≠ e) (j : Nat) (u : Value) : (w.setCell ⟨g, j, none⟩ u).ownsRow B e z v n xs := row_of h fun k hk => Below.heap_setCell _ _ _ _ (fun e9 => own_ne h hg ht k hk e9)
theorem own_slice {w : World} {B e z n : Nat} {v : Value} {xs : List Value} (h : w.ownsRow B e z v n xs) : ∃ ao n c, v = .slice ao n c := by
 rcases h.2 with ⟨hv, _⟩ | ⟨g, cap, cur, hv, _⟩
 ·
  exact ⟨_, _, _, hv⟩
 exact ⟨_, _, _, hv⟩
set_option maxHeartbeats 4000000 in
set_option maxRecDepth 100000 in
theorem setComms_is {T : World → Prop} {F : Fn} (K : Kit12 T F) (E : En) (hT : T E.w0) (o : Oc) (N : Nat) (mb : Nat) (f : Nat) (c : Cs) (st : Sta) (w : World) (h : Ps E w st) (ho : OcAt E w o) (hm : SeAt w N mb c.s) (hb : E.w0.heap.size ≤ mb ∧ mb ≠ E.pb) (hc : o.old = c.ss) (hl : o.old.length ≤ 10000) (hf : st.len < f) (hN : N ≤ w.heap.size) : Calls Tryz.prog 107 #[.pointer (some ⟨E.pb, 0, none⟩), .pointer (some ⟨mb, 0, none⟩), o.fn] w fun e w' => e = .returned (.tuple #[]) ∧ SetTo E o N mb c ((pSetC F f c).exec E.en st) w w' := by
 have hmf : ∀ (fn : Go.Fn) (first cap : Array Value) (w : World), (Instr.makeFunc fn first cap).run Tryz.prog w = .ok (.func fn first cap) w := fun _ _ _ _ => rfl
 unfold SetTo
 have CN := hide (next_is E st w h)
 have HPB := hide h.lt
 have HW0 := hide h.1.size
 have CW := hide (word_is (taken E.en st).1)
 have CO := hide (fun W hW (hO : OcAt E W o) => once_call E o (taken E.en st).1 (taken E.en st).2 W hW hO hl)
 unfold OnceTo at CO
 have CF := hide (fault_is E (taken E.en st).2 (taken E.en st).1 4)
 have HLN : Hid ((taken E.en st).2.len < f) := Nat.lt_of_le_of_lt (taken_le _ _) hf
 obtain ⟨R, hR⟩ : ∃ R, (pSetC F f c).exec E.en st = R := ⟨_, rfl⟩
 rw [hR]
 have HTA := hide (taken_at E.en st)
 rw [pSetC, exec_next, ← hc] at hR
 have HR := hide hR
 have HO := hide ho
 have HM := hide hm
 have HB := hide hb
 have H := hide h
 clear hR ho hm hb h
 generalize (taken E.en st).2 = st1 at *
 generalize (taken E.en st).1 = t at *
 obtain ⟨st2, hst2⟩ : ∃ st2, faulted t (if inB o.old t.s = true then 6 else 0) st1 = st2 := ⟨_, rfl⟩
 rw [hst2] at CO
 have HL2 : Hid (st2.len < f) := Nat.lt_of_le_of_lt (by rw [← hst2]; exact faulted_len _ _ _) HLN.out
 have HE0 : Hid (wd t.k t.s = wAdd → ∀ l, (∀ a, ((pSev 8 (pCom F) f []).exec E.en st2).1 = some a → l = a) → R.2 = ((pSev 8 (pCom F) f []).exec E.en st2).2 ∧ ∀ a, R.1 = some a → (⟨c.m, ⟨c.s.pref, c.s.med, c.s.org, l, c.s.del, c.s.clr, c.s.prep⟩, c.ms, o.old ++ [(t).s]⟩ : Cs) = a) := fun h0 l hl => by
  rw [← HR.out, if_pos h0, told_exec E.en _ _ _ HTA.out, hst2]
  exact exec_map E.en _ (fun l => (⟨c.m, ⟨c.s.pref, c.s.med, c.s.org, l, c.s.del, c.s.clr, c.s.prep⟩, c.ms, o.old ++ [(t).s]⟩ : Cs)) _ l hl
 have HE1 : Hid (¬ wd t.k t.s = wAdd → wd t.k t.s = wDel → ∀ l, (∀ a, ((pSev 8 (pCom F) f []).exec E.en st2).1 = some a → l = a) → R.2 = ((pSev 8 (pCom F) f []).exec E.en st2).2 ∧ ∀ a, R.1 = some a → (⟨c.m, ⟨c.s.pref, c.s.med, c.s.org, c.s.add, l, c.s.clr, c.s.prep⟩, c.ms, o.old ++ [(t).s]⟩ : Cs) = a) := fun h0 h1 l hl => by
  rw [← HR.out, if_neg (h0), if_pos h1, told_exec E.en _ _ _ HTA.out, hst2]
  exact exec_map E.en _ (fun l => (⟨c.m, ⟨c.s.pref, c.s.med, c.s.org, c.s.add, l, c.s.clr, c.s.prep⟩, c.ms, o.old ++ [(t).s]⟩ : Cs)) _ l hl
 have HE2 : Hid (¬ wd t.k t.s = wAdd → ¬ wd t.k t.s = wDel → wd t.k t.s = wClear → R = (okv (⟨c.m, ⟨c.s.pref, c.s.med, c.s.org, c.s.add, c.s.del, true, c.s.prep⟩, c.ms, o.old ++ [(t).s]⟩ : Cs) st2, st2)) := fun h0 h1 h2 => by rw [← HR.out, if_neg (h0), if_neg (h1), if_pos h2, told_exec E.en _ _ _ HTA.out, hst2, exec_ret]
 have HED : Hid (¬ wd t.k t.s = wAdd → ¬ wd t.k t.s = wDel → ¬ wd t.k t.s = wClear → R = (none, faulted t 4 st1)) := fun h0 h1 h2 => by rw [← HR.out, if_neg h0, if_neg h1, if_neg h2, exec_fail E.en HTA.out (by decide)]
 have CV := hide (fun W hW => severalC_is K E 8 f st2 W hW hT HL2.out)
 unfold SevCTo at CV
 generalize (pSev 8 (pCom F) f []).exec E.en st2 = RV at *
 clear HR HTA hst2 hc hl hT hf
 have HN := hide hN
 clear hN
 obtain ⟨W0, pb, en⟩ := E
 obtain ⟨tk, tt, tp, tq⟩ := t
 simp only [Tv.val, Oc.fn] at *
 go_enter Tryz.func107, Tryz.ntmps107
 go_wp2_with fail
 refine CN.out.mono ?_
 rintro e w1 ⟨rfl, b1, p1⟩
 have B1 := hide (b1.alloc (.cells #[.int .i64 tk, .string tt, .int .i64 tp, .int .i64 tq] 95))
 have P1 := hide (p1.alloc (.cells #[.int .i64 tk, .string tt, .int .i64 tp, .int .i64 tq] 95))
 have N1 := hide (heap_new w1 #[.int .i64 tk, .string tt, .int .i64 tp, .int .i64 tq] 95)
 have O1 := hide (HO.out.but1 H.out B1.out)
 have M1 := hide (HM.out.keep B1.out (H.out.av (by decide)) (H.out.av (by decide)) (H.out.av (by decide)))
 clear b1 p1 CN H HO HM
 go_upto_region 1 with fail
 obtain ⟨tb, htb⟩ : ∃ tb, w1.heap.size = tb := ⟨_, rfl⟩
 rw [htb] at N1 ⊢
 generalize w1.alloc (.cells #[.int .i64 tk, .string tt, .int .i64 tp, .int .i64 tq] 95) = W1 at *
 clear htb
 have HTB : Hid (tb ≠ pb ∧ w1.heap.size ≤ w1.heap.size) := ⟨fun e => P1.out.av (by decide) tb _ N1.out e, Nat.le_refl _⟩
 obtain ⟨⟨c0, c1, c2, c3⟩, _⟩ := four_cells N1.out
 go_wp2_with fail
 refine (CW.out _).mono ?_
 rintro e w2 ⟨rfl, b2⟩
 have P2 := hide (P1.out.below b2)
 have B2 : Hid (But (fun k => (k = pb ∨ k = mb) ∨ o.S k) w w2) := (B1.out.trans (But.of b2)).mono (fun _ _ e => .inl (.inl e))
 have N2 := hide ((b2.block tb (heap_lt N1.out)).trans N1.out)
 have O2 := hide (O1.out.below b2)
 have M2 := hide (M1.out.keep (S := fun _ => False) (But.of b2) (fun _ _ _ h => h) (fun _ _ _ h => h) (fun _ _ _ h => h))
 clear b2 CW c0 c1 c2 c3 P1 B1 N1 O1 M1
 unfold wAdd at HE0
 unfold wAdd wDel at HE1
 unfold wAdd wDel wClear at HE2
 unfold wAdd wDel wClear at HED
 obtain ⟨⟨c0, c1, c2, c3⟩, _⟩ := four_cells N2.out
 by_cases h0 : wd tk tt = (bs [97, 100, 100])
 ·
  have hb0 := beq_ll (wd tk tt) [97, 100, 100]
  rw [decide_eq_true h0] at hb0
  go_wp2_with fail
  refine (CO.out _ P2.out O2.out).mono ?_
  rintro e w3 ⟨rfl, rb, o3, l3, b3, p3⟩
  have P3 := hide p3
  have O3 := hide o3
  have HL : Hid (∀ g, rb = some g → o.rb = some g ∨ w.heap.size ≤ g) := fun g hg => (l3 g hg).imp id (fun h => Nat.le_trans B2.out.size h)
  have B3 := hide (B2.out.trans (b3.mono (fun k _ e => e.elim (fun e => .inl (.inl e)) .inr)))
  have M3 := hide (M2.out.keep b3 (av_or (P2.out.av (by decide)) (O2.out.av (by decide) (by decide))) (av_or (P2.out.av (by decide)) (O2.out.av (by decide) (by decide))) (av_or (P2.out.av (by decide)) (O2.out.av (by decide) (by decide))))
  clear b3 p3 o3 l3 c0 c1 c2 c3 P2 B2 N2 O2 M2  CF
  go_wp2_with fail
  refine (CV.out _ P3.out).mono ?_
  rintro e w5 ⟨v, l, rfl, r5, b5, p5, v5⟩
  have HV := hide v5
  have R5 := hide (row_from (B' := N) r5 (fun g hg => Nat.le_trans (Nat.le_trans HN.out B3.out.size) (r5.lt g hg).1))
  have P5 := hide p5
  have O5 := hide (O3.out.but1 P3.out b5)
  have B5 := hide (B3.out.trans (b5.mono (fun k _ e => .inl (.inl e))))
  have M5 := hide (M3.out.keep b5 (P3.out.av (by decide)) (P3.out.av (by decide)) (P3.out.av (by decide)))
  clear b5 p5 v5 r5 P3 O3 B3 M3
  obtain ⟨ao, n, cp, hv⟩ := own_slice R5.out
  subst hv
  obtain ⟨va, vd, vp, r0, r1, r2, r3⟩ := M5.out
  have R0 := hide r0
  have R1 := hide r1
  have R2 := hide r2
  have R3 := hide r3
  clear r0 r1 r2 r3 M5
  obtain ⟨⟨d0, d1, d2, d3, d4, d5, d6⟩, e0, e1, e2, e3, e4, e5, e6⟩ := seven_cells R0.out
  go_wp2_with fail
  go_end0
  have hx := HE0.out h0 l HV.out
  rw [hx.1]
  exact ⟨rfl, ⟨c.s.pref, c.s.med, c.s.org, l, c.s.del, c.s.clr, c.s.prep⟩, o.old ++ [tt], rb, ⟨(.slice ao n cp), vd, vp, (heap_setCell_same _ mb 3 _ 79 (.slice ao n cp) R0.out), (row_put R5.out R0.out (by decide) 3 (.slice ao n cp)), (row_put R2.out R0.out (by decide) 3 (.slice ao n cp)), (row_put R3.out R0.out (by decide) 3 (.slice ao n cp))⟩, (O5.out.put R0.out (by decide) (by decide) (by decide) 3 (.slice ao n cp)), HL.out, (B5.out.setCell (p := ⟨mb, 3, none⟩) (.inl (.inl (.inr rfl))) (.slice ao n cp)), (P5.out.put (p := ⟨mb, 3, none⟩) HB.out.2 HB.out.1 (.slice ao n cp)), hx.2⟩
 have hb0 := beq_ll (wd tk tt) [97, 100, 100]
 rw [decide_eq_false h0] at hb0
 by_cases h1 : wd tk tt = (bs [100, 101, 108])
 ·
  have hb1 := beq_ll (wd tk tt) [100, 101, 108]
  rw [decide_eq_true h1] at hb1
  go_wp2_with fail
  refine (CO.out _ P2.out O2.out).mono ?_
  rintro e w3 ⟨rfl, rb, o3, l3, b3, p3⟩
  have P3 := hide p3
  have O3 := hide o3
  have HL : Hid (∀ g, rb = some g → o.rb = some g ∨ w.heap.size ≤ g) := fun g hg => (l3 g hg).imp id (fun h => Nat.le_trans B2.out.size h)
  have B3 := hide (B2.out.trans (b3.mono (fun k _ e => e.elim (fun e => .inl (.inl e)) .inr)))
  have M3 := hide (M2.out.keep b3 (av_or (P2.out.av (by decide)) (O2.out.av (by decide) (by decide))) (av_or (P2.out.av (by decide)) (O2.out.av (by decide) (by decide))) (av_or (P2.out.av (by decide)) (O2.out.av (by decide) (by decide))))
  clear b3 p3 o3 l3 c0 c1 c2 c3 P2 B2 N2 O2 M2  CF
  go_wp2_with fail
  refine (CV.out _ P3.out).mono ?_
  rintro e w5 ⟨v, l, rfl, r5, b5, p5, v5⟩
  have HV := hide v5
  have R5 := hide (row_from (B' := N) r5 (fun g hg => Nat.le_trans (Nat.le_trans HN.out B3.out.size) (r5.lt g hg).1))
  have P5 := hide p5
  have O5 := hide (O3.out.but1 P3.out b5)
  have B5 := hide (B3.out.trans (b5.mono (fun k _ e => .inl (.inl e))))
  have M5 := hide (M3.out.keep b5 (P3.out.av (by decide)) (P3.out.av (by decide)) (P3.out.av (by decide)))
  clear b5 p5 v5 r5 P3 O3 B3 M3
  obtain ⟨ao, n, cp, hv⟩ := own_slice R5.out
  subst hv
  obtain ⟨va, vd, vp, r0, r1, r2, r3⟩ := M5.out
  have R0 := hide r0
  have R1 := hide r1
  have R2 := hide r2
  have R3 := hide r3
  clear r0 r1 r2 r3 M5
  obtain ⟨⟨d0, d1, d2, d3, d4, d5, d6⟩, e0, e1, e2, e3, e4, e5, e6⟩ := seven_cells R0.out
  go_wp2_with fail
  go_end0
  have hx := HE1.out h0 h1 l HV.out
  rw [hx.1]
  exact ⟨rfl, ⟨c.s.pref, c.s.med, c.s.org, c.s.add, l, c.s.clr, c.s.prep⟩, o.old ++ [tt], rb, ⟨va, (.slice ao n cp), vp, (heap_setCell_same _ mb 4 _ 79 (.slice ao n cp) R0.out), (row_put R1.out R0.out (by decide) 4 (.slice ao n cp)), (row_put R5.out R0.out (by decide) 4 (.slice ao n cp)), (row_put R3.out R0.out (by decide) 4 (.slice ao n cp))⟩, (O5.out.put R0.out (by decide) (by decide) (by decide) 4 (.slice ao n cp)), HL.out, (B5.out.setCell (p := ⟨mb, 4, none⟩) (.inl (.inl (.inr rfl))) (.slice ao n cp)), (P5.out.put (p := ⟨mb, 4, none⟩) HB.out.2 HB.out.1 (.slice ao n cp)), hx.2⟩
 have hb1 := beq_ll (wd tk tt) [100, 101, 108]
 rw [decide_eq_false h1] at hb1
 by_cases h2 : wd tk tt = (bs [99, 108, 101, 97, 114])
 ·
  have hb2 := beq_ll (wd tk tt) [99, 108, 101, 97, 114]
  rw [decide_eq_true h2] at hb2
  go_wp2_with fail
  refine (CO.out _ P2.out O2.out).mono ?_
  rintro e w3 ⟨rfl, rb, o3, l3, b3, p3⟩
  have P3 := hide p3
  have O3 := hide o3
  have HL : Hid (∀ g, rb = some g → o.rb = some g ∨ w.heap.size ≤ g) := fun g hg => (l3 g hg).imp id (fun h => Nat.le_trans B2.out.size h)
  have B3 := hide (B2.out.trans (b3.mono (fun k _ e => e.elim (fun e => .inl (.inl e)) .inr)))
  have M3 := hide (M2.out.keep b3 (av_or (P2.out.av (by decide)) (O2.out.av (by decide) (by decide))) (av_or (P2.out.av (by decide)) (O2.out.av (by decide) (by decide))) (av_or (P2.out.av (by decide)) (O2.out.av (by decide) (by decide))))
  clear b3 p3 o3 l3 c0 c1 c2 c3 P2 B2 N2 O2 M2  CF
  obtain ⟨va, vd, vp, r0, r1, r2, r3⟩ := M3.out
  have R0 := hide r0
  have R1 := hide r1
  have R2 := hide r2
  have R3 := hide r3
  clear r0 r1 r2 r3 M3
  obtain ⟨⟨d0, d1, d2, d3, d4, d5, d6⟩, e0, e1, e2, e3, e4, e5, e6⟩ := seven_cells R0.out
  go_wp2_with fail
  go_end0
  rw [HE2.out h0 h1 h2]
  exact ⟨rfl, ⟨c.s.pref, c.s.med, c.s.org, c.s.add, c.s.del, true, c.s.prep⟩, o.old ++ [tt], rb, ⟨va, vd, vp, (heap_setCell_same _ mb 5 _ 79 (.bool true) R0.out), (row_put R1.out R0.out (by decide) 5 (.bool true)), (row_put R2.out R0.out (by decide) 5 (.bool true)), (row_put R3.out R0.out (by decide) 5 (.bool true))⟩, (O3.out.put R0.out (by decide) (by decide) (by decide) 5 (.bool true)), HL.out, (B3.out.setCell (p := ⟨mb, 5, none⟩) (.inl (.inl (.inr rfl))) (.bool true)), (P3.out.put (p := ⟨mb, 5, none⟩) HB.out.2 HB.out.1 (.bool true)), fun a ha => okv_some ha⟩
 have hb2 := beq_ll (wd tk tt) [99, 108, 101, 97, 114]
 rw [decide_eq_false h2] at hb2
 go_wp2_with fail
 refine (CF.out _ P2.out).mono ?_
 rintro e w3 ⟨rfl, b3, p3⟩
 go_wp2_with fail
 go_end0
 rw [HED.out h0 h1 h2]
 exact ⟨rfl, c.s, o.old, o.rb, M2.out.keep b3 (P2.out.av (by decide)) (P2.out.av (by decide)) (P2.out.av (by decide)), O2.out.but1 P2.out b3, fun g hg => .inl hg, B2.out.trans (b3.mono (fun k _ e => .inl (.inl e))), p3, fun a ha => by cases ha⟩
end Go.Proofs.YtnadhplhnfpeaaaGreatDoor
