/- Part of the proof. -/
import Derived.Test.YtnadhplhnfpeaaaGreatDoorAZ
import Derived.Test.YtnadhplhnfpeaaaGreatDoorA11
namespace Go.Proofs.YtnadhplhnfpeaaaGreatDoor
open Go.RowKit Go.Sort
set_option maxHeartbeats 4000000 in
set_option maxRecDepth 100000 in
theorem set_is {T : World → Prop} {F : Fn} (K : Kit12 T F) (E : En) (hT : T E.w0) (o : Oc) (N : Nat) (mb : Nat) (f : Nat) (c : Cs) (st : Sta) (w : World) (h : Ps E w st) (ho : OcAt E w o) (hm : SeAt w N mb c.s) (hb : E.w0.heap.size ≤ mb ∧ mb ≠ E.pb) (hc : o.old = c.ss) (hl : o.old.length ≤ 10000) (hf : st.len < f) (hN : N ≤ w.heap.size) : Calls Tryz.prog 95 #[.pointer (some ⟨E.pb, 0, none⟩), .pointer (some ⟨mb, 0, none⟩), o.fn] w fun e w' => e = .returned (.tuple #[]) ∧ SetTo E o N mb c ((pSet F f c).exec E.en st) w w' := by
 have hmf : ∀ (fn : Go.Fn) (first cap : Array Value) (w : World), (Instr.makeFunc fn first cap).run Tryz.prog w = .ok (.func fn first cap) w := fun _ _ _ _ => rfl
 unfold SetTo
 have CN := hide (next_is E st w h)
 have HPB := hide h.lt
 have HW0 := hide h.1.size
 have CW := hide (word_is (taken E.en st).1)
 have CO := hide (fun W hW (hO : OcAt E W o) => once_call E o (taken E.en st).1 (taken E.en st).2 W hW hO hl)
 unfold OnceTo at CO
 have CF := hide (fault_is E (taken E.en st).2 (taken E.en st).1 4)
 have CS := hide (fun W hW (hO : OcAt E W o) (hM : SeAt W N mb c.s) hF hN => setComms_is K E hT o N mb f c (taken E.en st).2 W hW hO hM hb hc hl hF hN)
 unfold SetTo at CS
 have HLN : Hid ((taken E.en st).2.len < f) := Nat.lt_of_le_of_lt (taken_le _ _) hf
 obtain ⟨R, hR⟩ : ∃ R, (pSet F f c).exec E.en st = R := ⟨_, rfl⟩
 rw [hR]
 have HTA := hide (taken_at E.en st)
 rw [pSet, exec_next, ← hc] at hR
 have HR := hide hR
 have HO := hide ho
 have HM := hide hm
 have HB := hide hb
 have H := hide h
 clear hR ho hm hb h
 generalize (taken E.en st).2 = st1 at *
 generalize (taken E.en st).1 = t at *
 obtain ⟨st2, hst2⟩ : ∃ st2, faulted t (if inB o.old t.s = true then 6 else 0) st1 = st2 := ⟨_, rfl⟩
 rw [hst2] at CO
 have HL2 : Hid (st2.len < f) := Nat.lt_of_le_of_lt (by rw [← hst2]; exact faulted_len _ _ _) HLN.out
 have HE0 : Hid (wd t.k t.s = wPref → R = (okv (⟨c.m, ⟨(F.num (wd (taken E.en st2).1.k (taken E.en st2).1.s) 0 1048576).1, c.s.med, c.s.org, c.s.add, c.s.del, c.s.clr, c.s.prep⟩, c.ms, o.old ++ [(t).s]⟩ : Cs) (faulted (taken E.en st2).1 (F.num (wd (taken E.en st2).1.k (taken E.en st2).1.s) 0 1048576).2 (taken E.en st2).2), faulted (taken E.en st2).1 (F.num (wd (taken E.en st2).1.k (taken E.en st2).1.s) 0 1048576).2 (taken E.en st2).2)) := fun h0 => by rw [← HR.out, if_pos h0, told_exec E.en _ _ _ HTA.out, hst2, exec_next, num_bind F 0 1048576 E.en _ (taken_at E.en st2), exec_ret]
 have HE1 : Hid (¬ wd t.k t.s = wPref → wd t.k t.s = wMed → R = (okv (⟨c.m, ⟨c.s.pref, (F.num (wd (taken E.en st2).1.k (taken E.en st2).1.s) 0 1048576).1, c.s.org, c.s.add, c.s.del, c.s.clr, c.s.prep⟩, c.ms, o.old ++ [(t).s]⟩ : Cs) (faulted (taken E.en st2).1 (F.num (wd (taken E.en st2).1.k (taken E.en st2).1.s) 0 1048576).2 (taken E.en st2).2), faulted (taken E.en st2).1 (F.num (wd (taken E.en st2).1.k (taken E.en st2).1.s) 0 1048576).2 (taken E.en st2).2)) := fun h0 h1 => by rw [← HR.out, if_neg (h0), if_pos h1, told_exec E.en _ _ _ HTA.out, hst2, exec_next, num_bind F 0 1048576 E.en _ (taken_at E.en st2), exec_ret]
 have HE2 : Hid (¬ wd t.k t.s = wPref → ¬ wd t.k t.s = wMed → wd t.k t.s = wOrigin → R = (okv (⟨c.m, ⟨c.s.pref, c.s.med, orgV (wd (taken E.en st2).1.k (taken E.en st2).1.s), c.s.add, c.s.del, c.s.clr, c.s.prep⟩, c.ms, o.old ++ [(t).s]⟩ : Cs) (faulted (taken E.en st2).1 (orgE (wd (taken E.en st2).1.k (taken E.en st2).1.s)) (taken E.en st2).2), faulted (taken E.en st2).1 (orgE (wd (taken E.en st2).1.k (taken E.en st2).1.s)) (taken E.en st2).2)) := fun h0 h1 h2 => by rw [← HR.out, if_neg (h0), if_neg (h1), if_pos h2, told_exec E.en _ _ _ HTA.out, hst2, exec_next, org_bind E.en _ (taken_at E.en st2), exec_ret]
 have HE3 : Hid (¬ wd t.k t.s = wPref → ¬ wd t.k t.s = wMed → ¬ wd t.k t.s = wOrigin → wd t.k t.s = wComm → R = (pSetC F f c).exec E.en st1) := fun h0 h1 h2 h3 => by rw [← HR.out, if_neg (h0), if_neg (h1), if_neg (h2), if_pos h3]
 have HE4 : Hid (¬ wd t.k t.s = wPref → ¬ wd t.k t.s = wMed → ¬ wd t.k t.s = wOrigin → ¬ wd t.k t.s = wComm → wd t.k t.s = wPrepend → ∀ l, (∀ a, ((pSev 16 (pNum F 1 65535) f []).exec E.en st2).1 = some a → l = a) → R.2 = ((pSev 16 (pNum F 1 65535) f []).exec E.en st2).2 ∧ ∀ a, R.1 = some a → (⟨c.m, ⟨c.s.pref, c.s.med, c.s.org, c.s.add, c.s.del, c.s.clr, l⟩, c.ms, o.old ++ [(t).s]⟩ : Cs) = a) := fun h0 h1 h2 h3 h4 l hl => by
  rw [← HR.out, if_neg (h0), if_neg (h1), if_neg (h2), if_neg (h3), if_pos h4, told_exec E.en _ _ _ HTA.out, hst2]
  exact exec_map E.en _ (fun l => (⟨c.m, ⟨c.s.pref, c.s.med, c.s.org, c.s.add, c.s.del, c.s.clr, l⟩, c.ms, o.old ++ [(t).s]⟩ : Cs)) _ l hl
 have HED : Hid (¬ wd t.k t.s = wPref → ¬ wd t.k t.s = wMed → ¬ wd t.k t.s = wOrigin → ¬ wd t.k t.s = wComm → ¬ wd t.k t.s = wPrepend → R = (none, faulted t 4 st1)) := fun h0 h1 h2 h3 h4 => by rw [← HR.out, if_neg h0, if_neg h1, if_neg h2, if_neg h3, if_neg h4, exec_fail E.en HTA.out (by decide)]
 generalize (pSetC F f c).exec E.en st1 = RC at *
 have CN2 := hide (next_is E st2)
 have HZ2 := hide (fun W (hW : Ps E W st2) => taken_size hW)
 have CXnum := hide (fun W hW (hz : (taken E.en st2).1.s.size ≤ 1000) => number_is K E (taken E.en st2).2 (taken E.en st2).1 0 1048576 W hW hT hz)
 have CXorg0 := hide (fun W hW (hz : (taken E.en st2).1.s.size ≤ 1000) => origin_is E (taken E.en st2).2 (taken E.en st2).1 W hW)
 have CXorg : Hid (∀ W, Ps E W (taken E.en st2).2 → (taken E.en st2).1.s.size ≤ 1000 → Calls Tryz.prog 106 #[.pointer (some ⟨E.pb, 0, none⟩), (taken E.en st2).1.val] W fun r w' => r = .returned (.int .i64 (orgV (wd (taken E.en st2).1.k (taken E.en st2).1.s))) ∧ But (but1 E.pb) W w' ∧ Ps E w' (faulted (taken E.en st2).1 (orgE (wd (taken E.en st2).1.k (taken E.en st2).1.s)) (taken E.en st2).2)) := CXorg0
 clear CXorg0
 generalize faulted (taken E.en st2).1 (F.num (wd (taken E.en st2).1.k (taken E.en st2).1.s) 0 1048576).2 (taken E.en st2).2 = fnum at *
 generalize (F.num (wd (taken E.en st2).1.k (taken E.en st2).1.s) 0 1048576).1 = vn at *
 generalize faulted (taken E.en st2).1 (orgE (wd (taken E.en st2).1.k (taken E.en st2).1.s)) (taken E.en st2).2 = forg at *
 generalize orgV (wd (taken E.en st2).1.k (taken E.en st2).1.s) = vo at *
 generalize (taken E.en st2).2 = st3 at *
 generalize (taken E.en st2).1 = t2 at *
 have CV := hide (fun W hW => severalI_is K E 16 f st2 W hW hT HL2.out)
 unfold SevITo at CV
 generalize (pSev 16 (pNum F 1 65535) f []).exec E.en st2 = RV at *
 clear HR HTA hst2 hc hl hT hf
 have HN := hide hN
 clear hN
 obtain ⟨W0, pb, en⟩ := E
 obtain ⟨tk, tt, tp, tq⟩ := t
 obtain ⟨uk, ut, up, uq⟩ := t2
 simp only [Tv.val, Oc.fn] at *
 go_enter Tryz.func95, Tryz.ntmps95
 go_wp2_with fail
 refine CN.out.mono ?_
 rintro e w1 ⟨rfl, b1, p1⟩
 have B1 := hide (b1.alloc (.cells #[.int .i64 tk, .string tt, .int .i64 tp, .int .i64 tq] 95))
 have P1 := hide (p1.alloc (.cells #[.int .i64 tk, .string tt, .int .i64 tp, .int .i64 tq] 95))
 have N1 := hide (heap_new w1 #[.int .i64 tk, .string tt, .int .i64 tp, .int .i64 tq] 95)
 have O1 := hide (HO.out.but1 H.out B1.out)
 have M1 := hide (HM.out.keep B1.out (H.out.av (by decide)) (H.out.av (by decide)) (H.out.av (by decide)))
 clear b1 p1 CN H HO HM
 go_upto_region 1 with fail
 obtain ⟨tb, htb⟩ : ∃ tb, w1.heap.size = tb := ⟨_, rfl⟩
 rw [htb] at N1 ⊢
 generalize w1.alloc (.cells #[.int .i64 tk, .string tt, .int .i64 tp, .int .i64 tq] 95) = W1 at *
 clear htb
 have HTB : Hid (tb ≠ pb ∧ w1.heap.size ≤ w1.heap.size) := ⟨fun e => P1.out.av (by decide) tb _ N1.out e, Nat.le_refl _⟩
 obtain ⟨⟨c0, c1, c2, c3⟩, _⟩ := four_cells N1.out
 go_wp2_with fail
 refine (CW.out _).mono ?_
 rintro e w2 ⟨rfl, b2⟩
 have P2 := hide (P1.out.below b2)
 have B2 : Hid (But (fun k => (k = pb ∨ k = mb) ∨ o.S k) w w2) := (B1.out.trans (But.of b2)).mono (fun _ _ e => .inl (.inl e))
 have N2 := hide ((b2.block tb (heap_lt N1.out)).trans N1.out)
 have O2 := hide (O1.out.below b2)
 have M2 := hide (M1.out.keep (S := fun _ => False) (But.of b2) (fun _ _ _ h => h) (fun _ _ _ h => h) (fun _ _ _ h => h))
 clear b2 CW c0 c1 c2 c3 P1 B1 N1 O1 M1
 unfold wPref at HE0
 unfold wPref wMed at HE1
 unfold wPref wMed wOrigin at HE2
 unfold wPref wMed wOrigin wComm at HE3
 unfold wPref wMed wOrigin wComm wPrepend at HE4
 unfold wPref wMed wOrigin wComm wPrepend at HED
 obtain ⟨⟨c0, c1, c2, c3⟩, _⟩ := four_cells N2.out
 by_cases h0 : wd tk tt = (bs [112, 114, 101, 102])
 ·
  have hb0 := beq_ll (wd tk tt) [112, 114, 101, 102]
  rw [decide_eq_true h0] at hb0
  go_wp2_with fail
  refine (CO.out _ P2.out O2.out).mono ?_
  rintro e w3 ⟨rfl, rb, o3, l3, b3, p3⟩
  have P3 := hide p3
  have O3 := hide o3
  have HL : Hid (∀ g, rb = some g → o.rb = some g ∨ w.heap.size ≤ g) := fun g hg => (l3 g hg).imp id (fun h => Nat.le_trans B2.out.size h)
  have B3 := hide (B2.out.trans (b3.mono (fun k _ e => e.elim (fun e => .inl (.inl e)) .inr)))
  have M3 := hide (M2.out.keep b3 (av_or (P2.out.av (by decide)) (O2.out.av (by decide) (by decide))) (av_or (P2.out.av (by decide)) (O2.out.av (by decide) (by decide))) (av_or (P2.out.av (by decide)) (O2.out.av (by decide) (by decide))))
  clear b3 p3 o3 l3 c0 c1 c2 c3 P2 B2 N2 O2 M2 CS CF
  have HZ := hide (HZ2.out _ P3.out)
  go_wp2_with fail
  refine (CN2.out _ P3.out).mono ?_
  rintro e w4 ⟨rfl, b4, p4⟩
  have P4 := hide p4
  have O4 := hide (O3.out.but1 P3.out b4)
  have B4 := hide (B3.out.trans (b4.mono (fun k _ e => .inl (.inl e))))
  have M4 := hide (M3.out.keep b4 (P3.out.av (by decide)) (P3.out.av (by decide)) (P3.out.av (by decide)))
  clear b4 p4 P3 O3 B3 M3
  go_wp2_with fail
  refine (CXnum.out _ P4.out HZ.out).mono ?_
  rintro e w5 ⟨rfl, b5, p5⟩
  have P5 := hide p5
  have O5 := hide (O4.out.but1 P4.out b5)
  have B5 := hide (B4.out.trans (b5.mono (fun k _ e => .inl (.inl e))))
  have M5 := hide (M4.out.keep b5 (P4.out.av (by decide)) (P4.out.av (by decide)) (P4.out.av (by decide)))
  clear b5 p5 P4 O4 B4 M4
  obtain ⟨va, vd, vp, r0, r1, r2, r3⟩ := M5.out
  have R0 := hide r0
  have R1 := hide r1
  have R2 := hide r2
  have R3 := hide r3
  clear r0 r1 r2 r3 M5
  obtain ⟨⟨d0, d1, d2, d3, d4, d5, d6⟩, e0, e1, e2, e3, e4, e5, e6⟩ := seven_cells R0.out
  go_wp2_with fail
  go_end0
  rw [HE0.out h0]
  exact ⟨rfl, ⟨vn, c.s.med, c.s.org, c.s.add, c.s.del, c.s.clr, c.s.prep⟩, o.old ++ [tt], rb, ⟨va, vd, vp, (heap_setCell_same _ mb 0 _ 79 (.int .i64 vn) R0.out), (row_put R1.out R0.out (by decide) 0 (.int .i64 vn)), (row_put R2.out R0.out (by decide) 0 (.int .i64 vn)), (row_put R3.out R0.out (by decide) 0 (.int .i64 vn))⟩, (O5.out.put R0.out (by decide) (by decide) (by decide) 0 (.int .i64 vn)), HL.out, (B5.out.setCell (p := ⟨mb, 0, none⟩) (.inl (.inl (.inr rfl))) (.int .i64 vn)), (P5.out.put (p := ⟨mb, 0, none⟩) HB.out.2 HB.out.1 (.int .i64 vn)), fun a ha => okv_some ha⟩
 have hb0 := beq_ll (wd tk tt) [112, 114, 101, 102]
 rw [decide_eq_false h0] at hb0
 by_cases h1 : wd tk tt = (bs [109, 101, 100])
 ·
  have hb1 := beq_ll (wd tk tt) [109, 101, 100]
  rw [decide_eq_true h1] at hb1
  go_wp2_with fail
  refine (CO.out _ P2.out O2.out).mono ?_
  rintro e w3 ⟨rfl, rb, o3, l3, b3, p3⟩
  have P3 := hide p3
  have O3 := hide o3
  have HL : Hid (∀ g, rb = some g → o.rb = some g ∨ w.heap.size ≤ g) := fun g hg => (l3 g hg).imp id (fun h => Nat.le_trans B2.out.size h)
  have B3 := hide (B2.out.trans (b3.mono (fun k _ e => e.elim (fun e => .inl (.inl e)) .inr)))
  have M3 := hide (M2.out.keep b3 (av_or (P2.out.av (by decide)) (O2.out.av (by decide) (by decide))) (av_or (P2.out.av (by decide)) (O2.out.av (by decide) (by decide))) (av_or (P2.out.av (by decide)) (O2.out.av (by decide) (by decide))))
  clear b3 p3 o3 l3 c0 c1 c2 c3 P2 B2 N2 O2 M2 CS CF
  have HZ := hide (HZ2.out _ P3.out)
  go_wp2_with fail
  refine (CN2.out _ P3.out).mono ?_
  rintro e w4 ⟨rfl, b4, p4⟩
  have P4 := hide p4
  have O4 := hide (O3.out.but1 P3.out b4)
  have B4 := hide (B3.out.trans (b4.mono (fun k _ e => .inl (.inl e))))
  have M4 := hide (M3.out.keep b4 (P3.out.av (by decide)) (P3.out.av (by decide)) (P3.out.av (by decide)))
  clear b4 p4 P3 O3 B3 M3
  go_wp2_with fail
  refine (CXnum.out _ P4.out HZ.out).mono ?_
  rintro e w5 ⟨rfl, b5, p5⟩
  have P5 := hide p5
  have O5 := hide (O4.out.but1 P4.out b5)
  have B5 := hide (B4.out.trans (b5.mono (fun k _ e => .inl (.inl e))))
  have M5 := hide (M4.out.keep b5 (P4.out.av (by decide)) (P4.out.av (by decide)) (P4.out.av (by decide)))
  clear b5 p5 P4 O4 B4 M4
  obtain ⟨va, vd, vp, r0, r1, r2, r3⟩ := M5.out
  have R0 := hide r0
  have R1 := hide r1
  have R2 := hide r2
  have R3 := hide r3
  clear r0 r1 r2 r3 M5
  obtain ⟨⟨d0, d1, d2, d3, d4, d5, d6⟩, e0, e1, e2, e3, e4, e5, e6⟩ := seven_cells R0.out
  go_wp2_with fail
  go_end0
  rw [HE1.out h0 h1]
  exact ⟨rfl, ⟨c.s.pref, vn, c.s.org, c.s.add, c.s.del, c.s.clr, c.s.prep⟩, o.old ++ [tt], rb, ⟨va, vd, vp, (heap_setCell_same _ mb 1 _ 79 (.int .i64 vn) R0.out), (row_put R1.out R0.out (by decide) 1 (.int .i64 vn)), (row_put R2.out R0.out (by decide) 1 (.int .i64 vn)), (row_put R3.out R0.out (by decide) 1 (.int .i64 vn))⟩, (O5.out.put R0.out (by decide) (by decide) (by decide) 1 (.int .i64 vn)), HL.out, (B5.out.setCell (p := ⟨mb, 1, none⟩) (.inl (.inl (.inr rfl))) (.int .i64 vn)), (P5.out.put (p := ⟨mb, 1, none⟩) HB.out.2 HB.out.1 (.int .i64 vn)), fun a ha => okv_some ha⟩
 have hb1 := beq_ll (wd tk tt) [109, 101, 100]
 rw [decide_eq_false h1] at hb1
 by_cases h2 : wd tk tt = (bs [111, 114, 105, 103, 105, 110])
 ·
  have hb2 := beq_ll (wd tk tt) [111, 114, 105, 103, 105, 110]
  rw [decide_eq_true h2] at hb2
  go_wp2_with fail
  refine (CO.out _ P2.out O2.out).mono ?_
  rintro e w3 ⟨rfl, rb, o3, l3, b3, p3⟩
  have P3 := hide p3
  have O3 := hide o3
  have HL : Hid (∀ g, rb = some g → o.rb = some g ∨ w.heap.size ≤ g) := fun g hg => (l3 g hg).imp id (fun h => Nat.le_trans B2.out.size h)
  have B3 := hide (B2.out.trans (b3.mono (fun k _ e => e.elim (fun e => .inl (.inl e)) .inr)))
  have M3 := hide (M2.out.keep b3 (av_or (P2.out.av (by decide)) (O2.out.av (by decide) (by decide))) (av_or (P2.out.av (by decide)) (O2.out.av (by decide) (by decide))) (av_or (P2.out.av (by decide)) (O2.out.av (by decide) (by decide))))
  clear b3 p3 o3 l3 c0 c1 c2 c3 P2 B2 N2 O2 M2 CS CF
  have HZ := hide (HZ2.out _ P3.out)
  go_wp2_with fail
  refine (CN2.out _ P3.out).mono ?_
  rintro e w4 ⟨rfl, b4, p4⟩
  have P4 := hide p4
  have O4 := hide (O3.out.but1 P3.out b4)
  have B4 := hide (B3.out.trans (b4.mono (fun k _ e => .inl (.inl e))))
  have M4 := hide (M3.out.keep b4 (P3.out.av (by decide)) (P3.out.av (by decide)) (P3.out.av (by decide)))
  clear b4 p4 P3 O3 B3 M3
  go_wp2_with fail
  refine (CXorg.out _ P4.out HZ.out).mono ?_
  rintro e w5 ⟨rfl, b5, p5⟩
  have P5 := hide p5
  have O5 := hide (O4.out.but1 P4.out b5)
  have B5 := hide (B4.out.trans (b5.mono (fun k _ e => .inl (.inl e))))
  have M5 := hide (M4.out.keep b5 (P4.out.av (by decide)) (P4.out.av (by decide)) (P4.out.av (by decide)))
  clear b5 p5 P4 O4 B4 M4
  obtain ⟨va, vd, vp, r0, r1, r2, r3⟩ := M5.out
  have R0 := hide r0
  have R1 := hide r1
  have R2 := hide r2
  have R3 := hide r3
  clear r0 r1 r2 r3 M5
  obtain ⟨⟨d0, d1, d2, d3, d4, d5, d6⟩, e0, e1, e2, e3, e4, e5, e6⟩ := seven_cells R0.out
  go_wp2_with fail
  go_end0
  rw [HE2.out h0 h1 h2]
  exact ⟨rfl, ⟨c.s.pref, c.s.med, vo, c.s.add, c.s.del, c.s.clr, c.s.prep⟩, o.old ++ [tt], rb, ⟨va, vd, vp, (heap_setCell_same _ mb 2 _ 79 (.int .i64 vo) R0.out), (row_put R1.out R0.out (by decide) 2 (.int .i64 vo)), (row_put R2.out R0.out (by decide) 2 (.int .i64 vo)), (row_put R3.out R0.out (by decide) 2 (.int .i64 vo))⟩, (O5.out.put R0.out (by decide) (by decide) (by decide) 2 (.int .i64 vo)), HL.out, (B5.out.setCell (p := ⟨mb, 2, none⟩) (.inl (.inl (.inr rfl))) (.int .i64 vo)), (P5.out.put (p := ⟨mb, 2, none⟩) HB.out.2 HB.out.1 (.int .i64 vo)), fun a ha => okv_some ha⟩
 have hb2 := beq_ll (wd tk tt) [111, 114, 105, 103, 105, 110]
 rw [decide_eq_false h2] at hb2
 by_cases h3 : wd tk tt = (bs [99, 111, 109, 109, 117, 110, 105, 116, 121])
 ·
  have hb3 := beq_ll (wd tk tt) [99, 111, 109, 109, 117, 110, 105, 116, 121]
  rw [decide_eq_true h3] at hb3
  go_wp2_with fail
  refine (CS.out _ P2.out O2.out M2.out HLN.out (Nat.le_trans HN.out B2.out.size)).mono ?_
  rintro e w3 ⟨rfl, s', old', rb', m3, o3, l3, b3, p3, v3⟩
  go_wp2_with fail
  go_end0
  rw [HE3.out h0 h1 h2 h3]
  exact ⟨rfl, s', old', rb', m3, o3, fun g hg => (l3 g hg).imp id (fun h => Nat.le_trans B2.out.size h), B2.out.trans b3, p3, v3⟩
 have hb3 := beq_ll (wd tk tt) [99, 111, 109, 109, 117, 110, 105, 116, 121]
 rw [decide_eq_false h3] at hb3
 by_cases h4 : wd tk tt = (bs [112, 114, 101, 112, 101, 110, 100])
 ·
  have hb4 := beq_ll (wd tk tt) [112, 114, 101, 112, 101, 110, 100]
  rw [decide_eq_true h4] at hb4
  go_wp2_with fail
  refine (CO.out _ P2.out O2.out).mono ?_
  rintro e w3 ⟨rfl, rb, o3, l3, b3, p3⟩
  have P3 := hide p3
  have O3 := hide o3
  have HL : Hid (∀ g, rb = some g → o.rb = some g ∨ w.heap.size ≤ g) := fun g hg => (l3 g hg).imp id (fun h => Nat.le_trans B2.out.size h)
  have B3 := hide (B2.out.trans (b3.mono (fun k _ e => e.elim (fun e => .inl (.inl e)) .inr)))
  have M3 := hide (M2.out.keep b3 (av_or (P2.out.av (by decide)) (O2.out.av (by decide) (by decide))) (av_or (P2.out.av (by decide)) (O2.out.av (by decide) (by decide))) (av_or (P2.out.av (by decide)) (O2.out.av (by decide) (by decide))))
  clear b3 p3 o3 l3 c0 c1 c2 c3 P2 B2 N2 O2 M2 CS CF
  go_wp2_with fail
  refine (CV.out _ P3.out).mono ?_
  rintro e w5 ⟨v, l, rfl, r5, b5, p5, v5⟩
  have HV := hide v5
  have R5 := hide (row_from (B' := N) r5 (fun g hg => Nat.le_trans (Nat.le_trans HN.out B3.out.size) (r5.lt g hg).1))
  have P5 := hide p5
  have O5 := hide (O3.out.but1 P3.out b5)
  have B5 := hide (B3.out.trans (b5.mono (fun k _ e => .inl (.inl e))))
  have M5 := hide (M3.out.keep b5 (P3.out.av (by decide)) (P3.out.av (by decide)) (P3.out.av (by decide)))
  clear b5 p5 v5 r5 P3 O3 B3 M3
  obtain ⟨ao, n, cp, hv⟩ := own_slice R5.out
  subst hv
  obtain ⟨va, vd, vp, r0, r1, r2, r3⟩ := M5.out
  have R0 := hide r0
  have R1 := hide r1
  have R2 := hide r2
  have R3 := hide r3
  clear r0 r1 r2 r3 M5
  obtain ⟨⟨d0, d1, d2, d3, d4, d5, d6⟩, e0, e1, e2, e3, e4, e5, e6⟩ := seven_cells R0.out
  go_wp2_with fail
  go_end0
  have hx := HE4.out h0 h1 h2 h3 h4 l HV.out
  rw [hx.1]
  exact ⟨rfl, ⟨c.s.pref, c.s.med, c.s.org, c.s.add, c.s.del, c.s.clr, l⟩, o.old ++ [tt], rb, ⟨va, vd, (.slice ao n cp), (heap_setCell_same _ mb 6 _ 79 (.slice ao n cp) R0.out), (row_put R1.out R0.out (by decide) 6 (.slice ao n cp)), (row_put R2.out R0.out (by decide) 6 (.slice ao n cp)), (row_put R5.out R0.out (by decide) 6 (.slice ao n cp))⟩, (O5.out.put R0.out (by decide) (by decide) (by decide) 6 (.slice ao n cp)), HL.out, (B5.out.setCell (p := ⟨mb, 6, none⟩) (.inl (.inl (.inr rfl))) (.slice ao n cp)), (P5.out.put (p := ⟨mb, 6, none⟩) HB.out.2 HB.out.1 (.slice ao n cp)), hx.2⟩
 have hb4 := beq_ll (wd tk tt) [112, 114, 101, 112, 101, 110, 100]
 rw [decide_eq_false h4] at hb4
 go_wp2_with fail
 refine (CF.out _ P2.out).mono ?_
 rintro e w3 ⟨rfl, b3, p3⟩
 go_wp2_with fail
 go_end0
 rw [HED.out h0 h1 h2 h3 h4]
 exact ⟨rfl, c.s, o.old, o.rb, M2.out.keep b3 (P2.out.av (by decide)) (P2.out.av (by decide)) (P2.out.av (by decide)), O2.out.but1 P2.out b3, fun g hg => .inl hg, B2.out.trans (b3.mono (fun k _ e => .inl (.inl e))), p3, fun a ha => by cases ha⟩
theorem Ps.few {E : En} {w : World} {st : Sta} (h : Ps E w st) : st.len ≤ 100000 := by
 obtain ⟨_, _, ao, n, c, a1, a2, e, hg, hv⟩ := h
 cases st with
 | good r l => show r.length ≤ _; rw [hv.1]; exact hv.2.2.1
 | bad p q x => exact Nat.zero_le _
theorem avM {E : En} {w : World} {st : Sta} {o : Oc} {mb t : Nat} {m : Mt} (h : Ps E w st) (hm : MtAt w mb m) (ho : OcAt E w o) (h1 : t ≠ 62) (h2 : t ≠ 75) (h3 : t ≠ 126) (h4 : t ≠ 9) : Av w (fun k => (k = E.pb ∨ k = mb) ∨ o.S k) t := by
 refine av_or (av_or (h.av h1) ?_) (ho.av h3 h4)
 intro k cs hk e
 obtain rfl : k = mb := e
 have hm' : w.heap[k]? = _ := hm
 rw [hm'] at hk
 cases hk
 exact h2 rfl
theorem avS {E : En} {w : World} {st : Sta} {o : Oc} {N sb t : Nat} {s : Se} (h : Ps E w st) (hs : SeAt w N sb s) (ho : OcAt E w o) (h1 : t ≠ 62) (h2 : t ≠ 79) (h3 : t ≠ 126) (h4 : t ≠ 9) : Av w (fun k => (k = E.pb ∨ k = sb) ∨ o.S k) t := by
 refine av_or (av_or (h.av h1) ?_) (ho.av h3 h4)
 intro k cs hk e
 obtain rfl : k = sb := e
 obtain ⟨va, vd, vp, hs', _⟩ := hs
 rw [hs'] at hk
 cases hk
 exact h2 rfl
theorem OcAt.beside {E : En} {w w' : World} {o o' : Oc} (h : OcAt E w o) (h' : OcAt E w o') (hn : o.oc ≠ o'.oc) (hr : ∀ g, o.rb = some g → ¬ o'.rb = some g) {X : Nat → Prop} (hb : But (fun k => X k ∨ o'.S k) w w') (h1 : Av w X 126) (h2 : Av w X 59) (h3 : Av w X 9) : OcAt E w' o := by
 obtain ⟨v, r1, r2, r3⟩ := h.row
 refine h.of hb ?_ ?_ ?_
 ·
  rintro (e | e | e)
  ·
   exact h1 _ _ r1 e
  ·
   exact hn e
  exact h'.other r1 (by decide) e
 ·
  rintro (e | e | e)
  ·
   exact h2 _ _ h.box e
  ·
   obtain ⟨v', r1', _⟩ := h'.row
   have hx := h.box
   rw [e, r1'] at hx
   cases hx
  exact h'.other h.box (by decide) e
 intro g hg
 obtain ⟨_, _, cs, hc⟩ := h.rb g hg
 rintro (e | e | e)
 ·
  exact h3 _ _ hc e
 ·
  obtain ⟨v', r1', _⟩ := h'.row
  rw [e, r1'] at hc
  cases hc
 exact hr g hg e
structure Cb where
  bx : Nat
  mb : Nat
  fm : Nat
  sb : Nat
  fs : Nat
  mc : Nat
  mx : Nat
  sc : Nat
  sx : Nat
structure ClInv (E : En) (N : Nat) (b : Cb) (w : World) (S : Nat → Prop) (c : Cs) : Prop where
  box : w.heap[b.bx]? = some (.cells #[.pointer (some ⟨E.pb, 0, none⟩)] 59 (0, 0))
  fm : w.heap[b.fm]? = some (.cells #[Oc.fn ⟨b.mc, b.mx, [], none⟩] 96 (0, 0))
  fs : w.heap[b.fs]? = some (.cells #[Oc.fn ⟨b.sc, b.sx, [], none⟩] 96 (0, 0))
  m : MtAt w b.mb c.m
  s : SeAt w N b.sb c.s
  oc : ∃ r1 r2, OcAt E w ⟨b.mc, b.mx, c.ms, r1⟩ ∧ OcAt E w ⟨b.sc, b.sx, c.ss, r2⟩ ∧ (∀ k, S k ↔ (k = b.mb ∨ k = b.sb) ∨ (k = b.mc ∨ r1 = some k) ∨ (k = b.sc ∨ r2 = some k)) ∧ ∀ g, r1 = some g → ¬ r2 = some g
  base : E.w0.heap.size ≤ b.mb ∧ b.mb ≠ E.pb ∧ E.w0.heap.size ≤ b.sb ∧ b.sb ≠ E.pb ∧ b.mc ≠ b.sc
  deep : N ≤ w.heap.size
theorem SeAt.lt {w : World} {N sb : Nat} {s : Se} (h : SeAt w N sb s) : sb < w.heap.size := by
 obtain ⟨va, vd, vp, h, _⟩ := h
 exact heap_lt h
theorem ClInv.keep {E : En} {N : Nat} {b : Cb} {w w' : World} {S X : Nat → Prop} {c : Cs} (h : ClInv E N b w S c) (hb : But X w w') (ha : ∀ t, t ≠ 62 → t ≠ 95 → Av w X t) : ClInv E N b w' S c := by
 obtain ⟨r1, r2, h1, h2, h3, h4⟩ := h.oc
 have hoc : ∀ {o : Oc}, OcAt E w o → OcAt E w' o := fun {o} ho => by
  obtain ⟨v, q1, _⟩ := ho.row
  refine ho.of hb (ha 126 (by decide) (by decide) _ _ q1) (ha 59 (by decide) (by decide) _ _ ho.box) (fun g hg => ?_)
  obtain ⟨_, _, cs, hc⟩ := ho.rb g hg
  exact ha 9 (by decide) (by decide) _ _ hc
 exact ⟨hb.keep h.box (ha 59 (by decide) (by decide) _ _ h.box), hb.keep h.fm (ha 96 (by decide) (by decide) _ _ h.fm), hb.keep h.fs (ha 96 (by decide) (by decide) _ _ h.fs), h.m.keep hb (ha 75 (by decide) (by decide)), h.s.keep hb (ha 79 (by decide) (by decide)) (ha 73 (by decide) (by decide)) (ha 3 (by decide) (by decide)), ⟨r1, r2, hoc h1, hoc h2, h3, h4⟩, h.base, Nat.le_trans h.deep hb.size⟩
def fitW (ws l : List ByteArray) : Prop := l.length ≤ (ws.filter (inB l)).length
theorem filter_more {p q : ByteArray → Bool} {ws : List ByteArray} {x : ByteArray} (hpq : ∀ y, p y = true → q y = true) (hx : x ∈ ws) (hp : p x = false) (hq : q x = true) : (ws.filter p).length + 1 ≤ (ws.filter q).length := by
 induction ws with
 | nil => cases hx
 | cons y ws ih =>
  have hle : (ws.filter p).length ≤ (ws.filter q).length := by
   clear ih hx
   induction ws with
   | nil => exact Nat.le_refl _
   | cons z ws ih =>
    rw [List.filter_cons, List.filter_cons]
    by_cases hz : p z = true
    ·
     rw [if_pos hz, if_pos (hpq z hz)]; simp only [List.length_cons]; omega
    rw [if_neg hz]; split
    ·
     simp only [List.length_cons]; omega
    exact ih
  rw [List.filter_cons, List.filter_cons]
  rcases List.mem_cons.1 hx with rfl | hx
  ·
   rw [if_neg (by rw [hp]; decide), if_pos hq]
   simp only [List.length_cons]; omega
  have := ih hx
  by_cases hy : p y = true
  ·
   rw [if_pos hy, if_pos (hpq y hy)]; simp only [List.length_cons]; omega
  rw [if_neg hy]; split
  ·
   simp only [List.length_cons]; omega
  exact this
theorem inB_app (l : List ByteArray) (x y : ByteArray) : inB (l ++ [x]) y = (inB l y || decide (x = y)) := by
 unfold inB
 rw [List.any_append]
 simp
theorem fitW.step {ws l : List ByteArray} (h : fitW ws l) {x : ByteArray} (hx : x ∈ ws) (hn : inB l x = false) : fitW ws (l ++ [x]) := by
 unfold fitW at *
 have := filter_more (p := inB l) (q := inB (l ++ [x])) (ws := ws) (fun y hy => by rw [inB_app, hy, Bool.true_or]) hx hn (by rw [inB_app, decide_eq_true rfl, Bool.or_true])
 rw [List.length_append]
 simp only [List.length_cons, List.length_nil]
 omega
theorem fitW.le {ws l : List ByteArray} (h : fitW ws l) : l.length ≤ ws.length := Nat.le_trans h (List.length_filter_le _ _)
theorem fitW_nil (ws : List ByteArray) : fitW ws [] := Nat.zero_le _
theorem once_some (en : Int × Int) (old : List ByteArray) (s : ByteArray) (st : Sta) {l : List ByteArray} (h : ((once old s).exec en st).1 = some l) : inB old s = false ∧ l = old ++ [s] := by
 unfold once at h
 split at h
 ·
  cases st <;> cases h
 rename_i hn
 rw [exec_ret] at h
 exact ⟨by simpa using hn, (okv_some h).symm⟩
theorem wd_ne {k : Int} {s x : ByteArray} (h : wd k s = x) (hx : x ≠ bs []) : s = x := by
 unfold wd at h
 split at h
 ·
  exact h
 exact absurd h.symm hx
theorem fl_some {α : Type} (en : Int × Int) (e : Int) (st : Sta) {a : α} (h : ((Pg.fail e : Pg α).exec en st).1 = some a) : False := by cases st <;> cases h
theorem rt_some {α : Type} (en : Int × Int) (b : α) (st : Sta) {a : α} (h : ((Pg.ret b).exec en st).1 = some a) : b = a := by
 rw [exec_ret] at h
 exact okv_some h
theorem nx_some {α : Type} (en : Int × Int) (k : Int → ByteArray → Pg α) (st : Sta) {a : α} (h : ((Pg.next k).exec en st).1 = some a) : ∃ x s st', ((k x s).exec en st').1 = some a := by
 rw [exec_next] at h
 exact ⟨_, _, _, h⟩
def wsM : List ByteArray := [wPrefix, wPath, wComm]
def wsS : List ByteArray := [wPref, wMed, wOrigin, wPrepend, wAdd, wDel, wClear]
def fitC (c : Cs) : Prop := fitW wsM c.ms ∧ fitW wsS c.ss
theorem fitC.le {c : Cs} (h : fitC c) : c.ms.length ≤ 10000 ∧ c.ss.length ≤ 10000 := by
 have h1 := h.1.le
 have h2 := h.2.le
 have e1 : wsM.length = 3 := rfl
 have e2 : wsS.length = 7 := rfl
 omega
section
variable (F : Fn)
theorem match_fit (en : Int × Int) (c : Cs) (st : Sta) {a : Cs} (hc : fitC c) (h : ((pMatch F c).exec en st).1 = some a) : fitC a := by
 unfold pMatch at h
 obtain ⟨k, s, st1, h⟩ := nx_some _ _ _ h
 have one : ∀ (w : ByteArray), wd k s = w → w ≠ bs [] → w ∈ wsM → ∀ {ms : List ByteArray} {st : Sta}, ((once c.ms s).exec en st).1 = some ms → fitW wsM ms := by
  intro w hw h0 hm ms st ho
  obtain ⟨h1, rfl⟩ := once_some _ _ _ _ ho
  obtain rfl := wd_ne hw h0
  exact hc.1.step hm h1
 split at h
 ·
  rename_i hw
  obtain ⟨ms, h1, h2⟩ := exec_some _ _ _ _ h
  obtain ⟨k2, s2, st2, h2⟩ := nx_some _ _ _ h2
  obtain ⟨x, _, h3⟩ := exec_some _ _ _ _ h2
  obtain rfl := rt_some _ _ _ h3
  exact ⟨one _ hw (by decide) (by simp [wsM]) h1, hc.2⟩
 split at h
 ·
  rename_i hw
  obtain ⟨ms, h1, h2⟩ := exec_some _ _ _ _ h
  obtain ⟨k2, s2, st2, h2⟩ := nx_some _ _ _ h2
  obtain ⟨x, _, h3⟩ := exec_some _ _ _ _ h2
  obtain rfl := rt_some _ _ _ h3
  exact ⟨one _ hw (by decide) (by simp [wsM]) h1, hc.2⟩
 split at h
 ·
  rename_i hw
  obtain ⟨ms, h1, h2⟩ := exec_some _ _ _ _ h
  obtain ⟨k2, s2, st2, h2⟩ := nx_some _ _ _ h2
  obtain ⟨x, _, h3⟩ := exec_some _ _ _ _ h2
  obtain rfl := rt_some _ _ _ h3
  exact ⟨one _ hw (by decide) (by simp [wsM]) h1, hc.2⟩
 exact (fl_some _ _ _ h).elim
theorem setC_fit (f : Nat) (en : Int × Int) (c : Cs) (st : Sta) {a : Cs} (hc : fitC c) (h : ((pSetC F f c).exec en st).1 = some a) : fitC a := by
 unfold pSetC at h
 obtain ⟨k, s, st1, h⟩ := nx_some _ _ _ h
 have one : ∀ (w : ByteArray), wd k s = w → w ≠ bs [] → w ∈ wsS → ∀ {ms : List ByteArray} {st : Sta}, ((once c.ss s).exec en st).1 = some ms → fitW wsS ms := by
  intro w hw h0 hm ms st ho
  obtain ⟨h1, rfl⟩ := once_some _ _ _ _ ho
  obtain rfl := wd_ne hw h0
  exact hc.2.step hm h1
 split at h
 ·
  rename_i hw
  obtain ⟨ms, h1, h2⟩ := exec_some _ _ _ _ h
  obtain ⟨x, _, h3⟩ := exec_some _ _ _ _ h2
  obtain rfl := rt_some _ _ _ h3
  exact ⟨hc.1, one _ hw (by decide) (by simp [wsS]) h1⟩
 split at h
 ·
  rename_i hw
  obtain ⟨ms, h1, h2⟩ := exec_some _ _ _ _ h
  obtain ⟨x, _, h3⟩ := exec_some _ _ _ _ h2
  obtain rfl := rt_some _ _ _ h3
  exact ⟨hc.1, one _ hw (by decide) (by simp [wsS]) h1⟩
 split at h
 ·
  rename_i hw
  obtain ⟨ms, h1, h2⟩ := exec_some _ _ _ _ h
  obtain rfl := rt_some _ _ _ h2
  exact ⟨hc.1, one _ hw (by decide) (by simp [wsS]) h1⟩
 exact (fl_some _ _ _ h).elim
theorem set_fit (f : Nat) (en : Int × Int) (c : Cs) (st : Sta) {a : Cs} (hc : fitC c) (h : ((pSet F f c).exec en st).1 = some a) : fitC a := by
 unfold pSet at h
 obtain ⟨k, s, st1, h⟩ := nx_some _ _ _ h
 have one : ∀ (w : ByteArray), wd k s = w → w ≠ bs [] → w ∈ wsS → ∀ {ms : List ByteArray} {st : Sta}, ((once c.ss s).exec en st).1 = some ms → fitW wsS ms := by
  intro w hw h0 hm ms st ho
  obtain ⟨h1, rfl⟩ := once_some _ _ _ _ ho
  obtain rfl := wd_ne hw h0
  exact hc.2.step hm h1
 split at h
 ·
  rename_i hw
  obtain ⟨ms, h1, h2⟩ := exec_some _ _ _ _ h
  obtain ⟨k2, s2, st2, h2⟩ := nx_some _ _ _ h2
  obtain ⟨x, _, h3⟩ := exec_some _ _ _ _ h2
  obtain rfl := rt_some _ _ _ h3
  exact ⟨hc.1, one _ hw (by decide) (by simp [wsS]) h1⟩
 split at h
 ·
  rename_i hw
  obtain ⟨ms, h1, h2⟩ := exec_some _ _ _ _ h
  obtain ⟨k2, s2, st2, h2⟩ := nx_some _ _ _ h2
  obtain ⟨x, _, h3⟩ := exec_some _ _ _ _ h2
  obtain rfl := rt_some _ _ _ h3
  exact ⟨hc.1, one _ hw (by decide) (by simp [wsS]) h1⟩
 split at h
 ·
  rename_i hw
  obtain ⟨ms, h1, h2⟩ := exec_some _ _ _ _ h
  obtain ⟨k2, s2, st2, h2⟩ := nx_some _ _ _ h2
  obtain ⟨x, _, h3⟩ := exec_some _ _ _ _ h2
  obtain rfl := rt_some _ _ _ h3
  exact ⟨hc.1, one _ hw (by decide) (by simp [wsS]) h1⟩
 split at h
 ·
  exact setC_fit F f en c _ hc h
 split at h
 ·
  rename_i hw
  obtain ⟨ms, h1, h2⟩ := exec_some _ _ _ _ h
  obtain ⟨x, _, h3⟩ := exec_some _ _ _ _ h2
  obtain rfl := rt_some _ _ _ h3
  exact ⟨hc.1, one _ hw (by decide) (by simp [wsS]) h1⟩
 exact (fl_some _ _ _ h).elim
def pAbt (f : Nat) (c : Cs) (k : Int) (s : ByteArray) : Pg Cs := if wd k s = wMatch then pMatch F c else if wd k s = wSet then pSet F f c else .fail 4
theorem clausePart_exec (f : Nat) (en : Int × Int) (c y : Cs) (k : Int) (s : ByteArray) (st : Sta) (hy : ∀ a, ((pAbt F f c k s).exec en st).1 = some a → y = a) : (pClausePart F f c k s).exec en st = (okv y ((pMark 59).exec en ((pAbt F f c k s).exec en st).2).2, ((pMark 59).exec en ((pAbt F f c k s).exec en st).2).2) := by
 have h := exec_then en (pAbt F f c k s) (fun c => (pMark 59).bind fun _ => Pg.ret c) st y hy
 exact h.trans (mark_ret en 59 y _)
theorem clausePart_fit (f : Nat) (en : Int × Int) (c : Cs) (k : Int) (s : ByteArray) (st : Sta) {a : Cs} (hc : fitC c) (h : ((pClausePart F f c k s).exec en st).1 = some a) : fitC a := by
 obtain ⟨y, h1, h2⟩ := exec_some en (pAbt F f c k s) (fun c => (pMark 59).bind fun _ => Pg.ret c) st h
 obtain ⟨_, _, h3⟩ := exec_some _ _ _ _ h2
 obtain rfl := rt_some _ _ _ h3
 unfold pAbt at h1
 split at h1
 ·
  exact match_fit F en c st hc h1
 split at h1
 ·
  exact set_fit F f en c st hc h1
 exact (fl_some _ _ _ h1).elim
end
end Go.Proofs.YtnadhplhnfpeaaaGreatDoor
