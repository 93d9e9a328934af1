/- Part of the proof. -/
import Derived.Test.YtnadhplhnfpeaaaGreatDoorAZ
import Derived.Test.YtnadhplhnfpeaaaGreatDoorA12
namespace Go.Proofs.YtnadhplhnfpeaaaGreatDoor
open Go.RowKit Go.Sort
def CpTo (E : En) (N : Nat) (b : Cb) (S : Nat → Prop) (R : Option Cs × Sta) (w w' : World) : Prop := ∃ y S', ClInv E N b w' S' y ∧ But (orS E.pb S) w w' ∧ (∀ k, S' k → S k ∨ w.heap.size ≤ k) ∧ Ps E w' R.2 ∧ ∀ a, R.1 = some a → y = a
set_option maxHeartbeats 4000000 in
set_option maxRecDepth 100000 in
theorem clausePart_is {T : World → Prop} {F : Fn} (K : Kit12 T F) (E : En) (hT : T E.w0) (N : Nat) (b : Cb) (f : Nat) (w : World) (S : Nat → Prop) (c : Cs) (st : Sta) (t : Tv) (h : Ps E w st) (hi : ClInv E N b w S c) (hat : At t st) (hl : c.ms.length ≤ 10000 ∧ c.ss.length ≤ 10000) (hf : 100000 < f) : Calls Tryz.prog 93 #[t.val, .pointer (some ⟨b.bx, 0, none⟩), .pointer (some ⟨b.mb, 0, none⟩), .pointer (some ⟨b.fm, 0, none⟩), .pointer (some ⟨b.sb, 0, none⟩), .pointer (some ⟨b.fs, 0, none⟩)] w fun e w' => e = .returned (.tuple #[]) ∧ CpTo E N b S ((pClausePart F f c t.k t.s).exec E.en st) w w' := by
 unfold CpTo
 have A0 := hide (balloc (brefl w) (.cells #[.int .i64 t.k, .string t.s, .int .i64 t.p, .int .i64 t.q] 95))
 have N0 := hide (heap_new w #[.int .i64 t.k, .string t.s, .int .i64 t.p, .int .i64 t.q] 95)
 have P0 := hide (h.below A0.out)
 have I0 := hide (hi.keep (S := S) (X := fun _ => False) (But.of A0.out) (fun _ _ _ _ _ _ h => h))
 have HPB := hide h.lt
 have CW := hide (word_is t)
 have HLF : Hid (st.len < f) := Nat.lt_of_le_of_lt h.few hf
 have HEX := hide (fun y hy => clausePart_exec F f E.en c y t.k t.s st hy)
 unfold pAbt at HEX
 obtain ⟨R, hR⟩ : ∃ R, (pClausePart F f c t.k t.s).exec E.en st = R := ⟨_, rfl⟩
 rw [hR] at HEX ⊢
 clear hR h hi hf
 have HE0 : Hid (wd t.k t.s = wMatch → ∀ y, (∀ a, ((pMatch F c).exec E.en st).1 = some a → y = a) → R = (okv y ((pMark 59).exec E.en ((pMatch F c).exec E.en st).2).2, ((pMark 59).exec E.en ((pMatch F c).exec E.en st).2).2)) := fun h0 y hy => by
  have := HEX.out y
  rw [if_pos h0] at this
  exact this hy
 have HE1 : Hid (¬ wd t.k t.s = wMatch → wd t.k t.s = wSet → ∀ y, (∀ a, ((pSet F f c).exec E.en st).1 = some a → y = a) → R = (okv y ((pMark 59).exec E.en ((pSet F f c).exec E.en st).2).2, ((pMark 59).exec E.en ((pSet F f c).exec E.en st).2).2)) := fun h0 h1 y hy => by
  have := HEX.out y
  rw [if_neg h0, if_pos h1] at this
  exact this hy
 have HE2 : Hid (¬ wd t.k t.s = wMatch → ¬ wd t.k t.s = wSet → R = (okv c ((pMark 59).exec E.en (faulted t 4 st)).2, ((pMark 59).exec E.en (faulted t 4 st)).2)) := fun h0 h1 => by
  have := HEX.out c
  rw [if_neg h0, if_neg h1, exec_fail E.en hat (by decide)] at this
  exact this (fun a ha => by cases ha)
 have CF := hide (fault_is E st t 4)
 have CM := hide (fun W o hW hO hM hB hC hL => match_is K E hT o b.mb c st W hW hO hM hB hC hL)
 have CS := hide (fun W o hW hO hM hB hC hL hN => set_is K E hT o N b.sb f c st W hW hO hM hB hC hL HLF.out hN)
 unfold MatchTo at CM
 unfold SetTo at CS
 have CD := hide (fun st' W hW => mark_d E st' 59 W hW)
 have HL := hide hl
 clear HEX hat hl HLF
 generalize (pMatch F c).exec E.en st = RM at *
 generalize (pSet F f c).exec E.en st = RS at *
 obtain ⟨bx, mb, fm, sb, fs, mc, mx, sc, sx⟩ := b
 obtain ⟨W0, pb, en⟩ := E
 obtain ⟨tk, tt, tp, tq⟩ := t
 simp only [Tv.val] at *
 go_enter_defers Tryz.func93, Tryz.ntmps93
 go_upto_region 1 with fail
 obtain ⟨tb, htb⟩ : ∃ tb, w.heap.size = tb := ⟨_, rfl⟩
 rw [htb] at N0 ⊢
 have B0 := hide (But.of (S := orS pb S) A0.out)
 generalize w.alloc (.cells #[.int .i64 tk, .string tt, .int .i64 tp, .int .i64 tq] 95) = W at *
 clear htb A0
 obtain ⟨b0, _⟩ := one_cell I0.out.box
 go_upto_region 2 with fail
 obtain ⟨⟨c0, c1, c2, c3⟩, _⟩ := four_cells N0.out
 go_wp2_with fail
 refine (CW.out _).mono ?_
 rintro e w2 ⟨rfl, b2⟩
 have P2 := hide (P0.out.below b2)
 have B2 := hide (B0.out.trans (But.of b2))
 have N2 := hide ((b2.block tb (heap_lt N0.out)).trans N0.out)
 have I2 := hide (I0.out.keep (X := fun _ => False) (But.of b2) (fun _ _ _ _ _ _ h => h))
 clear b2 CW c0 c1 c2 c3 b0 P0 B0 N0 I0
 obtain ⟨r1, r2, om, os, hS, hr⟩ := I2.out.oc
 have OM := hide om
 have OS := hide os
 have HS := hide hS
 have HRR := hide hr
 clear om os hS hr
 obtain ⟨b0, _⟩ := one_cell I2.out.box
 obtain ⟨m0, _⟩ := one_cell I2.out.fm
 obtain ⟨s0, _⟩ := one_cell I2.out.fs
 obtain ⟨⟨c0, c1, c2, c3⟩, _⟩ := four_cells N2.out
 unfold wMatch at HE0
 unfold wMatch wSet at HE1
 unfold wMatch wSet at HE2
 by_cases h0 : wd tk tt = (bs [109, 97, 116, 99, 104])
 ·
  have hb0 := beq_ll (wd tk tt) [109, 97, 116, 99, 104]
  rw [decide_eq_true h0] at hb0
  go_wp2_with fail
  refine (CM.out w2 ⟨mc, mx, c.ms, r1⟩ P2.out OM.out I2.out.m ⟨I2.out.base.1, I2.out.base.2.1⟩ rfl HL.out.1).mono ?_
  rintro e w3 ⟨rfl, m', old', rb', m3, o3, l3, b3, p3, v3⟩
  have P3 := hide p3
  have av := fun t h1 h2 h3 h4 => avM (t := t) P2.out I2.out.m OM.out h1 h2 h3 h4
  have OS3 := hide (OS.out.beside OM.out (Ne.symm I2.out.base.2.2.2.2) (fun g h1 h2 => HRR.out g h2 h1) b3 (fun k cs hk e => e.elim (P2.out.av (by decide) k cs hk) (fun e => by have hm : w2.heap[k]? = _ := (show k = mb from e) ▸ I2.out.m; rw [hm] at hk; cases hk)) (fun k cs hk e => e.elim (P2.out.av (by decide) k cs hk) (fun e => by have hm : w2.heap[k]? = _ := (show k = mb from e) ▸ I2.out.m; rw [hm] at hk; cases hk)) (fun k cs hk e => e.elim (P2.out.av (by decide) k cs hk) (fun e => by have hm : w2.heap[k]? = _ := (show k = mb from e) ▸ I2.out.m; rw [hm] at hk; cases hk)))
  have I3 : Hid (ClInv ⟨W0, pb, en⟩ N ⟨bx, mb, fm, sb, fs, mc, mx, sc, sx⟩ w3 (fun k => (k = mb ∨ k = sb) ∨ (k = mc ∨ rb' = some k) ∨ (k = sc ∨ r2 = some k)) ⟨m', c.s, old', c.ss⟩) := ⟨b3.keep I2.out.box (av 59 (by decide) (by decide) (by decide) (by decide) _ _ I2.out.box), b3.keep I2.out.fm (av 96 (by decide) (by decide) (by decide) (by decide) _ _ I2.out.fm), b3.keep I2.out.fs (av 96 (by decide) (by decide) (by decide) (by decide) _ _ I2.out.fs), m3, I2.out.s.keep b3 (av 79 (by decide) (by decide) (by decide) (by decide)) (av 73 (by decide) (by decide) (by decide) (by decide)) (av 3 (by decide) (by decide) (by decide) (by decide)), ⟨rb', r2, o3, OS3.out, fun _ => Iff.rfl, fun g h1 h2 => (l3 g h1).elim (fun h => HRR.out g h h2) (fun h => by have := (OS.out.rb g h2).2.1; omega)⟩, I2.out.base, Nat.le_trans I2.out.deep b3.size⟩
  have HS3 : Hid (∀ k, (k = mb ∨ k = sb) ∨ (k = mc ∨ rb' = some k) ∨ (k = sc ∨ r2 = some k) → S k ∨ w.heap.size ≤ k) := by
   rintro k (e | (e | e) | e)
   ·
    exact .inl ((HS.out k).2 (.inl e))
   ·
    exact .inl ((HS.out k).2 (.inr (.inl (.inl e))))
   ·
    rcases l3 k e with h | h
    ·
     exact .inl ((HS.out k).2 (.inr (.inl (.inr h))))
    exact .inr (Nat.le_trans B2.out.size h)
   exact .inl ((HS.out k).2 (.inr (.inr e)))
  have B3 := hide (B2.out.trans (b3.mono fun k _ e => by
    rcases e with (e | e) | e
    · exact .inl e
    · exact .inr ((HS.out k).2 (.inl (.inl e)))
    · exact .inr ((HS.out k).2 (.inr (.inl e)))))
  have HX := hide (HE0.out h0 _ v3)
  clear p3 m3 o3 l3 b3 v3 av CM CS CF HE0 HE1 HE2 OM OS OS3 I2 P2 B2 N2 HS HRR b0 m0 s0 c0 c1 c2 c3
  go_wp2_with fail
  refine leaves_cons (f := 70) (args := #[.pointer (some ⟨pb, 0, none⟩), .string (bs [59])]) (by simp) (by simp [go_sem]) ?_
  refine (CD.out _ _ P3.out).mono ?_
  rintro e u' w9 ⟨rfl, rfl, b9, p9⟩
  refine ⟨.tuple #[], by simp [results, Tryz.results93, go_sem], rfl, ⟨m', c.s, old', c.ss⟩, _, I3.out.keep b9 (fun t h1 _ => P3.out.av h1), B3.out.trans (b9.mono fun k _ e => .inl e), HS3.out, ?_, ?_⟩
  ·
   rw [HX.out]
   exact p9
  intro a ha
  rw [HX.out] at ha
  exact okv_some ha
 have hb0 := beq_ll (wd tk tt) [109, 97, 116, 99, 104]
 rw [decide_eq_false h0] at hb0
 by_cases h1 : wd tk tt = (bs [115, 101, 116])
 ·
  have hb1 := beq_ll (wd tk tt) [115, 101, 116]
  rw [decide_eq_true h1] at hb1
  go_wp2_with fail
  refine (CS.out w2 ⟨sc, sx, c.ss, r2⟩ P2.out OS.out I2.out.s ⟨I2.out.base.2.2.1, I2.out.base.2.2.2.1⟩ rfl HL.out.2 I2.out.deep).mono ?_
  rintro e w3 ⟨rfl, s', old', rb', m3, o3, l3, b3, p3, v3⟩
  have P3 := hide p3
  have av := fun t h1 h2 h3 h4 => avS (t := t) P2.out I2.out.s OS.out h1 h2 h3 h4
  have OS3 := hide (OM.out.beside OS.out I2.out.base.2.2.2.2 (fun g h1 h2 => HRR.out g h1 h2) b3 (fun k cs hk e => e.elim (P2.out.av (by decide) k cs hk) (fun e => by obtain ⟨va, vd, vp, hm, _⟩ := I2.out.s; rw [show k = sb from e] at hk; simp only at hm; rw [hm] at hk; cases hk)) (fun k cs hk e => e.elim (P2.out.av (by decide) k cs hk) (fun e => by obtain ⟨va, vd, vp, hm, _⟩ := I2.out.s; rw [show k = sb from e] at hk; simp only at hm; rw [hm] at hk; cases hk)) (fun k cs hk e => e.elim (P2.out.av (by decide) k cs hk) (fun e => by obtain ⟨va, vd, vp, hm, _⟩ := I2.out.s; rw [show k = sb from e] at hk; simp only at hm; rw [hm] at hk; cases hk)))
  have I3 : Hid (ClInv ⟨W0, pb, en⟩ N ⟨bx, mb, fm, sb, fs, mc, mx, sc, sx⟩ w3 (fun k => (k = mb ∨ k = sb) ∨ (k = mc ∨ r1 = some k) ∨ (k = sc ∨ rb' = some k)) ⟨c.m, s', c.ms, old'⟩) := ⟨b3.keep I2.out.box (av 59 (by decide) (by decide) (by decide) (by decide) _ _ I2.out.box), b3.keep I2.out.fm (av 96 (by decide) (by decide) (by decide) (by decide) _ _ I2.out.fm), b3.keep I2.out.fs (av 96 (by decide) (by decide) (by decide) (by decide) _ _ I2.out.fs), I2.out.m.keep b3 (av 75 (by decide) (by decide) (by decide) (by decide)), m3, ⟨r1, rb', OS3.out, o3, fun _ => Iff.rfl, fun g h1 h2 => (l3 g h2).elim (fun h => HRR.out g h1 h) (fun h => by have := (OM.out.rb g h1).2.1; omega)⟩, I2.out.base, Nat.le_trans I2.out.deep b3.size⟩
  have HS3 : Hid (∀ k, (k = mb ∨ k = sb) ∨ (k = mc ∨ r1 = some k) ∨ (k = sc ∨ rb' = some k) → S k ∨ w.heap.size ≤ k) := by
   rintro k (e | e | (e | e))
   ·
    exact .inl ((HS.out k).2 (.inl e))
   ·
    exact .inl ((HS.out k).2 (.inr (.inl e)))
   ·
    exact .inl ((HS.out k).2 (.inr (.inr (.inl e))))
   rcases l3 k e with h | h
   ·
    exact .inl ((HS.out k).2 (.inr (.inr (.inr h))))
   exact .inr (Nat.le_trans B2.out.size h)
  have B3 := hide (B2.out.trans (b3.mono fun k _ e => by
    rcases e with (e | e) | e
    · exact .inl e
    · exact .inr ((HS.out k).2 (.inl (.inr e)))
    · exact .inr ((HS.out k).2 (.inr (.inr e)))))
  have HX := hide (HE1.out h0 h1 _ v3)
  clear p3 m3 o3 l3 b3 v3 av CM CS CF HE0 HE1 HE2 OM OS OS3 I2 P2 B2 N2 HS HRR b0 m0 s0 c0 c1 c2 c3
  go_wp2_with fail
  refine leaves_cons (f := 70) (args := #[.pointer (some ⟨pb, 0, none⟩), .string (bs [59])]) (by simp) (by simp [go_sem]) ?_
  refine (CD.out _ _ P3.out).mono ?_
  rintro e u' w9 ⟨rfl, rfl, b9, p9⟩
  refine ⟨.tuple #[], by simp [results, Tryz.results93, go_sem], rfl, ⟨c.m, s', c.ms, old'⟩, _, I3.out.keep b9 (fun t h1 _ => P3.out.av h1), B3.out.trans (b9.mono fun k _ e => .inl e), HS3.out, ?_, ?_⟩
  ·
   rw [HX.out]
   exact p9
  intro a ha
  rw [HX.out] at ha
  exact okv_some ha
 have hb1 := beq_ll (wd tk tt) [115, 101, 116]
 rw [decide_eq_false h1] at hb1
 have HX := hide (HE2.out h0 h1)
 clear CM CS HE0 HE1 HE2 OM OS HRR
 go_wp2_with fail
 refine (CF.out _ P2.out).mono ?_
 rintro e w3 ⟨rfl, b3, p3⟩
 have P3 := hide p3
 have I3 := hide (I2.out.keep b3 (fun t h1 _ => P2.out.av h1))
 have B3 := hide (B2.out.trans (b3.mono fun k _ e => .inl e))
 have HS3 : Hid (∀ k, S k → S k ∨ w.heap.size ≤ k) := fun k e => .inl e
 clear p3 b3 CF P2 B2 N2 I2 HS b0 m0 s0 c0 c1 c2 c3
 go_wp2_with fail
 refine leaves_cons (f := 70) (args := #[.pointer (some ⟨pb, 0, none⟩), .string (bs [59])]) (by simp) (by simp [go_sem]) ?_
 refine (CD.out _ _ P3.out).mono ?_
 rintro e u' w9 ⟨rfl, rfl, b9, p9⟩
 refine ⟨.tuple #[], by simp [results, Tryz.results93, go_sem], rfl, c, S, I3.out.keep b9 (fun t h1 _ => P3.out.av h1), B3.out.trans (b9.mono fun k _ e => .inl e), HS3.out, ?_, ?_⟩
 ·
  rw [HX.out]
  exact p9
 intro a ha
 rw [HX.out] at ha
 exact okv_some ha
end Go.Proofs.YtnadhplhnfpeaaaGreatDoor
