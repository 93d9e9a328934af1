/- Part of the proof. -/
import Derived.Test.YtnadhplhnfpeaaaGreatDoorAZ
import Derived.Test.YtnadhplhnfpeaaaGreatDoorA08
namespace Go.Proofs.YtnadhplhnfpeaaaGreatDoor
open Go.RowKit Go.Sort
theorem RgAt.keep {S : Nat → Prop} {w w' : World} {b : Nat} {r : Rg} (h : RgAt w b r) (hb : But S w w') (hs : ¬ S b) : RgAt w' b r := hb.keep h hs
set_option maxHeartbeats 4000000 in
set_option maxRecDepth 100000 in
theorem bound_is {T : World → Prop} {F : Fn} (K : Kit12 T F) (E : En) (sf : Nat) (set : Rg → Int → Rg) (HS : SetIs sf set) (x : ByteArray) (bx rc : Nat) (r : Rg) (st : Sta) (w : World) (h : Ps E w st) (hT : T E.w0) (hbx : w.heap[bx]? = some (.cells #[.pointer (some ⟨E.pb, 0, none⟩)] 59 (0, 0))) (hrc : RgAt w rc r) (hr0 : E.w0.heap.size ≤ rc) (hne : rc ≠ E.pb ∧ bx ≠ E.pb ∧ bx ≠ rc) : Calls Tryz.prog 88 #[.string x, .func (.func sf) #[] #[.pointer (some ⟨rc, 0, none⟩)], .pointer (some ⟨bx, 0, none⟩), .pointer (some ⟨rc, 0, none⟩)] w fun e w' => e = .returned (.tuple #[]) ∧ BoundTo E rc w ((pBound F x set r).exec E.en st) w' := by
 unfold BoundTo
 have CO := hide (option_is E st x w h)
 have H := hide h
 have HT := hide hT
 have HBX := hide hbx
 have HRC := hide hrc
 have HNE := hide hne
 have HR0 := hide hr0
 have HH := hide HS
 have eg := HS.eg
 obtain ⟨b0, _⟩ := one_cell hbx
 clear h hT hbx hrc hne hr0 HS
 cases hw : isW x (headS st) with
 | false =>
  have HX := hide (bound_no F E.en x set r st (by rw [hw]; decide))
  rw [HX.out]
  rw [hw] at CO
  clear hw HX
  obtain ⟨W0, pb, en⟩ := E
  simp only at *
  go_enter Tryz.func88, Tryz.ntmps88
  go_wp2_with fail
  refine CO.out.mono ?_
  rintro e w1 ⟨rfl, b1, p1⟩
  rw [if_neg (by decide)] at p1
  have P1 := hide p1
  have B1 := hide b1
  clear b1 p1
  go_wp2_with fail
  refine bodyPost_ret (v := .tuple #[]) (by simp [results, Tryz.results88]) rfl ?_
  exact ⟨rfl, r, HRC.out.keep B1.out HNE.out.1, B1.out.mono (fun k _ e => .inl e), P1.out, fun a ha => by cases st with | good r0 l0 => cases ha; rfl | bad p q e => cases ha⟩
 | true =>
  rw [hw] at CO
  obtain ⟨t, ht⟩ : ∃ t, (taken E.en (taken E.en st).2).1 = t := ⟨_, rfl⟩
  obtain ⟨st1, hst1⟩ : ∃ st1, (taken E.en (taken E.en st).2).2 = st1 := ⟨_, rfl⟩
  obtain ⟨n, hn⟩ : ∃ n, (F.num (wd t.k t.s) 0 9223372036854775807).1 = n := ⟨_, rfl⟩
  obtain ⟨er, her⟩ : ∃ er, (F.num (wd t.k t.s) 0 9223372036854775807).2 = er := ⟨_, rfl⟩
  have HX := hide (bound_yes F E.en x set r st hw t st1 ht hst1 n er hn her)
  obtain ⟨fin, hfin⟩ : ∃ fin, faulted t (if F.may (set r n) = true then 0 else 7) (faulted t er st1) = fin := ⟨_, rfl⟩
  rw [HX.out, hfin]
  obtain ⟨R1, hR1⟩ : ∃ R1, set r n = R1 := ⟨_, rfl⟩
  rw [hR1] at hfin ⊢
  have HR1 := hide hR1
  have HFIN := hide hfin
  clear hR1
  have CN := hide (next_is E (taken E.en st).2)
  rw [ht, hst1] at CN
  have HSZ : Hid (∀ W, Ps E W (taken E.en st).2 → t.s.size ≤ 1000) := fun W hW => by have := taken_size hW; rw [ht] at this; exact this
  have CM := hide (fun W hW (hz : t.s.size ≤ 1000) => number_is K E st1 t 0 9223372036854775807 W hW HT.out hz)
  rw [hn, her] at CM
  have CF := hide (fault_is E (faulted t er st1) t 7)
  clear hw HX hfin ht hst1 hn her
  generalize (taken E.en st).2 = st0 at *
  obtain ⟨W0, pb, en⟩ := E
  obtain ⟨tk, tt, tp, tq⟩ := t
  simp only [Tv.val] at *
  go_enter Tryz.func88, Tryz.ntmps88
  go_wp2_with fail
  refine CO.out.mono ?_
  rintro e w1 ⟨rfl, b1, p1⟩
  simp only [if_true] at p1
  have P1 := hide p1
  have B1 := hide b1
  have X1 := hide (b1.keep HBX.out HNE.out.2.1)
  have C1 := hide (HRC.out.keep b1 HNE.out.1)
  have HZ := hide (HSZ.out _ p1)
  clear b1 p1 CO b0 HSZ
  obtain ⟨b0, _⟩ := one_cell X1.out
  go_wp2_with fail
  refine (CN.out _ P1.out).mono ?_
  rintro e w2 ⟨rfl, b2, p2⟩
  have A2 := hide (balloc (brefl w2) (.cells #[.int .i64 tk, .string tt, .int .i64 tp, .int .i64 tq] 95))
  have M2 := hide (heap_new w2 #[.int .i64 tk, .string tt, .int .i64 tp, .int .i64 tq] 95)
  have P2 := hide (p2.below A2.out)
  have B2 := hide ((B1.out.trans b2).trans (But.of A2.out))
  have X2 := hide ((A2.out.block bx (Nat.lt_of_lt_of_le (heap_lt X1.out) b2.size)).trans (b2.keep X1.out HNE.out.2.1))
  have C2 := hide ((C1.out.keep b2 HNE.out.1).keep (But.of (S := fun _ => False) A2.out) (fun h => h))
  have HTB : Hid (w2.heap.size ≠ pb ∧ w2.heap.size ≠ rc) := by
   have h1 := p2.lt
   have h2 := heap_lt C1.out
   have h3 := b2.size
   simp only at h1
   exact ⟨by omega, by omega⟩
  clear b2 p2 CN b0 P1 B1 X1 C1
  go_upto_region 2 with fail
  obtain ⟨tb, htb⟩ : ∃ tb, w2.heap.size = tb := ⟨_, rfl⟩
  rw [htb] at M2 HTB ⊢
  generalize w2.alloc (.cells #[.int .i64 tk, .string tt, .int .i64 tp, .int .i64 tq] 95) = W2 at *
  clear htb A2
  obtain ⟨⟨c0, c1, c2, c3⟩, _⟩ := four_cells M2.out
  obtain ⟨b0, _⟩ := one_cell X2.out
  go_wp2_with fail
  refine (CM.out _ P2.out HZ.out).mono ?_
  rintro e w3 ⟨rfl, b3, p3⟩
  have P3 := hide p3
  have B3 := hide (B2.out.trans b3)
  have X3 := hide (b3.keep X2.out HNE.out.2.1)
  have C3 := hide (C2.out.keep b3 HNE.out.1)
  have M3 := hide (b3.keep M2.out HTB.out.1)
  clear b3 p3 CM b0 c0 c1 c2 c3 P2 B2 X2 C2 M2
  have CS := hide (HH.out.call r n rc w3 C3.out)
  go_wp2_with fail
  refine CS.out.mono ?_
  rintro e w4 ⟨rfl, c4, b4⟩
  have P4 := hide (P3.out.of b4 (fun e => HNE.out.1 e.symm) (fun k e => by rw [e]; exact HR0.out))
  have B4 : Hid (But (orS pb (fun k => k = rc)) w w4) := (B3.out.mono fun k _ e => .inl e).trans (b4.mono fun k _ e => .inr e)
  have X4 := hide (b4.keep X3.out HNE.out.2.2)
  have C4 := hide c4
  have M4 := hide (b4.keep M3.out HTB.out.2)
  clear b4 c4 CS P3 B3 X3 C3 M3
  rw [HR1.out] at C4
  clear HR1
  obtain ⟨r0, r1, r2, r3, r4⟩ := R1
  have C5 : Hid (w4.heap[rc]? = some (.cells #[.int .u32 r0, .int .i64 r1, .int .i64 r2, .int .i64 r3, .bool r4] 109 (0, 0))) := C4.out
  obtain ⟨⟨d0, d1, d2, d3, d4⟩, _⟩ := five_cells C5.out
  have A5 := hide (balloc (brefl w4) (.cells #[.int .u32 r0, .int .i64 r1, .int .i64 r2, .int .i64 r3, .bool r4] 109))
  have N5 := hide (heap_new w4 #[.int .u32 r0, .int .i64 r1, .int .i64 r2, .int .i64 r3, .bool r4] 109)
  have P5 := hide (P4.out.below A5.out)
  have B5 := hide (B4.out.trans (But.of A5.out))
  have X5 := hide ((A5.out.block bx (heap_lt X4.out)).trans X4.out)
  have M5 := hide ((A5.out.block tb (heap_lt M4.out)).trans M4.out)
  have C6 := hide (C4.out.keep (But.of (S := fun _ => False) A5.out) (fun h => h))
  have CK := hide (K.may ⟨r0, r1, r2, r3, r4⟩ w4.heap.size _ N5.out)
  clear P4 B4 X4 M4 C4 C5
  go_wp2_with fail
  refine CK.out.mono ?_
  rintro e w6 ⟨z, rfl, hz, b6⟩
  have P6 := hide (P5.out.below b6)
  have B6 := hide (B5.out.trans (But.of b6))
  have X6 := hide ((b6.block bx (heap_lt X5.out)).trans X5.out)
  have M6 := hide ((b6.block tb (heap_lt M5.out)).trans M5.out)
  have C7 := hide (C6.out.keep (But.of (S := fun _ => False) b6) (fun h => h))
  clear b6 CK d0 d1 d2 d3 d4 A5 N5 P5 B5 X5 M5 C6
  by_cases hmay : F.may ⟨r0, r1, r2, r3, r4⟩ = true
  ·
   obtain rfl : z = 0 := hz.2 hmay
   have HF2 : Hid (faulted ⟨tk, tt, tp, tq⟩ er st1 = fin) := by have h := HFIN.out; rw [if_pos hmay, faulted_zero] at h; exact h
   go_wp2_with fail
   go_end0
   refine ⟨rfl, ⟨r0, r1, r2, r3, r4⟩, C7.out, B6.out, ?_, ?_⟩
   ·
    have h := P6.out
    rw [HF2.out] at h
    exact h
   intro a ha
   cases fin with
   | good r9 l9 => cases ha; rfl
   | bad p q e => cases ha
  have hz' : (z != 0) = true := by rw [bne_iff_ne]; exact fun e => hmay (hz.1 e)
  have HF2 : Hid (faulted ⟨tk, tt, tp, tq⟩ 7 (faulted ⟨tk, tt, tp, tq⟩ er st1) = fin) := by have h := HFIN.out; rw [if_neg hmay] at h; exact h
  clear hmay hz
  obtain ⟨⟨c0, c1, c2, c3⟩, _⟩ := four_cells M6.out
  obtain ⟨b0, _⟩ := one_cell X6.out
  go_wp2_with fail
  refine (CF.out _ P6.out).mono ?_
  rintro e w7 ⟨rfl, b7, p7⟩
  rw [HF2.out] at p7
  have P7 := hide p7
  have B7 := hide (B6.out.trans (b7.mono fun k _ e => .inl e))
  have C8 := hide (C7.out.keep b7 HNE.out.1)
  clear b7 p7
  go_wp2_with fail
  go_end0
  refine ⟨rfl, ⟨r0, r1, r2, r3, r4⟩, C8.out, B7.out, P7.out, ?_⟩
  intro a ha
  cases fin with
  | good r9 l9 => cases ha; rfl
  | bad p q e => cases ha
theorem exec_then {α β : Type} (en : Int × Int) (g : Pg α) (h : α → Pg β) (st : Sta) (r : α) (hv : ∀ a, (g.exec en st).1 = some a → r = a) : (g.bind h).exec en st = (h r).exec en (g.exec en st).2 := by
 rw [exec_bind]
 cases hg : g.exec en st with
 | mk o st2 =>
  rw [hg] at hv
  cases o with
  | some a => rw [hv a rfl]
  | none =>
   have hb : ∃ p q e, st2 = .bad p q e := by
    cases st with
    | good r l => exact run_none _ _ _ _ hg
    | bad p q e => cases hg; exact ⟨_, _, _, rfl⟩
   obtain ⟨p, q, e, rfl⟩ := hb
   rfl
theorem mark_exec (en : Int × Int) (m : UInt8) (st : Sta) : (pMark m).exec en st = (okv () ((pMark m).exec en st).2, ((pMark m).exec en st).2) := by
 have e1 : (pMark m).exec en st = (okv () (faulted (taken en st).1 (if isM m (taken en st).1.k (taken en st).1.s then 0 else 4) (taken en st).2), faulted (taken en st).1 (if isM m (taken en st).1.k (taken en st).1.s then 0 else 4) (taken en st).2) := by
  unfold pMark
  rw [exec_next, exec_ifn en (taken_at en st) (by decide), exec_ret]
 rw [e1]
theorem mark_ret {α : Type} (en : Int × Int) (m : UInt8) (a : α) (st : Sta) : ((pMark m).bind fun _ => Pg.ret a).exec en st = (okv a ((pMark m).exec en st).2, ((pMark m).exec en st).2) := by
 rw [okv_bind en _ _ st () _ (mark_exec en m st), exec_ret]
theorem rule_exec (F : Fn) (en : Int × Int) (ok : Bool) (st : Sta) : (pRule F ok).exec en st = ((pBound F wGe setGe ⟨(F.pfx (wd (taken en st).1.k (taken en st).1.s)).1, (F.pfx (wd (taken en st).1.k (taken en st).1.s)).2.1, (F.pfx (wd (taken en st).1.k (taken en st).1.s)).2.1, (F.pfx (wd (taken en st).1.k (taken en st).1.s)).2.1, ok⟩).bind fun r => (pBound F wLe setLe r).bind fun r => (pMark 59).bind fun _ => .ret r).exec en (faulted (taken en st).1 (F.pfx (wd (taken en st).1.k (taken en st).1.s)).2.2 (taken en st).2) := by
 unfold pRule pPfx
 rw [exec_next, bind_assoc, exec_chk en (taken_at en st)]
 rfl
def RuleTo (E : En) (w : World) (R : Option Rg × Sta) (e : Ending) (w' : World) : Prop := ∃ r : Rg, e = .returned r.val ∧ But (but1 E.pb) w w' ∧ Ps E w' R.2 ∧ ∀ a, R.1 = some a → r = a
set_option maxHeartbeats 4000000 in
set_option maxRecDepth 100000 in
theorem rule_is {T : World → Prop} {F : Fn} (K : Kit12 T F) (E : En) (ok : Bool) (st : Sta) (w : World) (h : Ps E w st) (hT : T E.w0) : Calls Tryz.prog 65 #[.pointer (some ⟨E.pb, 0, none⟩), .bool ok] w (RuleTo E w ((pRule F ok).exec E.en st)) := by
 have hmf : ∀ (fn : Go.Fn) (first cap : Array Value) (w : World), (Instr.makeFunc fn first cap).run Tryz.prog w = .ok (.func fn first cap) w := fun _ _ _ _ => rfl
 unfold RuleTo Rg.val
 obtain ⟨R, hR⟩ : ∃ R, (pRule F ok).exec E.en st = R := ⟨_, rfl⟩
 rw [hR]
 rw [rule_exec] at hR
 have HZ := hide (taken_size h)
 have CN := hide (next_is E st)
 have CX := hide (fun W hW => prefix_is K E (taken E.en st).2 (taken E.en st).1 W hW hT HZ.out)
 have HR := hide hR
 clear hR
 generalize (F.pfx (wd (taken E.en st).1.k (taken E.en st).1.s)).2.2 = ve at *
 generalize (F.pfx (wd (taken E.en st).1.k (taken E.en st).1.s)).2.1 = v2 at *
 generalize (F.pfx (wd (taken E.en st).1.k (taken E.en st).1.s)).1 = v1 at *
 generalize (taken E.en st).2 = st0 at *
 generalize (taken E.en st).1 = t at *
 generalize faulted t ve st0 = st1 at *
 have P0 := hide ((h.alloc (.cells #[.pointer (some ⟨E.pb, 0, none⟩)] 59)).alloc (.cells #[.int .u32 0, .int .i64 0, .int .i64 0, .int .i64 0, .bool false] 109))
 have A0 := hide (balloc (balloc (brefl w) (.cells #[.pointer (some ⟨E.pb, 0, none⟩)] 59)) (.cells #[.int .u32 0, .int .i64 0, .int .i64 0, .int .i64 0, .bool false] 109))
 have X0 := hide (((balloc (brefl (w.alloc (.cells #[.pointer (some ⟨E.pb, 0, none⟩)] 59))) (.cells #[.int .u32 0, .int .i64 0, .int .i64 0, .int .i64 0, .bool false] 109)).block w.heap.size (by rw [size_alloc]; omega)).trans (heap_new w #[.pointer (some ⟨E.pb, 0, none⟩)] 59))
 have Z0 := hide (heap_new (w.alloc (.cells #[.pointer (some ⟨E.pb, 0, none⟩)] 59)) #[.int .u32 0, .int .i64 0, .int .i64 0, .int .i64 0, .bool false] 109)
 rw [size_alloc] at Z0
 have HPB := hide h.lt
 have HW0 := hide h.1.size
 have HT := hide hT
 clear h hT
 obtain ⟨W0, pb, en⟩ := E
 obtain ⟨tk, tt, tp, tq⟩ := t
 simp only [Tv.val] at *
 go_enter_defers Tryz.func65, Tryz.ntmps65
 go_upto_region 1 with fail
 obtain ⟨bx, hbx⟩ : ∃ bx, w.heap.size = bx := ⟨_, rfl⟩
 obtain ⟨rr, hrr⟩ : ∃ rr, w.heap.size + 1 = rr := ⟨_, rfl⟩
 have HNE : Hid (bx ≠ pb ∧ rr ≠ pb ∧ W0.heap.size ≤ rr ∧ w.heap.size ≤ rr) := by have h9 := HPB.out; have h8 := HW0.out; exact ⟨by omega, by omega, by omega, by omega⟩
 rw [hrr] at Z0 ⊢
 rw [hbx] at X0 ⊢
 have B0 := hide (But.of (S := but1 pb) A0.out)
 generalize (w.alloc (.cells #[.pointer (some ⟨pb, 0, none⟩)] 59)).alloc (.cells #[.int .u32 0, .int .i64 0, .int .i64 0, .int .i64 0, .bool false] 109) = W at *
 clear hbx hrr A0
 obtain ⟨bp, _⟩ := one_cell X0.out
 go_upto_region 2 with fail
 clear bp
 have B1 := hide (B0.out.trans (But.of (Below.drew (brefl W))))
 have X1 := hide (((Below.drew (brefl W)).block bx (heap_lt X0.out)).trans X0.out)
 have Z1 := hide (((Below.drew (brefl W)).block rr (heap_lt Z0.out)).trans Z0.out)
 have P1 := hide (P0.out.below (Below.drew (brefl W)))
 refine wp_region_noPanic ?_
 refine wp_region_held_drew (S := (fun w' => w'.cell? ⟨bx, 0, none⟩ = some (.pointer (some ⟨pb, 0, none⟩)))) (by kernel_rfl) ((one_cell X1.out).1) (fun hHeld => ?_)
 clear P0 B0 X0 Z0
 generalize W.drew = w1 at *
 refine tak 0 (.pointer (some ⟨pb, 0, none⟩)) rfl (Or.inl ⟨by rfl, fun w hSw => by dsimp only at hSw; go_simp⟩) hHeld ?_
 simp only [Act.put, g1, g2, g4, g5, g6]
 refine tak 1 (.pointer (some ⟨pb, 0, none⟩)) rfl (Or.inl ⟨by rfl, fun w hSw => by dsimp only at hSw; go_simp⟩) hHeld ?_
 simp only [Act.put, g1, g2, g3, g4, g5, g6]
 refine wpAnyH_ready (rs := [2, 4]) (by kernel_rfl) (by simp) ?_
 refine AllReadyH.cons rfl (fun K hK => ?_) ?_
 focus
  go_simp
  go_wp2_with (refine (CN.out _ P1.out).mono ?_; rintro e w2 ⟨rfl, b2, p2⟩)
  have P2 := hide p2
  have B2 := hide (B1.out.trans b2)
  have X2 := hide (b2.keep X1.out HNE.out.1)
  have Z2 := hide (b2.keep Z1.out HNE.out.2.1)
  clear b2 p2
  refine hK.out _ _ ((one_cell X2.out).1) (fun hHeld => ?_)
  clear hK K
  try simp only [Act.put, g1, g2, g3, g4, g5, g6]
  clear P1 B1 X1 Z1
  refine wpAnyH_ready (rs := [3, 4]) (by kernel_rfl) (by simp) ?_
  refine AllReadyH.cons rfl (fun K hK => ?_) ?_
  ·
   go_simp
   go_wp2_with (refine (CX.out _ P2.out).mono ?_; rintro e w3 ⟨rfl, b3, p3⟩)
   have P3 := hide p3
   have B3 := hide (B2.out.trans b3)
   have X3 := hide (b3.keep X2.out HNE.out.1)
   have Z3 := hide (b3.keep Z2.out HNE.out.2.1)
   clear b3 p3
   refine hK.out _ _ ((one_cell X3.out).1) (fun hHeld => ?_)
   clear hK K
   try simp only [Act.put, g1, g2, g3, g4, g5, g6]
   clear P2 B2 X2 Z2
   refine rdy 4 (by kernel_rfl) rfl fun K hK => ?_
   go_simp
   have b4 := balloc (brefl w3) (.cells #[.int .u32 0, .int .i64 0] 107)
   have Y4 := hide (heap_new w3 #[.int .u32 0, .int .i64 0] 107)
   have HPX : Hid (w3.heap.size ≠ pb ∧ w3.heap.size ≠ rr ∧ w3.heap.size ≠ bx ∧ w.heap.size ≤ w3.heap.size) := by have h1 := P3.out.lt; have h2 := heap_lt X3.out; have h3 := heap_lt Z3.out; have h4 := B3.out.size; simp only at h1; exact ⟨by omega, by omega, by omega, by omega⟩
   have P4 := hide (P3.out.below b4)
   have B4 := hide (B3.out.trans (But.of b4))
   have X4 := hide ((b4.block bx (heap_lt X3.out)).trans X3.out)
   have Z4 := hide ((b4.block rr (heap_lt Z3.out)).trans Z3.out)
   clear b4
   refine hK.out _ _ ((one_cell X4.out).1) (fun hHeld => ?_)
   clear hK K
   try simp only [Act.put, g1, g2, g3, g4, g5, g6]
   obtain ⟨px, hpx⟩ : ∃ px, w3.heap.size = px := ⟨_, rfl⟩
   rw [hpx] at Y4 HPX ⊢
   generalize w3.alloc (.cells #[.int .u32 0, .int .i64 0] 107) = U4 at *
   clear hpx P3 B3 X3 Z3
   refine rdy 5 (by kernel_rfl) rfl fun K hK => ?_
   obtain ⟨y0, y1, yf0, yf1⟩ := two_cells Y4.out
   go_simp
   have Y5 := hide (heap_setCell_same _ px 1 _ 107 (.int .i64 v2) (heap_setCell_same _ px 0 _ 107 (.int .u32 v1) Y4.out))
   have P5 := hide ((P4.out.put (p := ⟨px, 0, none⟩) HPX.out.1 (Nat.le_trans HW0.out HPX.out.2.2.2) (.int .u32 v1)).put (p := ⟨px, 1, none⟩) HPX.out.1 (Nat.le_trans HW0.out HPX.out.2.2.2) (.int .i64 v2))
   have B5 := hide ((B4.out.setCell (p := ⟨px, 0, none⟩) (.inr HPX.out.2.2.2) (.int .u32 v1)).setCell (p := ⟨px, 1, none⟩) (.inr HPX.out.2.2.2) (.int .i64 v2))
   have X5 := hide (set_far (o := 1) (v := .int .i64 v2) (set_far (o := 0) (v := .int .u32 v1) X4.out (fun e => HPX.out.2.2.1 e.symm)) (fun e => HPX.out.2.2.1 e.symm))
   have Z5 := hide (set_far (o := 1) (v := .int .i64 v2) (set_far (o := 0) (v := .int .u32 v1) Z4.out (fun e => HPX.out.2.1 e.symm)) (fun e => HPX.out.2.1 e.symm))
   refine hK.out _ _ ((one_cell X5.out).1) (fun hHeld => ?_)
   clear hK K
   try simp only [Act.put, g1, g2, g3, g4, g5, g6]
   clear P4 B4 X4 Z4 Y4 y0 y1 yf0 yf1
   obtain ⟨V, hV⟩ : ∃ V, (U4.setCell ⟨px, 0, none⟩ (.int .u32 v1)).setCell ⟨px, 1, none⟩ (.int .i64 v2) = V := ⟨_, rfl⟩
   rw [hV] at Y5 P5 B5 X5 Z5 hHeld ⊢
   clear hV
   refine wpAnyH_done (by kernel_rfl) ?_ _
   refine NoPanic.normal ?_
   clear hHeld
   have PV := P5
   have BV := B5
   have XV := X5
   have ZV := Z5
   have YV := Y5
   clear P5 B5 X5 Z5 Y5 CN CX
   obtain ⟨y0, y1, _, _⟩ := two_cells YV.out
   have A5 := hide (balloc (brefl V) (.cells #[.int .u32 v1, .int .i64 v2, .int .i64 v2, .int .i64 v2, .bool ok] 109))
   have C5 : Hid (RgAt (V.alloc (.cells #[.int .u32 v1, .int .i64 v2, .int .i64 v2, .int .i64 v2, .bool ok] 109)) V.heap.size ⟨v1, v2, v2, v2, ok⟩) := heap_new V #[.int .u32 v1, .int .i64 v2, .int .i64 v2, .int .i64 v2, .bool ok] 109
   have P5 := hide (PV.out.below A5.out)
   have B5 := hide (BV.out.trans (But.of A5.out))
   have X5 := hide ((A5.out.block bx (heap_lt XV.out)).trans XV.out)
   have Z5 := hide ((A5.out.block rr (heap_lt ZV.out)).trans ZV.out)
   have HRC : Hid (V.heap.size ≠ pb ∧ V.heap.size ≠ rr ∧ V.heap.size ≠ bx ∧ w.heap.size ≤ V.heap.size) := by
    have h1 := PV.out.lt
    have h2 := heap_lt XV.out
    have h3 := heap_lt ZV.out
    have h4 := BV.out.size
    simp only at h1
    exact ⟨by omega, by omega, by omega, by omega⟩
   go_upto_region 4 with fail
   obtain ⟨rc, hrc⟩ : ∃ rc, V.heap.size = rc := ⟨_, rfl⟩
   rw [hrc] at C5 HRC ⊢
   generalize V.alloc (.cells #[.int .u32 v1, .int .i64 v2, .int .i64 v2, .int .i64 v2, .bool ok] 109) = V5 at *
   clear hrc A5 y0 y1 YV PV BV XV ZV
   have HR0 : Hid (W0.heap.size ≤ rc) := Nat.le_trans HW0.out HRC.out.2.2.2
   have CG := hide (bound_is K ⟨W0, pb, en⟩ 91 setGe setGe_is wGe bx rc ⟨v1, v2, v2, v2, ok⟩ st1 V5 P5.out HT.out X5.out C5.out HR0.out ⟨HRC.out.1, HNE.out.1, fun e => HRC.out.2.2.1 e.symm⟩)
   unfold wGe at CG
   go_wp2_with fail
   refine CG.out.mono ?_
   rintro e w6 ⟨rfl, r6, c6, b6, p6, v6⟩
   have P6 := hide p6
   have C6 := hide c6
   have V6 := hide v6
   have B6 : Hid (But (but1 pb) w w6) := B5.out.thens b6 (by
    rintro i hi (e | e)
    ·
     exact e
    have h1 := HRC.out.2.2.2; have e9 : i = rc := e; omega)
   have X6 := hide (b6.keep X5.out (by
    rintro (e | e)
    ·
     exact HNE.out.1 e
    exact HRC.out.2.2.1 e.symm))
   have Z6 := hide (b6.keep Z5.out (by
    rintro (e | e)
    ·
     exact HNE.out.2.1 e
    exact HRC.out.2.1 e.symm))
   clear p6 c6 v6 b6 CG P5 C5 B5 X5 Z5
   have CL := hide (bound_is K ⟨W0, pb, en⟩ 92 setLe setLe_is wLe bx rc r6 _ w6 P6.out HT.out X6.out C6.out HR0.out ⟨HRC.out.1, HNE.out.1, fun e => HRC.out.2.2.1 e.symm⟩)
   have HX1 := hide (exec_then en (pBound F (bs [103, 101]) setGe ⟨v1, v2, v2, v2, ok⟩) (fun r => (pBound F wLe setLe r).bind fun r => (pMark 59).bind fun _ => Pg.ret r) st1 r6 V6.out)
   try simp only at CL
   generalize ((pBound F (bs [103, 101]) setGe ⟨v1, v2, v2, v2, ok⟩).exec en st1).2 = st2 at *
   unfold wLe at CL
   go_wp2_with fail
   refine CL.out.mono ?_
   rintro e w7 ⟨rfl, r7, c7, b7, p7, v7⟩
   have P7 := hide p7
   have C7 := hide c7
   have V7 := hide v7
   have B7 : Hid (But (but1 pb) w w7) := B6.out.thens b7 (by
    rintro i hi (e | e)
    ·
     exact e
    have h1 := HRC.out.2.2.2; have e9 : i = rc := e; omega)
   have Z7 := hide (b7.keep Z6.out (by
    rintro (e | e)
    ·
     exact HNE.out.2.1 e
    exact HRC.out.2.1 e.symm))
   clear p7 c7 v7 b7 CL P6 C6 B6 X6 Z6
   have HX2 := hide (exec_then en (pBound F (bs [108, 101]) setLe r6) (fun r => (pMark 59).bind fun _ => Pg.ret r) st2 r7 V7.out)
   try simp only at P7
   generalize ((pBound F (bs [108, 101]) setLe r6).exec en st2).2 = st3 at *
   have HX3 := hide (mark_ret en 59 r7 st3)
   have HRR : Hid (R = (okv r7 ((pMark 59).exec en st3).2, ((pMark 59).exec en st3).2)) := by
    show _ = _
    rw [← HR.out]
    exact (HX1.out.trans HX2.out).trans HX3.out
   clear HX1 HX2 HX3 HR V6 V7
   obtain ⟨q0, q1, q2, q3, q4⟩ := r7
   have C8 : Hid (w7.heap[rc]? = some (.cells #[.int .u32 q0, .int .i64 q1, .int .i64 q2, .int .i64 q3, .bool q4] 109 (0, 0))) := C7.out
   obtain ⟨⟨d0, d1, d2, d3, d4⟩, _⟩ := five_cells C8.out
   obtain ⟨⟨e0, e1, e2, e3, e4⟩, g0, g1, g2, g3, g4⟩ := five_cells Z7.out
   go_wp2_with fail
   have Z8 := hide (heap_setCell_same _ rr 4 _ 109 (.bool q4) (heap_setCell_same _ rr 3 _ 109 (.int .i64 q3) (heap_setCell_same _ rr 2 _ 109 (.int .i64 q2) (heap_setCell_same _ rr 1 _ 109 (.int .i64 q1) (heap_setCell_same _ rr 0 _ 109 (.int .u32 q0) Z7.out)))))
   have P8 := hide (((((P7.out.put (p := ⟨rr, 0, none⟩) HNE.out.2.1 HNE.out.2.2.1 (.int .u32 q0)).put (p := ⟨rr, 1, none⟩) HNE.out.2.1 HNE.out.2.2.1 (.int .i64 q1)).put (p := ⟨rr, 2, none⟩) HNE.out.2.1 HNE.out.2.2.1 (.int .i64 q2)).put (p := ⟨rr, 3, none⟩) HNE.out.2.1 HNE.out.2.2.1 (.int .i64 q3)).put (p := ⟨rr, 4, none⟩) HNE.out.2.1 HNE.out.2.2.1 (.bool q4))
   have B8 := hide (((((B7.out.setCell (p := ⟨rr, 0, none⟩) (.inr HNE.out.2.2.2) (.int .u32 q0)).setCell (p := ⟨rr, 1, none⟩) (.inr HNE.out.2.2.2) (.int .i64 q1)).setCell (p := ⟨rr, 2, none⟩) (.inr HNE.out.2.2.2) (.int .i64 q2)).setCell (p := ⟨rr, 3, none⟩) (.inr HNE.out.2.2.2) (.int .i64 q3)).setCell (p := ⟨rr, 4, none⟩) (.inr HNE.out.2.2.2) (.bool q4))
   refine leaves_cons (f := 70) (args := #[.pointer (some ⟨pb, 0, none⟩), .string (bs [59])]) (by simp) (by simp [go_sem]) ?_
   refine (mark_d ⟨W0, pb, en⟩ st3 59 _ P8.out).mono ?_
   rintro e u' w9 ⟨rfl, rfl, b9, p9⟩
   have Z9 := hide (b9.keep Z8.out HNE.out.2.1)
   obtain ⟨⟨t0, t1, t2, t3, t4⟩, _⟩ := five_cells Z9.out
   refine ⟨.agg #[.int .u32 q0, .int .i64 q1, .int .i64 q2, .int .i64 q3, .bool q4], ?_, ?_⟩
   ·
    simp [results, Tryz.results65, go_sem, t0, t1, t2, t3, t4]
   refine ⟨⟨q0, q1, q2, q3, q4⟩, rfl, B8.out.trans b9, ?_, ?_⟩
   ·
    rw [HRR.out]
    exact p9
   intro a ha
   rw [HRR.out] at ha
   revert ha
   generalize ((pMark 59).exec en st3).2 = s9
   cases s9 with
   | good r l => intro ha; cases ha; rfl
   | bad p q e => intro ha; cases ha
  refine AllReadyH.cons rfl (fun K hK => ?_) AllReadyH.nil
  go_simp
  have b3 := balloc (brefl w2) (.cells #[.int .u32 0, .int .i64 0] 107)
  have Y3 := hide (heap_new w2 #[.int .u32 0, .int .i64 0] 107)
  have HPX : Hid (w2.heap.size ≠ pb ∧ w2.heap.size ≠ rr ∧ w2.heap.size ≠ bx ∧ w.heap.size ≤ w2.heap.size) := by have h1 := P2.out.lt; have h2 := heap_lt X2.out; have h3 := heap_lt Z2.out; have h4 := B2.out.size; simp only at h1; exact ⟨by omega, by omega, by omega, by omega⟩
  have P3 := hide (P2.out.below b3)
  have B3 := hide (B2.out.trans (But.of b3))
  have X3 := hide ((b3.block bx (heap_lt X2.out)).trans X2.out)
  have Z3 := hide ((b3.block rr (heap_lt Z2.out)).trans Z2.out)
  clear b3
  refine hK.out _ _ ((one_cell X3.out).1) (fun hHeld => ?_)
  clear hK K
  try simp only [Act.put, g1, g2, g3, g4, g5, g6]
  obtain ⟨px, hpx⟩ : ∃ px, w2.heap.size = px := ⟨_, rfl⟩
  rw [hpx] at Y3 HPX ⊢
  generalize w2.alloc (.cells #[.int .u32 0, .int .i64 0] 107) = U3 at *
  clear hpx P2 B2 X2 Z2
 rotate_left
 focus
  refine AllReadyH.cons rfl (fun K hK => ?_) AllReadyH.nil
  go_simp
  have b2 := balloc (brefl w1) (.cells #[.int .u32 0, .int .i64 0] 107)
  have Y2 := hide (heap_new w1 #[.int .u32 0, .int .i64 0] 107)
  have HPX : Hid (w1.heap.size ≠ pb ∧ w1.heap.size ≠ rr ∧ w1.heap.size ≠ bx ∧ w.heap.size ≤ w1.heap.size) := by have h1 := P1.out.lt; have h2 := heap_lt X1.out; have h3 := heap_lt Z1.out; have h4 := B1.out.size; simp only at h1; exact ⟨by omega, by omega, by omega, by omega⟩
  have P2 := hide (P1.out.below b2)
  have B2 := hide (B1.out.trans (But.of b2))
  have X2 := hide ((b2.block bx (heap_lt X1.out)).trans X1.out)
  have Z2 := hide ((b2.block rr (heap_lt Z1.out)).trans Z1.out)
  clear b2
  refine hK.out _ _ ((one_cell X2.out).1) (fun hHeld => ?_)
  clear hK K
  try simp only [Act.put, g1, g2, g3, g4, g5, g6]
  obtain ⟨px, hpx⟩ : ∃ px, w1.heap.size = px := ⟨_, rfl⟩
  rw [hpx] at Y2 HPX ⊢
  generalize w1.alloc (.cells #[.int .u32 0, .int .i64 0] 107) = U2 at *
  clear hpx P1 B1 X1 Z1
  refine rdy 2 (by kernel_rfl) rfl fun K hK => ?_
  go_simp
  go_wp2_with (refine (CN.out _ P2.out).mono ?_; rintro e w3 ⟨rfl, b3, p3⟩)
  have P3 := hide p3
  have B3 := hide (B2.out.trans b3)
  have X3 := hide (b3.keep X2.out HNE.out.1)
  have Z3 := hide (b3.keep Z2.out HNE.out.2.1)
  have Y3 := hide (b3.keep Y2.out HPX.out.1)
  clear b3 p3
  refine hK.out _ _ ((one_cell X3.out).1) (fun hHeld => ?_)
  clear hK K
  try simp only [Act.put, g1, g2, g3, g4, g5, g6]
  clear P2 B2 X2 Z2 Y2
 all_goals
  refine rdy 3 (by kernel_rfl) rfl fun K hK => ?_
  go_simp
  go_wp2_with (refine (CX.out _ P3.out).mono ?_; rintro e w4 ⟨rfl, b4, p4⟩)
  have P4 := hide p4
  have B4 := hide (B3.out.trans b4)
  have X4 := hide (b4.keep X3.out HNE.out.1)
  have Z4 := hide (b4.keep Z3.out HNE.out.2.1)
  have Y4 := hide (b4.keep Y3.out HPX.out.1)
  clear b4 p4
  refine hK.out _ _ ((one_cell X4.out).1) (fun hHeld => ?_)
  clear hK K
  try simp only [Act.put, g1, g2, g3, g4, g5, g6]
  clear P3 B3 X3 Z3 Y3
  refine rdy 5 (by kernel_rfl) rfl fun K hK => ?_
  obtain ⟨y0, y1, yf0, yf1⟩ := two_cells Y4.out
  go_simp
  have Y5 := hide (heap_setCell_same _ px 1 _ 107 (.int .i64 v2) (heap_setCell_same _ px 0 _ 107 (.int .u32 v1) Y4.out))
  have P5 := hide ((P4.out.put (p := ⟨px, 0, none⟩) HPX.out.1 (Nat.le_trans HW0.out HPX.out.2.2.2) (.int .u32 v1)).put (p := ⟨px, 1, none⟩) HPX.out.1 (Nat.le_trans HW0.out HPX.out.2.2.2) (.int .i64 v2))
  have B5 := hide ((B4.out.setCell (p := ⟨px, 0, none⟩) (.inr HPX.out.2.2.2) (.int .u32 v1)).setCell (p := ⟨px, 1, none⟩) (.inr HPX.out.2.2.2) (.int .i64 v2))
  have X5 := hide (set_far (o := 1) (v := .int .i64 v2) (set_far (o := 0) (v := .int .u32 v1) X4.out (fun e => HPX.out.2.2.1 e.symm)) (fun e => HPX.out.2.2.1 e.symm))
  have Z5 := hide (set_far (o := 1) (v := .int .i64 v2) (set_far (o := 0) (v := .int .u32 v1) Z4.out (fun e => HPX.out.2.1 e.symm)) (fun e => HPX.out.2.1 e.symm))
  refine hK.out _ _ ((one_cell X5.out).1) (fun hHeld => ?_)
  clear hK K
  try simp only [Act.put, g1, g2, g3, g4, g5, g6]
  clear P4 B4 X4 Z4 Y4 y0 y1 yf0 yf1
  obtain ⟨V, hV⟩ : ∃ V, (w4.setCell ⟨px, 0, none⟩ (.int .u32 v1)).setCell ⟨px, 1, none⟩ (.int .i64 v2) = V := ⟨_, rfl⟩
  rw [hV] at Y5 P5 B5 X5 Z5 hHeld ⊢
  clear hV
  refine wpAnyH_done (by kernel_rfl) ?_ _
  refine NoPanic.normal ?_
  clear hHeld
  have PV := P5
  have BV := B5
  have XV := X5
  have ZV := Z5
  have YV := Y5
  clear P5 B5 X5 Z5 Y5 CN CX
  obtain ⟨y0, y1, _, _⟩ := two_cells YV.out
  have A5 := hide (balloc (brefl V) (.cells #[.int .u32 v1, .int .i64 v2, .int .i64 v2, .int .i64 v2, .bool ok] 109))
  have C5 : Hid (RgAt (V.alloc (.cells #[.int .u32 v1, .int .i64 v2, .int .i64 v2, .int .i64 v2, .bool ok] 109)) V.heap.size ⟨v1, v2, v2, v2, ok⟩) := heap_new V #[.int .u32 v1, .int .i64 v2, .int .i64 v2, .int .i64 v2, .bool ok] 109
  have P5 := hide (PV.out.below A5.out)
  have B5 := hide (BV.out.trans (But.of A5.out))
  have X5 := hide ((A5.out.block bx (heap_lt XV.out)).trans XV.out)
  have Z5 := hide ((A5.out.block rr (heap_lt ZV.out)).trans ZV.out)
  have HRC : Hid (V.heap.size ≠ pb ∧ V.heap.size ≠ rr ∧ V.heap.size ≠ bx ∧ w.heap.size ≤ V.heap.size) := by
   have h1 := PV.out.lt
   have h2 := heap_lt XV.out
   have h3 := heap_lt ZV.out
   have h4 := BV.out.size
   simp only at h1
   exact ⟨by omega, by omega, by omega, by omega⟩
  go_upto_region 4 with fail
  obtain ⟨rc, hrc⟩ : ∃ rc, V.heap.size = rc := ⟨_, rfl⟩
  rw [hrc] at C5 HRC ⊢
  generalize V.alloc (.cells #[.int .u32 v1, .int .i64 v2, .int .i64 v2, .int .i64 v2, .bool ok] 109) = V5 at *
  clear hrc A5 y0 y1 YV PV BV XV ZV
  have HR0 : Hid (W0.heap.size ≤ rc) := Nat.le_trans HW0.out HRC.out.2.2.2
  have CG := hide (bound_is K ⟨W0, pb, en⟩ 91 setGe setGe_is wGe bx rc ⟨v1, v2, v2, v2, ok⟩ st1 V5 P5.out HT.out X5.out C5.out HR0.out ⟨HRC.out.1, HNE.out.1, fun e => HRC.out.2.2.1 e.symm⟩)
  unfold wGe at CG
  go_wp2_with fail
  refine CG.out.mono ?_
  rintro e w6 ⟨rfl, r6, c6, b6, p6, v6⟩
  have P6 := hide p6
  have C6 := hide c6
  have V6 := hide v6
  have B6 : Hid (But (but1 pb) w w6) := B5.out.thens b6 (by
   rintro i hi (e | e)
   ·
    exact e
   have h1 := HRC.out.2.2.2; have e9 : i = rc := e; omega)
  have X6 := hide (b6.keep X5.out (by
   rintro (e | e)
   ·
    exact HNE.out.1 e
   exact HRC.out.2.2.1 e.symm))
  have Z6 := hide (b6.keep Z5.out (by
   rintro (e | e)
   ·
    exact HNE.out.2.1 e
   exact HRC.out.2.1 e.symm))
  clear p6 c6 v6 b6 CG P5 C5 B5 X5 Z5
  have CL := hide (bound_is K ⟨W0, pb, en⟩ 92 setLe setLe_is wLe bx rc r6 _ w6 P6.out HT.out X6.out C6.out HR0.out ⟨HRC.out.1, HNE.out.1, fun e => HRC.out.2.2.1 e.symm⟩)
  have HX1 := hide (exec_then en (pBound F (bs [103, 101]) setGe ⟨v1, v2, v2, v2, ok⟩) (fun r => (pBound F wLe setLe r).bind fun r => (pMark 59).bind fun _ => Pg.ret r) st1 r6 V6.out)
  try simp only at CL
  generalize ((pBound F (bs [103, 101]) setGe ⟨v1, v2, v2, v2, ok⟩).exec en st1).2 = st2 at *
  unfold wLe at CL
  go_wp2_with fail
  refine CL.out.mono ?_
  rintro e w7 ⟨rfl, r7, c7, b7, p7, v7⟩
  have P7 := hide p7
  have C7 := hide c7
  have V7 := hide v7
  have B7 : Hid (But (but1 pb) w w7) := B6.out.thens b7 (by
   rintro i hi (e | e)
   ·
    exact e
   have h1 := HRC.out.2.2.2; have e9 : i = rc := e; omega)
  have Z7 := hide (b7.keep Z6.out (by
   rintro (e | e)
   ·
    exact HNE.out.2.1 e
   exact HRC.out.2.1 e.symm))
  clear p7 c7 v7 b7 CL P6 C6 B6 X6 Z6
  have HX2 := hide (exec_then en (pBound F (bs [108, 101]) setLe r6) (fun r => (pMark 59).bind fun _ => Pg.ret r) st2 r7 V7.out)
  try simp only at P7
  generalize ((pBound F (bs [108, 101]) setLe r6).exec en st2).2 = st3 at *
  have HX3 := hide (mark_ret en 59 r7 st3)
  have HRR : Hid (R = (okv r7 ((pMark 59).exec en st3).2, ((pMark 59).exec en st3).2)) := by
   show _ = _
   rw [← HR.out]
   exact (HX1.out.trans HX2.out).trans HX3.out
  clear HX1 HX2 HX3 HR V6 V7
  obtain ⟨q0, q1, q2, q3, q4⟩ := r7
  have C8 : Hid (w7.heap[rc]? = some (.cells #[.int .u32 q0, .int .i64 q1, .int .i64 q2, .int .i64 q3, .bool q4] 109 (0, 0))) := C7.out
  obtain ⟨⟨d0, d1, d2, d3, d4⟩, _⟩ := five_cells C8.out
  obtain ⟨⟨e0, e1, e2, e3, e4⟩, g0, g1, g2, g3, g4⟩ := five_cells Z7.out
  go_wp2_with fail
  have Z8 := hide (heap_setCell_same _ rr 4 _ 109 (.bool q4) (heap_setCell_same _ rr 3 _ 109 (.int .i64 q3) (heap_setCell_same _ rr 2 _ 109 (.int .i64 q2) (heap_setCell_same _ rr 1 _ 109 (.int .i64 q1) (heap_setCell_same _ rr 0 _ 109 (.int .u32 q0) Z7.out)))))
  have P8 := hide (((((P7.out.put (p := ⟨rr, 0, none⟩) HNE.out.2.1 HNE.out.2.2.1 (.int .u32 q0)).put (p := ⟨rr, 1, none⟩) HNE.out.2.1 HNE.out.2.2.1 (.int .i64 q1)).put (p := ⟨rr, 2, none⟩) HNE.out.2.1 HNE.out.2.2.1 (.int .i64 q2)).put (p := ⟨rr, 3, none⟩) HNE.out.2.1 HNE.out.2.2.1 (.int .i64 q3)).put (p := ⟨rr, 4, none⟩) HNE.out.2.1 HNE.out.2.2.1 (.bool q4))
  have B8 := hide (((((B7.out.setCell (p := ⟨rr, 0, none⟩) (.inr HNE.out.2.2.2) (.int .u32 q0)).setCell (p := ⟨rr, 1, none⟩) (.inr HNE.out.2.2.2) (.int .i64 q1)).setCell (p := ⟨rr, 2, none⟩) (.inr HNE.out.2.2.2) (.int .i64 q2)).setCell (p := ⟨rr, 3, none⟩) (.inr HNE.out.2.2.2) (.int .i64 q3)).setCell (p := ⟨rr, 4, none⟩) (.inr HNE.out.2.2.2) (.bool q4))
  refine leaves_cons (f := 70) (args := #[.pointer (some ⟨pb, 0, none⟩), .string (bs [59])]) (by simp) (by simp [go_sem]) ?_
  refine (mark_d ⟨W0, pb, en⟩ st3 59 _ P8.out).mono ?_
  rintro e u' w9 ⟨rfl, rfl, b9, p9⟩
  have Z9 := hide (b9.keep Z8.out HNE.out.2.1)
  obtain ⟨⟨t0, t1, t2, t3, t4⟩, _⟩ := five_cells Z9.out
  refine ⟨.agg #[.int .u32 q0, .int .i64 q1, .int .i64 q2, .int .i64 q3, .bool q4], ?_, ?_⟩
  ·
   simp [results, Tryz.results65, go_sem, t0, t1, t2, t3, t4]
  refine ⟨⟨q0, q1, q2, q3, q4⟩, rfl, B8.out.trans b9, ?_, ?_⟩
  ·
   rw [HRR.out]
   exact p9
  intro a ha
  rw [HRR.out] at ha
  revert ha
  generalize ((pMark 59).exec en st3).2 = s9
  cases s9 with
  | good r l => intro ha; cases ha; rfl
  | bad p q e => intro ha; cases ha
end Go.Proofs.YtnadhplhnfpeaaaGreatDoor
