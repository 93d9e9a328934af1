/- Part of the proof. -/
import Derived.Test.YtnadhplhnfpeaaaGreatDoorAZ
import Derived.Test.YtnadhplhnfpeaaaGreatDoorA09
namespace Go.Proofs.YtnadhplhnfpeaaaGreatDoor
open Go.RowKit Go.Sort
def rgs (l : List Rg) : List Value := l.flatMap Rg.enc
theorem rgs_app (l : List Rg) (r : Rg) : rgs (l ++ [r]) = rgs l ++ [.int .u32 r.ad, .int .i64 r.bits, .int .i64 r.ge, .int .i64 r.le, .bool r.ok] := by simp [rgs, Rg.enc]
theorem okv_some {α : Type} {a b : α} {st : Sta} (h : okv a st = some b) : a = b := by
 cases st with
 | good r l => cases h; rfl
 | bad p q e => cases h
theorem own_ne {w : World} {B e z n : Nat} {v : Value} {xs : List Value} {b t : Nat} {cs : Array Value} (h : w.ownsRow B e z v n xs) (hb : w.heap[b]? = some (.cells cs t (0, 0))) (ht : t ≠ e) : ∀ g, v.ownBlock = some g → g ≠ b := by
 rintro g hg rfl
 rcases h.2 with ⟨hv, _⟩ | ⟨g', cap, cur, hv, _, hg', _⟩
 ·
  rw [hv] at hg; cases hg
 rw [hv] at hg
 obtain rfl : g' = g := by simpa [Value.ownBlock] using hg
 rw [hb] at hg'
 cases hg'
 exact ht rfl
theorem infoRg : (Tryz.prog.info? 109).map (fun i => (i.zero, i.size, i.bytes)) = some (some (.agg #[.int .u32 0, .int .i64 0, .int .i64 0, .int .i64 0, .bool false]), 5, 40) := by kernel_rfl
theorem info_partsRg : ∃ i0 : TypeInfo, Tryz.prog.info? 109 = some i0 ∧ i0.zero = some (.agg #[.int .u32 0, .int .i64 0, .int .i64 0, .int .i64 0, .bool false]) ∧ i0.size = 5 ∧ i0.bytes = 40 := by
 have h := infoRg
 cases hi : Tryz.prog.info? 109 with
 | none => rw [hi] at h; cases h
 | some i0 =>
  rw [hi] at h
  simp only [Option.map_some, Option.some.injEq, Prod.mk.injEq] at h
  exact ⟨i0, rfl, h.1, h.2.1, h.2.2⟩
theorem rg_reads {w : World} {g : Nat} {r : Rg} (hc : w.heap[g]? = some (.cells #[.int .u32 r.ad, .int .i64 r.bits, .int .i64 r.ge, .int .i64 r.le, .bool r.ok] 109 (0, 0))) (j : Nat) (u : Value) (hu : [Value.int .u32 r.ad, .int .i64 r.bits, .int .i64 r.ge, .int .i64 r.le, .bool r.ok][j]? = some u) : w.cell? ((⟨g, 0, none⟩ : Addr).add j) = some u := by
 match j, hu with
 | 0, hu => simp at hu; subst hu; simp [Addr.add, World.cell?, hc]
 | 1, hu => simp at hu; subst hu; simp [Addr.add, World.cell?, hc]
 | 2, hu => simp at hu; subst hu; simp [Addr.add, World.cell?, hc]
 | 3, hu => simp at hu; subst hu; simp [Addr.add, World.cell?, hc]
 | 4, hu => simp at hu; subst hu; simp [Addr.add, World.cell?, hc]
 | j + 5, hu => simp at hu
theorem rg_one {r : Rg} (u : Value) (hu : u ∈ [Value.int .u32 r.ad, .int .i64 r.bits, .int .i64 r.ge, .int .i64 r.le, .bool r.ok]) : u.oneCell' = true := by
 simp at hu
 rcases hu with rfl | rfl | rfl | rfl | rfl <;> rfl
structure ListInv (E : En) (bx lb : Nat) (nm : ByteArray) (w : World) (S : Nat → Prop) (l : List Rg) : Prop where
  box : w.heap[bx]? = some (.cells #[.pointer (some ⟨E.pb, 0, none⟩)] 59 (0, 0))
  row : ∃ v, w.heap[lb]? = some (.cells #[.string nm, v] 66 (0, 0)) ∧ w.ownsRow E.w0.heap.size 109 5 v l.length (rgs l) ∧ ∀ k, S k ↔ k = lb ∨ v.ownBlock = some k
  base : E.w0.heap.size ≤ lb ∧ lb ≠ E.pb ∧ bx ≠ E.pb ∧ bx ≠ lb
  many : l.length ≤ 17
def okB (k : Int) (s : ByteArray) : Bool := if wd k s = wPermit then true else if wd k s = wDeny then false else false
def okE (k : Int) (s : ByteArray) : Int := if wd k s = wPermit then 0 else if wd k s = wDeny then 0 else 4
theorem ok_exec (en : Int × Int) (k : Int) (s : ByteArray) {t : Tv} {st : Sta} (h : At t st) : (pOk k s).exec en st = (okv (okB k s) (faulted t (okE k s) st), faulted t (okE k s) st) := by
 unfold pOk okB okE
 by_cases h1 : wd k s = wPermit
 ·
  simp only [if_pos h1]
  rw [faulted_zero, exec_ret]
 simp only [if_neg h1]
 by_cases h2 : wd k s = wDeny
 ·
  simp only [if_pos h2]
  rw [faulted_zero, exec_ret]
 simp only [if_neg h2]
 rw [exec_fail en h (by decide)]
 cases st with
 | good r l => rfl
 | bad p q e => rfl
theorem listPart_exec (F : Fn) (en : Int × Int) (l : List Rg) (k : Int) (s : ByteArray) {t : Tv} {st : Sta} (h : At t st) : (pListPart F l k s).exec en st = ((pRule F (okB k s)).bind fun r => .ret (l ++ [r])).exec en (faulted t (if 16 ≤ l.length then 2 else 0) (faulted t (okE k s) st)) := by
 unfold pListPart
 rw [okv_bind en _ _ st _ _ (ok_exec en k s h), room_bind, exec_if en (faulted_at h) (by decide)]
set_option maxHeartbeats 4000000 in
set_option maxRecDepth 100000 in
theorem listPart_is {T : World → Prop} {F : Fn} (K : Kit12 T F) (E : En) (hT : T E.w0) (bx lb : Nat) (nm : ByteArray) (w : World) (S : Nat → Prop) (l : List Rg) (st : Sta) (t : Tv) (h : Ps E w st) (hi0 : ListInv E bx lb nm w S l) (hat : At t st) (hl : l.length ≤ 16) : Calls Tryz.prog 63 #[t.val, .pointer (some ⟨bx, 0, none⟩), .pointer (some ⟨lb, 0, none⟩)] w fun e w' => e = .returned (.tuple #[]) ∧ ∃ y S', ListInv E bx lb nm w' S' y ∧ But (orS E.pb S) w w' ∧ (∀ k, S' k → S k ∨ w.heap.size ≤ k) ∧ Ps E w' ((pListPart F l t.k t.s).exec E.en st).2 ∧ ∀ a, ((pListPart F l t.k t.s).exec E.en st).1 = some a → y = a := by
 obtain ⟨i0, hi, hz0, hz1, hz2⟩ := info_partsRg
 rw [listPart_exec F E.en l t.k t.s hat]
 have CP := hide (permits_is E st t)
 have CO := hide (room_is E (faulted t (okE t.k t.s) st) t l.length 16)
 obtain ⟨stB, hstB⟩ : ∃ stB, faulted t (if 16 ≤ l.length then 2 else 0) (faulted t (okE t.k t.s) st) = stB := ⟨_, rfl⟩
 rw [hstB] at CO ⊢
 clear hstB
 have CP2 : Hid (∀ W, Ps E W st → Calls Tryz.prog 64 #[.pointer (some ⟨E.pb, 0, none⟩), t.val] W fun r w' => r = .returned (.bool (okB t.k t.s)) ∧ But (but1 E.pb) W w' ∧ Ps E w' (faulted t (okE t.k t.s) st)) := CP
 obtain ⟨ok, hok⟩ : ∃ ok, okB t.k t.s = ok := ⟨_, rfl⟩
 rw [hok] at CP2 ⊢
 obtain ⟨stA, hstA⟩ : ∃ stA, faulted t (okE t.k t.s) st = stA := ⟨_, rfl⟩
 rw [hstA] at CP2 CO
 have CR := hide (fun W hW => rule_is K E ok stB W hW hT)
 obtain ⟨R, hR⟩ : ∃ R, ((pRule F ok).bind fun r => Pg.ret (l ++ [r])).exec E.en stB = R := ⟨_, rfl⟩
 rw [hR]
 have HR := hide hR
 clear hR hok hstA CP hat
 unfold RuleTo at CR
 obtain ⟨v, hlb, how, hSk⟩ := hi0.row
 have HSO : Hid (∀ k, v.ownBlock = some k → S k) := fun k hk => (hSk k).2 (.inr hk)
 have HSL : Hid (S lb) := (hSk lb).2 (.inl rfl)
 have HNO1 : Hid (∀ g, v.ownBlock = some g → ¬ but1 E.pb g) := by
  obtain ⟨_, _, ao, n, c, a1, a2, e, hg, _⟩ := h
  exact fun g hg1 e1 => own_ne how hg (by decide) g hg1 e1
 have HNX1 : Hid (¬ v.ownBlock = some bx) := fun e => own_ne how hi0.box (by decide) bx e rfl
 have HNL1 : Hid (¬ v.ownBlock = some lb) := fun e => own_ne how hlb (by decide) lb e rfl
 have HBB := hide hi0.base
 have hlt := hi0.box
 obtain ⟨ao, c, hv⟩ : ∃ ao c, v = .slice ao l.length c := by
  rcases how.2 with ⟨hv, h0⟩ | ⟨g, cap, cur, hv, _⟩
  ·
   exact ⟨none, 0, by rw [hv, h0]⟩
  exact ⟨_, _, hv⟩
 subst hv
 have A0 := hide (balloc (brefl w) (.cells #[.int .i64 t.k, .string t.s, .int .i64 t.p, .int .i64 t.q] 95))
 have M0 := hide (heap_new w #[.int .i64 t.k, .string t.s, .int .i64 t.p, .int .i64 t.q] 95)
 have P0 := hide (h.below A0.out)
 have X0 := hide ((A0.out.block bx (heap_lt hi0.box)).trans hi0.box)
 have L0 := hide ((A0.out.block lb (heap_lt hlb)).trans hlb)
 have O0 := hide (row_but how (But.of (S := fun _ => False) A0.out) (fun _ _ h => h))
 have HPB := hide h.lt
 obtain ⟨N, hN⟩ : ∃ N, l.length = N := ⟨_, rfl⟩
 have HN := hide hN
 rw [hN] at L0 O0 CO hl HSO HNO1 HNX1 HNL1
 clear hN how hlb hSk hi0 h hT hlt
 obtain ⟨W0, pb, en⟩ := E
 obtain ⟨tk, tt, tp, tq⟩ := t
 simp only [Tv.val] at *
 go_enter Tryz.func63, Tryz.ntmps63
 go_upto_region 1 with fail
 obtain ⟨tb, htb⟩ : ∃ tb, w.heap.size = tb := ⟨_, rfl⟩
 have HTB : Hid (tb ≠ pb) := by have h9 := HPB.out; show _ ≠ _; omega
 rw [htb] at M0 ⊢
 have B0 := hide (But.of (S := orS pb S) A0.out)
 generalize w.alloc (.cells #[.int .i64 tk, .string tt, .int .i64 tp, .int .i64 tq] 95) = W at *
 clear htb A0
 obtain ⟨⟨c0, c1, c2, c3⟩, _⟩ := four_cells M0.out
 obtain ⟨b0, _⟩ := one_cell X0.out
 go_wp2_with fail
 refine (CP2.out _ P0.out).mono ?_
 rintro e w1 ⟨rfl, b1, p1⟩
 have P1 := hide p1
 have B1 := hide (B0.out.trans (b1.mono fun k _ e => .inl e))
 have X1 := hide (b1.keep X0.out HBB.out.2.2.1)
 have L1 := hide (b1.keep L0.out HBB.out.2.1)
 have O1 := hide (row_but O0.out b1 HNO1.out)
 have M1 := hide (b1.keep M0.out HTB.out)
 clear b1 p1 CP2 c0 c1 c2 c3 b0 P0 B0 X0 L0 O0 M0
 obtain ⟨⟨c0, c1, c2, c3⟩, _⟩ := four_cells M1.out
 obtain ⟨b0, _⟩ := one_cell X1.out
 obtain ⟨l0, l1, _, _⟩ := two_cells L1.out
 go_wp2_with fail
 refine (CO.out _ P1.out).mono ?_
 rintro e w2 ⟨rfl, b2, p2⟩
 have P2 := hide p2
 have B2 := hide (B1.out.trans (b2.mono fun k _ e => .inl e))
 have X2 := hide (b2.keep X1.out HBB.out.2.2.1)
 have L2 := hide (b2.keep L1.out HBB.out.2.1)
 have O2 := hide (row_but O1.out b2 HNO1.out)
 clear b2 p2 CO c0 c1 c2 c3 b0 l0 l1 P1 B1 X1 L1 O1 M1
 have HNE : Hid (bx ≠ pb ∧ lb ≠ pb ∧ bx ≠ lb ∧ W0.heap.size ≤ lb ∧ S lb) := ⟨HBB.out.2.2.1, HBB.out.2.1, HBB.out.2.2.2, HBB.out.1, HSL.out⟩
 have HNO := HNO1
 have HNX := HNX1
 have HNL := HNL1
 go_upto_region 3 with fail
 have P3 := hide (P2.out.below (Below.drew (brefl w2)))
 have B3 := hide (B2.out.trans (But.of (Below.drew (brefl w2))))
 have X3 := hide (((Below.drew (brefl w2)).block bx (heap_lt X2.out)).trans X2.out)
 have L3 := hide (((Below.drew (brefl w2)).block lb (heap_lt L2.out)).trans L2.out)
 have O3 := hide (row_but O2.out (But.of (S := fun _ => False) (Below.drew (brefl w2))) (fun _ _ h => h))
 refine wp_region_held_drew (S := (fun w' => w'.cell? ⟨bx, 0, none⟩ = some (.pointer (some ⟨pb, 0, none⟩)))) (by kernel_rfl) ((one_cell X3.out).1) (fun hHeld => ?_)
 clear P2 B2 X2 L2 O2 HSL HNO1 HNX1 HNL1
 generalize w2.drew = w3 at *
 refine tak 0 (.pointer (some ⟨lb, 1, none⟩)) rfl (Or.inl ⟨by rfl, fun w hSw => by dsimp only at hSw; go_simp⟩) hHeld ?_
 simp only [Act.put, g1, g2, g4, g5, g6]
 refine tak 2 (.pointer (some ⟨pb, 0, none⟩)) rfl (Or.inl ⟨by rfl, fun w hSw => by dsimp only at hSw; go_simp⟩) hHeld ?_
 simp only [Act.put, g1, g2, g3, g4, g5, g6]
 refine tak 3 (.bool ok) rfl (Or.inl ⟨by rfl, fun w hSw => by dsimp only at hSw; go_simp⟩) hHeld ?_
 simp only [Act.put, g1, g2, g3, g4, g5, g6]
 refine wpAnyH_ready (rs := [1, 4]) (by kernel_rfl) (by simp) ?_
 refine AllReadyH.cons rfl (fun K hK => ?_) ?_
 focus
  obtain ⟨l0, l1, lf0, lf1⟩ := two_cells L3.out
  go_simp
  refine hK.out _ _ ((one_cell X3.out).1) (fun hHeld => ?_)
  clear hK K l0 l1 lf0 lf1
  try simp only [Act.put, g1, g2, g3, g4, g5, g6]
  refine rdy 4 (by kernel_rfl) rfl fun K hK => ?_
  go_simp
  go_wp2_with (refine (CR.out _ P3.out).mono ?_; rintro e w4 ⟨r, rfl, b4, p4, v4⟩)
  have P4 := hide p4
  have HV := hide v4
  have B4 := hide (B3.out.trans (b4.mono fun k _ e => .inl e))
  have X4 := hide (b4.keep X3.out HNE.out.1)
  have L4 := hide (b4.keep L3.out HNE.out.2.1)
  have O4 := hide (row_but O3.out b4 HNO.out)
  clear b4 p4 v4
  refine hK.out _ _ ((one_cell X4.out).1) (fun hHeld => ?_)
  clear hK K
  try simp only [Act.put, g1, g2, g3, g4, g5, g6]
  clear P3 B3 X3 L3 O3
  refine rdy 5 (by kernel_rfl) rfl fun K hK => ?_
  unfold Rg.val
  go_simp
  have b5 := balloc (brefl w4) (.cells #[.int .u32 r.ad, .int .i64 r.bits, .int .i64 r.ge, .int .i64 r.le, .bool r.ok] 109)
  have A5 := hide (heap_new w4 #[.int .u32 r.ad, .int .i64 r.bits, .int .i64 r.ge, .int .i64 r.le, .bool r.ok] 109)
  have P5 := hide (P4.out.below b5)
  have B5 := hide (B4.out.trans (But.of b5))
  have X5 := hide ((b5.block bx (heap_lt X4.out)).trans X4.out)
  have L5 := hide ((b5.block lb (heap_lt L4.out)).trans L4.out)
  have O5 := hide (row_but O4.out (But.of (S := fun _ => False) b5) (fun _ _ h => h))
  clear b5
  refine hK.out _ _ ((one_cell X5.out).1) (fun hHeld => ?_)
  clear hK K
  try simp only [Act.put, g1, g2, g3, g4, g5, g6]
  clear P4 B4 X4 L4 O4
  obtain ⟨al, hal⟩ : ∃ al, w4.heap.size = al := ⟨_, rfl⟩
  rw [hal] at A5 ⊢
  generalize w4.alloc (.cells #[.int .u32 r.ad, .int .i64 r.bits, .int .i64 r.ge, .int .i64 r.le, .bool r.ok] 109) = U5 at *
  clear hal
 rotate_left
 focus
  refine AllReadyH.cons rfl (fun K hK => ?_) AllReadyH.nil
  go_simp
  go_wp2_with (refine (CR.out _ P3.out).mono ?_; rintro e w4 ⟨r, rfl, b4, p4, v4⟩)
  have P4 := hide p4
  have HV := hide v4
  have B4 := hide (B3.out.trans (b4.mono fun k _ e => .inl e))
  have X4 := hide (b4.keep X3.out HNE.out.1)
  have L4 := hide (b4.keep L3.out HNE.out.2.1)
  have O4 := hide (row_but O3.out b4 HNO.out)
  clear b4 p4 v4
  refine hK.out _ _ ((one_cell X4.out).1) (fun hHeld => ?_)
  clear hK K
  try simp only [Act.put, g1, g2, g3, g4, g5, g6]
  clear P3 B3 X3 L3 O3
  refine wpAnyH_ready (rs := [1, 5]) (by kernel_rfl) (by simp) ?_
  refine AllReadyH.cons rfl (fun K hK => ?_) ?_
  focus
   obtain ⟨l0, l1, lf0, lf1⟩ := two_cells L4.out
   go_simp
   refine hK.out _ _ ((one_cell X4.out).1) (fun hHeld => ?_)
   clear hK K l0 l1 lf0 lf1
   try simp only [Act.put, g1, g2, g3, g4, g5, g6]
   refine rdy 5 (by kernel_rfl) rfl fun K hK => ?_
   unfold Rg.val
   go_simp
   have b5 := balloc (brefl w4) (.cells #[.int .u32 r.ad, .int .i64 r.bits, .int .i64 r.ge, .int .i64 r.le, .bool r.ok] 109)
   have A5 := hide (heap_new w4 #[.int .u32 r.ad, .int .i64 r.bits, .int .i64 r.ge, .int .i64 r.le, .bool r.ok] 109)
   have P5 := hide (P4.out.below b5)
   have B5 := hide (B4.out.trans (But.of b5))
   have X5 := hide ((b5.block bx (heap_lt X4.out)).trans X4.out)
   have L5 := hide ((b5.block lb (heap_lt L4.out)).trans L4.out)
   have O5 := hide (row_but O4.out (But.of (S := fun _ => False) b5) (fun _ _ h => h))
   clear b5
   refine hK.out _ _ ((one_cell X5.out).1) (fun hHeld => ?_)
   clear hK K
   try simp only [Act.put, g1, g2, g3, g4, g5, g6]
   clear P4 B4 X4 L4 O4
   obtain ⟨al, hal⟩ : ∃ al, w4.heap.size = al := ⟨_, rfl⟩
   rw [hal] at A5 ⊢
   generalize w4.alloc (.cells #[.int .u32 r.ad, .int .i64 r.bits, .int .i64 r.ge, .int .i64 r.le, .bool r.ok] 109) = U5 at *
   clear hal
  rotate_left
  refine AllReadyH.cons rfl (fun K hK => ?_) AllReadyH.nil
  unfold Rg.val
  go_simp
  have b5 := balloc (brefl w4) (.cells #[.int .u32 r.ad, .int .i64 r.bits, .int .i64 r.ge, .int .i64 r.le, .bool r.ok] 109)
  have A5 := hide (heap_new w4 #[.int .u32 r.ad, .int .i64 r.bits, .int .i64 r.ge, .int .i64 r.le, .bool r.ok] 109)
  have P5 := hide (P4.out.below b5)
  have B5 := hide (B4.out.trans (But.of b5))
  have X5 := hide ((b5.block bx (heap_lt X4.out)).trans X4.out)
  have L5 := hide ((b5.block lb (heap_lt L4.out)).trans L4.out)
  have O5 := hide (row_but O4.out (But.of (S := fun _ => False) b5) (fun _ _ h => h))
  clear b5
  refine hK.out _ _ ((one_cell X5.out).1) (fun hHeld => ?_)
  clear hK K
  try simp only [Act.put, g1, g2, g3, g4, g5, g6]
  clear P4 B4 X4 L4 O4
  obtain ⟨al, hal⟩ : ∃ al, w4.heap.size = al := ⟨_, rfl⟩
  rw [hal] at A5 ⊢
  generalize w4.alloc (.cells #[.int .u32 r.ad, .int .i64 r.bits, .int .i64 r.ge, .int .i64 r.le, .bool r.ok] 109) = U5 at *
  clear hal
  refine rdy 1 (by kernel_rfl) rfl fun K hK => ?_
  obtain ⟨l0, l1, lf0, lf1⟩ := two_cells L5.out
  go_simp
  refine hK.out _ _ ((one_cell X5.out).1) (fun hHeld => ?_)
  clear hK K l0 l1 lf0 lf1
  try simp only [Act.put, g1, g2, g3, g4, g5, g6]
 all_goals
  refine rdy 6 (by kernel_rfl) rfl fun K hK => ?_
  rw [if_pos (by rfl)]
  refine wp_append_where _ _ _ 64 rfl W0.heap.size 109 i0 _ 5 40 Tryz.underlying64 hi hz0 hz1 hz2 rfl (by decide) (.slice ao N c) N (rgs l) rfl O5.out ⟨al, 0, none⟩ 1 1 [.int .u32 r.ad, .int .i64 r.bits, .int .i64 r.ge, .int .i64 r.le, .bool r.ok] rfl rfl (rg_reads A5.out) rg_one (by unfold maxLen; omega) (by omega) (Nat.le_trans P5.out.1.size (Nat.le_refl _)) ?_
  intro v9 w9 o9 g9 l9
  have X6 := hide ((g9.block bx (heap_lt X5.out) (fun e => HNX.out e.symm)).trans X5.out)
  have L6 := hide ((g9.block lb (heap_lt L5.out) (fun e => HNL.out e.symm)).trans L5.out)
  have P6 : Hid (Ps ⟨W0, pb, en⟩ w9 ((pRule F ok).exec en stB).2) := P5.out.of (S := fun k => some k = Value.ownBlock (.slice ao N c)) ⟨g9.os, g9.tape, g9.output, g9.size, fun k hk hl => g9.block k hl hk⟩ (fun e => HNO.out pb (by exact e.symm) rfl) (fun k e => (O5.out.lt k e.symm).1)
  have B6 := hide (B5.out.grown g9 (fun k hk => .inl (.inr (HSO.out k hk))))
  have O6 := hide o9
  have HL9 : Hid (∀ k, v9.ownBlock = some k → S k ∨ w.heap.size ≤ k) := fun k hk => by
   rcases l9 k hk with h | h
   ·
    exact .inl (HSO.out k h)
   exact .inr (Nat.le_trans B5.out.size h)
  clear o9 g9 l9
  refine hK.out _ _ ((one_cell X6.out).1) (fun hHeld => ?_)
  clear hK K
  try simp only [Act.put, g1, g2, g3, g4, g5, g6]
  clear P5 B5 X5 L5 O5 A5
  refine tak 7 (.pointer (some ⟨lb, 1, none⟩)) rfl (Or.inl ⟨by rfl, fun w hSw => by dsimp only at hSw; go_simp⟩) hHeld ?_
  simp only [Act.put, g1, g2, g3, g4, g5, g6]
  refine rdy 8 (by kernel_rfl) rfl fun K hK => ?_
  obtain ⟨l0, l1, lf0, lf1⟩ := two_cells L6.out
  obtain ⟨q9, n9, c9, hv9⟩ : ∃ q n c', v9 = .slice q n c' := by
   rcases O6.out.2 with ⟨hv5, _⟩ | ⟨g, cap, cur, hv5, _⟩
   ·
    exact ⟨_, _, _, hv5⟩
   exact ⟨_, _, _, hv5⟩
  rw [hv9]
  go_simp
  rw [← hv9]
  have X9 := hide (set_far (o := 1) (v := v9) X6.out HNE.out.2.2.1)
  have L9 := hide (heap_setCell_same _ lb 1 _ 66 v9 L6.out)
  have P9 := hide (P6.out.put (p := ⟨lb, 1, none⟩) HNE.out.2.1 HNE.out.2.2.2.1 v9)
  have B9 := hide (B6.out.setCell (p := ⟨lb, 1, none⟩) (.inl (.inr HNE.out.2.2.2.2)) v9)
  have O9 := hide (row_of (w' := w9.setCell ⟨lb, 1, none⟩ v9) O6.out (fun g hg => Below.heap_setCell _ _ _ _ (fun e9 => own_ne O6.out L6.out (by decide) g hg e9)))
  refine hK.out _ _ ((one_cell X9.out).1) (fun hHeld => ?_)
  clear hK K
  try simp only [Act.put, g1, g2, g3, g4, g5, g6]
  refine wpAnyH_done (by kernel_rfl) ?_ _
  clear hHeld
  go_wp2_with fail
  go_end0
  refine ⟨rfl, l ++ [r], fun k => k = lb ∨ v9.ownBlock = some k, ⟨X9.out, ⟨v9, L9.out, ?_, fun k => Iff.rfl⟩, HBB.out, ?_⟩, B9.out, ?_, ?_, ?_⟩
  ·
   rw [List.length_append, HN.out, rgs_app]
   exact O9.out
  ·
   rw [List.length_append, HN.out]
   simp only [List.length_cons, List.length_nil]
   omega
  ·
   rintro k (rfl | e)
   ·
    exact .inl HNE.out.2.2.2.2
   exact HL9.out k e
  ·
   rw [← HR.out]
   rw [exec_then en _ _ _ r HV.out, exec_ret]
   exact P9.out
  intro a ha
  rw [← HR.out] at ha
  rw [exec_then en _ _ _ r HV.out, exec_ret] at ha
  exact okv_some ha
theorem exec_map {α β : Type} (en : Int × Int) (g : Pg α) (h : α → β) (st : Sta) (y : α) (hy : ∀ a, (g.exec en st).1 = some a → y = a) : ((g.bind fun a => .ret (h a)).exec en st).2 = (g.exec en st).2 ∧ ∀ b, ((g.bind fun a => .ret (h a)).exec en st).1 = some b → h y = b := by
 rw [exec_then en g _ st y hy, exec_ret]
 exact ⟨rfl, fun b hb => okv_some hb⟩
theorem exec_some {α β : Type} (en : Int × Int) (g : Pg α) (h : α → Pg β) (st : Sta) {b : β} (hb : ((g.bind h).exec en st).1 = some b) : ∃ a, (g.exec en st).1 = some a ∧ ((h a).exec en (g.exec en st).2).1 = some b := by
 rw [exec_bind] at hb
 cases hg : g.exec en st with
 | mk o s1 =>
  rw [hg] at hb
  cases o with
  | some a => exact ⟨a, rfl, hb⟩
  | none => cases hb
theorem room_some (en : Int × Int) (n most : Nat) (st : Sta) {u : Unit} (h : ((room n most).exec en st).1 = some u) : n < most := by
 unfold room at h
 split at h
 ·
  cases st <;> cases h
 omega
theorem row_from {w : World} {B B' e z n : Nat} {v : Value} {xs : List Value} (h : w.ownsRow B e z v n xs) (hb : ∀ g, v.ownBlock = some g → B' ≤ g) : w.ownsRow B' e z v n xs := by
 obtain ⟨h1, h2⟩ := h
 refine ⟨h1, ?_⟩
 rcases h2 with h2 | ⟨g, cap, cur, hv, hB, hg, r⟩
 ·
  exact .inl h2
 exact .inr ⟨g, cap, cur, hv, hb g (by rw [hv]; rfl), hg, r⟩
theorem list_part {T : World → Prop} {F : Fn} (K : Kit12 T F) (E : En) (hT : T E.w0) (bx lb : Nat) (nm : ByteArray) (N : Nat) (hN : bx < N) : PartIs E 63 #[.pointer (some ⟨bx, 0, none⟩), .pointer (some ⟨lb, 0, none⟩)] (pListPart F) (ListInv E bx lb nm) N (fun l => l.length ≤ 16) where
  eg := by intro args w; go_simp
  keep := fun w w' S X l st h hi hb hX => by
    obtain ⟨v, h1, h2, h3⟩ := hi.row
    have hx : ∀ g, v.ownBlock = some g → ¬ X g := fun g hg e => by
      rcases hX g e with rfl | h9
      · obtain ⟨_, _, ao, n, c, a1, a2, e, hg0, _⟩ := h
        exact own_ne h2 hg0 (by decide) _ hg rfl
      · exact h9.2.1 ((h3 g).2 (.inr hg))
    refine ⟨hb.keep hi.box fun e => ?_, ⟨v, hb.keep h1 fun e => ?_, row_but h2 hb hx, h3⟩, hi.base, hi.many⟩
    · rcases hX bx e with h9 | h9
      · exact hi.base.2.2.1 h9
      · omega
    · rcases hX lb e with h9 | h9
      · exact hi.base.2.1 h9
      · exact h9.2.1 ((h3 lb).2 (.inl rfl))
  lt := fun w S l hi k hk => by
    obtain ⟨v, h1, h2, h3⟩ := hi.row
    rcases (h3 k).1 hk with rfl | h
    · exact heap_lt h1
    · exact (h2.lt k h).2
  fits := fun l k s st a hl ha => by
    unfold pListPart at ha
    obtain ⟨b, _, h2⟩ := exec_some _ _ _ _ ha
    obtain ⟨u, h3, h4⟩ := exec_some _ _ _ _ h2
    have h5 := room_some _ _ _ _ h3
    obtain ⟨r, _, h6⟩ := exec_some _ _ _ _ h4
    rw [exec_ret] at h6
    obtain rfl := okv_some h6
    rw [List.length_append]
    simp only [List.length_cons, List.length_nil]
    omega
  call := fun w S l st t h hi hat _ _ hl => by
    have e : #[t.val] ++ #[Value.pointer (some ⟨bx, 0, none⟩), .pointer (some ⟨lb, 0, none⟩)] = #[t.val, .pointer (some ⟨bx, 0, none⟩), .pointer (some ⟨lb, 0, none⟩)] := by simp
    rw [e]
    exact listPart_is K E hT bx lb nm w S l st t h hi hat hl
def ItTo {α : Type} (E : En) (o : Oc) (R : Option α × Sta) (w w' : World) (y : α) (s : ByteArray) : Prop := ∃ rb, OcAt E w' ⟨o.oc, o.bx, o.old ++ [s], rb⟩ ∧ (∀ g, rb = some g → o.rb = some g ∨ w.heap.size ≤ g) ∧ But (fun k => k = E.pb ∨ o.S k) w w' ∧ Ps E w' R.2 ∧ ∀ a, R.1 = some a → y = a
theorem OcAt.sz {E : En} {w : World} {o : Oc} (h : OcAt E w o) : ∀ k, o.S k → k < w.heap.size := by
 rintro k (rfl | e)
 ·
  exact h.lt.1
 exact (h.rb k e).2.1
set_option maxHeartbeats 4000000 in
set_option maxRecDepth 100000 in
theorem list_is {T : World → Prop} {F : Fn} (K : Kit12 T F) (E : En) (hT : T E.w0) (o : Oc) (f : Nat) (st : Sta) (w : World) (h : Ps E w st) (ho : OcAt E w o) (hl : o.old.length ≤ 10000) (hf : st.len < f) : Calls Tryz.prog 41 #[.pointer (some ⟨E.pb, 0, none⟩), o.fn] w fun e w' => ∃ s l v, e = .returned (.agg #[.string s, v]) ∧ s.size ≤ 1000 ∧ l.length ≤ 17 ∧ w'.ownsRow w.heap.size 109 5 v l.length (rgs l) ∧ ItTo E o ((pList F f o.old).exec E.en st) w w' ⟨s, l⟩ s := by
 unfold ItTo pList
 have A0 := hide (balloc (balloc (brefl w) (.cells #[.pointer (some ⟨E.pb, 0, none⟩)] 59)) (.cells #[.string ⟨#[]⟩, .slice none 0 0] 66))
 have X0 := hide (((balloc (brefl (w.alloc (.cells #[.pointer (some ⟨E.pb, 0, none⟩)] 59))) (.cells #[.string ⟨#[]⟩, .slice none 0 0] 66)).block w.heap.size (by rw [size_alloc]; omega)).trans (heap_new w #[.pointer (some ⟨E.pb, 0, none⟩)] 59))
 have R0 := hide (heap_new (w.alloc (.cells #[.pointer (some ⟨E.pb, 0, none⟩)] 59)) #[.string ⟨#[]⟩, .slice none 0 0] 66)
 rw [size_alloc] at R0
 have P0 := hide (h.below A0.out)
 have O0 := hide (ho.below A0.out)
 have HOS := hide ho.sz
 have HPB := hide h.lt
 have HW0 := hide h.1.size
 have CN := hide (fun W hW hO => newName_is K E o st W hW hO hl)
 have HLN : Hid (((pNew F o.old).exec E.en st).2.len < f) := Nat.lt_of_le_of_lt (exec_len _ _ _) hf
 have CB := hide (fun bx lb nm W (hN : bx < W.heap.size) hW hi => block_is E 63 _ _ _ W.heap.size _ (list_part K E hT bx lb nm W.heap.size hN) f [] ((pNew F o.old).exec E.en st).2 (fun k => k = lb) W hW hi HLN.out (Nat.le_refl _) (by show ([] : List Rg).length ≤ 16; simp))
 unfold BlkTo at CB
 unfold NewTo at CN
 clear h ho hl hf HLN
 have HEX := hide (fun s l (h1 : ((pNew F o.old).exec E.en st).1 = okv s ((pNew F o.old).exec E.en st).2) (h2 : ∀ a, ((pBr (pListPart F) f []).exec E.en ((pNew F o.old).exec E.en st).2).1 = some a → l = a) => (show (((pNew F o.old).bind fun x => (pBr (pListPart F) f []).bind fun l => .ret (⟨x, l⟩ : Ls)).exec E.en st).2 = ((pBr (pListPart F) f []).exec E.en ((pNew F o.old).exec E.en st).2).2 ∧ ∀ b, (((pNew F o.old).bind fun x => (pBr (pListPart F) f []).bind fun l => .ret (⟨x, l⟩ : Ls)).exec E.en st).1 = some b → (⟨s, l⟩ : Ls) = b from by
   rw [exec_then E.en (pNew F o.old) _ st s (fun a ha => by rw [h1] at ha; exact okv_some ha)]
   exact exec_map E.en _ _ _ l h2))
 generalize (((pNew F o.old).bind fun x => (pBr (pListPart F) f []).bind fun l => .ret (⟨x, l⟩ : Ls)).exec E.en st) = R at *
 generalize (pNew F o.old).exec E.en st = R1 at *
 generalize (pBr (pListPart F) f []).exec E.en R1.2 = R2 at *
 obtain ⟨W0, pb, en⟩ := E
 simp only [Oc.fn] at *
 go_enter Tryz.func41, Tryz.ntmps41
 go_upto_region 1 with fail
 obtain ⟨bx, hbx⟩ : ∃ bx, w.heap.size = bx := ⟨_, rfl⟩
 obtain ⟨rc, hrc⟩ : ∃ rc, bx + 1 = rc := ⟨_, rfl⟩
 have HNE : Hid (bx ≠ pb ∧ rc ≠ pb ∧ bx ≠ rc ∧ w.heap.size ≤ bx ∧ w.heap.size ≤ rc ∧ W0.heap.size ≤ bx ∧ W0.heap.size ≤ rc) := by have h9 := HPB.out; have h8 := HW0.out; exact ⟨by omega, by omega, by omega, by omega, by omega, by omega, by omega⟩
 have HOX : Hid (¬ o.S bx ∧ ¬ o.S rc) := ⟨fun e => by have := HOS.out _ e; omega, fun e => by have := HOS.out _ e; omega⟩
 rw [hbx] at X0 R0 ⊢
 rw [hrc] at R0 ⊢
 have B0 := hide (But.of (S := fun k => k = pb ∨ o.S k) A0.out)
 generalize (w.alloc (.cells #[.pointer (some ⟨pb, 0, none⟩)] 59)).alloc (.cells #[.string ⟨#[]⟩, .slice none 0 0] 66) = W at *
 have HSB := hide hbx
 clear hbx hrc A0
 obtain ⟨b0, _⟩ := one_cell X0.out
 go_wp2_with fail
 refine (CN.out _ P0.out O0.out).mono ?_
 rintro e w1 ⟨s, rfl, hs, rb, o1, l1, b1, p1, v1⟩
 have HS := hide hs
 have HV1 := hide v1
 have HL1 := hide (fun g hg => (l1 g hg).imp id (fun h => Nat.le_trans B0.out.size h))
 have P1 := hide p1
 have O1 := hide o1
 have B1 := hide (B0.out.trans b1)
 have X1 := hide (b1.keep X0.out (fun e => e.elim HNE.out.1 HOX.out.1))
 have R1 := hide (b1.keep R0.out (fun e => e.elim HNE.out.2.1 HOX.out.2))
 clear b1 p1 o1 v1 l1 hs CN P0 O0 B0 X0 R0 b0
 go_upto_region 2 with fail
 have b2 := balloc (brefl w1) (.cells #[.string s, .slice none 0 0] 66)
 have P2 := hide (P1.out.below b2)
 have O2 := hide (O1.out.below b2)
 have B2 := hide (B1.out.trans (But.of b2))
 have X2 := hide ((b2.block bx (heap_lt X1.out)).trans X1.out)
 have R2c := hide ((b2.block rc (heap_lt R1.out)).trans R1.out)
 have L2 := hide (heap_new w1 #[.string s, .slice none 0 0] 66)
 obtain ⟨lb, hlb⟩ : ∃ lb, w1.heap.size = lb := ⟨_, rfl⟩
 have HLB : Hid (lb ≠ pb ∧ bx ≠ lb ∧ rc ≠ lb ∧ W0.heap.size ≤ lb ∧ w.heap.size ≤ lb ∧ ¬ o.oc = lb ∧ ¬ o.bx = lb ∧ ∀ g, rb = some g → ¬ g = lb) := by
  have h1 := P1.out.lt
  have h2 := heap_lt X1.out
  have h3 := heap_lt R1.out
  have h4 := P1.out.1.size
  have h5 := O1.out.lt
  have h6 := B1.out.size
  simp only at h1 h4 h5
  exact ⟨by omega, by omega, by omega, by omega, by omega, by omega, by omega, fun g hg => by have := (O1.out.rb g hg).2.1; omega⟩
 rw [hlb] at L2 ⊢
 generalize w1.alloc (.cells #[.string s, .slice none 0 0] 66) = W2 at *
 clear hlb b2 P1 O1 B1 X1 R1
 have I2 : Hid (ListInv ⟨W0, pb, en⟩ bx lb s W2 (fun k => k = lb) []) := ⟨X2.out, ⟨_, L2.out, World.ownsRow_nil _ _ _ _, fun k => ⟨.inl, fun e => e.elim id (fun e => by cases e)⟩⟩, ⟨HLB.out.2.2.2.1, HLB.out.1, HNE.out.1, HLB.out.2.1⟩, by simp⟩
 obtain ⟨b0, _⟩ := one_cell X2.out
 go_wp2_with fail
 refine (CB.out bx lb s _ (heap_lt X2.out) P2.out I2.out).mono ?_
 rintro e w3 ⟨t, rfl, y, S', i3, b3, s3, p3, _, v3⟩
 obtain ⟨v, r1, r2, r3⟩ := i3.row
 have HM := hide i3.many
 have HVF := hide (row_from (B' := w.heap.size) r2 (fun g hg => by
   rcases s3 g ((r3 g).2 (.inr hg)) with h | h
   · rw [h]; exact HLB.out.2.2.2.2.1
   · exact Nat.le_trans B2.out.size h))
 have L3 := hide r1
 have R3 := hide (b3.keep R2c.out (fun e => e.elim HNE.out.2.1 HLB.out.2.2.1))
 have P3 := hide p3
 have O3 := hide (O2.out.of b3 (fun e => e.elim O2.out.base.2.1 HLB.out.2.2.2.2.2.1) (fun e => e.elim O2.out.base.2.2.1 HLB.out.2.2.2.2.2.2.1) (fun g hg e => e.elim (O2.out.pb P2.out g hg) (HLB.out.2.2.2.2.2.2.2 g hg)))
 have B3 := hide (B2.out.thens b3 (fun i hi e => e.elim .inl (fun e => by have := HLB.out.2.2.2.2.1; have h9 : i = lb := e; omega)))
 have HV3 := hide v3
 clear i3 b3 s3 p3 v3 r1 r2 r3 CB P2 O2 B2 X2 R2c L2 I2 b0
 obtain ⟨ao, n, c, hv⟩ : ∃ ao n c, v = .slice ao n c := by
  rcases HVF.out.2 with ⟨hv, _⟩ | ⟨g, cap, cur, hv, _⟩
  ·
   exact ⟨_, _, _, hv⟩
  exact ⟨_, _, _, hv⟩
 have HVV := hide hv
 rw [hv] at L3
 clear hv
 obtain ⟨l0, l1, _, _⟩ := two_cells L3.out
 obtain ⟨c0, c1, f0, f1⟩ := two_cells R3.out
 go_upto_region 3 with fail
 go_wp2_with fail
 have B4 := hide ((B3.out.setCell (p := ⟨rc, 0, none⟩) (.inr HNE.out.2.2.2.2.1) (.string s)).setCell (p := ⟨rc, 1, none⟩) (.inr HNE.out.2.2.2.2.1) (.slice ao n c))
 have B5 := hide (((But.refl (fun k => k = rc) w3).setCell (p := ⟨rc, 0, none⟩) (.inl rfl) (.string s)).setCell (p := ⟨rc, 1, none⟩) (.inl rfl) (.slice ao n c))
 have R4 := hide (heap_setCell_same _ rc 1 _ 66 (.slice ao n c) (heap_setCell_same _ rc 0 _ 66 (.string s) R3.out))
 refine bodyPost_ret (v := .agg #[.string s, .slice ao n c]) ?_ rfl ⟨s, y, v, by rw [HVV.out], HS.out, HM.out, ?_, rb, ?_, HL1.out, B4.out, ?_, (HEX.out s y HV1.out HV3.out).2⟩
 ·
  obtain ⟨t0, t1, _, _⟩ := two_cells R4.out
  simp [results, Tryz.results41, go_sem, t0, t1]
 ·
  exact row_but HVF.out B5.out (fun g hg e => own_ne HVF.out R3.out (by decide) g hg e)
 ·
  exact O3.out.of B5.out (fun e => HOX.out.2 (.inl e.symm)) (fun e => by have h8 : o.bx = rc := e; have h9 : w3.heap[o.bx]? = _ := O3.out.box; rw [h8, R3.out] at h9; cases h9) (fun g hg e => O3.out.other R3.out (by decide) (by rw [hg, e]))
 rw [(HEX.out s y HV1.out HV3.out).1]
 exact P3.out.of B5.out (fun e => HNE.out.2.1 e.symm) (fun k e => by rw [e]; exact HNE.out.2.2.2.2.2.2)
end Go.Proofs.YtnadhplhnfpeaaaGreatDoor
