/- Part of the proof. -/
import Derived.Test.YtnadhplhnfpeaaaGreatDoorAZ
import Derived.Test.YtnadhplhnfpeaaaGreatDoorA05
namespace Go.Proofs.YtnadhplhnfpeaaaGreatDoor
open Go.RowKit Go.Sort
set_option maxHeartbeats 2000000 in
set_option maxRecDepth 100000 in
theorem once_new (E : En) (st : Sta) (w : World) (h : Ps E w st) : Calls Tryz.prog 37 #[.pointer (some ⟨E.pb, 0, none⟩)] w fun e w' => ∃ oc bx, e = .returned (Oc.fn ⟨oc, bx, [], none⟩) ∧ OcAt E w' ⟨oc, bx, [], none⟩ ∧ w.heap.size ≤ oc ∧ w.heap.size ≤ bx ∧ Below w.heap.size w w' := by
 have HP := hide h.lt
 have HW := hide h.1.size
 have HB := hide (balloc (balloc (brefl w) (.cells #[.pointer (some ⟨E.pb, 0, none⟩)] 59)) (.cells #[.slice none 0 0] 126))
 have N0 := hide (((balloc (brefl (w.alloc (.cells #[.pointer (some ⟨E.pb, 0, none⟩)] 59))) (.cells #[.slice none 0 0] 126)).block w.heap.size (by rw [size_alloc]; omega)).trans (heap_new w #[.pointer (some ⟨E.pb, 0, none⟩)] 59))
 have M0 := hide (heap_new (w.alloc (.cells #[.pointer (some ⟨E.pb, 0, none⟩)] 59)) #[.slice none 0 0] 126)
 rw [size_alloc] at M0
 clear h
 obtain ⟨W0, pb, en⟩ := E
 simp only at *
 go_enter Tryz.func37, Tryz.ntmps37
 go_wp2_with fail
 go_ret
 refine ⟨w.heap.size + 1, w.heap.size, rfl, ⟨N0.out, ⟨_, M0.out, World.ownsRow_nil _ _ _ _, rfl⟩, ?_⟩, by omega, Nat.le_refl _, HB.out⟩
 have h1 := HP.out
 have h2 := HW.out
 exact ⟨by simp only; omega, by simp only; omega, by simp only; omega, by simp only; omega⟩
theorem new_exec (F : Fn) (en : Int × Int) (old : List ByteArray) (st : Sta) : (pNew F old).exec en st = (okv (taken en st).1.s (faulted (taken en st).1 (if inB old (taken en st).1.s = true then 6 else 0) (faulted (taken en st).1 (F.nam (wd (taken en st).1.k (taken en st).1.s)) (taken en st).2)), faulted (taken en st).1 (if inB old (taken en st).1.s = true then 6 else 0) (faulted (taken en st).1 (F.nam (wd (taken en st).1.k (taken en st).1.s)) (taken en st).2)) := by
 unfold pNew pName
 rw [exec_next, bind_assoc, exec_chk en (taken_at en st)]
 show (if _ then _ else _ : Pg ByteArray).exec en _ = _
 rw [exec_if en (faulted_at (taken_at en st)) (by decide), exec_ret]
def NewTo (F : Fn) (E : En) (o : Oc) (st : Sta) (w : World) (s : ByteArray) (w' : World) : Prop := ∃ rb, OcAt E w' ⟨o.oc, o.bx, o.old ++ [s], rb⟩ ∧ (∀ g, rb = some g → o.rb = some g ∨ w.heap.size ≤ g) ∧ But (fun k => k = E.pb ∨ o.S k) w w' ∧ Ps E w' ((pNew F o.old).exec E.en st).2 ∧ ((pNew F o.old).exec E.en st).1 = okv s ((pNew F o.old).exec E.en st).2
set_option maxHeartbeats 2000000 in
set_option maxRecDepth 100000 in
theorem newName_is {T : World → Prop} {F : Fn} (K : Kit12 T F) (E : En) (o : Oc) (st : Sta) (w : World) (h : Ps E w st) (ho : OcAt E w o) (hl : o.old.length ≤ 10000) : Calls Tryz.prog 61 #[.pointer (some ⟨E.pb, 0, none⟩), o.fn] w fun e w' => ∃ s, e = .returned (.string s) ∧ s.size ≤ 1000 ∧ NewTo F E o st w s w' := by
 unfold NewTo
 rw [new_exec]
 simp only
 have CN := hide (next_is E st w h)
 have HSZ := hide (taken_size h)
 have HPB := hide h.lt
 have CM := hide (fun W hW => name_is K E (taken E.en st).2 (taken E.en st).1 W hW HSZ.out)
 have CO := hide (fun W hW (hO : OcAt E W o) => once_call E o (taken E.en st).1 (faulted (taken E.en st).1 (F.nam (wd (taken E.en st).1.k (taken E.en st).1.s)) (taken E.en st).2) W hW hO hl)
 have H := hide h
 have HO := hide ho
 clear h ho
 generalize (taken E.en st).2 = st1 at *
 generalize (taken E.en st).1 = t at *
 obtain ⟨fin, hfin⟩ : ∃ fin, faulted t (if inB o.old t.s = true then 6 else 0) (faulted t (F.nam (wd t.k t.s)) st1) = fin := ⟨_, rfl⟩
 rw [hfin]
 have HFIN := hide hfin
 clear hfin
 obtain ⟨W0, pb, en⟩ := E
 obtain ⟨tk, tt, tp, tq⟩ := t
 simp only [Tv.val, Oc.fn] at *
 go_enter Tryz.func61, Tryz.ntmps61
 go_wp2_with fail
 refine CN.out.mono ?_
 rintro e w1 ⟨rfl, b1, p1⟩
 have P1 := hide (p1.alloc (.cells #[.int .i64 tk, .string tt, .int .i64 tp, .int .i64 tq] 95))
 have B1 := hide (b1.alloc (.cells #[.int .i64 tk, .string tt, .int .i64 tp, .int .i64 tq] 95))
 have N1 := hide (heap_new w1 #[.int .i64 tk, .string tt, .int .i64 tp, .int .i64 tq] 95)
 have HNE : Hid (w1.heap.size ≠ pb ∧ w1.heap.size ≠ o.oc ∧ w.heap.size ≤ w1.heap.size) := by have h9 := HPB.out; have h8 := b1.size; have h7 := HO.out.lt; exact ⟨by omega, by omega, h8⟩
 clear b1 p1 CN
 go_upto_region 2 with fail
 obtain ⟨tb, htb⟩ : ∃ tb, w1.heap.size = tb := ⟨_, rfl⟩
 rw [htb] at N1 HNE ⊢
 generalize w1.alloc (.cells #[.int .i64 tk, .string tt, .int .i64 tp, .int .i64 tq] 95) = W1 at *
 clear htb
 have O1 := hide (HO.out.but1 H.out B1.out)
 obtain ⟨⟨c0, c1, c2, c3⟩, _⟩ := four_cells N1.out
 go_wp2_with fail
 refine (CM.out _ P1.out).mono ?_
 rintro e w2 ⟨rfl, b2, p2⟩
 have P2 := hide p2
 have B2 := hide (B1.out.trans b2)
 have N2 := hide (b2.keep N1.out HNE.out.1)
 have O2 := hide (O1.out.but1 P1.out b2)
 clear b2 p2 c0 c1 c2 c3 CM P1 B1 N1 O1
 obtain ⟨⟨c0, c1, c2, c3⟩, _⟩ := four_cells N2.out
 go_wp2_with fail
 refine (CO.out _ P2.out O2.out).mono ?_
 rintro e w3 ⟨rfl, rb, o3, l3, b3, p3⟩
 have HL : Hid (∀ g, rb = some g → o.rb = some g ∨ w.heap.size ≤ g) := fun g hg => by
  rcases l3 g hg with h | h
  ·
   exact .inl h
  exact .inr (Nat.le_trans B2.out.size h)
 have B3 : Hid (But (fun k => k = pb ∨ o.S k) w w3) := (B2.out.mono fun k _ e => .inl e).trans b3
 simp only at p3
 rw [HFIN.out] at p3
 have P3 := hide p3
 have O3 := hide o3
 clear b3 p3 o3 l3
 go_wp2_with fail
 go_ret
 exact ⟨tt, rfl, HSZ.out, rb, O3.out, HL.out, B3.out, P3.out, rfl⟩
def Sta.len : Sta → Nat
  | .good r _ => r.length
  | .bad _ _ _ => 0
def pbLen (w : World) (pb : Nat) : Nat := match w.cell? ⟨pb, 0, none⟩ with
  | some (.slice _ n _) => n
  | _ => 0
theorem Ps.len {E : En} {w : World} {st : Sta} (h : Ps E w st) : pbLen w E.pb = st.len := by
 obtain ⟨_, _, ao, n, c, a1, a2, e, hg, hv⟩ := h
 unfold pbLen
 rw [(six_cells hg).1.1]
 cases st with
 | good r l => exact hv.1.symm
 | bad p q x => exact hv.2.1
theorem taken_len (en : Int × Int) (st : Sta) {r : List Tv} {l : Int × Int} (h : (taken en st).2 = .good r l) : st.len = r.length + 1 := by
 cases st with
 | good r0 l0 =>
  cases r0 with
  | nil => cases h
  | cons t r0 => cases h; rfl
 | bad p q e => cases h
theorem taken_le (en : Int × Int) (st : Sta) : (taken en st).2.len ≤ st.len := by
 cases st with
 | good r l => cases r <;> simp [taken, Sta.len]
 | bad p q e => exact Nat.le_refl _
theorem exec_len {α : Type} (en : Int × Int) (g : Pg α) (st : Sta) : (g.exec en st).2.len ≤ st.len := by
 cases st with
 | good r l =>
  show (g.run en r l).2.len ≤ r.length
  cases h : g.run en r l with
  | mk o st1 =>
   cases o with
   | none =>
    obtain ⟨p, q, e, rfl⟩ := run_none _ _ _ _ h
    exact Nat.zero_le _
   | some a =>
    obtain ⟨u, r', l', rfl, hu⟩ := run_some _ _ _ _ h
    rw [hu]
    simp [Sta.len]
 | bad p q e => exact Nat.le_refl _
abbrev orS (pb : Nat) (S : Nat → Prop) : Nat → Prop := fun k => k = pb ∨ S k
structure PartIs {σ : Type} (E : En) (f : Nat) (lb : Array Value) (pt : σ → Int → ByteArray → Pg σ) (Inv : World → (Nat → Prop) → σ → Prop) (N : Nat) (fit : σ → Prop) : Prop where
  eg : ∀ (args : Array Value) (w : World), (callFunc f args).run Tryz.prog w = .ok (.enter f args) w
  keep : ∀ (w w' : World) (S X : Nat → Prop) (x : σ) (st : Sta), Ps E w st → Inv w S x → But X w w' → (∀ k, X k → k = E.pb ∨ N ≤ k ∧ ¬ S k ∧ ∃ cs, w.heap[k]? = some (.cells cs 95 (0, 0))) → Inv w' S x
  lt : ∀ (w : World) (S : Nat → Prop) (x : σ), Inv w S x → ∀ k, S k → k < w.heap.size
  fits : ∀ (x : σ) (k : Int) (s : ByteArray) (st : Sta) (a : σ), fit x → ((pt x k s).exec E.en st).1 = some a → fit a
  call : ∀ (w : World) (S : Nat → Prop) (x : σ) (st : Sta) (t : Tv), Ps E w st → Inv w S x → At t st → t.s.size ≤ 1000 → (∃ r m, st = .good r m) → fit x → Calls Tryz.prog f (#[t.val] ++ lb) w fun e w' => e = .returned (.tuple #[]) ∧ ∃ y S', Inv w' S' y ∧ But (orS E.pb S) w w' ∧ (∀ k, S' k → S k ∨ w.heap.size ≤ k) ∧ Ps E w' ((pt x t.k t.s).exec E.en st).2 ∧ ∀ a, ((pt x t.k t.s).exec E.en st).1 = some a → y = a
theorem exec_good {α : Type} (en : Int × Int) (g : Pg α) (st : Sta) {r : List Tv} {m : Int × Int} (h : (g.exec en st).2 = .good r m) : ∃ a, (g.exec en st).1 = some a := by
 cases st with
 | good r0 l0 =>
  cases hr : g.run en r0 l0 with
  | mk o st1 =>
   have h1 : (g.run en r0 l0).2 = .good r m := h
   rw [hr] at h1
   cases o with
   | some a => exact ⟨a, by show (g.run en r0 l0).1 = _; rw [hr]⟩
   | none =>
    obtain ⟨p, q, e, rfl⟩ := run_none _ _ _ _ hr
    cases h1
 | bad p q e => cases h
def BlkTo {σ : Type} (E : En) (Inv : World → (Nat → Prop) → σ → Prop) (S : Nat → Prop) (w : World) (R : Option σ × Sta) (t : Tv) (w' : World) : Prop := ∃ y S', Inv w' S' y ∧ But (orS E.pb S) w w' ∧ (∀ k, S' k → S k ∨ w.heap.size ≤ k) ∧ Ps E w' R.2 ∧ At t R.2 ∧ ∀ a, R.1 = some a → y = a
theorem br_exec {σ : Type} (en : Int × Int) (pt : σ → Int → ByteArray → Pg σ) (F : Nat) (x : σ) (st : Sta) : (pBr pt F x).exec en st = (pBlk pt F x).exec en ((pMark 123).exec en st).2 := by
 unfold pBr
 rw [exec_bind]
 have e1 : (pMark 123).exec en st = (okv () (faulted (taken en st).1 (if isM 123 (taken en st).1.k (taken en st).1.s then 0 else 4) (taken en st).2), faulted (taken en st).1 (if isM 123 (taken en st).1.k (taken en st).1.s then 0 else 4) (taken en st).2) := by
  unfold pMark
  rw [exec_next, exec_ifn en (taken_at en st) (by decide), exec_ret]
 rw [e1]
 generalize faulted (taken en st).1 (if isM 123 (taken en st).1.k (taken en st).1.s then 0 else 4) (taken en st).2 = s1
 cases s1 <;> rfl
theorem blk_bad {σ : Type} (en : Int × Int) (pt : σ → Int → ByteArray → Pg σ) (f : Nat) (x : σ) (st : Sta) (h : ∀ r l, (taken en st).2 ≠ .good r l) : (pBlk pt f x).exec en st = (none, (taken en st).2) ∨ f = 0 := by
 cases f with
 | zero => exact .inr rfl
 | succ f =>
  left
  unfold pBlk
  rw [exec_next]
  cases h1 : (taken en st).2 with
  | good r l => exact absurd h1 (h r l)
  | bad p q e => rfl
theorem blk_end {σ : Type} (en : Int × Int) (pt : σ → Int → ByteArray → Pg σ) (f : Nat) (x : σ) (st : Sta) {r : List Tv} {l : Int × Int} (h : (taken en st).2 = .good r l) (hm : isM 125 (taken en st).1.k (taken en st).1.s) : (pBlk pt (f + 1) x).exec en st = (some x, (taken en st).2) := by
 unfold pBlk
 rw [exec_next, if_pos hm, exec_ret, h]
 rfl
theorem blk_more {σ : Type} (en : Int × Int) (pt : σ → Int → ByteArray → Pg σ) (f : Nat) (x : σ) (st : Sta) (hm : ¬ isM 125 (taken en st).1.k (taken en st).1.s) : (pBlk pt (f + 1) x).exec en st = match (pt x (taken en st).1.k (taken en st).1.s).exec en (taken en st).2 with
    | (some a, st) => (pBlk pt f a).exec en st
    | (none, st) => (none, st) := by
  rw [pBlk, exec_next, if_neg hm, exec_bind]
  cases (pt x (taken en st).1.k (taken en st).1.s).exec en (taken en st).2 with
  | mk o s1 => cases o <;> rfl
theorem blk_step {σ : Type} (en : Int × Int) (pt : σ → Int → ByteArray → Pg σ) (f : Nat) (x y : σ) (st : Sta) (hm : ¬ isM 125 (taken en st).1.k (taken en st).1.s) (hy : ∀ a, ((pt x (taken en st).1.k (taken en st).1.s).exec en (taken en st).2).1 = some a → y = a) : (pBlk pt f y).exec en ((pt x (taken en st).1.k (taken en st).1.s).exec en (taken en st).2).2 = (pBlk pt (f + 1) x).exec en st := by
 rw [blk_more en pt f x st hm]
 cases h : (pt x (taken en st).1.k (taken en st).1.s).exec en (taken en st).2 with
 | mk o st2 =>
  rw [h] at hy
  cases o with
  | some a =>
   rw [hy a rfl]
  | none =>
   have hb : ∃ p q e, st2 = .bad p q e := by
    cases ht : (taken en st).2 with
    | good r l => rw [ht] at h; exact run_none _ _ _ _ h
    | bad p q e => rw [ht] at h; cases h; exact ⟨_, _, _, rfl⟩
   obtain ⟨p, q, e, rfl⟩ := hb
   rfl
set_option maxHeartbeats 4000000 in
set_option maxRecDepth 100000 in
theorem block_is {σ : Type} (E : En) (f : Nat) (lb : Array Value) (pt : σ → Int → ByteArray → Pg σ) (Inv : World → (Nat → Prop) → σ → Prop) (N : Nat) (fit : σ → Prop) (HP : PartIs E f lb pt Inv N fit) (F : Nat) (x : σ) (st : Sta) (S : Nat → Prop) (w : World) (h : Ps E w st) (hi : Inv w S x) (hF : st.len < F) (hN : N ≤ w.heap.size) (hx : fit x) : Calls Tryz.prog 62 #[.pointer (some ⟨E.pb, 0, none⟩), .func (.func f) #[] lb] w fun e w' => ∃ t, e = .returned (Tv.val t) ∧ BlkTo E Inv S w ((pBr pt F x).exec E.en st) t w' := by
 rw [br_exec]
 have A0 := hide (balloc (brefl w) (.cells #[.int .i64 0, .string ⟨#[]⟩, .int .i64 0, .int .i64 0] 95))
 have N0 := hide (heap_new w #[.int .i64 0, .string ⟨#[]⟩, .int .i64 0, .int .i64 0] 95)
 have P0 := hide (h.below A0.out)
 have I0 := hide (HP.keep _ _ _ (fun _ => False) _ _ h hi (But.of A0.out) (fun _ e => e.elim))
 have HNW := hide hN
 have HFX : Hid (∀ r m, ((pMark 123).exec E.en st).2 = .good r m → fit x) := fun _ _ _ => hx
 clear hN hx
 have CM := hide (mark_is E st 123)
 have HL : Hid (((pMark 123).exec E.en st).2.len < F) := Nat.lt_of_le_of_lt (exec_len _ _ _) hF
 have HPB := hide h.lt
 have HW0 := hide h.1.size
 have HH := hide HP
 have HSL := hide (HP.lt _ _ _ hi)
 have eg := HP.eg
 clear hi h hF HP
 generalize ((pMark 123).exec E.en st).2 = st1 at *
 obtain ⟨R, hR⟩ : ∃ R, (pBlk pt F x).exec E.en st1 = R := ⟨_, rfl⟩
 rw [hR]
 have HR := hide hR
 clear hR
 obtain ⟨W0, pb, en⟩ := E
 simp only at *
 go_enter Tryz.func62, Tryz.ntmps62
 go_upto_region 1 with fail
 obtain ⟨rb, hrb⟩ : ∃ rb, w.heap.size = rb := ⟨_, rfl⟩
 have HRB : Hid (rb ≠ pb ∧ w.heap.size ≤ rb ∧ ¬ S rb) := by have h9 := HPB.out; exact ⟨by omega, by omega, fun e => by have := HSL.out rb e; omega⟩
 rw [hrb] at N0 ⊢
 have B0 := hide (But.of (S := orS pb S) A0.out)
 generalize w.alloc (.cells #[.int .i64 0, .string ⟨#[]⟩, .int .i64 0, .int .i64 0] 95) = W at *
 clear hrb A0
 go_wp2_with fail
 refine (CM.out _ P0.out).mono ?_
 rintro e w1 ⟨rfl, b1, p1⟩
 have P1 := hide p1
 have B1 := hide (B0.out.trans (b1.mono fun k _ e => .inl e))
 have N1 := hide (b1.keep N0.out HRB.out.1)
 have I1 := hide (HH.out.keep _ _ _ _ _ _ P0.out I0.out b1 (fun _ e => .inl e))
 clear b1 p1 CM P0 B0 N0 I0
 go_wp2_with fail
 go_loopw [5] (fun _ wr => ∃ (y : σ) (S' : Nat → Prop) (st' : Sta) (g : Nat), Hid (Inv wr S' y) ∧ Hid (Ps ⟨W0, pb, en⟩ wr st') ∧ Hid ((pBlk pt g y).exec en st' = R) ∧ Hid (st'.len < g) ∧ Hid (But (orS pb S) w wr) ∧ Hid (∀ k, S' k → S k ∨ w.heap.size ≤ k) ∧ Hid (wr.heap[rb]? = some (.cells #[.int .i64 0, .string ⟨#[]⟩, .int .i64 0, .int .i64 0] 95 (0, 0))) ∧ Hid (¬ S' rb) ∧ Hid (∀ r m, st' = .good r m → fit y)) (fun _ wr => pbLen wr pb)
 case atStart => exact ⟨x, S, st1, F, I1, P1, HR, HL, B1, fun k h => .inl h, N1, HRB.out.2.2, HFX⟩
 case round =>
  clear I1 P1 HR HL B1 N1 HFX
  obtain ⟨y, S', st', g, HI, HP, HR, HL, HB, HS, HN, HNS, HFY⟩ := hrel
  have HFT : Hid (∀ r m, (taken en st').2 = .good r m → fit y) := fun r m e => by
   cases st' with
   | good r0 l0 => exact HFY.out r0 l0 rfl
   | bad p q e0 => cases e
  have CN := hide (next_is ⟨W0, pb, en⟩ st' wr HP.out)
  have HSZ := hide (taken_size HP.out)
  have HTA := hide (taken_at en st')
  have HLE := hide HP.out.len
  have HPL := hide HP.out.lt
  simp only at CN HSZ HLE HPL
  obtain ⟨g, rfl⟩ : ∃ g', g = g' + 1 := ⟨g - 1, by have := HL.out; omega⟩
  go_wp2_with fail
  refine CN.out.mono ?_
  rintro e w2 ⟨rfl, b2, p2⟩
  have B2 := hide (HB.out.trans (b2.mono fun k _ e => .inl e))
  have N2 := hide (b2.keep HN.out HRB.out.1)
  have I2 := hide (HH.out.keep _ _ _ _ _ _ HP.out HI.out b2 (fun _ e => .inl e))
  have P2 := hide p2
  have HBAD : Hid (∀ p q e, (taken en st').2 = .bad p q e → R = (none, (taken en st').2)) := fun p q e he => by
   rcases blk_bad en pt (g + 1) y st' (fun r l e' => by rw [he] at e'; cases e') with h | h
   ·
    rw [← HR.out, h]
   cases h
  have HEND : Hid (∀ r l, (taken en st').2 = .good r l → isM 125 (taken en st').1.k (taken en st').1.s → R = (some y, (taken en st').2)) := fun r l he hm => by rw [← HR.out]; exact blk_end en pt g y st' he hm
  have HSTEP : Hid (¬ isM 125 (taken en st').1.k (taken en st').1.s → ∀ z, (∀ a, ((pt y (taken en st').1.k (taken en st').1.s).exec en (taken en st').2).1 = some a → z = a) → (pBlk pt g z).exec en ((pt y (taken en st').1.k (taken en st').1.s).exec en (taken en st').2).2 = R) := fun hm z hz => by rw [← HR.out]; exact blk_step en pt g y z st' hm hz
  have HLEN : Hid (∀ r l, (taken en st').2 = .good r l → st'.len = r.length + 1) := fun r l he => taken_len en st' he
  have HWS := hide b2.size
  clear CN b2 p2 HB HN HI HP HR
  generalize (taken en st').2 = st2 at *
  generalize (taken en st').1 = t at *
  have A3 := hide (balloc (brefl w2) (.cells #[.int .i64 t.k, .string t.s, .int .i64 t.p, .int .i64 t.q] 95))
  have M3 := hide (heap_new w2 #[.int .i64 t.k, .string t.s, .int .i64 t.p, .int .i64 t.q] 95)
  have P3 := hide (P2.out.below A3.out)
  have B3 := hide (B2.out.trans (But.of A3.out))
  have N3 := hide ((A3.out.block rb (heap_lt N2.out)).trans N2.out)
  have I3 := hide (HH.out.keep _ _ _ (fun _ => False) _ _ P2.out I2.out (But.of A3.out) (fun _ e => e.elim))
  have CK := hide (isMark_is 125 t)
  have CC := hide (fun W hP hI hg hf => HH.out.call W S' y st2 t hP hI HTA.out HSZ.out hg hf)
  have HSL2 := hide (HH.out.lt _ _ _ I2.out)
  obtain ⟨tk, tt, tp, tq⟩ := t
  simp only [Tv.val] at *
  go_upto_region 3 with fail
  obtain ⟨tb, htb⟩ : ∃ tb, w2.heap.size = tb := ⟨_, rfl⟩
  have HTB : Hid (tb ≠ pb ∧ tb ≠ rb ∧ ¬ S' tb ∧ w.heap.size ≤ tb) := by
   have h1 := P2.out.lt
   have h2 := heap_lt N2.out
   have h3 := B2.out.size
   simp only at h1
   exact ⟨by omega, by omega, fun e => by have := HSL2.out tb e; omega, by omega⟩
  rw [htb] at M3 ⊢
  generalize w2.alloc (.cells #[.int .i64 tk, .string tt, .int .i64 tp, .int .i64 tq] 95) = W3 at *
  clear htb A3 P2 B2 N2 I2 HSL2
  obtain ⟨⟨c0, c1, c2, c3⟩, _⟩ := four_cells M3.out
  obtain ⟨⟨d0, d1, d2, d3⟩, f0, f1, f2, f3⟩ := four_cells N3.out
  obtain ⟨ao, n, c, a1, a2, x0, hg, hx0, _⟩ := P3.out.head
  obtain ⟨⟨_, _, _, _, _, z5⟩, _⟩ := six_cells hg
  simp only at z5
  clear hg
  cases st2 with
  | bad p q e =>
   have hne : (x0 != 0) = true := by
    rw [bne_iff_ne]
    intro e0
    obtain ⟨r, l, h⟩ := hx0.1 e0
    cases h
   have HR := hide (HBAD.out p q e rfl)
   clear hx0
   go_wp2_with fail
   refine bodyPost_ret (v := .agg #[.int .i64 tk, .string tt, .int .i64 tp, .int .i64 tq]) ?_ rfl ?_
   ·
    obtain ⟨⟨t0, t1, t2, t3⟩, _⟩ := four_cells (four_set N3.out (.int .i64 tk) (.string tt) (.int .i64 tp) (.int .i64 tq))
    simp [results, Tryz.results62, go_sem, t0, t1, t2, t3]
   exact ⟨⟨tk, tt, tp, tq⟩, rfl, y, S', HH.out.keep _ _ _ (fun k => k = rb) _ _ P3.out I3.out ((But.refl (fun k => k = rb) W3).put4 (.inl rfl) _ _ _ _) (fun k e => .inr ⟨by rw [e]; exact Nat.le_trans HNW.out HRB.out.2.1, by rw [e]; exact HNS.out, ⟨_, (congrArg (fun i => W3.heap[i]?) (show k = rb from e)).trans N3.out⟩⟩), B3.out.put4 (.inr HRB.out.2.1) _ _ _ _, HS.out, by rw [HR.out]; exact P3.out.put4 HRB.out.1 (Nat.le_trans P3.out.1.size (Nat.le_refl _) |> fun h => by have h1 := HW0.out; have h2 := HRB.out.2.1; simp only at *; omega) _ _ _ _, by rw [HR.out]; trivial, fun a ha => by rw [HR.out] at ha; cases ha⟩
  | good r l =>
   obtain rfl : x0 = 0 := hx0.2 ⟨r, l, rfl⟩
   have HLR := hide (HLEN.out r l rfl)
   clear hx0
   go_wp2_with fail
   refine (CK.out _).mono ?_
   rintro e w4 ⟨rfl, b4⟩
   have P4 := hide (P3.out.below b4)
   have B4 := hide (B3.out.trans (But.of b4))
   have N4 := hide ((b4.block rb (heap_lt N3.out)).trans N3.out)
   have M4 := hide ((b4.block tb (heap_lt M3.out)).trans M3.out)
   have I4 := hide (HH.out.keep _ _ _ (fun _ => False) _ _ P3.out I3.out (But.of b4) (fun _ e => e.elim))
   clear b4 CK c0 c1 c2 c3 d0 d1 d2 d3 f0 f1 f2 f3 z5 P3 B3 N3 M3 I3
   obtain ⟨⟨c0, c1, c2, c3⟩, _⟩ := four_cells M4.out
   obtain ⟨⟨d0, d1, d2, d3⟩, f0, f1, f2, f3⟩ := four_cells N4.out
   by_cases hm : isM 125 tk tt
   ·
    rw [decide_eq_true hm]
    have HR := hide (HEND.out r l rfl hm)
    clear hm
    go_wp2_with fail
    refine bodyPost_ret (v := .agg #[.int .i64 tk, .string tt, .int .i64 tp, .int .i64 tq]) ?_ rfl ?_
    ·
     obtain ⟨⟨t0, t1, t2, t3⟩, _⟩ := four_cells (four_set N4.out (.int .i64 tk) (.string tt) (.int .i64 tp) (.int .i64 tq))
     simp [results, Tryz.results62, go_sem, t0, t1, t2, t3]
    exact ⟨⟨tk, tt, tp, tq⟩, rfl, y, S', HH.out.keep _ _ _ (fun k => k = rb) _ _ P4.out I4.out ((But.refl (fun k => k = rb) w4).put4 (.inl rfl) _ _ _ _) (fun k e => .inr ⟨by rw [e]; exact Nat.le_trans HNW.out HRB.out.2.1, by rw [e]; exact HNS.out, ⟨_, (congrArg (fun i => w4.heap[i]?) (show k = rb from e)).trans N4.out⟩⟩), B4.out.put4 (.inr HRB.out.2.1) _ _ _ _, HS.out, by rw [HR.out]; exact P4.out.put4 HRB.out.1 (by have h1 := HW0.out; have h2 := HRB.out.2.1; simp only at *; omega) _ _ _ _, by rw [HR.out]; exact HTA.out, fun a ha => by rw [HR.out] at ha; cases ha; rfl⟩
   rw [decide_eq_false hm]
   have HS2 := hide (HSTEP.out hm)
   clear hm
   go_wp2_with fail
   refine (CC.out _ P4.out I4.out ⟨r, l, rfl⟩ (HFT.out r l rfl)).mono ?_
   rintro e w5 ⟨rfl, y5, S5, i5, b5, s5, p5, v5⟩
   have P5 := hide p5
   have I5 := hide i5
   have B5 : Hid (But (orS pb S) w w5) := by
    refine B4.out.thens b5 ?_
    rintro k hk (e | e)
    ·
     exact .inl e
    rcases HS.out k e with h | h
    ·
     exact .inr h
    omega
   have HSX : Hid (∀ k, S5 k → S k ∨ w.heap.size ≤ k) := fun k hk => by
    rcases s5 k hk with h | h
    ·
     exact HS.out k h
    exact .inr (Nat.le_trans B4.out.size h)
   have N5 := hide (b5.keep N4.out (by
    rintro (e | e)
    ·
     exact HRB.out.1 e
    exact HNS.out e))
   have HNS5 : Hid (¬ S5 rb) := fun e => by
    rcases s5 rb e with h | h
    ·
     exact HNS.out h
    have := heap_lt N4.out; omega
   have HR5 := hide (HS2.out y5 v5)
   have HF5 : Hid (∀ r5 m5, ((pt y tk tt).exec en (.good r l)).2 = .good r5 m5 → fit y5) := fun r5 m5 e => by
    obtain ⟨a, ha⟩ := exec_good en (pt y tk tt) (.good r l) e
    rw [v5 a ha]
    exact HH.out.fits y tk tt _ a (HFT.out r l rfl) ha
   have HL5 : Hid (((pt y tk tt).exec en (.good r l)).2.len < g ∧ ((pt y tk tt).exec en (.good r l)).2.len < st'.len) := by
    have h1 := exec_len en (pt y tk tt) (.good r l)
    have h2 := HLR.out
    have h3 := HL.out
    have h4 : Sta.len (.good r l) = r.length := rfl
    exact ⟨by omega, by omega⟩
   have HLE5 := hide P5.out.len
   simp only at HLE5
   clear i5 b5 s5 p5 v5 CC
   go_wp2_with fail
   refine ⟨⟨y5, S5, _, g, I5, P5, HR5, HL5.out.1, B5, HSX, N5, HNS5, HF5⟩, ?_⟩
   rw [HLE5.out, HLE.out]
   exact HL5.out.2
end Go.Proofs.YtnadhplhnfpeaaaGreatDoor
