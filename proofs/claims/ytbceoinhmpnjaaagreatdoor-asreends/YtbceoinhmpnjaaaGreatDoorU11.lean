import Derived.Test.YtbceoinhmpnjaaaGreatDoorU9
/- The reader's atoms: those that are there. -/
namespace Go.Proofs.YtbceoinhmpnjaaaGreatDoor
open Go.RowKit Go.Sort

set_option maxHeartbeats 16000000 in
set_option maxRecDepth 100000 in
theorem atom_yes {T : World → Prop} (K : ReadKit T) {W : World} {b : Nat} {r : Bs} {d D : Nat} (h : Rd W b r d 0) (hT : Ty T b W) (hl : r.length ≤ 100) (hI : InnerOk T b d D) {c : UInt8} {t : Bs} (hk : Px.skip r = c :: t) (hs : Px.starts c = true) :
    Calls Tryz.prog 56 #[.pointer (some ⟨b, 0, none⟩)] W (AtomPost b W d (Px.atom (Px.choice D) r)) := by
  have hne : W.heap.size ≠ b := by have := h.lt; omega
  have hbW := h.lt
  have R0 := hide (h.alloc zN)
  have B0 := hide ((But.refl b W).alloc zN)
  have Z0 := hide (head_new W)
  have F0 := hide (free_new W #[.int .i64 0, .slice none 0 0, .slice none 0 0] 59)
  have HT := hide hT
  have HI := hide hI
  have hnl : (Px.next r).length ≤ 100 := Nat.le_trans (Px.next_suf r).length_le hl
  clear h hT hI
  obtain ⟨R, hR⟩ : ∃ R, R = Px.atom (Px.choice D) r := ⟨_, rfl⟩
  rw [← hR]
  cases h46 : Px.isAt r 46 with
  | true =>
    have HR : Hid (R = .ok (.num true false [(1, 65535, true)], Px.next r)) := by show _ = _; rw [hR, atom_dot h46]
    have CT := hide (take_is K.trims R0.out 46 46 rfl true h46 (Px.next r) (by simp))
    clear hR hk hs h46
    go_enter Tryz.func56, Tryz.ntmps56
    go_wp2_with fail
    refine CT.out.mono ?_
    rintro e w1 ⟨rfl, hB, hR⟩
    have B1 := hide (B0.out.trans hB)
    have Z1 := hide (box3_but Z0.out hB hne)
    have F1 := hide (hB.free F0.out hne)
    have R1 := hide hR
    clear hB hR CT
    obtain ⟨c0, c1, c2⟩ := Z1.out
    have f0 := F1.out.2 0
    have f1 := F1.out.2 1
    have f2 := F1.out.2 2
    go_wp2_with fail
    change bodyPost Tryz.prog Tryz.f56 (AtomPost b W d R) Exit.ret _ (put3 w1 W.heap.size (.int .i64 1) (.slice none 0 0) (.slice none 0 0))
    refine bodyPost_ret (v := .tuple #[.agg #[.int .i64 1, .slice none 0 0, .slice none 0 0], .bool true]) (res_nb Tryz.results56 _ _ W.heap.size rfl rfl (put3_box Z1.out _ _ _)) rfl ?_
    exact ⟨_, _, _, nodePost_ok HR.out (put3_but B1.out (.inr (Nat.le_refl _)) _ _ _) rfl (Nat.le_refl _) (put3_rd R1.out hne _ _ _) dot_own, ⟨rfl, rfl, rfl⟩, rfl⟩
  | false =>
    cases h91 : Px.isAt r 91 with
    | true =>
      have HR : Hid (R = setR (Px.set ((Px.next r).length + 1) [] (Px.next r))) := by show _ = _; rw [hR, atom_set h46 h91]
      have C1 := hide (take_is K.trims R0.out 46 46 rfl false h46 (Px.skip r) (by simp))
      have C2 := hide (fun w hR => take_is K.trims (W := w) (b := b) (r := Px.skip r) (d := d) (q := 0) hR 91 91 rfl true ((Px.skip_skip_isAt r 91).trans h91) (Px.next r) (by simp [next_skip]))
      have CS := hide (fun w hR hT => set_is K (W := w) (b := b) (r0 := Px.next r) (d := d) hR hT hnl ((Px.next r).length + 1) (Nat.lt_succ_self _))
      clear hR hk hs h46 h91
      go_enter Tryz.func56, Tryz.ntmps56
      go_wp2_with fail
      refine C1.out.mono ?_
      rintro e w1 ⟨rfl, hB, hR⟩
      have B1 := hide (B0.out.trans hB)
      have Z1 := hide (box3_but Z0.out hB hne)
      have F1 := hide (hB.free F0.out hne)
      have D2 := hide (C2.out w1 hR)
      clear hB hR C1 C2
      go_wp2_with fail
      refine D2.out.mono ?_
      rintro e w2 ⟨rfl, hB, hR⟩
      have B2 := hide (B1.out.trans hB)
      have Z2 := hide (box3_but Z1.out hB hne)
      have F2 := hide (hB.free F1.out hne)
      have DS := hide (CS.out w2 hR (HT.out.but B2.out))
      clear hB hR D2 CS
      go_wp2_with fail
      refine DS.out.mono ?_
      rintro e w3 hN
      obtain ⟨x0, x1, x2, rfl, h1⟩ := nodePost_val hN
      have HN := hide hN
      have Z3 := hide (box3_but Z2.out hN.1 hne)
      have F3 := hide (hN.1.free F2.out hne)
      obtain ⟨o0, o1, o2⟩ := h1
      have s0 := fun w a m => run_store Tryz.prog w a x0 m o0
      have s1 := fun w a m => run_store Tryz.prog w a x1 m o1
      have s2 := fun w a m => run_store Tryz.prog w a x2 m o2
      clear hN DS
      obtain ⟨c0, c1, c2⟩ := Z3.out
      have f0 := F3.out.2 0
      have f1 := F3.out.2 1
      have f2 := F3.out.2 2
      have hlt := box3_lt Z2.out
      go_wp2_with fail
      change bodyPost Tryz.prog Tryz.f56 (AtomPost b W d R) Exit.ret _ (put3 w3 W.heap.size x0 x1 x2)
      refine bodyPost_ret (v := .tuple #[.agg #[x0, x1, x2], .bool true]) (res_nb Tryz.results56 _ _ W.heap.size rfl rfl (put3_box Z3.out _ _ _)) rfl ?_
      refine ⟨x0, x1, x2, ?_, ⟨o0, o1, o2⟩, rfl⟩
      rw [HR.out]
      exact nodePost_put B2.out hlt hbW HN.out
    | false =>
      cases h40 : Px.isAt r 40 with
      | true =>
        have HR : Hid (R = innerR (Px.choice D (Px.next r))) := by show _ = _; rw [hR, atom_par2 h46 h91 h40]
        have C1 := hide (take_is K.trims R0.out 46 46 rfl false h46 (Px.skip r) (by simp))
        have C2 := hide (fun w hR => take_is K.trims (W := w) (b := b) (r := Px.skip r) (d := d) (q := 0) hR 91 91 rfl false ((Px.skip_skip_isAt r 91).trans h91) (Px.skip r) (by simp [Px.skip_idem]))
        have C3 := hide (fun w hR => take_is K.trims (W := w) (b := b) (r := Px.skip r) (d := d) (q := 0) hR 40 40 rfl true ((Px.skip_skip_isAt r 40).trans h40) (Px.next r) (by simp [next_skip]))
        have CS := hide (fun w hR hT => HI.out w (Px.next r) hR hT hnl)
        clear hR hk hs h46 h91 h40
        go_enter Tryz.func56, Tryz.ntmps56
        go_wp2_with fail
        refine C1.out.mono ?_
        rintro e w1 ⟨rfl, hB, hR⟩
        have B1 := hide (B0.out.trans hB)
        have Z1 := hide (box3_but Z0.out hB hne)
        have F1 := hide (hB.free F0.out hne)
        have D2 := hide (C2.out w1 hR)
        clear hB hR C1 C2
        go_wp2_with fail
        refine D2.out.mono ?_
        rintro e w2 ⟨rfl, hB, hR⟩
        have B2 := hide (B1.out.trans hB)
        have Z2 := hide (box3_but Z1.out hB hne)
        have F2 := hide (hB.free F1.out hne)
        have D3 := hide (C3.out w2 hR)
        clear hB hR D2 C3
        go_wp2_with fail
        refine D3.out.mono ?_
        rintro e w3 ⟨rfl, hB, hR⟩
        have B3 := hide (B2.out.trans hB)
        have Z3 := hide (box3_but Z2.out hB hne)
        have F3 := hide (hB.free F2.out hne)
        have DS := hide (CS.out w3 hR (HT.out.but B3.out))
        clear hB hR D3 CS
        go_wp2_with fail
        refine DS.out.mono ?_
        rintro e w4 hN
        obtain ⟨x0, x1, x2, rfl, h1⟩ := nodePost_val hN
        have HN := hide hN
        have Z4 := hide (box3_but Z3.out hN.1 hne)
        have F4 := hide (hN.1.free F3.out hne)
        obtain ⟨o0, o1, o2⟩ := h1
        have s0 := fun w a m => run_store Tryz.prog w a x0 m o0
        have s1 := fun w a m => run_store Tryz.prog w a x1 m o1
        have s2 := fun w a m => run_store Tryz.prog w a x2 m o2
        clear hN DS
        obtain ⟨c0, c1, c2⟩ := Z4.out
        have f0 := F4.out.2 0
        have f1 := F4.out.2 1
        have f2 := F4.out.2 2
        have hlt := box3_lt Z3.out
        go_wp2_with fail
        change bodyPost Tryz.prog Tryz.f56 (AtomPost b W d R) Exit.ret _ (put3 w4 W.heap.size x0 x1 x2)
        refine bodyPost_ret (v := .tuple #[.agg #[x0, x1, x2], .bool true]) (res_nb Tryz.results56 _ _ W.heap.size rfl rfl (put3_box Z4.out _ _ _)) rfl ?_
        refine ⟨x0, x1, x2, ?_, ⟨o0, o1, o2⟩, rfl⟩
        rw [HR.out]
        exact nodePost_put B3.out hlt hbW HN.out
      | false =>
        have hdig : Ad.dig c = true := by
          rw [isAt_of_head hk] at h46 h91 h40
          unfold Px.starts at hs
          simpa [h46, h91, h40] using hs
        have hds : ∃ u v, Px.digits r = u :: v := by
          unfold Px.digits
          rw [hk, List.takeWhile_cons, if_pos hdig]
          exact ⟨_, _, rfl⟩
        obtain ⟨u, v, hds⟩ := hds
        have HR : Hid (R = (match numRes (Px.digits r) with | .error e => .error e | .ok x => .ok (.num false false [(x, x, false)], (Px.skip r).dropWhile Ad.dig))) := by
          show _ = _
          rw [hR, atom_num h46 h91 h40, number_res]
          cases numRes (Px.digits r) <;> rfl
        have C1 := hide (take_is K.trims R0.out 46 46 rfl false h46 (Px.skip r) (by simp))
        have C2 := hide (fun w hR => take_is K.trims (W := w) (b := b) (r := Px.skip r) (d := d) (q := 0) hR 91 91 rfl false ((Px.skip_skip_isAt r 91).trans h91) (Px.skip r) (by simp [Px.skip_idem]))
        have C3 := hide (fun w hR => take_is K.trims (W := w) (b := b) (r := Px.skip r) (d := d) (q := 0) hR 40 40 rfl false ((Px.skip_skip_isAt r 40).trans h40) (Px.skip r) (by simp [Px.skip_idem]))
        have C4 := hide (fun w hR => digits_is K.trims (W := w) (b := b) (r := Px.skip r) (d := d) (q := 0) hR (by have := (Px.skip_suf r).length_le; omega))
        have C5 := hide (fun w hR hT => rnumber_is K (W := w) (b := b) (r := (Px.skip r).dropWhile Ad.dig) (d := d) (q := 0) hR hT (Px.digits r) (digits_no r) (Nat.le_trans (digits_len r) (by omega)))
        rw [Px.skip_idem, digits_cong (Px.skip_idem r)] at C4
        have he := tx_isEmpty u v
        rw [← hds] at he
        clear hR hk hs h46 h91 h40 hds hdig hnl
        generalize Px.digits r = ds at *
        generalize (Px.skip r).dropWhile Ad.dig = k at *
        go_enter Tryz.func56, Tryz.ntmps56
        go_wp2_with fail
        refine C1.out.mono ?_
        rintro e w1 ⟨rfl, hB, hR⟩
        have B1 := hide (B0.out.trans hB)
        have Z1 := hide (box3_but Z0.out hB hne)
        have F1 := hide (hB.free F0.out hne)
        have D2 := hide (C2.out w1 hR)
        clear hB hR C1 C2
        go_wp2_with fail
        refine D2.out.mono ?_
        rintro e w2 ⟨rfl, hB, hR⟩
        have B2 := hide (B1.out.trans hB)
        have Z2 := hide (box3_but Z1.out hB hne)
        have F2 := hide (hB.free F1.out hne)
        have D3 := hide (C3.out w2 hR)
        clear hB hR D2 C3
        go_wp2_with fail
        refine D3.out.mono ?_
        rintro e w3 ⟨rfl, hB, hR⟩
        have B3 := hide (B2.out.trans hB)
        have Z3 := hide (box3_but Z2.out hB hne)
        have F3 := hide (hB.free F2.out hne)
        have D4 := hide (C4.out w3 hR)
        clear hB hR D3 C4
        go_wp2_with fail
        refine D4.out.mono ?_
        rintro e w4 ⟨rfl, hB, hR⟩
        have B4 := hide (B3.out.trans hB)
        have Z4 := hide (box3_but Z3.out hB hne)
        have F4 := hide (hB.free F3.out hne)
        have D5 := hide (C5.out w4 hR (HT.out.but B4.out))
        clear hB hR D4 C5
        generalize tx ds = s at *
        go_wp2_with fail
        cases hn : numRes ds with
        | error x =>
          rw [hn] at HR D5
          refine D5.out.mono ?_
          rintro e w5 ⟨hB, rfl, hR⟩
          have B5 := hide (B4.out.trans hB)
          have Z5 := hide (box3_but Z4.out hB hne)
          have F5 := hide (hB.free F4.out hne)
          have R5 := hide (show Rd w5 b [] d x by simpa using hR)
          clear hB hR D5 hn
          obtain ⟨c0, c1, c2⟩ := Z5.out
          have f0 := F5.out.2 0
          have f1 := F5.out.2 1
          have f2 := F5.out.2 2
          have hlt := box3_lt Z5.out
          have hn1 : W.heap.size ≠ w5.heap.size := by omega
          go_wp2_with fail
          change bodyPost Tryz.prog Tryz.f56 (AtomPost b W d R) Exit.ret _ ((put3 w5 W.heap.size (.int .i64 0) (.slice (some ⟨w5.heap.size, 0, none⟩) 1 1) (.slice none 0 0)).alloc (.cells #[.int .i64 0, .int .i64 0, .bool false] 84))
          refine bodyPost_ret (v := .tuple #[.agg #[.int .i64 0, .slice (some ⟨w5.heap.size, 0, none⟩) 1 1, .slice none 0 0], .bool true]) (res_nb Tryz.results56 _ _ W.heap.size rfl rfl (box3_below (put3_box Z5.out _ _ _) (balloc (brefl _) _))) rfl ?_
          refine ⟨_, _, _, ?_, ⟨rfl, rfl, rfl⟩, rfl⟩
          exact nodePost_err HR.out ((put3_but B5.out (.inr (Nat.le_refl _)) _ _ _).alloc _) ((put3_rd R5.out hne _ _ _).alloc _) ⟨rfl, rfl, rfl⟩
        | ok x =>
          rw [hn] at HR D5
          refine D5.out.mono ?_
          rintro e w5 ⟨hB, rfl, hR⟩
          have B5 := hide (B4.out.trans hB)
          have Z5 := hide (box3_but Z4.out hB hne)
          have F5 := hide (hB.free F4.out hne)
          have R5 := hide hR
          clear hB hR D5 hn
          obtain ⟨c0, c1, c2⟩ := Z5.out
          have f0 := F5.out.2 0
          have f1 := F5.out.2 1
          have f2 := F5.out.2 2
          have hlt := box3_lt Z5.out
          have hn1 : W.heap.size ≠ w5.heap.size := by omega
          go_wp2_with fail
          change bodyPost Tryz.prog Tryz.f56 (AtomPost b W d R) Exit.ret _ ((put3 w5 W.heap.size (.int .i64 0) (.slice (some ⟨w5.heap.size, 0, none⟩) 1 1) (.slice none 0 0)).alloc (.cells #[.int .i64 x, .int .i64 x, .bool false] 84))
          refine bodyPost_ret (v := .tuple #[.agg #[.int .i64 0, .slice (some ⟨w5.heap.size, 0, none⟩) 1 1, .slice none 0 0], .bool true]) (res_nb Tryz.results56 _ _ W.heap.size rfl rfl (box3_below (put3_box Z5.out _ _ _) (balloc (brefl _) _))) rfl ?_
          refine ⟨_, _, _, ?_, ⟨rfl, rfl, rfl⟩, rfl⟩
          refine nodePost_ok HR.out ((put3_but B5.out (.inr (Nat.le_refl _)) _ _ _).alloc _) rfl (Nat.le_refl _) ((put3_rd R5.out hne _ _ _).alloc _) (num_own (t := 84) (by omega) ?_)
          have e := put3_size w5 W.heap.size (.int .i64 0) (.slice (some ⟨w5.heap.size, 0, none⟩) 1 1) (.slice none 0 0)
          generalize put3 w5 W.heap.size (.int .i64 0) (.slice (some ⟨w5.heap.size, 0, none⟩) 1 1) (.slice none 0 0) = w6 at e ⊢
          show (w6.heap.push _)[w5.heap.size]? = _
          rw [← e]
          simp
end Go.Proofs.YtbceoinhmpnjaaaGreatDoor

/- Rows of nodes that grow; the reader's rows. -/
namespace Go.Proofs.YtbceoinhmpnjaaaGreatDoor
open Go.RowKit Go.Sort

/-- What becomes of the reader behind a tree. -/
def PnPost (b : Nat) (W : World) (d : Nat) (R : Except Int (Pn × Bs)) (e : Ending) (w' : World) : Prop :=
  But b W w' ∧ match R with
  | .ok (n, k) => ∃ (k' : Bs) (x0 x1 x2 : Value), Px.skip k' = Px.skip k ∧ k'.length ≤ k.length ∧ Rd w' b k' d 0 ∧ Own3 (From W.heap.size w') w' n [x0, x1, x2] ∧ e = .returned (.agg #[x0, x1, x2])
  | .error q => ∃ x0 x1 x2 : Value, Rd w' b [] d q ∧ One3 x0 x1 x2 ∧ e = .returned (.agg #[x0, x1, x2])
/-- A node on its way, in block N; the result's block is W's next one. -/
structure Wy (b : Nat) (W : World) (N : Nat) (x0 v1 v2 : Value) (wr : World) : Prop where
  hb : b < W.heap.size
  hN : W.heap.size < N
  free0 : Free wr W.heap.size
  box0 : Box3 wr W.heap.size (.int .i64 0) (.slice none 0 0) (.slice none 0 0)
  free1 : Free wr N
  box1 : Box3 wr N x0 v1 v2
  but : But b W wr
theorem Wy.ne0 {b : Nat} {W : World} {N : Nat} {x0 v1 v2 : Value} {wr : World} (h : Wy b W N x0 v1 v2 wr) : W.heap.size ≠ b := by have := h.hb; omega
theorem Wy.ne1 {b : Nat} {W : World} {N : Nat} {x0 v1 v2 : Value} {wr : World} (h : Wy b W N x0 v1 v2 wr) : N ≠ b := by have := h.hb; have := h.hN; omega
theorem Wy.lt {b : Nat} {W : World} {N : Nat} {x0 v1 v2 : Value} {wr : World} (h : Wy b W N x0 v1 v2 wr) : N < wr.heap.size := h.free1.1
theorem Wy.step {b : Nat} {W : World} {N : Nat} {x0 v1 v2 : Value} {wr w' : World} (h : Wy b W N x0 v1 v2 wr) (hB : But b wr w') : Wy b W N x0 v1 v2 w' :=
  ⟨h.hb, h.hN, hB.free h.free0 h.ne0, box3_but h.box0 hB h.ne0, hB.free h.free1 h.ne1, box3_but h.box1 hB h.ne1, h.but.trans hB⟩
theorem Wy.alloc {b : Nat} {W : World} {N : Nat} {x0 v1 v2 : Value} {wr : World} (h : Wy b W N x0 v1 v2 wr) (o : Obj) : Wy b W N x0 v1 v2 (wr.alloc o) := h.step (But.of (balloc (brefl _) o))
theorem Wy.drew {b : Nat} {W : World} {N : Nat} {x0 v1 v2 : Value} {wr : World} (h : Wy b W N x0 v1 v2 wr) : Wy b W N x0 v1 v2 wr.drew := h.step (But.of (Below.drew (brefl _)))
theorem Wy.grown {b : Nat} {W : World} {N : Nat} {x0 v1 v2 : Value} {wr w' : World} {row : Option Nat} (h : Wy b W N x0 v1 v2 wr) (hg : wr.grownBy w' row) (hr : ∀ k, row = some k → W.heap.size < k ∧ k ≠ N) : Wy b W N x0 v1 v2 w' := by
  have h0 : w'.heap[W.heap.size]? = wr.heap[W.heap.size]? := hg.block _ h.free0.1 (fun e => by have := (hr _ e.symm).1; omega)
  have h1 : w'.heap[N]? = wr.heap[N]? := hg.block _ h.lt (fun e => (hr _ e.symm).2 rfl)
  have hs := hg.size
  exact ⟨h.hb, h.hN, free_of h.free0 hs h0, box3_of h.box0 h0, free_of h.free1 hs h1, box3_of h.box1 h1, h.but.grown hg (fun k hk => by have := (hr k hk).1; omega)⟩
theorem Wy.set2 {b : Nat} {W : World} {N : Nat} {x0 v1 v2 : Value} {wr : World} (h : Wy b W N x0 v1 v2 wr) (v : Value) : Wy b W N x0 v1 v (wr.setCell ⟨N, 2, none⟩ v) := by
  obtain ⟨c0, c1, c2⟩ := h.box1
  have hN := h.hN
  refine ⟨h.hb, h.hN, free_set h.free0 _ _, box3_of h.box0 (heap_setCell_ne _ _ _ _ _ (by omega)), free_set h.free1 _ _, ⟨?_, ?_, ?_⟩, h.but.setCell (.inr (by simp only; omega)) _⟩ <;> simp [go_sem, c0, c1, c2]
/-- Trees side by side in a row of the call's own; block N is another one's. -/
def Kids (B N : Nat) (w : World) (us : List Pn) (v : Value) : Prop :=
  ∃ (css : List (List Value)) (S : Nat → Prop), css.length = us.length ∧ (∀ c ∈ css, c.length = 3) ∧ w.ownsRow B 59 3 v us.length css.flatten ∧ (∀ k, v.ownBlock = some k → k ≠ N) ∧ (∀ k, S k → B ≤ k ∧ k < w.heap.size ∧ k ≠ N ∧ v.ownBlock ≠ some k) ∧
  ∀ i (h : i < us.length) (h' : i < css.length), Own3 S w us[i] css[i]
theorem Kids.nil (B N : Nat) (w : World) : Kids B N w [] (.slice none 0 0) :=
  ⟨[], fun _ => False, rfl, by simp, ⟨rfl, .inl ⟨rfl, rfl⟩⟩, fun k hk => by simp [Value.ownBlock] at hk, fun k hk => hk.elim, fun i h => by simp at h⟩
theorem Kids.keep {B N : Nat} {w w' : World} {us : List Pn} {v : Value} (h : Kids B N w us v) (hs : w.heap.size ≤ w'.heap.size) (hk : ∀ k, B ≤ k → k ≠ N → k < w.heap.size → w'.heap[k]? = w.heap[k]?) : Kids B N w' us v := by
  obtain ⟨css, S, h1, h2, h3, h4, h5, h6⟩ := h
  refine ⟨css, S, h1, h2, row_same h3 (fun g hg => hk g (h3.lt g hg).1 (h4 g hg) (h3.lt g hg).2), h4, fun k hS => ?_, fun i hi hi' => (h6 i hi hi').keep hs fun k hS => hk k (h5 k hS).1 (h5 k hS).2.2.1 (h5 k hS).2.1⟩
  have := h5 k hS
  exact ⟨this.1, by omega, this.2.2⟩
theorem Kids.but {B N b : Nat} {w w' : World} {us : List Pn} {v : Value} (h : Kids B N w us v) (hB : But b w w') (hb : b < B) : Kids B N w' us v := h.keep hB.size fun k hk _ hl => hB.block k (by omega) hl
theorem Kids.set {B N : Nat} {w : World} {us : List Pn} {v : Value} (h : Kids B N w us v) (o : Nat) (u : Value) : Kids B N (w.setCell ⟨N, o, none⟩ u) us v := h.keep (by rw [size_setCell]; omega) fun k _ hN _ => heap_setCell_ne _ _ _ _ _ hN
theorem Kids.row {B N : Nat} {w : World} {us : List Pn} {v : Value} (h : Kids B N w us v) : ∃ xs, w.ownsRow B 59 3 v us.length xs ∧ (∀ k, v.ownBlock = some k → B ≤ k ∧ k < w.heap.size ∧ k ≠ N) ∧ ∃ o c, v = .slice o us.length c := by
  obtain ⟨css, S, h1, h2, h3, h4, _⟩ := h
  exact ⟨_, h3, fun k hk => ⟨(h3.lt k hk).1, (h3.lt k hk).2, h4 k hk⟩, row_slice h3⟩
/-- One more. S2: where the new one lies. -/
theorem Kids.more {B N : Nat} {w w2 : World} {us : List Pn} {v : Value} {t : Pn} {y0 y1 y2 : Value} {S2 : Nat → Prop} {g cap n : Nat} (hn : n = us.length) (h : Kids B N w us v) (ht : Own3 S2 w t [y0, y1, y2]) (hS2 : ∀ k, S2 k → B ≤ k ∧ k ≠ N ∧ v.ownBlock ≠ some k) (hN : N < w.heap.size) {xs : List Value} (hxs : w.ownsRow B 59 3 v us.length xs)
    (ho : w2.ownsRow B 59 3 (.slice (some ⟨g, 0, none⟩) (n + 1) cap) (n + 1) (xs ++ [y0, y1, y2])) (hg : w.grownBy w2 v.ownBlock) (hl : v.ownBlock = some g ∨ g = w.heap.size) : Kids B N w2 (us ++ [t]) (.slice (some ⟨g, 0, none⟩) (n + 1) cap) := by
  subst hn
  obtain ⟨css, S, h1, h2, h3, h4, h5, h6⟩ := h
  have hx : xs = css.flatten := by
    rcases hxs.2 with ⟨e1, e2⟩ | ⟨g1, c1, u1, e1, _, e2, _, _, _, e3⟩
    · have hl0 : us.length = 0 := e2
      have a1 := hxs.1
      have a2 := h3.1
      rw [hl0] at a1 a2
      have b1 : xs = [] := List.length_eq_zero_iff.1 (by omega)
      have b2 : css.flatten = [] := List.length_eq_zero_iff.1 (by omega)
      rw [b1, b2]
    · rcases h3.2 with ⟨f1, f2⟩ | ⟨g2, c2, u2, f1, _, f2, _, _, _, f3⟩
      · rw [f1] at e1; simp at e1
      · rw [f1] at e1
        simp only [Value.slice.injEq, Option.some.injEq, Addr.mk.injEq] at e1
        obtain ⟨⟨rfl, _⟩, _, _⟩ := e1
        rw [f2] at e2
        simp only [Option.some.injEq, Obj.cells.injEq] at e2
        rw [← e3, ← f3, e2.1]
  subst hx
  have hsz := hg.size
  have hkeep : ∀ k, k < w.heap.size → v.ownBlock ≠ some k → w2.heap[k]? = w.heap[k]? := fun k hk hne => hg.block k hk (fun e => hne e.symm)
  refine ⟨css ++ [[y0, y1, y2]], fun k => S k ∨ S2 k, by simp [h1], ?_, by simpa using ho, ?_, ?_, ?_⟩
  · intro c hc
    rcases List.mem_append.1 hc with hc | hc
    · exact h2 c hc
    · simp at hc; subst hc; rfl
  · intro k hk
    simp only [Value.ownBlock, Option.some.injEq] at hk
    subst hk
    rcases hl with hl | hl
    · exact h4 _ hl
    · omega
  · rintro k (hk | hk)
    · have := h5 k hk
      refine ⟨this.1, by omega, this.2.2.1, ?_⟩
      intro e
      simp only [Value.ownBlock, Option.some.injEq] at e
      subst e
      rcases hl with hl | hl
      · exact this.2.2.2 hl
      · omega
    · have h7 := hS2 k hk
      have h8 := ht.1 k hk
      refine ⟨h7.1, by omega, h7.2.1, ?_⟩
      intro e
      simp only [Value.ownBlock, Option.some.injEq] at e
      subst e
      rcases hl with hl | hl
      · exact h7.2.2 hl
      · omega
  · have hb : ∀ k, (S k ∨ S2 k) → k < w2.heap.size := by
      rintro k (hk | hk)
      · have := (h5 k hk).2.1; omega
      · have := ht.1 k hk; omega
    intro i hi hi'
    by_cases hlt : i < us.length
    · rw [List.getElem_append_left hlt, List.getElem_append_left (by omega)]
      exact ((h6 i hlt (by omega)).keep hsz fun k hk => hkeep k (h5 k hk).2.1 (h5 k hk).2.2.2).mono (fun k hk => .inl hk) hb
    · have hie : i = us.length := by simp at hi; omega
      have e1 : (us ++ [t])[i] = t := by subst hie; simp
      have e2 : (css ++ [[y0, y1, y2]])[i] = [y0, y1, y2] := by
        rw [List.getElem_append_right (by omega)]
        simp
      rw [e1, e2]
      exact (ht.keep hsz fun k hk => hkeep k (ht.1 k hk) (hS2 k hk).2.2).mono (fun k hk => .inr hk) hb
/-- The node over trees side by side lies. -/
theorem Kids.own {A B N : Nat} {w w' : World} {us : List Pn} {o : Option Addr} {c : Nat} {kd : Int} (h : Kids B N w us (.slice o us.length c)) (hA : A ≤ B) (hl : us.length ≤ 10000) (hs : w.heap.size ≤ w'.heap.size) (hk : ∀ k, B ≤ k → k ≠ N → k < w.heap.size → w'.heap[k]? = w.heap[k]?) :
    Own3 (From A w') w' (.mk kd [] us) [.int .i64 kd, .slice none 0 0, .slice o us.length c] := by
  obtain ⟨css, S, h1, h2, h3, h4, h5, h6⟩ := h
  refine ⟨fun k hk => hk.2, fun w2 hw2 => ?_⟩
  have hall : ∀ k, B ≤ k → k ≠ N → k < w.heap.size → w2.heap[k]? = w.heap[k]? := fun k a1 a2 a3 => (hw2 k ⟨by omega, by omega⟩).trans (hk k a1 a2 a3)
  have ha : ∀ i (hi : i < us.length), Pn.At w2 us[i] (css.getD i []) := by
    intro i hi
    have hi' : i < css.length := by omega
    have := (h6 i hi hi').2 w2 fun k hS => hall k (h5 k hS).1 (h5 k hS).2.2.1 (h5 k hS).2.1
    simpa [List.getD, hi'] using this
  by_cases h0 : us = []
  · subst h0
    exact Pn.At.mk (w := w2) (k := kd) (ps := []) (us := []) (po := none) (pc := 0) (uo := o) (uc := c) 0 0 (fun i => css.getD i []) ⟨by simp, by simp⟩ (.inl rfl) (.inl rfl) (fun i hi => by simp at hi) (fun i hi => by simp at hi)
  · obtain ⟨g, hg, hB, hlt, hrd⟩ := row_six (w' := w2) h3 (List.length_pos_iff.2 h0) (fun k hk1 => hall k (h3.lt k hk1).1 (h4 k hk1) (h3.lt k hk1).2)
    refine Pn.At.mk (w := w2) (k := kd) (ps := []) (us := us) (po := none) (pc := 0) (uo := o) (uc := c) g 0 (fun i => css.getD i []) ⟨by simp, by omega⟩ (.inl rfl) (.inr hg) (fun i hi j hj => ?_) ha
    have hi' : i < css.length := by omega
    have e : css.getD i [] = css[i] := by simp [List.getD, hi']
    have h3l := h2 css[i] (List.getElem_mem hi')
    have hj3 : j < 3 := by
      have := hj
      simp only [e] at this
      omega
    rw [Nat.zero_add]
    refine hrd _ _ ?_
    have : ∀ (l : List (List Value)), (∀ c ∈ l, c.length = 3) → ∀ (i : Nat) (h : i < l.length) (j : Nat), j < 3 → l.flatten[i * 3 + j]? = (l[i])[j]? := by
      intro l
      induction l with
      | nil => intro _ i h; simp at h
      | cons x l ih =>
        intro hx i h j hj
        have hx3 := hx x (by simp)
        cases i with
        | zero => rw [List.flatten_cons, Nat.zero_mul, Nat.zero_add, List.getElem?_append_left (by omega)]; rfl
        | succ i =>
          rw [List.flatten_cons, List.getElem?_append_right (by omega), hx3, show (i + 1) * 3 + j - 3 = i * 3 + j by omega, ih (fun c hc => hx c (by simp [hc])) i (by simpa using h) j hj]
          rfl
    rw [this css h2 i hi' j hj3]
    have hj4 : j < css[i].length := by omega
    rw [List.getElem?_eq_getElem hj4]
    simp only [e]
theorem pnPost_err {b : Nat} {W : World} {d : Nat} {R : Except Int (Pn × Bs)} {v : Int} {x0 x1 x2 : Value} {w' : World} (hR : R = .error v) (hB : But b W w') (hr : Rd w' b [] d v) (h1 : One3 x0 x1 x2) : PnPost b W d R (.returned (.agg #[x0, x1, x2])) w' := by
  rw [hR]
  exact ⟨hB, x0, x1, x2, hr, h1, rfl⟩
theorem pnPost_ok {b : Nat} {W : World} {d : Nat} {R : Except Int (Pn × Bs)} {n : Pn} {k k' : Bs} {x0 x1 x2 : Value} {w' : World} (hR : R = .ok (n, k)) (hB : But b W w') (hk : Px.skip k' = Px.skip k) (hl : k'.length ≤ k.length) (hr : Rd w' b k' d 0) (h1 : Own3 (From W.heap.size w') w' n [x0, x1, x2]) : PnPost b W d R (.returned (.agg #[x0, x1, x2])) w' := by
  rw [hR]
  exact ⟨hB, k', x0, x1, x2, hk, hl, hr, h1, rfl⟩
end Go.Proofs.YtbceoinhmpnjaaaGreatDoor

