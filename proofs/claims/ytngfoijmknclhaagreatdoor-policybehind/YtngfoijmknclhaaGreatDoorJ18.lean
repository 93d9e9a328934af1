/- The reader's atoms, over the contract of brackets. -/
import Derived.Test.YtngfoijmknclhaaGreatDoorJ17
namespace Go.Proofs.YtngfoijmknclhaaGreatDoor.Ar
open Go.RowKit Go.Sort
def AtomPost (b : Nat) (W : World) (d : Nat) (R : Except Int (Nd × Bs)) (e : Ending) (w' : World) : Prop := ∃ x0 x1 x2 : Value, NodePost b W d R (.returned (.agg #[x0, x1, x2])) w' ∧ One3 x0 x1 x2 ∧ e = .returned (.tuple #[.agg #[x0, x1, x2], .bool true])
def innerR (R : Except Int (List (List Nd) × Bs)) : Except Int (Nd × Bs) := match R with | .error e => .error e | .ok (c, k) => if Px.isAt k 41 = true then .ok (.ch c, Px.next k) else .error 4
/-- What is asked of brackets at a depth. -/
def InnerOk (T : World → Prop) (b d D : Nat) : Prop := ∀ (W : World) (r : Bs), Rd W b r d 0 → Ty T b W → r.length ≤ 100 → Calls Tryz.prog 187 #[.pointer (some ⟨b, 0, none⟩)] W (NodePost b W d (innerR (Px.choice D r)))
theorem nodePost_val {b : Nat} {W : World} {d : Nat} {R : Except Int (Nd × Bs)} {e : Ending} {w' : World} (h : NodePost b W d R e w') : ∃ x0 x1 x2, e = .returned (.agg #[x0, x1, x2]) ∧ One3 x0 x1 x2 := by
  obtain ⟨_, h⟩ := h
  cases R with
  | error v =>
    obtain ⟨x0, x1, x2, _, h1, rfl⟩ := h
    exact ⟨x0, x1, x2, rfl, h1⟩
  | ok z =>
    obtain ⟨n, k⟩ := z
    obtain ⟨k', x0, x1, x2, _, _, _, h1, rfl⟩ := h
    exact ⟨x0, x1, x2, rfl, Pn.one h1.at⟩
theorem nodePost_put {b : Nat} {W w2 w3 : World} {d : Nat} {R : Except Int (Nd × Bs)} {x0 x1 x2 : Value} (hB : But b W w2) (hlt : W.heap.size < w2.heap.size) (hb : b < W.heap.size) (h : NodePost b w2 d R (.returned (.agg #[x0, x1, x2])) w3) :
    NodePost b W d R (.returned (.agg #[x0, x1, x2])) (put3 w3 W.heap.size x0 x1 x2) := by
  obtain ⟨h0, h⟩ := h
  have hB2 := put3_but (hB.trans h0) (g := W.heap.size) (.inr (Nat.le_refl _)) x0 x1 x2
  have hne : W.heap.size ≠ b := by omega
  cases R with
  | error v =>
    obtain ⟨y0, y1, y2, hr, h1, he⟩ := h
    simp only [Ending.returned.injEq, Value.agg.injEq] at he
    exact ⟨hB2, x0, x1, x2, put3_rd hr hne _ _ _, by simp at he; obtain ⟨rfl, rfl, rfl⟩ := he; exact h1, rfl⟩
  | ok z =>
    obtain ⟨n, k⟩ := z
    obtain ⟨k', y0, y1, y2, hk, hl, hr, h1, he⟩ := h
    simp at he
    obtain ⟨rfl, rfl, rfl⟩ := he
    exact ⟨hB2, k', x0, x1, x2, hk, hl, put3_rd hr hne _ _ _, h1.later (by omega) (by rw [put3_size]; omega) (fun k hk _ => put3_other _ _ _ _ _ k (by omega)), rfl⟩
theorem isAt_of_head {r : Bs} {c : UInt8} {t : Bs} (h : Px.skip r = c :: t) (m : UInt8) : Px.isAt r m = (c == m) := by unfold Px.isAt; rw [h]; rfl
theorem dot_own {W : World} {w' : World} : Own3 (From W.heap.size w') w' (Nd.pn (.num true false [(1, 65535, true)])) [.int .i64 1, .slice none 0 0, .slice none 0 0] := by
  refine ⟨fun k hk => hk.2, fun w2 _ => ?_⟩
  have := Pn.At.mk (w := w2) (k := 1) (ps := []) (us := []) (po := none) (pc := 0) (uo := none) (uc := 0) 0 0 (fun _ => []) ⟨by simp, by simp⟩ (.inl rfl) (.inl rfl) (fun i hi => by simp at hi) (fun i hi => by simp at hi)
  rw [Nd.pn, if_pos rfl]
  exact this
theorem num_own {W w' : World} {g : Nat} {x : Int} {t : TypeId} (hg : W.heap.size ≤ g) (h : w'.heap[g]? = some (.cells #[.int .i64 x, .int .i64 x, .bool false] t)) : Own3 (From W.heap.size w') w' (Nd.pn (.num false false [(x, x, false)])) [.int .i64 0, .slice (some ⟨g, 0, none⟩) 1 1, .slice none 0 0] := by
  refine ⟨fun k hk => hk.2, fun w2 h2 => ?_⟩
  have hh : w2.heap[g]? = some (.cells #[.int .i64 x, .int .i64 x, .bool false] t) := (h2 g ⟨hg, heap_lt h⟩).trans h
  have hsl : Pa.slot w2 (some ⟨g, 0, none⟩) [(x, x, false)] := by
    refine .inr ⟨g, 0, rfl, fun i hi j hj => ?_⟩
    have hi0 : i = 0 := by simp at hi; exact hi
    subst hi0
    rw [cell_of_row w2 g _ _ t _ hh]
    have hj3 : j < 3 := hj
    match j, hj3 with
    | 0, _ => rfl
    | 1, _ => rfl
    | 2, _ => rfl
  have := Pn.At.mk (w := w2) (k := 0) (ps := [(x, x, false)]) (us := []) (po := some ⟨g, 0, none⟩) (pc := 1) (uo := none) (uc := 0) 0 0 (fun _ => []) ⟨by simp, by simp⟩ hsl (.inl rfl) (fun i hi => by simp at hi) (fun i hi => by simp at hi)
  rw [Nd.pn, if_neg (by simp), if_neg (by simp)]
  exact this
theorem atom_par2 {ch : Bs → Except Int (List (List Nd) × Bs)} {r : Bs} (h0 : Px.isAt r 46 = false) (h1 : Px.isAt r 91 = false) (h : Px.isAt r 40 = true) : Px.atom ch r = innerR (ch (Px.next r)) := by
  rw [atom_par h0 h1 h]
  cases ch (Px.next r) <;> rfl
/-- Three marks that don't stand there, one after the other. -/
theorem head_new (W : World) : Box3 (W.alloc zN) W.heap.size (.int .i64 0) (.slice none 0 0) (.slice none 0 0) := box3_new W _ _ _ 136

set_option maxHeartbeats 8000000 in
set_option maxRecDepth 100000 in
theorem atom_no {T : World → Prop} (K : ReadKit T) {W : World} {b : Nat} {r : Bs} {d : Nat} {q : Int} (h : Rd W b r d q) (hl : r.length ≤ 100) (hs : ∀ c t, Px.skip r = c :: t → Px.starts c = false) :
    Calls Tryz.prog 163 #[.pointer (some ⟨b, 0, none⟩)] W fun e w' => e = .returned (.tuple #[.agg #[.int .i64 0, .slice none 0 0, .slice none 0 0], .bool false]) ∧ But b W w' ∧ Rd w' b (Px.skip r) d q := by
  have hno : ∀ m, Px.starts m = true → Px.isAt r m = false := by
    intro m hm
    cases hk : Px.skip r with
    | nil => unfold Px.isAt; rw [hk]; rfl
    | cons c t =>
      rw [isAt_of_head hk]
      have := hs c t hk
      simpa using fun e => by rw [e, hm] at this; cases this
  have hdg : Px.digits r = [] := by
    unfold Px.digits
    cases hk : Px.skip r with
    | nil => rfl
    | cons c t =>
      have := hs c t hk
      unfold Px.starts at this
      simp only [Bool.or_eq_false_iff] at this
      rw [List.takeWhile_cons, if_neg (by rw [this.2]; decide)]
  have hdr : (Px.skip r).dropWhile Ad.dig = Px.skip r := by
    have := drop_while_drop Ad.dig (Px.skip r)
    unfold Px.digits at hdg
    rw [hdg] at this
    simpa using this.symm
  have hne : W.heap.size ≠ b := by have := h.lt; omega
  have C1 := hide (take_is K.trims (h.alloc zN) 46 46 rfl false (hno 46 rfl) (Px.skip r) (by simp))
  have C2 := hide (fun w hR => take_is K.trims (W := w) (b := b) (r := Px.skip r) (d := d) (q := q) hR 91 91 rfl false ((Px.skip_skip_isAt r 91).trans (hno 91 rfl)) (Px.skip r) (by simp [Px.skip_idem]))
  have C3 := hide (fun w hR => take_is K.trims (W := w) (b := b) (r := Px.skip r) (d := d) (q := q) hR 40 40 rfl false ((Px.skip_skip_isAt r 40).trans (hno 40 rfl)) (Px.skip r) (by simp [Px.skip_idem]))
  have C4 := hide (fun w hR => digits_is K.trims (W := w) (b := b) (r := Px.skip r) (d := d) (q := q) hR (by have := (Px.skip_suf r).length_le; omega))
  rw [Px.skip_idem, hdr, digits_cong (Px.skip_idem r), hdg] at C4
  have B0 := hide ((But.refl b W).alloc zN)
  have Z0 := hide (head_new W)
  have F0 := hide (free_new W #[.int .i64 0, .slice none 0 0, .slice none 0 0] 136)
  clear h hs hno hdg hdr hl
  generalize Px.skip r = r2 at *
  go_enter Tryz.func163, Tryz.ntmps163
  go_wp2_with fail
  refine C1.out.mono ?_
  rintro e w1 ⟨rfl, hB, hR⟩
  have B1 := hide (B0.out.trans hB)
  have Z1 := hide (box3_but Z0.out hB hne)
  have F1 := hide (hB.free F0.out hne)
  have D2 := hide (C2.out w1 hR)
  clear hB hR C1 C2
  go_wp2_with fail
  refine D2.out.mono ?_
  rintro e w2 ⟨rfl, hB, hR⟩
  have B2 := hide (B1.out.trans hB)
  have Z2 := hide (box3_but Z1.out hB hne)
  have F2 := hide (hB.free F1.out hne)
  have D3 := hide (C3.out w2 hR)
  clear hB hR D2 C3
  go_wp2_with fail
  refine D3.out.mono ?_
  rintro e w3 ⟨rfl, hB, hR⟩
  have B3 := hide (B2.out.trans hB)
  have Z3 := hide (box3_but Z2.out hB hne)
  have F3 := hide (hB.free F2.out hne)
  have D4 := hide (C4.out w3 hR)
  clear hB hR D3 C4
  go_wp2_with fail
  refine D4.out.mono ?_
  rintro e w4 ⟨rfl, hB, hR⟩
  have B4 := hide (B3.out.trans hB)
  have Z4 := hide (box3_but Z3.out hB hne)
  have R4 := hide hR
  obtain ⟨c0, c1, c2⟩ := Z4.out
  have fr := (hB.free F3.out hne).2
  have f0 := fr 0
  have f1 := fr 1
  have f2 := fr 2
  clear hB hR D4 fr
  rw [tx_nil]
  go_wp2_with fail
  change bodyPost Tryz.prog Tryz.f163 _ Exit.ret _ (put3 w4 W.heap.size (.int .i64 0) (.slice none 0 0) (.slice none 0 0))
  refine bodyPost_ret (v := .tuple #[.agg #[.int .i64 0, .slice none 0 0, .slice none 0 0], .bool false]) (res_nb Tryz.results163 _ _ W.heap.size rfl rfl (put3_box Z4.out _ _ _)) rfl ?_
  exact ⟨rfl, put3_but B4.out (.inr (Nat.le_refl _)) _ _ _, put3_rd R4.out hne _ _ _⟩
end Go.Proofs.YtngfoijmknclhaaGreatDoor.Ar
namespace Go.Proofs.YtngfoijmknclhaaGreatDoor.Ar
open Go.RowKit Go.Sort
set_option maxHeartbeats 16000000 in
set_option maxRecDepth 100000 in
theorem atom_yes {T : World → Prop} (K : ReadKit T) {W : World} {b : Nat} {r : Bs} {d D : Nat} (h : Rd W b r d 0) (hT : Ty T b W) (hl : r.length ≤ 100) (hI : InnerOk T b d D) {c : UInt8} {t : Bs} (hk : Px.skip r = c :: t) (hs : Px.starts c = true) :
    Calls Tryz.prog 163 #[.pointer (some ⟨b, 0, none⟩)] W (AtomPost b W d (Px.atom (Px.choice D) r)) := by
  have hne : W.heap.size ≠ b := by have := h.lt; omega
  have hbW := h.lt
  have R0 := hide (h.alloc zN)
  have B0 := hide ((But.refl b W).alloc zN)
  have Z0 := hide (head_new W)
  have F0 := hide (free_new W #[.int .i64 0, .slice none 0 0, .slice none 0 0] 136)
  have HT := hide hT
  have HI := hide hI
  have hnl : (Px.next r).length ≤ 100 := Nat.le_trans (Px.next_suf r).length_le hl
  clear h hT hI
  obtain ⟨R, hR⟩ : ∃ R, R = Px.atom (Px.choice D) r := ⟨_, rfl⟩
  rw [← hR]
  cases h46 : Px.isAt r 46 with
  | true =>
    have HR : Hid (R = .ok (.num true false [(1, 65535, true)], Px.next r)) := by show _ = _; rw [hR, atom_dot h46]
    have CT := hide (take_is K.trims R0.out 46 46 rfl true h46 (Px.next r) (by simp))
    clear hR hk hs h46
    go_enter Tryz.func163, Tryz.ntmps163
    go_wp2_with fail
    refine CT.out.mono ?_
    rintro e w1 ⟨rfl, hB, hR⟩
    have B1 := hide (B0.out.trans hB)
    have Z1 := hide (box3_but Z0.out hB hne)
    have F1 := hide (hB.free F0.out hne)
    have R1 := hide hR
    clear hB hR CT
    obtain ⟨c0, c1, c2⟩ := Z1.out
    have f0 := F1.out.2 0
    have f1 := F1.out.2 1
    have f2 := F1.out.2 2
    go_wp2_with fail
    change bodyPost Tryz.prog Tryz.f163 (AtomPost b W d R) Exit.ret _ (put3 w1 W.heap.size (.int .i64 1) (.slice none 0 0) (.slice none 0 0))
    refine bodyPost_ret (v := .tuple #[.agg #[.int .i64 1, .slice none 0 0, .slice none 0 0], .bool true]) (res_nb Tryz.results163 _ _ W.heap.size rfl rfl (put3_box Z1.out _ _ _)) rfl ?_
    exact ⟨_, _, _, nodePost_ok HR.out (put3_but B1.out (.inr (Nat.le_refl _)) _ _ _) rfl (Nat.le_refl _) (put3_rd R1.out hne _ _ _) dot_own, ⟨rfl, rfl, rfl⟩, rfl⟩
  | false =>
    cases h91 : Px.isAt r 91 with
    | true =>
      have HR : Hid (R = setR (Px.set ((Px.next r).length + 1) [] (Px.next r))) := by show _ = _; rw [hR, atom_set h46 h91]
      have C1 := hide (take_is K.trims R0.out 46 46 rfl false h46 (Px.skip r) (by simp))
      have C2 := hide (fun w hR => take_is K.trims (W := w) (b := b) (r := Px.skip r) (d := d) (q := 0) hR 91 91 rfl true ((Px.skip_skip_isAt r 91).trans h91) (Px.next r) (by simp [next_skip]))
      have CS := hide (fun w hR hT => set_is K (W := w) (b := b) (r0 := Px.next r) (d := d) hR hT hnl ((Px.next r).length + 1) (Nat.lt_succ_self _))
      clear hR hk hs h46 h91
      go_enter Tryz.func163, Tryz.ntmps163
      go_wp2_with fail
      refine C1.out.mono ?_
      rintro e w1 ⟨rfl, hB, hR⟩
      have B1 := hide (B0.out.trans hB)
      have Z1 := hide (box3_but Z0.out hB hne)
      have F1 := hide (hB.free F0.out hne)
      have D2 := hide (C2.out w1 hR)
      clear hB hR C1 C2
      go_wp2_with fail
      refine D2.out.mono ?_
      rintro e w2 ⟨rfl, hB, hR⟩
      have B2 := hide (B1.out.trans hB)
      have Z2 := hide (box3_but Z1.out hB hne)
      have F2 := hide (hB.free F1.out hne)
      have DS := hide (CS.out w2 hR (HT.out.but B2.out))
      clear hB hR D2 CS
      go_wp2_with fail
      refine DS.out.mono ?_
      rintro e w3 hN
      obtain ⟨x0, x1, x2, rfl, h1⟩ := nodePost_val hN
      have HN := hide hN
      have Z3 := hide (box3_but Z2.out hN.1 hne)
      have F3 := hide (hN.1.free F2.out hne)
      obtain ⟨o0, o1, o2⟩ := h1
      have s0 := fun w a m => run_store Tryz.prog w a x0 m o0
      have s1 := fun w a m => run_store Tryz.prog w a x1 m o1
      have s2 := fun w a m => run_store Tryz.prog w a x2 m o2
      clear hN DS
      obtain ⟨c0, c1, c2⟩ := Z3.out
      have f0 := F3.out.2 0
      have f1 := F3.out.2 1
      have f2 := F3.out.2 2
      have hlt := box3_lt Z2.out
      go_wp2_with fail
      change bodyPost Tryz.prog Tryz.f163 (AtomPost b W d R) Exit.ret _ (put3 w3 W.heap.size x0 x1 x2)
      refine bodyPost_ret (v := .tuple #[.agg #[x0, x1, x2], .bool true]) (res_nb Tryz.results163 _ _ W.heap.size rfl rfl (put3_box Z3.out _ _ _)) rfl ?_
      refine ⟨x0, x1, x2, ?_, ⟨o0, o1, o2⟩, rfl⟩
      rw [HR.out]
      exact nodePost_put B2.out hlt hbW HN.out
    | false =>
      cases h40 : Px.isAt r 40 with
      | true =>
        have HR : Hid (R = innerR (Px.choice D (Px.next r))) := by show _ = _; rw [hR, atom_par2 h46 h91 h40]
        have C1 := hide (take_is K.trims R0.out 46 46 rfl false h46 (Px.skip r) (by simp))
        have C2 := hide (fun w hR => take_is K.trims (W := w) (b := b) (r := Px.skip r) (d := d) (q := 0) hR 91 91 rfl false ((Px.skip_skip_isAt r 91).trans h91) (Px.skip r) (by simp [Px.skip_idem]))
        have C3 := hide (fun w hR => take_is K.trims (W := w) (b := b) (r := Px.skip r) (d := d) (q := 0) hR 40 40 rfl true ((Px.skip_skip_isAt r 40).trans h40) (Px.next r) (by simp [next_skip]))
        have CS := hide (fun w hR hT => HI.out w (Px.next r) hR hT hnl)
        clear hR hk hs h46 h91 h40
        go_enter Tryz.func163, Tryz.ntmps163
        go_wp2_with fail
        refine C1.out.mono ?_
        rintro e w1 ⟨rfl, hB, hR⟩
        have B1 := hide (B0.out.trans hB)
        have Z1 := hide (box3_but Z0.out hB hne)
        have F1 := hide (hB.free F0.out hne)
        have D2 := hide (C2.out w1 hR)
        clear hB hR C1 C2
        go_wp2_with fail
        refine D2.out.mono ?_
        rintro e w2 ⟨rfl, hB, hR⟩
        have B2 := hide (B1.out.trans hB)
        have Z2 := hide (box3_but Z1.out hB hne)
        have F2 := hide (hB.free F1.out hne)
        have D3 := hide (C3.out w2 hR)
        clear hB hR D2 C3
        go_wp2_with fail
        refine D3.out.mono ?_
        rintro e w3 ⟨rfl, hB, hR⟩
        have B3 := hide (B2.out.trans hB)
        have Z3 := hide (box3_but Z2.out hB hne)
        have F3 := hide (hB.free F2.out hne)
        have DS := hide (CS.out w3 hR (HT.out.but B3.out))
        clear hB hR D3 CS
        go_wp2_with fail
        refine DS.out.mono ?_
        rintro e w4 hN
        obtain ⟨x0, x1, x2, rfl, h1⟩ := nodePost_val hN
        have HN := hide hN
        have Z4 := hide (box3_but Z3.out hN.1 hne)
        have F4 := hide (hN.1.free F3.out hne)
        obtain ⟨o0, o1, o2⟩ := h1
        have s0 := fun w a m => run_store Tryz.prog w a x0 m o0
        have s1 := fun w a m => run_store Tryz.prog w a x1 m o1
        have s2 := fun w a m => run_store Tryz.prog w a x2 m o2
        clear hN DS
        obtain ⟨c0, c1, c2⟩ := Z4.out
        have f0 := F4.out.2 0
        have f1 := F4.out.2 1
        have f2 := F4.out.2 2
        have hlt := box3_lt Z3.out
        go_wp2_with fail
        change bodyPost Tryz.prog Tryz.f163 (AtomPost b W d R) Exit.ret _ (put3 w4 W.heap.size x0 x1 x2)
        refine bodyPost_ret (v := .tuple #[.agg #[x0, x1, x2], .bool true]) (res_nb Tryz.results163 _ _ W.heap.size rfl rfl (put3_box Z4.out _ _ _)) rfl ?_
        refine ⟨x0, x1, x2, ?_, ⟨o0, o1, o2⟩, rfl⟩
        rw [HR.out]
        exact nodePost_put B3.out hlt hbW HN.out
      | false =>
        have hdig : Ad.dig c = true := by
          rw [isAt_of_head hk] at h46 h91 h40
          unfold Px.starts at hs
          simpa [h46, h91, h40] using hs
        have hds : ∃ u v, Px.digits r = u :: v := by
          unfold Px.digits
          rw [hk, List.takeWhile_cons, if_pos hdig]
          exact ⟨_, _, rfl⟩
        obtain ⟨u, v, hds⟩ := hds
        have HR : Hid (R = (match numRes (Px.digits r) with | .error e => .error e | .ok x => .ok (.num false false [(x, x, false)], (Px.skip r).dropWhile Ad.dig))) := by
          show _ = _
          rw [hR, atom_num h46 h91 h40, number_res]
          cases numRes (Px.digits r) <;> rfl
        have C1 := hide (take_is K.trims R0.out 46 46 rfl false h46 (Px.skip r) (by simp))
        have C2 := hide (fun w hR => take_is K.trims (W := w) (b := b) (r := Px.skip r) (d := d) (q := 0) hR 91 91 rfl false ((Px.skip_skip_isAt r 91).trans h91) (Px.skip r) (by simp [Px.skip_idem]))
        have C3 := hide (fun w hR => take_is K.trims (W := w) (b := b) (r := Px.skip r) (d := d) (q := 0) hR 40 40 rfl false ((Px.skip_skip_isAt r 40).trans h40) (Px.skip r) (by simp [Px.skip_idem]))
        have C4 := hide (fun w hR => digits_is K.trims (W := w) (b := b) (r := Px.skip r) (d := d) (q := 0) hR (by have := (Px.skip_suf r).length_le; omega))
        have C5 := hide (fun w hR hT => rnumber_is K (W := w) (b := b) (r := (Px.skip r).dropWhile Ad.dig) (d := d) (q := 0) hR hT (Px.digits r) (digits_no r) (Nat.le_trans (digits_len r) (by omega)))
        rw [Px.skip_idem, digits_cong (Px.skip_idem r)] at C4
        have he := tx_isEmpty u v
        rw [← hds] at he
        clear hR hk hs h46 h91 h40 hds hdig hnl
        generalize Px.digits r = ds at *
        generalize (Px.skip r).dropWhile Ad.dig = k at *
        go_enter Tryz.func163, Tryz.ntmps163
        go_wp2_with fail
        refine C1.out.mono ?_
        rintro e w1 ⟨rfl, hB, hR⟩
        have B1 := hide (B0.out.trans hB)
        have Z1 := hide (box3_but Z0.out hB hne)
        have F1 := hide (hB.free F0.out hne)
        have D2 := hide (C2.out w1 hR)
        clear hB hR C1 C2
        go_wp2_with fail
        refine D2.out.mono ?_
        rintro e w2 ⟨rfl, hB, hR⟩
        have B2 := hide (B1.out.trans hB)
        have Z2 := hide (box3_but Z1.out hB hne)
        have F2 := hide (hB.free F1.out hne)
        have D3 := hide (C3.out w2 hR)
        clear hB hR D2 C3
        go_wp2_with fail
        refine D3.out.mono ?_
        rintro e w3 ⟨rfl, hB, hR⟩
        have B3 := hide (B2.out.trans hB)
        have Z3 := hide (box3_but Z2.out hB hne)
        have F3 := hide (hB.free F2.out hne)
        have D4 := hide (C4.out w3 hR)
        clear hB hR D3 C4
        go_wp2_with fail
        refine D4.out.mono ?_
        rintro e w4 ⟨rfl, hB, hR⟩
        have B4 := hide (B3.out.trans hB)
        have Z4 := hide (box3_but Z3.out hB hne)
        have F4 := hide (hB.free F3.out hne)
        have D5 := hide (C5.out w4 hR (HT.out.but B4.out))
        clear hB hR D4 C5
        generalize tx ds = s at *
        go_wp2_with fail
        cases hn : numRes ds with
        | error x =>
          rw [hn] at HR D5
          refine D5.out.mono ?_
          rintro e w5 ⟨hB, rfl, hR⟩
          have B5 := hide (B4.out.trans hB)
          have Z5 := hide (box3_but Z4.out hB hne)
          have F5 := hide (hB.free F4.out hne)
          have R5 := hide (show Rd w5 b [] d x by simpa using hR)
          clear hB hR D5 hn
          obtain ⟨c0, c1, c2⟩ := Z5.out
          have f0 := F5.out.2 0
          have f1 := F5.out.2 1
          have f2 := F5.out.2 2
          have hlt := box3_lt Z5.out
          have hn1 : W.heap.size ≠ w5.heap.size := by omega
          go_wp2_with fail
          change bodyPost Tryz.prog Tryz.f163 (AtomPost b W d R) Exit.ret _ ((put3 w5 W.heap.size (.int .i64 0) (.slice (some ⟨w5.heap.size, 0, none⟩) 1 1) (.slice none 0 0)).alloc (.cells #[.int .i64 0, .int .i64 0, .bool false] 216))
          refine bodyPost_ret (v := .tuple #[.agg #[.int .i64 0, .slice (some ⟨w5.heap.size, 0, none⟩) 1 1, .slice none 0 0], .bool true]) (res_nb Tryz.results163 _ _ W.heap.size rfl rfl (box3_below (put3_box Z5.out _ _ _) (balloc (brefl _) _))) rfl ?_
          refine ⟨_, _, _, ?_, ⟨rfl, rfl, rfl⟩, rfl⟩
          exact nodePost_err HR.out ((put3_but B5.out (.inr (Nat.le_refl _)) _ _ _).alloc _) ((put3_rd R5.out hne _ _ _).alloc _) ⟨rfl, rfl, rfl⟩
        | ok x =>
          rw [hn] at HR D5
          refine D5.out.mono ?_
          rintro e w5 ⟨hB, rfl, hR⟩
          have B5 := hide (B4.out.trans hB)
          have Z5 := hide (box3_but Z4.out hB hne)
          have F5 := hide (hB.free F4.out hne)
          have R5 := hide hR
          clear hB hR D5 hn
          obtain ⟨c0, c1, c2⟩ := Z5.out
          have f0 := F5.out.2 0
          have f1 := F5.out.2 1
          have f2 := F5.out.2 2
          have hlt := box3_lt Z5.out
          have hn1 : W.heap.size ≠ w5.heap.size := by omega
          go_wp2_with fail
          change bodyPost Tryz.prog Tryz.f163 (AtomPost b W d R) Exit.ret _ ((put3 w5 W.heap.size (.int .i64 0) (.slice (some ⟨w5.heap.size, 0, none⟩) 1 1) (.slice none 0 0)).alloc (.cells #[.int .i64 x, .int .i64 x, .bool false] 216))
          refine bodyPost_ret (v := .tuple #[.agg #[.int .i64 0, .slice (some ⟨w5.heap.size, 0, none⟩) 1 1, .slice none 0 0], .bool true]) (res_nb Tryz.results163 _ _ W.heap.size rfl rfl (box3_below (put3_box Z5.out _ _ _) (balloc (brefl _) _))) rfl ?_
          refine ⟨_, _, _, ?_, ⟨rfl, rfl, rfl⟩, rfl⟩
          refine nodePost_ok HR.out ((put3_but B5.out (.inr (Nat.le_refl _)) _ _ _).alloc _) rfl (Nat.le_refl _) ((put3_rd R5.out hne _ _ _).alloc _) (num_own (t := 216) (by omega) ?_)
          have e := put3_size w5 W.heap.size (.int .i64 0) (.slice (some ⟨w5.heap.size, 0, none⟩) 1 1) (.slice none 0 0)
          generalize put3 w5 W.heap.size (.int .i64 0) (.slice (some ⟨w5.heap.size, 0, none⟩) 1 1) (.slice none 0 0) = w6 at e ⊢
          show (w6.heap.push _)[w5.heap.size]? = _
          rw [← e]
          simp
end Go.Proofs.YtngfoijmknclhaaGreatDoor.Ar
