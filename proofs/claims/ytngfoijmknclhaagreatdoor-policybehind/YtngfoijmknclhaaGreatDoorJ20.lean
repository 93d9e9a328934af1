/- The reader's rows: the walk. -/
import Derived.Test.YtngfoijmknclhaaGreatDoorJ19
namespace Go.Proofs.YtngfoijmknclhaaGreatDoor.Ar
open Go.RowKit Go.Sort
def rowR (R : Except Int (List Nd × Bs)) : Except Int (Pn × Bs) := match R with | .ok (l, k) => .ok (.mk 4 [] (l.map Nd.pn), k) | .error e => .error e
def RowRel (A : Prop) (b : Nat) (W : World) (d D : Nat) (R : Except Int (List Nd × Bs)) (wr : World) : Prop :=
  (A ∧ ∃ (f : Nat) (r : Bs) (acc : List Nd) (vU : Value), R = Px.row (Px.choice D) f acc r ∧ r.length < f ∧ r.length ≤ 100 ∧ acc.length + r.length ≤ 1000 ∧ Rd wr b r d 0 ∧ Wy b W (W.heap.size + 1) (.int .i64 4) (.slice none 0 0) vU wr ∧ Kids (W.heap.size + 1) (W.heap.size + 1) wr (acc.map Nd.pn) vU) ∨
  (∃ (v : Int) (vU : Value), v ≠ 0 ∧ vU.oneCell' = true ∧ R = .error v ∧ Rd wr b [] d v ∧ Wy b W (W.heap.size + 1) (.int .i64 4) (.slice none 0 0) vU wr)
theorem wy_start {b : Nat} {W : World} (hb : b < W.heap.size) (x0 v1 v2 : Value) : Wy b W (W.heap.size + 1) x0 v1 v2 ((W.alloc zN).alloc (.cells #[x0, v1, v2] 136)) := by
  have h := way_start hb x0 v1 v2
  exact ⟨h.hb, Nat.lt_succ_self _, h.free0, h.box0, h.free1, h.box1, h.but⟩
theorem item_zero (K : Trims) {W : World} {b : Nat} {r : Bs} {d : Nat} {q : Int} (h : Rd W b r d q) (x0 x1 x2 : Value) (h1 : One3 x0 x1 x2) (hs : Px.sign r = 0) :
    Calls Tryz.prog 164 #[.pointer (some ⟨b, 0, none⟩), .agg #[x0, x1, x2]] W fun e w' => But b W w' ∧ Rd w' b (Px.skip r) d q ∧ e = .returned (.agg #[x0, x1, x2]) := by
  refine (item_is5 K h x0 x1 x2 h1).mono ?_
  rintro e w' ⟨hB, ⟨_, hR, he⟩ | ⟨hn, _⟩⟩
  · exact ⟨hB, hR, he⟩
  · exact absurd hs hn
theorem item_sign (K : Trims) {W : World} {b : Nat} {r : Bs} {d : Nat} {q : Int} (h : Rd W b r d q) (x0 x1 x2 : Value) (h1 : One3 x0 x1 x2) (n : Nat) (hs : Px.sign r = n) (hn : n ≠ 0) :
    Calls Tryz.prog 164 #[.pointer (some ⟨b, 0, none⟩), .agg #[x0, x1, x2]] W fun e w' => But b W w' ∧ Rd w' b (Px.next r) d q ∧ ∃ g, W.heap.size ≤ g ∧ w'.heap[g]? = some (.cells #[x0, x1, x2] 136) ∧ e = .returned (.agg #[.int .i64 ((n : Int) + 2), .slice none 0 0, .slice (some ⟨g, 0, none⟩) 1 1]) := by
  refine (item_is5 K h x0 x1 x2 h1).mono ?_
  subst hs
  rintro e w' ⟨hB, ⟨h0, _⟩ | ⟨_, hR, g, hg, hc, he⟩⟩
  · exact absurd h0 hn
  · exact ⟨hB, hR, g, hg, hc, he⟩
/-- An atom with a sign behind it lies. -/
theorem sign_own {S : Nat → Prop} {w w' : World} {n : Nd} {k : Nat} {x0 x1 x2 : Value} {g : Nat} {t : TypeId} (h : Own3 S w (Nd.pn n) [x0, x1, x2]) (hs : w.heap.size ≤ w'.heap.size) (hk : ∀ j, S j → w'.heap[j]? = w.heap[j]?) (hg : w'.heap[g]? = some (.cells #[x0, x1, x2] t)) :
    Own3 (fun j => S j ∨ j = g) w' (Nd.pn (.st k n)) [.int .i64 ((k : Int) + 2), .slice none 0 0, .slice (some ⟨g, 0, none⟩) 1 1] := by
  have h' := h.keep hs hk
  refine ⟨fun j hj => ?_, fun w2 h2 => ?_⟩
  · rcases hj with hj | rfl
    · exact h'.1 j hj
    · exact heap_lt hg
  · have ha := h'.2 w2 fun j hj => h2 j (.inl hj)
    have hh := (h2 g (.inr rfl)).trans hg
    rw [Nd.pn]
    refine Pn.At.mk (w := w2) (k := (k : Int) + 2) (ps := []) (us := [Nd.pn n]) (po := none) (pc := 0) (uo := some ⟨g, 0, none⟩) (uc := 1) g 0 (fun _ => [x0, x1, x2]) ⟨by simp, by simp⟩ (.inl rfl) (.inr rfl) (fun i hi j hj => ?_) (fun i hi => ?_)
    · have hi0 : i = 0 := by simp at hi; exact hi
      subst hi0
      rw [cell_of_row w2 g _ _ t _ hh]
      have hj3 : j < 3 := hj
      match j, hj3 with
      | 0, _ => rfl
      | 1, _ => rfl
      | 2, _ => rfl
    · have hi0 : i = 0 := by simp at hi; exact hi
      subst hi0
      exact ha
theorem sign_two (r : Bs) : Px.sign r = 0 ∨ (∃ n, Px.sign r = n ∧ n ≠ 0) := by
  by_cases h : Px.sign r = 0
  · exact .inl h
  · exact .inr ⟨_, rfl, h⟩
theorem sign_next {r : Bs} (h : Px.sign r ≠ 0) : (Px.next r).length < r.length := by
  obtain ⟨d, hd⟩ := sign_isAt h
  exact Px.next_len hd
theorem row_halt {ch : Rdr} {f : Nat} {acc : List Nd} {r : Bs} (h : ∀ c t, Px.skip r = c :: t → Px.starts c = false) : Px.row ch (f + 1) acc r = .ok (acc, Px.skip r) := by
  rw [Px.row]
  cases hk : Px.skip r with
  | nil => rfl
  | cons c t => simp only [h c t hk, Bool.false_eq_true, if_false]
theorem row_item {ch : Rdr} {f : Nat} {acc : List Nd} {r : Bs} {c : UInt8} {t : Bs} (hk : Px.skip r = c :: t) (hs : Px.starts c = true) : Px.row ch (f + 1) acc r = (match Px.atom ch r with | .error e => .error e | .ok (n, k) => if Px.sign k = 0 then Px.row ch f (acc ++ [n]) k else Px.row ch f (acc ++ [.st (Px.sign k) n]) (Px.next k)) := by
  have hkk : Px.skip (c :: t) = Px.skip r := by rw [← hk, Px.skip_idem]
  rw [Px.row, hk]
  simp only [hs, if_true]
  unfold Px.item
  rw [atom_cong hkk]
  cases Px.atom ch r with
  | error e => rfl
  | ok z =>
    obtain ⟨n, k⟩ := z
    by_cases h : Px.sign k = 0
    · simp only [h, if_true]
    · simp only [h, if_false]

set_option maxHeartbeats 32000000 in
set_option maxRecDepth 100000 in
theorem row_is5 {T : World → Prop} (K : ReadKit T) {A : Prop} {W : World} {b : Nat} {d D : Nat} (hD : ∀ r q, Px.atom (Px.choice D) r = .error q → q ≠ 0) {R0 : Except Int (List Nd × Bs)} (hRel : Hid (RowRel A b W d D R0 ((W.alloc zN).alloc (.cells #[.int .i64 4, .slice none 0 0, .slice none 0 0] 136)))) (hbW : b < W.heap.size) (hT : Ty T b W) (hI : A → InnerOk T b d D) :
    Calls Tryz.prog 142 #[.pointer (some ⟨b, 0, none⟩)] W (PnPost b W d (rowR R0)) := by
  have HT := hide hT
  have HI := hide hI
  have HS := hRel
  clear hT hI hRel
  go_enter Tryz.func142, Tryz.ntmps142
  go_wp2_with fail
  generalize (W.alloc zN).alloc (.cells #[.int .i64 4, .slice none 0 0, .slice none 0 0] 136) = W1 at *
  go_loopw [] (fun wr => Hid (RowRel A b W d D R0 wr)) (fun wr => mes wr b)
  case atStart => exact HS
  case round =>
    rcases hrel.out with ⟨hA, f, r, acc, vU, hR, hf, hl, hal, hrd, hw, hK⟩ | ⟨v, vU, hv, hvU, hR, hrd, hw⟩
    · obtain ⟨f, rfl⟩ : ∃ g, f = g + 1 := ⟨f - 1, by omega⟩
      have HM := hide (show mes wr b = r.length + 1 by rw [hrd.mes]; simp)
      have HWY := hide hw
      have HKD := hide hK
      have HTy := hide (HT.out.but hw.but)
      have hb1 : b < W.heap.size + 1 := by omega
      have hacc : acc.length ≤ 1000 := by omega
      by_cases hst : ∃ c t, Px.skip r = c :: t ∧ Px.starts c = true
      · obtain ⟨c, t, hk, hs⟩ := hst
        have CA := hide (atom_yes K hrd HTy.out hl (HI.out hA) hk hs)
        have hri := row_item (ch := Px.choice D) (f := f) (acc := acc) hk hs
        cases ha : Px.atom (Px.choice D) r with
        | error v =>
          have hv := hD _ _ ha
          have HR : Hid (R0 = .error v) := by show _ = _; rw [hR, hri, ha]
          rw [ha] at CA
          clear hR hf hl hal hrd hw hK hk hs hri ha hrel
          go_wp2_with fail
          refine CA.out.mono ?_
          rintro e w1 ⟨x0, x1, x2, ⟨hB, y0, y1, y2, hR1, _, _⟩, h1, rfl⟩
          have CI := hide (item_zero K.trims (hR1.alloc (.cells #[x0, x1, x2] 136)).drew x0 x1 x2 h1 rfl)
          have BA := hide ((But.of (b := b) (balloc (brefl w1) (.cells #[x0, x1, x2] 136))).drew)
          have HW1 := hide ((HWY.out.step hB).step BA.out)
          have HK1k := hide ((HKD.out.but hB hb1).but BA.out hb1)
          have hw1 : W.heap.size + 1 < w1.heap.size := (HWY.out.step hB).lt
          have d2 := (HWY.out.step hB).box1.2.2
          have hn1 : w1.heap.size ≠ b := by have := HWY.out.hb; omega
          have hn2 : w1.heap.size ≠ W.heap.size + 1 := by omega
          have hn3 : W.heap.size + 1 ≠ w1.heap.size := by omega
          obtain ⟨xs0, hxs0, hvb0, uo, uc, hvU⟩ := HKD.out.row
          have hlen : (acc.map Nd.pn).length = acc.length := List.length_map ..
          rw [hlen] at hvU
          have hvb : ∀ k, vU.ownBlock = some k → W.heap.size + 1 ≤ k ∧ k < wr.heap.size ∧ k ≠ W.heap.size + 1 := hvb0
          have hwr1 := hB.size
          obtain ⟨o0, o1, o2⟩ := h1
          have s0 := fun w a m => run_store Tryz.prog w a x0 m o0
          have s1 := fun w a m => run_store Tryz.prog w a x1 m o1
          have s2 := fun w a m => run_store Tryz.prog w a x2 m o2
          subst hvU
          clear CA hR1 hxs0 hvb0
          go_wp2_with fail
          go_region_law (first
            | (go_simp
               go_at_call 164
               refine CI.out.mono ?_
               rintro e w2 ⟨hB2, hR2, rfl⟩
               have HW2 := hide (HW1.out.step hB2)
               have HK2k := hide (HK1k.out.but hB2 hb1)
               have hsw2 : w1.heap.size < w2.heap.size := by have := hB2.size; simp only [size_alloc, drew_heap] at this; omega
               have hl2 : W.heap.size + 1 < w2.heap.size := HW2.out.lt
               have hn7 : W.heap.size + 1 ≠ w2.heap.size := by omega
               have cw1 := HW2.out.box1.2.2)
            | (obtain ⟨xs, hxs, _⟩ := (HK2k.out.but (But.of (b := b) (balloc (brefl _) (.cells #[x0, x1, x2] 136))) hb1).row
               have HK3 := hide (HK2k.out.but (But.of (b := b) (balloc (brefl _) (.cells #[x0, x1, x2] 136))) hb1)
               refine step_node rfl (.tmp 16) (.tmp 20) rfl (W.heap.size + 1) (.slice uo acc.length uc) acc.length xs (by simp [Act.eval]) (by rw [← hlen]; simpa [hlen] using hxs) w2.heap.size 1 (by simp [Act.eval]) x0 x1 x2 (box3_new w2 _ _ _ 136) ⟨o0, o1, o2⟩ (by omega) (by rw [size_alloc]; omega) _ rfl ?_
               intro g cap w3 ho hg hloc
               have HW3 := hide ((HW2.out.alloc (.cells #[x0, x1, x2] 136)).grown hg (fun k hk => by have := hvb k hk; omega))
               have cc := HW3.out.box1.2.2
               have ff := HW3.out.free1.2 2))
          all_goals
            have HR3 := hide (((hR2.alloc (.cells #[x0, x1, x2] 136)).grown hg (fun k hk => by have := hvb k hk; omega)).other (p := ⟨W.heap.size + 1, 2, none⟩) HWY.out.ne1 (.slice (some ⟨g, 0, none⟩) (acc.length + 1) cap))
            have HW4 := hide (HW3.out.set2 (.slice (some ⟨g, 0, none⟩) (acc.length + 1) cap))
            clear ho hg hloc cc ff HW3 hB2 cw1
            go_wp2_with fail
            refine ⟨.inr ⟨v, _, hv, rfl, HR.out, HR3.out, HW4.out⟩, ?_⟩
            rw [HM.out, HR3.out.mes, if_neg hv]
            exact Nat.succ_pos _
        | ok z =>
          obtain ⟨n, k⟩ := z
          rw [ha] at hri CA
          simp only at hri
          have hkl := (Px.atom_suf (Px.choice_suf D) ha).2
          rcases sign_two k with hsg | ⟨sn, hsg, hsn⟩
          · have HR : Hid (R0 = Px.row (Px.choice D) f (acc ++ [n]) k) := by show _ = _; rw [hR, hri, if_pos hsg]
            have HL : Hid (k.length < f ∧ k.length ≤ 100 ∧ acc.length + 1 + k.length ≤ 1000 ∧ k.length < r.length) := by show _ ∧ _; omega
            clear hR hf hl hal hrd hw hK hk hs hri ha hrel hkl
            go_wp2_with fail
            refine CA.out.mono ?_
            rintro e w1 ⟨x0, x1, x2, ⟨hB, k', y0, y1, y2, hk1, hk2, hR1, hT1, he⟩, h1, rfl⟩
            simp at he
            obtain ⟨rfl, rfl, rfl⟩ := he
            have HK1 := hide hk1
            have HK2 := hide hk2
            have HT1 := hide hT1
            have CI := hide (item_zero K.trims (hR1.alloc (.cells #[x0, x1, x2] 136)).drew x0 x1 x2 h1 ((sign_cong hk1).trans hsg))
            clear hk1 hk2 hT1 hsg
            have BA := hide ((But.of (b := b) (balloc (brefl w1) (.cells #[x0, x1, x2] 136))).drew)
            have HW1 := hide ((HWY.out.step hB).step BA.out)
            have HK1k := hide ((HKD.out.but hB hb1).but BA.out hb1)
            have hw1 : W.heap.size + 1 < w1.heap.size := (HWY.out.step hB).lt
            have d2 := (HWY.out.step hB).box1.2.2
            have hn1 : w1.heap.size ≠ b := by have := HWY.out.hb; omega
            have hn2 : w1.heap.size ≠ W.heap.size + 1 := by omega
            have hn3 : W.heap.size + 1 ≠ w1.heap.size := by omega
            obtain ⟨xs0, hxs0, hvb0, uo, uc, hvU⟩ := HKD.out.row
            have hlen : (acc.map Nd.pn).length = acc.length := List.length_map ..
            rw [hlen] at hvU
            have hvb : ∀ k, vU.ownBlock = some k → W.heap.size + 1 ≤ k ∧ k < wr.heap.size ∧ k ≠ W.heap.size + 1 := hvb0
            have hwr1 := hB.size
            obtain ⟨o0, o1, o2⟩ := h1
            have s0 := fun w a m => run_store Tryz.prog w a x0 m o0
            have s1 := fun w a m => run_store Tryz.prog w a x1 m o1
            have s2 := fun w a m => run_store Tryz.prog w a x2 m o2
            subst hvU
            clear CA hR1 hxs0 hvb0
            go_wp2_with fail
            go_region_law (first
              | (go_simp
                 go_at_call 164
                 refine CI.out.mono ?_
                 rintro e w2 ⟨hB2, hR2, rfl⟩
                 have HW2 := hide (HW1.out.step hB2)
                 have HK2k := hide (HK1k.out.but hB2 hb1)
                 have hsw2 : w1.heap.size < w2.heap.size := by have := hB2.size; simp only [size_alloc, drew_heap] at this; omega
                 have hl2 : W.heap.size + 1 < w2.heap.size := HW2.out.lt
                 have hn7 : W.heap.size + 1 ≠ w2.heap.size := by omega
                 have cw1 := HW2.out.box1.2.2)
              | (obtain ⟨xs, hxs, _⟩ := (HK2k.out.but (But.of (b := b) (balloc (brefl _) (.cells #[x0, x1, x2] 136))) hb1).row
                 have HK3 := hide (HK2k.out.but (But.of (b := b) (balloc (brefl _) (.cells #[x0, x1, x2] 136))) hb1)
                 refine step_node rfl (.tmp 16) (.tmp 20) rfl (W.heap.size + 1) (.slice uo acc.length uc) acc.length xs (by simp [Act.eval]) (by rw [← hlen]; simpa [hlen] using hxs) w2.heap.size 1 (by simp [Act.eval]) x0 x1 x2 (box3_new w2 _ _ _ 136) ⟨o0, o1, o2⟩ (by omega) (by rw [size_alloc]; omega) _ rfl ?_
                 intro g cap w3 ho hg hloc
                 have HW3 := hide ((HW2.out.alloc (.cells #[x0, x1, x2] 136)).grown hg (fun k hk => by have := hvb k hk; omega))
                 have cc := HW3.out.box1.2.2
                 have ff := HW3.out.free1.2 2))
            all_goals
              have HR3 := hide (((hR2.alloc (.cells #[x0, x1, x2] 136)).grown hg (fun k hk => by have := hvb k hk; omega)).other (p := ⟨W.heap.size + 1, 2, none⟩) HWY.out.ne1 (.slice (some ⟨g, 0, none⟩) (acc.length + 1) cap))
              have HW4 := hide (HW3.out.set2 (.slice (some ⟨g, 0, none⟩) (acc.length + 1) cap))
              have hwb := HWY.out.lt
              have hT2 : Own3 (From wr.heap.size w1) (w2.alloc (.cells #[x0, x1, x2] 136)) (Nd.pn n) [x0, x1, x2] := HT1.out.keep (by have := hB2.size; simp only [size_alloc, drew_heap] at this ⊢; omega) (fun j hj => by
                have h1 := hB2.block j (by have := hj.1; have := HWY.out.hb; omega) (by have := hj.2; rw [drew_heap, size_alloc]; omega)
                rw [heap_alloc_lt _ _ j (by have := hB2.size; simp only [size_alloc, drew_heap] at this; have := hj.2; omega), h1, drew_heap, heap_alloc_lt _ _ j hj.2])
              have HKN := hide ((Kids.more hlen.symm HK3.out hT2 (fun j hj => ⟨by have := hj.1; omega, by have := hj.1; omega, fun e => by have := hvb j e; have := hj.1; omega⟩) (by have := hB2.size; simp only [size_alloc, drew_heap] at this ⊢; omega) hxs ho hg hloc).set 2 (.slice (some ⟨g, 0, none⟩) (acc.length + 1) cap))
              clear ho hg hloc cc ff HW3 hB2 cw1 hT2
              go_wp2_with fail
              have hL := HL.out
              have hk2 := HK2.out
              have hsl := (Px.skip_suf k').length_le
              refine ⟨.inl ⟨hA, f, Px.skip k', acc ++ [n], _, ?_, by omega, by omega, by simp only [List.length_append, List.length_cons, List.length_nil]; omega, HR3.out, HW4.out, ?_⟩, ?_⟩
              · rw [HR.out]
                exact (row_cong ((Px.skip_idem k').trans HK1.out) _ _ _).symm
              · simpa using HKN.out
              · rw [HM.out, HR3.out.mes, if_pos rfl]
                omega
          · have HR : Hid (R0 = Px.row (Px.choice D) f (acc ++ [.st sn n]) (Px.next k)) := by show _ = _; rw [hR, hri, if_neg (by rw [hsg]; exact hsn), hsg]
            have hnl := sign_next (r := k) (by rw [hsg]; exact hsn)
            have HL : Hid ((Px.next k).length < f ∧ (Px.next k).length ≤ 100 ∧ acc.length + 1 + (Px.next k).length ≤ 1000 ∧ (Px.next k).length < r.length) := by show _ ∧ _; omega
            clear hR hf hl hal hrd hw hK hk hs hri ha hrel hkl hnl
            go_wp2_with fail
            refine CA.out.mono ?_
            rintro e w1 ⟨x0, x1, x2, ⟨hB, k', y0, y1, y2, hk1, hk2, hR1, hT1, he⟩, h1, rfl⟩
            simp at he
            obtain ⟨rfl, rfl, rfl⟩ := he
            have HNX := hide (next_cong hk1)
            have HT1 := hide hT1
            have CI := hide (item_sign K.trims (hR1.alloc (.cells #[x0, x1, x2] 136)).drew x0 x1 x2 h1 sn ((sign_cong hk1).trans hsg) hsn)
            clear hk1 hk2 hT1 hsg
            have BA := hide ((But.of (b := b) (balloc (brefl w1) (.cells #[x0, x1, x2] 136))).drew)
            have HW1 := hide ((HWY.out.step hB).step BA.out)
            have HK1k := hide ((HKD.out.but hB hb1).but BA.out hb1)
            have hw1 : W.heap.size + 1 < w1.heap.size := (HWY.out.step hB).lt
            have d2 := (HWY.out.step hB).box1.2.2
            have hn1 : w1.heap.size ≠ b := by have := HWY.out.hb; omega
            have hn2 : w1.heap.size ≠ W.heap.size + 1 := by omega
            have hn3 : W.heap.size + 1 ≠ w1.heap.size := by omega
            obtain ⟨xs0, hxs0, hvb0, uo, uc, hvU⟩ := HKD.out.row
            have hlen : (acc.map Nd.pn).length = acc.length := List.length_map ..
            rw [hlen] at hvU
            have hvb : ∀ k, vU.ownBlock = some k → W.heap.size + 1 ≤ k ∧ k < wr.heap.size ∧ k ≠ W.heap.size + 1 := hvb0
            have hwr1 := hB.size
            obtain ⟨o0, o1, o2⟩ := h1
            have s0 := fun w a m => run_store Tryz.prog w a x0 m o0
            have s1 := fun w a m => run_store Tryz.prog w a x1 m o1
            have s2 := fun w a m => run_store Tryz.prog w a x2 m o2
            subst hvU
            clear CA hR1 hxs0 hvb0
            go_wp2_with fail
            go_region_law (first
              | (go_simp
                 go_at_call 164
                 refine CI.out.mono ?_
                 rintro e w2 ⟨hB2, hR2, g1, hg1, hc1, rfl⟩
                 have HW2 := hide (HW1.out.step hB2)
                 have HK2k := hide (HK1k.out.but hB2 hb1)
                 have hsw2 : w1.heap.size < w2.heap.size := by have := hB2.size; simp only [size_alloc, drew_heap] at this; omega
                 have hl2 : W.heap.size + 1 < w2.heap.size := HW2.out.lt
                 have hn7 : W.heap.size + 1 ≠ w2.heap.size := by omega
                 have cw1 := HW2.out.box1.2.2)
              | (obtain ⟨xs, hxs, _⟩ := (HK2k.out.but (But.of (b := b) (balloc (brefl _) (.cells #[.int .i64 ((sn : Int) + 2), .slice none 0 0, .slice (some ⟨g1, 0, none⟩) 1 1] 136))) hb1).row
                 have HK3 := hide (HK2k.out.but (But.of (b := b) (balloc (brefl _) (.cells #[.int .i64 ((sn : Int) + 2), .slice none 0 0, .slice (some ⟨g1, 0, none⟩) 1 1] 136))) hb1)
                 refine step_node rfl (.tmp 16) (.tmp 20) rfl (W.heap.size + 1) (.slice uo acc.length uc) acc.length xs (by simp [Act.eval]) (by rw [← hlen]; simpa [hlen] using hxs) w2.heap.size 1 (by simp [Act.eval]) _ _ _ (box3_new w2 _ _ _ 136) ⟨rfl, rfl, rfl⟩ (by omega) (by rw [size_alloc]; omega) _ rfl ?_
                 intro g cap w3 ho hg hloc
                 have HW3 := hide ((HW2.out.alloc (.cells #[.int .i64 ((sn : Int) + 2), .slice none 0 0, .slice (some ⟨g1, 0, none⟩) 1 1] 136)).grown hg (fun k hk => by have := hvb k hk; omega))
                 have cc := HW3.out.box1.2.2
                 have ff := HW3.out.free1.2 2))
            all_goals
              have HR3 := hide (((hR2.alloc (.cells #[.int .i64 ((sn : Int) + 2), .slice none 0 0, .slice (some ⟨g1, 0, none⟩) 1 1] 136)).grown hg (fun k hk => by have := hvb k hk; omega)).other (p := ⟨W.heap.size + 1, 2, none⟩) HWY.out.ne1 (.slice (some ⟨g, 0, none⟩) (acc.length + 1) cap))
              have HW4 := hide (HW3.out.set2 (.slice (some ⟨g, 0, none⟩) (acc.length + 1) cap))
              have hwb := HWY.out.lt
              have hsz2 : w1.heap.size < w2.heap.size := by have := hB2.size; simp only [size_alloc, drew_heap] at this; omega
              have hT2 := sign_own (k := sn) (w' := w2.alloc (.cells #[.int .i64 ((sn : Int) + 2), .slice none 0 0, .slice (some ⟨g1, 0, none⟩) 1 1] 136)) (g := g1) (t := 136) HT1.out (by rw [size_alloc]; omega) (fun j hj => by
                have h1 := hB2.block j (by have := hj.1; have := HWY.out.hb; omega) (by have := hj.2; rw [drew_heap, size_alloc]; omega)
                rw [heap_alloc_lt _ _ j (by have := hj.2; omega), h1, drew_heap, heap_alloc_lt _ _ j hj.2]) (by rw [heap_alloc_lt _ _ g1 (heap_lt hc1)]; exact hc1)
              have HKN := hide ((Kids.more hlen.symm HK3.out hT2 (fun j hj => by
                rcases hj with hj | rfl
                · exact ⟨by have := hj.1; omega, by have := hj.1; omega, fun e => by have := hvb j e; have := hj.1; omega⟩
                · rw [drew_heap, size_alloc] at hg1
                  have hB0 := hB.size
                  exact ⟨by omega, by omega, fun e => by have := hvb _ e; omega⟩) (by rw [size_alloc]; omega) hxs ho hg hloc).set 2 (.slice (some ⟨g, 0, none⟩) (acc.length + 1) cap))
              clear ho hg hloc cc ff HW3 hB2 cw1 hT2 hc1 hg1
              go_wp2_with fail
              have hL := HL.out
              have hnx := HNX.out
              refine ⟨.inl ⟨hA, f, Px.next k', acc ++ [.st sn n], _, ?_, by rw [hnx]; omega, by rw [hnx]; omega, by rw [hnx]; simp only [List.length_append, List.length_cons, List.length_nil]; omega, HR3.out, HW4.out, ?_⟩, ?_⟩
              · rw [HR.out, hnx]
              · simpa using HKN.out
              · rw [HM.out, HR3.out.mes, if_pos rfl, hnx]
                omega
      · have hno : ∀ c t, Px.skip r = c :: t → Px.starts c = false := by
          intro c t h
          cases hc : Px.starts c with
          | false => rfl
          | true => exact absurd ⟨c, t, h, hc⟩ hst
        have CA := hide (atom_no K hrd hl hno)
        have HR : Hid (R0 = .ok (acc, Px.skip r)) := by show _ = _; rw [hR, row_halt hno]
        have hal2 : (acc.map Nd.pn).length ≤ 10000 := by rw [List.length_map]; omega
        obtain ⟨xs, hxs, hvb, uo, uc, hvU⟩ := HKD.out.row
        clear hR hf hl hal hrd hw hK hst hno hrel hxs hvb
        go_wp2_with fail
        refine CA.out.mono ?_
        rintro e w1 ⟨rfl, hB, hR1⟩
        have R2 := hide hR1
        have HW2 := hide (HWY.out.step hB)
        have HK2 := hide (HKD.out.but hB hb1)
        subst hvU
        obtain ⟨d0, d1, d2⟩ := HW2.out.box1
        obtain ⟨e0, e1, e2⟩ := HW2.out.box0
        have fr := HW2.out.free0.2
        have f0 := fr 0
        have f1 := fr 1
        have f2 := fr 2
        have hne := HW2.out.ne0
        have hN := HW2.out.hN
        have hlt0 := box3_lt HW2.out.box0
        have hlt1 := HW2.out.lt
        have hn5 : W.heap.size ≠ w1.heap.size := by omega
        have hn6 : W.heap.size + 1 ≠ w1.heap.size := by omega
        clear hB hR1 CA fr
        go_wp2_with fail
        change bodyPost Tryz.prog Tryz.f142 (PnPost b W d (rowR R0)) Exit.ret _ ((put3 w1 W.heap.size (.int .i64 4) (.slice none 0 0) (.slice uo acc.length uc)).alloc zN)
        refine bodyPost_ret (v := .agg #[.int .i64 4, .slice none 0 0, .slice uo acc.length uc]) (res_n Tryz.results142 _ _ W.heap.size rfl (box3_below (put3_box HW2.out.box0 _ _ _) (balloc (brefl _) _))) rfl ?_
        refine pnPost_ok (n := .mk 4 [] (acc.map Nd.pn)) (k := Px.skip r) (k' := Px.skip r) (by rw [HR.out]; rfl) ((put3_but HW2.out.but (.inr (Nat.le_refl _)) _ _ _).alloc _) rfl (Nat.le_refl _) ((put3_rd R2.out hne _ _ _).alloc _) ?_
        have hown := Kids.own (A := W.heap.size) (kd := 4) (w' := (put3 w1 W.heap.size (.int .i64 4) (.slice none 0 0) (.slice uo acc.length uc)).alloc zN) HK2.out (by omega) hal2 (by rw [size_alloc, put3_size]; omega) (fun k hk _ hl => (heap_alloc_lt _ _ k (by rw [put3_size]; exact hl)).trans (put3_other _ _ _ _ _ k (by omega)))
        rw [List.length_map] at hown
        exact hown
    · have HR := hide hR
      have HWY := hide hw
      have CA := hide (atom_no K hrd (by simp) (fun c t h => by cases h))
      clear hR hw hrel hrd
      go_wp2_with fail
      refine CA.out.mono ?_
      rintro e w1 ⟨rfl, hB, hR1⟩
      have R2 := hide (show Rd w1 b [] d v from hR1)
      have HW2 := hide (HWY.out.step hB)
      obtain ⟨d0, d1, d2⟩ := HW2.out.box1
      obtain ⟨e0, e1, e2⟩ := HW2.out.box0
      have fr := HW2.out.free0.2
      have f0 := fr 0
      have f1 := fr 1
      have f2 := fr 2
      have hne := HW2.out.ne0
      have s2 := fun w a m => run_store Tryz.prog w a vU m hvU
      have hlt0 := box3_lt HW2.out.box0
      have hlt1 := HW2.out.lt
      have hn5 : W.heap.size ≠ w1.heap.size := by omega
      have hn6 : W.heap.size + 1 ≠ w1.heap.size := by omega
      clear hB hR1 CA fr
      go_wp2_with fail
      change bodyPost Tryz.prog Tryz.f142 (PnPost b W d (rowR R0)) Exit.ret _ ((put3 w1 W.heap.size (.int .i64 4) (.slice none 0 0) vU).alloc zN)
      refine bodyPost_ret (v := .agg #[.int .i64 4, .slice none 0 0, vU]) (res_n Tryz.results142 _ _ W.heap.size rfl (box3_below (put3_box HW2.out.box0 _ _ _) (balloc (brefl _) _))) rfl ?_
      exact pnPost_err (by rw [HR.out]; rfl) ((put3_but HW2.out.but (.inr (Nat.le_refl _)) _ _ _).alloc _) ((put3_rd R2.out hne _ _ _).alloc _) ⟨rfl, rfl, hvU⟩
end Go.Proofs.YtngfoijmknclhaaGreatDoor.Ar
namespace Go.Proofs.YtngfoijmknclhaaGreatDoor.Ar
open Go.RowKit Go.Sort
theorem row_ok {T : World → Prop} (K : ReadKit T) {W : World} {b : Nat} {r : Bs} {d D : Nat} (h : Rd W b r d 0) (hT : Ty T b W) (hl : r.length ≤ 100) (hI : InnerOk T b d D) :
    Calls Tryz.prog 142 #[.pointer (some ⟨b, 0, none⟩)] W (PnPost b W d (rowR (Px.row (Px.choice D) (r.length + 1) [] r))) :=
  row_is5 K (A := True) (fun _ _ h => atom_err (choice_err D) h) (.inl ⟨trivial, r.length + 1, r, [], .slice none 0 0, rfl, Nat.lt_succ_self _, hl, by simp; omega, (h.alloc _).alloc _, wy_start h.lt _ _ _, Kids.nil _ _ _⟩) h.lt hT (fun _ => hI)
theorem row_bad {T : World → Prop} (K : ReadKit T) {W : World} {b : Nat} {d : Nat} {v : Int} (hv : v ≠ 0) (h : Rd W b [] d v) (hT : Ty T b W) :
    Calls Tryz.prog 142 #[.pointer (some ⟨b, 0, none⟩)] W (PnPost b W d (.error v)) :=
  row_is5 K (A := False) (D := 0) (R0 := .error v) (fun _ _ h => atom_err (choice_err 0) h) (.inr ⟨v, .slice none 0 0, hv, rfl, rfl, (h.alloc _).alloc _, wy_start h.lt _ _ _⟩) h.lt hT (fun h => h.elim)
theorem pnPost_val {b : Nat} {W : World} {d : Nat} {R : Except Int (Pn × Bs)} {e : Ending} {w' : World} (h : PnPost b W d R e w') : ∃ x0 x1 x2, e = .returned (.agg #[x0, x1, x2]) ∧ One3 x0 x1 x2 := by
  obtain ⟨_, h⟩ := h
  cases R with
  | error v =>
    obtain ⟨x0, x1, x2, _, h1, rfl⟩ := h
    exact ⟨x0, x1, x2, rfl, h1⟩
  | ok z =>
    obtain ⟨n, k⟩ := z
    obtain ⟨k', x0, x1, x2, _, _, _, h1, rfl⟩ := h
    exact ⟨x0, x1, x2, rfl, Pn.one h1.at⟩
/-- The first row of a choice lies in a row of its own. -/
theorem Kids.first {A N : Nat} {w : World} {t : Pn} {y0 y1 y2 : Value} (ht : Own3 (From A w) w t [y0, y1, y2]) (hN : N = w.heap.size + 1) (hA : A ≤ w.heap.size) (o : Obj) :
    Kids A N ((w.alloc (.cells #[y0, y1, y2] 136)).alloc o) [t] (.slice (some ⟨w.heap.size, 0, none⟩) 1 1) := by
  have hh : ((w.alloc (.cells #[y0, y1, y2] 136)).alloc o).heap[w.heap.size]? = some (.cells #[y0, y1, y2] 136) := by
    rw [heap_alloc_lt _ _ _ (by rw [size_alloc]; omega)]
    show (w.heap.push _)[w.heap.size]? = _
    simp
  refine ⟨[[y0, y1, y2]], From A w, rfl, by simp, ⟨rfl, .inr ⟨w.heap.size, 1, #[y0, y1, y2], rfl, hA, hh, Nat.le_refl _, by unfold maxLen; omega, rfl, rfl⟩⟩, fun k hk => ?_, fun k hk => ?_, fun i hi hi' => ?_⟩
  · simp only [Value.ownBlock, Option.some.injEq] at hk
    omega
  · have := hk.2
    refine ⟨hk.1, by simp only [size_alloc]; omega, by omega, fun e => ?_⟩
    simp only [Value.ownBlock, Option.some.injEq] at e
    omega
  · have hi0 : i = 0 := by simp at hi; exact hi
    subst hi0
    exact ht.keep (by simp only [size_alloc]; omega) fun k hk => (heap_alloc_lt _ _ k (by rw [size_alloc]; have := hk.2; omega)).trans (heap_alloc_lt _ _ k hk.2)
/-- The choice's loop. -/
def ChRel (A : Prop) (b : Nat) (W : World) (N d D : Nat) (R : Except Int (List (List Nd) × Bs)) (wr : World) : Prop :=
  (A ∧ ∃ (f : Nat) (r r' : Bs) (acc : List (List Nd)) (vU : Value), R = (if Px.isAt r' 124 = true then Px.rows (Px.choice D) f acc (Px.next r') else .ok (acc, r')) ∧ Px.skip r = Px.skip r' ∧ r.length ≤ r'.length ∧ r'.length ≤ f ∧ r'.length ≤ 100 ∧ acc.length + r'.length ≤ 1000 ∧ Rd wr b r d 0 ∧ Wy b W N (.int .i64 3) (.slice none 0 0) vU wr ∧ Kids (W.heap.size + 1) N wr (Nd.pnRows acc) vU) ∨
  (∃ (v : Int) (vU : Value), v ≠ 0 ∧ vU.oneCell' = true ∧ R = .error v ∧ Rd wr b [] d v ∧ Wy b W N (.int .i64 3) (.slice none 0 0) vU wr)
theorem wy_late {b : Nat} {W w1 : World} (hb : b < W.heap.size) (hB : But b (W.alloc zN) w1) (y : Obj) (x0 v1 v2 : Value) : Wy b W (w1.heap.size + 1) x0 v1 v2 ((w1.alloc y).alloc (.cells #[x0, v1, v2] 136)) := by
  have h1 := box3_but (head_new W) hB (by omega)
  have f1 := hB.free (free_new W #[.int .i64 0, .slice none 0 0, .slice none 0 0] 136) (by omega)
  have h2 := box3_new (w1.alloc y) x0 v1 v2 136
  have f2 := free_new (w1.alloc y) #[x0, v1, v2] 136
  rw [size_alloc] at h2 f2
  have hs := hB.size
  rw [size_alloc] at hs
  exact ⟨hb, by omega, free_alloc (free_alloc f1 _) _, box3_below (box3_below h1 (balloc (brefl _) _)) (balloc (brefl _) _), f2, h2, ((((But.refl b W).alloc zN).trans hB).alloc _).alloc _⟩
theorem rows_step5 {ch : Rdr} {f : Nat} {acc : List (List Nd)} {r : Bs} : Px.rows ch (f + 1) acc r = (match Px.row ch (r.length + 1) [] r with | .error e => .error e | .ok (l, k) => if Px.isAt k 124 = true then Px.rows ch f (acc ++ [l]) (Px.next k) else .ok (acc ++ [l], k)) := by
  rw [Px.rows]
  cases Px.row ch (r.length + 1) [] r <;> rfl
def chP (R : Except Int (List (List Nd) × Bs)) : Except Int (Pn × Bs) := match R with | .ok (c, k) => .ok (.mk 3 [] (Nd.pnRows c), k) | .error e => .error e
theorem pnRows_app (a : List (List Nd)) (l : List Nd) : Nd.pnRows (a ++ [l]) = Nd.pnRows a ++ [.mk 4 [] (l.map Nd.pn)] := by
  rw [Nd.pnRows_map, Nd.pnRows_map]
  simp
theorem pnRows_len (a : List (List Nd)) : (Nd.pnRows a).length = a.length := by rw [Nd.pnRows_map, List.length_map]
end Go.Proofs.YtngfoijmknclhaaGreatDoor.Ar
