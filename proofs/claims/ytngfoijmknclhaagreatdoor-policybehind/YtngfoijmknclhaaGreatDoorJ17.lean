/- The reader's sets. -/
import Derived.Test.YtngfoijmknclhaaGreatDoorJ14
import Derived.Test.YtngfoijmknclhaaGreatDoorJ16
namespace Go.Proofs.YtngfoijmknclhaaGreatDoor.Ar
open Go.RowKit Go.Sort
/-- What is left to read, and one more while there is no fault. -/
def mes (w : World) (b : Nat) : Nat := (match w.cell? ⟨b, 0, none⟩ with | some (.string s) => s.size | _ => 0) + (match w.cell? ⟨b, 2, none⟩ with | some (.int _ q) => (if q = 0 then 1 else 0) | _ => 0)
theorem Rd.mes {w : World} {b : Nat} {r : Bs} {d : Nat} {q : Int} (h : Rd w b r d q) : mes w b = r.length + (if q = 0 then 1 else 0) := by
  unfold YtngfoijmknclhaaGreatDoor.Ar.mes
  rw [h.1, h.2.2.1]
  simp only [tx_size]
/-- What becomes of the reader behind a node. -/
def NodePost (b : Nat) (W : World) (d : Nat) (R : Except Int (Nd × Bs)) (e : Ending) (w' : World) : Prop :=
  But b W w' ∧ match R with
  | .ok (n, k) => ∃ (k' : Bs) (x0 x1 x2 : Value), Px.skip k' = Px.skip k ∧ k'.length ≤ k.length ∧ Rd w' b k' d 0 ∧ Own3 (From W.heap.size w') w' (Nd.pn n) [x0, x1, x2] ∧ e = .returned (.agg #[x0, x1, x2])
  | .error q => ∃ x0 x1 x2 : Value, Rd w' b [] d q ∧ One3 x0 x1 x2 ∧ e = .returned (.agg #[x0, x1, x2])
abbrev zN : Obj := .cells #[.int .i64 0, .slice none 0 0, .slice none 0 0] 136
/-- A node on its way: the result's block, the node's block, a row of its own. -/
structure Way (b : Nat) (W : World) (x0 v1 v2 : Value) (wr : World) : Prop where
  hb : b < W.heap.size
  free0 : Free wr W.heap.size
  box0 : Box3 wr W.heap.size (.int .i64 0) (.slice none 0 0) (.slice none 0 0)
  free1 : Free wr (W.heap.size + 1)
  box1 : Box3 wr (W.heap.size + 1) x0 v1 v2
  but : But b W wr
  big : W.heap.size + 2 ≤ wr.heap.size
theorem Way.ne0 {b : Nat} {W : World} {x0 v1 v2 : Value} {wr : World} (h : Way b W x0 v1 v2 wr) : W.heap.size ≠ b := by have := h.hb; omega
theorem Way.ne1 {b : Nat} {W : World} {x0 v1 v2 : Value} {wr : World} (h : Way b W x0 v1 v2 wr) : W.heap.size + 1 ≠ b := by have := h.hb; omega
theorem Way.step {b : Nat} {W : World} {x0 v1 v2 : Value} {wr w' : World} (h : Way b W x0 v1 v2 wr) (hB : But b wr w') : Way b W x0 v1 v2 w' :=
  ⟨h.hb, hB.free h.free0 h.ne0, box3_but h.box0 hB h.ne0, hB.free h.free1 h.ne1, box3_but h.box1 hB h.ne1, h.but.trans hB, Nat.le_trans h.big hB.size⟩
theorem Way.grown {b : Nat} {W : World} {x0 v1 v2 : Value} {wr w' : World} {row : Option Nat} (h : Way b W x0 v1 v2 wr) (hg : wr.grownBy w' row) (hr : ∀ k, row = some k → W.heap.size + 2 ≤ k) : Way b W x0 v1 v2 w' := by
  have hbig := h.big
  have h0 : w'.heap[W.heap.size]? = wr.heap[W.heap.size]? := hg.block _ (by omega) (fun e => by have := hr _ e.symm; omega)
  have h1 : w'.heap[W.heap.size + 1]? = wr.heap[W.heap.size + 1]? := hg.block _ (by omega) (fun e => by have := hr _ e.symm; omega)
  have hs := hg.size
  exact ⟨h.hb, free_of h.free0 hs h0, box3_of h.box0 h0, free_of h.free1 hs h1, box3_of h.box1 h1, h.but.grown hg (fun k hk => by have := hr k hk; omega), by omega⟩
theorem Way.set1 {b : Nat} {W : World} {x0 v1 v2 : Value} {wr : World} (h : Way b W x0 v1 v2 wr) (v : Value) : Way b W x0 v v2 (wr.setCell ⟨W.heap.size + 1, 1, none⟩ v) := by
  obtain ⟨c0, c1, c2⟩ := h.box1
  have hbig := h.big
  refine ⟨h.hb, free_set h.free0 _ _, box3_of h.box0 (heap_setCell_ne _ _ _ _ _ (by omega)), free_set h.free1 _ _, ⟨?_, ?_, ?_⟩, h.but.setCell (.inr (Nat.le_succ _)) _, by rw [size_setCell]; exact hbig⟩ <;> simp [go_sem, c0, c1, c2]
theorem way_start {b : Nat} {W : World} (hb : b < W.heap.size) (x0 v1 v2 : Value) : Way b W x0 v1 v2 ((W.alloc zN).alloc (.cells #[x0, v1, v2] 136)) := by
  have h1 := box3_below (box3_new W (.int .i64 0) (.slice none 0 0) (.slice none 0 0) 136) (balloc (brefl _) (.cells #[x0, v1, v2] 136))
  have h2 := box3_new (W.alloc zN) x0 v1 v2 136
  have f2 := free_new (W.alloc zN) #[x0, v1, v2] 136
  rw [size_alloc] at h2 f2
  exact ⟨hb, free_alloc (free_new W _ 136) _, h1, f2, h2, ((But.refl b W).alloc _).alloc _, by simp only [size_alloc]; omega⟩

/-- The set on its way. -/
structure SetWay (b : Nat) (W : World) (acc : List Prt) (vP : Value) (wr : World) : Prop where
  way : Way b W (.int .i64 2) vP (.slice none 0 0) wr
  row : wr.ownsRow (W.heap.size + 2) 216 3 vP acc.length (Pa.cells acc)
theorem SetWay.more {b : Nat} {W : World} {acc : List Prt} {vP : Value} {w1 w2 : World} {p : Prt} {g cap : Nat} (h : Way b W (.int .i64 2) vP (.slice none 0 0) w1) (hr : ∀ k, vP.ownBlock = some k → W.heap.size + 2 ≤ k)
    (ho : w2.ownsRow (W.heap.size + 2) 216 3 (.slice (some ⟨g, 0, none⟩) (acc.length + 1) cap) (acc.length + 1) (Pa.cells acc ++ [.int .i64 p.1, .int .i64 p.2.1, .bool p.2.2])) (hg : w1.grownBy w2 vP.ownBlock) :
    SetWay b W (acc ++ [p]) (.slice (some ⟨g, 0, none⟩) (acc.length + 1) cap) (w2.setCell ⟨W.heap.size + 1, 1, none⟩ (.slice (some ⟨g, 0, none⟩) (acc.length + 1) cap)) := by
  refine ⟨(h.grown hg hr).set1 _, ?_⟩
  have := ownsRow_setCell_below ho (a := ⟨W.heap.size + 1, 1, none⟩) (Nat.lt_succ_self _) (.slice (some ⟨g, 0, none⟩) (acc.length + 1) cap)
  rw [Pa.cells_app, List.length_append]
  exact this
/-- The set's tree lies. -/
theorem set_own {b : Nat} {W : World} {acc : List Prt} {po : Option Addr} {pc : Nat} {wr w' : World} (h : SetWay b W acc (.slice po acc.length pc) wr) (hl : acc.length ≤ 1000) (hs : wr.heap.size ≤ w'.heap.size) (hk : ∀ k, W.heap.size + 2 ≤ k → k < wr.heap.size → w'.heap[k]? = wr.heap[k]?) :
    Own3 (From W.heap.size w') w' (Nd.pn (.num false true acc)) [.int .i64 2, .slice po acc.length pc, .slice none 0 0] := by
  refine ⟨fun k hk => hk.2, fun w2 h2 => ?_⟩
  have hsl : Pa.slot w2 po acc := by
    by_cases h0 : acc = []
    · exact .inl h0
    · have hpos := List.length_pos_iff.2 h0
      have hin := h.row.lt
      obtain ⟨g, hg, h1, h3, h4⟩ := row_six (w' := w2) h.row hpos (fun k hk1 => by
        have := hin k hk1
        rw [h2 k ⟨by omega, by omega⟩]
        exact hk k this.1 this.2)
      refine .inr ⟨g, 0, hg, fun i hi j hj => ?_⟩
      have hj3 : j < 3 := hj
      have := flat3_get Pa.enc (fun _ => rfl) acc i hi j hj3
      rw [Nat.zero_add]
      exact h4 _ _ (this.trans (List.getElem?_eq_getElem hj))
  have := Pn.At.mk (w := w2) (k := 2) (ps := acc) (us := []) (po := po) (pc := pc) (uo := none) (uc := 0) 0 0 (fun _ => []) ⟨by omega, by simp⟩ hsl (.inl rfl) (fun i hi => by simp at hi) (fun i hi => by simp at hi)
  rw [Nd.pn, if_neg (by simp), if_pos rfl]
  exact this
end Go.Proofs.YtngfoijmknclhaaGreatDoor.Ar
namespace Go.Proofs.YtngfoijmknclhaaGreatDoor.Ar
open Go.RowKit Go.Sort
/-- The set's loop: parts are read, or a fault was found. -/
def SetRel (b : Nat) (W : World) (d : Nat) (R : Except Int (List Prt × Bs)) (wr : World) : Prop :=
  (∃ (f : Nat) (r : Bs) (acc : List Prt) (po : Option Addr) (pc : Nat), R = Px.set f acc r ∧ r.length < f ∧ (acc = [] ∨ Px.isAt r 93 = false) ∧ acc.length + r.length ≤ 1000 ∧ Rd wr b r d 0 ∧ SetWay b W acc (.slice po acc.length pc) wr) ∨
  (∃ (v : Int) (vP : Value), v ≠ 0 ∧ vP.oneCell' = true ∧ R = .error v ∧ Rd wr b [] d v ∧ Way b W (.int .i64 2) vP (.slice none 0 0) wr)
theorem partRes_ne {r : Bs} {v : Int} (h : partRes r = .error v) : v ≠ 0 := by
  have hn : ∀ {u : Bs} {e : Int}, Px.number u = .error e → e ≠ 0 := fun h => number_err h
  unfold partRes at h
  split at h
  · rename_i e he
    cases h
    exact hn he
  · split at h
    · split at h
      · rename_i e he
        cases h
        exact hn he
      · split at h
        · cases h; decide
        · cases h
    · cases h
theorem nodePost_err {b : Nat} {W : World} {d : Nat} {R : Except Int (Nd × Bs)} {v : Int} {x0 x1 x2 : Value} {w' : World} (hR : R = .error v) (hB : But b W w') (hr : Rd w' b [] d v) (h1 : One3 x0 x1 x2) : NodePost b W d R (.returned (.agg #[x0, x1, x2])) w' := by
  rw [hR]
  exact ⟨hB, x0, x1, x2, hr, h1, rfl⟩
theorem nodePost_ok {b : Nat} {W : World} {d : Nat} {R : Except Int (Nd × Bs)} {n : Nd} {k k' : Bs} {x0 x1 x2 : Value} {w' : World} (hR : R = .ok (n, k)) (hB : But b W w') (hk : Px.skip k' = Px.skip k) (hl : k'.length ≤ k.length) (hr : Rd w' b k' d 0) (h1 : Own3 (From W.heap.size w') w' (Nd.pn n) [x0, x1, x2]) : NodePost b W d R (.returned (.agg #[x0, x1, x2])) w' := by
  rw [hR]
  exact ⟨hB, k', x0, x1, x2, hk, hl, hr, h1, rfl⟩
theorem way_lt {b : Nat} {W : World} {x0 v1 v2 : Value} {wr : World} (h : Way b W x0 v1 v2 wr) : W.heap.size + 1 < wr.heap.size := by have := h.big; omega

theorem Way.alloc {b : Nat} {W : World} {x0 v1 v2 : Value} {wr : World} (h : Way b W x0 v1 v2 wr) (o : Obj) : Way b W x0 v1 v2 (wr.alloc o) := h.step (But.of (balloc (brefl _) o))
theorem Way.drew {b : Nat} {W : World} {x0 v1 v2 : Value} {wr : World} (h : Way b W x0 v1 v2 wr) : Way b W x0 v1 v2 wr.drew := h.step (But.of (Below.drew (brefl _)))
theorem row_but {w w' : World} {b B e size n : Nat} {v : Value} {xs : List Value} (h : w.ownsRow B e size v n xs) (hB : But b w w') (hb : b < B) : w'.ownsRow B e size v n xs :=
  row_same h fun g hg => hB.block g (by have := (h.lt g hg).1; omega) (h.lt g hg).2
theorem Rd.grown {w w' : World} {b : Nat} {r : Bs} {d : Nat} {q : Int} {row : Option Nat} (h : Rd w b r d q) (hg : w.grownBy w' row) (hr : ∀ k, row = some k → b < k) : Rd w' b r d q :=
  h.of hg.size (hg.block b h.lt (fun e => by have := hr b e.symm; omega))
theorem row_from {w : World} {B e size n : Nat} {v : Value} {xs : List Value} (h : w.ownsRow B e size v n xs) : ∀ k, v.ownBlock = some k → B ≤ k := fun k hk => (h.lt k hk).1

set_option maxHeartbeats 16000000 in
set_option maxRecDepth 100000 in
theorem set_is {T : World → Prop} (K : ReadKit T) {W : World} {b : Nat} {r0 : Bs} {d : Nat} (h : Rd W b r0 d 0) (hT : Ty T b W) (hl : r0.length ≤ 100) (f0 : Nat) (hf : r0.length < f0) :
    Calls Tryz.prog 186 #[.pointer (some ⟨b, 0, none⟩)] W (NodePost b W d (setR (Px.set f0 [] r0))) := by
  obtain ⟨R, hR⟩ : ∃ R, R = Px.set f0 [] r0 := ⟨_, rfl⟩
  have HS : Hid (SetRel b W d R ((W.alloc zN).alloc (.cells #[.int .i64 2, .slice none 0 0, .slice none 0 0] 136))) :=
    .inl ⟨f0, r0, [], none, 0, hR, hf, .inl rfl, by simp; omega, (h.alloc _).alloc _, way_start h.lt _ _ _, ⟨rfl, .inl ⟨rfl, rfl⟩⟩⟩
  have HT := hide hT
  have hbW := h.lt
  rw [← hR]
  clear h hT hl hf hR
  go_enter Tryz.func186, Tryz.ntmps186
  go_wp2_with fail
  generalize (W.alloc zN).alloc (.cells #[.int .i64 2, .slice none 0 0, .slice none 0 0] 136) = W1 at *
  go_loopw [] (fun wr => Hid (SetRel b W d R wr)) (fun wr => mes wr b)
  case atStart => exact HS
  case round =>
    rcases hrel.out with ⟨f, r, acc, po, pc, hR, hf, h93, hal, hrd, hw⟩ | ⟨v, vP, hv, hvP, hR, hrd, hw⟩
    · have HM := hide (show mes wr b = r.length + 1 by rw [hrd.mes]; simp)
      obtain ⟨f, rfl⟩ : ∃ g, f = g + 1 := ⟨f - 1, by omega⟩
      have hsp : Px.set (f + 1) acc r = _ := set_part (f := f) (acc := acc) (r := r) (by rintro ⟨h1, h2⟩; rcases h93 with h | h; exact h1 h; rw [h] at h2; cases h2)
      have HWY := hide hw.way
      have HOW := hide hw.row
      have HTy := hide (HT.out.but hw.way.but)
      have CP := hide (part_is K hrd.drew (HTy.out.but (But.of (Below.drew (brefl _)))) (by omega))
      have hacc : acc.length ≤ 1000 := by omega
      obtain ⟨c0, c1, c2, _⟩ := hrd
      obtain ⟨d0, d1, d2⟩ := hw.way.box1
      have hb2 : b < W.heap.size + 2 := by omega
      have hlt1 := way_lt hw.way
      have hne1 := hw.way.ne1
      cases hp : partRes r with
      | error v =>
        have hv := partRes_ne hp
        have HR : Hid (R = .error v) := by show _ = _; rw [hR, hsp, hp]
        rw [hp] at CP
        clear hR hf h93 hal hsp hp hw hrel
        go_wp2_with fail
        go_region_law (first
            | (go_simp
               go_at_call 200
               refine CP.out.mono ?_
               rintro e w1 ⟨hB, x, y, z, rfl, hR1⟩
               have hl1 : W.heap.size + 1 < w1.heap.size := way_lt (HWY.out.drew.step hB)
               have hn1 : W.heap.size + 1 ≠ w1.heap.size := by omega
               have cw1 := (HWY.out.drew.step hB).box1.2.1)
            | (refine step_part rfl (.tmp 11) (.tmp 14) rfl (W.heap.size + 2) (.slice po acc.length pc) acc.length (Pa.cells acc) (by simp [Act.eval]) ((row_but (row_but HOW.out (But.of (b := b) (Below.drew (brefl _))) hb2) hB hb2).alloc _) w1.heap.size 1 (by simp [Act.eval]) _ _ _ (box3_new w1 _ _ _ 216) ⟨rfl, rfl, rfl⟩ (by omega) (by have := (HWY.out.drew.step hB).big; rw [size_alloc]; omega) _ rfl ?_
               intro g cap w2 ho hg hloc
               have HW2 := hide (((HWY.out.drew.step hB).alloc (.cells #[.int .i64 x, .int .i64 y, .bool z] 216)).grown hg (row_from HOW.out))
               have cc := HW2.out.box1.2.1
               have ff := HW2.out.free1.2 1))
        all_goals
          have HW3 := hide (HW2.out.set1 (.slice (some ⟨g, 0, none⟩) (acc.length + 1) cap))
          have HR3 := hide (((hR1.alloc (.cells #[.int .i64 x, .int .i64 y, .bool z] 216)).grown hg (fun k hk => by have := row_from HOW.out k hk; omega)).other (p := ⟨W.heap.size + 1, 1, none⟩) hne1 (.slice (some ⟨g, 0, none⟩) (acc.length + 1) cap))
          have CT := hide (take_is K.trims HR3.out 93 93 rfl false rfl [] rfl)
          clear ho hg hloc cc ff HW2 hR1 cw1 c0 c1 c2 d0 d1 d2 hB
          go_wp2_with fail
          refine CT.out.mono ?_
          rintro e w4 ⟨rfl, hB4, hR4⟩
          have HB4 := hide hB4
          have HR4 := hide hR4
          clear hB4 hR4 CT
          go_wp2_with fail
          refine ⟨.inr ⟨v, _, hv, rfl, HR.out, HR4.out, HW3.out.step HB4.out⟩, ?_⟩
          rw [HM.out, HR4.out.mes, if_neg hv]
          simp
      | ok pk =>
        obtain ⟨p, k⟩ := pk
        have hkl := partRes_suf hp
        have HR : Hid (R = Px.set f (acc ++ [p]) k) := by show _ = _; rw [hR, hsp, hp]
        have HF : Hid (k.length < f) := by show _ < _; omega
        have HAL : Hid (acc.length + 1 + k.length ≤ 1000) := by show _ ≤ _; omega
        have HKL := hide hkl
        rw [hp] at CP
        clear hR hf h93 hal hsp hp hw hrel hkl
        go_wp2_with fail
        go_region_law (first
            | (go_simp
               go_at_call 200
               refine CP.out.mono ?_
               rintro e w1 ⟨hB, k', hk1, hk2, rfl, hR1⟩
               have hl1 : W.heap.size + 1 < w1.heap.size := way_lt (HWY.out.drew.step hB)
               have hn1 : W.heap.size + 1 ≠ w1.heap.size := by omega
               have cw1 := (HWY.out.drew.step hB).box1.2.1)
            | (refine step_part rfl (.tmp 11) (.tmp 14) rfl (W.heap.size + 2) (.slice po acc.length pc) acc.length (Pa.cells acc) (by simp [Act.eval]) ((row_but (row_but HOW.out (But.of (b := b) (Below.drew (brefl _))) hb2) hB hb2).alloc _) w1.heap.size 1 (by simp [Act.eval]) _ _ _ (box3_new w1 _ _ _ 216) ⟨rfl, rfl, rfl⟩ (by omega) (by have := (HWY.out.drew.step hB).big; rw [size_alloc]; omega) _ rfl ?_
               intro g cap w2 ho hg hloc
               have HW1 := hide ((HWY.out.drew.step hB).alloc (.cells #[.int .i64 p.1, .int .i64 p.2.1, .bool p.2.2] 216))
               have HW2 := hide (HW1.out.grown hg (row_from HOW.out))
               have cc := HW2.out.box1.2.1
               have ff := HW2.out.free1.2 1))
        all_goals
          have HW3 := hide (SetWay.more HW1.out (row_from HOW.out) ho hg)
          have HR3 := hide (((hR1.alloc (.cells #[.int .i64 p.1, .int .i64 p.2.1, .bool p.2.2] 216)).grown hg (fun k hk => by have := row_from HOW.out k hk; omega)).other (p := ⟨W.heap.size + 1, 1, none⟩) hne1 (.slice (some ⟨g, 0, none⟩) (acc.length + 1) cap))
          have HK1 := hide hk1
          have HK2 := hide hk2
          clear ho hg hloc cc ff HW2 HW1 hR1 cw1 c0 c1 c2 d0 d1 d2 hB hk1 hk2
          cases h93 : Px.isAt k' 93 with
          | false =>
            have CT := hide (take_is K.trims HR3.out 93 93 rfl false h93 (Px.skip k') (by simp))
            have H93 : Hid (Px.isAt (Px.skip k') 93 = false) := by show _ = _; rw [Px.skip_skip_isAt]; exact h93
            clear h93
            go_wp2_with fail
            refine CT.out.mono ?_
            rintro e w4 ⟨rfl, hB4, hR4⟩
            have HB4 := hide hB4
            have HR4 := hide hR4
            clear hB4 hR4 CT
            go_wp2_with fail
            have hsl := (Px.skip_suf k').length_le
            have hk2 := HK2.out
            have hkl := HKL.out
            have hal := HAL.out
            have hff := HF.out
            refine ⟨.inl ⟨f, Px.skip k', acc ++ [p], some ⟨g, 0, none⟩, cap, ?_, by omega, .inr H93.out, by simp only [List.length_append, List.length_cons, List.length_nil]; omega, HR4.out, ?_⟩, ?_⟩
            · rw [HR.out, ← set_cong HK1.out, set_cong (Px.skip_idem k')]
            · have hs := HW3.out
              have := hs.way.step HB4.out
              rw [List.length_append]
              exact ⟨this, row_but (by simpa using hs.row) HB4.out hb2⟩
            · rw [HM.out, HR4.out.mes, if_pos rfl]
              omega
          | true =>
            have CT := hide (take_is K.trims HR3.out 93 93 rfl true h93 (Px.next k') (by simp))
            have HR2 : Hid (R = .ok (acc ++ [p], Px.next k)) := by
              show _ = _
              obtain ⟨f, rfl⟩ : ∃ g, f = g + 1 := ⟨f - 1, by have := HF.out; omega⟩
              rw [HR.out, Px.set, if_pos ⟨by simp, by rw [← isAt_cong HK1.out]; exact h93⟩]
            have HNX := hide (next_cong HK1.out)
            clear h93
            go_wp2_with fail
            refine CT.out.mono ?_
            rintro e w4 ⟨rfl, hB4, hR4⟩
            have HW4 := hide (HW3.out.way.step hB4)
            have HO4 := hide (row_but HW3.out.row hB4 hb2)
            have HR4 := hide hR4
            obtain ⟨d0, d1, d2⟩ := HW4.out.box1
            obtain ⟨e0, e1, e2⟩ := HW4.out.box0
            have fr := HW4.out.free0.2
            have f0 := fr 0
            have f1 := fr 1
            have f2 := fr 2
            clear hB4 hR4 CT fr
            go_wp2_with fail
            have hal := HAL.out
            change bodyPost Tryz.prog Tryz.f186 (NodePost b W d (setR R)) Exit.ret _ (put3 w4 W.heap.size (.int .i64 2) (.slice (some ⟨g, 0, none⟩) (acc.length + 1) cap) (.slice none 0 0))
            refine bodyPost_ret (v := .agg #[.int .i64 2, .slice (some ⟨g, 0, none⟩) (acc.length + 1) cap, .slice none 0 0]) (res_n Tryz.results186 _ _ W.heap.size rfl (put3_box HW4.out.box0 _ _ _)) rfl ?_
            have hown := set_own (W := W) (acc := acc ++ [p]) (po := some ⟨g, 0, none⟩) (pc := cap) (w' := put3 w4 W.heap.size (.int .i64 2) (.slice (some ⟨g, 0, none⟩) (acc.length + 1) cap) (.slice none 0 0)) ⟨by simpa using HW4.out, by simpa using HO4.out⟩ (by simp only [List.length_append, List.length_cons, List.length_nil]; omega) (by rw [put3_size]; omega) (fun k hk _ => put3_other _ _ _ _ _ k (by omega))
            refine nodePost_ok (n := .num false true (acc ++ [p])) (k := Px.next k) (k' := Px.next k') (by rw [HR2.out]; rfl) (put3_but HW4.out.but (.inr (Nat.le_refl _)) _ _ _) (by rw [HNX.out]) (by rw [HNX.out]; exact Nat.le_refl _) (put3_rd HR4.out HW4.out.ne0 _ _ _) ?_
            simpa using hown
    · have hv' : (v == 0) = false := by simpa using hv
      have HR := hide hR
      have HRd := hide hrd
      have HWY := hide hw
      obtain ⟨c0, c1, c2, _⟩ := hrd
      obtain ⟨d0, d1, d2⟩ := hw.box1
      obtain ⟨e0, e1, e2⟩ := hw.box0
      have fr := hw.free0.2
      have f0 := fr 0
      have f1 := fr 1
      have f2 := fr 2
      have s1 := fun w a m => run_store Tryz.prog w a vP m hvP
      clear hR hw fr hrel
      go_wp2_with fail
      change bodyPost Tryz.prog Tryz.f186 (NodePost b W d (setR R)) Exit.ret _ (put3 wr W.heap.size (.int .i64 2) vP (.slice none 0 0))
      refine bodyPost_ret (v := .agg #[.int .i64 2, vP, .slice none 0 0]) (res_n Tryz.results186 _ _ W.heap.size rfl (put3_box HWY.out.box0 _ _ _)) rfl ?_
      exact nodePost_err (by rw [HR.out]; rfl) (put3_but HWY.out.but (.inr (Nat.le_refl _)) _ _ _) (put3_rd HRd.out HWY.out.ne0 _ _ _) ⟨rfl, hvP, rfl⟩
end Go.Proofs.YtngfoijmknclhaaGreatDoor.Ar
namespace Go.Proofs.YtngfoijmknclhaaGreatDoor.Ar
open Go.RowKit Go.Sort
/-- What becomes of an atom. -/
def ItemPost (b : Nat) (W : World) (r : Bs) (d : Nat) (q : Int) (x0 x1 x2 : Value) (e : Ending) (w' : World) : Prop :=
  But b W w' ∧ ((Px.sign r = 0 ∧ Rd w' b (Px.skip r) d q ∧ e = .returned (.agg #[x0, x1, x2])) ∨
    (Px.sign r ≠ 0 ∧ Rd w' b (Px.next r) d q ∧ ∃ g, W.heap.size ≤ g ∧ w'.heap[g]? = some (.cells #[x0, x1, x2] 136) ∧ e = .returned (.agg #[.int .i64 ((Px.sign r : Int) + 2), .slice none 0 0, .slice (some ⟨g, 0, none⟩) 1 1])))

theorem next_skip (r : Bs) : Px.next (Px.skip r) = Px.next r := next_cong (Px.skip_idem r)
theorem item_done {b : Nat} {W : World} {r : Bs} {d : Nat} {q : Int} {x0 x1 x2 : Value} {w1 : World} {n : Nat} {k : Int} (hG : Px.sign r = n) (hn : n ≠ 0) (hk : k = (n : Int) + 2) (hB : But b W w1) (hR : Rd w1 b (Px.next r) d q) (hne : W.heap.size + 1 ≠ b) (hW : W.heap.size + 1 < w1.heap.size) :
    ItemPost b W r d q x0 x1 x2 (.returned (.agg #[.int .i64 k, .slice none 0 0, .slice (some ⟨w1.heap.size, 0, none⟩) 1 1])) ((put3 w1 (W.heap.size + 1) (.int .i64 k) (.slice none 0 0) (.slice (some ⟨w1.heap.size, 0, none⟩) 1 1)).alloc (.cells #[x0, x1, x2] 136)) := by
  refine ⟨(put3_but hB (.inr (Nat.le_succ _)) _ _ _).alloc _, .inr ⟨by rw [hG]; exact hn, (put3_rd hR hne _ _ _).alloc _, w1.heap.size, by omega, ?_, by rw [hG, hk]⟩⟩
  have e := put3_size w1 (W.heap.size + 1) (.int .i64 k) (.slice none 0 0) (.slice (some ⟨w1.heap.size, 0, none⟩) 1 1)
  generalize put3 w1 (W.heap.size + 1) (.int .i64 k) (.slice none 0 0) (.slice (some ⟨w1.heap.size, 0, none⟩) 1 1) = w2 at e ⊢
  show (w2.heap.push _)[w1.heap.size]? = _
  rw [← e]
  simp

set_option maxHeartbeats 8000000 in
set_option maxRecDepth 100000 in
theorem item_is5 (K : Trims) {W : World} {b : Nat} {r : Bs} {d : Nat} {q : Int} (h : Rd W b r d q) (x0 x1 x2 : Value) (h1 : One3 x0 x1 x2) :
    Calls Tryz.prog 164 #[.pointer (some ⟨b, 0, none⟩), .agg #[x0, x1, x2]] W (ItemPost b W r d q x0 x1 x2) := by
  obtain ⟨o0, o1, o2⟩ := h1
  have s0 := fun w a m => run_store Tryz.prog w a x0 m o0
  have s1 := fun w a m => run_store Tryz.prog w a x1 m o1
  have s2 := fun w a m => run_store Tryz.prog w a x2 m o2
  have hne : W.heap.size ≠ b := by have := h.lt; omega
  have hne1 : W.heap.size + 1 ≠ b := by have := h.lt; omega
  have R0 := hide ((h.alloc (.cells #[x0, x1, x2] 136)).alloc zN)
  have B0 := hide (((But.refl b W).alloc (.cells #[x0, x1, x2] 136)).alloc zN)
  have X0 := hide (box3_below (box3_new W x0 x1 x2 136) (balloc (brefl _) zN))
  have Z0 := hide (box3_new (W.alloc (.cells #[x0, x1, x2] 136)) (.int .i64 0) (.slice none 0 0) (.slice none 0 0) 136)
  have F0 := hide (free_new (W.alloc (.cells #[x0, x1, x2] 136)) #[.int .i64 0, .slice none 0 0, .slice none 0 0] 136)
  rw [size_alloc] at Z0 F0
  clear h
  have HSG : Hid (Px.sign r = if Px.isAt r 42 = true then 3 else if Px.isAt r 43 = true then 4 else if Px.isAt r 63 = true then 5 else 0) := rfl
  go_enter Tryz.func164, Tryz.ntmps164
  go_wp2_with fail
  generalize (W.alloc (.cells #[x0, x1, x2] 136)).alloc zN = W1 at *
  cases h42 : Px.isAt r 42 with
  | true =>
    have CT := hide (take_is K R0.out 42 42 rfl true h42 (Px.next r) (by simp))
    refine CT.out.mono ?_
    rintro e w1 ⟨rfl, hB, hR⟩
    have B1 := hide (B0.out.trans hB)
    have R1 := hide hR
    have X1 := hide (box3_but X0.out hB hne)
    have Z1 := hide (box3_but Z0.out hB hne1)
    have F1 := hide (hB.free F0.out hne1)
    clear hB hR CT
    have HG : Hid (Px.sign r = 3) := by show _ = _; rw [HSG.out, h42]; rfl
    clear HSG
    have hlt := box3_lt Z1.out
    obtain ⟨c0, c1, c2⟩ := X1.out
    obtain ⟨d0, d1, d2⟩ := Z1.out
    have f0 := F1.out.2 0
    have f1 := F1.out.2 1
    have f2 := F1.out.2 2
    have hn1 : W.heap.size + 1 ≠ w1.heap.size := by omega
    go_wp2_with fail
    change bodyPost Tryz.prog Tryz.f164 (ItemPost b W r d q x0 x1 x2) Exit.ret _ ((put3 w1 (W.heap.size + 1) (.int .i64 5) (.slice none 0 0) (.slice (some ⟨w1.heap.size, 0, none⟩) 1 1)).alloc (.cells #[x0, x1, x2] 136))
    refine bodyPost_ret (v := .agg #[.int .i64 5, .slice none 0 0, .slice (some ⟨w1.heap.size, 0, none⟩) 1 1]) (res_n Tryz.results164 _ _ (W.heap.size + 1) rfl (box3_below (put3_box Z1.out _ _ _) (balloc (brefl _) _))) rfl ?_
    exact item_done HG.out (by decide) rfl B1.out R1.out hne1 hlt
  | false =>
    have CT := hide (take_is K R0.out 42 42 rfl false h42 (Px.skip r) (by simp))
    refine CT.out.mono ?_
    rintro e w1 ⟨rfl, hB, hR⟩
    have B1 := hide (B0.out.trans hB)
    have R1 := hide hR
    have X1 := hide (box3_but X0.out hB hne)
    have Z1 := hide (box3_but Z0.out hB hne1)
    have F1 := hide (hB.free F0.out hne1)
    clear hB hR CT
    go_wp2_with fail
    cases h43 : Px.isAt r 43 with
    | true =>
      have CT := hide (take_is K R1.out 43 43 rfl true ((Px.skip_skip_isAt r 43).trans h43) (Px.next r) (by simp [next_skip]))
      refine CT.out.mono ?_
      rintro e w2 ⟨rfl, hB, hR⟩
      have B2 := hide (B1.out.trans hB)
      have R2 := hide hR
      have X2 := hide (box3_but X1.out hB hne)
      have Z2 := hide (box3_but Z1.out hB hne1)
      have F2 := hide (hB.free F1.out hne1)
      clear hB hR CT
      have HG : Hid (Px.sign r = 4) := by show _ = _; rw [HSG.out, h42, h43]; rfl
      clear HSG
      have hlt := box3_lt Z2.out
      obtain ⟨c0, c1, c2⟩ := X2.out
      obtain ⟨d0, d1, d2⟩ := Z2.out
      have f0 := F2.out.2 0
      have f1 := F2.out.2 1
      have f2 := F2.out.2 2
      have hn1 : W.heap.size + 1 ≠ w2.heap.size := by omega
      go_wp2_with fail
      change bodyPost Tryz.prog Tryz.f164 (ItemPost b W r d q x0 x1 x2) Exit.ret _ ((put3 w2 (W.heap.size + 1) (.int .i64 6) (.slice none 0 0) (.slice (some ⟨w2.heap.size, 0, none⟩) 1 1)).alloc (.cells #[x0, x1, x2] 136))
      refine bodyPost_ret (v := .agg #[.int .i64 6, .slice none 0 0, .slice (some ⟨w2.heap.size, 0, none⟩) 1 1]) (res_n Tryz.results164 _ _ (W.heap.size + 1) rfl (box3_below (put3_box Z2.out _ _ _) (balloc (brefl _) _))) rfl ?_
      exact item_done HG.out (by decide) rfl B2.out R2.out hne1 hlt
    | false =>
      have CT := hide (take_is K R1.out 43 43 rfl false ((Px.skip_skip_isAt r 43).trans h43) (Px.skip r) (by simp [Px.skip_idem]))
      refine CT.out.mono ?_
      rintro e w2 ⟨rfl, hB, hR⟩
      have B2 := hide (B1.out.trans hB)
      have R2 := hide hR
      have X2 := hide (box3_but X1.out hB hne)
      have Z2 := hide (box3_but Z1.out hB hne1)
      have F2 := hide (hB.free F1.out hne1)
      clear hB hR CT
      go_wp2_with fail
      cases h63 : Px.isAt r 63 with
      | true =>
        have CT := hide (take_is K R2.out 63 63 rfl true ((Px.skip_skip_isAt r 63).trans h63) (Px.next r) (by simp [next_skip]))
        refine CT.out.mono ?_
        rintro e w3 ⟨rfl, hB, hR⟩
        have B3 := hide (B2.out.trans hB)
        have R3 := hide hR
        have X3 := hide (box3_but X2.out hB hne)
        have Z3 := hide (box3_but Z2.out hB hne1)
        have F3 := hide (hB.free F2.out hne1)
        clear hB hR CT
        have HG : Hid (Px.sign r = 5) := by show _ = _; rw [HSG.out, h42, h43, h63]; rfl
        clear HSG
        have hlt := box3_lt Z3.out
        obtain ⟨c0, c1, c2⟩ := X3.out
        obtain ⟨d0, d1, d2⟩ := Z3.out
        have f0 := F3.out.2 0
        have f1 := F3.out.2 1
        have f2 := F3.out.2 2
        have hn1 : W.heap.size + 1 ≠ w3.heap.size := by omega
        go_wp2_with fail
        change bodyPost Tryz.prog Tryz.f164 (ItemPost b W r d q x0 x1 x2) Exit.ret _ ((put3 w3 (W.heap.size + 1) (.int .i64 7) (.slice none 0 0) (.slice (some ⟨w3.heap.size, 0, none⟩) 1 1)).alloc (.cells #[x0, x1, x2] 136))
        refine bodyPost_ret (v := .agg #[.int .i64 7, .slice none 0 0, .slice (some ⟨w3.heap.size, 0, none⟩) 1 1]) (res_n Tryz.results164 _ _ (W.heap.size + 1) rfl (box3_below (put3_box Z3.out _ _ _) (balloc (brefl _) _))) rfl ?_
        exact item_done HG.out (by decide) rfl B3.out R3.out hne1 hlt
      | false =>
        have CT := hide (take_is K R2.out 63 63 rfl false ((Px.skip_skip_isAt r 63).trans h63) (Px.skip r) (by simp [Px.skip_idem]))
        refine CT.out.mono ?_
        rintro e w3 ⟨rfl, hB, hR⟩
        have B3 := hide (B2.out.trans hB)
        have R3 := hide hR
        have X3 := hide (box3_but X2.out hB hne)
        have Z3 := hide (box3_but Z2.out hB hne1)
        have F3 := hide (hB.free F2.out hne1)
        clear hB hR CT
        have HG : Hid (Px.sign r = 0) := by show _ = _; rw [HSG.out, h42, h43, h63]; rfl
        clear HSG
        have hlt := box3_lt Z3.out
        obtain ⟨c0, c1, c2⟩ := X3.out
        obtain ⟨d0, d1, d2⟩ := Z3.out
        have f0 := F3.out.2 0
        have f1 := F3.out.2 1
        have f2 := F3.out.2 2
        go_wp2_with fail
        change bodyPost Tryz.prog Tryz.f164 (ItemPost b W r d q x0 x1 x2) Exit.ret _ (put3 w3 (W.heap.size + 1) x0 x1 x2)
        refine bodyPost_ret (v := .agg #[x0, x1, x2]) (res_n Tryz.results164 _ _ (W.heap.size + 1) rfl (put3_box Z3.out _ _ _)) rfl ?_
        exact ⟨put3_but B3.out (.inr (Nat.le_succ _)) _ _ _, .inl ⟨HG.out, put3_rd R3.out hne1 _ _ _, rfl⟩⟩
end Go.Proofs.YtngfoijmknclhaaGreatDoor.Ar
namespace Go.Proofs.YtngfoijmknclhaaGreatDoor.Ar
open Go.RowKit Go.Sort
theorem atom_dot {ch : Bs → Except Int (List (List Nd) × Bs)} {r : Bs} (h : Px.isAt r 46 = true) : Px.atom ch r = .ok (.num true false [(1, 65535, true)], Px.next r) := by
  unfold Px.atom
  rw [if_pos h]
theorem atom_set {ch : Bs → Except Int (List (List Nd) × Bs)} {r : Bs} (h0 : Px.isAt r 46 = false) (h : Px.isAt r 91 = true) : Px.atom ch r = setR (Px.set ((Px.next r).length + 1) [] (Px.next r)) := by
  unfold Px.atom setR
  rw [if_neg (by rw [h0]; decide), if_pos h]
  cases Px.set ((Px.next r).length + 1) [] (Px.next r) <;> rfl
theorem atom_par {ch : Bs → Except Int (List (List Nd) × Bs)} {r : Bs} (h0 : Px.isAt r 46 = false) (h1 : Px.isAt r 91 = false) (h : Px.isAt r 40 = true) : Px.atom ch r = (match ch (Px.next r) with | .error e => .error e | .ok (c, k) => if Px.isAt k 41 = true then .ok (.ch c, Px.next k) else .error 4) := by
  unfold Px.atom
  rw [if_neg (by rw [h0]; decide), if_neg (by rw [h1]; decide), if_pos h]
  cases ch (Px.next r) <;> rfl
theorem atom_num {ch : Bs → Except Int (List (List Nd) × Bs)} {r : Bs} (h0 : Px.isAt r 46 = false) (h1 : Px.isAt r 91 = false) (h2 : Px.isAt r 40 = false) : Px.atom ch r = (match Px.number r with | .error e => .error e | .ok (x, k) => .ok (.num false false [(x, x, false)], k)) := by
  unfold Px.atom
  rw [if_neg (by rw [h0]; decide), if_neg (by rw [h1]; decide), if_neg (by rw [h2]; decide)]
  cases Px.number r <;> rfl
end Go.Proofs.YtngfoijmknclhaaGreatDoor.Ar
