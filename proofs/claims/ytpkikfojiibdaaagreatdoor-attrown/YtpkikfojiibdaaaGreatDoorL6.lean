import Derived.Test.YtpkikfojiibdaaaGreatDoorL5
/- What is written over; the law's spoil. -/
namespace Go.Proofs.YtpkikfojiibdaaaGreatDoor
open Go.RowKit

/-- All but some blocks is as it was. -/
structure Keep (S : Nat → Prop) (w w' : World) : Prop where
  os : w'.os = w.os
  tape : w'.tape = w.tape
  output : w'.output = w.output
  size : w.heap.size ≤ w'.heap.size
  block : ∀ k, ¬ S k → k < w.heap.size → w'.heap[k]? = w.heap[k]?
theorem size_setCell (w : World) (a : Addr) (v : Value) : (w.setCell a v).heap.size = w.heap.size := by simp [World.setCell]
theorem size_alloc (w : World) (o : Obj) : (w.alloc o).heap.size = w.heap.size + 1 := by simp
theorem heap_alloc_lt (w : World) (o : Obj) (k : Nat) (h : k < w.heap.size) : (w.alloc o).heap[k]? = w.heap[k]? := by
  show (w.heap.push o)[k]? = _
  rw [Array.getElem?_push, if_neg (Nat.ne_of_lt h)]
theorem Keep.refl (S : Nat → Prop) (w : World) : Keep S w w := ⟨rfl, rfl, rfl, Nat.le_refl _, fun _ _ _ => rfl⟩
theorem Keep.trans {S : Nat → Prop} {u v w : World} (h : Keep S u v) (k : Keep S v w) : Keep S u w :=
  ⟨k.os.trans h.os, k.tape.trans h.tape, k.output.trans h.output, Nat.le_trans h.size k.size, fun i hi hl => (k.block i hi (Nat.lt_of_lt_of_le hl h.size)).trans (h.block i hi hl)⟩
/-- One behind another, which may write what is new, too. -/
theorem Keep.trans' {S S' : Nat → Prop} {u v w : World} (h : Keep S u v) (k : Keep S' v w) (hs : ∀ i, S' i → S i ∨ u.heap.size ≤ i) : Keep S u w :=
  ⟨k.os.trans h.os, k.tape.trans h.tape, k.output.trans h.output, Nat.le_trans h.size k.size, fun i hi hl => (k.block i (fun e => by rcases hs i e with e | e; exact hi e; omega) (Nat.lt_of_lt_of_le hl h.size)).trans (h.block i hi hl)⟩
theorem Keep.mono {S S' : Nat → Prop} {u v : World} (h : Keep S u v) (hs : ∀ i, S i → S' i) : Keep S' u v := ⟨h.os, h.tape, h.output, h.size, fun i hi hl => h.block i (fun e => hi (hs i e)) hl⟩
theorem Keep.of {S : Nat → Prop} {w w' : World} (h : Below w.heap.size w w') : Keep S w w' := ⟨h.os, h.tape, h.output, h.size, fun k _ hk => h.block k hk⟩
theorem Keep.below {S : Nat → Prop} {N : Nat} {w w' : World} (h : Keep S w w') (hS : ∀ i, S i → N ≤ i) (hN : N ≤ w.heap.size) : Below N w w' := ⟨h.os, h.tape, h.output, h.size, fun k hk => h.block k (fun e => by have := hS k e; omega) (by omega)⟩
theorem Keep.below' {S : Nat → Prop} {N : Nat} {u w w' : World} (hb : Below N u w) (h : Keep S w w') (hS : ∀ i, S i → N ≤ i) (hN : N ≤ w.heap.size) : Below N u w' := hb.trans (h.below hS hN)
theorem Keep.alloc {S : Nat → Prop} {w w' : World} (h : Keep S w w') (o : Obj) : Keep S w (w'.alloc o) := h.trans (Keep.of (balloc (brefl _) o))
theorem Keep.drew {S : Nat → Prop} {w w' : World} (h : Keep S w w') : Keep S w w'.drew := h.trans (Keep.of (Below.drew (brefl _)))
theorem Keep.setCell {S : Nat → Prop} {w w' : World} (h : Keep S w w') {p : Addr} (hp : S p.block ∨ w.heap.size ≤ p.block) (u : Value) : Keep S w (w'.setCell p u) :=
  ⟨h.os, h.tape, h.output, by rw [size_setCell]; exact h.size, fun k hk hl => by
    rw [Below.heap_setCell _ _ _ _ (by rintro rfl; rcases hp with e | e; exact hk e; omega)]
    exact h.block k hk hl⟩
theorem Keep.then {S : Nat → Prop} {u w w' : World} (h : Keep S u w) (hb : Below w.heap.size w w') : Keep S u w' := h.trans (Keep.of hb)
theorem Keep.grown {S : Nat → Prop} {w w' : World} {row : Option Nat} (hg : w.grownBy w' row) (hr : ∀ k, row = some k → S k) : Keep S w w' :=
  ⟨hg.os, hg.tape, hg.output, hg.size, fun k hk hl => hg.block k hl (fun e => hk (hr k e.symm))⟩


/-- The block of a list that isn't empty. -/
def Blk (o : Option Addr) (n b : Nat) : Prop := n ≠ 0 ∧ ∃ ad, o = some ad ∧ ad.block = b
def Wr' (w : World) (o : Option Addr) (n : Nat) : Prop := n = 0 ∨ ∃ g off, o = some ⟨g, off, none⟩ ∧ ∀ j, j < n → (w.cell? ⟨g, off + j, none⟩).isSome = true ∧ w.frozen? ⟨g, off + j, none⟩ = false
theorem Wr.out {B : Nat} {w : World} {o : Option Addr} {n : Nat} (h : Wr B w o n) : Wr' w o n := by
  rcases h with h | ⟨g, off, e, _, hr⟩
  · exact .inl h
  · exact .inr ⟨g, off, e, hr⟩
theorem Wr'.below {w w' : World} {o : Option Addr} {n : Nat} (h : Wr' w o n) (hb : Below w.heap.size w w') : Wr' w' o n := by
  rcases h with h | ⟨g, off, e, hr⟩
  · exact .inl h
  · refine .inr ⟨g, off, e, fun j hj => ?_⟩
    obtain ⟨h1, h2⟩ := hr j hj
    obtain ⟨v, hv⟩ := Option.isSome_iff_exists.1 h1
    have hl := block_lt_of_cell hv
    exact ⟨by rw [hb.cell (p := ⟨g, off + j, none⟩) hl]; exact h1, by rw [hb.frozen (p := ⟨g, off + j, none⟩) hl]; exact h2⟩
theorem Wr'.set {w : World} {o : Option Addr} {n : Nat} (h : Wr' w o n) (a : Addr) (v : Value) (ha : (w.cell? a).isSome = true) : Wr' (w.setCell a v) o n := by
  rcases h with h | ⟨g, off, e, hr⟩
  · exact .inl h
  · refine .inr ⟨g, off, e, fun j hj => ?_⟩
    obtain ⟨h1, h2⟩ := hr j hj
    refine ⟨?_, by rw [World.frozen?_setCell]; exact h2⟩
    by_cases e2 : a = ⟨g, off + j, none⟩
    · subst e2
      rw [World.cell?_setCell_same' w _ v ha]
      rfl
    · rw [World.cell?_setCell_other _ _ _ _ e2]
      exact h1
set_option maxHeartbeats 4000000 in
set_option maxRecDepth 100000 in
theorem spoil_is (r0 r1 r2 r5 : Int) (po co ko : Option Addr) (np nc nk cp cc ck : Nat) (w : World) (h1 : Wr' w po np) (h2 : Wr' w co (nc * 2)) (h3 : Wr' w ko nk) (hp : np ≤ 100) (hc : nc ≤ 100) (hk : nk ≤ 100) :
    Calls Tryz.prog 19 #[.agg #[.int .i64 r0, .int .i64 r1, .int .i64 r2, .slice po np cp, .slice co nc cc, .int .i64 r5, .slice ko nk ck]] w fun e w' => e = .returned (.tuple #[]) ∧ Keep (fun b => Blk po np b ∨ Blk co nc b ∨ Blk ko nk b) w w' := by
  have HB := hide (balloc (brefl w) (.cells #[.int .i64 r0, .int .i64 r1, .int .i64 r2, .slice po np cp, .slice co nc cc, .int .i64 r5, .slice ko nk ck] 25))
  have N0 := hide (heap_new w #[.int .i64 r0, .int .i64 r1, .int .i64 r2, .slice po np cp, .slice co nc cc, .int .i64 r5, .slice ko nk ck] 25)
  have W1 := hide (h1.below HB.out)
  have W2 := hide (h2.below HB.out)
  have W3 := hide (h3.below HB.out)
  have OL : Hid (∀ b, (Blk po np b ∨ Blk co nc b ∨ Blk ko nk b) → b < w.heap.size) := by
    have key : ∀ {o : Option Addr} {n m : Nat}, Wr' w o m → (n ≠ 0 → m ≠ 0) → ∀ b, Blk o n b → b < w.heap.size := by
      intro o n m hw hnm b hb
      obtain ⟨hn, ad, rfl, rfl⟩ := hb
      rcases hw with h | ⟨g, off, e, hr⟩
      · exact absurd h (hnm hn)
      · cases e
        obtain ⟨v, hv⟩ := Option.isSome_iff_exists.1 (hr 0 (Nat.pos_of_ne_zero (hnm hn))).1
        exact block_lt_of_cell hv
    rintro b (h | h | h)
    · exact key h1 id b h
    · exact key h2 (by omega) b h
    · exact key h3 id b h
  have K0 : Hid (Keep (fun b => Blk po np b ∨ Blk co nc b ∨ Blk ko nk b) w (w.alloc (.cells #[.int .i64 r0, .int .i64 r1, .int .i64 r2, .slice po np cp, .slice co nc cc, .int .i64 r5, .slice ko nk ck] 25))) := Keep.of HB.out
  clear h1 h2 h3
  go_enter Tryz.func19, Tryz.ntmps19
  go_wp2_with fail
  generalize w.alloc (.cells #[.int .i64 r0, .int .i64 r1, .int .i64 r2, .slice po np cp, .slice co nc cc, .int .i64 r5, .slice ko nk ck] 25) = W at *
  obtain ⟨p, hpp⟩ : ∃ p, w.heap.size = p := ⟨_, rfl⟩
  rw [hpp] at N0 OL
  have HPP := hide hpp
  rw [hpp]
  clear hpp
  go_loopw [2] (fun v wr => ∃ k : Nat, v = .int .i64 k ∧ k ≤ np ∧ Hid (Wr' wr po np) ∧ Hid (Wr' wr co (nc * 2)) ∧ Hid (Wr' wr ko nk) ∧ Hid (Keep (fun b => Blk po np b ∨ Blk co nc b ∨ Blk ko nk b) w wr) ∧ Hid (wr.heap[p]? = some (.cells #[.int .i64 r0, .int .i64 r1, .int .i64 r2, .slice po np cp, .slice co nc cc, .int .i64 r5, .slice ko nk ck] 25 (0, 0)))) (fun v _ => np - (intOf v).toNat)
  case atStart => exact ⟨0, rfl, Nat.zero_le _, W1, W2, W3, K0, N0⟩
  case round =>
    obtain ⟨k, rfl, hkn, V1, V2, V3, KR, NR⟩ := hrel
    obtain ⟨d0, d1, d2, d3, d4, d5, d6⟩ := seven_cells NR.out
    by_cases hlt : k < np
    · have hlt' : (k : Int) < (np : Int) := by omega
      obtain ⟨g, off, e, hr⟩ : ∃ g off, po = some ⟨g, off, none⟩ ∧ ∀ j, j < np → (wr.cell? ⟨g, off + j, none⟩).isSome = true ∧ wr.frozen? ⟨g, off + j, none⟩ = false := by
        rcases V1.out with h | h
        · omega
        · exact h
      subst e
      obtain ⟨hs, hf⟩ := hr k hlt
      have HS := hide hs
      obtain ⟨u, hu⟩ := Option.isSome_iff_exists.1 hs
      have hgp : p ≠ g := fun e => by
        have := OL.out g (.inl ⟨by omega, _, rfl, rfl⟩)
        omega
      clear hr hs
      go_wp2_with fail
      refine ⟨⟨k + 1, by go_num, hlt, V1.out.set _ _ HS.out, V2.out.set _ _ HS.out, V3.out.set _ _ HS.out, KR.out.setCell (p := ⟨g, off + k, none⟩) (.inl (.inl ⟨by omega, _, rfl, rfl⟩)) _, (heap_setCell_other _ _ p _ hgp).trans NR.out⟩, by simp [intOf]; omega⟩
    · have e : np = k := by omega
      subst e
      go_wp2_with fail
      clear d0 d1 d2 d3 d4 d5 d6
      obtain ⟨wA, hwA⟩ : ∃ x, x = wr := ⟨_, rfl⟩
      subst hwA
      go_loopw [3] (fun v wr => ∃ k : Nat, v = .int .i64 k ∧ k ≤ nc ∧ Hid (Wr' wr co (nc * 2)) ∧ Hid (Wr' wr ko nk) ∧ Hid (Keep (fun b => Blk po np b ∨ Blk co nc b ∨ Blk ko nk b) w wr) ∧ Hid (wr.heap[p]? = some (.cells #[.int .i64 r0, .int .i64 r1, .int .i64 r2, .slice po np cp, .slice co nc cc, .int .i64 r5, .slice ko nk ck] 25 (0, 0)))) (fun v _ => nc - (intOf v).toNat)
      case atStart => exact ⟨0, rfl, Nat.zero_le _, V2, V3, KR, NR⟩
      case round =>
        clear V2 V3 KR NR
        obtain ⟨k, rfl, hkn, V2, V3, KR, NR⟩ := hrel
        obtain ⟨d0, d1, d2, d3, d4, d5, d6⟩ := seven_cells NR.out
        by_cases hlt : k < nc
        · have hlt' : (k : Int) < (nc : Int) := by omega
          obtain ⟨g, off, e, hr⟩ : ∃ g off, co = some ⟨g, off, none⟩ ∧ ∀ j, j < nc * 2 → (wr.cell? ⟨g, off + j, none⟩).isSome = true ∧ wr.frozen? ⟨g, off + j, none⟩ = false := by
            rcases V2.out with h | h
            · omega
            · exact h
          subst e
          obtain ⟨hs, hf⟩ := hr (k * 2) (by omega)
          obtain ⟨hs2, hf2⟩ := hr (k * 2 + 1) (by omega)
          rw [← Nat.add_assoc] at hs2 hf2
          have HS := hide hs
          have HS2 : Hid (((wr.setCell ⟨g, off + k * 2, none⟩ (.int .i64 7)).cell? ⟨g, off + k * 2 + 1, none⟩).isSome = true) := by
            show _ = _
            rw [World.cell?_setCell_other _ _ _ _ (by simp)]
            exact hs2
          obtain ⟨u, hu⟩ := Option.isSome_iff_exists.1 hs
          obtain ⟨u2, hu2⟩ := Option.isSome_iff_exists.1 hs2
          have hgp : p ≠ g := fun e => by
            have := OL.out g (.inr (.inl ⟨by omega, _, rfl, rfl⟩))
            omega
          clear hr hs hs2
          go_wp2_with fail
          refine ⟨⟨k + 1, by go_num, hlt, (V2.out.set _ _ HS.out).set _ _ HS2.out, (V3.out.set _ _ HS.out).set _ _ HS2.out, (KR.out.setCell (p := ⟨g, off + k * 2, none⟩) (.inl (.inr (.inl ⟨by omega, _, rfl, rfl⟩))) _).setCell (p := ⟨g, off + k * 2 + 1, none⟩) (.inl (.inr (.inl ⟨by omega, _, rfl, rfl⟩))) _, ((heap_setCell_other _ _ p _ hgp).trans (heap_setCell_other _ _ p _ hgp)).trans NR.out⟩, by simp [intOf]; omega⟩
        · have e : nc = k := by omega
          subst e
          go_wp2_with fail
          clear d0 d1 d2 d3 d4 d5 d6
          obtain ⟨wB, hwB⟩ : ∃ x, x = wr := ⟨_, rfl⟩
          subst hwB
          go_loopw [4] (fun v wr => ∃ k : Nat, v = .int .i64 k ∧ k ≤ nk ∧ Hid (Wr' wr ko nk) ∧ Hid (Keep (fun b => Blk po np b ∨ Blk co nc b ∨ Blk ko nk b) w wr) ∧ Hid (wr.heap[p]? = some (.cells #[.int .i64 r0, .int .i64 r1, .int .i64 r2, .slice po np cp, .slice co nc cc, .int .i64 r5, .slice ko nk ck] 25 (0, 0)))) (fun v _ => nk - (intOf v).toNat)
          case atStart => exact ⟨0, rfl, Nat.zero_le _, V3, KR, NR⟩
          case round =>
            clear V2 V3 KR NR
            obtain ⟨k, rfl, hkn, V3, KR, NR⟩ := hrel
            obtain ⟨d0, d1, d2, d3, d4, d5, d6⟩ := seven_cells NR.out
            by_cases hlt : k < nk
            · have hlt' : (k : Int) < (nk : Int) := by omega
              obtain ⟨g, off, e, hr⟩ : ∃ g off, ko = some ⟨g, off, none⟩ ∧ ∀ j, j < nk → (wr.cell? ⟨g, off + j, none⟩).isSome = true ∧ wr.frozen? ⟨g, off + j, none⟩ = false := by
                rcases V3.out with h | h
                · omega
                · exact h
              subst e
              obtain ⟨hs, hf⟩ := hr k hlt
              have HS := hide hs
              obtain ⟨u, hu⟩ := Option.isSome_iff_exists.1 hs
              have hgp : p ≠ g := fun e => by
                have := OL.out g (.inr (.inr ⟨by omega, _, rfl, rfl⟩))
                omega
              clear hr hs
              go_wp2_with fail
              refine ⟨⟨k + 1, by go_num, hlt, V3.out.set _ _ HS.out, KR.out.setCell (p := ⟨g, off + k, none⟩) (.inl (.inr (.inr ⟨by omega, _, rfl, rfl⟩))) _, (heap_setCell_other _ _ p _ hgp).trans NR.out⟩, by simp [intOf]; omega⟩
            · have e : nk = k := by omega
              subst e
              go_wp2_with fail
              go_end0
              exact ⟨rfl, KR.out⟩
end Go.Proofs.YtpkikfojiibdaaaGreatDoor
