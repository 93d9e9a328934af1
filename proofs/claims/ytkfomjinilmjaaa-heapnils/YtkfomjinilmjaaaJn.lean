/- The contract of Set, of two numbers by texts: of a key that isn't there. -/
import Derived.Test.YtkfomjinilmjaaaJm
import Derived.Test.YtkfomjinilmjaaaJl
import Derived.Test.YtkfomjinilmjaaaHn
namespace Go.Proofs.Ytkfomjinilmjaaa
open Go.RowKit Go.Maps

section
variable {lt : ByteArray → ByteArray → Bool} {w w' : World} {h f : Nat} {R L : List RwP} {T : Int} {φ : Int × Int → Option Nat} {ao ao' : Option Addr} {cap cap' m n : Nat}
theorem Hm2.turned (H : Hm2 w h f R T φ ao cap m n) (T' : Int) : Hm2 (w.setCell ⟨h, 3, none⟩ (.int .i64 T')) h f R T' φ ao cap m n := by
  refine ⟨heap_setCell_same w h 3 _ 79 (.int .i64 T') H.top, ?_, H.mp.kept (heap_setCell_other _ _ m _ (Ne.symm H.hm)), H.hm, H.hg, H.sm⟩
  rcases H.row with e | ⟨g, cur, e, hg, r⟩
  · exact .inl e
  · exact .inr ⟨g, cur, e, (heap_setCell_other _ _ g _ (H.hg _ e).1).trans hg, r⟩
theorem Hm2.grown (H : Hm2 w h f R T φ ao cap m n) (hR' : RowAt2 w' ao' cap' (R ++ [rz2])) (hg : w.grownBy w' (ao.map (·.block))) (hN : Near w ao ao') :
    Hm2 (w'.setCell ⟨h, 1, none⟩ (.slice ao' (R.length + 1) cap')) h f (R ++ [rz2]) T φ ao' cap' m n := by
  have hb : ∀ b, b ≠ h ∨ True → (∀ a, ao = some a → a.block ≠ b) → b < w.heap.size → w'.heap[b]? = w.heap[b]? := fun b _ h1 h2 => hg.block b h2 (fun e => by
    cases ao with
    | none => cases e
    | some a => exact h1 a rfl (Option.some.inj e).symm)
  have hgb : ∀ a, ao' = some a → a.block ≠ h ∧ a.block ≠ m := fun a e => by
    rcases hN a e with ⟨b, e1, e2⟩ | e2
    · rw [e2]; exact H.hg b e1
    · exact ⟨fun e3 => by have := lt_of_block H.top; omega, fun e3 => by have := H.mp.lt; omega⟩
  refine ⟨?_, ?_, H.mp.kept ?_, H.hm, hgb, fun x hx => ?_⟩
  · have ht := (hb h (.inr trivial) (fun a e => (H.hg a e).1) (lt_of_block H.top)).trans H.top
    rw [List.length_append, List.length_singleton]
    exact heap_setCell_same w' h 1 _ 79 (.slice ao' (R.length + 1) cap') ht
  · rcases hR' with e | ⟨g, cur, e, h1, r⟩
    · exact .inl e
    · exact .inr ⟨g, cur, e, (heap_setCell_other _ _ g _ (hgb _ e).1).trans h1, r⟩
  · rw [heap_setCell_other _ _ m _ (Ne.symm H.hm)]
    exact hb m (.inr trivial) (fun a e => (H.hg a e).2) H.mp.lt
  · rcases List.mem_append.1 hx with hx | hx
    · exact H.sm x hx
    · rw [List.mem_singleton] at hx
      subst hx
      exact ⟨by decide, by decide⟩
theorem set_snoc2 (R : List RwP) (y x : RwP) : (R ++ [y]).set R.length x = R ++ [x] := by simp
/-- What Set hands back. -/
def SetTo2 (lt : ByteArray → ByteArray → Bool) (w : World) (h f : Nat) (L : List RwP) (T : Int) (ao : Option Addr) (m : Nat) (k : Int × Int) (r : ByteArray) (e : Ending) (w' : World) : Prop :=
  e = .returned (.bool false) ∧ ∃ ao', Hp2 lt w' h f (L ++ [⟨k, r, T + 1⟩]) (T + 1) ao' m ∧ Keep (Own h m ao) w w' ∧ Near w ao ao'
set_option maxHeartbeats 2000000 in
set_option maxRecDepth 100000 in
theorem set2_is (O : Ords lt) (LI : LessIs2 f lt) (H : Hp2 lt w h f L T ao m) (hn : L.length ≤ 900) {k : Int × Int} (hk : In64 k) (r : ByteArray) (hT0 : 0 ≤ T) (hT : T ≤ 100000) (hTop : ∀ x ∈ L, x.t ≤ T) (hnk : ∀ x ∈ L, x.k ≠ k) :
    Calls Try.prog 32 #[.pointer (some ⟨h, 0, none⟩), .agg #[.int .i64 k.1, .int .i64 k.2], .string r] w (SetTo2 lt w h f L T ao m k r) := by
  obtain ⟨R, φ, cap, U, H, hI, G⟩ := H
  replace G := G.top_any2 hTop
  have hrow := idx_row2 hI G k
  have HLI := hide LI
  have hRl : R.length ≤ 900 := by rw [G.len]; exact hn
  have HNe : Hid (φ k = none) := by
    cases e : φ k with
    | none => rfl
    | some i =>
      rw [e] at hrow
      obtain ⟨a, _, hr⟩ := hrow
      rw [rowOf2_none.2 hnk] at hr
      cases hr
  have HW : Hid (without L k = L) := without_no hnk
  have HNK : Hid (∀ x ∈ L, x.k ≠ k) := hnk
  have HG := hide G
  have HI := hide hI
  have HLT := hide H.lt
  obtain ⟨k1, k2⟩ := k
  have HB0 := hide (balloc (brefl w) (.cells #[.int .i64 k1, .int .i64 k2] 58))
  have H0 := hide (H.below HB0.out)
  have N0 := hide (heap_alloc_new w (.cells #[.int .i64 k1, .int .i64 k2] 58))
  clear H hI G hrow LI hnk
  go_enter Try.func32, Try.ntmps32
  go_wp2_with fail
  generalize w.alloc (.cells #[.int .i64 k1, .int .i64 k2] 58) = W0 at *
  obtain ⟨p, hp⟩ : ∃ p, w.heap.size = p := ⟨_, rfl⟩
  rw [hp] at N0
  have HP := hide hp
  rw [hp]
  clear hp
  obtain ⟨a0, a1⟩ := two_cells N0.out
  have CF := hide (find2_is H0.out hk)
  rw [HNe.out] at CF
  simp only [Option.getD_none, Option.isSome_none] at CF
  go_wp2_with fail
  refine CF.out.mono ?_
  rintro e w1 ⟨rfl, hb1⟩
  have HB1 := hide (bthen HB0.out hb1)
  have HH := hide (H0.out.below hb1)
  have N1 := hide ((hb1.block p (lt_of_block N0.out)).trans N0.out)
  clear CF HB0 H0 N0 hb1 a0 a1
  obtain ⟨c0, c1, c2, c3, hfz⟩ := four_cells HH.out.top
  have HA := hide (HH.out.below (balloc (brefl w1) (.cells #[.int .i64 0, .int .i64 0, .string ⟨#[]⟩, .int .i64 0] 82)))
  have HBA := hide (balloc (brefl w1) (.cells #[.int .i64 0, .int .i64 0, .string ⟨#[]⟩, .int .i64 0] 82))
  have HNA := hide (heap_alloc_new w1 (.cells #[.int .i64 0, .int .i64 0, .string ⟨#[]⟩, .int .i64 0] 82))
  clear hfz
  go_wp2_with (at_builtin; go_must (refine append_row2 rfl _ _ rfl rfl HA.out.row _ _ rfl HNA.out (by omega) ?_))
  intro ao1 cap1 w2 hR1 hg1 hloc
  have HNr := hide hloc
  have H1 := hide (HA.out.grown hR1 hg1 HNr.out)
  have hpo : Hid (∀ b, Own h m ao b → b ≠ p) := fun b hb e => by subst e; have := HLT.out _ hb; have := HP.out; omega
  have K1 : Hid (Keep (Own h m ao) w w2) := (Keep.of (bthen HB1.out HBA.out)).trans (Keep.grown hg1 (fun k e => by
    cases ao with
    | none => cases e
    | some a => exact .inr (.inr ⟨a, rfl, Option.some.inj e⟩)))
  have HN1 : Hid (Near w ao ao1) := fun a e => (HNr.out a e).imp id (fun h => by have := HBA.out.size; have := HB1.out.size; omega)
  have ht : Hid (w2.heap[h]? = w1.heap[h]?) := (hg1.block h (lt_of_block HA.out.top) (fun e => by
    cases ao with
    | none => cases e
    | some a => exact (HA.out.hg a rfl).1 (Option.some.inj e).symm)).trans (HBA.out.block h (lt_of_block HH.out.top))
  have N2 : Hid (w2.heap[p]? = some (.cells #[.int .i64 k1, .int .i64 k2] 58 (0, 0))) := ((hg1.block p (lt_of_block ((HBA.out.block p (lt_of_block N1.out)).trans N1.out)) (fun e => by
    cases ao with
    | none => cases e
    | some a => exact hpo.out p (.inr (.inr ⟨a, rfl, (Option.some.inj e).symm⟩)) rfl)).trans (HBA.out.block p (lt_of_block N1.out))).trans N1.out
  have HPO1 : Hid (∀ b, Own h m ao1 b → b ≠ p) := fun b hb e => by
    rcases HNr.out.own b hb with e2 | e2
    · exact hpo.out b e2 e
    · have := lt_of_block N1.out
      have := HBA.out.size
      omega
  obtain ⟨d0, d1, d2, d3, hfz⟩ := four_cells (ht.out.trans HH.out.top)
  have fz1 := hfz 1
  have fz3 := hfz 3
  clear hR1 hg1 hloc HNr HNA HBA HA c0 c1 c2 c3 hfz N1
  have H2 := hide (H1.out.turned (T + 1))
  have K2 : Hid (Keep (Own h m ao) w ((w2.setCell ⟨h, 1, none⟩ (.slice ao1 (R.length + 1) cap1)).setCell ⟨h, 3, none⟩ (.int .i64 (T + 1)))) := (K1.out.setCell (.inl (.inl rfl)) _).setCell (.inl (.inl rfl)) _
  have hph : p ≠ h := fun e => hpo.out h (.inl rfl) e.symm
  have N3 : Hid (((w2.setCell ⟨h, 1, none⟩ (.slice ao1 (R.length + 1) cap1)).setCell ⟨h, 3, none⟩ (.int .i64 (T + 1))).heap[p]? = some (.cells #[.int .i64 k1, .int .i64 k2] 58 (0, 0))) := ((heap_setCell_other _ _ p _ hph).trans (heap_setCell_other _ _ p _ hph)).trans N2.out
  go_wp2_with fail
  generalize (w2.setCell ⟨h, 1, none⟩ (.slice ao1 (R.length + 1) cap1)).setCell ⟨h, 3, none⟩ (.int .i64 (T + 1)) = W2 at *
  clear d0 d1 d2 d3 fz1 fz3 N2 H1 K1 ht HH HB1
  obtain ⟨d0, d1, d2, d3, _⟩ := four_cells H2.out.top
  obtain ⟨a0, a1⟩ := two_cells N3.out
  have CL : Hid (Calls Try.prog 45 #[.pointer (some ⟨h, 0, none⟩), .int .i64 R.length, .agg #[.int .i64 k1, .int .i64 k2, .string r, .int .i64 (T + 1)]] W2.drew fun e w' => e = .returned (.tuple #[]) ∧ Hm2 w' h f (R ++ [⟨(k1, k2), r, T + 1⟩]) (T + 1) (upd φ (k1, k2) (some R.length)) ao1 cap1 m (R.length + 1) ∧ Keep (Own h m ao1) W2.drew w') := by
    have := lay2_is (n' := R.length + 1) (H2.out.below (brefl W2).drew) (i := R.length) (by simp) ⟨(k1, k2), r, T + 1⟩ hk (by simp; omega) (by omega) (fun _ => Nat.le_refl _) (by omega)
    rw [set_snoc2] at this
    exact this
  refine wp_region_held_drew (S := fun w' => w'.cell? ⟨h, 3, none⟩ = some (.int .i64 (T + 1)) ∧ w'.cell? ⟨p, 0, none⟩ = some (.int .i64 k1) ∧ w'.cell? ⟨p, 1, none⟩ = some (.int .i64 k2)) (by kernel_rfl) ⟨d3, a0, a1⟩ (fun hHeld => ?_)
  refine wpAnyH_take (i := 0) (v := .pointer (some ⟨h, 0, none⟩)) rfl (by kernel_rfl) (by kernel_rfl) (by kernel_rfl) (fun _ _ _ h => h) (Or.inl ⟨by rfl, fun w hSw => by dsimp only at hSw; go_simp⟩) hHeld ?_
  simp only [Act.put, List.getElem_toArray, List.getElem_cons_zero, List.setIfInBounds_toArray, List.set_cons_zero, List.set_cons_succ]
  refine wpAnyH_take (i := 1) (v := .int .i64 (R.length : Nat)) rfl (by kernel_rfl) (by kernel_rfl) (by kernel_rfl) (fun _ _ _ h => h) (Or.inl ⟨by rfl, fun w hSw => by dsimp only at hSw; go_simp⟩) hHeld ?_
  simp only [Act.put, List.getElem_toArray, List.getElem_cons_zero, List.getElem_cons_succ, List.setIfInBounds_toArray, List.set_cons_zero, List.set_cons_succ]
  refine wpAnyH_take (i := 2) (v := .agg #[.int .i64 k1, .int .i64 k2]) rfl (by kernel_rfl) (by kernel_rfl) (by kernel_rfl) (fun _ _ _ h => h) (Or.inl ⟨by rfl, fun w hSw => by dsimp only at hSw; go_simp⟩) hHeld ?_
  simp only [Act.put, List.getElem_toArray, List.getElem_cons_zero, List.getElem_cons_succ, List.setIfInBounds_toArray, List.set_cons_zero, List.set_cons_succ]
  refine wpAnyH_take (i := 3) (v := .string r) rfl (by kernel_rfl) (by kernel_rfl) (by kernel_rfl) (fun _ _ _ h => h) (Or.inl ⟨by rfl, fun w hSw => by dsimp only at hSw; go_simp⟩) hHeld ?_
  simp only [Act.put, List.getElem_toArray, List.getElem_cons_zero, List.getElem_cons_succ, List.setIfInBounds_toArray, List.set_cons_zero, List.set_cons_succ]
  refine wpAnyH_take (i := 4) (v := .pointer (some ⟨h, 0, none⟩)) rfl (by kernel_rfl) (by kernel_rfl) (by kernel_rfl) (fun _ _ _ h => h) (Or.inl ⟨by rfl, fun w hSw => by dsimp only at hSw; go_simp⟩) hHeld ?_
  simp only [Act.put, List.getElem_toArray, List.getElem_cons_zero, List.getElem_cons_succ, List.setIfInBounds_toArray, List.set_cons_zero, List.set_cons_succ]
  refine wpAnyH_take (i := 5) (v := .pointer (some ⟨h, 0, none⟩)) rfl (by kernel_rfl) (by kernel_rfl) (by kernel_rfl) (fun _ _ _ h => h) (Or.inl ⟨by rfl, fun w hSw => by dsimp only at hSw; go_simp⟩) hHeld ?_
  simp only [Act.put, List.getElem_toArray, List.getElem_cons_zero, List.getElem_cons_succ, List.setIfInBounds_toArray, List.set_cons_zero, List.set_cons_succ]
  refine wpAnyH_take (i := 6) (v := .pointer (some ⟨h, 3, none⟩)) rfl (by kernel_rfl) (by kernel_rfl) (by kernel_rfl) (fun _ _ _ h => h) (Or.inl ⟨by rfl, fun w hSw => by dsimp only at hSw; go_simp⟩) hHeld ?_
  simp only [Act.put, List.getElem_toArray, List.getElem_cons_zero, List.getElem_cons_succ, List.setIfInBounds_toArray, List.set_cons_zero, List.set_cons_succ]
  refine wpAnyH_take (i := 7) (v := .int .i64 (T + 1)) rfl (by kernel_rfl) (by kernel_rfl) (by kernel_rfl) (fun _ _ _ h => h) (Or.inl ⟨by rfl, fun w hSw => by dsimp only at hSw; go_simp⟩) hHeld ?_
  simp only [Act.put, List.getElem_toArray, List.getElem_cons_zero, List.getElem_cons_succ, List.setIfInBounds_toArray, List.set_cons_zero, List.set_cons_succ]
  refine wpAnyH_take (i := 8) (v := .agg #[.int .i64 k1, .int .i64 k2, .string r, .int .i64 (T + 1)]) rfl (by kernel_rfl) (by kernel_rfl) (by kernel_rfl) (fun _ _ _ h => h) (Or.inl ⟨by rfl, fun w hSw => by dsimp only at hSw; go_simp⟩) hHeld ?_
  simp only [Act.put, List.getElem_toArray, List.getElem_cons_zero, List.getElem_cons_succ, List.setIfInBounds_toArray, List.set_cons_zero, List.set_cons_succ]
  refine wpAnyH_ready (rs := [9]) (by kernel_rfl) (by simp) ?_
  refine AllReadyH.cons rfl (fun K hK => ?_) AllReadyH.nil
  go_simp
  go_wp2_with (refine CL.out.mono ?_; rintro e w3 ⟨rfl, h3, k3⟩; have H3 := hide h3; have K3' := hide k3; clear h3 k3)
  have N4 : Hid (w3.heap[p]? = some (.cells #[.int .i64 k1, .int .i64 k2] 58 (0, 0))) := (K3'.out.block p (fun e => HPO1.out p e rfl) (lt_of_block (w := W2.drew) N3.out)).trans N3.out
  refine hK.out _ _ ⟨(four_cells H3.out.top).2.2.2.1, (two_cells N4.out).1, (two_cells N4.out).2⟩ (fun hHeld => ?_)
  clear hK K
  try simp only [Act.put, List.getElem_toArray, List.getElem_cons_zero, List.getElem_cons_succ, List.setIfInBounds_toArray, List.set_cons_zero, List.set_cons_succ]
  refine wpAnyH_done (by kernel_rfl) ?_ _
  have K3 : Hid (Keep (Own h m ao) w w3) := K2.out.trans' ((Keep.of (brefl W2).drew).trans K3'.out) (fun i hi => HN1.out.own i hi)
  have HI3 := hide (HI.out.snoc (x := (⟨(k1, k2), r, T + 1⟩ : RwP)) HNe.out)
  have CS := hide (settle2_is O HLI.out (Se2.start H3.out HI3.out) (i := R.length) (by simp) (inv_snoc HG.out.ho) (by simp; omega) (by omega))
  clear H3 K3' CL d0 d1 d2 d3 a0 a1 N3 N4 hHeld
  go_wp2_with fail
  refine CS.out.mono ?_
  rintro e w4 ⟨R4, φ4, rfl, S4, h4⟩
  have H4 := hide S4.hm
  have I4 := hide S4.idx
  have L4 : Hid (R4.length = R.length + 1) := by have := S4.len; rwa [List.length_append, List.length_singleton] at this
  have M4 := hide S4.mem
  have K4 := hide (K3.out.trans' S4.keep (fun i hi => HN1.out.own i hi))
  clear S4 CS
  go_wp2_with fail
  go_ret
  refine ⟨rfl, ao1, ⟨R4, φ4, cap1, T + 1, by rw [L4.out]; exact H4.out, I4.out, ?_⟩, K4.out, HN1.out⟩
  have hset := HG.out.set (R' := R4) (T' := T + 1) (x := ⟨(k1, k2), r, T + 1⟩) (by omega) rfl h4 (by rw [L4.out, HW.out, HG.out.len]) fun y => (M4.out y).trans (by
    rw [List.mem_append, List.mem_singleton]
    constructor
    · rintro (hy | hy)
      · exact .inr ⟨hy, HNK.out y ((HG.out.mem y).1 hy)⟩
      · exact .inl hy
    · rintro (hy | ⟨hy, _⟩)
      · exact .inr hy
      · exact .inl hy)
  rw [HW.out] at hset
  exact hset
end
end Go.Proofs.Ytkfomjinilmjaaa
