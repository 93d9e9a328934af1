/- The contract of find, of two numbers by texts. -/
import Derived.Test.YtkfomjinilmjaaaJc
import Derived.Test.YtkfomjinilmjaaaHd
import Derived.Test.YtkfomjinilmjaaaNl
import Derived.Deep.RegionHeld3
namespace Go.Proofs.Ytkfomjinilmjaaa
open Go.RowKit Go.Maps

theorem recov2 (w : World) : CallsD Try.prog 53 #[] .returning w fun e u' w' => e = .returned (.tuple #[]) ∧ u' = .returning ∧ w' = w := by
  refine callsD_of_wpS Try.func53 rfl fun c₀ cs hu => ?_
  apply wpS_region
  simp [wpOpsS, go_sem, recoverD, hu, Try.ntmps53, bodyPostS, results, Try.results53]
  cases c₀
  simp_all
theorem two_cells {w : World} {b y : Nat} {x0 x1 : Value} (h : w.heap[b]? = some (.cells #[x0, x1] y (0, 0))) :
    w.cell? ⟨b, 0, none⟩ = some x0 ∧ w.cell? ⟨b, 1, none⟩ = some x1 :=
  ⟨by rw [cell_of_row w b 0 _ y _ h]; rfl, by rw [cell_of_row w b 1 _ y _ h]; rfl⟩
section
variable {lt : ByteArray → ByteArray → Bool} {w w' : World} {h f : Nat} {R : List RwP} {T : Int} {φ : Int × Int → Option Nat} {ao : Option Addr} {cap m n : Nat}
theorem look2 (M : Mp2 w m n φ) {k : Int × Int} (hk : In64 k) : (Instr.lookup 76 (.map (some m)) (.agg #[.int .i64 k.1, .int .i64 k.2]) true).run Try.prog w = .ok (.tuple #[.int .i64 ((φ k).getD 0 : Nat), .bool (φ k).isSome]) w := by
  obtain ⟨D, hown, hl⟩ := M
  obtain ⟨v, ps, hrun, hv⟩ := hown.look_ok (e := 3) (zd := .lit (.int .i64 0)) (zp := []) klaw2 Try.underlying76 (zeroI _) (plainElem_int Try.underlying3 (by decide)) (hkey2 hk)
  obtain ⟨c, rfl, hc, _⟩ := plainElem_int_inv Try.underlying3 hv
  have h1 := hl k hk
  have hc2 : c = (((φ k).getD 0 : Nat) : Int) := by
    have hat := congrArg Prod.fst hc
    cases e : φ k with
    | none =>
      have h1 := h1.1
      rw [e] at h1
      rw [atKey_of_not_has h1] at hat
      simp at hat
      simp [hat]
    | some i =>
      have h1 := h1.2 i e
      rw [h1] at hat
      simp at hat
      simp [hat]
  rw [h1.1, hc2] at hrun
  exact hrun
set_option maxHeartbeats 1000000 in
set_option maxRecDepth 100000 in
theorem find2_is (H : Hm2 w h f R T φ ao cap m n) {k : Int × Int} (hk : In64 k) :
    Calls Try.prog 44 #[.pointer (some ⟨h, 0, none⟩), .agg #[.int .i64 k.1, .int .i64 k.2]] w fun e w' => e = .returned (.tuple #[.int .i64 ((φ k).getD 0 : Nat), .bool (φ k).isSome, .bool true]) ∧ Below w.heap.size w w' := by
  obtain ⟨k1, k2⟩ := k
  have HB := hide (balloc (brefl w) (.cells #[.int .i64 k1, .int .i64 k2] 58))
  have H1 := hide (H.below HB.out)
  have N1 := hide (heap_alloc_new w (.cells #[.int .i64 k1, .int .i64 k2] 58))
  clear H
  go_enter_defers Try.func44, Try.ntmps44
  go_wp2_with fail
  generalize w.alloc (.cells #[.int .i64 k1, .int .i64 k2] 58) = W at *
  obtain ⟨p, hp⟩ : ∃ p, w.heap.size = p := ⟨_, rfl⟩
  rw [hp] at N1
  have HP := hide hp
  rw [hp]
  clear hp
  obtain ⟨c0, c1, c2, c3, _⟩ := four_cells H1.out.top
  obtain ⟨a0, a1⟩ := two_cells N1.out
  refine wp_region_noPanic ?_
  refine wp_region_held_drew (S := fun w' => w'.cell? ⟨h, 2, none⟩ = some (.map (some m)) ∧ w'.cell? ⟨p, 0, none⟩ = some (.int .i64 k1) ∧ w'.cell? ⟨p, 1, none⟩ = some (.int .i64 k2) ∧ Mp2 w' m n φ) (by kernel_rfl) ⟨c2, a0, a1, H1.out.mp.kept rfl⟩ (fun hHeld => ?_)
  refine wpAnyH_take (i := 0) (v := .pointer (some ⟨h, 0, none⟩)) rfl (by kernel_rfl) (by kernel_rfl) (by kernel_rfl) (fun _ _ _ h => h) (Or.inl ⟨by rfl, fun w hSw => by dsimp only at hSw; go_simp⟩) hHeld ?_
  simp only [Act.put, List.getElem_toArray, List.getElem_cons_zero, List.setIfInBounds_toArray, List.set_cons_zero, List.set_cons_succ]
  refine wpAnyH_take (i := 1) (v := .pointer (some ⟨h, 0, none⟩)) rfl (by kernel_rfl) (by kernel_rfl) (by kernel_rfl) (fun _ _ _ h => h) (Or.inl ⟨by rfl, fun w hSw => by dsimp only at hSw; go_simp⟩) hHeld ?_
  simp only [Act.put, List.getElem_toArray, List.getElem_cons_zero, List.getElem_cons_succ, List.setIfInBounds_toArray, List.set_cons_zero, List.set_cons_succ]
  refine wpAnyH_take (i := 2) (v := .pointer (some ⟨h, 2, none⟩)) rfl (by kernel_rfl) (by kernel_rfl) (by kernel_rfl) (fun _ _ _ h => h) (Or.inl ⟨by rfl, fun w hSw => by dsimp only at hSw; go_simp⟩) hHeld ?_
  simp only [Act.put, List.getElem_toArray, List.getElem_cons_zero, List.getElem_cons_succ, List.setIfInBounds_toArray, List.set_cons_zero, List.set_cons_succ]
  refine wpAnyH_take (i := 3) (v := .map (some m)) rfl (by kernel_rfl) (by kernel_rfl) (by kernel_rfl) (fun _ _ _ h => h) (Or.inl ⟨by rfl, fun w hSw => by dsimp only at hSw; go_simp⟩) hHeld ?_
  simp only [Act.put, List.getElem_toArray, List.getElem_cons_zero, List.getElem_cons_succ, List.setIfInBounds_toArray, List.set_cons_zero, List.set_cons_succ]
  refine wpAnyH_take (i := 4) (v := .agg #[.int .i64 k1, .int .i64 k2]) rfl (by kernel_rfl) (by kernel_rfl) (by kernel_rfl) (fun _ _ _ h => h) (Or.inl ⟨by rfl, fun w hSw => by dsimp only at hSw; go_simp⟩) hHeld ?_
  simp only [Act.put, List.getElem_toArray, List.getElem_cons_zero, List.getElem_cons_succ, List.setIfInBounds_toArray, List.set_cons_zero, List.set_cons_succ]
  refine wpAnyH_take (i := 5) (v := (.tuple #[(.int .i64 (((φ (k1, k2)).getD 0 : Nat) : Int)), (.bool (φ (k1, k2)).isSome)])) rfl (by kernel_rfl) (by kernel_rfl) (by kernel_rfl) (fun _ _ _ h => h) (Or.inl ⟨by rfl, fun w hSw => by dsimp only at hSw; have hl := look2 hSw.2.2.2 hk; obtain ⟨_, _, _, _⟩ := hSw; go_simp⟩) hHeld ?_
  simp only [Act.put, List.getElem_toArray, List.getElem_cons_zero, List.getElem_cons_succ, List.setIfInBounds_toArray, List.set_cons_zero, List.set_cons_succ]
  refine wpAnyH_take (i := 6) (v := (.tuple #[(.int .i64 (((φ (k1, k2)).getD 0 : Nat) : Int)), (.bool (φ (k1, k2)).isSome)])) rfl (by kernel_rfl) (by kernel_rfl) (by kernel_rfl) (fun _ _ _ h => h) (Or.inl ⟨by rfl, fun w hSw => by dsimp only at hSw; go_simp⟩) hHeld ?_
  simp only [Act.put, List.getElem_toArray, List.getElem_cons_zero, List.getElem_cons_succ, List.setIfInBounds_toArray, List.set_cons_zero, List.set_cons_succ]
  refine wpAnyH_take (i := 7) (v := (.int .i64 (((φ (k1, k2)).getD 0 : Nat) : Int))) rfl (by kernel_rfl) (by kernel_rfl) (by kernel_rfl) (fun _ _ _ h => h) (Or.inl ⟨by rfl, fun w hSw => by dsimp only at hSw; go_simp⟩) hHeld ?_
  simp only [Act.put, List.getElem_toArray, List.getElem_cons_zero, List.getElem_cons_succ, List.setIfInBounds_toArray, List.set_cons_zero, List.set_cons_succ]
  refine wpAnyH_take (i := 8) (v := (.bool (φ (k1, k2)).isSome)) rfl (by kernel_rfl) (by kernel_rfl) (by kernel_rfl) (fun _ _ _ h => h) (Or.inl ⟨by rfl, fun w hSw => by dsimp only at hSw; go_simp⟩) hHeld ?_
  simp only [Act.put, List.getElem_toArray, List.getElem_cons_zero, List.getElem_cons_succ, List.setIfInBounds_toArray, List.set_cons_zero, List.set_cons_succ]
  refine wpAnyH_take (i := 9) (v := (.int .i64 (((φ (k1, k2)).getD 0 : Nat) : Int))) rfl (by kernel_rfl) (by kernel_rfl) (by kernel_rfl) (fun _ _ _ h => h) (Or.inl ⟨by rfl, fun w hSw => by dsimp only at hSw; go_simp⟩) hHeld ?_
  simp only [Act.put, List.getElem_toArray, List.getElem_cons_zero, List.getElem_cons_succ, List.setIfInBounds_toArray, List.set_cons_zero, List.set_cons_succ]
  refine wpAnyH_take (i := 10) (v := (.bool (φ (k1, k2)).isSome)) rfl (by kernel_rfl) (by kernel_rfl) (by kernel_rfl) (fun _ _ _ h => h) (Or.inl ⟨by rfl, fun w hSw => by dsimp only at hSw; go_simp⟩) hHeld ?_
  simp only [Act.put, List.getElem_toArray, List.getElem_cons_zero, List.getElem_cons_succ, List.setIfInBounds_toArray, List.set_cons_zero, List.set_cons_succ]
  refine wpAnyH_done (by kernel_rfl) ?_ _
  have HB2 : Hid (Below w.heap.size w W.drew) := HB.out.drew
  clear hHeld a0 a1 c0 c1 c2 c3 H1 N1 HB
  generalize W.drew = W2 at *
  unfold NoPanic
  go_wp2_with fail
  refine leaves_cons (f := 53) (args := #[]) (by simp) (by simp [go_sem]) ?_
  refine (recov2 _).mono ?_
  rintro e u' w'' ⟨rfl, rfl, rfl⟩
  simp [Leaves, settle, results, Try.results44, go_sem]
  exact HB2.out
end
end Go.Proofs.Ytkfomjinilmjaaa
