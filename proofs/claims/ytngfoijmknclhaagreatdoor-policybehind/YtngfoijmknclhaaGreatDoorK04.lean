/- Clauses behind the one that decides make no difference, nor do clauses that aren't met. Conditions: the row's own, with the package variables that the row lays. -/
import Derived.Test.YtngfoijmknclhaaGreatDoorK03
import Derived.Test.YtngfoijmknclhaaGreatDoorRows
import Derived.Test.YtngfoijmknclhaaGreatDoorCards
import Derived.Test.YtngfoijmknclhaaGreatDoorTie
import Derived.ProofKit
import Derived.LaidMore
import Derived.Lay
import Derived.MakeChecks
import Derived.OpenShut
import Derived.Carry
import Derived.Stop.Joined
import Derived.SevenTiedAt
namespace Go.Proofs.YtngfoijmknclhaaGreatDoor
open Go.ChangeShapes Go.WideShapes Go.ChangeAt Go.RowKit Go.Joins
open Go.ChangeMaps (open_string shut_string)
theorem policyBehind_door (os : Os) (args : Array Value) : laidMetH Tryz.prog Rows.policyBehindRow.laid ((World.laidAll Tryz.prog os Rows.policyBehindRow.laid).forCall (fun _ _ => 0) ⟨#[], args, []⟩).memory := by
  rw [MakeChecks.laidMetH_plain _ _ _ (by kernel_rfl)]
  exact laidMet_laidAll _ (by kernel_rfl) (by kernel_rfl)
set_option maxRecDepth 100000 in
theorem policyBehind_lifted (os : Os) (started : os.Started) (H : Type) (enc : TypeId × Value → H) :
    ReturnsInHanded {} Tryz.checked os 5 .any (fun w args => (Rows.policyBehindSpec.pre enc Tryz.prog Tryz.f5 [] false w args ∧ laidMetH Tryz.prog Rows.policyBehindRow.laid w) ∧ sizedMet enc Tryz.prog Tryz.f5 (OpenSpec.ofChange Rows.policyBehindSpec) false w args)
      (Rows.policyBehindSpec.post enc Tryz.prog Tryz.f5 false true false false) := by
  refine returns_both (C := Tryz.checked) (X := fun w _ => laidMetH Tryz.prog Rows.policyBehindRow.laid w) (fun _ _ _ hh h => h.of_heap hh) own started (by kernel_rfl) Tryz.func5
    (ChangeSpec.witness_shaped (enc := enc) (C := Tryz.checked) (os := os) (X := fun w _ => laidMetH Tryz.prog Rows.policyBehindRow.laid w) false (World.laidAll Tryz.prog os Rows.policyBehindRow.laid) #[.slice none 0 0, .slice none 0 0, .agg #[.int .u32 0, .int .i64 0, .int .i64 0, .int .i64 0, .int .i64 0, .slice none 0 0, .slice none 0 0, .int .i64 0, .slice none 0 0]] 8 (World.laidAll_os _ _ _) (World.shaped_of_ZipB (by kernel_rfl) (by kernel_rfl)) (by kernel_rfl) (by kernel_rfl) (by kernel_rfl) (policyBehind_door os _)) ?_
  intro W base args ds gs before hval0 hW hX hsh hsz
  have hval : ∀ (j : Nat) t v, Tryz.f5.params[j]? = some t → args[j]? = some v → Value.okWide Tryz.prog W .any base t v := hval0
  have hW' := hW
  obtain ⟨p, q, hA0, hV, rfl, hfz, hnd⟩ := hW
  have hA : DataW.TrodAll enc Tryz.prog W 0 (fun _ => true) true Tryz.f5.params.toList args.toList ds p := hA0
  rw [Tryz.params5] at hA hval
  obtain ⟨v0, v1, v2, d0, d1, d2, p0, p1, p2, rfl, rfl, rfl, h0, h1, h2⟩ := trodAll_three hA
  obtain ⟨rfl, rfl⟩ := trodVars_none hV
  have h0k := h0
  obtain ⟨m0, hm0⟩ := open_map (slice_of Tryz.underlying22 (hval 0 22 v0 rfl rfl)) h0
  have h1k := h1
  obtain ⟨l1, hl1⟩ := open_lists (slice_of Tryz.underlying23 (hval 1 23 v1 rfl rfl)) h1
  have h2k := h2
  obtain ⟨pa2, pb2, a2, po2, co2, ko2, cp2, cc2, ck2, rfl, hu2, hA2, hC2⟩ := open_route (hval 2 32 v2 rfl rfl) h2
  clear hA0 hval0
  have hlt0 : ∀ x ∈ p0, x.block < W.heap.size := fun x hx => hW'.lt x (by simp [hx])
  have hlt1 : ∀ x ∈ p1, x.block < W.heap.size := fun x hx => hW'.lt x (by simp [hx])
  have hlt2 : ∀ x ∈ p2, x.block < W.heap.size := fun x hx => hW'.lt x (by simp [hx])
  simp only [List.append_nil] at hW'
  have hT : Ar.Y4.Pt W := ⟨maxLen_of hsh, range_of Rows.laid_strconv_ErrRange (by kernel_rfl) ⟨_, _, rfl⟩ (fun h => by rw [MakeChecks.laidMetH_plain _ _ _ (by kernel_rfl)] at h; exact h) hX⟩
  have hB : Tab W := tab_of (by kernel_rfl) hX
  refine (law_behind v0 v1 m0 l1 pa2 pb2 a2 po2 co2 ko2 cp2 cc2 ck2 W hT hm0 hl1 hu2 hA2 hC2).mono fun e W' ⟨he, bel⟩ => ?_
  subst he
  exact ⟨_, rfl, _, _, _, [], _, [], hW', trodAll_mk1 (shut_bool Tryz.underlying4 _), trodAll_mk3 (Below.trod laidOut (by kernel_rfl) (of_decide_eq_true (by kernel_rfl)) h0k bel hlt0) (Below.trod laidOut (by kernel_rfl) (of_decide_eq_true (by kernel_rfl)) h1k bel hlt1) (Below.trod laidOut (by kernel_rfl) (of_decide_eq_true (by kernel_rfl)) h2k bel hlt2), rfl, bel.frame _, fun h => by cases h⟩
end Go.Proofs.YtngfoijmknclhaaGreatDoor
