/- What Print writes of a configuration, and its error, are the document's. Conditions: the row's own, with the package variables that the row lays. -/
import Derived.Test.YtpmmhmgojjlniaaGreatDoorQ51
import Derived.Test.YtpmmhmgojjlniaaGreatDoorRows
import Derived.Test.YtpmmhmgojjlniaaGreatDoorCards
import Derived.Test.YtpmmhmgojjlniaaGreatDoorTie
import Derived.ProofKit
import Derived.LaidMore
import Derived.Lay
import Derived.MakeChecks
import Derived.OpenShut
import Derived.Carry
import Derived.Stop.Joined
import Derived.SevenTiedAt
namespace Go.Proofs.YtpmmhmgojjlniaaGreatDoor
open Go.ChangeShapes Go.WideShapes Go.ChangeAt Go.RowKit Go.Joins
open Go.ChangeMaps (open_string shut_string)
theorem showPrints_door (os : Os) (args : Array Value) : laidMetH Tryz.prog Rows.showPrintsRow.laid ((World.laidAll Tryz.prog os Rows.showPrintsRow.laid).forCall (fun _ _ => 0) ⟨#[], args, []⟩).memory := by
  rw [MakeChecks.laidMetH_plain _ _ _ (by kernel_rfl)]
  exact laidMet_laidAll _ (by kernel_rfl) (by kernel_rfl)
set_option maxRecDepth 100000 in
theorem showPrints_lifted (os : Os) (started : os.Started) (H : Type) (enc : TypeId × Value → H) :
    ReturnsInHanded {} Tryz.checked os 3 .any (fun w args => (Rows.showPrintsSpec.pre enc Tryz.prog Tryz.f3 [] false w args ∧ laidMetH Tryz.prog Rows.showPrintsRow.laid w) ∧ sizedMet enc Tryz.prog Tryz.f3 (OpenSpec.ofChange Rows.showPrintsSpec) false w args)
      (Rows.showPrintsSpec.post enc Tryz.prog Tryz.f3 false true false false) := by
  refine returns_both (C := Tryz.checked) (X := fun w _ => laidMetH Tryz.prog Rows.showPrintsRow.laid w) (fun _ _ _ hh h => h.of_heap hh) own started (by kernel_rfl) Tryz.func3
    (ChangeSpec.witness_shaped (enc := enc) (C := Tryz.checked) (os := os) (X := fun w _ => laidMetH Tryz.prog Rows.showPrintsRow.laid w) false (World.laidAll Tryz.prog os Rows.showPrintsRow.laid) #[.agg #[.slice none 0 0, .slice none 0 0, .slice none 0 0]] 8 (World.laidAll_os _ _ _) (World.shaped_of_ZipB (by kernel_rfl) (by kernel_rfl)) (by kernel_rfl) (by kernel_rfl) (by kernel_rfl) (showPrints_door os _)) ?_
  intro W base args ds gs before hval0 hW hX hsh hsz
  have hval : ∀ (j : Nat) t v, Tryz.f3.params[j]? = some t → args[j]? = some v → Value.okWide Tryz.prog W .any base t v := hval0
  have hW' := hW
  obtain ⟨p, q, hA0, hV, rfl, hfz, hnd⟩ := hW
  have hA : DataW.TrodAll enc Tryz.prog W 0 (fun _ => true) true Tryz.f3.params.toList args.toList ds p := hA0
  rw [Tryz.params3] at hA hval
  obtain ⟨v0, d0, rfl, rfl, h0⟩ := trodAll_one hA
  obtain ⟨rfl, rfl⟩ := trodVars_none hV
  have h0k := h0
  obtain ⟨c0, x1_0, x2_0, x3_0, rfl, hr0, hw0⟩ := open_cfg (hval 0 26 v0 rfl rfl) h0 (fit_of0 (f := Tryz.f3) Tryz.params3 hsz)
  clear hA0 hval0
  have hlt0 : ∀ x ∈ p, x.block < W.heap.size := fun x hx => hW'.lt x (by simp [hx])
  simp only [List.append_nil] at hW'
  have hT : Ar.Y4.Pt W := ⟨maxLen_of hsh, range_of Rows.laid_strconv_ErrRange (by kernel_rfl) ⟨_, _, rfl⟩ (fun h => by rw [MakeChecks.laidMetH_plain _ _ _ (by kernel_rfl)] at h; exact h) hX⟩
  have hB : Tab W := tab_of (by kernel_rfl) hX
  refine (prints_is c0 x1_0 x2_0 x3_0 W hT hB hr0 hw0).mono fun e W' ⟨he, bel⟩ => ?_
  subst he
  exact ⟨_, rfl, _, _, _, [], _, [], hW', trodAll_mk1 (shut_bool Tryz.underlying4 _), trodAll_mk1 (Below.trod laidOut (by kernel_rfl) (of_decide_eq_true (by kernel_rfl)) h0k bel hlt0), rfl, bel.frame _, fun h => by cases h⟩
end Go.Proofs.YtpmmhmgojjlniaaGreatDoor
