import Derived.Test.YtkpoanjcalolkaaDoorLy1
import Derived.Scope
/- The contract of the grid's first. -/
namespace Go.Proofs.YtkpoanjcalolkaaDoor
open Go.RowKit

theorem gridV_col (S C : List Int) (_hS : S.length ≤ 65) (j : Nat) (h : j < S.length) : (gridV S C).toArray[j]? = some (.int .u32 S[j]) := by
  unfold gridV
  rw [List.getElem?_toArray, List.getElem?_append_left (by simp; omega), List.getElem?_append_left (by simpa using h)]
  simp [h]
theorem gridV_n (S C : List Int) (hS : S.length ≤ 65) : (gridV S C).toArray[65]? = some (.int .i64 C.length) := by
  unfold gridV
  rw [List.getElem?_toArray, List.getElem?_append_right (by simp; omega)]
  have e : 65 - (List.map (Value.int .u32) S ++ List.replicate (65 - S.length) (Value.int .u32 0)).length = 0 := by simp; omega
  rw [e]
  rfl

/-- What first finds: the first column, by bits, of which it holds. -/
def Found (S : List Int) (P : Int → Int → Bool) (c k : Int) (f : Bool) : Prop :=
  (f = false ∧ c = 0 ∧ k = 0 ∧ ∀ k' : Nat, k' < 33 → ∀ j (h : j < S.length), (Ad.may S[j] k' && P S[j] k') = false) ∨
  (f = true ∧ ∃ (kn j : Nat) (h : j < S.length), kn < 33 ∧ k = kn ∧ c = S[j] ∧ (Ad.may S[j] kn && P S[j] kn) = true ∧ (∀ k' : Nat, k' < kn → ∀ i (h : i < S.length), (Ad.may S[i] k' && P S[i] k') = false) ∧ ∀ i (h : i < S.length), i < j → (Ad.may S[i] kn && P S[i] kn) = false)

/-- The world at a round of first's: its three blocks read as they were laid. -/
def FW (w : World) (V : Array Value) (X : World) : Prop := Below (w.heap.size + 3) (((w.alloc (.cells V 62)).alloc (.cells #[.int .u32 0, .int .i64 0] 25)).alloc (.cells #[.int .u32 0, .int .i64 0] 25)) X
theorem fw_lo {w X : World} {V : Array Value} (h : FW w V X) : Below w.heap.size w X := (balloc (balloc (balloc (brefl w) _) _) _).trans (Below.mono h (by omega))
theorem fw_size {w X : World} {V : Array Value} (h : FW w V X) : w.heap.size + 3 ≤ X.heap.size := by have := Below.size h; simpa using this
theorem fw_then {w X Y : World} {V : Array Value} (h : FW w V X) (hb : Below X.heap.size X Y) : FW w V Y := Below.trans h (hb.mono (fw_size h))
theorem fw_alloc {w X : World} {V : Array Value} (h : FW w V X) (o : Obj) : FW w V (X.alloc o) := Below.alloc h (fw_size h) o
theorem fw_col {w X : World} {V : Array Value} (h : FW w V X) (j : Nat) : X.cell? ⟨w.heap.size, j, none⟩ = V[j]? := by
  rw [Below.cell h (p := ⟨w.heap.size, j, none⟩) (by simp), World.cell?_alloc_past _ _ _ (by simp; omega), World.cell?_alloc_past _ _ _ (by simp)]
  exact cell_of_row _ _ j _ 62 (0, 0) (heap_alloc_last w _)
theorem fw_res {w X : World} {V : Array Value} (h : FW w V X) (j : Nat) : X.cell? ⟨w.heap.size + 1, j, none⟩ = (#[Value.int .u32 0, .int .i64 0] : Array Value)[j]? := by
  rw [Below.cell h (p := ⟨w.heap.size + 1, j, none⟩) (by simp), World.cell?_alloc_past _ _ _ (by simp)]
  have := cell_of_row ((w.alloc (.cells V 62)).alloc (.cells #[.int .u32 0, .int .i64 0] 25)) _ j _ 25 (0, 0) (heap_alloc_last _ _)
  rw [show (w.alloc (.cells V 62)).heap.size = w.heap.size + 1 by simp] at this
  exact this
theorem fw_least {w X : World} {V : Array Value} (h : FW w V X) (j : Nat) : X.cell? ⟨w.heap.size + 2, j, none⟩ = (#[Value.int .u32 0, .int .i64 0] : Array Value)[j]? := by
  rw [Below.cell h (p := ⟨w.heap.size + 2, j, none⟩) (by simp)]
  have := cell_of_row (((w.alloc (.cells V 62)).alloc (.cells #[.int .u32 0, .int .i64 0] 25)).alloc (.cells #[.int .u32 0, .int .i64 0] 25)) _ j _ 25 (0, 0) (heap_alloc_last _ _)
  rw [show ((w.alloc (.cells V 62)).alloc (.cells #[.int .u32 0, .int .i64 0] 25)).heap.size = w.heap.size + 2 by simp] at this
  exact this
theorem fw_frozen {w X : World} {V : Array Value} (h : FW w V X) (b j : Nat) (hb : b = w.heap.size + 1 ∨ b = w.heap.size + 2) : X.frozen? ⟨b, j, none⟩ = false := by
  rw [Below.frozen h (p := ⟨b, j, none⟩) (by simp; omega)]
  rcases hb with rfl | rfl
  · rw [World.frozen?_alloc_old _ _ _ (by simp)]
    have := World.frozen?_alloc_new (w := w.alloc (.cells V 62)) #[.int .u32 0, .int .i64 0] 25 j
    rw [show (w.alloc (.cells V 62)).heap.size = w.heap.size + 1 by simp] at this
    exact this
  · have := World.frozen?_alloc_new (w := (w.alloc (.cells V 62)).alloc (.cells #[.int .u32 0, .int .i64 0] 25)) #[.int .u32 0, .int .i64 0] 25 j
    rw [show ((w.alloc (.cells V 62)).alloc (.cells #[.int .u32 0, .int .i64 0] 25)).heap.size = w.heap.size + 2 by simp] at this
    exact this

set_option maxHeartbeats 4000000 in
set_option maxRecDepth 100000 in
theorem first_u (S C : List Int) (gf : Nat) (lb : Array Value) (P : Int → Int → Bool) (w : World) (hl : S.length = C.length) (hS : S.length ≤ 65) (hb : ∀ c ∈ S, 0 ≤ c ∧ c ≤ 4294967295)
    (eg : ∀ args w, (callFunc gf args).run Tryd.prog w = .ok (.enter gf args) w)
    (hP : ∀ W c (k : Nat), Below w.heap.size w W → 0 ≤ c → c ≤ 4294967295 → Calls Tryd.prog gf (#[.agg #[.int .u32 c, .int .i64 (k : Int)]] ++ lb) W fun e w' => e = .returned (.bool (P c k)) ∧ Below W.heap.size W w') :
    Calls Tryd.prog 40 #[.agg (gridV S C).toArray, .func (.func gf) #[] lb] w fun e w' => ∃ (c k : Int) (f : Bool), e = .returned (.tuple #[.agg #[.int .u32 c, .int .i64 k], .bool f]) ∧ Found S P c k f ∧ Below w.heap.size w w' := by
  have HP := hide hP
  have HB := hide hb
  clear hP hb
  go_enter Tryd.func40, Tryd.ntmps40
  go_wp2_with fail
  refine wp_scope_straight ?_
  go_wp2_with fail
  apply wp_label
  have F0 : Hid (FW w (gridV S C).toArray (((w.alloc (.cells (gridV S C).toArray 62)).alloc (.cells #[.int .u32 0, .int .i64 0] 25)).alloc (.cells #[.int .u32 0, .int .i64 0] 25))) := Below.refl _ _
  generalize ((w.alloc (.cells (gridV S C).toArray 62)).alloc (.cells #[.int .u32 0, .int .i64 0] 25)).alloc (.cells #[.int .u32 0, .int .i64 0] 25) = W0 at F0 ⊢
  go_wp2_with fail
  go_loopw [7, 13] (fun v7 v13 wr => v7 = .bool false ∧ ∃ k : Nat, v13 = .int .i64 k ∧ k ≤ 33 ∧ FW w (gridV S C).toArray wr ∧ ∀ k' : Nat, k' < k → ∀ j (h : j < S.length), (Ad.may S[j] k' && P S[j] k') = false) (fun _ v13 _ => 33 - (intOf v13).toNat)
  case atStart => exact ⟨rfl, 0, rfl, by decide, F0.out, fun k' h => absurd h (Nat.not_lt_zero _)⟩
  case round =>
    obtain ⟨rfl, k, rfl, hk, hfw, hall⟩ := hrel
    have HFW := hide hfw
    have HALL := hide hall
    clear hfw hall F0
    by_cases hk33 : k < 33
    · have hk33' : (k : Int) < 33 := by omega
      have gn : wr.cell? ⟨w.heap.size, 65, none⟩ = some (.int .i64 (C.length : Int)) := (fw_col HFW.out 65).trans (gridV_n S C hS)
      have hC65 : (C.length : Int) ≤ 65 := by omega
      go_wp2_with fail
      go_loopw [7, 21] (fun v7 v21 wr => v7 = .bool false ∧ ∃ j : Nat, v21 = .int .i64 j ∧ j ≤ S.length ∧ FW w (gridV S C).toArray wr ∧ ∀ i (h : i < S.length), i < j → (Ad.may S[i] k && P S[i] k) = false) (fun _ v21 _ => S.length - (intOf v21).toNat)
      case atStart => exact ⟨rfl, 0, rfl, Nat.zero_le _, HFW.out, fun i _ h => absurd h (Nat.not_lt_zero _)⟩
      case round =>
        obtain ⟨rfl, j, rfl, hj, hfw, hin⟩ := hrel
        have HF2 := hide hfw
        have HIN := hide hin
        clear hfw hin HFW gn
        by_cases hjl : j < S.length
        · have hjl' : (j : Int) < (C.length : Int) := by omega
          have gj : wr.cell? ⟨w.heap.size, j, none⟩ = some (.int .u32 S[j]) := (fw_col HF2.out j).trans (gridV_col S C hS j hjl)
          have hb := hide (HB.out S[j] (List.getElem_mem hjl))
          obtain ⟨c, hc⟩ : ∃ c, c = S[j] := ⟨_, rfl⟩
          rw [← hc] at gj hb
          have hc0 : 0 ≤ c := hb.out.1
          have hc1 : c ≤ 4294967295 := hb.out.2
          have HCC := hide hc
          clear hc
          have SKIP : Hid ((Ad.may c k && P c k) = false → ∀ i (h : i < S.length), i < j + 1 → (Ad.may S[i] k && P S[i] k) = false) := by
            show _ → _
            intro h0 i hi hij
            rcases Nat.lt_succ_iff_lt_or_eq.1 hij with h1 | rfl
            · exact HIN.out i hi h1
            · rw [HCC.out] at h0; exact h0
          cases hm : Ad.may c k
          · go_wp2_with fail
            refine (may_is _ _ _ hm _ hc0 hc1).mono ?_
            rintro e w1 ⟨rfl, hb1⟩
            have H1 := hide (fw_then (fw_alloc HF2.out _) hb1)
            clear hb1
            go_wp2_with fail
            exact ⟨⟨rfl, j + 1, by go_num, by omega, H1.out, SKIP.out (by rw [hm]; rfl)⟩, by simp [intOf] <;> omega⟩
          · obtain ⟨R, hR⟩ : ∃ R, R = wr.heap.size := ⟨_, rfl⟩
            go_wp2_with fail
            refine (may_is _ _ _ hm _ hc0 hc1).mono ?_
            rintro e w1 ⟨rfl, hb1⟩
            have H1 := hide (fw_then (fw_alloc HF2.out _) hb1)
            have T1 := two_below hb1 (n := wr.heap.size) (a := c) (b := (k : Int)) (by simp) (by simp)
            rw [← hR] at T1 ⊢
            obtain ⟨t0, t1, t2, t3⟩ := T1
            have CP := hide (HP.out w1 c k (fw_lo H1.out) hc0 hc1)
            clear hb1 hR
            cases hp : P c k
            · rw [hp] at CP
              go_wp2_with (go_at_fn gf; refine CP.out.mono ?_; rintro e w2 ⟨rfl, hb2⟩)
              exact ⟨⟨rfl, j + 1, by go_num, by omega, fw_then H1.out hb2, SKIP.out (by rw [hm, hp]; rfl)⟩, by simp [intOf] <;> omega⟩
            · rw [hp] at CP
              have HIT : Hid (Found S P c k true) := .inr ⟨rfl, k, j, hjl, hk33, rfl, HCC.out, by rw [← HCC.out, hm, hp]; rfl, HALL.out, HIN.out⟩
              go_wp2_with (go_at_fn gf; refine CP.out.mono ?_; rintro e w2 ⟨rfl, hb2⟩; have H2 := hide (fw_then H1.out hb2); obtain ⟨s0, s1, s2, s3⟩ := two_below hb2 t0 t1; have l0 := fw_least H2.out 0; have l1 := fw_least H2.out 1; have r0 := fw_res H2.out 0; have r1 := fw_res H2.out 1; have f0 := fw_frozen H2.out (w.heap.size + 2) 0 (.inr rfl); have f1 := fw_frozen H2.out (w.heap.size + 2) 1 (.inr rfl); have f2 := fw_frozen H2.out (w.heap.size + 1) 0 (.inl rfl); have f3 := fw_frozen H2.out (w.heap.size + 1) 1 (.inl rfl); simp at l0 l1 r0 r1)
              simp only [Exit.noGoto]
              exact bodyPost_ret (v := .tuple #[.agg #[.int .u32 c, .int .i64 k], .bool true]) (by simp [results, Tryd.results40, go_sem, r0, r1]) rfl ⟨c, k, true, rfl, HIT.out, ((((fw_lo H2.out).setCell (by simp <;> omega) _).setCell (by simp <;> omega) _).setCell (by simp <;> omega) _).setCell (by simp <;> omega) _⟩
        · have hjl' : ¬ (j : Int) < (C.length : Int) := by omega
          have hjE : j = S.length := by omega
          go_wp2_with fail
          refine ⟨⟨rfl, k + 1, by go_num, by omega, HF2.out, fun k' hk' => ?_⟩, by simp [intOf] <;> omega⟩
          rcases Nat.lt_succ_iff_lt_or_eq.1 hk' with h1 | rfl
          · exact HALL.out k' h1
          · intro i hi; exact HIN.out i hi (by omega)
    · have hk33' : ¬ (k : Int) < 33 := by omega
      have l0 := fw_least HFW.out 0
      have l1 := fw_least HFW.out 1
      have r0 := fw_res HFW.out 0
      have r1 := fw_res HFW.out 1
      have f2 := fw_frozen HFW.out (w.heap.size + 1) 0 (.inl rfl)
      have f3 := fw_frozen HFW.out (w.heap.size + 1) 1 (.inl rfl)
      simp at l0 l1 r0 r1
      go_wp2_with fail
      refine bodyPost_ret (v := .tuple #[.agg #[.int .u32 0, .int .i64 0], .bool false]) (by simp [results, Tryd.results40, go_sem, r0, r1]) rfl ⟨0, 0, false, rfl, .inl ⟨rfl, rfl, rfl, fun k' hk' => HALL.out k' (by omega)⟩, ((fw_lo HFW.out).setCell (by simp) _).setCell (by simp) _⟩
end Go.Proofs.YtkpoanjcalolkaaDoor
