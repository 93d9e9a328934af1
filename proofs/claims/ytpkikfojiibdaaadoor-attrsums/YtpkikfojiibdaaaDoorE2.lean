/- The document's numbers of reflectors, and which attributes may be. -/
import Derived.Test.YtpkikfojiibdaaaDoorE1
namespace Go.Proofs.YtpkikfojiibdaaaDoor
open Go.RowKit

set_option maxHeartbeats 4000000 in
set_option maxRecDepth 100000 in
theorem refClusters_is (ao : Option Addr) (ca : Nat) (l : List Int) (r : Bool) (hr : Cl.ok l = r) (w : World) (hA : Is.slot w ao l) (hl : l.length ≤ 1000) :
    Calls Tryd.prog 32 #[.slice ao l.length ca] w fun e w' => e = .returned (.bool r) ∧ Below w.heap.size w w' := by
  have HS := hide hA
  have HR := hide hr
  clear hA hr
  go_enter Tryd.func32, Tryd.ntmps32
  go_wp2_with fail
  go_loopw [3, 4] (fun v3 _ wr => ∃ i : Nat, v3 = .int .i64 i ∧ i ≤ l.length ∧ i ≤ 8 ∧ Hid (∀ j (h : j < l.length), j < i → Is.as l[j] = true) ∧ Hid (∀ i' k (hi : i' < l.length) (hk : k < i'), i' < i → l[k]'(by omega) ≠ l[i']) ∧ Below w.heap.size w wr) (fun v3 _ _ => l.length - (intOf v3).toNat)
  case atStart => exact ⟨0, rfl, Nat.zero_le _, by decide, hide fun _ _ h => absurd h (Nat.not_lt_zero _), hide fun _ _ _ _ h => absurd h (Nat.not_lt_zero _), brefl w⟩
  case round =>
    obtain ⟨i, rfl, hi, hi8, HAS, HI, hbr⟩ := hrel
    have HBR := hide hbr
    clear hbr
    by_cases hil : i < l.length
    · have hil' : (i : Int) < (l.length : Int) := by omega
      by_cases h8 : i = 8
      · subst h8
        have HN := hide (HR.out.symm.trans (Cl.no_len hil))
        go_wp2_with fail
        go_ret
        exact ⟨ret_bool HN.out.symm, HBR.out⟩
      have h8' : ¬ (8 : Int) ≤ (i : Int) := by omega
      obtain ⟨b, off, rfl, hrd⟩ := Is.slot_at (Is.slot_below HS.out HBR.out) hil
      have RD := hide hrd
      have e0 := hrd i hil
      clear hrd
      cases has : Is.as l[i]
      · have HN := hide (HR.out.symm.trans (Cl.no_as hil has))
        have CA := hide (fun W => refAS_is l[i] false has W)
        clear has
        generalize l[i] = y at e0 CA
        go_wp2_with fail
        refine (CA.out _).mono ?_
        rintro e w2 ⟨rfl, rfl⟩
        go_wp2_with fail
        go_ret
        exact ⟨ret_bool HN.out.symm, HBR.out⟩
      have CA := hide (fun W => refAS_is l[i] true has W)
      have HASI := hide has
      clear has
      generalize hy : l[i] = y at e0 CA
      clear hy
      go_wp2_with fail
      refine (CA.out _).mono ?_
      rintro e w2 ⟨rfl, hw⟩
      subst w2
      go_wp2_with fail
      obtain ⟨wA, hwA⟩ : ∃ x, x = wr := ⟨_, rfl⟩
      subst hwA
      clear e0 CA
      go_loopw [4] (fun v4 wq => ∃ k : Nat, v4 = .int .i64 k ∧ k ≤ i ∧ Hid (∀ k' (hk : k' < i), k' < k → l[k']'(by omega) ≠ l[i]) ∧ Below wA.heap.size wA wq) (fun v4 _ => i - (intOf v4).toNat)
      case atStart => exact ⟨0, rfl, Nat.zero_le _, hide fun k _ h => absurd h (Nat.not_lt_zero _), brefl _⟩
      case round =>
        obtain ⟨k, rfl, hk, HK, hbq⟩ := hrel
        have HBQ := hide hbq
        clear hbq
        by_cases hki : k < i
        · have hki' : (k : Int) < (i : Int) := by omega
          have hkl : k < l.length := by omega
          have hkl' : (k : Int) < (l.length : Int) := by omega
          have e0 := (Is.reads_below RD.out HBQ.out) i hil
          have e1 := (Is.reads_below RD.out HBQ.out) k hkl
          have HY := hide (Cl.no_two hil hki)
          generalize hu : l[i] = u at e0 HY
          generalize hv : l[k] = v at e1 HY
          have HUV : Hid (v ≠ u → l[k] ≠ l[i]) := by show _ → _; rw [hu, hv]; exact id
          have HU := hide hu
          clear hu hv
          have r0 := fun dd os => cell_regrown e0 dd os
          have r1 := fun dd os => cell_regrown e1 dd os
          by_cases huv : v = u
          · have HN := hide (HR.out.symm.trans (HY.out huv))
            subst huv
            clear HY HUV
            go_wp2_with fail
            refine wp_region_quiet_below (by kernel_rfl) (by kernel_rfl) ?_
            repeat (go_big_quiet_step (fail))
            refine wpQuiet_nil ?_
            rintro _ ⟨⟨dd, os⟩, rfl⟩
            have hb2 := below_regrown wr dd os
            generalize Sort.grow (redrawn wr dd) os = w2 at hb2
            have B2 := hide (bthen HBR.out (bthen HBQ.out hb2))
            clear hb2 r0 r1 e0 e1
            go_wp2_with fail
            go_ret
            exact ⟨ret_bool HN.out.symm, B2.out⟩
          · have HN := hide (HUV.out huv)
            have huv' : (v == u) = false := by simpa using huv
            clear HY HUV
            go_wp2_with fail
            refine wp_region_quiet_below (by kernel_rfl) (by kernel_rfl) ?_
            repeat (go_big_quiet_step (fail))
            refine wpQuiet_nil ?_
            rintro _ ⟨⟨dd, os⟩, rfl⟩
            have hb2 := below_regrown wr dd os
            generalize Sort.grow (redrawn wr dd) os = w2 at hb2
            have B2 := hide (bthen HBQ.out hb2)
            clear hb2 r0 r1 e0 e1
            go_wp2_with fail
            refine ⟨⟨k + 1, by go_num, by omega, hide fun k' hk' h => ?_, B2.out⟩, by simp [intOf] <;> omega⟩
            rcases Nat.lt_or_ge k' k with h1 | h1
            · rw [← HU.out]
              exact HK.out k' hk' h1
            · obtain rfl : k' = k := by omega
              rw [← HU.out]
              exact HN.out
        · obtain rfl : k = i := by omega
          go_wp2_with fail
          refine ⟨⟨k + 1, by go_num, by omega, by omega, hide fun j hj h => ?_, hide fun i' k' hi' hk' h => ?_, bthen HBR.out HBQ.out⟩, by simp [intOf] <;> omega⟩
          · rcases Nat.lt_or_ge j k with h1 | h1
            · exact HAS.out j hj h1
            · obtain rfl : j = k := by omega
              exact HASI.out
          · rcases Nat.lt_or_ge i' k with h1 | h1
            · exact HI.out i' k' hi' hk' h1
            · obtain rfl : i' = k := by omega
              exact HK.out k' hk' hk'
    · obtain rfl : i = l.length := by omega
      have HN := hide (HR.out.symm.trans ((Cl.ok_iff l).2 ⟨hi8, fun j hj => HAS.out j hj hj, fun i k hi hk => HI.out i k hi hk hi⟩))
      go_wp2_with fail
      go_ret
      exact ⟨ret_bool HN.out.symm, HBR.out⟩
/-- What of attributes is numbers may be. -/
def At.nums (a b c f : Int) : Bool := decide (0 ≤ a ∧ a ≤ 1048576 ∧ 0 ≤ b ∧ b ≤ 1048576 ∧ 0 ≤ c ∧ c ≤ 2 ∧ 0 ≤ f ∧ f ≤ 65535)
theorem At.may_eq (a : At) : At.may a = (At.nums a.pf a.md a.og a.fr && (Is.may a.path && (Cm.Co.set a.comms && Cl.ok a.cl))) := rfl
theorem nums_cases (a b c f : Int) : (At.nums a b c f = true ∧ ¬ a < 0 ∧ ¬ 1048576 < a ∧ ¬ b < 0 ∧ ¬ 1048576 < b ∧ ¬ c < 0 ∧ ¬ 2 < c ∧ ¬ f < 0 ∧ ¬ 65535 < f) ∨ (At.nums a b c f = false ∧ (a < 0 ∨ (¬ a < 0 ∧ 1048576 < a) ∨ (¬ a < 0 ∧ ¬ 1048576 < a ∧ b < 0) ∨ (¬ a < 0 ∧ ¬ 1048576 < a ∧ ¬ b < 0 ∧ 1048576 < b) ∨ (¬ a < 0 ∧ ¬ 1048576 < a ∧ ¬ b < 0 ∧ ¬ 1048576 < b ∧ c < 0) ∨ (¬ a < 0 ∧ ¬ 1048576 < a ∧ ¬ b < 0 ∧ ¬ 1048576 < b ∧ ¬ c < 0 ∧ 2 < c) ∨ (¬ a < 0 ∧ ¬ 1048576 < a ∧ ¬ b < 0 ∧ ¬ 1048576 < b ∧ ¬ c < 0 ∧ ¬ 2 < c ∧ f < 0) ∨ (¬ a < 0 ∧ ¬ 1048576 < a ∧ ¬ b < 0 ∧ ¬ 1048576 < b ∧ ¬ c < 0 ∧ ¬ 2 < c ∧ ¬ f < 0 ∧ 65535 < f))) := by
  unfold At.nums
  by_cases h : 0 ≤ a ∧ a ≤ 1048576 ∧ 0 ≤ b ∧ b ≤ 1048576 ∧ 0 ≤ c ∧ c ≤ 2 ∧ 0 ≤ f ∧ f ≤ 65535
  · exact .inl ⟨decide_eq_true h, by omega, by omega, by omega, by omega, by omega, by omega, by omega, by omega⟩
  · refine .inr ⟨decide_eq_false h, ?_⟩
    omega
end Go.Proofs.YtpkikfojiibdaaaDoor
