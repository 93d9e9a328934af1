/- The contract of ahead, of two numbers by texts. -/
import Derived.Test.YtkfomjinilmjaaaJc
import Derived.Test.YtkfomjinilmjaaaHd
namespace Go.Proofs.Ytkfomjinilmjaaa
open Go.RowKit Go.Maps

/-- A function that tells which rank comes ahead. -/
def LessIs2 (f : Nat) (lt : ByteArray → ByteArray → Bool) : Prop := (∀ (args : Array Value) (w : World), (callFunc f args).run Try.prog w = .ok (.enter f args) w) ∧ ∀ (a b : ByteArray) (w : World), Calls Try.prog f #[.string a, .string b] w fun e w' => e = .returned (.bool (lt a b)) ∧ w' = w
set_option maxHeartbeats 2000000 in
set_option maxRecDepth 100000 in
theorem ahead2_is {lt : ByteArray → ByteArray → Bool} {w : World} {h f : Nat} {R : List RwP} {T : Int} {φ : Int × Int → Option Nat} {ao : Option Addr} {cap m n : Nat} (H : Hm2 w h f R T φ ao cap m n) (LI : LessIs2 f lt) {i j : Nat} {a b : RwP} (hi : R[i]? = some a) (hj : R[j]? = some b) (_hR : R.length ≤ 1000) :
    Calls Try.prog 59 #[.pointer (some ⟨h, 0, none⟩), .int .i64 i, .int .i64 j] w fun e w' => e = .returned (.bool (ahd lt a b)) ∧ Below w.heap.size w w' := by
  obtain ⟨c0, c1, c2, c3, _⟩ := four_cells H.top
  obtain ⟨g, rfl, a0, a1, a2, a3, _⟩ := H.at hi
  obtain ⟨g', e, b0, b1, b2, b3, _⟩ := H.at hj
  cases e
  have hil : (i : Int) < (R.length : Int) := by have := get_lt hi; omega
  have hjl : (j : Int) < (R.length : Int) := by have := get_lt hj; omega
  have hgl := H.lt h (.inl rfl)
  have hgl2 := H.lt g (.inr (.inr ⟨_, rfl, rfl⟩))
  clear H hi hj
  obtain ⟨⟨ak, ak2⟩, ar, at'⟩ := a
  obtain ⟨⟨bk, bk2⟩, br, bt⟩ := b
  simp only at a0 a1 a2 a3 b0 b1 b2 b3
  go_enter Try.func59, Try.ntmps59
  go_wp2_with fail
  go_region
  · obtain ⟨x1, x2, hb⟩ := two_boxes w (.cells #[.int .i64 ak, .int .i64 ak2, .string ar, .int .i64 at'] 82) (.cells #[.int .i64 bk, .int .i64 bk2, .string br, .int .i64 bt] 82)
    generalize ((w.alloc (.cells #[.int .i64 ak, .int .i64 ak2, .string ar, .int .i64 at'] 82)).alloc (.cells #[.int .i64 bk, .int .i64 bk2, .string br, .int .i64 bt] 82)).drew = W at *
    generalize w.heap.size + 1 = B at *
    have HB := hide hb
    have c0' := (hb.cell (p := ⟨h, 0, none⟩) hgl).trans c0
    obtain ⟨a0, a1, a2, a3, _⟩ := four_cells x1
    obtain ⟨b0, b1, b2, b3, _⟩ := four_cells x2
    clear hb x1 x2 c0 c1 c2 c3 hgl2
    have HA := hide (show ahd lt (⟨(ak, ak2), ar, at'⟩ : RwP) ⟨(bk, bk2), br, bt⟩ = (lt ar br || (!lt br ar && decide (at' < bt))) from rfl)
    have L1 := LI.2 ar br
    have L2 := LI.2 br ar
    have hcf := LI.1
    cases h1 : lt ar br
    · rw [h1] at L1 HA
      have L1 := hide L1
      cases h2 : lt br ar
      · rw [h2] at L2 HA
        have L2 := hide L2
        clear LI h1 h2
        go_wp2_with fail
        go_quiet (exact Calls.quiet_of_same (L1.out _))
        go_wp2_with fail
        have HB2 := hide (below_drewN HB.out nq)
        have q : ∀ a, (W.drewN nq).cell? a = W.cell? a := fun _ => rfl
        rw [← q] at a0 a1 a2 a3 b0 b1 b2 b3 c0'
        clear q HB
        generalize W.drewN nq = W2 at *
        go_quiet (exact Calls.quiet_of_same (L2.out _))
        go_wp2_with fail
        go_ret
        exact ⟨by rw [HA.out]; simp, below_drewN HB2.out _⟩
      · rw [h2] at L2 HA
        have L2 := hide L2
        clear LI h1 h2
        go_wp2_with fail
        go_quiet (exact Calls.quiet_of_same (L1.out _))
        go_wp2_with fail
        have HB2 := hide (below_drewN HB.out nq)
        have q : ∀ a, (W.drewN nq).cell? a = W.cell? a := fun _ => rfl
        rw [← q] at a0 a1 a2 a3 b0 b1 b2 b3 c0'
        clear q HB
        generalize W.drewN nq = W2 at *
        go_quiet (exact Calls.quiet_of_same (L2.out _))
        go_wp2_with fail
        go_ret
        exact ⟨by rw [HA.out]; simp, below_drewN HB2.out _⟩
    · rw [h1] at L1 HA
      have L1 := hide L1
      clear LI h1 L2
      go_wp2_with fail
      go_quiet (exact Calls.quiet_of_same (L1.out _))
      go_wp2_with fail
      go_ret
      exact ⟨by rw [HA.out]; simp, below_drewN HB.out _⟩
  · obtain ⟨x2, x1, hb⟩ := two_boxes w (.cells #[.int .i64 bk, .int .i64 bk2, .string br, .int .i64 bt] 82) (.cells #[.int .i64 ak, .int .i64 ak2, .string ar, .int .i64 at'] 82)
    generalize ((w.alloc (.cells #[.int .i64 bk, .int .i64 bk2, .string br, .int .i64 bt] 82)).alloc (.cells #[.int .i64 ak, .int .i64 ak2, .string ar, .int .i64 at'] 82)).drew = W at *
    generalize w.heap.size + 1 = B at *
    have HB := hide hb
    have c0' := (hb.cell (p := ⟨h, 0, none⟩) hgl).trans c0
    obtain ⟨a0, a1, a2, a3, _⟩ := four_cells x1
    obtain ⟨b0, b1, b2, b3, _⟩ := four_cells x2
    clear hb x1 x2 c0 c1 c2 c3 hgl2
    have HA := hide (show ahd lt (⟨(ak, ak2), ar, at'⟩ : RwP) ⟨(bk, bk2), br, bt⟩ = (lt ar br || (!lt br ar && decide (at' < bt))) from rfl)
    have L1 := LI.2 ar br
    have L2 := LI.2 br ar
    have hcf := LI.1
    cases h1 : lt ar br
    · rw [h1] at L1 HA
      have L1 := hide L1
      cases h2 : lt br ar
      · rw [h2] at L2 HA
        have L2 := hide L2
        clear LI h1 h2
        go_wp2_with fail
        go_quiet (exact Calls.quiet_of_same (L1.out _))
        go_wp2_with fail
        have HB2 := hide (below_drewN HB.out nq)
        have q : ∀ a, (W.drewN nq).cell? a = W.cell? a := fun _ => rfl
        rw [← q] at a0 a1 a2 a3 b0 b1 b2 b3 c0'
        clear q HB
        generalize W.drewN nq = W2 at *
        go_quiet (exact Calls.quiet_of_same (L2.out _))
        go_wp2_with fail
        go_ret
        exact ⟨by rw [HA.out]; simp, below_drewN HB2.out _⟩
      · rw [h2] at L2 HA
        have L2 := hide L2
        clear LI h1 h2
        go_wp2_with fail
        go_quiet (exact Calls.quiet_of_same (L1.out _))
        go_wp2_with fail
        have HB2 := hide (below_drewN HB.out nq)
        have q : ∀ a, (W.drewN nq).cell? a = W.cell? a := fun _ => rfl
        rw [← q] at a0 a1 a2 a3 b0 b1 b2 b3 c0'
        clear q HB
        generalize W.drewN nq = W2 at *
        go_quiet (exact Calls.quiet_of_same (L2.out _))
        go_wp2_with fail
        go_ret
        exact ⟨by rw [HA.out]; simp, below_drewN HB2.out _⟩
    · rw [h1] at L1 HA
      have L1 := hide L1
      clear LI h1 L2
      go_wp2_with fail
      go_quiet (exact Calls.quiet_of_same (L1.out _))
      go_wp2_with fail
      go_ret
      exact ⟨by rw [HA.out]; simp, below_drewN HB.out _⟩
end Go.Proofs.Ytkfomjinilmjaaa
