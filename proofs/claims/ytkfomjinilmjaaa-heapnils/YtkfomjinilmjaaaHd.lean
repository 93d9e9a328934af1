/- The contracts of a heap's find and ahead. -/
import Derived.Test.YtkfomjinilmjaaaHc
import Derived.BigRegion
namespace Go.Proofs.Ytkfomjinilmjaaa
open Go.RowKit Go.Maps

theorem recov (w : World) : CallsD Try.prog 48 #[] .returning w fun e u' w' => e = .returned (.tuple #[]) ∧ u' = .returning ∧ w' = w := by
  refine callsD_of_wpS Try.func48 rfl fun c₀ cs hu => ?_
  apply wpS_region
  simp [wpOpsS, go_sem, recoverD, hu, Try.ntmps48, bodyPostS, results, Try.results48]
  cases c₀
  simp_all
set_option maxRecDepth 100000 in
theorem find_is {w : World} {h f : Nat} {R : List RwS} {T : Int} {φ : ByteArray → Option Nat} {ao : Option Addr} {cap m n : Nat} (H : Hm w h f R T φ ao cap m n) {k : ByteArray} (hk : k.size ≤ 200) :
    Calls Try.prog 36 #[.pointer (some ⟨h, 0, none⟩), .string k] w fun e w' => e = .returned (.tuple #[.int .i64 ((φ k).getD 0 : Nat), .bool (φ k).isSome, .bool true]) ∧ w' = w := by
  obtain ⟨c0, c1, c2, c3, _⟩ := four_cells H.top
  obtain ⟨D, hown, hl⟩ := H.mp
  have HL := hide (hl k hk)
  have HO := hide hown
  clear H hl hown
  go_enter_defers Try.func36, Try.ntmps36
  go_wp2_with (at_lookup; refine wpList_lookup_own_ok_int _ rfl _ _ 63 rfl 9 3 .i64 klaw Try.underlying63 Try.underlying3 (zeroI _) m n D rfl HO.out _ _ rfl (hkey hk) ?_; intro c hat hwc)
  refine leaves_cons (f := 48) (args := #[]) (by simp) (by simp [go_sem]) ?_
  refine (recov _).mono ?_
  rintro e u' w'' ⟨rfl, rfl, rfl⟩
  have hc : c = (((φ k).getD 0 : Nat) : Int) := by
    cases e : φ k with
    | none =>
      have h1 := HL.out.1
      rw [e] at h1
      rw [atKey_of_not_has h1] at hat
      simp at hat
      simp [hat]
    | some i =>
      have h1 := HL.out.2 i e
      rw [h1] at hat
      simp at hat
      simp [hat]
  subst hc
  have h1 := HL.out.1
  rw [h1]
  simp [Leaves, settle, results, Try.results36, go_sem]
theorem two_boxes (w : World) (A B : Obj) : ((w.alloc A).alloc B).drew.heap[w.heap.size]? = some A ∧ ((w.alloc A).alloc B).drew.heap[w.heap.size + 1]? = some B ∧ Below w.heap.size w ((w.alloc A).alloc B).drew := by
  refine ⟨?_, ?_, (balloc (balloc (brefl w) A) B).drew⟩
  · show ((w.alloc A).alloc B).heap[w.heap.size]? = some A
    rw [heap_alloc_lt _ _ _ (by rw [size_alloc]; omega)]
    exact heap_alloc_new w A
  · show ((w.alloc A).alloc B).heap[w.heap.size + 1]? = some B
    have := heap_alloc_new (w.alloc A) B
    rw [size_alloc] at this
    exact this
theorem three_cells {w : World} {b y : Nat} {x0 x1 x2 : Value} (h : w.heap[b]? = some (.cells #[x0, x1, x2] y (0, 0))) :
    w.cell? ⟨b, 0, none⟩ = some x0 ∧ w.cell? ⟨b, 1, none⟩ = some x1 ∧ w.cell? ⟨b, 2, none⟩ = some x2 :=
  ⟨by rw [cell_of_row w b 0 _ y _ h]; rfl, by rw [cell_of_row w b 1 _ y _ h]; rfl, by rw [cell_of_row w b 2 _ y _ h]; rfl⟩
theorem below_drewN {B : Nat} {w W : World} (h : Below B w W) (n : Nat) : Below B w (W.drewN n) := ⟨h.os, h.tape, h.output, h.size, h.block⟩
/-- A function that tells which rank comes ahead. -/
def LessIs (f : Nat) (lt : Int → Int → Bool) : Prop := (∀ (args : Array Value) (w : World), (callFunc f args).run Try.prog w = .ok (.enter f args) w) ∧ ∀ (a b : Int) (w : World), Calls Try.prog f #[.int .i64 a, .int .i64 b] w fun e w' => e = .returned (.bool (lt a b)) ∧ w' = w
set_option maxHeartbeats 2000000 in
set_option maxRecDepth 100000 in
theorem ahead_is {lt : Int → Int → Bool} {w : World} {h f : Nat} {R : List RwS} {T : Int} {φ : ByteArray → Option Nat} {ao : Option Addr} {cap m n : Nat} (H : Hm w h f R T φ ao cap m n) (LI : LessIs f lt) {i j : Nat} {a b : RwS} (hi : R[i]? = some a) (hj : R[j]? = some b) (_hR : R.length ≤ 1000) :
    Calls Try.prog 57 #[.pointer (some ⟨h, 0, none⟩), .int .i64 i, .int .i64 j] w fun e w' => e = .returned (.bool (ahd lt a b)) ∧ Below w.heap.size w w' := by
  obtain ⟨c0, c1, c2, c3, _⟩ := four_cells H.top
  obtain ⟨g, rfl, a0, a1, a2, _⟩ := H.at hi
  obtain ⟨g', e, b0, b1, b2, _⟩ := H.at hj
  cases e
  have hil : (i : Int) < (R.length : Int) := by have := get_lt hi; omega
  have hjl : (j : Int) < (R.length : Int) := by have := get_lt hj; omega
  have hgl := H.lt h (.inl rfl)
  have hgl2 := H.lt g (.inr (.inr ⟨_, rfl, rfl⟩))
  clear H hi hj
  obtain ⟨ak, ar, at'⟩ := a
  obtain ⟨bk, br, bt⟩ := b
  simp only at a0 a1 a2 b0 b1 b2
  go_enter Try.func57, Try.ntmps57
  go_wp2_with fail
  go_region
  · obtain ⟨x1, x2, hb⟩ := two_boxes w (.cells #[.string ak, .int .i64 ar, .int .i64 at'] 70) (.cells #[.string bk, .int .i64 br, .int .i64 bt] 70)
    generalize ((w.alloc (.cells #[.string ak, .int .i64 ar, .int .i64 at'] 70)).alloc (.cells #[.string bk, .int .i64 br, .int .i64 bt] 70)).drew = W at *
    generalize w.heap.size + 1 = B at *
    have HB := hide hb
    have c0' := (hb.cell (p := ⟨h, 0, none⟩) hgl).trans c0
    obtain ⟨a0, a1, a2⟩ := three_cells x1
    obtain ⟨b0, b1, b2⟩ := three_cells x2
    clear hb x1 x2 c0 c1 c2 c3 hgl2
    have HA := hide (show ahd lt (⟨ak, ar, at'⟩ : RwS) ⟨bk, br, bt⟩ = (lt ar br || (!lt br ar && decide (at' < bt))) from rfl)
    have L1 := LI.2 ar br
    have L2 := LI.2 br ar
    have hcf := LI.1
    cases h1 : lt ar br
    · rw [h1] at L1 HA
      have L1 := hide L1
      cases h2 : lt br ar
      · rw [h2] at L2 HA
        have L2 := hide L2
        clear LI h1 h2
        go_wp2_with fail
        go_quiet (exact Calls.quiet_of_same (L1.out _))
        go_wp2_with fail
        have HB2 := hide (below_drewN HB.out nq)
        have q : ∀ a, (W.drewN nq).cell? a = W.cell? a := fun _ => rfl
        rw [← q] at a0 a1 a2 b0 b1 b2 c0'
        clear q HB
        generalize W.drewN nq = W2 at *
        go_quiet (exact Calls.quiet_of_same (L2.out _))
        go_wp2_with fail
        go_ret
        exact ⟨by rw [HA.out]; simp, below_drewN HB2.out _⟩
      · rw [h2] at L2 HA
        have L2 := hide L2
        clear LI h1 h2
        go_wp2_with fail
        go_quiet (exact Calls.quiet_of_same (L1.out _))
        go_wp2_with fail
        have HB2 := hide (below_drewN HB.out nq)
        have q : ∀ a, (W.drewN nq).cell? a = W.cell? a := fun _ => rfl
        rw [← q] at a0 a1 a2 b0 b1 b2 c0'
        clear q HB
        generalize W.drewN nq = W2 at *
        go_quiet (exact Calls.quiet_of_same (L2.out _))
        go_wp2_with fail
        go_ret
        exact ⟨by rw [HA.out]; simp, below_drewN HB2.out _⟩
    · rw [h1] at L1 HA
      have L1 := hide L1
      clear LI h1 L2
      go_wp2_with fail
      go_quiet (exact Calls.quiet_of_same (L1.out _))
      go_wp2_with fail
      go_ret
      exact ⟨by rw [HA.out]; simp, below_drewN HB.out _⟩
  · obtain ⟨x2, x1, hb⟩ := two_boxes w (.cells #[.string bk, .int .i64 br, .int .i64 bt] 70) (.cells #[.string ak, .int .i64 ar, .int .i64 at'] 70)
    generalize ((w.alloc (.cells #[.string bk, .int .i64 br, .int .i64 bt] 70)).alloc (.cells #[.string ak, .int .i64 ar, .int .i64 at'] 70)).drew = W at *
    generalize w.heap.size + 1 = B at *
    have HB := hide hb
    have c0' := (hb.cell (p := ⟨h, 0, none⟩) hgl).trans c0
    obtain ⟨a0, a1, a2⟩ := three_cells x1
    obtain ⟨b0, b1, b2⟩ := three_cells x2
    clear hb x1 x2 c0 c1 c2 c3 hgl2
    have HA := hide (show ahd lt (⟨ak, ar, at'⟩ : RwS) ⟨bk, br, bt⟩ = (lt ar br || (!lt br ar && decide (at' < bt))) from rfl)
    have L1 := LI.2 ar br
    have L2 := LI.2 br ar
    have hcf := LI.1
    cases h1 : lt ar br
    · rw [h1] at L1 HA
      have L1 := hide L1
      cases h2 : lt br ar
      · rw [h2] at L2 HA
        have L2 := hide L2
        clear LI h1 h2
        go_wp2_with fail
        go_quiet (exact Calls.quiet_of_same (L1.out _))
        go_wp2_with fail
        have HB2 := hide (below_drewN HB.out nq)
        have q : ∀ a, (W.drewN nq).cell? a = W.cell? a := fun _ => rfl
        rw [← q] at a0 a1 a2 b0 b1 b2 c0'
        clear q HB
        generalize W.drewN nq = W2 at *
        go_quiet (exact Calls.quiet_of_same (L2.out _))
        go_wp2_with fail
        go_ret
        exact ⟨by rw [HA.out]; simp, below_drewN HB2.out _⟩
      · rw [h2] at L2 HA
        have L2 := hide L2
        clear LI h1 h2
        go_wp2_with fail
        go_quiet (exact Calls.quiet_of_same (L1.out _))
        go_wp2_with fail
        have HB2 := hide (below_drewN HB.out nq)
        have q : ∀ a, (W.drewN nq).cell? a = W.cell? a := fun _ => rfl
        rw [← q] at a0 a1 a2 b0 b1 b2 c0'
        clear q HB
        generalize W.drewN nq = W2 at *
        go_quiet (exact Calls.quiet_of_same (L2.out _))
        go_wp2_with fail
        go_ret
        exact ⟨by rw [HA.out]; simp, below_drewN HB2.out _⟩
    · rw [h1] at L1 HA
      have L1 := hide L1
      clear LI h1 L2
      go_wp2_with fail
      go_quiet (exact Calls.quiet_of_same (L1.out _))
      go_wp2_with fail
      go_ret
      exact ⟨by rw [HA.out]; simp, below_drewN HB.out _⟩
end Go.Proofs.Ytkfomjinilmjaaa
