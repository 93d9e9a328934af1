import Derived.Test.YtechocnednepiaaGd
import Derived.Deep.RegionHeldLaw
/- The law's same. -/
namespace Go.Proofs.Ytechocnednepiaa
open Go.RowKit

theorem one_next (W : World) (o : Obj) (v : Value) (ty : TypeId) : ((W.alloc o).alloc (.cells #[v] ty)).heap[W.heap.size + 1]? = some (.cells #[v] ty (0, 0)) := by
  have := heap_alloc_new (W.alloc o) (.cells #[v] ty)
  rw [size_alloc] at this
  exact this
set_option maxHeartbeats 8000000 in
set_option maxRecDepth 100000 in
theorem same_is {w0 w : World} {T : Nat} {t : Nt} {ao : Option Addr} {cap : Nat} {l : Prs} (hS : St w0 w T t ao cap l) (hlen : l.length ≤ 1000) :
    Calls Try.prog 11 #[.pointer (some ⟨T, 0, none⟩), .slice ao l.length cap] w fun e w' => e = .returned (.bool true) ∧ Below w.heap.size w w' := by
  have HB0 := hide (balloc (brefl w) (.cells #[.slice ao l.length cap] 25))
  have L0 := hide (heap_alloc_new w (.cells #[.slice ao l.length cap] 25))
  have CL := hide (fun W (hW : Below w.heap.size w W) => len_is (hS.next hW).tri)
  rw [hS.len] at CL
  have ST := hide hS
  clear hS
  go_enter Try.func11, Try.ntmps11
  go_wp2_with fail
  generalize w.alloc (.cells #[.slice ao l.length cap] 25) = W at *
  have l0 := cell_of_one L0.out
  have hLl : w.heap.size < W.heap.size := lt_of_block L0.out
  have hLn : W.heap.size ≠ w.heap.size := by omega
  have hLn1 : W.heap.size + 1 ≠ w.heap.size := by omega
  have CEA := hide (same_each ST.out hlen (balloc (balloc HB0.out (.cells #[.int .i64 0] 3)) (.cells #[.bool true] 4)).drew (K := W.heap.size + 1) (J := W.heap.size) (L := w.heap.size) (one_next W _ _ _) ((heap_alloc_lt _ _ _ (by rw [size_alloc]; omega)).trans (heap_alloc_new _ _)) (((heap_alloc_lt _ _ _ (by rw [size_alloc]; omega)).trans (heap_alloc_lt _ _ _ hLl)).trans L0.out) (by omega) (by omega))
  have CEB := hide (same_each ST.out hlen (balloc (balloc HB0.out (.cells #[.bool true] 4)) (.cells #[.int .i64 0] 3)).drew (K := W.heap.size) (J := W.heap.size + 1) (L := w.heap.size) ((heap_alloc_lt _ _ _ (by rw [size_alloc]; omega)).trans (heap_alloc_new _ _)) (one_next W _ _ _) (((heap_alloc_lt _ _ _ (by rw [size_alloc]; omega)).trans (heap_alloc_lt _ _ _ hLl)).trans L0.out) (by omega) (by omega))
  go_region_held_law (fun w' => w'.cell? ⟨w.heap.size, 0, none⟩ = some (.slice ao l.length cap)) (go_keep)
    (first | (go_simp; go_wp2_with (go_at_call 21; refine (CL.out _ (by first | exact HB0.out.drew | exact (balloc HB0.out _).drew | exact (balloc (balloc HB0.out _) _).drew)).mono ?_; rintro e wa ⟨rfl, hwa⟩; have hwa' := hwa.symm; clear hwa; subst hwa')))
  · skip
    go_wp2_with fail
    refine CEA.out.mono ?_
    rintro e w5 ⟨rfl, hb5, k5, j5, l5⟩
    have B5 := hide hb5
    clear hb5
    go_wp2_with fail
    go_ret
    exact ⟨by simp, B5.out⟩
  · skip
    go_wp2_with fail
    refine CEB.out.mono ?_
    rintro e w5 ⟨rfl, hb5, k5, j5, l5⟩
    have B5 := hide hb5
    clear hb5
    go_wp2_with fail
    go_ret
    exact ⟨by simp, B5.out⟩
  · skip
    go_wp2_with fail
    refine CEA.out.mono ?_
    rintro e w5 ⟨rfl, hb5, k5, j5, l5⟩
    have B5 := hide hb5
    clear hb5
    go_wp2_with fail
    go_ret
    exact ⟨by simp, B5.out⟩
  · skip
    go_wp2_with fail
    refine CEA.out.mono ?_
    rintro e w5 ⟨rfl, hb5, k5, j5, l5⟩
    have B5 := hide hb5
    clear hb5
    go_wp2_with fail
    go_ret
    exact ⟨by simp, B5.out⟩
  · skip
    go_wp2_with fail
    refine CEB.out.mono ?_
    rintro e w5 ⟨rfl, hb5, k5, j5, l5⟩
    have B5 := hide hb5
    clear hb5
    go_wp2_with fail
    go_ret
    exact ⟨by simp, B5.out⟩
  · skip
    go_wp2_with fail
    refine CEB.out.mono ?_
    rintro e w5 ⟨rfl, hb5, k5, j5, l5⟩
    have B5 := hide hb5
    clear hb5
    go_wp2_with fail
    go_ret
    exact ⟨by simp, B5.out⟩
end Go.Proofs.Ytechocnednepiaa
