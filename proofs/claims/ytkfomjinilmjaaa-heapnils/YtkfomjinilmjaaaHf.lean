/- The contract of a heap's swap. -/
import Derived.Test.YtkfomjinilmjaaaHe
namespace Go.Proofs.Ytkfomjinilmjaaa
open Go.RowKit Go.Maps

set_option maxHeartbeats 2000000 in
set_option maxRecDepth 100000 in
theorem swap_is {w : World} {h f : Nat} {R : List RwS} {T : Int} {φ : ByteArray → Option Nat} {ao : Option Addr} {cap m n : Nat} (H : Hm w h f R T φ ao cap m n) (hI : Idx R φ) {i j : Nat} {a b : RwS} (hi : R[i]? = some a) (hj : R[j]? = some b) (_hne : i ≠ j) (hR : R.length ≤ 1000) (hn : n ≤ 100000) :
    Calls Try.prog 58 #[.pointer (some ⟨h, 0, none⟩), .int .i64 i, .int .i64 j] w fun e w' => e = .returned (.tuple #[]) ∧ Hm w' h f ((R.set i b).set j a) T (upd (upd φ b.k (some i)) a.k (some j)) ao cap m n ∧ Keep (Own h m ao) w w' := by
  have HS := hide (And.intro (H.sm a (List.mem_iff_getElem?.2 ⟨i, hi⟩)) (H.sm b (List.mem_iff_getElem?.2 ⟨j, hj⟩)))
  have HL : Hid (∀ W, Below w.heap.size w W → Calls Try.prog 37 #[.pointer (some ⟨h, 0, none⟩), .int .i64 i, .agg #[.string b.k, .int .i64 b.r, .int .i64 b.t]] W fun e w' => e = .returned (.tuple #[]) ∧ Hm w' h f (R.set i b) T (upd φ b.k (some i)) ao cap m n ∧ Keep (Own h m ao) W w') := fun W hW =>
    lay_is (H.below hW) (get_lt hi) b HS.out.2 hR (Nat.le_refl _) (fun e => by rw [hI.1 j b hj] at e; cases e) hn
  have HL2 : Hid (∀ W, Hm W h f (R.set i b) T (upd φ b.k (some i)) ao cap m n → Calls Try.prog 37 #[.pointer (some ⟨h, 0, none⟩), .int .i64 j, .agg #[.string a.k, .int .i64 a.r, .int .i64 a.t]] W fun e w' => e = .returned (.tuple #[]) ∧ Hm w' h f ((R.set i b).set j a) T (upd (upd φ b.k (some i)) a.k (some j)) ao cap m n ∧ Keep (Own h m ao) W w') := fun W hW =>
    lay_is hW (by rw [List.length_set]; exact get_lt hj) a HS.out.1 (by rw [List.length_set]; exact hR) (Nat.le_refl _) (fun e => by
      unfold upd at e
      split at e
      · cases e
      · rw [hI.1 i a hi] at e; cases e) hn
  have HLT := hide H.lt
  obtain ⟨c0, c1, c2, c3, _⟩ := four_cells H.top
  obtain ⟨g, rfl, a0, a1, a2, _⟩ := H.at hi
  obtain ⟨g', e, b0, b1, b2, _⟩ := H.at hj
  cases e
  have hil : (i : Int) < (R.length : Int) := by have := get_lt hi; omega
  have hjl : (j : Int) < (R.length : Int) := by have := get_lt hj; omega
  have hgl := H.lt h (.inl rfl)
  have hgl2 := H.lt g (.inr (.inr ⟨_, rfl, rfl⟩))
  clear H hi hj hI HS
  obtain ⟨ak, ar, at'⟩ := a
  obtain ⟨bk, br, bt⟩ := b
  simp only at a0 a1 a2 b0 b1 b2 HL HL2
  go_enter Try.func58, Try.ntmps58
  go_wp2_with fail
  go_region
  · obtain ⟨x1, x2, hb⟩ := two_boxes w (.cells #[.string ak, .int .i64 ar, .int .i64 at'] 70) (.cells #[.string bk, .int .i64 br, .int .i64 bt] 70)
    generalize ((w.alloc (.cells #[.string ak, .int .i64 ar, .int .i64 at'] 70)).alloc (.cells #[.string bk, .int .i64 br, .int .i64 bt] 70)).drew = W at *
    have HQ : Hid (w.heap.size ≤ w.heap.size ∧ w.heap.size ≤ w.heap.size + 1) := ⟨Nat.le_refl _, Nat.le_succ _⟩
    generalize w.heap.size + 1 = B at *
    have HB := hide hb
    have X1 := hide x1
    obtain ⟨b0, b1, b2⟩ := three_cells x2
    have CL := hide (HL.out W hb)
    clear hb x1 x2 c0 c1 c2 c3 hgl2 a0 a1 a2
    go_wp2_with fail
    refine CL.out.mono ?_
    rintro e w1 ⟨rfl, h1, k1⟩
    have CL2 := hide (HL2.out w1 h1)
    have K1 := hide (Keep.trans (Keep.of HB.out) k1)
    obtain ⟨a0, a1, a2⟩ := three_cells ((k1.block w.heap.size (fun e => by have := HLT.out _ e; have := HQ.out; omega) (lt_of_block X1.out)).trans X1.out)
    clear h1 k1 CL b0 b1 b2
    go_wp2_with fail
    refine CL2.out.mono ?_
    rintro e w2 ⟨rfl, h2, k2⟩
    have H2 := hide h2
    have K2 := hide (K1.out.trans k2)
    clear h2 k2 a0 a1 a2
    go_wp2_with fail
    go_end0
    exact ⟨rfl, H2.out, K2.out⟩
  · obtain ⟨x2, x1, hb⟩ := two_boxes w (.cells #[.string bk, .int .i64 br, .int .i64 bt] 70) (.cells #[.string ak, .int .i64 ar, .int .i64 at'] 70)
    generalize ((w.alloc (.cells #[.string bk, .int .i64 br, .int .i64 bt] 70)).alloc (.cells #[.string ak, .int .i64 ar, .int .i64 at'] 70)).drew = W at *
    have HQ : Hid (w.heap.size ≤ w.heap.size + 1 ∧ w.heap.size ≤ w.heap.size) := ⟨Nat.le_succ _, Nat.le_refl _⟩
    generalize w.heap.size + 1 = B at *
    have HB := hide hb
    have X1 := hide x1
    obtain ⟨b0, b1, b2⟩ := three_cells x2
    have CL := hide (HL.out W hb)
    clear hb x1 x2 c0 c1 c2 c3 hgl2 a0 a1 a2
    go_wp2_with fail
    refine CL.out.mono ?_
    rintro e w1 ⟨rfl, h1, k1⟩
    have CL2 := hide (HL2.out w1 h1)
    have K1 := hide (Keep.trans (Keep.of HB.out) k1)
    obtain ⟨a0, a1, a2⟩ := three_cells ((k1.block B (fun e => by have := HLT.out _ e; have := HQ.out; omega) (lt_of_block X1.out)).trans X1.out)
    clear h1 k1 CL b0 b1 b2
    go_wp2_with fail
    refine CL2.out.mono ?_
    rintro e w2 ⟨rfl, h2, k2⟩
    have H2 := hide h2
    have K2 := hide (K1.out.trans k2)
    clear h2 k2 a0 a1 a2
    go_wp2_with fail
    go_end0
    exact ⟨rfl, H2.out, K2.out⟩
end Go.Proofs.Ytkfomjinilmjaaa
