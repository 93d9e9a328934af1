/- Seven cells written over; lists far from a block. -/
import Derived.Test.YtpkikfojiibdaaaDoorL1
namespace Go.Proofs.YtpkikfojiibdaaaDoor
open Go.RowKit Go.Sort

theorem frozenG {w : World} {b y : Nat} {x : Array Value} (h : w.heap[b]? = some (.cells x y (0, 0))) (o : Nat) : w.frozen? ⟨b, o, none⟩ = false := by
  unfold World.frozen?
  rw [h]
  rfl
/-- Seven cells written over. -/
def put7 (w : World) (g : Nat) (v0 v1 v2 v3 v4 v5 v6 : Value) : World := ((((((w.setCell ⟨g, 0, none⟩ v0).setCell ⟨g, 1, none⟩ v1).setCell ⟨g, 2, none⟩ v2).setCell ⟨g, 3, none⟩ v3).setCell ⟨g, 4, none⟩ v4).setCell ⟨g, 5, none⟩ v5).setCell ⟨g, 6, none⟩ v6
theorem put7_same {w : World} {g t : Nat} {z0 z1 z2 z3 z4 z5 z6 : Value} (h : w.heap[g]? = some (.cells #[z0, z1, z2, z3, z4, z5, z6] t (0, 0))) (v0 v1 v2 v3 v4 v5 v6 : Value) : (put7 w g v0 v1 v2 v3 v4 v5 v6).heap[g]? = some (.cells #[v0, v1, v2, v3, v4, v5, v6] t (0, 0)) := by
  unfold put7
  have h0 := heap_setCell_same w g 0 _ t v0 h
  have h1 := heap_setCell_same _ g 1 _ t v1 h0
  have h2 := heap_setCell_same _ g 2 _ t v2 h1
  have h3 := heap_setCell_same _ g 3 _ t v3 h2
  have h4 := heap_setCell_same _ g 4 _ t v4 h3
  have h5 := heap_setCell_same _ g 5 _ t v5 h4
  have h6 := heap_setCell_same _ g 6 _ t v6 h5
  rw [h6]
  simp
theorem put7_below {B : Nat} {u w : World} (h : Below B u w) {g : Nat} (hg : B ≤ g) (v0 v1 v2 v3 v4 v5 v6 : Value) : Below B u (put7 w g v0 v1 v2 v3 v4 v5 v6) := by
  unfold put7
  exact ((((((h.setCell (p := ⟨g, 0, none⟩) hg v0).setCell (p := ⟨g, 1, none⟩) hg v1).setCell (p := ⟨g, 2, none⟩) hg v2).setCell (p := ⟨g, 3, none⟩) hg v3).setCell (p := ⟨g, 4, none⟩) hg v4).setCell (p := ⟨g, 5, none⟩) hg v5).setCell (p := ⟨g, 6, none⟩) hg v6
theorem put7_other (w : World) (g : Nat) (v0 v1 v2 v3 v4 v5 v6 : Value) (b : Nat) (hb : b ≠ g) : (put7 w g v0 v1 v2 v3 v4 v5 v6).heap[b]? = w.heap[b]? := by
  unfold put7
  rw [heap_setCell_other _ ⟨g, 6, none⟩ b _ hb, heap_setCell_other _ ⟨g, 5, none⟩ b _ hb, heap_setCell_other _ ⟨g, 4, none⟩ b _ hb, heap_setCell_other _ ⟨g, 3, none⟩ b _ hb, heap_setCell_other _ ⟨g, 2, none⟩ b _ hb, heap_setCell_other _ ⟨g, 1, none⟩ b _ hb, heap_setCell_other _ ⟨g, 0, none⟩ b _ hb]

theorem cellB {w w' : World} {b : Nat} (h : w'.heap[b]? = w.heap[b]?) (o : Nat) : w'.cell? ⟨b, o, none⟩ = w.cell? ⟨b, o, none⟩ := by
  unfold World.cell?
  rw [h]
theorem is_far {w w' : World} {o : Option Addr} {l : List Int} (h : Is.slot w o l) {g : Nat} (hn : ∀ ad, o = some ad → ad.block = g → False) (hk : ∀ b, b ≠ g → w'.heap[b]? = w.heap[b]?) : Is.slot w' o l := by
  rcases h with h | ⟨b, off, rfl, hr⟩
  · exact .inl h
  · exact .inr ⟨b, off, rfl, fun j hj => (cellB (hk b (fun e => hn _ rfl e)) _).trans (hr j hj)⟩
theorem co_far {w w' : World} {o : Option Addr} {l : List Cm.Co.C} (h : Cm.Co.slot w o l) {g : Nat} (hn : ∀ ad, o = some ad → ad.block = g → False) (hk : ∀ b, b ≠ g → w'.heap[b]? = w.heap[b]?) : Cm.Co.slot w' o l := by
  rcases h with h | ⟨b, off, rfl, hr⟩
  · exact .inl h
  · exact .inr ⟨b, off, rfl, fun j u hu => (cellB (hk b (fun e => hn _ rfl e)) _).trans (hr j u hu)⟩
end Go.Proofs.YtpkikfojiibdaaaDoor
