import Derived.Test.YtbceoinhmpnjaaaGreatDoorS1
/- The document's atom, over the contract of a choice one deeper. -/
namespace Go.Proofs.YtbceoinhmpnjaaaGreatDoor
open Go.RowKit Go.Sort

def chR (R : Except Int (List (List Nd) × Bs)) : Except Int (Nd × Bs) := match R with | .ok (c, k) => .ok (.ch c, k) | .error e => .error e
/-- What is asked of a choice that stands D deep, d more being allowed. -/
def ChoiceOk (s : ByteArray) (d D : Nat) : Prop := ∀ (n : Nat) (r : Bs), Pos s n r → ∀ W, Calls Tryz.prog 28 #[.string s, .int .i64 n, .int .i64 D] W (NodeGood s W (chR (Px.choice d r)))

abbrev zNode : Obj := .cells #[.int .i64 0, .bool false, .bool false, .slice none 0 0, .slice none 0 0, .slice none 0 0] 30
theorem zbox (W : World) : Box (W.alloc zNode) W.heap.size (.int .i64 0) (.bool false) (.bool false) (.slice none 0 0) (.slice none 0 0) (.slice none 0 0) := box_new W _ _ _ _ _ _ 30
theorem zfree (W : World) : Free (W.alloc zNode) W.heap.size := ⟨by simp, fun o => by simp [go_sem]⟩
theorem cell_row1 (w : World) (g : Nat) (x : Value) (t : TypeId) (h : w.heap[g]? = some (.cells #[x] t)) : w.cell? ⟨g, 0, none⟩ = some x := by
  rw [cell_of_row w g 0 #[x] t _ h]
  rfl
theorem one_reads {w : World} {g : Nat} {a : Int} (h : w.cell? ⟨g, 0, none⟩ = some (.int .i64 a)) : Is.reads w g 0 [a] := by
  intro j hj
  have hj0 : j = 0 := by simp at hj; exact hj
  subst hj0
  exact h
/-- Numbers of one pair, each in a block of its own. -/
theorem own_pair {B g h : Nat} {w : World} {d tw : Bool} {a b : Int} {t1 t2 : TypeId} (hg : B ≤ g) (hh : B ≤ h) (h1 : w.heap[g]? = some (.cells #[.int .i64 a] t1)) (h2 : w.heap[h]? = some (.cells #[.int .i64 b] t2)) :
    Tr.Own B w (Nd.tr (.num d false [(a, b, tw)])) [.int .i64 0, .bool d, .bool false, .slice (some ⟨g, 0, none⟩) 1 1, .slice (some ⟨h, 0, none⟩) 1 1, .slice none 0 0] := by
  intro w' hk
  have e1 := cell_row1 w' g _ t1 ((hk g hg (heap_lt h1)).trans h1)
  have e2 := cell_row1 w' h _ t2 ((hk h hh (heap_lt h2)).trans h2)
  rw [Nd.tr]
  refine .mk (f := [a]) (t := [b]) (ks := []) 0 0 (fun _ => []) ⟨by simp, by simp, by simp⟩ (.inr ⟨g, 0, rfl, one_reads e1⟩) (.inr ⟨h, 0, rfl, one_reads e2⟩) (.inl rfl) (fun i hi => by simp at hi) (fun i hi => by simp at hi)
theorem atom_dot {ch : Bs → Except Int (List (List Nd) × Bs)} {r : Bs} (h : Px.isAt r 46 = true) : Px.atom ch r = .ok (.num true false [(1, 65535, true)], Px.next r) := by
  unfold Px.atom
  rw [if_pos h]
theorem atom_set {ch : Bs → Except Int (List (List Nd) × Bs)} {r : Bs} (h0 : Px.isAt r 46 = false) (h : Px.isAt r 91 = true) : Px.atom ch r = setR (Px.set ((Px.next r).length + 1) [] (Px.next r)) := by
  unfold Px.atom setR
  rw [if_neg (by rw [h0]; decide), if_pos h]
  cases Px.set ((Px.next r).length + 1) [] (Px.next r) <;> rfl
theorem atom_par {ch : Bs → Except Int (List (List Nd) × Bs)} {r : Bs} (h0 : Px.isAt r 46 = false) (h1 : Px.isAt r 91 = false) (h : Px.isAt r 40 = true) : Px.atom ch r = (match ch (Px.next r) with | .error e => .error e | .ok (c, k) => if Px.isAt k 41 = true then .ok (.ch c, Px.next k) else .error 4) := by
  unfold Px.atom
  rw [if_neg (by rw [h0]; decide), if_neg (by rw [h1]; decide), if_pos h]
  cases ch (Px.next r) <;> rfl
theorem atom_num {ch : Bs → Except Int (List (List Nd) × Bs)} {r : Bs} (h0 : Px.isAt r 46 = false) (h1 : Px.isAt r 91 = false) (h2 : Px.isAt r 40 = false) : Px.atom ch r = (match Px.number r with | .error e => .error e | .ok (x, k) => .ok (.num false false [(x, x, false)], k)) := by
  unfold Px.atom
  rw [if_neg (by rw [h0]; decide), if_neg (by rw [h1]; decide), if_neg (by rw [h2]; decide)]
  cases Px.number r <;> rfl
end Go.Proofs.YtbceoinhmpnjaaaGreatDoor

