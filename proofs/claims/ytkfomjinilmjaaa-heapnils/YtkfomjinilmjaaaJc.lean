/- Heaps of two numbers by texts, in memory. -/
import Derived.Test.YtkfomjinilmjaaaNk
namespace Go.Proofs.Ytkfomjinilmjaaa
open Go.RowKit Go.Maps

/-- A map of places by keys. -/
def Mp2 (w : World) (m n : Nat) (φ : Int × Int → Option Nat) : Prop :=
  ∃ D : DataW Unit, w.ownsMap Try.prog 58 (plainElem Try.prog 3) m n D ∧ ∀ k : Int × Int, In64 k → Maps.has D (kl2 k) = (φ k).isSome ∧ ∀ i, φ k = some i → D.atKey (kl2 k) (.lit (.int .i64 0)) = .lit (.int .i64 (i : Nat))
theorem own_tight2 {w : World} {m n n' : Nat} {D : DataW Unit} (h : w.ownsMap Try.prog 58 (plainElem Try.prog 3) m n D) (hn : Maps.size D ≤ n') : w.ownsMap Try.prog 58 (plainElem Try.prog 3) m n' D := by
  obtain ⟨es, clock, hb, F, hs, rfl⟩ := h
  refine ⟨es, clock, hb, F, ?_, rfl⟩
  have : Maps.size (DataW.map ((es.toList.map (WideElems.rg Try.prog 58 (plainElem (H := Unit) Try.prog 3))).foldr DataW.insert [])) = es.size := length_read es
  omega
theorem mp2_new (w : World) : Mp2 (w.alloc (.map #[] 0)) w.heap.size 0 fun _ => none :=
  ⟨_, World.ownsMap_made w _ _ _, fun k _ => ⟨rfl, fun i h => by cases h⟩⟩
theorem Mp2.kept {w w' : World} {m n : Nat} {φ : Int × Int → Option Nat} (h : Mp2 w m n φ) (hb : w'.heap[m]? = w.heap[m]?) : Mp2 w' m n φ := by
  obtain ⟨D, ⟨es, clock, h1, F, hs, hD⟩, hl⟩ := h
  exact ⟨D, ⟨es, clock, hb.trans h1, F, hs, hD⟩, hl⟩
theorem Mp2.lt {w : World} {m n : Nat} {φ : Int × Int → Option Nat} (h : Mp2 w m n φ) : m < w.heap.size := by
  obtain ⟨D, h, _⟩ := h
  exact h.lt
theorem Mp2.put {w w' : World} {m n n' i : Nat} {D : DataW Unit} {φ : Int × Int → Option Nat} {k : Int × Int} (h : w.ownsMap Try.prog 58 (plainElem Try.prog 3) m n D) (hl : ∀ k : Int × Int, In64 k → Maps.has D (kl2 k) = (φ k).isSome ∧ ∀ i, φ k = some i → D.atKey (kl2 k) (.lit (.int .i64 0)) = .lit (.int .i64 (i : Nat)))
    (hk : In64 k) (hn : n ≤ n') (hn' : φ k = none → n + 1 ≤ n') (h' : w'.ownsMap Try.prog 58 (plainElem Try.prog 3) m (n + 1) (D.put (kl2 k) (.lit (.int .i64 (i : Nat))))) : Mp2 w' m n' (upd φ k (some i)) := by
  refine ⟨_, own_tight2 h' ?_, fun x hx => ?_⟩
  · rw [size_put (h.tidy klaw2), (hl k hk).1]
    have := h.size_le
    cases e : φ k with
    | none => have := hn' e; simp; omega
    | some j => simp; omega
  · unfold upd
    by_cases e : x = k
    · subst e
      rw [if_pos rfl]
      exact ⟨has_put_same h.isMap (kl2_key _) _, fun j hj => by cases hj; exact atKey_put_same h.isMap (kl2_key _) _ _⟩
    · rw [if_neg e, has_put_other (fun e2 => e (kl2_inj hx hk e2)), atKey_put_other (fun e2 => e (kl2_inj hx hk e2))]
      exact hl x hx
theorem Mp2.del {w w' : World} {m n n' : Nat} {D : DataW Unit} {φ : Int × Int → Option Nat} {k : Int × Int} (h : w.ownsMap Try.prog 58 (plainElem Try.prog 3) m n D) (hl : ∀ k : Int × Int, In64 k → Maps.has D (kl2 k) = (φ k).isSome ∧ ∀ i, φ k = some i → D.atKey (kl2 k) (.lit (.int .i64 0)) = .lit (.int .i64 (i : Nat)))
    (hk : In64 k) (hs : φ k ≠ none) (hn' : n - 1 ≤ n') (h' : w'.ownsMap Try.prog 58 (plainElem Try.prog 3) m n (D.del (kl2 k))) : Mp2 w' m n' (upd φ k none) := by
  refine ⟨_, own_tight2 h' ?_, fun x hx => ?_⟩
  · have h1 := size_del (k := kl2 k) (h.tidy klaw2)
    rw [(hl k hk).1] at h1
    have := h.size_le
    cases e : φ k with
    | none => exact absurd e hs
    | some j => rw [e] at h1; simp at h1; omega
  · unfold upd
    by_cases e : x = k
    · subst e
      rw [if_pos rfl]
      exact ⟨has_del_same, fun j hj => by cases hj⟩
    · rw [if_neg e, has_del_other (fun e2 => e (kl2_inj hx hk e2)), atKey_del_other (fun e2 => e (kl2_inj hx hk e2))]
      exact hl x hx

abbrev RwP := Rw (Int × Int) ByteArray
/-- Rows in a block. -/
def Rd2 (cur : Array Value) (R : List RwP) : Prop := ∀ j x, R[j]? = some x → cur[j * 4]? = some (.int .i64 x.k.1) ∧ cur[j * 4 + 1]? = some (.int .i64 x.k.2) ∧ cur[j * 4 + 2]? = some (.string x.r) ∧ cur[j * 4 + 3]? = some (.int .i64 x.t)
def RowAt2 (w : World) (ao : Option Addr) (cap : Nat) (R : List RwP) : Prop :=
  (ao = none ∧ cap = 0 ∧ R = []) ∨ ∃ g cur, ao = some ⟨g, 0, none⟩ ∧ w.heap[g]? = some (.cells cur 82 (0, 0)) ∧ R.length ≤ cap ∧ cap ≤ maxLen ∧ cur.size = cap * 4 ∧ Rd2 cur R
/-- A heap in memory. -/
structure Hm2 (w : World) (h f : Nat) (R : List RwP) (T : Int) (φ : Int × Int → Option Nat) (ao : Option Addr) (cap m n : Nat) : Prop where
  top : w.heap[h]? = some (.cells #[.func (.func f) #[] #[], .slice ao R.length cap, .map (some m), .int .i64 T] 79 (0, 0))
  row : RowAt2 w ao cap R
  mp : Mp2 w m n φ
  hm : h ≠ m
  hg : ∀ a, ao = some a → a.block ≠ h ∧ a.block ≠ m
  sm : ∀ x ∈ R, In64 x.k
theorem Hm2.lt {w : World} {h f : Nat} {R : List RwP} {T : Int} {φ : Int × Int → Option Nat} {ao : Option Addr} {cap m n : Nat} (H : Hm2 w h f R T φ ao cap m n) : ∀ b, Own h m ao b → b < w.heap.size := by
  rintro b (rfl | rfl | ⟨a, rfl, rfl⟩)
  · exact lt_of_block H.top
  · exact H.mp.lt
  · rcases H.row with ⟨e, _⟩ | ⟨g, cur, e, hg, _⟩
    · cases e
    · cases e
      exact lt_of_block hg
theorem Hm2.kept {w w' : World} {h f : Nat} {R : List RwP} {T : Int} {φ : Int × Int → Option Nat} {ao : Option Addr} {cap m n : Nat} (H : Hm2 w h f R T φ ao cap m n) (hb : ∀ b, Own h m ao b → w'.heap[b]? = w.heap[b]?) : Hm2 w' h f R T φ ao cap m n := by
  refine ⟨(hb h (.inl rfl)).trans H.top, ?_, H.mp.kept (hb m (.inr (.inl rfl))), H.hm, H.hg, H.sm⟩
  rcases H.row with e | ⟨g, cur, e, hg, r⟩
  · exact .inl e
  · exact .inr ⟨g, cur, e, (hb g (.inr (.inr ⟨_, e, rfl⟩))).trans hg, r⟩
theorem Hm2.below {w w' : World} {h f : Nat} {R : List RwP} {T : Int} {φ : Int × Int → Option Nat} {ao : Option Addr} {cap m n : Nat} (H : Hm2 w h f R T φ ao cap m n) (hb : Below w.heap.size w w') : Hm2 w' h f R T φ ao cap m n := H.kept fun b hb' => hb.block b (H.lt b hb')
/-- The cells of a row. -/
theorem Hm2.at {w : World} {h f : Nat} {R : List RwP} {T : Int} {φ : Int × Int → Option Nat} {ao : Option Addr} {cap m n : Nat} (H : Hm2 w h f R T φ ao cap m n) {j : Nat} {x : RwP} (hx : R[j]? = some x) :
    ∃ g, ao = some ⟨g, 0, none⟩ ∧ w.cell? ⟨g, j * 4, none⟩ = some (.int .i64 x.k.1) ∧ w.cell? ⟨g, j * 4 + 1, none⟩ = some (.int .i64 x.k.2) ∧ w.cell? ⟨g, j * 4 + 2, none⟩ = some (.string x.r) ∧ w.cell? ⟨g, j * 4 + 3, none⟩ = some (.int .i64 x.t) ∧ ∀ o, w.frozen? ⟨g, o, none⟩ = false := by
  rcases H.row with ⟨_, _, rfl⟩ | ⟨g, cur, e, hg, _, _, _, hr⟩
  · simp at hx
  · obtain ⟨h0, h1, h2, h3⟩ := hr j x hx
    exact ⟨g, e, by rw [cell_of_row w g _ _ 82 _ hg, h0], by rw [cell_of_row w g _ _ 82 _ hg, h1], by rw [cell_of_row w g _ _ 82 _ hg, h2], by rw [cell_of_row w g _ _ 82 _ hg, h3], fun o => frozen_of_row w g o _ 82 hg⟩
end Go.Proofs.Ytkfomjinilmjaaa
