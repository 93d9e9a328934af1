/- Attributes in memory; few; signs; numbers of reflectors. -/
import Derived.Test.YtpkikfojiibdaaaDoorM1
import Derived.Deep.CutBlock
namespace Go.Proofs.YtpkikfojiibdaaaDoor
open Go.RowKit

theorem seven_cells {w : World} {b y : Nat} {x0 x1 x2 x3 x4 x5 x6 : Value} (h : w.heap[b]? = some (.cells #[x0, x1, x2, x3, x4, x5, x6] y (0, 0))) :
    w.cell? ⟨b, 0, none⟩ = some x0 ∧ w.cell? ⟨b, 1, none⟩ = some x1 ∧ w.cell? ⟨b, 2, none⟩ = some x2 ∧ w.cell? ⟨b, 3, none⟩ = some x3 ∧ w.cell? ⟨b, 4, none⟩ = some x4 ∧ w.cell? ⟨b, 5, none⟩ = some x5 ∧ w.cell? ⟨b, 6, none⟩ = some x6 := by
  refine ⟨?_, ?_, ?_, ?_, ?_, ?_, ?_⟩ <;> (unfold World.cell?; rw [h]; rfl)
theorem heap_new (w : World) (x : Array Value) (t : TypeId) : (w.alloc (.cells x t)).heap[w.heap.size]? = some (.cells x t (0, 0)) := by
  show (w.heap.push (.cells x t))[w.heap.size]? = _
  rw [Array.getElem?_push, if_pos rfl]
/-- Where the lists of attributes lie. -/
def At.lies (w : World) (a : At) (p c k : Option Addr) : Prop := Is.slot w p a.path ∧ Cm.Co.slot w c a.comms ∧ Is.slot w k a.cl
theorem At.lies_below {w w' : World} {a : At} {p c k : Option Addr} (h : At.lies w a p c k) (hb : Below w.heap.size w w') : At.lies w' a p c k :=
  ⟨Is.slot_below h.1 hb, Cm.Co.slot_below h.2.1 hb, Is.slot_below h.2.2 hb⟩
/-- Few parts. -/
def few3 (x y z : Nat) : Bool := decide (x ≤ 100) && (decide (y ≤ 100) && decide (z ≤ 100))
theorem few3_iff (x y z : Nat) : few3 x y z = true ↔ x ≤ 100 ∧ y ≤ 100 ∧ z ≤ 100 := by simp [few3]
theorem le_int (n : Nat) : decide ((n : Int) ≤ 100) = decide (n ≤ 100) := by
  congr 1
  simp only [eq_iff_iff]
  omega
set_option maxRecDepth 100000 in
theorem few_is (p0 p1 p2 f : Int) (po co ko : Option Addr) (np nc nk cp cc ck : Nat) (r : Bool) (hr : few3 np nc nk = r) (w : World) :
    Calls Tryd.prog 6 #[.agg #[.int .i64 p0, .int .i64 p1, .int .i64 p2, .slice po np cp, .slice co nc cc, .int .i64 f, .slice ko nk ck]] w fun e w' => e = .returned (.bool r) ∧ Below w.heap.size w w' := by
  have HB := hide (balloc (brefl w) (.cells #[.int .i64 p0, .int .i64 p1, .int .i64 p2, .slice po np cp, .slice co nc cc, .int .i64 f, .slice ko nk ck] 25))
  have e1 := le_int np
  have e2 := le_int nc
  have e3 := le_int nk
  have HR : Hid (r = (decide (np ≤ 100) && (decide (nc ≤ 100) && decide (nk ≤ 100)))) := hr.symm
  generalize decide (np ≤ 100) = x at *
  generalize decide (nc ≤ 100) = y at *
  generalize decide (nk ≤ 100) = z at *
  clear hr
  cases x
  · go_enter Tryd.func6, Tryd.ntmps6
    go_wp2_with fail
    go_ret
    exact ⟨ret_bool (by rw [HR.out]; rfl), HB.out⟩
  · cases y
    · go_enter Tryd.func6, Tryd.ntmps6
      go_wp2_with fail
      go_ret
      exact ⟨ret_bool (by rw [HR.out]; rfl), HB.out⟩
    · go_enter Tryd.func6, Tryd.ntmps6
      go_wp2_with fail
      go_ret
      exact ⟨ret_bool (by rw [HR.out]; rfl), HB.out⟩
theorem sign_is (a b : Int) (w : World) : Calls Tryd.prog 41 #[.int .i64 a, .int .i64 b] w fun e w' => e = .returned (.int .i64 (Cm.Co.ci a b)) ∧ w' = w := by
  rcases Cm.Co.ci_cases a b with ⟨h, k⟩ | ⟨h, k⟩ | ⟨h, k⟩ <;> rw [k]
  · go_enter Tryd.func41, Tryd.ntmps41
    go_wp2_with fail
    go_ret
    exact ⟨rfl, rfl⟩
  · subst h
    have h1 : ¬ a < a := by omega
    go_enter Tryd.func41, Tryd.ntmps41
    go_wp2_with fail
    go_ret
    exact ⟨rfl, rfl⟩
  · have h1 : ¬ a < b := by omega
    go_enter Tryd.func41, Tryd.ntmps41
    go_wp2_with fail
    go_ret
    exact ⟨rfl, rfl⟩
theorem Cl.ok_iff (l : List Int) : Cl.ok l = true ↔ l.length ≤ 8 ∧ (∀ j (h : j < l.length), Is.as l[j] = true) ∧ ∀ i k (hi : i < l.length) (hk : k < i), l[k]'(by omega) ≠ l[i] := by
  unfold Cl.ok
  rw [Bool.and_eq_true, Bool.and_eq_true, decide_eq_true_eq, decide_eq_true_eq, List.all_eq_true, and_assoc]
  refine and_congr Iff.rfl (and_congr ?_ ?_)
  · constructor
    · exact fun h j hj => h _ (List.getElem_mem hj)
    · intro h x hx
      obtain ⟨j, hj, rfl⟩ := List.mem_iff_getElem.1 hx
      exact h j hj
  · rw [List.nodup_iff_pairwise_ne, List.pairwise_iff_getElem]
    constructor
    · exact fun h i k hi hk => h k i (by omega) hi hk
    · exact fun h i j hi hj hij => h j i hj hij
theorem Cl.no_len {l : List Int} (h : 8 < l.length) : Cl.ok l = false := by
  cases hm : Cl.ok l
  · rfl
  · have := ((Cl.ok_iff l).1 hm).1
    omega
theorem Cl.no_as {l : List Int} {k : Nat} (hk : k < l.length) (h : Is.as l[k] = false) : Cl.ok l = false := by
  cases hm : Cl.ok l
  · rfl
  · have := ((Cl.ok_iff l).1 hm).2.1 k hk
    rw [h] at this
    cases this
theorem Cl.no_two {l : List Int} {i k : Nat} (hi : i < l.length) (hk : k < i) (h : l[k]'(by omega) = l[i]) : Cl.ok l = false := by
  cases hm : Cl.ok l
  · rfl
  · exact absurd h (((Cl.ok_iff l).1 hm).2.2 i k hi hk)
end Go.Proofs.YtpkikfojiibdaaaDoor
