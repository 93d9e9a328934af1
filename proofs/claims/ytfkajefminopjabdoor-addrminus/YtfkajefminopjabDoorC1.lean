/- The contract of addr's check, of whatever list of prefixes. -/
import Derived.Test.YtfkajefminopjabDoorA3
import Derived.Test.YtfkajefminopjabDoorW1
namespace Go.Proofs.YtfkajefminopjabDoor
open Go.RowKit

/-- A prefix's two cells; a list's. -/
def Ad.enc (x : Int × Int) : List Value := [.int .u32 x.1, .int .i64 x.2]
def Ad.cells (l : List (Int × Int)) : List Value := l.flatMap Ad.enc
/-- Addresses that are ones. -/
def Ad.fits (l : List (Int × Int)) : Prop := ∀ x ∈ l, 0 ≤ x.1 ∧ x.1 ≤ 4294967295
/-- The list's cells lie in block b from off on. -/
def Ad.reads (w : World) (b off : Nat) (l : List (Int × Int)) : Prop := ∀ j u, (Ad.cells l)[j]? = some u → w.cell? ⟨b, off + j, none⟩ = some u

theorem Ad.cells_length (l : List (Int × Int)) : (Ad.cells l).length = l.length * 2 := by
  induction l with
  | nil => rfl
  | cons x l ih => simp only [Ad.cells, List.flatMap_cons, List.length_append, List.length_cons] at *; simp only [Ad.enc, List.length_cons, List.length_nil]; omega

theorem Ad.cells_get (l : List (Int × Int)) (i : Nat) (h : i < l.length) : (Ad.cells l)[i * 2]? = some (.int .u32 l[i].1) ∧ (Ad.cells l)[i * 2 + 1]? = some (.int .i64 l[i].2) := by
  induction l generalizing i with
  | nil => simp at h
  | cons x l ih =>
    cases i with
    | zero => simp [Ad.cells, Ad.enc]
    | succ i =>
      have := ih i (by simpa using h)
      have e : (i + 1) * 2 = i * 2 + 1 + 1 := by omega
      simpa [Ad.cells, Ad.enc, e] using this

theorem Ad.reads_at {w : World} {b off : Nat} {l : List (Int × Int)} (h : Ad.reads w b off l) (i : Nat) (hi : i < l.length) :
    w.cell? ⟨b, off + i * 2, none⟩ = some (.int .u32 l[i].1) ∧ w.cell? ⟨b, off + i * 2 + 1, none⟩ = some (.int .i64 l[i].2) := by
  have := Ad.cells_get l i hi
  exact ⟨h _ _ this.1, by rw [Nat.add_assoc]; exact h _ _ this.2⟩

theorem Ad.reads_below {w w' : World} {b off : Nat} {l : List (Int × Int)} (h : Ad.reads w b off l) (hb : Below w.heap.size w w') : Ad.reads w' b off l := by
  intro j u hu
  have := h j u hu
  rw [hb.cell (p := ⟨b, off + j, none⟩) (block_lt_of_cell this)]
  exact this

/-- Which error a list has. -/
def Ad.why (l : List (Int × Int)) : Int := if 1024 < l.length then 2 else if l.all (fun x => Ad.may x.1 x.2) = true then 0 else 1

set_option maxHeartbeats 1000000 in
theorem check_row (b off cap : Nat) (l : List (Int × Int)) (w : World) (hR : Ad.reads w b off l) (hf : Ad.fits l) (hlen : l.length ≤ 1024) :
    Calls Tryd.prog 15 #[.slice (some ⟨b, off, none⟩) l.length cap] w fun e w' => e = .returned (.int .i64 (Ad.why l)) ∧ Below w.heap.size w w' := by
  have HR := hide hR
  have HF := hide hf
  clear hR hf
  have hgt : ¬ (1024 : Int) < (l.length : Int) := by omega
  go_enter Tryd.func15, Tryd.ntmps15
  go_wp2_with fail
  go_loopw [10] (fun i wr => ∃ k : Nat, k ≤ l.length ∧ i = .int .i64 k ∧ (∀ j (hj : j < l.length), j < k → Ad.may l[j].1 l[j].2 = true) ∧ Below w.heap.size w wr) (fun i _ => l.length - (intOf i).toNat)
  case atStart => exact ⟨0, Nat.zero_le _, rfl, fun j _ hj => absurd hj (Nat.not_lt_zero _), brefl w⟩
  case round =>
    obtain ⟨k, hk, rfl, hall, hbr⟩ := hrel
    have HALL := hide hall
    clear hall
    by_cases hlt : k < l.length
    · obtain ⟨e0, e1⟩ := Ad.reads_at (Ad.reads_below HR.out hbr) k hlt
      have hx := hide (HF.out l[k] (List.getElem_mem hlt))
      generalize hxx : l[k] = x at *
      obtain ⟨a, d⟩ := x
      have HX := hide hxx
      clear hxx
      have hx0 : 0 ≤ a := hx.out.1
      have hx1 : a ≤ 4294967295 := hx.out.2
      cases hm : Ad.may a d
      · go_wp2_with fail
        refine (may_is _ _ _ hm _ hx0 hx1).mono ?_
        rintro e w1 ⟨rfl, hb1⟩
        go_wp2_with fail
        go_ret
        refine ⟨ret_int ?_, bthen (balloc hbr _) hb1⟩
        have hn : l.all (fun x => Ad.may x.1 x.2) = false := by
          rw [List.all_eq_false]
          exact ⟨l[k], List.getElem_mem hlt, by rw [HX.out]; simp [hm]⟩
        rw [Ad.why, if_neg (by omega), if_neg (by rw [hn]; decide)]
      · go_wp2_with fail
        refine (may_is _ _ _ hm _ hx0 hx1).mono ?_
        rintro e w1 ⟨rfl, hb1⟩
        go_wp2_with fail
        refine ⟨⟨k + 1, by omega, by go_num, fun j hj hjk => ?_, bthen (balloc hbr _) hb1⟩, by simp [intOf]; omega⟩
        rcases Nat.lt_succ_iff_lt_or_eq.1 hjk with h1 | rfl
        · exact HALL.out j hj h1
        · rw [HX.out]; exact hm
    · go_wp2_with fail
      go_ret
      refine ⟨ret_int ?_, hbr⟩
      have hn : l.all (fun x => Ad.may x.1 x.2) = true := by
        rw [List.all_eq_true]
        intro x hx
        obtain ⟨j, hj, rfl⟩ := List.getElem_of_mem hx
        exact HALL.out j hj (by omega)
      rw [Ad.why, if_neg (by omega), if_pos hn]

set_option maxHeartbeats 1000000 in
theorem check_none (a : Option Addr) (cap : Nat) (w : World) :
    Calls Tryd.prog 15 #[.slice a 0 cap] w fun e w' => e = .returned (.int .i64 0) ∧ Below w.heap.size w w' := by
  go_enter Tryd.func15, Tryd.ntmps15
  go_wp2_with fail
  go_loopw [10] (fun i wr => i = .int .i64 0 ∧ Below w.heap.size w wr) (fun i _ => 0)
  case atStart => exact ⟨rfl, brefl w⟩
  case round =>
    obtain ⟨rfl, hbr⟩ := hrel
    go_wp2_with fail
    go_ret
    exact ⟨rfl, hbr⟩

set_option maxHeartbeats 1000000 in
theorem check_long (a : Option Addr) (n cap : Nat) (w : World) (h : 1024 < n) :
    Calls Tryd.prog 15 #[.slice a n cap] w fun e w' => e = .returned (.int .i64 2) ∧ Below w.heap.size w w' := by
  have hgt : (1024 : Int) < (n : Int) := by omega
  go_enter Tryd.func15, Tryd.ntmps15
  go_wp2_with fail
  go_ret
  exact ⟨rfl, brefl w⟩
end Go.Proofs.YtfkajefminopjabDoor
