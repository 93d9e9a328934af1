/- The contracts of the document's own Why and In, over lists that came in. -/
import Derived.Test.YtfkajefminopjabDoorI1
import Derived.Test.YtfkajefminopjabDoorF3
namespace Go.Proofs.YtfkajefminopjabDoor
open Go.RowKit

set_option maxHeartbeats 1000000 in
theorem refWhy_row (ao : Option Addr) (cap : Nat) (l : List (Int × Int)) (w : World) (hR : Ad.rowAt w ao l) (hf : Ad.fits l) (hlen : l.length ≤ 1024) :
    Calls Tryd.prog 6 #[.slice ao l.length cap] w fun e w' => e = .returned (.int .i64 (Ad.why l)) ∧ Below w.heap.size w w' := by
  have HR := hide hR
  have HF := hide hf
  clear hR hf
  have hgt : ¬ (1024 : Int) < (l.length : Int) := by omega
  go_enter Tryd.func6, Tryd.ntmps6
  go_wp2_with fail
  go_loopw [3] (fun i wr => ∃ k : Nat, k ≤ l.length ∧ i = .int .i64 k ∧ (∀ j (hj : j < l.length), j < k → Ad.may l[j].1 l[j].2 = true) ∧ Below w.heap.size w wr) (fun i _ => l.length - (intOf i).toNat)
  case atStart => exact ⟨0, Nat.zero_le _, rfl, fun j _ hj => absurd hj (Nat.not_lt_zero _), brefl w⟩
  case round =>
    obtain ⟨k, hk, rfl, hall, hbr⟩ := hrel
    have HALL := hide hall
    clear hall
    by_cases hlt : k < l.length
    · obtain ⟨b, off, rfl, hrd⟩ : ∃ b off, ao = some ⟨b, off, none⟩ ∧ Ad.reads w b off l := by
        rcases HR.out with h | h
        · rw [h] at hlt; simp at hlt
        · exact h
      obtain ⟨e0, e1⟩ := Ad.reads_at (Ad.reads_below hrd hbr) k hlt
      clear hrd
      have hx := hide (HF.out l[k] (List.getElem_mem hlt))
      generalize hxx : l[k] = x at *
      obtain ⟨a, d⟩ := x
      have HX := hide hxx
      clear hxx
      have hx0 : 0 ≤ a := hx.out.1
      have hx1 : a ≤ 4294967295 := hx.out.2
      cases hm : Ad.may a d
      · go_wp2_with fail
        refine (refMay_is _ _ _ hm _ hx0 hx1).mono ?_
        rintro e w1 ⟨rfl, hb1⟩
        go_wp2_with fail
        go_ret
        refine ⟨ret_int ?_, bthen hbr hb1⟩
        have hn : l.all (fun x => Ad.may x.1 x.2) = false := by
          rw [List.all_eq_false]
          exact ⟨l[k], List.getElem_mem hlt, by rw [HX.out]; simp [hm]⟩
        rw [Ad.why, if_neg (by omega), if_neg (by rw [hn]; decide)]
      · go_wp2_with fail
        refine (refMay_is _ _ _ hm _ hx0 hx1).mono ?_
        rintro e w1 ⟨rfl, hb1⟩
        go_wp2_with fail
        refine ⟨⟨k + 1, by omega, by go_num, fun j hj hjk => ?_, bthen hbr hb1⟩, by simp [intOf]; omega⟩
        rcases Nat.lt_succ_iff_lt_or_eq.1 hjk with h1 | rfl
        · exact HALL.out j hj h1
        · rw [HX.out]; exact hm
    · go_wp2_with fail
      go_ret
      refine ⟨ret_int ?_, hbr⟩
      have hn : l.all (fun x => Ad.may x.1 x.2) = true := by
        rw [List.all_eq_true]
        intro x hx
        obtain ⟨j, hj, rfl⟩ := List.getElem_of_mem hx
        exact HALL.out j hj (by omega)
      rw [Ad.why, if_neg (by omega), if_pos hn]

set_option maxHeartbeats 1000000 in
theorem refWhy_long (a : Option Addr) (n cap : Nat) (w : World) (h : 1024 < n) :
    Calls Tryd.prog 6 #[.slice a n cap] w fun e w' => e = .returned (.int .i64 2) ∧ Below w.heap.size w w' := by
  have hgt : (1024 : Int) < (n : Int) := by omega
  go_enter Tryd.func6, Tryd.ntmps6
  go_wp2_with fail
  go_ret
  exact ⟨rfl, brefl w⟩

set_option maxHeartbeats 1000000 in
/-- In, of prefixes that may be. -/
theorem refIn_is (ao : Option Addr) (cap : Nat) (l : List (Int × Int)) (x : Int) (r : Bool) (w : World) (hR : Ad.rowAt w ao l) (hg : Ad.good l) (hlen : l.length ≤ 1000000) (hx : 0 ≤ x) (hx2 : x ≤ 4294967295) (hr : r = true ↔ Ad.cov l x) :
    Calls Tryd.prog 10 #[.slice ao l.length cap, .int .u32 x] w fun e w' => e = .returned (.bool r) ∧ Below w.heap.size w w' := by
  have HR := hide hR
  have HG := hide hg
  have HC := hide hr
  clear hR hg hr
  go_enter Tryd.func10, Tryd.ntmps10
  go_wp2_with fail
  go_loopw [5] (fun i wr => ∃ k : Nat, k ≤ l.length ∧ i = .int .i64 k ∧ (∀ j (hj : j < l.length), j < k → ¬ Ad.inn l[j] x) ∧ Below w.heap.size w wr) (fun i _ => l.length - (intOf i).toNat)
  case atStart => exact ⟨0, Nat.zero_le _, rfl, fun j _ hj => absurd hj (Nat.not_lt_zero _), brefl w⟩
  case round =>
    obtain ⟨k, hk, rfl, hall, hbr⟩ := hrel
    have HALL := hide hall
    clear hall
    by_cases hlt : k < l.length
    · obtain ⟨b, off, rfl, hrd⟩ : ∃ b off, ao = some ⟨b, off, none⟩ ∧ Ad.reads w b off l := by
        rcases HR.out with h | h
        · rw [h] at hlt; simp at hlt
        · exact h
      obtain ⟨e0, e1⟩ := Ad.reads_at (Ad.reads_below hrd hbr) k hlt
      clear hrd
      have hgk := hide (HG.out l[k] (List.getElem_mem hlt))
      have hmem := hide (List.getElem_mem hlt)
      have HH := hide (Ad.has_inn l[k] x hgk.out.2.2)
      generalize hxx : l[k] = y at *
      obtain ⟨a, d⟩ := y
      have HX := hide hxx
      clear hxx
      have hx0 : 0 ≤ a := hgk.out.1
      have hx1 : a ≤ 4294967295 := hgk.out.2.1
      cases hm : Ad.has a d x
      · go_wp2_with fail
        refine (refHas_is _ _ _ _ hm _ hx0 hx1 hx hx2 hgk.out.2.2).mono ?_
        rintro e w1 ⟨rfl, hb1⟩
        go_wp2_with fail
        refine ⟨⟨k + 1, by omega, by go_num, fun j hj hjk => ?_, bthen hbr hb1⟩, by simp [intOf]; omega⟩
        rcases Nat.lt_succ_iff_lt_or_eq.1 hjk with h1 | rfl
        · exact HALL.out j hj h1
        · rw [HX.out]
          intro h
          have := HH.out.2 h
          rw [hm] at this
          cases this
      · go_wp2_with fail
        refine (refHas_is _ _ _ _ hm _ hx0 hx1 hx hx2 hgk.out.2.2).mono ?_
        rintro e w1 ⟨rfl, hb1⟩
        go_wp2_with fail
        go_ret
        refine ⟨ret_bool ?_, bthen hbr hb1⟩
        exact (HC.out.2 ⟨(a, d), hmem.out, HH.out.1 hm⟩).symm
    · go_wp2_with fail
      go_ret
      refine ⟨ret_bool ?_, hbr⟩
      cases r
      · rfl
      · exfalso
        obtain ⟨p, hp, hi⟩ := HC.out.1 rfl
        obtain ⟨j, hj, rfl⟩ := List.getElem_of_mem hp
        exact HALL.out j hj (by omega) hi
end Go.Proofs.YtfkajefminopjabDoor
