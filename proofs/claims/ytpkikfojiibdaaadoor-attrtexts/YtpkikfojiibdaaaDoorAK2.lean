/- The program's May and Prepend. -/
import Derived.Test.YtpkikfojiibdaaaDoorAK1
import Derived.Test.YtpkikfojiibdaaaDoorAS1
namespace Go.Proofs.YtpkikfojiibdaaaDoor
open Go.RowKit Go.Sort

theorem mayNot_is (n : Int) (r : Bool) (h : Is.as n = r) (w : World) : Calls Tryd.prog 47 #[.int .i64 n] w fun e w' => e = .returned (.bool (!r)) ∧ w' = w := by
  have CA := hide (fun W => mayAS_is n r h W)
  clear h
  go_enter Tryd.func47, Tryd.ntmps47
  go_wp2_with fail
  refine (CA.out _).mono ?_
  rintro e w1 ⟨rfl, rfl⟩
  go_wp2_with fail
  go_ret
  exact ⟨rfl, rfl⟩
theorem pred40 (w : World) : PredAt Tryd.prog 47 #[] (Value.int .i64) (fun n => !Is.as n) w := fun W x _ =>
  (mayNot_is x _ rfl W).mono fun _ _ h => ⟨h.1, 0, h.2⟩
theorem enter40 : ∀ args w, (callFunc 47 args).run Tryd.prog w = .ok (.enter 47 args) w := enters_of Tryd.func47 (by kernel_rfl) rfl
theorem hasNot_is (ao : Option Addr) (ca : Nat) (l : List Int) (r : Bool) (hr : l.any (fun n => !Is.as n) = r) (W : World) (hA : Is.slot W ao l) (hl : l.length ≤ 320) :
    Calls Tryd.prog 49 #[.slice ao l.length ca, .func (.func 47) #[] #[]] W fun e w' => e = .returned (.bool r) ∧ Below W.heap.size W w' := by
  by_cases h0 : l = []
  · subst h0
    obtain rfl : false = r := hr
    exact (Tryd.slices_ContainsFunc_empty (α := Int) ao ca _ W).mono fun e w' h => ⟨h.1, h.2 ▸ brefl W⟩
  · obtain ⟨b, off, rfl, hrd⟩ := Is.slot_at hA (k := 0) (List.length_pos_iff.2 h0)
    refine (Tryd.slices_ContainsFunc (Value.int .i64) (fun n => !Is.as n) 47 #[] enter40 b off l.length ca l W (pred40 W) (Nat.le_refl _) (by omega) ?_).mono ?_
    · intro j hj
      rw [hrd j hj, getElem!_pos l j hj]
    · rintro e w' ⟨rfl, q, rfl⟩
      rw [List.take_length, hr]
      exact ⟨rfl, ((Grows.refl W).drewN q).below⟩

theorem may_is (ao : Option Addr) (ca : Nat) (l : List Int) (r : Bool) (hr : Is.may l = r) (W : World) (hA : Is.slot W ao l) (hl : l.length ≤ 320) :
    Calls Tryd.prog 26 #[.slice ao l.length ca] W fun e w' => e = .returned (.bool r) ∧ Below W.heap.size W w' := by
  by_cases h16 : l.length ≤ 16
  · have h16' : (l.length : Int) ≤ 16 := by omega
    have HB := hide (fun W hA => hasNot_is ao ca l (!r) (by
      rw [← hr, Is.may, decide_eq_true h16, Bool.true_and, List.any_eq_not_all_not]
      simp) W hA hl)
    have CB := hide (HB.out W hA)
    clear HB hr hA
    go_enter Tryd.func26, Tryd.ntmps26
    go_wp2_with fail
    refine CB.out.mono ?_
    rintro e w1 ⟨rfl, hb1⟩
    have B1 := hide hb1
    clear hb1 CB
    go_wp2_with fail
    go_ret
    exact ⟨ret_bool (by simp), B1.out⟩
  · have h16' : ¬ (l.length : Int) ≤ 16 := by omega
    obtain rfl : r = false := by rw [← hr, Is.may, decide_eq_false h16]; rfl
    clear hr hA
    go_enter Tryd.func26, Tryd.ntmps26
    go_wp2_with fail
    go_ret
    exact ⟨rfl, brefl W⟩

end Go.Proofs.YtpkikfojiibdaaaDoor
