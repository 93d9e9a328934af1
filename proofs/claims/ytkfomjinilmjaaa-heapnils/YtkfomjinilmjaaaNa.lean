/- A nil heap has nothing. -/
import Derived.Test.YtkfomjinilmjaaaHn
import Derived.Test.YtkfomjinilmjaaaHq
namespace Go.Proofs.Ytkfomjinilmjaaa
open Go.RowKit Go.Maps

set_option maxRecDepth 100000 in
theorem find_nil (w : World) (k : ByteArray) : Calls Try.prog 36 #[.pointer none, .string k] w fun e w' => e = .returned (.tuple #[.int .i64 0, .bool false, .bool false]) ∧ w' = w := by
  go_enter Try.func36, Try.ntmps36
  go_wp2_with fail
  go_ret3
  exact ⟨rfl, rfl⟩
set_option maxRecDepth 100000 in
theorem first_nil (w : World) : Calls Try.prog 28 #[.pointer none] w fun e w' => e = .returned (.tuple #[.string ⟨#[]⟩, .int .i64 0, .bool false]) ∧ w' = w := by
  have CL := hide (len_nil w)
  go_enter Try.func28, Try.ntmps28
  go_wp2_with fail
  refine CL.out.mono ?_
  rintro e w2 ⟨rfl, hw⟩
  have hw' := hw.symm
  clear hw
  subst hw'
  go_wp2_with fail
  go_ret3
  exact ⟨rfl, rfl⟩
set_option maxRecDepth 100000 in
theorem pop_nil (w : World) : Calls Try.prog 16 #[.pointer none] w fun e w' => e = .returned (.tuple #[.string ⟨#[]⟩, .int .i64 0, .bool false]) ∧ w' = w := by
  have CL := hide (len_nil w)
  go_enter Try.func16, Try.ntmps16
  go_wp2_with fail
  refine CL.out.mono ?_
  rintro e w2 ⟨rfl, hw⟩
  have hw' := hw.symm
  clear hw
  subst hw'
  go_wp2_with fail
  go_ret3
  exact ⟨rfl, rfl⟩
set_option maxRecDepth 100000 in
theorem rank_nil (w : World) (k : ByteArray) : Calls Try.prog 21 #[.pointer none, .string k] w fun e w' => e = .returned (.tuple #[.int .i64 0, .bool false]) ∧ w' = w := by
  have CL := hide (find_nil w k)
  go_enter Try.func21, Try.ntmps21
  go_wp2_with fail
  refine CL.out.mono ?_
  rintro e w2 ⟨rfl, hw⟩
  have hw' := hw.symm
  clear hw
  subst hw'
  go_wp2_with fail
  go_ret2
  exact ⟨rfl, rfl⟩
set_option maxRecDepth 100000 in
theorem set_nil (w : World) (k : ByteArray) (r : Int) : Calls Try.prog 13 #[.pointer none, .string k, .int .i64 r] w fun e w' => e = .returned (.bool false) ∧ w' = w := by
  have CL := hide (find_nil w k)
  go_enter Try.func13, Try.ntmps13
  go_wp2_with fail
  refine CL.out.mono ?_
  rintro e w2 ⟨rfl, hw⟩
  have hw' := hw.symm
  clear hw
  subst hw'
  go_wp2_with fail
  go_ret
  exact ⟨rfl, rfl⟩
set_option maxRecDepth 100000 in
theorem drop_nil (w : World) (k : ByteArray) : Calls Try.prog 15 #[.pointer none, .string k] w fun e w' => e = .returned (.bool false) ∧ w' = w := by
  have CL := hide (find_nil w k)
  go_enter Try.func15, Try.ntmps15
  go_wp2_with fail
  refine CL.out.mono ?_
  rintro e w2 ⟨rfl, hw⟩
  have hw' := hw.symm
  clear hw
  subst hw'
  go_wp2_with fail
  go_ret
  exact ⟨rfl, rfl⟩
set_option maxRecDepth 100000 in
theorem all_nil (w : World) : Calls Try.prog 19 #[.pointer none] w fun e w' => e = .returned (.slice none 0 0) ∧ w' = w := by
  have CL := hide (len_nil w)
  go_enter Try.func19, Try.ntmps19
  go_wp2_with fail
  go_ret
  exact ⟨rfl, rfl⟩
end Go.Proofs.Ytkfomjinilmjaaa
