/- The program's May and Prepend. -/
import Derived.Test.YtnbedjgjkoeflaaDoorK1
import Derived.Test.YtnbedjgjkoeflaaDoorS1
namespace Go.Proofs.YtnbedjgjkoeflaaDoor
open Go.RowKit Go.Sort

theorem mayNot_is (n : Int) (r : Bool) (h : Is.as n = r) (w : World) : Calls Tryd.prog 40 #[.int .i64 n] w fun e w' => e = .returned (.bool (!r)) ∧ w' = w := by
  have CA := hide (fun W => mayAS_is n r h W)
  clear h
  go_enter Tryd.func40, Tryd.ntmps40
  go_wp2_with fail
  refine (CA.out _).mono ?_
  rintro e w1 ⟨rfl, rfl⟩
  go_wp2_with fail
  go_ret
  exact ⟨rfl, rfl⟩
theorem pred40 (w : World) : PredAt Tryd.prog 40 #[] (Value.int .i64) (fun n => !Is.as n) w := fun W x _ =>
  (mayNot_is x _ rfl W).mono fun _ _ h => ⟨h.1, 0, h.2⟩
theorem enter40 : ∀ args w, (callFunc 40 args).run Tryd.prog w = .ok (.enter 40 args) w := enters_of Tryd.func40 (by kernel_rfl) rfl
theorem hasNot_is (ao : Option Addr) (ca : Nat) (l : List Int) (r : Bool) (hr : l.any (fun n => !Is.as n) = r) (W : World) (hA : Is.slot W ao l) (hl : l.length ≤ 320) :
    Calls Tryd.prog 41 #[.slice ao l.length ca, .func (.func 40) #[] #[]] W fun e w' => e = .returned (.bool r) ∧ Below W.heap.size W w' := by
  by_cases h0 : l = []
  · subst h0
    obtain rfl : false = r := hr
    exact (Tryd.slices_ContainsFunc_empty (α := Int) ao ca _ W).mono fun e w' h => ⟨h.1, h.2 ▸ brefl W⟩
  · obtain ⟨b, off, rfl, hrd⟩ := Is.slot_at hA (k := 0) (List.length_pos_iff.2 h0)
    refine (Tryd.slices_ContainsFunc (Value.int .i64) (fun n => !Is.as n) 40 #[] enter40 b off l.length ca l W (pred40 W) (Nat.le_refl _) (by omega) ?_).mono ?_
    · intro j hj
      rw [hrd j hj, getElem!_pos l j hj]
    · rintro e w' ⟨rfl, q, rfl⟩
      rw [List.take_length, hr]
      exact ⟨rfl, ((Grows.refl W).drewN q).below⟩

theorem may_is (ao : Option Addr) (ca : Nat) (l : List Int) (r : Bool) (hr : Is.may l = r) (W : World) (hA : Is.slot W ao l) (hl : l.length ≤ 320) :
    Calls Tryd.prog 13 #[.slice ao l.length ca] W fun e w' => e = .returned (.bool r) ∧ Below W.heap.size W w' := by
  by_cases h16 : l.length ≤ 16
  · have h16' : (l.length : Int) ≤ 16 := by omega
    have HB := hide (fun W hA => hasNot_is ao ca l (!r) (by
      rw [← hr, Is.may, decide_eq_true h16, Bool.true_and, List.any_eq_not_all_not]
      simp) W hA hl)
    have CB := hide (HB.out W hA)
    clear HB hr hA
    go_enter Tryd.func13, Tryd.ntmps13
    go_wp2_with fail
    refine CB.out.mono ?_
    rintro e w1 ⟨rfl, hb1⟩
    have B1 := hide hb1
    clear hb1 CB
    go_wp2_with fail
    go_ret
    exact ⟨ret_bool (by simp), B1.out⟩
  · have h16' : ¬ (l.length : Int) ≤ 16 := by omega
    obtain rfl : r = false := by rw [← hr, Is.may, decide_eq_false h16]; rfl
    clear hr hA
    go_enter Tryd.func13, Tryd.ntmps13
    go_wp2_with fail
    go_ret
    exact ⟨rfl, brefl W⟩

theorem path_no (w : World) (q : Int) {w' : World} (hb : Below w.heap.size w w') : PathOk w [] q (.returned (.tuple #[.slice none 0 0, .int .i64 q])) w' := ⟨none, 0, rfl, Mine.own (World.ownsRow_nil _ _ _ _), hb⟩
theorem Start.mine {w0 w : World} {o : Option Addr} {c : Nat} {xs : List Int} (h : Start w0 w o xs.length c xs) : Mine w w0.heap.size o c xs := by
  rcases h with h | ⟨_, rfl, rfl, b, off, rfl⟩
  · exact Mine.own h
  · exact ⟨.inl rfl, came_some _ _ _⟩

set_option maxHeartbeats 4000000 in
theorem prepend_is (ao : Option Addr) (ca : Nat) (l : List Int) (n t : Int) (x : List Int) (q : Int) (h : Is.prepend l n t = (x, q)) (w : World) (hA : Is.slot w ao l) (hC : came ao ca) (hl : l.length ≤ 320) :
    Calls Tryd.prog 18 #[.slice ao l.length ca, .int .i64 n, .int .i64 t] w (PathOk w x q) := by
  have hcs := Is.prepend_cases l n t x q h
  have HA := hide hA
  have HC := hide hC
  clear h hC
  cases hm : Is.may l
  · obtain ⟨rfl, rfl⟩ : x = [] ∧ q = 1 := by
      rcases hcs with ⟨_, h⟩ | ⟨h, _⟩ | ⟨h, _⟩ | ⟨h, _⟩ | ⟨h, _⟩ | ⟨h, _⟩
      · exact h
      all_goals rw [hm] at h; cases h
    have CM := hide (may_is ao ca l false hm w hA hl)
    clear hm hA hcs
    go_enter Tryd.func18, Tryd.ntmps18
    go_wp2_with fail
    refine CM.out.mono ?_
    rintro e w1 ⟨rfl, hb1⟩
    have B1 := hide hb1
    clear hb1 CM
    go_wp2_with fail
    exact bodyPost_ret (v := .tuple #[.slice none 0 0, .int .i64 1]) (by simp [results, Tryd.results18, go_sem]) rfl (path_no _ _ B1.out)
  · have CM := hide (may_is ao ca l true hm w hA hl)
    have hl16 : l.length ≤ 16 := ((Is.may_iff l).1 hm).1
    rw [hm] at hcs
    cases ha : Is.as n
    · rw [ha] at hcs
      obtain ⟨rfl, rfl⟩ : x = [] ∧ q = 1 := by simpa using hcs
      have CA := hide (fun W => mayAS_is n false ha W)
      clear hm hA hcs ha
      go_enter Tryd.func18, Tryd.ntmps18
      go_wp2_with fail
      refine CM.out.mono ?_
      rintro e w1 ⟨rfl, hb1⟩
      have B1 := hide hb1
      clear hb1 CM
      go_wp2_with fail
      refine (CA.out _).mono ?_
      rintro e w2 ⟨rfl, rfl⟩
      go_wp2_with fail
      exact bodyPost_ret (v := .tuple #[.slice none 0 0, .int .i64 1]) (by simp [results, Tryd.results18, go_sem]) rfl (path_no _ _ B1.out)
    · rw [ha] at hcs
      have CA := hide (fun W => mayAS_is n true ha W)
      by_cases ht : t < 0
      · obtain ⟨rfl, rfl⟩ : x = [] ∧ q = 1 := by
          rcases hcs with ⟨h, _⟩ | ⟨_, h, _⟩ | ⟨_, _, _, h⟩ | ⟨_, _, h, _⟩ | ⟨_, _, h, _⟩ | ⟨_, _, h, _⟩
          · cases h
          · cases h
          · exact h
          all_goals omega
        clear hm hA hcs ha
        go_enter Tryd.func18, Tryd.ntmps18
        go_wp2_with fail
        refine CM.out.mono ?_
        rintro e w1 ⟨rfl, hb1⟩
        have B1 := hide hb1
        clear hb1 CM
        go_wp2_with fail
        refine (CA.out _).mono ?_
        rintro e w2 ⟨rfl, rfl⟩
        go_wp2_with fail
        exact bodyPost_ret (v := .tuple #[.slice none 0 0, .int .i64 1]) (by simp [results, Tryd.results18, go_sem]) rfl (path_no _ _ B1.out)
      · by_cases hlt : 16 - (l.length : Int) < t
        · obtain ⟨rfl, rfl⟩ : x = [] ∧ q = 2 := by
            rcases hcs with ⟨h, _⟩ | ⟨_, h, _⟩ | ⟨_, _, h, _⟩ | ⟨_, _, _, h⟩ | ⟨_, _, _, _, _, h⟩ | ⟨_, _, _, h, _⟩
            · cases h
            · cases h
            · omega
            · exact h
            · exact h
            · omega
          clear hm hA hcs ha
          go_enter Tryd.func18, Tryd.ntmps18
          go_wp2_with fail
          refine CM.out.mono ?_
          rintro e w1 ⟨rfl, hb1⟩
          have B1 := hide hb1
          clear hb1 CM
          go_wp2_with fail
          refine (CA.out _).mono ?_
          rintro e w2 ⟨rfl, rfl⟩
          go_wp2_with fail
          exact bodyPost_ret (v := .tuple #[.slice none 0 0, .int .i64 2]) (by simp [results, Tryd.results18, go_sem]) rfl (path_no _ _ B1.out)
        · obtain ⟨hx, rfl⟩ : x = List.replicate t.toNat n ++ l ∧ q = 0 := by
            rcases hcs with ⟨h, _⟩ | ⟨_, h, _⟩ | ⟨_, _, h, _⟩ | ⟨_, _, h, _⟩ | ⟨_, _, _, _, h, _⟩ | ⟨_, _, _, _, h⟩
            · cases h
            · cases h
            · omega
            · omega
            · omega
            · exact h
          obtain ⟨m, rfl⟩ := Int.eq_ofNat_of_zero_le (show 0 ≤ t by omega)
          rw [Int.toNat_natCast] at hx
          have HX := hide hx
          have hm16 : m ≤ 16 := by omega
          clear hm hA hcs ha hx
          cases ao with
          | none =>
            obtain rfl : l = [] := by
              rcases HA.out with h | ⟨b, off, h, _⟩
              · exact h
              · cases h
            obtain rfl : ca = 0 := HC.out.1 rfl
            have CPT := hide (fun W (hW : Below w.heap.size w W) => put_own none 0 0 [] n m w W hW (World.ownsRow_nil _ _ _ _) (by omega))
            go_enter Tryd.func18, Tryd.ntmps18
            go_wp2_with fail
            refine CM.out.mono ?_
            rintro e w1 ⟨rfl, hb1⟩
            have B1 := hide hb1
            clear hb1 CM
            go_wp2_with fail
            refine (CA.out _).mono ?_
            rintro e w2 ⟨rfl, rfl⟩
            go_wp2_with fail
            refine (CPT.out _ B1.out).mono ?_
            rintro e w3 ⟨no, nc, rfl, hst, hb3⟩
            have B3 := hide hb3
            simp only [Nat.zero_add, List.nil_append] at hst
            have HST := hide hst
            clear hst hb3 CPT
            go_wp2_with (at_builtin; go_must (refine append_ints (w0 := w) rfl _ _ rfl _ _ _ rfl HST.out none 0 0 [] rfl rfl (.inl rfl) HC.out (by omega) B3.out ?_))
            intro v' w4 hnew hb4
            obtain ⟨o4, c4, rfl⟩ := row_slice hnew
            have HXL : Hid (m = x.length) := by show _ = _; rw [HX.out]; simp
            have HNW : Hid (Mine w4 w.heap.size o4 c4 x) := by
              have e : x = List.replicate m n := by rw [HX.out]; simp
              rw [e]
              refine Mine.own ?_
              rw [List.length_replicate]
              exact hnew
            have B4 := hide hb4
            clear hnew hb4
            go_wp2_with fail
            exact bodyPost_ret (v := .tuple #[.slice o4 m c4, .int .i64 0]) (by simp [results, Tryd.results18, go_sem]) rfl ⟨o4, c4, by rw [← HXL.out], HNW.out, B4.out⟩
          | some ad =>
            obtain ⟨b, off, sp⟩ := ad
            obtain rfl : sp = none := HC.out.2 _ rfl
            have CPT := hide (fun W (hW : Below w.heap.size w W) => put_is (some ⟨b, off, none⟩) 0 0 [] n m w W hW (.inr ⟨rfl, rfl, rfl, b, off, rfl⟩) (by omega))
            go_enter Tryd.func18, Tryd.ntmps18
            go_wp2_with fail
            refine CM.out.mono ?_
            rintro e w1 ⟨rfl, hb1⟩
            have B1 := hide hb1
            clear hb1 CM
            go_wp2_with fail
            refine (CA.out _).mono ?_
            rintro e w2 ⟨rfl, rfl⟩
            go_wp2_with fail
            refine (CPT.out _ B1.out).mono ?_
            rintro e w3 ⟨no, nc, rfl, hst, hb3⟩
            have B3 := hide hb3
            simp only [Nat.zero_add, List.nil_append] at hst
            have HST := hide hst
            clear hst hb3 CPT
            go_wp2_with (at_builtin; go_must (refine append_start (w0 := w) rfl _ _ rfl _ _ _ _ rfl HST.out b off l.length ca l rfl rfl (Is.slot_below HA.out B3.out) (by omega) B3.out ?_))
            intro o4 c4 w4 hnew hb4
            have HXL : Hid (m + l.length = x.length) := by show _ = _; rw [HX.out]; simp
            rw [HXL.out] at hnew
            rw [HXL.out]
            have HNW : Hid (Mine w4 w.heap.size o4 c4 x) := by
              have e : List.replicate m n ++ l = x := HX.out.symm
              rw [e] at hnew
              exact hnew.mine
            have B4 := hide hb4
            clear hnew hb4
            go_wp2_with fail
            exact bodyPost_ret (v := .tuple #[.slice o4 x.length c4, .int .i64 0]) (by simp [results, Tryd.results18, go_sem]) rfl ⟨_, _, rfl, HNW.out, B4.out⟩
end Go.Proofs.YtnbedjgjkoeflaaDoor
