/- The contracts of comm's May, cmp.Compare, cmp.Or and comm's order, and of the document's May and Before. -/
import Derived.Test.YtngfoijmknclhaaGreatDoorJ02
import Derived.Deep.RegionHeldLaw
namespace Go.Proofs.YtngfoijmknclhaaGreatDoor.Cm
open Go.RowKit Go.Sort
def Co.may (c : Co.C) : Bool := decide (1 ≤ c.1 ∧ c.1 ≤ 65535 ∧ 0 ≤ c.2 ∧ c.2 ≤ 65535)
def Co.ci (a b : Int) : Int := if a < b then -1 else if b < a then 1 else 0
def Co.ord (x y : Co.C) : Int := if Co.ci x.1 y.1 ≠ 0 then Co.ci x.1 y.1 else Co.ci x.2 y.2
def Co.bef (x y : Co.C) : Bool := decide (x.1 < y.1 ∨ (x.1 = y.1 ∧ x.2 < y.2))

theorem may_any (a b : Int) (w : World) : Calls Tryz.prog 92 #[.agg #[.int .i64 a, .int .i64 b]] w fun e w' => e = .returned (.bool (Co.may (a, b))) ∧ Grows w w' := by
  by_cases h0 : 1 ≤ a
  · have h0d : decide (1 ≤ a) = true := by simpa using h0
    by_cases h1 : a ≤ 65535
    · have h1d : decide (a ≤ 65535) = true := by simpa using h1
      by_cases h2 : 0 ≤ b
      · have h2d : decide (0 ≤ b) = true := by simpa using h2
        by_cases h3 : b ≤ 65535
        · have h3d : decide (b ≤ 65535) = true := by simpa using h3
          go_enter Tryz.func92, Tryz.ntmps92
          go_wp2_with fail
          go_ret
          exact ⟨ret_bool (by simp [Co.may]; omega), (Grows.refl w).alloc _⟩
        · have h3d : decide (b ≤ 65535) = false := by simpa using h3
          go_enter Tryz.func92, Tryz.ntmps92
          go_wp2_with fail
          go_ret
          exact ⟨ret_bool (by simp [Co.may]; omega), (Grows.refl w).alloc _⟩
      · have h2d : decide (0 ≤ b) = false := by simpa using h2
        go_enter Tryz.func92, Tryz.ntmps92
        go_wp2_with fail
        go_ret
        exact ⟨ret_bool (by simp [Co.may]; omega), (Grows.refl w).alloc _⟩
    · have h1d : decide (a ≤ 65535) = false := by simpa using h1
      go_enter Tryz.func92, Tryz.ntmps92
      go_wp2_with fail
      go_ret
      exact ⟨ret_bool (by simp [Co.may]; omega), (Grows.refl w).alloc _⟩
  · have h0d : decide (1 ≤ a) = false := by simpa using h0
    go_enter Tryz.func92, Tryz.ntmps92
    go_wp2_with fail
    go_ret
    exact ⟨ret_bool (by simp [Co.may]; omega), (Grows.refl w).alloc _⟩
theorem may_is (a b : Int) (r : Bool) (h : Co.may (a, b) = r) (w : World) : Calls Tryz.prog 92 #[.agg #[.int .i64 a, .int .i64 b]] w fun e w' => e = .returned (.bool r) ∧ Below w.heap.size w w' := by
  subst h
  exact (may_any a b w).mono fun e w' ⟨h1, h2⟩ => ⟨h1, h2.below⟩

theorem refMay_is (a b : Int) (r : Bool) (h : Co.may (a, b) = r) (w : World) : Calls Tryz.prog 54 #[.agg #[.int .i64 a, .int .i64 b]] w fun e w' => e = .returned (.bool r) ∧ Below w.heap.size w w' := by
  subst h
  by_cases h0 : 0 < a
  · have h0d : decide (0 < a) = true := by simpa using h0
    by_cases h1 : a < 65536
    · have h1d : decide (a < 65536) = true := by simpa using h1
      by_cases h2 : 0 ≤ b
      · have h2d : decide (0 ≤ b) = true := by simpa using h2
        by_cases h3 : b < 65536
        · have h3d : decide (b < 65536) = true := by simpa using h3
          go_enter Tryz.func54, Tryz.ntmps54
          go_wp2_with fail
          go_ret
          exact ⟨ret_bool (by simp [Co.may]; omega), balloc (brefl w) _⟩
        · have h3d : decide (b < 65536) = false := by simpa using h3
          go_enter Tryz.func54, Tryz.ntmps54
          go_wp2_with fail
          go_ret
          exact ⟨ret_bool (by simp [Co.may]; omega), balloc (brefl w) _⟩
      · have h2d : decide (0 ≤ b) = false := by simpa using h2
        go_enter Tryz.func54, Tryz.ntmps54
        go_wp2_with fail
        go_ret
        exact ⟨ret_bool (by simp [Co.may]; omega), balloc (brefl w) _⟩
    · have h1d : decide (a < 65536) = false := by simpa using h1
      go_enter Tryz.func54, Tryz.ntmps54
      go_wp2_with fail
      go_ret
      exact ⟨ret_bool (by simp [Co.may]; omega), balloc (brefl w) _⟩
  · have h0d : decide (0 < a) = false := by simpa using h0
    go_enter Tryz.func54, Tryz.ntmps54
    go_wp2_with fail
    go_ret
    exact ⟨ret_bool (by simp [Co.may]; omega), balloc (brefl w) _⟩

theorem refBefore_is (a b c d : Int) (r : Bool) (h : Co.bef (a, b) (c, d) = r) (w : World) : Calls Tryz.prog 110 #[.agg #[.int .i64 a, .int .i64 b], .agg #[.int .i64 c, .int .i64 d]] w fun e w' => e = .returned (.bool r) ∧ Below w.heap.size w w' := by
  subst h
  by_cases h0 : a < c
  · have hd0 : decide (a < c) = true := by simpa using h0
    go_enter Tryz.func110, Tryz.ntmps110
    go_wp2_with fail
    go_ret
    exact ⟨ret_bool (by simp [Co.bef]; omega), balloc (balloc (brefl w) _) _⟩
  · have hd0 : decide (a < c) = false := by simpa using h0
    by_cases h1 : a = c
    · subst h1
      by_cases h2 : b < d
      · have hd2 : decide (b < d) = true := by simpa using h2
        go_enter Tryz.func110, Tryz.ntmps110
        go_wp2_with fail
        go_ret
        exact ⟨ret_bool (by simp [Co.bef]; omega), balloc (balloc (brefl w) _) _⟩
      · have hd2 : decide (b < d) = false := by simpa using h2
        go_enter Tryz.func110, Tryz.ntmps110
        go_wp2_with fail
        go_ret
        exact ⟨ret_bool (by simp [Co.bef]; omega), balloc (balloc (brefl w) _) _⟩
    · have hd1 : (a == c) = false := by simpa using h1
      go_enter Tryz.func110, Tryz.ntmps110
      go_wp2_with fail
      go_ret
      exact ⟨ret_bool (by simp [Co.bef]; omega), balloc (balloc (brefl w) _) _⟩

theorem nan_any (a : Int) (w : World) : Calls Tryz.prog 173 #[.int .i64 a] w fun e w' => e = .returned (.bool false) ∧ w' = w := by
  go_enter Tryz.func173, Tryz.ntmps173
  go_wp2_with fail
  go_ret
  exact ⟨rfl, rfl⟩

theorem cmpI_any (a b : Int) (w : World) : Calls Tryz.prog 153 #[.int .i64 a, .int .i64 b] w fun e w' => e = .returned (.int .i64 (Co.ci a b)) ∧ w' = w := by
  by_cases h0 : a < b
  · go_enter Tryz.func153, Tryz.ntmps153
    go_wp2_with (go_at_call 173; refine (nan_any _ _).mono ?_; rintro _ _ ⟨rfl, rfl⟩)
    go_ret
    exact ⟨ret_int (by simp [Co.ci, h0]), rfl⟩
  · by_cases h1 : b < a
    · go_enter Tryz.func153, Tryz.ntmps153
      go_wp2_with (go_at_call 173; refine (nan_any _ _).mono ?_; rintro _ _ ⟨rfl, rfl⟩)
      go_ret
      exact ⟨ret_int (by simp [Co.ci, h0, h1]), rfl⟩
    · go_enter Tryz.func153, Tryz.ntmps153
      go_wp2_with (go_at_call 173; refine (nan_any _ _).mono ?_; rintro _ _ ⟨rfl, rfl⟩)
      go_ret
      exact ⟨ret_int (by rw [Co.ci, if_neg (by omega), if_neg (by omega)]), rfl⟩

theorem or_zero (x y : Int) (hx : x = 0) : y = if x ≠ 0 then x else y := by simp [hx]
theorem or_pos (x y : Int) (hx : x ≠ 0) : x = if x ≠ 0 then x else y := by simp [hx]

set_option maxHeartbeats 1000000 in
theorem or_two (g c : Nat) (x y z : Int) (hz : z = if x ≠ 0 then x else y) (w : World) (h0 : w.cell? ⟨g, 0, none⟩ = some (.int .i64 x)) (h1 : w.cell? ⟨g, 0 + 1, none⟩ = some (.int .i64 y)) :
    Calls Tryz.prog 152 #[.slice (some ⟨g, 0, none⟩) 2 c] w fun e w' => e = .returned (.int .i64 z) ∧ w' = w := by
  have HZ := hide hz
  clear hz
  go_enter Tryz.func152, Tryz.ntmps152
  go_wp2_with fail
  go_loopw [8] (fun v wr => ∃ k : Nat, v = .int .i64 k ∧ k ≤ 2 ∧ (0 < k → x = 0) ∧ (1 < k → y = 0) ∧ wr = w) (fun v _ => 2 - (intOf v).toNat)
  case atStart => exact ⟨0, rfl, by decide, fun h => absurd h (by decide), fun h => absurd h (by decide), rfl⟩
  case round =>
    obtain ⟨k, rfl, hk, hx, hy, rfl⟩ := hrel
    match k, hk with
    | 0, _ =>
      cases hd : (x != 0)
      · have hx0 : x = 0 := by simpa using hd
        go_wp2_with fail
        exact ⟨⟨1, by go_num, by decide, fun _ => hx0, fun h => absurd h (by decide), trivial⟩, by simp [intOf]⟩
      · have hx0 : x ≠ 0 := by simpa using hd
        go_wp2_with fail
        go_ret
        exact ⟨ret_int ((or_pos x y hx0).trans HZ.out.symm), rfl⟩
    | 1, _ =>
      have hx0 := hx (by decide)
      cases hd : (y != 0)
      · have hy0 : y = 0 := by simpa using hd
        go_wp2_with fail
        exact ⟨⟨2, by go_num, by decide, fun _ => hx0, fun _ => hy0, trivial⟩, by simp [intOf]⟩
      · go_wp2_with fail
        go_ret
        exact ⟨ret_int ((or_zero x y hx0).trans HZ.out.symm), rfl⟩
    | 2, _ =>
      have hx0 := hx (by decide)
      have hy0 := hy (by decide)
      go_wp2_with fail
      go_ret
      exact ⟨ret_int (hy0.symm.trans ((or_zero x y hx0).trans HZ.out.symm)), rfl⟩

set_option maxHeartbeats 2000000 in
theorem order_any (a b c d z : Int) (hz : Co.ord (a, b) (c, d) = z) (w : World) : Calls Tryz.prog 124 #[.agg #[.int .i64 a, .int .i64 b], .agg #[.int .i64 c, .int .i64 d]] w fun e w' => e = .returned (.int .i64 z) ∧ Grows w w' := by
  have HZ : Hid (z = if Co.ci a c ≠ 0 then Co.ci a c else Co.ci b d) := hz.symm
  have HC1 := hide (fun W => cmpI_any a c W)
  have HC2 := hide (fun W => cmpI_any b d W)
  generalize Co.ci a c = x at HZ HC1
  generalize Co.ci b d = y at HZ HC2
  clear hz
  go_enter Tryz.func124, Tryz.ntmps124
  go_wp2_with fail
  have T1 := two_below (balloc (brefl _) (.cells #[.int .i64 c, .int .i64 d] 39)) (two_new w a b 39)
  have T2 := two_new (w.alloc (.cells #[.int .i64 a, .int .i64 b] 39)) c d 39
  have G0 := hide (((Grows.refl w).alloc (.cells #[.int .i64 a, .int .i64 b] 39)).alloc (.cells #[.int .i64 c, .int .i64 d] 39))
  rw [show (w.alloc (.cells #[.int .i64 a, .int .i64 b] 39)).heap.size = w.heap.size + 1 by simp] at T2
  generalize (w.alloc (.cells #[.int .i64 a, .int .i64 b] 39)).alloc (.cells #[.int .i64 c, .int .i64 d] 39) = W0 at *
  generalize w.heap.size = R at *
  generalize R + 1 = R2 at *
  obtain ⟨t0, t1, t2, _⟩ := T1
  obtain ⟨s0, s1, s2, _⟩ := T2
  go_region_held_law (fun w' => w'.cell? ⟨R, 0, none⟩ = some (.int .i64 a) ∧ w'.cell? ⟨R, 1, none⟩ = some (.int .i64 b) ∧ w'.cell? ⟨R2, 0, none⟩ = some (.int .i64 c) ∧ w'.cell? ⟨R2, 1, none⟩ = some (.int .i64 d))
    (first
      | exact ⟨t0, t1, s0, s1⟩
      | (refine ⟨(World.cell?_alloc_past _ _ _ (by first | exact t2 | (simp; omega))).trans ?_, (World.cell?_alloc_past _ _ _ (by first | exact t2 | (simp; omega))).trans ?_, (World.cell?_alloc_past _ _ _ (by first | exact s2 | (simp; omega))).trans ?_, (World.cell?_alloc_past _ _ _ (by first | exact s2 | (simp; omega))).trans ?_⟩ <;> (go_split_ands; assumption)))
    (first | (go_at_call_of 153 (Value.int .i64 a); refine (HC1.out _).mono ?_; rintro _ _ ⟨rfl, rfl⟩) | (go_at_call_of 153 (Value.int .i64 b); refine (HC2.out _).mono ?_; rintro _ _ ⟨rfl, rfl⟩) | (go_at_call 152; refine (or_two _ _ x y z HZ.out _ (by simp [go_sem]) (by simp [go_sem])).mono ?_; rintro _ _ ⟨rfl, rfl⟩))
  go_wp2_with fail
  go_ret
  exact ⟨rfl, (G0.out.alloc _).drewN 1⟩
theorem order_is (a b c d z : Int) (hz : Co.ord (a, b) (c, d) = z) (w : World) : Calls Tryz.prog 124 #[.agg #[.int .i64 a, .int .i64 b], .agg #[.int .i64 c, .int .i64 d]] w fun e w' => e = .returned (.int .i64 z) ∧ Below w.heap.size w w' :=
  (order_any a b c d z hz w).mono fun _ _ ⟨h1, h2⟩ => ⟨h1, h2.below⟩
end Go.Proofs.YtngfoijmknclhaaGreatDoor.Cm
