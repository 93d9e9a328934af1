/- The contracts of the document's Prepend and Of. -/
import Derived.Test.YtnbedjgjkoeflaaDoorH4
namespace Go.Proofs.YtnbedjgjkoeflaaDoor
open Go.RowKit Go.Sort

/-- A path and an error's number. -/
def PathGood (w : World) (x : List Int) (q : Int) (e : Ending) (w' : World) : Prop := ∃ (o : Option Addr) (c : Nat), e = .returned (.tuple #[.slice o x.length c, .int .i64 q]) ∧ w'.ownsRow w.heap.size 3 1 (.slice o x.length c) x.length (Is.cells x) ∧ Below w.heap.size w w'

def Is.prepend (l : List Int) (n t : Int) : List Int × Int :=
  if Is.may l = true ∧ Is.as n = true ∧ 0 ≤ t then (if 16 < (l.length : Int) + t then ([], 2) else (List.replicate t.toNat n ++ l, 0)) else ([], 1)
theorem Is.prepend_cases (l : List Int) (n t : Int) (x : List Int) (q : Int) (h : Is.prepend l n t = (x, q)) :
    (Is.may l = false ∧ x = [] ∧ q = 1) ∨ (Is.may l = true ∧ Is.as n = false ∧ x = [] ∧ q = 1) ∨ (Is.may l = true ∧ Is.as n = true ∧ t < 0 ∧ x = [] ∧ q = 1) ∨ (Is.may l = true ∧ Is.as n = true ∧ 16 < t ∧ x = [] ∧ q = 2) ∨
    (Is.may l = true ∧ Is.as n = true ∧ 0 ≤ t ∧ t ≤ 16 ∧ 16 < (l.length : Int) + t ∧ x = [] ∧ q = 2) ∨ (Is.may l = true ∧ Is.as n = true ∧ 0 ≤ t ∧ (l.length : Int) + t ≤ 16 ∧ x = List.replicate t.toNat n ++ l ∧ q = 0) := by
  unfold Is.prepend at h
  cases hm : Is.may l
  · left
    rw [hm, if_neg (by simp)] at h
    simp at h
    exact ⟨rfl, h.1, h.2.symm⟩
  · right
    cases ha : Is.as n
    · left
      rw [ha, if_neg (by simp)] at h
      simp at h
      exact ⟨rfl, rfl, h.1, h.2.symm⟩
    · right
      by_cases ht : t < 0
      · left
        rw [if_neg (by omega)] at h
        simp at h
        exact ⟨rfl, rfl, ht, h.1, h.2.symm⟩
      · right
        rw [if_pos ⟨hm, ha, by omega⟩] at h
        by_cases h16 : 16 < (l.length : Int) + t
        · rw [if_pos h16] at h
          simp at h
          by_cases h2 : 16 < t
          · exact .inl ⟨rfl, rfl, h2, h.1, h.2.symm⟩
          · exact .inr (.inl ⟨rfl, rfl, by omega, by omega, h16, h.1, h.2.symm⟩)
        · rw [if_neg h16] at h
          simp only [Prod.mk.injEq] at h
          exact .inr (.inr ⟨rfl, rfl, by omega, by omega, h.1.symm, h.2.symm⟩)

theorem path_none (w : World) (q : Int) {w' : World} (hb : Below w.heap.size w w') : PathGood w [] q (.returned (.tuple #[.slice none 0 0, .int .i64 q])) w' := ⟨none, 0, rfl, World.ownsRow_nil _ _ _ _, hb⟩

set_option maxHeartbeats 4000000 in
theorem refPrepend_is (ao : Option Addr) (ca : Nat) (l : List Int) (n t : Int) (x : List Int) (q : Int) (h : Is.prepend l n t = (x, q)) (w : World) (hA : Is.slot w ao l) (hC : came ao ca) (hl : l.length ≤ 300) :
    Calls Tryd.prog 19 #[.slice ao l.length ca, .int .i64 n, .int .i64 t] w (PathGood w x q) := by
  have hcs := Is.prepend_cases l n t x q h
  have HA := hide hA
  have HC := hide hC
  clear h hC
  rcases hcs with ⟨hm, rfl, rfl⟩ | ⟨hm, ha, rfl, rfl⟩ | ⟨hm, ha, ht, rfl, rfl⟩ | ⟨hm, ha, ht, rfl, rfl⟩ | ⟨hm, ha, ht, h16, hlt, rfl, rfl⟩ | ⟨hm, ha, ht, hlt, hx, rfl⟩
  · have CM := hide (fun W (h : Is.slot W ao l) => refMay_is ao ca l false hm W h hl)
    clear hm
    go_enter Tryd.func19, Tryd.ntmps19
    go_wp2_with fail
    refine (CM.out _ HA.out).mono ?_
    rintro e w1 ⟨rfl, rfl⟩
    go_wp2_with fail
    exact bodyPost_ret (v := .tuple #[.slice none 0 0, .int .i64 1]) (by simp [results, Tryd.results19, go_sem]) rfl (path_none _ _ (brefl _))
  · have CM := hide (fun W (h : Is.slot W ao l) => refMay_is ao ca l true hm W h hl)
    have CA := hide (fun W => refAS_is n false ha W)
    clear hm ha
    go_enter Tryd.func19, Tryd.ntmps19
    go_wp2_with fail
    refine (CM.out _ HA.out).mono ?_
    rintro e w1 ⟨rfl, rfl⟩
    go_wp2_with fail
    refine (CA.out _).mono ?_
    rintro e w1 ⟨rfl, rfl⟩
    go_wp2_with fail
    exact bodyPost_ret (v := .tuple #[.slice none 0 0, .int .i64 1]) (by simp [results, Tryd.results19, go_sem]) rfl (path_none _ _ (brefl _))
  · have CM := hide (fun W (h : Is.slot W ao l) => refMay_is ao ca l true hm W h hl)
    have CA := hide (fun W => refAS_is n true ha W)
    clear hm ha
    go_enter Tryd.func19, Tryd.ntmps19
    go_wp2_with fail
    refine (CM.out _ HA.out).mono ?_
    rintro e w1 ⟨rfl, rfl⟩
    go_wp2_with fail
    refine (CA.out _).mono ?_
    rintro e w1 ⟨rfl, rfl⟩
    go_wp2_with fail
    exact bodyPost_ret (v := .tuple #[.slice none 0 0, .int .i64 1]) (by simp [results, Tryd.results19, go_sem]) rfl (path_none _ _ (brefl _))
  · have CM := hide (fun W (h : Is.slot W ao l) => refMay_is ao ca l true hm W h hl)
    have CA := hide (fun W => refAS_is n true ha W)
    have ht0 : ¬ t < 0 := by omega
    clear hm ha
    go_enter Tryd.func19, Tryd.ntmps19
    go_wp2_with fail
    refine (CM.out _ HA.out).mono ?_
    rintro e w1 ⟨rfl, rfl⟩
    go_wp2_with fail
    refine (CA.out _).mono ?_
    rintro e w1 ⟨rfl, rfl⟩
    go_wp2_with fail
    exact bodyPost_ret (v := .tuple #[.slice none 0 0, .int .i64 2]) (by simp [results, Tryd.results19, go_sem]) rfl (path_none _ _ (brefl _))
  · have CM := hide (fun W (h : Is.slot W ao l) => refMay_is ao ca l true hm W h hl)
    have CA := hide (fun W => refAS_is n true ha W)
    have ht0 : ¬ t < 0 := by omega
    have h160 : ¬ 16 < t := by omega
    clear hm ha
    go_enter Tryd.func19, Tryd.ntmps19
    go_wp2_with fail
    refine (CM.out _ HA.out).mono ?_
    rintro e w1 ⟨rfl, rfl⟩
    go_wp2_with fail
    refine (CA.out _).mono ?_
    rintro e w1 ⟨rfl, rfl⟩
    go_wp2_with fail
    exact bodyPost_ret (v := .tuple #[.slice none 0 0, .int .i64 2]) (by simp [results, Tryd.results19, go_sem]) rfl (path_none _ _ (brefl _))
  · have CM := hide (fun W (h : Is.slot W ao l) => refMay_is ao ca l true hm W h hl)
    have CA := hide (fun W => refAS_is n true ha W)
    obtain ⟨m, rfl⟩ := Int.eq_ofNat_of_zero_le ht
    rw [Int.toNat_natCast] at hx
    have HX := hide hx
    have hm16 : m ≤ 16 := by omega
    have hlm : ¬ (16 : Int) < (l.length : Int) + (m : Int) := by omega
    have h160 : ¬ (16 : Int) < (m : Int) := by omega
    have ht0 : ¬ (m : Int) < 0 := by omega
    have hl16 : l.length ≤ 16 := by omega
    clear hm ha hx ht hlt
    go_enter Tryd.func19, Tryd.ntmps19
    go_wp2_with fail
    refine (CM.out _ HA.out).mono ?_
    rintro e w1 ⟨rfl, rfl⟩
    go_wp2_with fail
    refine (CA.out _).mono ?_
    rintro e w1 ⟨rfl, rfl⟩
    go_wp2_with fail
    go_loopw [8, 9] (fun v8 v9 wr => ∃ (k : Nat) (o : Option Addr) (c : Nat), v9 = .int .i64 k ∧ v8 = .slice o k c ∧ k ≤ m ∧ wr.ownsRow w1.heap.size 3 1 (.slice o k c) k (Is.cells (List.replicate k n)) ∧ Below w1.heap.size w1 wr) (fun _ v9 _ => m - (intOf v9).toNat)
    case atStart => exact ⟨0, none, 0, rfl, rfl, Nat.zero_le _, World.ownsRow_nil _ _ _ _, brefl _⟩
    case round =>
      obtain ⟨k, o, c, rfl, rfl, hk, hown, hbr⟩ := hrel
      have HO := hide hown
      have HBR := hide hbr
      clear hown hbr
      by_cases hkm : k < m
      · have hkm' : (k : Int) < (m : Int) := by omega
        go_wp2_with (at_builtin; go_must (refine append_ints (w0 := w1) rfl _ _ rfl _ k (List.replicate k n) rfl (HO.out.alloc _) (some ⟨wr.heap.size, 0, none⟩) 1 _ [n] rfl rfl (Is.slot_one _ _ _) (came_some _ _ _) (by omega) (balloc HBR.out _) ?_))
        intro v' w2 hnew hb2
        obtain ⟨no, nc, rfl⟩ := row_slice hnew
        have HNW : Hid (w2.ownsRow w1.heap.size 3 1 (.slice no (k + 1) nc) (k + 1) (Is.cells (List.replicate (k + 1) n))) := by
          rw [List.replicate_succ']
          exact hnew
        have B2 := hide hb2
        clear hnew hb2
        go_wp2_with fail
        exact ⟨⟨k + 1, no, nc, by go_num, rfl, by omega, HNW.out, B2.out⟩, by simp [intOf] <;> omega⟩
      · have hkm' : ¬ (k : Int) < (m : Int) := by omega
        obtain rfl : k = m := by omega
        go_wp2_with (at_builtin; go_must (refine append_ints (w0 := w1) rfl _ _ rfl _ k (List.replicate k n) rfl HO.out ao _ ca l rfl rfl (Is.slot_below HA.out HBR.out) HC.out (by omega) HBR.out ?_))
        intro v' w2 hnew hb2
        obtain ⟨no, nc, rfl⟩ := row_slice hnew
        have HXL : Hid (k + l.length = x.length) := by show _ = _; rw [HX.out]; simp
        rw [HXL.out, ← HX.out] at hnew
        rw [HXL.out]
        have HNW := hide hnew
        have B2 := hide hb2
        clear hnew hb2
        go_wp2_with fail
        exact bodyPost_ret (v := .tuple #[.slice no x.length nc, .int .i64 0]) (by simp [results, Tryd.results19, go_sem]) rfl ⟨_, _, rfl, HNW.out, B2.out⟩
end Go.Proofs.YtnbedjgjkoeflaaDoor
