import Derived.Test.YtkhmhmopcofejaaRE
/- The contract of the document's rises. -/
namespace Go.Proofs.Ytkhmhmopcofejaa
open Go.RowKit Go.Sort

theorem gp_may {a b : Int} (h0 : 0 ≤ a) (h1 : a ≤ 4294967295) : Ax.Ad.may a b = decide (Gp (a, b)) := by
  rw [Bool.eq_iff_iff, Ax.Ad.may_iff, decide_eq_true_eq]
  unfold Gp Ax.Ad.cut Ax.Ad.sz
  simp only
  have hz : (0 : Int) < ((2 ^ (32 - b.toNat) : Nat) : Int) := by exact_mod_cast Nat.pow_pos (by decide)
  have key : a / ((2 ^ (32 - b.toNat) : Nat) : Int) * ((2 ^ (32 - b.toNat) : Nat) : Int) = a ↔ a.toNat % 2 ^ (32 - b.toNat) = 0 := by
    have e : a = (a.toNat : Int) := by omega
    generalize 2 ^ (32 - b.toNat) = z at *
    constructor
    · intro h
      have h2 : (a % (z : Int)) = 0 := by
        have := Int.mul_ediv_add_emod a z
        rw [Int.mul_comm] at this
        omega
      rw [e] at h2
      exact_mod_cast h2
    · intro h
      have h3 : (a % (z : Int)) = 0 := by
        rw [e]
        exact_mod_cast h
      have := Int.mul_ediv_add_emod a z
      rw [Int.mul_comm] at this
      omega
  constructor
  · rintro ⟨h2, h3, h4⟩
    exact ⟨h0, h1, h2, h3, key.1 h4⟩
  · rintro ⟨_, _, h2, h3, h4⟩
    exact ⟨h2, h3, key.2 h4⟩
theorem refLt_is (x y : Int × Int) (r : Bool) (h : decide (pLt x y) = r) (w : World) :
    Calls Try.prog 45 #[.agg #[.int .u32 x.1, .int .i64 x.2], .agg #[.int .u32 y.1, .int .i64 y.2]] w fun e w' => e = .returned (.bool r) ∧ Below w.heap.size w w' := by
  have e : (if x.1 = y.1 then decide (x.2 < y.2) else decide (x.1 < y.1)) = r := by
    rw [← h]
    unfold pLt
    split
    · rename_i h
      simp [h]
    · rename_i h
      simp [h]
  rw [← e]
  exact Ax.refBefore_any x.1 x.2 y.1 y.2 w
/-- The first ones rise. -/
def UpsTo (l : List (Int × Int)) (i : Nat) : Prop := (∀ j (h : j < l.length), j < i → Gp l[j]) ∧ ∀ j (h : j + 1 < l.length), j + 1 < i → pLt (l[j]'(by omega)) l[j + 1]
theorem ups_all {l : List (Int × Int)} (h32 : l.length ≤ 32) (h : UpsTo l l.length) : Ups l := by
  refine ⟨h32, fun p hp => ?_, fun i hi => h.2 i hi hi⟩
  obtain ⟨j, hj, rfl⟩ := List.mem_iff_getElem.1 hp
  exact h.1 j hj hj
theorem ups_no32 {l : List (Int × Int)} (h : 32 < l.length) : ¬ Ups l := fun k => by have := k.1; omega
theorem ups_nogp {l : List (Int × Int)} {i : Nat} (hi : i < l.length) (h : ¬ Gp l[i]) : ¬ Ups l := fun k => h (k.2.1 _ (List.getElem_mem hi))
theorem ups_nolt {l : List (Int × Int)} {i : Nat} (hi : i + 1 < l.length) (h : ¬ pLt (l[i]'(by omega)) l[i + 1]) : ¬ Ups l := fun k => h (k.2.2 i hi)
theorem ups_zero {l : List (Int × Int)} (h : 0 < l.length) (hg : Gp l[0]) : UpsTo l 1 :=
  ⟨fun j hj h1 => by obtain rfl : j = 0 := by omega
                     exact hg, fun j hj h1 => absurd h1 (by omega)⟩
theorem ups_step {l : List (Int × Int)} {i : Nat} (hi : i + 1 < l.length) (h : UpsTo l (i + 1)) (hg : Gp l[i + 1]) (hp : pLt (l[i]'(by omega)) l[i + 1]) : UpsTo l (i + 1 + 1) := by
  refine ⟨fun j hj h1 => ?_, fun j hj h1 => ?_⟩
  · rcases Nat.lt_or_ge j (i + 1) with h2 | h2
    · exact h.1 j hj h2
    · obtain rfl : j = i + 1 := by omega
      exact hg
  · rcases Nat.lt_or_ge (j + 1) (i + 1) with h2 | h2
    · exact h.2 j hj h2
    · obtain rfl : j = i := by omega
      exact hp
theorem ups_next {l : List (Int × Int)} {i m : Nat} (hm : i = m + 1) (hi : i < l.length) (h : UpsTo l i) (hg : Gp l[i]) (hp : pLt (l[m]'(by omega)) l[i]) : UpsTo l (i + 1) := by
  subst hm
  exact ups_step hi h hg hp
theorem ups_not {l : List (Int × Int)} {i m : Nat} (hm : i = m + 1) (hi : i < l.length) (hp : ¬ pLt (l[m]'(by omega)) l[i]) : ¬ Ups l := by
  subst hm
  exact ups_nolt hi hp
set_option maxHeartbeats 4000000 in
set_option maxRecDepth 100000 in
theorem refRises_is (ao : Option Addr) (ca : Nat) (l : List (Int × Int)) (r : Bool) (hr : r = true ↔ Ups l) (hf : Ax.Ad.fits l) (hl : l.length ≤ 1000) (w : World) (hA : Ax.Ad.rowAt w ao l) :
    Calls Try.prog 22 #[.slice ao l.length ca] w fun e w' => e = .returned (.bool r) ∧ Below w.heap.size w w' := by
  have HR := hide hr
  have HF := hide hf
  have HA := hide hA
  clear hr hf hA
  have HNO : Hid (¬ Ups l → r = false) := fun h => by
    cases r
    · rfl
    · exact absurd (HR.out.1 rfl) h
  go_enter Try.func22, Try.ntmps22
  go_wp2_with fail
  go_loopw [3] (fun v3 wr => ∃ i : Nat, v3 = .int .i64 i ∧ i ≤ l.length ∧ i ≤ 32 ∧ Hid (UpsTo l i) ∧ Below w.heap.size w wr) (fun v3 _ => l.length - (intOf v3).toNat)
  case atStart => exact ⟨0, rfl, Nat.zero_le _, by decide, ⟨fun _ _ h => absurd h (Nat.not_lt_zero _), fun _ _ h => absurd h (Nat.not_lt_zero _)⟩, brefl w⟩
  case round =>
    obtain ⟨i, rfl, hi, hi32, HU, hb⟩ := hrel
    have HBR := hide hb
    clear hb
    by_cases hil : i < l.length
    · have hil' : (i : Int) < (l.length : Int) := by omega
      obtain ⟨b, off, rfl, hrd⟩ : ∃ b off, ao = some ⟨b, off, none⟩ ∧ Ax.Ad.reads wr b off l := by
        rcases Ax.Ad.rowAt_below HA.out HBR.out with h | h
        · rw [h] at hil; simp at hil
        · exact h
      by_cases h32 : i = 32
      · subst h32
        have HN := hide (HNO.out (ups_no32 hil))
        go_upto_region 4 with fail
        refine wp_region_quiet_below (by kernel_rfl) (by kernel_rfl) ?_
        repeat (go_big_quiet_step (fail))
        refine wpQuiet_nil ?_
        rintro _ ⟨⟨dd, os⟩, rfl⟩
        have hb3 := below_regrown wr dd os
        generalize Sort.grow (redrawn wr dd) os = w3 at hb3
        have B3 := hide (bthen HBR.out hb3)
        clear hb3
        go_wp2_with fail
        go_ret
        exact ⟨ret_bool HN.out.symm, B3.out⟩
      · have h32' : ¬ (32 : Int) ≤ (i : Int) := by omega
        obtain ⟨c0, c1⟩ := Ax.Ad.reads_at hrd i hil
        have hfi := HF.out l[i] (List.getElem_mem hil)
        by_cases hg : Gp l[i]
        · have CM := hide (fun W => Ax.refMay_is l[i].1 l[i].2 true ((gp_may hfi.1 hfi.2).trans (decide_eq_true hg)) W hfi.1 hfi.2)
          by_cases hi0 : i = 0
          · subst hi0
            have HU1 := hide (ups_zero hil hg)
            rw [Nat.zero_mul, Nat.add_zero] at c0 c1
            generalize l[0] = y at *
            obtain ⟨y1, y2⟩ := y
            simp only at *
            have q0 := fun dd os => cell_regrown c0 dd os
            have q1 := fun dd os => cell_regrown c1 dd os
            go_upto_region 4 with fail
            clear c0 c1 hrd hg
            refine wp_region_quiet_below (by kernel_rfl) (by kernel_rfl) ?_
            repeat (go_big_quiet_step ((go_at_call 44; exact Calls.regrown_of (CM.out _))))
            refine wpQuiet_nil ?_
            rintro _ ⟨⟨dd, os⟩, rfl⟩
            have hb3 := below_regrown wr dd os
            generalize Sort.grow (redrawn wr dd) os = w3 at hb3
            have B3 := hide (bthen HBR.out hb3)
            clear hb3
            go_wp2_with fail
            exact ⟨⟨1, by go_num, hil, by decide, HU1, B3.out⟩, by simp [intOf] <;> omega⟩
          · obtain ⟨m, hm⟩ : ∃ m, i = m + 1 := ⟨i - 1, by omega⟩
            obtain ⟨e0, e1⟩ := Ax.Ad.reads_at hrd m (by omega)
            have hgm : Gp (l[m]'(by omega)) := HU.out.1 m (by omega) (by omega)
            have hpos : (0 : Int) < (i : Int) := by omega
            have hposN : 0 < i := by omega
            have hsub : (i : Int) - 1 = (m : Int) := by omega
            have hml : (m : Int) < (l.length : Int) := by omega
            have hmw : IntKind.i64.wrap (m : Int) = (m : Int) := by rw [IntKind.wrap_i64]; omega
            by_cases hp : pLt (l[m]'(by omega)) l[i]
            · have CB := hide (fun W => refLt_is (l[m]'(by omega)) l[i] true (decide_eq_true hp) W)
              have HU1 := hide (ups_next hm hil HU.out hg hp)
              generalize l[i] = y at *
              generalize l[m] = x at *
              obtain ⟨y1, y2⟩ := y
              obtain ⟨x1, x2⟩ := x
              simp only at *
              have q0 := fun dd os => cell_regrown c0 dd os
              have q1 := fun dd os => cell_regrown c1 dd os
              have q2 := fun dd os => cell_regrown e0 dd os
              have q3 := fun dd os => cell_regrown e1 dd os
              go_upto_region 4 with fail
              clear c0 c1 e0 e1 hrd hg hgm hp hm hi0
              refine wp_region_quiet_below (by kernel_rfl) (by kernel_rfl) ?_
              repeat (go_big_quiet_step ((first | (go_at_call 44; exact Calls.regrown_of (CM.out _)) | (go_at_call 45; exact Calls.regrown_of (CB.out _)))))
              refine wpQuiet_nil ?_
              rintro _ ⟨⟨dd, os⟩, rfl⟩
              have hb3 := below_regrown wr dd os
              generalize Sort.grow (redrawn wr dd) os = w3 at hb3
              have B3 := hide (bthen HBR.out hb3)
              clear hb3
              go_wp2_with fail
              exact ⟨⟨i + 1, by go_num, hil, by omega, HU1, B3.out⟩, by simp [intOf] <;> omega⟩
            · have CB := hide (fun W => refLt_is (l[m]'(by omega)) l[i] false (decide_eq_false hp) W)
              have HN := hide (HNO.out (ups_not hm hil hp))
              generalize l[i] = y at *
              generalize l[m] = x at *
              obtain ⟨y1, y2⟩ := y
              obtain ⟨x1, x2⟩ := x
              simp only at *
              have q0 := fun dd os => cell_regrown c0 dd os
              have q1 := fun dd os => cell_regrown c1 dd os
              have q2 := fun dd os => cell_regrown e0 dd os
              have q3 := fun dd os => cell_regrown e1 dd os
              go_upto_region 4 with fail
              clear c0 c1 e0 e1 hrd hg hgm hp hm hi0
              refine wp_region_quiet_below (by kernel_rfl) (by kernel_rfl) ?_
              repeat (go_big_quiet_step ((first | (go_at_call 44; exact Calls.regrown_of (CM.out _)) | (go_at_call 45; exact Calls.regrown_of (CB.out _)))))
              refine wpQuiet_nil ?_
              rintro _ ⟨⟨dd, os⟩, rfl⟩
              have hb3 := below_regrown wr dd os
              generalize Sort.grow (redrawn wr dd) os = w3 at hb3
              have B3 := hide (bthen HBR.out hb3)
              clear hb3
              go_wp2_with fail
              go_ret
              exact ⟨ret_bool HN.out.symm, B3.out⟩
        · have CM := hide (fun W => Ax.refMay_is l[i].1 l[i].2 false ((gp_may hfi.1 hfi.2).trans (decide_eq_false hg)) W hfi.1 hfi.2)
          have HN := hide (HNO.out (ups_nogp hil hg))
          generalize l[i] = y at *
          obtain ⟨y1, y2⟩ := y
          simp only at *
          have q0 := fun dd os => cell_regrown c0 dd os
          have q1 := fun dd os => cell_regrown c1 dd os
          go_upto_region 4 with fail
          clear c0 c1 hrd hg
          refine wp_region_quiet_below (by kernel_rfl) (by kernel_rfl) ?_
          repeat (go_big_quiet_step ((go_at_call 44; exact Calls.regrown_of (CM.out _))))
          refine wpQuiet_nil ?_
          rintro _ ⟨⟨dd, os⟩, rfl⟩
          have hb3 := below_regrown wr dd os
          generalize Sort.grow (redrawn wr dd) os = w3 at hb3
          have B3 := hide (bthen HBR.out hb3)
          clear hb3
          go_wp2_with fail
          go_ret
          exact ⟨ret_bool HN.out.symm, B3.out⟩
    · obtain rfl : i = l.length := by omega
      have HN := hide (HR.out.2 (ups_all hi32 HU.out))
      go_wp2_with fail
      go_ret
      exact ⟨ret_bool HN.out.symm, HBR.out⟩
end Go.Proofs.Ytkhmhmopcofejaa
