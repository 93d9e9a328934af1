/- The contracts of the document's Place. -/
import Derived.Test.YtdkfamlnmjhcfaaA1
namespace Go.Proofs.Ytdkfamlnmjhcfaa
open Go.RowKit Go.Sort

theorem two_cells {w : World} {b y : Nat} {x0 x1 : Value} (h : w.heap[b]? = some (.cells #[x0, x1] y (0, 0))) : w.cell? ⟨b, 0, none⟩ = some x0 ∧ w.cell? ⟨b, 1, none⟩ = some x1 ∧ w.frozen? ⟨b, 0, none⟩ = false ∧ w.frozen? ⟨b, 1, none⟩ = false := by
  simp [World.cell?, World.frozen?, h]
theorem set0 {w : World} {b t : Nat} {x0 x1 : Value} (h : w.heap[b]? = some (.cells #[x0, x1] t (0, 0))) (v : Value) : (w.setCell ⟨b, 0, none⟩ v).heap[b]? = some (.cells #[v, x1] t (0, 0)) := heap_setCell_same w b 0 _ t v h
theorem set1 {w : World} {b t : Nat} {x0 x1 : Value} (h : w.heap[b]? = some (.cells #[x0, x1] t (0, 0))) (v : Value) : (w.setCell ⟨b, 1, none⟩ v).heap[b]? = some (.cells #[x0, v] t (0, 0)) := heap_setCell_same w b 1 _ t v h
theorem set_far {w : World} {b o j : Nat} {v : Value} {x : Obj} (h : w.heap[j]? = some x) (hn : j ≠ b) : (w.setCell ⟨b, o, none⟩ v).heap[j]? = some x := (Below.heap_setCell w ⟨b, o, none⟩ v j hn).trans h
theorem plc_ten {l : List UInt8} {k : Nat} (h : k < l.length) (hc : l[k].toNat = 10) : plc l (k + 1) = ((plc l k).1 + 1, 1) := by
  rw [plc_succ h]
  unfold plS
  rw [if_pos (UInt8.toNat_inj.1 hc)]
theorem plc_one {l : List UInt8} {k : Nat} (h : k < l.length) (hc : ¬ l[k].toNat = 10) : plc l (k + 1) = ((plc l k).1, (plc l k).2 + 1) := by
  rw [plc_succ h]
  unfold plS
  rw [if_neg (fun e => hc (by rw [e]; rfl))]
set_option maxHeartbeats 1000000 in
set_option maxRecDepth 100000 in
theorem refPlace_is (s : ByteArray) (k : Int) (hs : s.size ≤ 100000) (w : World) :
    Calls Try.prog 13 #[.string s, .int .i64 k] w fun e w' => e = .returned (.agg #[.int .i64 ((plc (lst s) k.toNat).1 : Nat), .int .i64 ((plc (lst s) k.toNat).2 : Nat)]) ∧ Below w.heap.size w w' := by
  have B0 := hide (balloc (balloc (brefl w) (.cells #[.int .i64 0, .int .i64 0] 25)) (.cells #[.int .i64 1, .int .i64 1] 25))
  have NP := hide (heap_new (w.alloc (.cells #[.int .i64 0, .int .i64 0] 25)) #[.int .i64 1, .int .i64 1] 25)
  have NQ := hide (((balloc (brefl (w.alloc (.cells #[.int .i64 0, .int .i64 0] 25))) (.cells #[.int .i64 1, .int .i64 1] 25)).block w.heap.size (by simp)).trans (heap_new w #[.int .i64 0, .int .i64 0] 25))
  have HS : Hid ((w.alloc (.cells #[.int .i64 0, .int .i64 0] 25)).heap.size = w.heap.size + 1) := by show _ = _; simp
  rw [HS.out] at NP
  clear HS
  go_enter Try.func13, Try.ntmps13
  go_wp2_with fail
  generalize (w.alloc (.cells #[.int .i64 0, .int .i64 0] 25)).alloc (.cells #[.int .i64 1, .int .i64 1] 25) = W at *
  obtain ⟨p, hp⟩ : ∃ p, w.heap.size + 1 = p := ⟨_, rfl⟩
  obtain ⟨q, hq⟩ : ∃ q, w.heap.size = q := ⟨_, rfl⟩
  have HPQ : Hid (p ≠ q ∧ q ≠ p ∧ w.heap.size ≤ p ∧ w.heap.size ≤ q) := ⟨by omega, by omega, by omega, by omega⟩
  rw [hp] at NP
  rw [hq] at NQ
  rw [hp, hq]
  clear hp hq
  go_loopw [6] (fun v6 wr => ∃ i : Nat, v6 = .int .i64 i ∧ i ≤ s.size ∧ i ≤ k.toNat ∧ Hid (wr.heap[p]? = some (.cells #[.int .i64 ((plc (lst s) i).1 : Nat), .int .i64 ((plc (lst s) i).2 : Nat)] 25 (0, 0))) ∧ Hid (wr.heap[q]? = some (.cells #[.int .i64 0, .int .i64 0] 25 (0, 0))) ∧ Hid (Below w.heap.size w wr)) (fun v6 _ => s.size - (intOf v6).toNat)
  case atStart => exact ⟨0, rfl, Nat.zero_le _, Nat.zero_le _, NP, NQ, B0⟩
  case round =>
    obtain ⟨i, rfl, hi, hik, HP, HQ, HB⟩ := hrel
    obtain ⟨c0, c1, f0, f1⟩ := two_cells HP.out
    have hbd := plc_bounds (lst s) i (by simpa using hi)
    by_cases hc : i < s.size ∧ (i : Int) < k
    · have h1 : (i : Int) < (s.size : Int) := by omega
      have h2 : (i : Int) < k := hc.2
      have hil : i < (lst s).length := by simpa using hc.1
      have hget : s[i] = (lst s)[i] := rfl
      have hx256 : (lst s)[i].toNat < 256 := (lst s)[i].toNat_lt
      by_cases h10 : (lst s)[i].toNat = 10
      · have HT := hide (plc_ten hil h10)
        have e10 : (s[i].toNat : Int) = 10 := by rw [hget, h10]; rfl
        generalize plc (lst s) i = pp at *
        obtain ⟨pa, pb⟩ := pp
        simp only at *
        have HP3 := hide (set1 (set0 (set1 HP.out (.int .i64 ((pb : Int) + 1))) (.int .i64 ((pa : Int) + 1))) (.int .i64 1))
        have HQ3 := hide (set_far (o := 1) (v := .int .i64 1) (set_far (o := 0) (v := .int .i64 ((pa : Int) + 1)) (set_far (o := 1) (v := .int .i64 ((pb : Int) + 1)) HQ.out HPQ.out.2.1) HPQ.out.2.1) HPQ.out.2.1)
        have HB3 := hide (bset (bset (bset HB.out (p := ⟨p, 1, none⟩) HPQ.out.2.2.1 (.int .i64 ((pb : Int) + 1))) (p := ⟨p, 0, none⟩) HPQ.out.2.2.1 (.int .i64 ((pa : Int) + 1))) (p := ⟨p, 1, none⟩) HPQ.out.2.2.1 (.int .i64 1))
        clear hget h10
        go_wp2_with fail
        refine ⟨⟨i + 1, by go_num, hc.1, by omega, ?_, HQ3, HB3⟩, by simp [intOf]; omega⟩
        rw [HT.out]
        exact HP3
      · have HT := hide (plc_one hil h10)
        have e10 : ¬ (s[i].toNat : Int) = 10 := by rw [hget]; omega
        generalize plc (lst s) i = pp at *
        obtain ⟨pa, pb⟩ := pp
        simp only at *
        have HP3 := hide (set1 HP.out (.int .i64 ((pb : Int) + 1)))
        have HQ3 := hide (set_far (o := 1) (v := .int .i64 ((pb : Int) + 1)) HQ.out HPQ.out.2.1)
        have HB3 := hide (bset HB.out (p := ⟨p, 1, none⟩) HPQ.out.2.2.1 (.int .i64 ((pb : Int) + 1)))
        clear hget h10
        go_wp2_with fail
        refine ⟨⟨i + 1, by go_num, hc.1, by omega, ?_, HQ3, HB3⟩, by simp [intOf]; omega⟩
        rw [HT.out]
        exact HP3
    · have HE : Hid (plc (lst s) k.toNat = plc (lst s) i) := by
        show _ = _
        rcases Nat.lt_or_ge i s.size with h | h
        · rw [show k.toNat = i by omega]
        · obtain rfl : i = s.size := by omega
          rw [← lst_size s]
          exact plc_over (by rw [lst_size]; omega)
      have hcc : (decide ((i : Int) < (s.size : Int)) && decide ((i : Int) < k)) = false := by
        rw [Bool.and_eq_false_iff, decide_eq_false_iff_not, decide_eq_false_iff_not]
        omega
      generalize plc (lst s) i = pp at *
      obtain ⟨pa, pb⟩ := pp
      simp only at *
      obtain ⟨z0, z1, y0, y1⟩ := two_cells HQ.out
      have HQ3 := hide (set1 (set0 HQ.out (.int .i64 (pa : Int))) (.int .i64 (pb : Int)))
      have HB3 := hide (bset (bset HB.out (p := ⟨q, 0, none⟩) HPQ.out.2.2.2 (.int .i64 (pa : Int))) (p := ⟨q, 1, none⟩) HPQ.out.2.2.2 (.int .i64 (pb : Int)))
      obtain ⟨t0, t1, _, _⟩ := two_cells HQ3.out
      by_cases h1 : (i : Int) < (s.size : Int)
      all_goals
        first
          | (have h2 : ¬ (i : Int) < k := by omega)
          | skip
        go_wp2_with fail
        refine bodyPost_ret (v := .agg #[.int .i64 (pa : Int), .int .i64 (pb : Int)]) ?_ rfl ⟨by rw [HE.out], HB3.out⟩
        simp [results, Try.results13, go_sem, t0, t1]
end Go.Proofs.Ytdkfamlnmjhcfaa
