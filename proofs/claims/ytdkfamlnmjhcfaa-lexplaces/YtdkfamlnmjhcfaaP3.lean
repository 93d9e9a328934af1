/- Parts of a text: quoted. -/
import Derived.Test.YtdkfamlnmjhcfaaP2
namespace Go.Proofs.Ytdkfamlnmjhcfaa
open Go.RowKit Go.Sort

theorem bdrewN {w W : World} (h : Below w.heap.size w W) (n : Nat) : Below w.heap.size w (W.drewN n) := ⟨h.os, h.tape, h.output, h.size, h.block⟩
set_option maxHeartbeats 2000000 in
set_option maxRecDepth 100000 in
theorem quoted_is (s : ByteArray) (hs : s.size ≤ 100000) (h1 : 1 ≤ s.size) (w : World) : Calls Try.prog 27 #[.string s] w fun e w' => e = .returned (quo ((lst s).drop 1)).pc ∧ Below w.heap.size w w' := by
  have N0 := hide (heap_new w #[.int .i64 0, .string ⟨#[]⟩, .int .i64 0, .int .i64 0, .int .i64 0] 56)
  have B0 := hide (balloc (brefl w) (.cells #[.int .i64 0, .string ⟨#[]⟩, .int .i64 0, .int .i64 0, .int .i64 0] 56))
  obtain ⟨p, hp⟩ : ∃ p, w.heap.size = p := ⟨_, rfl⟩
  have HPW : Hid (w.heap.size ≤ p) := Nat.le_of_eq hp
  rw [hp] at N0
  have R := hide (run_is inQuotes_is (s.extract 1 s.size) (by rw [ByteArray.size_extract]; omega))
  have hx : lst (s.extract 1 s.size) = (lst s).drop 1 := by
    rw [extract_txt, lst_txt, List.take_of_length_le (by rw [List.length_drop, lst_size]; omega)]
  rw [hx] at R
  clear hx
  have hle := takeWhile_le inq ((lst s).drop 1)
  rw [List.length_drop, lst_size] at hle
  have HI : Hid (s.extract 1 (1 + (((lst s).drop 1).takeWhile inq).length) = txt (((lst s).drop 1).takeWhile inq)) := by
    show _ = _
    rw [extract_txt, show 1 + (((lst s).drop 1).takeWhile inq).length - 1 = (((lst s).drop 1).takeWhile inq).length by omega, take_takeWhile]
  have HJ : Hid (s.extract (1 + (((lst s).drop 1).takeWhile inq).length) s.size = txt (((lst s).drop 1).drop (((lst s).drop 1).takeWhile inq).length)) := by
    show _ = _
    rw [extract_txt, List.drop_drop, List.take_of_length_le (by rw [List.length_drop, lst_size]; omega)]
  have HW : Hid (quo ((lst s).drop 1) = match ((lst s).drop 1).drop (((lst s).drop 1).takeWhile inq).length with
    | [] => .fault 0 3
    | d :: _ => if d.toNat ≠ 34 then .fault 0 3 else if 64 < (((lst s).drop 1).takeWhile inq).length then .fault 0 2 else if ((((lst s).drop 1).takeWhile inq).takeWhile txc).length < (((lst s).drop 1).takeWhile inq).length then .fault (1 + ((((lst s).drop 1).takeWhile inq).takeWhile txc).length) 4 else .go ((((lst s).drop 1).takeWhile inq).length + 2) 1 (some (1, ((lst s).drop 1).takeWhile inq))) := rfl
  generalize quo ((lst s).drop 1) = V at *
  generalize ((lst s).drop 1).drop (((lst s).drop 1).takeWhile inq).length = bh at *
  generalize ((lst s).drop 1).takeWhile inq = l at *
  obtain ⟨n, hn⟩ : ∃ n, l.length = n := ⟨_, rfl⟩
  rw [hn] at R HW HI HJ hle
  have R2 := hide (run_is isPlain_is (txt l) (by rw [txt_size]; omega))
  rw [lst_txt] at R2
  generalize (l.takeWhile txc).length = m at *
  have hs1 : (1 : Int) ≤ (s.size : Int) := by omega
  have hn1 : (1 : Int) + (n : Int) ≤ (s.size : Int) := by omega
  go_enter Try.func27, Try.ntmps27
  go_upto_region 1 with fail
  generalize w.alloc (.cells #[.int .i64 0, .string ⟨#[]⟩, .int .i64 0, .int .i64 0, .int .i64 0] 56) = W at *
  clear hp hn
  go_upto_region 2 with (refine (R.out _).mono ?_; rintro e w1 ⟨rfl, rfl⟩)
  go_quiet (fail)
  have B0 := hide (bdrewN B0.out nq)
  have N0 : Hid ((w1.drewN nq).heap[p]? = some (.cells #[.int .i64 0, .string ⟨#[]⟩, .int .i64 0, .int .i64 0, .int .i64 0] 56 (0, 0))) := N0
  generalize w1.drewN nq = W2 at *
  rw [HI.out, HJ.out]
  clear HI HJ R hle hn1 hs1 h1 hs
  obtain ⟨⟨z0, z1, z2, z3, z4⟩, y0, y1, y2, y3, y4⟩ := five_cells N0.out
  cases bh with
  | nil =>
    have HV : Hid (V = .fault 0 3) := HW.out
    clear HW
    go_wp2_with fail
    rw [HV.out, pc_fault]
    refine bodyPost_ret (v := .agg #[.int .i64 0, .string ⟨#[]⟩, .int .i64 0, .int .i64 0, .int .i64 3]) ?_ rfl ⟨rfl, bset5 B0.out HPW.out (.int .i64 0) (.string ⟨#[]⟩) (.int .i64 0) (.int .i64 0) (.int .i64 3)⟩
    obtain ⟨⟨t0, t1, t2, t3, t4⟩, _⟩ := five_cells (five_set N0.out (.int .i64 0) (.string ⟨#[]⟩) (.int .i64 0) (.int .i64 0) (.int .i64 3))
    simp [results, Try.results27, go_sem, t0, t1, t2, t3, t4]
  | cons d tl =>
    have HD : Hid ((txt (d :: tl)).size = tl.length + 1) := by show _ = _; rw [txt_size]; rfl
    obtain ⟨bs, hbs⟩ : ∃ bs, txt (d :: tl) = bs := ⟨_, rfl⟩
    have hz : bs.size = tl.length + 1 := by rw [← hbs]; exact HD.out
    have he : bs.toList.isEmpty = false := by
      rw [← hbs]
      cases hh : (txt (d :: tl)).toList with
      | nil => have := congrArg List.length hh; simp at this
      | cons a b => rfl
    have h0 : 0 < bs.size := by omega
    have hg : bs[0] = d := by subst hbs; rfl
    rw [hbs]
    clear hbs HD hz
    have HW2 : Hid (V = if d.toNat ≠ 34 then .fault 0 3 else if 64 < n then .fault 0 2 else if m < n then .fault (1 + m) 4 else .go (n + 2) 1 (some (1, l))) := HW.out
    clear HW
    have hd256 : d.toNat < 256 := d.toNat_lt
    by_cases h34 : d.toNat = 34
    · have e34 : (bs[0].toNat : Int) = 34 := by rw [hg, h34]; rfl
      have HW3 : Hid (V = if 64 < n then .fault 0 2 else if m < n then .fault (1 + m) 4 else .go (n + 2) 1 (some (1, l))) := by
        show _ = _
        rw [HW2.out, if_neg (by simp [h34])]
      clear hg h34 HW2 hd256
      by_cases h64 : 64 < n
      · have h64' : (64 : Int) < (n : Int) := by omega
        have HV : Hid (V = .fault 0 2) := by show _ = _; rw [HW3.out, if_pos h64]
        clear HW3 h64
        go_wp2_with fail
        rw [HV.out, pc_fault]
        refine bodyPost_ret (v := .agg #[.int .i64 0, .string ⟨#[]⟩, .int .i64 0, .int .i64 0, .int .i64 2]) ?_ rfl ⟨rfl, bset5 B0.out HPW.out (.int .i64 0) (.string ⟨#[]⟩) (.int .i64 0) (.int .i64 0) (.int .i64 2)⟩
        obtain ⟨⟨t0, t1, t2, t3, t4⟩, _⟩ := five_cells (five_set N0.out (.int .i64 0) (.string ⟨#[]⟩) (.int .i64 0) (.int .i64 0) (.int .i64 2))
        simp [results, Try.results27, go_sem, t0, t1, t2, t3, t4]
      · have h64' : ¬ (64 : Int) < (n : Int) := by omega
        have HW4 : Hid (V = if m < n then .fault (1 + m) 4 else .go (n + 2) 1 (some (1, l))) := by show _ = _; rw [HW3.out, if_neg h64]
        clear HW3
        by_cases hm : m < n
        · have hm' : (m : Int) < (n : Int) := by omega
          have hm9 : (m : Int) ≤ 64 := by omega
          have HV : Hid (V = .fault (1 + m) 4) := by show _ = _; rw [HW4.out, if_pos hm]
          clear HW4 hm h64
          go_wp2_with (refine (R2.out _).mono ?_; rintro e w3 ⟨rfl, rfl⟩)
          rw [HV.out, pc_fault]
          refine bodyPost_ret (v := .agg #[.int .i64 0, .string ⟨#[]⟩, .int .i64 0, .int .i64 (1 + (m : Int)), .int .i64 4]) ?_ rfl ⟨by rw [Int.natCast_add]; rfl, bset5 B0.out HPW.out (.int .i64 0) (.string ⟨#[]⟩) (.int .i64 0) (.int .i64 (1 + (m : Int))) (.int .i64 4)⟩
          obtain ⟨⟨t0, t1, t2, t3, t4⟩, _⟩ := five_cells (five_set N0.out (.int .i64 0) (.string ⟨#[]⟩) (.int .i64 0) (.int .i64 (1 + (m : Int))) (.int .i64 4))
          simp [results, Try.results27, go_sem, t0, t1, t2, t3, t4]
        · have hm' : ¬ (m : Int) < (n : Int) := by omega
          have HV : Hid (V = .go (n + 2) 1 (some (1, l))) := by show _ = _; rw [HW4.out, if_neg hm]
          have hn9 : (n : Int) ≤ 64 := by omega
          clear HW4 hm h64
          go_wp2_with (refine (R2.out _).mono ?_; rintro e w3 ⟨rfl, rfl⟩)
          rw [HV.out, pc_go]
          refine bodyPost_ret (v := .agg #[.int .i64 1, .string (txt l), .int .i64 ((n : Int) + 2), .int .i64 0, .int .i64 0]) ?_ rfl ⟨by rw [Int.natCast_add]; rfl, bset5 B0.out HPW.out (.int .i64 1) (.string (txt l)) (.int .i64 ((n : Int) + 2)) (.int .i64 0) (.int .i64 0)⟩
          obtain ⟨⟨t0, t1, t2, t3, t4⟩, _⟩ := five_cells (five_set N0.out (.int .i64 1) (.string (txt l)) (.int .i64 ((n : Int) + 2)) (.int .i64 0) (.int .i64 0))
          simp [results, Try.results27, go_sem, t0, t1, t2, t3, t4]
    · have e34 : ¬ (bs[0].toNat : Int) = 34 := by rw [hg]; omega
      have HV : Hid (V = .fault 0 3) := by show _ = _; rw [HW2.out, if_pos h34]
      clear hg h34 HW2 hd256
      go_wp2_with fail
      rw [HV.out, pc_fault]
      refine bodyPost_ret (v := .agg #[.int .i64 0, .string ⟨#[]⟩, .int .i64 0, .int .i64 0, .int .i64 3]) ?_ rfl ⟨rfl, bset5 B0.out HPW.out (.int .i64 0) (.string ⟨#[]⟩) (.int .i64 0) (.int .i64 0) (.int .i64 3)⟩
      obtain ⟨⟨t0, t1, t2, t3, t4⟩, _⟩ := five_cells (five_set N0.out (.int .i64 0) (.string ⟨#[]⟩) (.int .i64 0) (.int .i64 0) (.int .i64 3))
      simp [results, Try.results27, go_sem, t0, t1, t2, t3, t4]
end Go.Proofs.Ytdkfamlnmjhcfaa
