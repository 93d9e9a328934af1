/- The program's Join. -/
import Derived.Test.YtdkfamlnmjhcfaaJ0
import Derived.Test.YtdkfamlnmjhcfaaSh
namespace Go.Proofs.Ytdkfamlnmjhcfaa
open Go.RowKit Go.Sort

set_option maxHeartbeats 4000000 in
set_option maxRecDepth 100000 in
theorem joinS_is (ao : Option Addr) (c : Nat) (l : List Tv) (hl : l.length ≤ 100000) (hz : ∀ t ∈ l, t.s.size ≤ 1000) (w : World) (hr : Tv.slot w ao l) : Calls Try.prog 8 #[.slice ao l.length c] w fun e w' => e = .returned (.string (txt (join l))) ∧ Below w.heap.size w w' := by
  have HR := hide hr
  have HZ := hide hz
  clear hr hz
  obtain ⟨N, hN⟩ : ∃ N, l.length = N := ⟨_, rfl⟩
  have HN := hide hN
  rw [hN] at hl ⊢
  clear hN
  have I0 := hide (Lib.fresh_isBuilder 47 5 w)
  have B0 := hide (balloc (brefl w) (.cells #[.pointer none, .slice none 0 0] 47))
  obtain ⟨b, hb⟩ : ∃ b, w.heap.size = b := ⟨_, rfl⟩
  have HBE : Hid (w.heap.size = b) := hb
  go_enter Try.func8, Try.ntmps8
  go_wp2_with fail
  have I0 : Hid (Lib.IsBuilder 47 5 w.heap.size b (Lib.byteCells (join (l.take 0))) (w.alloc (.cells #[.pointer none, .slice none 0 0] 47))) := by rw [← HBE.out]; exact I0
  generalize w.alloc (.cells #[.pointer none, .slice none 0 0] 47) = W1 at *
  clear hb
  go_loopw [8] (fun v8 wr => ∃ i : Nat, v8 = .int .i64 (i : Int) ∧ i ≤ N ∧ Hid (Lib.IsBuilder 47 5 w.heap.size b (Lib.byteCells (join (l.take i))) wr) ∧ Hid (Below w.heap.size w wr)) (fun v8 _ => N - (intOf v8).toNat)
  case atStart => exact ⟨0, rfl, Nat.zero_le _, I0, B0⟩
  case round =>
    clear I0 B0
    obtain ⟨i, rfl, hi, HI, HB⟩ := hrel
    rcases Nat.lt_or_ge i N with hlt | hge
    · have hil : i < l.length := by have := HN.out; omega
      have h1 : (i : Int) < (N : Int) := by omega
      have HJ := hide (join_take hil)
      have HJZ : Hid ((join (l.take i)).length ≤ 100000 * 1010) := by
        have h := join_size (l.take i) (fun t ht => HZ.out t (List.mem_of_mem_take ht))
        rw [List.length_take] at h
        show _ ≤ _
        omega
      obtain ⟨g0, off, rfl, hat⟩ : ∃ b off, ao = some ⟨b, off, none⟩ ∧ ∀ j (h : j < l.length), Tv.at_ w b (off + j * 4) l[j] := by
        rcases HR.out with h | h
        · rw [h] at hil; simp at hil
        · exact h
      have hg0 : g0 < w.heap.size := World.block_lt_of_cell? w _ (hat i hil).1
      have hcell : ∀ o, wr.cell? ⟨g0, o, none⟩ = w.cell? ⟨g0, o, none⟩ := fun o => HB.out.cell (p := ⟨g0, o, none⟩) hg0
      obtain ⟨a0, a1, a2, a3⟩ := hat i hil
      rw [← hcell] at a0 a1 a2 a3
      have HAT := hide hat
      have hz := HZ.out l[i] (List.getElem_mem hil)
      clear hat hcell
      have HLI : Hid (∀ j (h : j < l.length), j + 1 = i → sep (l.take i) = if l[j].k = 2 then [] else [32]) := by
        rintro j h rfl
        exact sep_succ h
      generalize l[i] = t at *
      obtain ⟨tk, tt, tp, tq⟩ := t
      simp only at a0 a1 a2 a3 hz
      have A1 := hide (balloc (brefl wr) (.cells #[.int .i64 tk, .string tt, .int .i64 tp, .int .i64 tq] 38))
      have HT2 := hide (heap_new wr #[.int .i64 tk, .string tt, .int .i64 tp, .int .i64 tq] 38)
      have HI2 := hide (builder_below HI.out A1.out)
      have HB2 := hide (bthen HB.out A1.out)
      have HGB0 : Hid (wr.heap.size ≠ b) := by
        rcases HI.out with h | h
        · exact fun e => by have := h.lt; omega
        · exact fun e => by have := h.lt; omega
      have hg0w : g0 < wr.heap.size := Nat.lt_of_lt_of_le hg0 HB.out.size
      go_upto_region 5 with fail
      clear a0 a1 a2 a3
      obtain ⟨g, hg⟩ : ∃ g, wr.heap.size = g := ⟨_, rfl⟩
      have HGB : Hid (g ≠ b) := by rw [← hg]; exact HGB0
      rw [hg] at HT2 ⊢
      generalize wr.alloc (.cells #[.int .i64 tk, .string tt, .int .i64 tp, .int .i64 tq] 38) = W2 at *
      clear hg HGB0 HI HB A1
      rcases Nat.eq_zero_or_pos i with rfl | hip
      · have HSEP : Hid (sep (l.take 0) = []) := rfl
        have HPRE : Hid (join (l.take 0) = []) := rfl
        go_upto_region 7 with fail
        by_cases k2 : tk = 2
        · subst k2
          have HE : Hid (join (l.take 0) ++ lst tt ++ [10] = join (l.take (0 + 1))) := by show _ = _; rw [HJ.out, HSEP.out]; simp [Tv.own, lst]
          have CT := hide (written_plain 2 (by decide) tt tp tq)
          obtain ⟨c0, c1, c2, c3⟩ := four_cells HT2.out
          go_wp2_with fail
          refine (CT.out _).mono ?_
          rintro e W7 ⟨rfl, b7⟩
          have HI7 := hide (builder_below HI2.out b7)
          have HB7 := hide (bthen HB2.out b7)
          have HT7 := hide ((b7.block g (heap_lt HT2.out)).trans HT2.out)
          clear CT b7 c0 c1 c2 c3 HI2 HB2 HT2
          have CS := hide (writeString_keep w.heap.size b (Lib.byteCells (join (l.take 0))) tt W7 HI7.out (by rw [Lib.byteCells_length]; have := HJZ.out; (try simp only [List.length_append, List.length_cons, List.length_nil, ByteArray.size_append, one_size]); omega) (by have := HB7.out.size; omega))
          go_wp2_with fail
          refine CS.out.mono ?_
          rintro e W8 ⟨rfl, i8, b8, k8⟩
          have HI8 : Hid (Lib.IsBuilder 47 5 w.heap.size b (Lib.byteCells (join (l.take 0) ++ lst tt)) W8) := by rw [Lib.byteCells_append]; exact i8
          have HB8 := hide (HB7.out.trans b8)
          have HT8 := hide (k8 _ _ _ _ HT7.out (by decide) HGB.out)
          clear CS i8 b8 k8 HI7 HB7 HT7
          obtain ⟨c0, c1, c2, c3⟩ := four_cells HT8.out
          have hzt : (lst tt).length ≤ 1000 := by rw [lst_size]; exact hz
          have CW9 := hide (writeByte_keep w.heap.size b (Lib.byteCells (join (l.take 0) ++ lst tt)) 10 W8 HI8.out (by rw [Lib.byteCells_length]; have := HJZ.out; (try simp only [List.length_append]); omega) (by have := HB8.out.size; omega))
          go_wp2_with fail
          refine CW9.out.mono ?_
          rintro e W9 ⟨rfl, i9, b9, k9⟩
          have HI9 : Hid (Lib.IsBuilder 47 5 w.heap.size b (Lib.byteCells (join (l.take 0) ++ lst tt ++ [10])) W9) := by rw [show Lib.byteCells (join (l.take 0) ++ lst tt ++ [10]) = Lib.byteCells (join (l.take 0) ++ lst tt) ++ [.int .u8 10] from by rw [Lib.byteCells_append]; rfl]; exact i9
          have HB9 := hide (HB8.out.trans b9)
          have HT9 := hide (k9 _ _ _ _ HT8.out (by decide) HGB.out)
          clear CW9 i9 b9 k9 HI8 HB8 HT8
          go_wp2_with fail
          refine ⟨⟨0 + 1, by go_num, by omega, ?_, HB9⟩, by simp [intOf]; omega⟩
          have h := HI9.out
          rw [show join (l.take 0) ++ lst tt ++ [10] = join (l.take (0 + 1)) from HE.out] at h
          exact h
        · have b2 : (tk == 2) = false := by rw [beq_eq_false_iff_ne]; exact k2
          by_cases k1 : tk = 1
          · subst k1
            have HE : Hid (join (l.take 0) ++ lst (⟨#[34]⟩ ++ tt ++ ⟨#[34]⟩) = join (l.take (0 + 1))) := by show _ = _; rw [HJ.out, HSEP.out]; simp [Tv.own, lst]
            have CT := hide (written_text tt tp tq hz)
            obtain ⟨c0, c1, c2, c3⟩ := four_cells HT2.out
            go_wp2_with fail
            refine (CT.out _).mono ?_
            rintro e W7 ⟨rfl, b7⟩
            have HI7 := hide (builder_below HI2.out b7)
            have HB7 := hide (bthen HB2.out b7)
            have HT7 := hide ((b7.block g (heap_lt HT2.out)).trans HT2.out)
            clear CT b7 c0 c1 c2 c3 HI2 HB2 HT2
            have CS := hide (writeString_keep w.heap.size b (Lib.byteCells (join (l.take 0))) (⟨#[34]⟩ ++ tt ++ ⟨#[34]⟩) W7 HI7.out (by rw [Lib.byteCells_length]; have := HJZ.out; (try simp only [ByteArray.size_append, one_size]); omega) (by have := HB7.out.size; omega))
            go_wp2_with fail
            refine CS.out.mono ?_
            rintro e W8 ⟨rfl, i8, b8, k8⟩
            have HI8 : Hid (Lib.IsBuilder 47 5 w.heap.size b (Lib.byteCells (join (l.take 0) ++ lst (⟨#[34]⟩ ++ tt ++ ⟨#[34]⟩))) W8) := by rw [Lib.byteCells_append]; exact i8
            have HB8 := hide (HB7.out.trans b8)
            have HT8 := hide (k8 _ _ _ _ HT7.out (by decide) HGB.out)
            clear CS i8 b8 k8 HI7 HB7 HT7
            obtain ⟨c0, c1, c2, c3⟩ := four_cells HT8.out
            go_wp2_with fail
            refine ⟨⟨0 + 1, by go_num, by omega, ?_, HB8⟩, by simp [intOf]; omega⟩
            have h := HI8.out
            rw [show join (l.take 0) ++ lst (⟨#[34]⟩ ++ tt ++ ⟨#[34]⟩) = join (l.take (0 + 1)) from HE.out] at h
            exact h
          · have HE : Hid (join (l.take 0) ++ lst tt = join (l.take (0 + 1))) := by show _ = _; rw [HJ.out, HSEP.out]; simp [Tv.own, lst, k1, k2]
            have CT := hide (written_plain tk k1 tt tp tq)
            obtain ⟨c0, c1, c2, c3⟩ := four_cells HT2.out
            go_wp2_with fail
            refine (CT.out _).mono ?_
            rintro e W7 ⟨rfl, b7⟩
            have HI7 := hide (builder_below HI2.out b7)
            have HB7 := hide (bthen HB2.out b7)
            have HT7 := hide ((b7.block g (heap_lt HT2.out)).trans HT2.out)
            clear CT b7 c0 c1 c2 c3 HI2 HB2 HT2
            have CS := hide (writeString_keep w.heap.size b (Lib.byteCells (join (l.take 0))) tt W7 HI7.out (by rw [Lib.byteCells_length]; have := HJZ.out; (try simp only [List.length_append, List.length_cons, List.length_nil, ByteArray.size_append, one_size]); omega) (by have := HB7.out.size; omega))
            go_wp2_with fail
            refine CS.out.mono ?_
            rintro e W8 ⟨rfl, i8, b8, k8⟩
            have HI8 : Hid (Lib.IsBuilder 47 5 w.heap.size b (Lib.byteCells (join (l.take 0) ++ lst tt)) W8) := by rw [Lib.byteCells_append]; exact i8
            have HB8 := hide (HB7.out.trans b8)
            have HT8 := hide (k8 _ _ _ _ HT7.out (by decide) HGB.out)
            clear CS i8 b8 k8 HI7 HB7 HT7
            obtain ⟨c0, c1, c2, c3⟩ := four_cells HT8.out
            go_wp2_with fail
            refine ⟨⟨0 + 1, by go_num, by omega, ?_, HB8⟩, by simp [intOf]; omega⟩
            have h := HI8.out
            rw [show join (l.take 0) ++ lst tt = join (l.take (0 + 1)) from HE.out] at h
            exact h
      · obtain ⟨j, rfl⟩ : ∃ j, i = j + 1 := ⟨i - 1, by omega⟩
        have hjl : j < l.length := by omega
        have hj0 : (0 : Int) < ((j + 1 : Nat) : Int) := by omega
        obtain ⟨a0, _, _, _⟩ := HAT.out j hjl
        have hcell : W2.cell? ⟨g0, off + j * 4, none⟩ = w.cell? ⟨g0, off + j * 4, none⟩ := HB2.out.cell (p := ⟨g0, off + j * 4, none⟩) hg0
        rw [← hcell] at a0
        have HSP := hide (HLI.out j hjl rfl)
        clear hcell
        generalize l[j].k = kj at *
        by_cases hkj : kj = 2
        · have HSEP : Hid (sep (l.take (j + 1)) = []) := by show _ = _; rw [HSP.out, if_pos hkj]
          have hkb : (kj != 2) = false := by simp [hkj]
          clear hkj
          go_upto_region 7 with fail
          clear hkb a0
          by_cases k2 : tk = 2
          · subst k2
            have HE : Hid (join (l.take (j + 1)) ++ lst tt ++ [10] = join (l.take (j + 1 + 1))) := by show _ = _; rw [HJ.out, HSEP.out]; simp [Tv.own, lst]
            have CT := hide (written_plain 2 (by decide) tt tp tq)
            obtain ⟨c0, c1, c2, c3⟩ := four_cells HT2.out
            go_wp2_with fail
            refine (CT.out _).mono ?_
            rintro e W7 ⟨rfl, b7⟩
            have HI7 := hide (builder_below HI2.out b7)
            have HB7 := hide (bthen HB2.out b7)
            have HT7 := hide ((b7.block g (heap_lt HT2.out)).trans HT2.out)
            clear CT b7 c0 c1 c2 c3 HI2 HB2 HT2
            have CS := hide (writeString_keep w.heap.size b (Lib.byteCells (join (l.take (j + 1)))) tt W7 HI7.out (by rw [Lib.byteCells_length]; have := HJZ.out; (try simp only [List.length_append, List.length_cons, List.length_nil, ByteArray.size_append, one_size]); omega) (by have := HB7.out.size; omega))
            go_wp2_with fail
            refine CS.out.mono ?_
            rintro e W8 ⟨rfl, i8, b8, k8⟩
            have HI8 : Hid (Lib.IsBuilder 47 5 w.heap.size b (Lib.byteCells (join (l.take (j + 1)) ++ lst tt)) W8) := by rw [Lib.byteCells_append]; exact i8
            have HB8 := hide (HB7.out.trans b8)
            have HT8 := hide (k8 _ _ _ _ HT7.out (by decide) HGB.out)
            clear CS i8 b8 k8 HI7 HB7 HT7
            obtain ⟨c0, c1, c2, c3⟩ := four_cells HT8.out
            have hzt : (lst tt).length ≤ 1000 := by rw [lst_size]; exact hz
            have CW9 := hide (writeByte_keep w.heap.size b (Lib.byteCells (join (l.take (j + 1)) ++ lst tt)) 10 W8 HI8.out (by rw [Lib.byteCells_length]; have := HJZ.out; (try simp only [List.length_append]); omega) (by have := HB8.out.size; omega))
            go_wp2_with fail
            refine CW9.out.mono ?_
            rintro e W9 ⟨rfl, i9, b9, k9⟩
            have HI9 : Hid (Lib.IsBuilder 47 5 w.heap.size b (Lib.byteCells (join (l.take (j + 1)) ++ lst tt ++ [10])) W9) := by rw [show Lib.byteCells (join (l.take (j + 1)) ++ lst tt ++ [10]) = Lib.byteCells (join (l.take (j + 1)) ++ lst tt) ++ [.int .u8 10] from by rw [Lib.byteCells_append]; rfl]; exact i9
            have HB9 := hide (HB8.out.trans b9)
            have HT9 := hide (k9 _ _ _ _ HT8.out (by decide) HGB.out)
            clear CW9 i9 b9 k9 HI8 HB8 HT8
            go_wp2_with fail
            refine ⟨⟨j + 1 + 1, by go_num, by omega, ?_, HB9⟩, by simp [intOf]; omega⟩
            have h := HI9.out
            rw [show join (l.take (j + 1)) ++ lst tt ++ [10] = join (l.take (j + 1 + 1)) from HE.out] at h
            exact h
          · have b2 : (tk == 2) = false := by rw [beq_eq_false_iff_ne]; exact k2
            by_cases k1 : tk = 1
            · subst k1
              have HE : Hid (join (l.take (j + 1)) ++ lst (⟨#[34]⟩ ++ tt ++ ⟨#[34]⟩) = join (l.take (j + 1 + 1))) := by show _ = _; rw [HJ.out, HSEP.out]; simp [Tv.own, lst]
              have CT := hide (written_text tt tp tq hz)
              obtain ⟨c0, c1, c2, c3⟩ := four_cells HT2.out
              go_wp2_with fail
              refine (CT.out _).mono ?_
              rintro e W7 ⟨rfl, b7⟩
              have HI7 := hide (builder_below HI2.out b7)
              have HB7 := hide (bthen HB2.out b7)
              have HT7 := hide ((b7.block g (heap_lt HT2.out)).trans HT2.out)
              clear CT b7 c0 c1 c2 c3 HI2 HB2 HT2
              have CS := hide (writeString_keep w.heap.size b (Lib.byteCells (join (l.take (j + 1)))) (⟨#[34]⟩ ++ tt ++ ⟨#[34]⟩) W7 HI7.out (by rw [Lib.byteCells_length]; have := HJZ.out; (try simp only [ByteArray.size_append, one_size]); omega) (by have := HB7.out.size; omega))
              go_wp2_with fail
              refine CS.out.mono ?_
              rintro e W8 ⟨rfl, i8, b8, k8⟩
              have HI8 : Hid (Lib.IsBuilder 47 5 w.heap.size b (Lib.byteCells (join (l.take (j + 1)) ++ lst (⟨#[34]⟩ ++ tt ++ ⟨#[34]⟩))) W8) := by rw [Lib.byteCells_append]; exact i8
              have HB8 := hide (HB7.out.trans b8)
              have HT8 := hide (k8 _ _ _ _ HT7.out (by decide) HGB.out)
              clear CS i8 b8 k8 HI7 HB7 HT7
              obtain ⟨c0, c1, c2, c3⟩ := four_cells HT8.out
              go_wp2_with fail
              refine ⟨⟨j + 1 + 1, by go_num, by omega, ?_, HB8⟩, by simp [intOf]; omega⟩
              have h := HI8.out
              rw [show join (l.take (j + 1)) ++ lst (⟨#[34]⟩ ++ tt ++ ⟨#[34]⟩) = join (l.take (j + 1 + 1)) from HE.out] at h
              exact h
            · have HE : Hid (join (l.take (j + 1)) ++ lst tt = join (l.take (j + 1 + 1))) := by show _ = _; rw [HJ.out, HSEP.out]; simp [Tv.own, lst, k1, k2]
              have CT := hide (written_plain tk k1 tt tp tq)
              obtain ⟨c0, c1, c2, c3⟩ := four_cells HT2.out
              go_wp2_with fail
              refine (CT.out _).mono ?_
              rintro e W7 ⟨rfl, b7⟩
              have HI7 := hide (builder_below HI2.out b7)
              have HB7 := hide (bthen HB2.out b7)
              have HT7 := hide ((b7.block g (heap_lt HT2.out)).trans HT2.out)
              clear CT b7 c0 c1 c2 c3 HI2 HB2 HT2
              have CS := hide (writeString_keep w.heap.size b (Lib.byteCells (join (l.take (j + 1)))) tt W7 HI7.out (by rw [Lib.byteCells_length]; have := HJZ.out; (try simp only [List.length_append, List.length_cons, List.length_nil, ByteArray.size_append, one_size]); omega) (by have := HB7.out.size; omega))
              go_wp2_with fail
              refine CS.out.mono ?_
              rintro e W8 ⟨rfl, i8, b8, k8⟩
              have HI8 : Hid (Lib.IsBuilder 47 5 w.heap.size b (Lib.byteCells (join (l.take (j + 1)) ++ lst tt)) W8) := by rw [Lib.byteCells_append]; exact i8
              have HB8 := hide (HB7.out.trans b8)
              have HT8 := hide (k8 _ _ _ _ HT7.out (by decide) HGB.out)
              clear CS i8 b8 k8 HI7 HB7 HT7
              obtain ⟨c0, c1, c2, c3⟩ := four_cells HT8.out
              go_wp2_with fail
              refine ⟨⟨j + 1 + 1, by go_num, by omega, ?_, HB8⟩, by simp [intOf]; omega⟩
              have h := HI8.out
              rw [show join (l.take (j + 1)) ++ lst tt = join (l.take (j + 1 + 1)) from HE.out] at h
              exact h
        · have HSEP : Hid (sep (l.take (j + 1)) = [32]) := by show _ = _; rw [HSP.out, if_neg hkj]
          have hkb : (kj != 2) = true := by rw [bne_iff_ne]; exact hkj
          clear hkj
          go_upto_region 6 with fail
          clear hkb a0
          have CW6 := hide (writeByte_keep w.heap.size b (Lib.byteCells (join (l.take (j + 1)))) 32 W2 HI2.out (by rw [Lib.byteCells_length]; have := HJZ.out; (try simp only [List.length_append, List.length_cons, List.length_nil]); omega) (by have := HB2.out.size; omega))
          go_wp2_with fail
          refine CW6.out.mono ?_
          rintro e W6 ⟨rfl, i6, b6, k6⟩
          have HI6 : Hid (Lib.IsBuilder 47 5 w.heap.size b (Lib.byteCells (join (l.take (j + 1)) ++ [32])) W6) := by rw [show Lib.byteCells (join (l.take (j + 1)) ++ [32]) = Lib.byteCells (join (l.take (j + 1))) ++ [.int .u8 32] from by rw [Lib.byteCells_append]; rfl]; exact i6
          have HB6 := hide (HB2.out.trans b6)
          have HT6 := hide (k6 _ _ _ _ HT2.out (by decide) HGB.out)
          clear CW6 i6 b6 k6 HI2 HB2 HT2
          by_cases k2 : tk = 2
          · subst k2
            have HE : Hid (join (l.take (j + 1)) ++ [32] ++ lst tt ++ [10] = join (l.take (j + 1 + 1))) := by show _ = _; rw [HJ.out, HSEP.out]; simp [Tv.own, lst]
            have CT := hide (written_plain 2 (by decide) tt tp tq)
            obtain ⟨c0, c1, c2, c3⟩ := four_cells HT6.out
            go_wp2_with fail
            refine (CT.out _).mono ?_
            rintro e W7 ⟨rfl, b7⟩
            have HI7 := hide (builder_below HI6.out b7)
            have HB7 := hide (bthen HB6.out b7)
            have HT7 := hide ((b7.block g (heap_lt HT6.out)).trans HT6.out)
            clear CT b7 c0 c1 c2 c3 HI6 HB6 HT6
            have CS := hide (writeString_keep w.heap.size b (Lib.byteCells (join (l.take (j + 1)) ++ [32])) tt W7 HI7.out (by rw [Lib.byteCells_length]; have := HJZ.out; (try simp only [List.length_append, List.length_cons, List.length_nil]); omega) (by have := HB7.out.size; omega))
            go_wp2_with fail
            refine CS.out.mono ?_
            rintro e W8 ⟨rfl, i8, b8, k8⟩
            have HI8 : Hid (Lib.IsBuilder 47 5 w.heap.size b (Lib.byteCells (join (l.take (j + 1)) ++ [32] ++ lst tt)) W8) := by rw [Lib.byteCells_append]; exact i8
            have HB8 := hide (HB7.out.trans b8)
            have HT8 := hide (k8 _ _ _ _ HT7.out (by decide) HGB.out)
            clear CS i8 b8 k8 HI7 HB7 HT7
            obtain ⟨c0, c1, c2, c3⟩ := four_cells HT8.out
            have hzt : (lst tt).length ≤ 1000 := by rw [lst_size]; exact hz
            have CW9 := hide (writeByte_keep w.heap.size b (Lib.byteCells (join (l.take (j + 1)) ++ [32] ++ lst tt)) 10 W8 HI8.out (by rw [Lib.byteCells_length]; have := HJZ.out; (try simp only [List.length_append, List.length_cons, List.length_nil]); omega) (by have := HB8.out.size; omega))
            go_wp2_with fail
            refine CW9.out.mono ?_
            rintro e W9 ⟨rfl, i9, b9, k9⟩
            have HI9 : Hid (Lib.IsBuilder 47 5 w.heap.size b (Lib.byteCells (join (l.take (j + 1)) ++ [32] ++ lst tt ++ [10])) W9) := by rw [show Lib.byteCells (join (l.take (j + 1)) ++ [32] ++ lst tt ++ [10]) = Lib.byteCells (join (l.take (j + 1)) ++ [32] ++ lst tt) ++ [.int .u8 10] from by rw [Lib.byteCells_append]; rfl]; exact i9
            have HB9 := hide (HB8.out.trans b9)
            have HT9 := hide (k9 _ _ _ _ HT8.out (by decide) HGB.out)
            clear CW9 i9 b9 k9 HI8 HB8 HT8
            go_wp2_with fail
            refine ⟨⟨j + 1 + 1, by go_num, by omega, ?_, HB9⟩, by simp [intOf]; omega⟩
            have h := HI9.out
            rw [show join (l.take (j + 1)) ++ [32] ++ lst tt ++ [10] = join (l.take (j + 1 + 1)) from HE.out] at h
            exact h
          · have b2 : (tk == 2) = false := by rw [beq_eq_false_iff_ne]; exact k2
            by_cases k1 : tk = 1
            · subst k1
              have HE : Hid (join (l.take (j + 1)) ++ [32] ++ lst (⟨#[34]⟩ ++ tt ++ ⟨#[34]⟩) = join (l.take (j + 1 + 1))) := by show _ = _; rw [HJ.out, HSEP.out]; simp [Tv.own, lst]
              have CT := hide (written_text tt tp tq hz)
              obtain ⟨c0, c1, c2, c3⟩ := four_cells HT6.out
              go_wp2_with fail
              refine (CT.out _).mono ?_
              rintro e W7 ⟨rfl, b7⟩
              have HI7 := hide (builder_below HI6.out b7)
              have HB7 := hide (bthen HB6.out b7)
              have HT7 := hide ((b7.block g (heap_lt HT6.out)).trans HT6.out)
              clear CT b7 c0 c1 c2 c3 HI6 HB6 HT6
              have CS := hide (writeString_keep w.heap.size b (Lib.byteCells (join (l.take (j + 1)) ++ [32])) (⟨#[34]⟩ ++ tt ++ ⟨#[34]⟩) W7 HI7.out (by rw [Lib.byteCells_length]; have := HJZ.out; (try simp only [List.length_append, List.length_cons, List.length_nil, ByteArray.size_append, one_size]); omega) (by have := HB7.out.size; omega))
              go_wp2_with fail
              refine CS.out.mono ?_
              rintro e W8 ⟨rfl, i8, b8, k8⟩
              have HI8 : Hid (Lib.IsBuilder 47 5 w.heap.size b (Lib.byteCells (join (l.take (j + 1)) ++ [32] ++ lst (⟨#[34]⟩ ++ tt ++ ⟨#[34]⟩))) W8) := by rw [Lib.byteCells_append]; exact i8
              have HB8 := hide (HB7.out.trans b8)
              have HT8 := hide (k8 _ _ _ _ HT7.out (by decide) HGB.out)
              clear CS i8 b8 k8 HI7 HB7 HT7
              obtain ⟨c0, c1, c2, c3⟩ := four_cells HT8.out
              go_wp2_with fail
              refine ⟨⟨j + 1 + 1, by go_num, by omega, ?_, HB8⟩, by simp [intOf]; omega⟩
              have h := HI8.out
              rw [show join (l.take (j + 1)) ++ [32] ++ lst (⟨#[34]⟩ ++ tt ++ ⟨#[34]⟩) = join (l.take (j + 1 + 1)) from HE.out] at h
              exact h
            · have HE : Hid (join (l.take (j + 1)) ++ [32] ++ lst tt = join (l.take (j + 1 + 1))) := by show _ = _; rw [HJ.out, HSEP.out]; simp [Tv.own, lst, k1, k2]
              have CT := hide (written_plain tk k1 tt tp tq)
              obtain ⟨c0, c1, c2, c3⟩ := four_cells HT6.out
              go_wp2_with fail
              refine (CT.out _).mono ?_
              rintro e W7 ⟨rfl, b7⟩
              have HI7 := hide (builder_below HI6.out b7)
              have HB7 := hide (bthen HB6.out b7)
              have HT7 := hide ((b7.block g (heap_lt HT6.out)).trans HT6.out)
              clear CT b7 c0 c1 c2 c3 HI6 HB6 HT6
              have CS := hide (writeString_keep w.heap.size b (Lib.byteCells (join (l.take (j + 1)) ++ [32])) tt W7 HI7.out (by rw [Lib.byteCells_length]; have := HJZ.out; (try simp only [List.length_append, List.length_cons, List.length_nil]); omega) (by have := HB7.out.size; omega))
              go_wp2_with fail
              refine CS.out.mono ?_
              rintro e W8 ⟨rfl, i8, b8, k8⟩
              have HI8 : Hid (Lib.IsBuilder 47 5 w.heap.size b (Lib.byteCells (join (l.take (j + 1)) ++ [32] ++ lst tt)) W8) := by rw [Lib.byteCells_append]; exact i8
              have HB8 := hide (HB7.out.trans b8)
              have HT8 := hide (k8 _ _ _ _ HT7.out (by decide) HGB.out)
              clear CS i8 b8 k8 HI7 HB7 HT7
              obtain ⟨c0, c1, c2, c3⟩ := four_cells HT8.out
              go_wp2_with fail
              refine ⟨⟨j + 1 + 1, by go_num, by omega, ?_, HB8⟩, by simp [intOf]; omega⟩
              have h := HI8.out
              rw [show join (l.take (j + 1)) ++ [32] ++ lst tt = join (l.take (j + 1 + 1)) from HE.out] at h
              exact h
    · obtain rfl : i = N := by omega
      have h1 : ¬ (i : Int) < (i : Int) := by omega
      have HI9 : Hid (Lib.IsBuilder 47 5 w.heap.size b (Lib.byteCells (join l)) wr) := by
        have h := HI.out
        rw [List.take_of_length_le (by have := HN.out; omega)] at h
        exact h
      have CS := hide (Try.Builder_String_any w.heap.size b (join l) wr HI9.out HB.out.size)
      clear HI
      go_wp2_with fail
      refine CS.out.mono ?_
      rintro e w9 ⟨rfl, b9⟩
      have HB9 := hide (HB.out.trans b9)
      clear b9 CS
      go_wp2_with fail
      go_ret
      exact ⟨rfl, HB9.out⟩
theorem join_is (B : Nat) (v : Value) (l : List Tv) (hl : l.length ≤ 100000) (hz : ∀ t ∈ l, t.s.size ≤ 1000) (w : World) (h : w.ownsRow B 38 4 v l.length (Tv.cells l)) : Calls Try.prog 8 #[v] w fun e w' => e = .returned (.string (txt (join l))) ∧ Below w.heap.size w w' := by
  obtain ⟨ao, c, rfl, hs⟩ := Tv.slot_row h
  exact joinS_is ao c l hl hz w hs
end Go.Proofs.Ytdkfamlnmjhcfaa
