/- Texts. -/
import Derived.Test.YtpmmhmgojjlniaaGreatDoorO04
import Derived.Test.YtpmmhmgojjlniaaGreatDoorO06
import Derived.Test.YtpmmhmgojjlniaaGreatDoorO07
import Derived.Lib.ItoaLen
import Derived.Laws.Externs
import Derived.Lib.AppendIntMem
import Derived.Laws.IdiomStrings
import Derived.Laws.Concat
/- Plain lists of bytes: a number's digits, and a prefix's text parsed back. -/
namespace Go.Proofs.YtpmmhmgojjlniaaGreatDoor.Ax
open Go

theorem Ad.dec_step (m d : Nat) (hm : 1 ≤ m) (hd : d < 10) : Lib.decDigits (10 * m + d) = Lib.decDigits m ++ [UInt8.ofNat (48 + d)] := by
  rw [Lib.decDigits, dif_neg (by omega)]
  have e1 : (10 * m + d) / 10 = m := by omega
  have e2 : (10 * m + d) % 10 = d := by omega
  rw [e1, e2]

theorem Ad.ofNat_dig (d : Nat) (h : d < 10) : (UInt8.ofNat (48 + d)).toNat = 48 + d := by
  rw [UInt8.toNat_ofNat']
  omega

theorem Ad.dig_ofNat (d : Nat) (h : d < 10) : Ad.dig (UInt8.ofNat (48 + d)) = true := by
  unfold Ad.dig
  rw [Ad.ofNat_dig d h]
  simp
  omega

theorem Ad.dec_all (u : Nat) : Ad.digs (Lib.decDigits u) = true ∧ Ad.num (Lib.decDigits u) = u ∧ Lib.decDigits u ≠ [] ∧ (10 ≤ u → (Lib.decDigits u).head? ≠ some 48) ∧ (1 ≤ u → (Lib.decDigits u).head? ≠ some 48) := by
  induction u using Nat.strongRecOn with
  | _ u ih =>
    by_cases h : u < 10
    · rw [Lib.decDigits_one h]
      refine ⟨?_, ?_, by simp, fun h' => by omega, ?_⟩
      · have := Ad.dig_ofNat u h
        simpa [Ad.digs, Ad.dig] using this
      · have := Ad.ofNat_dig u h
        simp only [Ad.num, List.foldl_cons, List.foldl_nil]
        rw [this]
        omega
      · intro h1 e
        have h2 : UInt8.ofNat (48 + u) = 48 := Option.some.inj e
        have h3 := Ad.ofNat_dig u h
        rw [h2] at h3
        have : (48 : UInt8).toNat = 48 := rfl
        omega
    · obtain ⟨i1, i2, i3, _, i5⟩ := ih (u / 10) (by omega)
      have e : u = 10 * (u / 10) + u % 10 := by omega
      have hs := Ad.dec_step (u / 10) (u % 10) (by omega) (by omega)
      rw [← e] at hs
      rw [hs]
      have hh : (Lib.decDigits (u / 10) ++ [UInt8.ofNat (48 + u % 10)]).head? ≠ some 48 := by
        have := i5 (by omega)
        cases hc : Lib.decDigits (u / 10) with
        | nil => exact absurd hc i3
        | cons x xs => rw [hc] at this; simpa using this
      refine ⟨?_, ?_, by simp, fun _ => hh, fun _ => hh⟩
      · rw [Ad.digs_snoc, i1, Ad.dig_ofNat _ (by omega)]
        rfl
      · rw [Ad.num_snoc, i2, Ad.ofNat_dig _ (by omega)]
        omega

theorem Ad.dec_isNum (u : Nat) : Ad.isNum (Lib.decDigits u) = true := by
  obtain ⟨h1, _, h3, h4, _⟩ := Ad.dec_all u
  unfold Ad.isNum Ad.zeroAhead
  rw [h1]
  have e1 : (Lib.decDigits u).isEmpty = false := by
    cases hc : Lib.decDigits u with
    | nil => exact absurd hc h3
    | cons _ _ => rfl
  rw [e1]
  by_cases h : u < 10
  · rw [Lib.decDigits_one h]
    simp
  · have := h4 (by omega)
    have e2 : ((Lib.decDigits u).head? == some 48) = false := by simpa using this
    rw [e2]
    simp

theorem Ad.snoc_cases (l : List UInt8) (h : l ≠ []) : ∃ l' c, l = l' ++ [c] := ⟨l.dropLast, l.getLast h, (List.dropLast_concat_getLast h).symm⟩

theorem Ad.dec_num : ∀ (n : Nat) (l : List UInt8), l.length = n → l ≠ [] → Ad.digs l = true → (l.head? ≠ some 48 ∨ n = 1) → Lib.decDigits (Ad.num l).toNat = l ∧ (l.head? ≠ some 48 → 1 ≤ Ad.num l)
  | 0, l, hl, h0, _, _ => absurd (List.eq_nil_of_length_eq_zero hl) h0
  | n + 1, l, hl, h0, hd, hz => by
    obtain ⟨l', c, rfl⟩ := Ad.snoc_cases l h0
    rw [Ad.digs_snoc, Bool.and_eq_true] at hd
    obtain ⟨hd1, hd2⟩ := hd
    have hc := Ad.dig_bd c hd2
    have ec : UInt8.ofNat (48 + ((c.toNat : Int) - 48).toNat) = c := by
      have : 48 + ((c.toNat : Int) - 48).toNat = c.toNat := by omega
      rw [this]
      simp
    rw [Ad.num_snoc]
    by_cases hn : l' = []
    · subst hn
      have e : (10 * Ad.num [] + ((c.toNat : Int) - 48)) = (c.toNat : Int) - 48 := by simp [Ad.num]
      rw [e]
      refine ⟨?_, ?_⟩
      · rw [Lib.decDigits_one (by omega), ec]
        rfl
      · intro hh
        have : c ≠ 48 := by intro e'; subst e'; exact hh rfl
        have h48 : c.toNat ≠ 48 := by
          intro e'
          apply this
          have := UInt8.toNat_inj.1 (show c.toNat = (48 : UInt8).toNat from e')
          exact this
        omega
    · have hl' : l'.length = n := by simp at hl; exact hl
      have hn1 : 1 ≤ n := by
        cases l' with
        | nil => exact absurd rfl hn
        | cons _ _ => simp at hl'; omega
      have hhd : (l' ++ [c]).head? = l'.head? := by
        cases l' with
        | nil => exact absurd rfl hn
        | cons _ _ => rfl
      have hz' : l'.head? ≠ some 48 := by
        rcases hz with hz | hz
        · rw [hhd] at hz; exact hz
        · omega
      obtain ⟨i1, i2⟩ := Ad.dec_num n l' hl' hn hd1 (.inl hz')
      have i3 := i2 hz'
      refine ⟨?_, fun _ => by omega⟩
      have e : (10 * Ad.num l' + ((c.toNat : Int) - 48)).toNat = 10 * (Ad.num l').toNat + ((c.toNat : Int) - 48).toNat := by omega
      rw [e, Ad.dec_step _ _ (by omega) (by omega), i1, ec]

theorem Ad.itoa_num (l : List UInt8) (h : Ad.isNum l = true) : Lib.itoa (Ad.num l) = l := by
  unfold Ad.isNum at h
  simp only [Bool.and_eq_true, Bool.not_eq_true'] at h
  obtain ⟨⟨h1, h2⟩, h3⟩ := h
  have h0 : l ≠ [] := by intro e; subst e; simp at h1
  have hb := (Ad.num_bd l h3).1
  unfold Lib.itoa
  rw [if_neg (by omega)]
  refine (Ad.dec_num l.length l rfl h0 h3 ?_).1
  unfold Ad.zeroAhead at h2
  rw [Bool.and_eq_false_iff] at h2
  rcases h2 with h2 | h2
  · right
    have := of_decide_eq_false h2
    cases l with
    | nil => exact absurd rfl h0
    | cons _ t => simp at this ⊢; omega
  · left
    simpa using h2

theorem Ad.itoa_nat (n : Int) (h : 0 ≤ n) : Ad.isNum (Lib.itoa n) = true ∧ Ad.num (Lib.itoa n) = n ∧ Ad.digs (Lib.itoa n) = true := by
  obtain ⟨u, rfl⟩ := Int.eq_ofNat_of_zero_le h
  rw [Lib.itoa_nonneg]
  exact ⟨Ad.dec_isNum u, (Ad.dec_all u).2.1, (Ad.dec_all u).1⟩

theorem Ad.itoa_len3 (n : Int) (h : 0 ≤ n) (h1 : n < 1000) : (Lib.itoa n).length ≤ 3 := by
  obtain ⟨u, rfl⟩ := Int.eq_ofNat_of_zero_le h
  rw [Lib.itoa_nonneg]
  by_cases a : u < 10
  · rw [Lib.decDigits_one a]; simp
  · by_cases b : u < 100
    · rw [Lib.decDigits_two a b]; simp
    · have e : u = 10 * (u / 10) + u % 10 := by omega
      rw [e, Ad.dec_step _ _ (by omega) (by omega), Lib.decDigits_two (by omega) (by omega)]
      simp

theorem Ad.digs_not (l : List UInt8) (h : Ad.digs l = true) (c : UInt8) (hc : c.toNat < 48) : c ∉ l := by
  intro hm
  unfold Ad.digs at h
  have := List.all_eq_true.1 h c hm
  simp at this
  have := this.1
  omega

/-- A prefix's text, by Itoa's digits. -/
def Ad.textI (a b : Int) : List UInt8 := Ad.text Lib.itoa a b

theorem Ad.textI_eq (a b : Int) : Ad.textI a b = Lib.itoa (Ad.oct a 0) ++ 46 :: (Lib.itoa (Ad.oct a 1) ++ 46 :: (Lib.itoa (Ad.oct a 2) ++ 46 :: (Lib.itoa (Ad.oct a 3) ++ 47 :: Lib.itoa b))) := by
  simp [Ad.textI, Ad.text, Ad.textTo, Ad.mark]

theorem Ad.oct_bd (a : Int) (j : Nat) : 0 ≤ Ad.oct a j ∧ Ad.oct a j ≤ 255 := by unfold Ad.oct; omega

theorem Ad.marks_text (x0 x1 x2 x3 x4 : List UInt8) (h0 : Ad.digs x0 = true) (h1 : Ad.digs x1 = true) (h2 : Ad.digs x2 = true) (h3 : Ad.digs x3 = true) :
    Ad.marks5 (x0 ++ 46 :: (x1 ++ 46 :: (x2 ++ 46 :: (x3 ++ 47 :: x4)))) = some (x0, x1, x2, x3, x4) := by
  unfold Ad.marks5
  rw [Ad.cutL_app _ _ _ (Ad.digs_not _ h0 46 (by decide))]
  simp only [Option.bind]
  rw [Ad.cutL_app _ _ _ (Ad.digs_not _ h1 46 (by decide))]
  simp only
  rw [Ad.cutL_app _ _ _ (Ad.digs_not _ h2 46 (by decide))]
  simp only
  rw [Ad.cutL_app _ _ _ (Ad.digs_not _ h3 47 (by decide))]

theorem Ad.marks_some (l x0 x1 x2 x3 x4 : List UInt8) (h : Ad.marks5 l = some (x0, x1, x2, x3, x4)) : l = x0 ++ 46 :: (x1 ++ 46 :: (x2 ++ 46 :: (x3 ++ 47 :: x4))) := by
  unfold Ad.marks5 at h
  cases c0 : Ad.cutL l 46 with
  | none => rw [c0] at h; simp at h
  | some p0 =>
    rw [c0] at h
    simp only [Option.bind] at h
    cases c1 : Ad.cutL p0.2 46 with
    | none => rw [c1] at h; simp at h
    | some p1 =>
      rw [c1] at h
      simp only at h
      cases c2 : Ad.cutL p1.2 46 with
      | none => rw [c2] at h; simp at h
      | some p2 =>
        rw [c2] at h
        simp only at h
        cases c3 : Ad.cutL p2.2 47 with
        | none => rw [c3] at h; simp at h
        | some p3 =>
          rw [c3] at h
          simp only [Option.some.injEq, Prod.mk.injEq] at h
          obtain ⟨rfl, rfl, rfl, rfl, rfl⟩ := h
          have e0 := (Ad.cutL_some _ _ p0.1 p0.2 c0).1
          have e1 := (Ad.cutL_some _ _ p1.1 p1.2 c1).1
          have e2 := (Ad.cutL_some _ _ p2.1 p2.2 c2).1
          have e3 := (Ad.cutL_some _ _ p3.1 p3.2 c3).1
          rw [← e3, ← e2, ← e1]
          exact e0

theorem Ad.oct_sum (a : Int) (h0 : 0 ≤ a) (h1 : a ≤ 4294967295) : ((Ad.oct a 0 * 256 + Ad.oct a 1) * 256 + Ad.oct a 2) * 256 + Ad.oct a 3 = a := by
  have e0 : Ad.oct a 0 = a / 16777216 % 256 := rfl
  have e1 : Ad.oct a 1 = a / 65536 % 256 := rfl
  have e2 : Ad.oct a 2 = a / 256 % 256 := rfl
  have e3 : Ad.oct a 3 = a / 1 % 256 := rfl
  rw [e0, e1, e2, e3]
  omega

theorem Ad.sum_oct (n0 n1 n2 n3 : Int) (a0 : 0 ≤ n0) (a1 : 0 ≤ n1) (a2 : 0 ≤ n2) (a3 : 0 ≤ n3) (b0 : n0 ≤ 255) (b1 : n1 ≤ 255) (b2 : n2 ≤ 255) (b3 : n3 ≤ 255) :
    Ad.oct (((n0 * 256 + n1) * 256 + n2) * 256 + n3) 0 = n0 ∧ Ad.oct (((n0 * 256 + n1) * 256 + n2) * 256 + n3) 1 = n1 ∧ Ad.oct (((n0 * 256 + n1) * 256 + n2) * 256 + n3) 2 = n2 ∧ Ad.oct (((n0 * 256 + n1) * 256 + n2) * 256 + n3) 3 = n3 := by
  generalize hx : ((n0 * 256 + n1) * 256 + n2) * 256 + n3 = x
  have e0 : Ad.oct x 0 = x / 16777216 % 256 := rfl
  have e1 : Ad.oct x 1 = x / 65536 % 256 := rfl
  have e2 : Ad.oct x 2 = x / 256 % 256 := rfl
  have e3 : Ad.oct x 3 = x / 1 % 256 := rfl
  rw [e0, e1, e2, e3]
  refine ⟨?_, ?_, ?_, ?_⟩ <;> omega

end Go.Proofs.YtpmmhmgojjlniaaGreatDoor.Ax
namespace Go.Proofs.YtpmmhmgojjlniaaGreatDoor.Ax
open Go.RowKit

theorem infoBuilder : (Tryz.prog.info? 74).map (·.size) = some 2 := by kernel_rfl
theorem liesBuilder : liesAt Tryz.prog Tryz.prog.depth 74 (2 / Tryz.prog.cellsOf 74) 0 74 1 = true := by kernel_rfl

set_option maxHeartbeats 1000000 in
set_option maxRecDepth 100000 in
theorem copyCheck_used (b : Nat) (w : World) (h0 : w.cell? ⟨b, 0, none⟩ = some (.pointer (some ⟨b, 0, none⟩))) :
    Calls Tryz.prog 257 #[.pointer (some ⟨b, 0, none⟩)] w fun e w' => e = .returned (.tuple #[]) ∧ w' = w := by
  obtain ⟨j, hj, _⟩ := Option.map_eq_some_iff.1 infoBuilder
  go_enter Tryz.func257, Tryz.ntmps257
  go_wp2
  rw [Lib.run_neq_ptr_same w _ Tryz.underlying71 hj]
  go_wp2
  go_end0
  exact ⟨rfl, rfl⟩

set_option maxHeartbeats 1000000 in
set_option maxRecDepth 100000 in
theorem copyCheck_fresh (b : Nat) (w : World) (h0 : w.cell? ⟨b, 0, none⟩ = some (.pointer none)) (hsh : w.shape? b = some (74, 2)) (hfz : w.frozen? ⟨b, 0, none⟩ = false) :
    Calls Tryz.prog 257 #[.pointer (some ⟨b, 0, none⟩)] w fun e w' => e = .returned (.tuple #[]) ∧ w' = w.setCell ⟨b, 0, none⟩ (.pointer (some ⟨b, 0, none⟩)) := by
  obtain ⟨j, hj, hjs⟩ := Option.map_eq_some_iff.1 infoBuilder
  go_enter Tryz.func257, Tryz.ntmps257
  go_wp2
  rw [Lib.run_to_unsafe w ⟨b, 0, none⟩ Tryz.underlying71 Tryz.underlying325 hj (by rw [hjs]; decide) hsh (Nat.zero_lt_succ 1)]
  simp only [Result.andThen]
  rw [Oper.upon_value]
  go_wp2
  rw [run_callFunc_extern Tryz.func298 (by kernel_rfl) (by kernel_rfl) (by kernel_rfl) (e := Extern.AbiNoEscape.same) (by kernel_rfl)]
  rw [Lib.run_noEscape]
  simp only [Result.andThen]
  rw [Oper.upon_value]
  go_wp2
  rw [Lib.run_from_unsafe w ⟨b, 0, none⟩ Tryz.underlying325 Tryz.underlying71 hj hsh liesBuilder]
  simp only [Result.andThen]
  rw [Oper.upon_value]
  go_wp2
  go_end0
  exact ⟨rfl, rfl⟩

theorem copyCheck_any (B b : Nat) (bs : List Value) (w : World) (h : Lib.IsBuilder 74 5 B b bs w) :
    Calls Tryz.prog 257 #[.pointer (some ⟨b, 0, none⟩)] w fun e w' => e = .returned (.tuple #[]) ∧ Lib.BuilderAt 74 5 B b (.pointer (some ⟨b, 0, none⟩)) bs w' ∧ Below B w w' := by
  rcases h with h | h
  · refine (copyCheck_fresh b w h.cell0 h.shape h.frozen0).mono ?_
    rintro e w' ⟨rfl, rfl⟩
    exact ⟨rfl, h.used _, (Below.refl B w).setCell (p := ⟨b, 0, none⟩) h.1 _⟩
  · refine (copyCheck_used b w h.cell0).mono ?_
    rintro e w' ⟨rfl, rfl⟩
    exact ⟨rfl, h, Below.refl B _⟩
set_option maxHeartbeats 2000000 in
set_option maxRecDepth 100000 in
theorem writeByte_any (B b : Nat) (bs : List Value) (c : Int) (w : World) (h : Lib.IsBuilder 74 5 B b bs w) (hlen : bs.length + 1 ≤ 140737488355328) (hBw : B ≤ w.heap.size) :
    Calls Tryz.prog 205 #[.pointer (some ⟨b, 0, none⟩), .int .u8 c] w fun e w' => e = .returned .nilIface ∧ Lib.IsBuilder 74 5 B b (bs ++ [.int .u8 c]) w' ∧ Below B w w' := by
  obtain ⟨i0, hi, hz0, hz1, hz2⟩ := info_parts infoByte
  go_enter Tryz.func205, Tryz.ntmps205
  go_wp2_with (go_at_call 257; refine (copyCheck_any B b bs _ h).mono ?_)
  rintro e w1 ⟨rfl, h1, hb1⟩
  obtain ⟨hB, v, hbk, hown, hne⟩ := h1
  have c0 : w1.cell? ⟨b, 0, none⟩ = some (.pointer (some ⟨b, 0, none⟩)) := by rw [Lib.cell_of_heap hbk]; rfl
  have c1 : w1.cell? ⟨b, 1, none⟩ = some v := by rw [Lib.cell_of_heap hbk]; rfl
  have hlt := block_lt hbk
  have hBs : B ≤ w1.heap.size := Nat.le_trans hBw hb1.size
  go_wp2_with (at_builtin; refine wpList_append_own _ rfl _ _ 72 rfl B 5 i0 (.int .u8 0) 1 1 Tryz.underlying72 hi hz0 hz1 hz2 rfl (by decide) _ _ _ rfl (hown.alloc _) ⟨w1.heap.size, 0, none⟩ 1 1 [.int .u8 c] rfl rfl ?c1 ?c2 ?c3 ?c4 ?c5 ?_)
  case c1 =>
    intro j u hj
    match j, hj with
    | 0, hj => simp at hj; subst hj; simp [Addr.add]
  case c2 => intro u hu; simp at hu; subst hu; rfl
  case c3 => unfold maxLen; omega
  case c4 => omega
  case c5 => simp; omega
  intro v' w2 hown' hgrow _
  have hb2 : w2.heap[b]? = some (.cells #[.pointer (some ⟨b, 0, none⟩), v] 74 (0, 0)) := by
    rw [hgrow.block b (by simp; omega) (fun e => hne e.symm), Lib.alloc_old w1 _ b hlt]
    exact hbk
  have d0 : w2.cell? ⟨b, 0, none⟩ = some (.pointer (some ⟨b, 0, none⟩)) := by rw [Lib.cell_of_heap hb2]; rfl
  have d1 : w2.cell? ⟨b, 1, none⟩ = some v := by rw [Lib.cell_of_heap hb2]; rfl
  have f1 : w2.frozen? ⟨b, 1, none⟩ = false := Lib.frozen_of_heap hb2 1
  obtain ⟨g, cap, rfl⟩ : ∃ g cap, v' = .slice (some ⟨g, 0, none⟩) (bs.length + 1) cap := by
    rcases hown'.2 with ⟨_, h0⟩ | ⟨g, cap, cur, hv, _⟩
    · omega
    · exact ⟨g, cap, hv⟩
  go_wp2
  go_ret
  refine ⟨rfl, .inr ?_, ?_⟩
  · exact Lib.BuilderAt.put (T := 74) (e := 5) hB hb2 (bs' := bs ++ [.int .u8 c]) (by simpa using hown') (by decide)
  · exact ((hb1.alloc hBs _).grown hgrow (by simp; omega) (fun k hk => (hown.lt k hk).1)).setCell (p := ⟨b, 1, none⟩) hB _

set_option maxHeartbeats 2000000 in
set_option maxRecDepth 100000 in
theorem writeString_any (B b : Nat) (bs : List Value) (s : ByteArray) (w : World) (h : Lib.IsBuilder 74 5 B b bs w) (hlen : bs.length + s.size ≤ 140737488355328) (hBw : B ≤ w.heap.size) :
    Calls Tryz.prog 204 #[.pointer (some ⟨b, 0, none⟩), .string s] w fun e w' => e = .returned (.tuple #[.int .i64 s.size, .nilIface]) ∧ Lib.IsBuilder 74 5 B b (bs ++ Lib.strCells s) w' ∧ Below B w w' := by
  obtain ⟨i0, hi, hz0, hz1, hz2⟩ := info_parts infoByte
  go_enter Tryz.func204, Tryz.ntmps204
  go_wp2_with (go_at_call 257; refine (copyCheck_any B b bs _ h).mono ?_)
  rintro e w1 ⟨rfl, h1, hb1⟩
  obtain ⟨hB, v, hbk, hown, hne⟩ := h1
  have c0 : w1.cell? ⟨b, 0, none⟩ = some (.pointer (some ⟨b, 0, none⟩)) := by rw [Lib.cell_of_heap hbk]; rfl
  have c1 : w1.cell? ⟨b, 1, none⟩ = some v := by rw [Lib.cell_of_heap hbk]; rfl
  have hlt := block_lt hbk
  have hBs : B ≤ w1.heap.size := Nat.le_trans hBw hb1.size
  go_wp2_with (at_builtin; refine Lib.wpList_append_own_string _ rfl _ _ 72 9 rfl B 5 i0 Tryz.underlying72 Tryz.underlying9 hi hz0 hz1 hz2 _ _ _ rfl hown s rfl ?c3 ?c4 ?c5 ?_)
  case c3 => unfold maxLen; omega
  case c4 => omega
  case c5 => omega
  intro v' w2 hown' hgrow _
  have hb2 : w2.heap[b]? = some (.cells #[.pointer (some ⟨b, 0, none⟩), v] 74 (0, 0)) := by
    rw [hgrow.block b hlt (fun e => hne e.symm)]
    exact hbk
  have d0 : w2.cell? ⟨b, 0, none⟩ = some (.pointer (some ⟨b, 0, none⟩)) := by rw [Lib.cell_of_heap hb2]; rfl
  have d1 : w2.cell? ⟨b, 1, none⟩ = some v := by rw [Lib.cell_of_heap hb2]; rfl
  have f1 : w2.frozen? ⟨b, 1, none⟩ = false := Lib.frozen_of_heap hb2 1
  obtain ⟨ao, n', cap, rfl⟩ : ∃ ao n' cap, v' = .slice ao n' cap := by
    rcases hown'.2 with ⟨hv, _⟩ | ⟨g, cap, cur, hv, _⟩
    · exact ⟨_, _, _, hv⟩
    · exact ⟨_, _, _, hv⟩
  go_wp2
  go_ret2
  refine ⟨rfl, .inr ?_, ?_⟩
  · exact Lib.BuilderAt.put (T := 74) (e := 5) hB hb2 (bs' := bs ++ Lib.strCells s) (by simpa [Lib.strCells_length] using hown') (by decide)
  · exact (hb1.grown hgrow hBs (fun k hk => (hown.lt k hk).1)).setCell (p := ⟨b, 1, none⟩) hB _
end Go.Proofs.YtpmmhmgojjlniaaGreatDoor.Ax
/- The contract of addr's Text, over whatever Itoa writes. -/
namespace Go.Proofs.YtpmmhmgojjlniaaGreatDoor.Ax
open Go.RowKit

set_option maxHeartbeats 1000000 in
theorem text_yes (dg : Int → List UInt8) (a b : Int) (w : World) (ha : 0 ≤ a) (ha2 : a ≤ 4294967295) (hm : Ad.may a b = true)
    (hdg : ∀ n, (dg n).length ≤ 100)
    (hI : ∀ (n : Int) (W : World), (n = b ∨ ∃ j, j < 4 ∧ n = Ad.oct a j) → Below w.heap.size w W → Calls Tryz.prog 136 #[.int .i64 n] W fun e w' => e = .returned (.string ⟨(dg n).toArray⟩) ∧ Below W.heap.size W w') :
    Calls Tryz.prog 137 #[.agg #[.int .u32 a, .int .i64 b]] w fun e w' => e = .returned (.string ⟨(Ad.text dg a b).toArray⟩) ∧ Below w.heap.size w w' := by
  have HI := hide hI
  have HD := hide hdg
  have HL := hide (Ad.textTo_len dg hdg a)
  have M0 := hide (Ad.mask (a / 16777216) (by omega) (by omega))
  have M1 := hide (Ad.mask (a / 65536) (by omega) (by omega))
  have M2 := hide (Ad.mask (a / 256) (by omega) (by omega))
  have M3 := hide (Ad.mask a ha ha2)
  clear hI hdg
  go_enter Tryz.func137, Tryz.ntmps137
  go_wp2_with fail
  refine (may_is _ _ _ hm _ ha ha2).mono ?_
  rintro e w1 ⟨rfl, hb1⟩
  obtain ⟨hc1, hf1⟩ := bcell hb1
  have hz0 : w.heap.size < w1.heap.size := by have := hb1.size; simp at this; omega
  have p0 : w1.cell? ⟨w.heap.size, 0, none⟩ = some (.int .u32 a) := by simp [hc1, go_sem]
  have p1 : w1.cell? ⟨w.heap.size, 1, none⟩ = some (.int .i64 b) := by simp [hc1, go_sem]
  have B1 : Hid (Below w.heap.size w w1) := bthen (balloc (brefl w) _) hb1
  clear hc1 hf1 hb1
  go_wp2_with fail
  go_loopw [9] (fun i wr => ∃ k : Nat, k ≤ 4 ∧ i = .int .i64 k ∧ Below w1.heap.size w1 wr ∧ Lib.IsBuilder 74 5 w1.heap.size w1.heap.size (Lib.byteCells (Ad.textTo dg a k)) wr) (fun i _ => 4 - (intOf i).toNat)
  case atStart =>
    exact ⟨0, by omega, rfl, (Below.refl _ _).alloc (Nat.le_refl _) _, Lib.fresh_isBuilder 74 5 w1⟩
  case round =>
    obtain ⟨k, hk, rfl, hbr, hbu⟩ := hrel
    have p0' := (hbr.cell (p := ⟨w.heap.size, 0, none⟩) hz0).trans p0
    have p1' := (hbr.cell (p := ⟨w.heap.size, 1, none⟩) hz0).trans p1
    have BU := hide hbu
    clear hbu
    by_cases hlt : k < 4
    · have hk' : k = 0 ∨ k = 1 ∨ k = 2 ∨ k = 3 := by omega
      rcases hk' with rfl | rfl | rfl | rfl
      all_goals
        go_wp2_with fail
        first | rw [M0.out, show a / 16777216 % 256 = Ad.oct a 0 from rfl] | rw [M1.out, show a / 65536 % 256 = Ad.oct a 1 from rfl] | rw [M2.out, show a / 256 % 256 = Ad.oct a 2 from rfl] | rw [M3.out, show a % 256 = Ad.oct a 3 from by simp [Ad.oct]]
        refine (HI.out _ _ (.inr ⟨_, ?_, rfl⟩) (bthen B1.out hbr)).mono ?_
        · decide
        rintro e w2 ⟨rfl, hb2⟩
        have BU2 := hide (builder_below BU.out hb2)
        have hb12 := hide (hbr.trans (hb2.mono hbr.size))
        clear hb2
        go_wp2_with fail
        refine (writeString_any _ _ _ _ _ BU2.out ?_ hb12.out.size).mono ?_
        · rw [Lib.byteCells_length]
          have := HL.out 0
          have := HL.out 1
          have := HL.out 2
          have := HL.out 3
          have := HD.out (Ad.oct a 0)
          have := HD.out (Ad.oct a 1)
          have := HD.out (Ad.oct a 2)
          have := HD.out (Ad.oct a 3)
          simp only [ByteArray.size, List.size_toArray]
          omega
        rintro e w3 ⟨rfl, BU3, hb3⟩
        have hb13 := hide (hb12.out.trans (hb3.mono (Nat.le_refl _)))
        have BU3' := hide BU3
        clear hb3 BU3
        go_wp2_with fail
        refine (writeByte_any _ _ _ _ _ BU3'.out ?_ hb13.out.size).mono ?_
        · rw [List.length_append, Lib.byteCells_length, Lib.strCells_length]
          have := HL.out 0
          have := HL.out 1
          have := HL.out 2
          have := HL.out 3
          have := HD.out (Ad.oct a 0)
          have := HD.out (Ad.oct a 1)
          have := HD.out (Ad.oct a 2)
          have := HD.out (Ad.oct a 3)
          simp only [ByteArray.size, List.size_toArray]
          omega
        rintro e w4 ⟨rfl, BU4, hb4⟩
        have hb14 := hide (hb13.out.trans (hb4.mono (Nat.le_refl _)))
        have BU4' := hide BU4
        clear hb4 BU4
        go_wp2_with fail
        refine ⟨⟨_, ?_, by go_num, hb14.out, ?_⟩, by simp [intOf]⟩
        · decide
        · have := BU4'.out
          simpa [Ad.textTo, Lib.byteCells, Lib.strCells, Ad.mark, Ad.at0, Ad.at1, Ad.at2, Ad.at3] using this
    · have hk4 : k = 4 := by omega
      subst hk4
      go_wp2_with fail
      refine (HI.out _ _ (.inl rfl) (bthen B1.out hbr)).mono ?_
      rintro e w2 ⟨rfl, hb2⟩
      have BU2 := hide (builder_below BU.out hb2)
      have hb12 := hide (hbr.trans (hb2.mono hbr.size))
      clear hb2
      go_wp2_with fail
      refine (writeString_any _ _ _ _ _ BU2.out ?_ hb12.out.size).mono ?_
      · rw [Lib.byteCells_length]
        have := HL.out 4
        have := HD.out b
        simp only [ByteArray.size, List.size_toArray]
        omega
      rintro e w3 ⟨rfl, BU3, hb3⟩
      have hb13 := hide (hb12.out.trans (hb3.mono (Nat.le_refl _)))
      have BU3' : Hid (Lib.IsBuilder 74 5 w1.heap.size w1.heap.size (Lib.byteCells (Ad.text dg a b)) w3) := by
        simpa [Ad.text, Lib.byteCells, Lib.strCells, Hid] using BU3
      clear hb3 BU3
      go_wp2_with fail
      refine (Tryz.Builder_String_any _ _ _ _ BU3'.out hb13.out.size).mono ?_
      rintro e w4 ⟨rfl, hb4⟩
      have hb14 := hide (hb13.out.trans (hb4.mono (Nat.le_refl _)))
      clear hb4
      go_wp2_with fail
      go_ret
      exact ⟨rfl, bthen B1.out hb14.out⟩
end Go.Proofs.YtpmmhmgojjlniaaGreatDoor.Ax
/- The contracts of addr's Text and Parse, over the digits that Itoa writes. -/
namespace Go.Proofs.YtpmmhmgojjlniaaGreatDoor.Ax
open Go.RowKit

/-- The library's table of powers of ten reads as it was laid. -/
def Tab (w : World) : Prop := Lib.TabIs Tryz.prog w "internal/strconv.uint64pow10" .u64 Lib.pow10Tab

theorem Tab.on {w w' : World} (h : Tab w) (hb : Below w.heap.size w w') : Tab w' := Lib.tabBelow_of_tabIs h w' hb

theorem itoa_any (n : Int) (h0 : -9223372036854775808 ≤ n) (h1 : n ≤ 9223372036854775807) (w : World) (h : Tab w) :
    Calls Tryz.prog 136 #[.int .i64 n] w fun e w' => e = .returned (.string ⟨(Lib.itoa n).toArray⟩) ∧ Below w.heap.size w w' := by
  refine (Tryz.strconv_Itoa n h0 h1 w h).mono ?_
  rintro e w' ⟨rfl, k, os, rfl⟩
  exact ⟨rfl, Lib.below_grow _ w (Nat.le_refl _) k os⟩

/-- Itoa's digits, where they are few. -/
def Ad.dgI (n : Int) : List UInt8 := if 0 ≤ n ∧ n ≤ 255 then Lib.itoa n else []

theorem Ad.dgI_len (n : Int) : (Ad.dgI n).length ≤ 100 := by
  unfold Ad.dgI
  split
  · have := Ad.itoa_len3 n (by omega) (by omega); omega
  · simp

theorem Ad.dgI_text (a b : Int) (h0 : 0 ≤ b) (h1 : b ≤ 32) : Ad.text Ad.dgI a b = Ad.textI a b := by
  have g : ∀ n, 0 ≤ n → n ≤ 255 → Ad.dgI n = Lib.itoa n := fun n a b => by unfold Ad.dgI; rw [if_pos ⟨a, b⟩]
  have o := Ad.oct_bd a
  unfold Ad.textI Ad.text Ad.textTo Ad.textTo Ad.textTo Ad.textTo Ad.textTo
  rw [g _ (o 0).1 (o 0).2, g _ (o 1).1 (o 1).2, g _ (o 2).1 (o 2).2, g _ (o 3).1 (o 3).2, g b h0 (by omega)]

theorem text_may (a b : Int) (w : World) (ha : 0 ≤ a) (ha2 : a ≤ 4294967295) (hm : Ad.may a b = true) (ht : Tab w) :
    Calls Tryz.prog 137 #[.agg #[.int .u32 a, .int .i64 b]] w fun e w' => e = .returned (.string ⟨(Ad.textI a b).toArray⟩) ∧ Below w.heap.size w w' := by
  have hb := of_decide_eq_true hm
  rw [← Ad.dgI_text a b hb.1 hb.2.1]
  refine text_yes Ad.dgI a b w ha ha2 hm Ad.dgI_len ?_
  intro n W hn hW
  have hr : 0 ≤ n ∧ n ≤ 255 := by
    rcases hn with rfl | ⟨j, _, rfl⟩
    · omega
    · exact Ad.oct_bd a j
  have e : Ad.dgI n = Lib.itoa n := by unfold Ad.dgI; rw [if_pos hr]
  rw [e]
  exact itoa_any n (by omega) (by omega) W (ht.on hW)

theorem text_not (a b : Int) (w : World) (ha : 0 ≤ a) (ha2 : a ≤ 4294967295) (hm : Ad.may a b = false) :
    Calls Tryz.prog 137 #[.agg #[.int .u32 a, .int .i64 b]] w fun e w' => e = .returned (.string ⟨#[]⟩) ∧ Below w.heap.size w w' := by
  go_enter Tryz.func137, Tryz.ntmps137
  go_wp2_with fail
  refine (may_is _ _ _ hm _ ha ha2).mono ?_
  rintro e w1 ⟨rfl, hb1⟩
  go_wp2_with fail
  go_ret
  exact ⟨rfl, bthen (balloc (brefl w) _) hb1⟩

/-- A prefix's text; none where it may not be. -/
def Ad.textA (a b : Int) : List UInt8 := if Ad.may a b = true then Ad.textI a b else []

theorem text_any (a b : Int) (w : World) (ha : 0 ≤ a) (ha2 : a ≤ 4294967295) (ht : Tab w) :
    Calls Tryz.prog 137 #[.agg #[.int .u32 a, .int .i64 b]] w fun e w' => e = .returned (.string ⟨(Ad.textA a b).toArray⟩) ∧ Below w.heap.size w w' := by
  unfold Ad.textA
  cases hm : Ad.may a b
  · exact text_not a b w ha ha2 hm
  · exact text_may a b w ha ha2 hm ht

theorem Ad.isNum_digs {x : List UInt8} (hx : Ad.isNum x = true) : Ad.digs x = true := by
  unfold Ad.isNum at hx
  simp only [Bool.and_eq_true] at hx
  exact hx.2

end Go.Proofs.YtpmmhmgojjlniaaGreatDoor.Ax
namespace Go.Proofs.YtpmmhmgojjlniaaGreatDoor.Ax
open Go.RowKit

theorem Ad.rmay_iff (r : Ad.R) : Ad.rmay r = true ↔ Ad.may r.1 r.2.1 = true ∧ r.2.1 ≤ r.2.2.1 ∧ r.2.2.1 ≤ r.2.2.2.1 ∧ r.2.2.2.1 ≤ 32 := by
  unfold Ad.rmay; simp [and_assoc]

def Ad.tword (p : Bool) : List UInt8 := if p = true then [112, 101, 114, 109, 105, 116, 32] else [100, 101, 110, 121, 32]
/-- What stands behind a rule's prefix. -/
def Ad.tge (b g : Int) : List UInt8 := if g = b then [] else [32, 103, 101, 32] ++ Lib.itoa g
def Ad.tle (g l : Int) : List UInt8 := if l = g then [] else [32, 108, 101, 32] ++ Lib.itoa l
/-- A rule's text. -/
def Ad.rtext (r : Ad.R) : List UInt8 := if Ad.rmay r = true then Ad.tword r.2.2.2.2 ++ Ad.textI r.1 r.2.1 ++ Ad.tge r.2.1 r.2.2.1 ++ Ad.tle r.2.2.1 r.2.2.2.1 else []

theorem Ad.ba_app (a b : List UInt8) : (⟨a.toArray⟩ : ByteArray) ++ ⟨b.toArray⟩ = ⟨(a ++ b).toArray⟩ := by
  apply ByteArray.ext
  simp [ByteArray.data_append]

/-- Two texts joined make a third one. -/
def Adds (x y z : ByteArray) : Prop := ∀ W : World, (Op.stringOp .add x y).run Tryz.prog W = .ok (.string z) W

theorem adds_mk (x y z : ByteArray) (h : x.size + y.size ≤ maxLen) (hz : x ++ y = z) : Adds x y z := by
  intro W
  subst hz
  exact run_string_add_sum W x y h


end Go.Proofs.YtpmmhmgojjlniaaGreatDoor.Ax
