import Derived.Test.YtkhmhmopcofejaaLC
import Derived.Laws.AppendOwnNone
/- Messages behind one another: how bytes are split; what the laws ask of the program's Split. -/
namespace Go.Proofs.Ytkhmhmopcofejaa
open Go.RowKit Go.Sort

/-- The length that a head tells. -/
def hdN (l : List UInt8) : Nat := val ((l.drop 16).take 2)
/-- A right head. -/
def hdOk (l : List UInt8) : Prop := l.take 16 = List.replicate 16 255 ∧ 19 ≤ hdN l ∧ hdN l ≤ 4096 ∧ 1 ≤ ((l.drop 18).headD 0).toNat ∧ ((l.drop 18).headD 0).toNat ≤ 4
instance (l : List UInt8) : Decidable (hdOk l) := by unfold hdOk; infer_instance
inductive Ps where
  | stop (q : Int)
  | msg (n : Nat)
/-- What comes first: a message of n bytes, or the end and its number. -/
def pstep (l : List UInt8) : Ps := if l.length < 19 then .stop 0 else if ¬ hdOk l then .stop 4 else if l.length < hdN l then .stop 0 else .msg (hdN l)
inductive SplitTo : List UInt8 → List (List UInt8) → Int → Prop
  | stop {l : List UInt8} {q : Int} : pstep l = .stop q → SplitTo l [] q
  | more {l : List UInt8} {n : Nat} {ms : List (List UInt8)} {q : Int} : pstep l = .msg n → SplitTo (l.drop n) ms q → SplitTo l (l.take n :: ms) q
theorem pstep_stop {l : List UInt8} {q : Int} (h : pstep l = .stop q) : q = 0 ∨ (q = 4 ∧ 19 ≤ l.length) := by
  unfold pstep at h
  split at h
  · cases h; exact .inl rfl
  · split at h
    · cases h; exact .inr ⟨rfl, by omega⟩
    · split at h
      · cases h; exact .inl rfl
      · cases h
theorem pstep_msg {l : List UInt8} {n : Nat} (h : pstep l = .msg n) : n = hdN l ∧ 19 ≤ n ∧ n ≤ 4096 ∧ n ≤ l.length := by
  unfold pstep at h
  split at h
  · cases h
  · split at h
    · cases h
    · rename_i h1
      split at h
      · cases h
      · cases h
        have := Decidable.not_not.1 h1
        exact ⟨rfl, this.2.1, this.2.2.1, by omega⟩
/-- A message that is whole. -/
def Whole (m : List UInt8) : Prop := 19 ≤ m.length ∧ m.length ≤ 4096 ∧ ∀ (h16 : 16 < m.length) (h17 : 17 < m.length), m[16].toNat * 256 + m[17].toNat = m.length
theorem hdN_two {l : List UInt8} (h : 17 < l.length) : hdN l = l[16].toNat * 256 + l[17].toNat := by
  unfold hdN
  rw [List.drop_eq_getElem_cons (by omega : 16 < l.length), List.drop_eq_getElem_cons (by omega : 17 < l.length)]
  rw [List.take_succ_cons, List.take_succ_cons, List.take_zero]
  simp [val, valFrom]
theorem whole_of {l : List UInt8} {n : Nat} (h : pstep l = .msg n) : Whole (l.take n) := by
  obtain ⟨h1, h2, h3, h4⟩ := pstep_msg h
  have hl : (l.take n).length = n := by rw [List.length_take]; omega
  refine ⟨by omega, by omega, fun h16 h17 => ?_⟩
  rw [hl, List.getElem_take, List.getElem_take, ← hdN_two (by omega), h1]
theorem SplitTo.whole {l : List UInt8} {ms : List (List UInt8)} {q : Int} (h : SplitTo l ms q) : ∀ m ∈ ms, Whole m := by
  induction h with
  | stop _ => intro m hm; cases hm
  | more hs _ ih =>
    intro m hm
    rcases List.mem_cons.1 hm with rfl | hm
    · exact whole_of hs
    · exact ih m hm
theorem SplitTo.all {l : List UInt8} {ms : List (List UInt8)} {q : Int} (h : SplitTo l ms q) : ms.flatten.length ≤ l.length ∧ ms.flatten = l.take ms.flatten.length ∧ pstep (l.drop ms.flatten.length) = .stop q := by
  induction h with
  | stop hs => exact ⟨Nat.zero_le _, rfl, hs⟩
  | @more l n ms q hs _ ih =>
    obtain ⟨_, _, _, hn⟩ := pstep_msg hs
    obtain ⟨h1, h2, h3⟩ := ih
    have hl : (l.take n).length = n := by rw [List.length_take]; omega
    rw [List.length_drop] at h1
    rw [List.flatten_cons, List.length_append, hl]
    refine ⟨by omega, ?_, ?_⟩
    · rw [List.take_add, ← h2]
    · rw [← List.drop_drop]; exact h3
theorem SplitTo.end_ {l : List UInt8} {ms : List (List UInt8)} {q q' : Int} (h : SplitTo l ms q) (hs : pstep l = .stop q') : ms = [] ∧ q = q' := by
  cases h with
  | stop h1 => rw [hs] at h1; cases h1; exact ⟨rfl, rfl⟩
  | more h1 _ => rw [hs] at h1; cases h1
theorem SplitTo.det {l : List UInt8} {ms : List (List UInt8)} {q : Int} (h : SplitTo l ms q) : ∀ {ms' : List (List UInt8)} {q' : Int}, SplitTo l ms' q' → ms' = ms ∧ q' = q := by
  induction h with
  | stop hs => intro ms' q' h'; exact h'.end_ hs
  | more hs _ ih =>
    intro ms' q' h'
    cases h' with
    | stop h1 => rw [hs] at h1; cases h1
    | more h1 h2 =>
      rw [hs] at h1
      cases h1
      obtain ⟨rfl, rfl⟩ := ih h2
      exact ⟨rfl, rfl⟩
theorem SplitTo.mem_le {l : List UInt8} {ms : List (List UInt8)} {q : Int} (h : SplitTo l ms q) : ms.length ≤ l.length := by
  induction h with
  | stop _ => exact Nat.zero_le _
  | @more l n ms q hs _ ih =>
    obtain ⟨_, _, _, hn⟩ := pstep_msg hs
    rw [List.length_drop] at ih
    rw [List.length_cons]
    omega
/-- Rows of bytes that lie there. -/
def Bss.slot (w : World) (ao : Option Addr) (ms : List (List UInt8)) : Prop := ms = [] ∨ ∃ b off, ao = some ⟨b, off, none⟩ ∧ ∀ j (h : j < ms.length), ∃ o c, w.cell? ⟨b, off + j, none⟩ = some (.slice o ms[j].length c) ∧ Bs.slot w o ms[j] ∧ camB o ms[j].length c
theorem Bss.slot_below {w w' : World} {ao : Option Addr} {ms : List (List UInt8)} (h : Bss.slot w ao ms) (hb : Below w.heap.size w w') : Bss.slot w' ao ms := by
  rcases h with h | ⟨b, off, h, hr⟩
  · exact .inl h
  · refine .inr ⟨b, off, h, fun j hj => ?_⟩
    obtain ⟨o, c, h1, h2, h3⟩ := hr j hj
    exact ⟨o, c, (hb.cell (p := ⟨b, off + j, none⟩) (block_lt_of_cell h1)).trans h1, Bs.slot_below h2 hb, h3⟩
/-- What the laws ask of the program's Split. -/
def KitSplit : Prop := ∀ (ao : Option Addr) (c : Nat) (l : List UInt8), l.length ≤ 60000 → ∀ W, Bs.slot W ao l → camB ao l.length c → Calls Try.prog 19 #[.slice ao l.length c] W fun e w' => ∃ (ms : List (List UInt8)) (q : Int) (o : Option Addr) (k : Nat), e = .returned (.tuple #[.slice o ms.length k, .int .i64 (ms.flatten.length : Int), .int .i64 q]) ∧ SplitTo l ms q ∧ Bss.slot w' o ms ∧ Below W.heap.size W w'
theorem Bs.slot_take {w : World} {ao : Option Addr} {l : List UInt8} (n : Nat) (h : Bs.slot w ao l) : Bs.slot w ao (l.take n) := by
  rcases h with h | ⟨b, off, h, hr⟩
  · left; rw [h, List.take_nil]
  · refine .inr ⟨b, off, h, fun j hj => ?_⟩
    rw [List.getElem_take]
    exact hr j (by rw [List.length_take] at hj; omega)
theorem Bs.reads_drop {w : World} {b off : Nat} {l : List UInt8} (n : Nat) (h : Bs.reads w b off l) : Bs.reads w b (off + n) (l.drop n) := by
  intro j hj
  rw [List.getElem_drop]
  have := h (n + j) (by rw [List.length_drop] at hj; omega)
  rw [Nat.add_assoc]
  exact this
end Go.Proofs.Ytkhmhmopcofejaa

/- The law WireStreams. -/
namespace Go.Proofs.Ytkhmhmopcofejaa
open Go.RowKit Go.Sort

theorem flats_take {ms : List (List UInt8)} {j : Nat} (hj : j < ms.length) : (ms.take (j + 1)).flatten = (ms.take j).flatten ++ ms[j] := by
  rw [List.take_succ_eq_append_getElem hj, List.flatten_append]
  simp
theorem flats_le (ms : List (List UInt8)) (j : Nat) : (ms.take j).flatten.length ≤ ms.flatten.length := by
  have h : ms.flatten = (ms.take j).flatten ++ (ms.drop j).flatten := by rw [← List.flatten_append, List.take_append_drop]
  rw [h, List.length_append]
  omega
set_option maxHeartbeats 4000000 in
set_option maxRecDepth 100000 in
theorem law_streams (K : Kit10) (KS : KitSplit) (ao : Option Addr) (c : Nat) (l : List UInt8) (w : World) (hA : Bs.slot w ao l) (hc : camB ao l.length c) :
    Calls Try.prog 7 #[.slice ao l.length c] w fun e w' => e = .returned (.bool true) ∧ Below w.heap.size w w' := by
  have CL := hide (fun W => lives10_is K W)
  clear K
  by_cases hl : 20000 < l.length
  · have hl' : (20000 : Int) < (l.length : Int) := by omega
    clear hl hA hc KS
    go_enter Try.func7, Try.ntmps7
    go_wp2_with fail
    refine (CL.out _).mono ?_
    rintro e w1 ⟨rfl, hb1⟩
    have B1 := hide hb1
    clear hb1
    go_wp2_with fail
    go_ret
    exact ⟨rfl, B1.out⟩
  have hl' : ¬ (20000 : Int) < (l.length : Int) := by omega
  have CS := hide (KS ao c l (by omega) w hA hc)
  have HL := hide hl
  have HA := hide hA
  have HC := hide hc
  have HK := hide KS
  clear hA hc KS hl
  go_enter Try.func7, Try.ntmps7
  go_wp2_with fail
  refine CS.out.mono ?_
  rintro e w1 ⟨ms, q, o, k, rfl, hsp, hss, hb1⟩
  have B1 := hide hb1
  have HS := hide hsp
  have HSS := hide hss
  clear hb1 hsp hss CS
  obtain ⟨N, hN⟩ : ∃ N, N = ms.flatten.length := ⟨_, rfl⟩
  rw [← hN]
  have HN := hide hN
  have hNl : N ≤ l.length := by rw [hN]; exact HS.out.all.1
  have hml : ms.length ≤ 20000 := Nat.le_trans HS.out.mem_le (by have := HL.out; omega)
  clear hN
  go_upto_region 5 with fail
  go_wp2_with fail
  go_loopw [6, 7] (fun v6 v7 wr => ∃ (j : Nat) (s : ByteArray), j ≤ ms.length ∧ v7 = .int .i64 (j : Int) ∧ v6 = .string s ∧ s = ⟨((ms.take j).flatten).toArray⟩ ∧ Below w1.heap.size w1 wr) (fun _ v7 _ => ms.length - (intOf v7).toNat)
  case atStart => exact ⟨0, ⟨#[]⟩, Nat.zero_le _, rfl, rfl, rfl, brefl w1⟩
  case round =>
    obtain ⟨j, s, hj, rfl, rfl, hs, hb⟩ := hrel
    have HBR := hide hb
    have HSE := hide hs
    clear hb hs
    by_cases hjl : j < ms.length
    · have hjl' : (j : Int) < (ms.length : Int) := by omega
      obtain ⟨g, off, rfl, hr⟩ : ∃ b off, o = some ⟨b, off, none⟩ ∧ ∀ j (h : j < ms.length), ∃ o c, wr.cell? ⟨b, off + j, none⟩ = some (.slice o ms[j].length c) ∧ Bs.slot wr o ms[j] ∧ camB o ms[j].length c := by
        rcases Bss.slot_below HSS.out HBR.out with h | h
        · rw [h] at hjl; simp at hjl
        · exact h
      obtain ⟨oj, cj, h1, h2, h3⟩ := hr j hjl
      clear hr
      obtain ⟨m, hm⟩ : ∃ m, m = ms[j] := ⟨_, rfl⟩
      rw [← hm] at h1 h2 h3
      have hw : Whole m := by rw [hm]; exact HS.out.whole _ (List.getElem_mem hjl)
      have hle : (ms.take (j + 1)).flatten.length ≤ 20000 := by
        have := flats_le ms (j + 1)
        have := HN.out
        have := HL.out
        omega
      obtain ⟨hw1, hw2, hw3⟩ := hw
      have hw16 := hw3 (by omega) (by omega)
      obtain ⟨b, off2, rfl, hrd⟩ := Bs.slot_at h2 (k := 16) (by omega)
      have c16 := hrd 16 (by omega)
      have c17 := hrd 17 (by omega)
      have H2 := hide h2
      have H3 := hide h3
      obtain ⟨xn, hxn⟩ : ∃ n, n = (m[16]'(by omega)).toNat := ⟨_, rfl⟩
      obtain ⟨yn, hyn⟩ : ∃ n, n = (m[17]'(by omega)).toNat := ⟨_, rfl⟩
      rw [← hxn] at c16 hw16
      rw [← hyn] at c17 hw16
      have hx : xn < 256 := by rw [hxn]; exact UInt8.toNat_lt _
      have hy : yn < 256 := by rw [hyn]; exact UInt8.toNat_lt _
      clear hxn hyn hw3 h2 h3 hrd
      obtain ⟨M, hM⟩ : ∃ M, M = m.length := ⟨_, rfl⟩
      rw [← hM] at h1 hw1 hw2 hw16
      have i1 : ¬ (M : Int) < 19 := by omega
      have i2 : ¬ (4096 : Int) < (M : Int) := by omega
      have i3 : (xn : Int) * 256 + (yn : Int) = (M : Int) := by omega
      have HM := hide hM
      have HMM := hide hm
      obtain ⟨t, ht⟩ : ∃ t : ByteArray, t = ⟨m.toArray⟩ := ⟨_, rfl⟩
      obtain ⟨s', hs'⟩ : ∃ t : ByteArray, t = ⟨((ms.take (j + 1)).flatten).toArray⟩ := ⟨_, rfl⟩
      have hadd : Adds s t s' := by
        rw [HSE.out, ht, hs', flats_take hjl, hm]
        rw [flats_take hjl, List.length_append] at hle
        exact adds_list _ _ (by omega) (by omega)
      unfold Adds at hadd
      have HS' := hide hs'
      have HTT := hide ht
      clear hM hm hs' hle ht
      have hMI := HM
      go_upto_region 8 with fail
      have r1 := fun dd os => cell_regrown h1 dd os
      have r2 := fun dd os => cell_regrown c16 dd os
      have r3 := fun dd os => cell_regrown c17 dd os
      have i4 : ((xn : Int) * 256 + (yn : Int) != (M : Int)) = false := by rw [i3]; simp
      refine wp_region_quiet_below (by kernel_rfl) (by kernel_rfl) ?_
      repeat (go_big_quiet_step (fail))
      refine wpQuiet_nil ?_
      rintro _ ⟨⟨dd, os⟩, rfl⟩
      have hb3 := below_regrown wr dd os
      generalize Sort.grow (redrawn wr dd) os = w3 at hb3
      have B3 := hide (bthen HBR.out hb3)
      have h1' := (hb3.cell (p := ⟨g, off + j, none⟩) (block_lt_of_cell h1)).trans h1
      have hstr := str_at (W := w3) HTT.out HM.out (Bs.slot_below H2.out hb3) (HM.out ▸ H3.out)
      clear hb3 r1 r2 r3 c16 c17 h1 i4
      go_wp2_with fail
      exact ⟨⟨j + 1, s', by omega, by go_num, rfl, HS'.out, B3.out⟩, by simp [intOf]; omega⟩
    · obtain rfl : j = ms.length := by omega
      rw [List.take_length] at HSE
      obtain ⟨_, hall, hend⟩ := HS.out.all
      rw [← HN.out] at hall hend
      have hsz : s.size = N := by rw [HSE.out, HN.out]; simp [ByteArray.size]
      have hB := bthen B1.out HBR.out
      have hs2 : Bs.slot wr ao (l.take N) := Bs.slot_take N (Bs.slot_below HA.out hB)
      have hq := pstep_stop hend
      have HQ := hide hq
      have HE := hide hend
      have HAll := hide hall
      have BB := hide hB
      have hlt : (l.take N).length = N := by rw [List.length_take]; omega
      have hcam : camB ao N c := ⟨HC.out.1, HC.out.2.1, Nat.le_trans hNl HC.out.2.2⟩
      have hst := str_at (W := wr) (t := s) (by rw [HSE.out, hall]) hlt.symm hs2 hcam
      have hself := str_self s
      have hncap : N ≤ c := hcam.2.2
      have hlc : l.length ≤ c := HC.out.2.2
      have hNN : ((N : Int) != (N : Int)) = false := by simp
      clear hq hend hall hB hs2 hlt hcam
      have CS2 : Hid (∀ (o2 : Option Addr) (c2 : Nat), Bs.slot wr o2 (l.drop N) → camB o2 (l.length - N) c2 → Calls Try.prog 19 #[.slice o2 (l.length - N) c2] wr fun e w' => ∃ o5 k5, e = .returned (.tuple #[.slice o5 0 k5, .int .i64 0, .int .i64 q]) ∧ Below wr.heap.size wr w') := by
        intro o2 c2 h1 h2
        have hld : (l.drop N).length = l.length - N := List.length_drop
        rw [← hld] at h2 ⊢
        refine (HK.out o2 c2 (l.drop N) (by have := HL.out; omega) wr h1 h2).mono ?_
        rintro e w' ⟨ms', q', o5, k5, rfl, h3, _, h4⟩
        obtain ⟨rfl, rfl⟩ := h3.end_ HE.out
        exact ⟨o5, k5, rfl, h4⟩
      have HNL := hide hNl
      have HLC := hide hlc
      cases ao with
      | none =>
        obtain rfl : c = 0 := HC.out.1 rfl
        obtain rfl : N = 0 := by omega
        obtain rfl : l = [] := List.length_eq_zero_iff.1 (by omega)
        have CS3 := hide (CS2.out none 0 (.inl rfl) ⟨fun _ => rfl, fun _ h => (by cases h), Nat.le_refl _⟩)
        clear CS2
        simp only [List.length_nil, Nat.sub_zero] at *
        go_upto_region 13 with fail
        go_wp2_with fail
        refine (CS3.out).mono ?_
        rintro e w5 ⟨o5, k5, rfl, hb5⟩
        have B5 := hide (bthen BB.out hb5)
        clear hb5 hst
        rcases HQ.out with hq0 | ⟨hq4, h19⟩
        · subst hq0
          go_wp2_with fail
          refine (CL.out _).mono ?_
          rintro e w6 ⟨rfl, hb6⟩
          have B6 := hide (bthen B5.out hb6)
          clear hb6
          go_wp2_with fail
          go_ret
          exact ⟨rfl, B6.out⟩
        · subst hq4
          exact absurd h19 (by simp)
      | some ad =>
        obtain ⟨b, off, sp⟩ := ad
        obtain rfl : sp = none := HC.out.2.1 _ rfl
        have hrd : Bs.slot wr (some ⟨b, off, none⟩) l := Bs.slot_below HA.out BB.out
        have CS3 := hide (fun h => CS2.out (some ⟨b, off, none⟩) 0 (.inl (List.drop_eq_nil_of_le h)) ⟨fun h => (by cases h), fun _ h => (by cases h; rfl), Nat.le_of_eq (Nat.sub_eq_zero_of_le h)⟩)
        have CS4 := hide (CS2.out (some ⟨b, off + N, none⟩) (c - N) (by
          rcases hrd with h | ⟨b', off', h, hr⟩
          · left; rw [h, List.drop_nil]
          · simp only [Option.some.injEq, Addr.mk.injEq, and_true] at h
            rw [← h.1, ← h.2] at hr
            exact .inr ⟨b, off + N, rfl, Bs.reads_drop N hr⟩) ⟨fun h => (by cases h), fun _ h => (by cases h; rfl), by omega⟩)
        clear CS2 hrd
        go_upto_region 13 with fail
        go_wp2_with fail
        · have CS5 := hide (CS3.out (by have := HLC.out; omega))
          refine (CS5.out).mono ?_
          rintro e w5 ⟨o5, k5, rfl, hb5⟩
          have B5 := hide (bthen BB.out hb5)
          clear hb5 hst
          rcases HQ.out with hq0 | ⟨hq4, h19⟩
          · subst hq0
            go_wp2_with fail
            refine (CL.out _).mono ?_
            rintro e w6 ⟨rfl, hb6⟩
            have B6 := hide (bthen B5.out hb6)
            clear hb6
            go_wp2_with fail
            go_ret
            exact ⟨rfl, B6.out⟩
          · subst hq4
            have h19' : (19 : Int) ≤ (l.length : Int) - (N : Int) := by rw [List.length_drop] at h19; omega
            clear h19
            go_wp2_with fail
            refine (CL.out _).mono ?_
            rintro e w6 ⟨rfl, hb6⟩
            have B6 := hide (bthen B5.out hb6)
            clear hb6
            go_wp2_with fail
            go_ret
            exact ⟨rfl, B6.out⟩
        · clear CS3
          refine (CS4.out).mono ?_
          rintro e w5 ⟨o5, k5, rfl, hb5⟩
          have B5 := hide (bthen BB.out hb5)
          clear hb5 hst
          rcases HQ.out with hq0 | ⟨hq4, h19⟩
          · subst hq0
            go_wp2_with fail
            refine (CL.out _).mono ?_
            rintro e w6 ⟨rfl, hb6⟩
            have B6 := hide (bthen B5.out hb6)
            clear hb6
            go_wp2_with fail
            go_ret
            exact ⟨rfl, B6.out⟩
          · subst hq4
            have h19' : (19 : Int) ≤ (l.length : Int) - (N : Int) := by rw [List.length_drop] at h19; omega
            clear h19
            go_wp2_with fail
            refine (CL.out _).mono ?_
            rintro e w6 ⟨rfl, hb6⟩
            have B6 := hide (bthen B5.out hb6)
            clear hb6
            go_wp2_with fail
            go_ret
            exact ⟨rfl, B6.out⟩
end Go.Proofs.Ytkhmhmopcofejaa

/- Messages that were put one behind the other are split as they were. -/
namespace Go.Proofs.Ytkhmhmopcofejaa
open Go.RowKit Go.Sort

theorem num_one {k : Nat} : num k 1 = [UInt8.ofNat (k % 256)] := rfl
theorem pstep_frame {k : Nat} {d : List UInt8} (rest : List UInt8) (h1 : 1 ≤ k) (h4 : k ≤ 4) (hd : 19 + d.length ≤ 4096) : pstep (frame k d ++ rest) = .msg (19 + d.length) := by
  have hff : ff.length = 16 := by decide
  have e : frame k d ++ rest = ff ++ (num (19 + d.length) 2 ++ (num k 1 ++ (d ++ rest))) := by simp [frame]
  have e16 : (frame k d ++ rest).take 16 = ff := by rw [e, ← hff, List.take_left]
  have d16 : (frame k d ++ rest).drop 16 = num (19 + d.length) 2 ++ (num k 1 ++ (d ++ rest)) := by rw [e, ← hff, List.drop_left]
  have hN : hdN (frame k d ++ rest) = 19 + d.length := by
    unfold hdN
    rw [d16, List.take_left' (num_length _ _), val_num _ _ (by omega)]
  have d18 : (frame k d ++ rest).drop 18 = num k 1 ++ (d ++ rest) := by
    rw [show (18 : Nat) = 16 + 2 from rfl, ← List.drop_drop, d16]
    exact List.drop_left' (num_length _ _)
  have hk : ((frame k d ++ rest).drop 18).headD 0 = UInt8.ofNat (k % 256) := by rw [d18, num_one]; rfl
  have hkn : (UInt8.ofNat (k % 256)).toNat = k := by rw [byte_nat (by omega)]; omega
  have hlen : (frame k d ++ rest).length = 19 + d.length + rest.length := by rw [List.length_append, frame_length]
  have hok : hdOk (frame k d ++ rest) := by
    refine ⟨e16, ?_, ?_, ?_, ?_⟩
    · omega
    · omega
    · rw [hk, hkn]; exact h1
    · rw [hk, hkn]; exact h4
  unfold pstep
  rw [if_neg (by omega), if_neg (fun h => h hok), if_neg (by omega), hN]
/-- A message that the program may write. -/
def Msg (m : List UInt8) : Prop := ∃ k d, m = frame k d ∧ 1 ≤ k ∧ k ≤ 4 ∧ 19 + d.length ≤ 4096
theorem msg_enc {u : Up} (h : u.may) : Msg u.enc := ⟨2, u.body, rfl, by decide, by decide, by have := Up.body_length h; omega⟩
theorem msg_alive : Msg alive := ⟨4, [], rfl, by decide, by decide, by decide⟩
theorem Msg.length_le {m : List UInt8} (h : Msg m) : m.length ≤ 4096 := by
  obtain ⟨k, d, rfl, _, _, h4⟩ := h
  rw [frame_length]
  exact h4
theorem split_all : ∀ (ms : List (List UInt8)) (rest : List UInt8), (∀ m ∈ ms, Msg m) → rest.length < 19 → SplitTo (ms.flatten ++ rest) ms 0
  | [], rest, _, hr => .stop (by rw [List.flatten_nil, List.nil_append]; unfold pstep; rw [if_pos hr])
  | m :: ms, rest, h, hr => by
    obtain ⟨k, d, hm, h1, h4, hd⟩ := h m (List.mem_cons_self ..)
    have hl : m.length = 19 + d.length := by rw [hm, frame_length]
    have hs : pstep (m ++ (ms.flatten ++ rest)) = .msg (19 + d.length) := by rw [hm]; exact pstep_frame _ h1 h4 hd
    have hrest := split_all ms rest (fun x hx => h x (List.mem_cons_of_mem _ hx)) hr
    have e1 : (m ++ (ms.flatten ++ rest)).take (19 + d.length) = m := by rw [← hl, List.take_left]
    have e2 : (m ++ (ms.flatten ++ rest)).drop (19 + d.length) = ms.flatten ++ rest := by rw [← hl, List.drop_left]
    have := SplitTo.more hs (by rw [e2]; exact hrest)
    rw [e1] at this
    rw [List.flatten_cons, List.append_assoc]
    exact this
theorem flats_bound {ms : List (List UInt8)} (h : ∀ m ∈ ms, Msg m) : ms.flatten.length ≤ ms.length * 4096 := by
  induction ms with
  | nil => simp
  | cons m ms ih =>
    have h1 := (h m (List.mem_cons_self ..)).length_le
    have h2 := ih (fun x hx => h x (List.mem_cons_of_mem _ hx))
    rw [List.flatten_cons, List.length_append, List.length_cons]
    omega
end Go.Proofs.Ytkhmhmopcofejaa

/- Two rows that grow side by side: bytes, and texts. Lists of updates. -/
namespace Go.Proofs.Ytkhmhmopcofejaa
open Go.RowKit Go.Sort

def Tx.cells (l : List ByteArray) : List Value := l.map Value.string
theorem bcells_app (l m : List UInt8) : bcells (l ++ m) = bcells l ++ bcells m := by simp [bcells]
theorem rows_apart {w : World} {B B' n n' : Nat} {v v' : Value} {xs ys : List Value} (h5 : w.ownsRow B 5 1 v n xs) (h9 : w.ownsRow B' 9 1 v' n' ys) : (v.ownBlock = none ∨ v.ownBlock ≠ v'.ownBlock) ∧ (v'.ownBlock = none ∨ v'.ownBlock ≠ v.ownBlock) := by
  rcases h5.2 with ⟨rfl, _⟩ | ⟨g, cap, cur, rfl, _, hg, _⟩
  · refine ⟨.inl rfl, ?_⟩
    rcases h9.2 with ⟨rfl, _⟩ | ⟨g', cap', cur', rfl, _, hg', _⟩
    · exact .inl rfl
    · right; intro e; cases e
  · rcases h9.2 with ⟨rfl, _⟩ | ⟨g', cap', cur', rfl, _, hg', _⟩
    · exact ⟨.inr (fun e => by cases e), .inl rfl⟩
    · have hne : g ≠ g' := by
        rintro rfl
        rw [hg] at hg'
        simp at hg'
      refine ⟨.inr (fun e => ?_), .inr (fun e => ?_)⟩
      · simp only [Value.ownBlock, Option.some.injEq] at e; exact hne e
      · simp only [Value.ownBlock, Option.some.injEq] at e; exact hne e.symm
theorem Bs.slot_grown {w w' : World} {row : Option Nat} {ao : Option Addr} {l : List UInt8} (h : Bs.slot w ao l) (hg : w.grownBy w' row) (hne : ∀ ad, ao = some ad → some ad.block ≠ row) : Bs.slot w' ao l := by
  rcases h with h | ⟨b, off, h, hr⟩
  · exact .inl h
  · exact .inr ⟨b, off, h, fun j hj => hg.cell (a := ⟨b, off + j, none⟩) (hr j hj) (hne ⟨b, off, none⟩ h)⟩
/-- Bytes behind bytes of one's own, beside a row of texts. -/
theorem append_bytes {w w0 : World} {ops : Array Oper} {rest : List Oper} {o : Oper} {a : Act} {Q : Exit → Act → World → Prop} (hgd : o.guard = none) (s x : Operand)
    (ho : o.op = .call { callee := .builtin .append, args := #[s, x], argTypes := #[31, 31] }) (v : Value) (n : Nat) (xs : List UInt8) (hs : a.eval s = v) (hown : w.ownsRow w0.heap.size 5 1 v n (bcells xs))
    (vs : Value) (m : Nat) (ys : List Value) (hS : w.ownsRow w0.heap.size 9 1 vs m ys)
    (ao : Option Addr) (nl cap : Nat) (l : List UInt8) (hx : a.eval x = .slice ao nl cap) (hnl : l.length = nl) (hR : Bs.slot w ao l) (hC : camB ao nl cap) (hap : ∀ ad, ao = some ad → some ad.block ≠ v.ownBlock) (hn : n + nl ≤ 1000000) (hb : Below w0.heap.size w0 w)
    (h : ∀ v' w', w'.ownsRow w0.heap.size 5 1 v' (n + nl) (bcells (xs ++ l)) → w'.ownsRow w0.heap.size 9 1 vs m ys → Bs.slot w' ao l → Below w0.heap.size w0 w' → wpList Try.prog ops Q rest (a.put o.dst v') w') : wpList Try.prog ops Q (o :: rest) a w := by
  subst hnl
  obtain ⟨i0, hi, hz0, hz1, hz2⟩ := info_partsB
  cases ao with
  | none =>
    have hl : l = [] := by
      rcases hR with h | ⟨b, off, h, _⟩
      · exact h
      · cases h
    subst hl
    rw [hC.1 rfl] at hx
    refine wpList_append_own_none hgd s x 31 ho w0.heap.size 5 i0 1 Try.underlying31 hi v n (bcells xs) hs hown hx ?_
    exact h v w (by simpa using hown) hS hR hb
  | some ad =>
    obtain ⟨b, off, sp⟩ := ad
    obtain rfl : sp = none := hC.2.1 _ rfl
    have hrd : ∀ j u, (bcells l)[j]? = some u → w.cell? ((⟨b, off, none⟩ : Addr).add j) = some u := by
      intro j u hu
      obtain ⟨hj, rfl⟩ := bcells_get l j u hu
      rcases hR with h | ⟨b', off', h, hr⟩
      · subst h; simp at hj
      · simp only [Option.some.injEq, Addr.mk.injEq, and_true] at h
        rw [show (⟨b, off, none⟩ : Addr).add j = ⟨b, off + j, none⟩ by unfold Addr.add; split <;> simp_all, h.1, h.2]
        exact hr j hj
    refine wpList_append_own w hgd s x 31 ho w0.heap.size 5 i0 _ 1 1 Try.underlying31 hi hz0 hz1 hz2 rfl (by decide) v n (bcells xs) hs hown ⟨b, off, none⟩ l.length cap (bcells l) hx (by simp [bcells]) hrd ?_ (by unfold maxLen; omega) (by omega) hb.size ?_
    · intro u hu
      obtain ⟨z, _, rfl⟩ := List.mem_map.1 hu
      rfl
    · intro v' w' ho' hg _
      refine h v' w' ?_ (hS.kept hg (rows_apart hown hS).2) (Bs.slot_grown hR hg hap) (Below.grown hb hg hb.size fun k hk => (hown.lt k hk).1)
      rw [bcells_app]
      exact ho'
theorem infoS : (Try.prog.info? 9).map (fun i => (i.zero, i.size, i.bytes)) = some (some (.string ⟨#[]⟩), 1, 16) := by kernel_rfl
theorem info_partsS : ∃ i0 : TypeInfo, Try.prog.info? 9 = some i0 ∧ i0.zero = some (.string ⟨#[]⟩) ∧ i0.size = 1 ∧ i0.bytes = 16 := by
  have h := infoS
  cases hi : Try.prog.info? 9 with
  | none => rw [hi] at h; cases h
  | some i0 =>
    rw [hi] at h
    simp only [Option.map_some, Option.some.injEq, Prod.mk.injEq] at h
    exact ⟨i0, rfl, h.1, h.2.1, h.2.2⟩
/-- A text behind texts of one's own, beside a row of bytes. -/
theorem append_text {w w0 : World} {ops : Array Oper} {rest : List Oper} {o : Oper} {a : Act} {Q : Exit → Act → World → Prop} (hgd : o.guard = none) (s x : Operand)
    (ho : o.op = .call { callee := .builtin .append, args := #[s, x], argTypes := #[46, 46] }) (v : Value) (n : Nat) (xs : List ByteArray) (hs : a.eval s = v) (hown : w.ownsRow w0.heap.size 9 1 v n (Tx.cells xs))
    (vb : Value) (m : Nat) (ys : List Value) (hS : w.ownsRow w0.heap.size 5 1 vb m ys)
    (u : ByteArray) (g0 c : Nat) (hx : a.eval x = .slice (some ⟨g0, 0, none⟩) 1 c) (hc : w.cell? ⟨g0, 0, none⟩ = some (.string u)) (hn : n ≤ 100000) (hb : Below w0.heap.size w0 w)
    (h : ∀ v' w', w'.ownsRow w0.heap.size 9 1 v' (n + 1) (Tx.cells (xs ++ [u])) → w'.ownsRow w0.heap.size 5 1 vb m ys → Below w0.heap.size w0 w' → wpList Try.prog ops Q rest (a.put o.dst v') w') : wpList Try.prog ops Q (o :: rest) a w := by
  obtain ⟨i0, hi, hz0, hz1, hz2⟩ := info_partsS
  refine wpList_append_own w hgd s x 46 ho w0.heap.size 9 i0 _ 1 16 Try.underlying46 hi hz0 hz1 hz2 rfl (by decide) v n (Tx.cells xs) hs hown ⟨g0, 0, none⟩ 1 c [.string u] hx rfl ?_ (fun w hw => by simp at hw; subst hw; rfl) (by unfold maxLen; omega) (by omega) hb.size ?_
  · intro j q hj
    match j, hj with
    | 0, hj =>
      simp at hj
      subst hj
      simpa [Addr.add] using hc
  · intro v' w' ho' hg _
    refine h v' w' ?_ (hS.kept hg (rows_apart hS hown).1) (Below.grown hb hg hb.size fun k hk => (hown.lt k hk).1)
    simpa [Tx.cells] using ho'
/-- An update as it lies in a list. -/
structure Ue where
  u : Up
  wo : Option Addr
  tq : Option Addr
  po : Option Addr
  co : Option Addr
  ko : Option Addr
  cw : Nat
  ct : Nat
  cp : Nat
  cc : Nat
  ck : Nat
def Ue.at_ (w : World) (b off : Nat) (x : Ue) : Prop := w.cell? ⟨b, off, none⟩ = some (.slice x.wo x.u.wd.length x.cw) ∧ w.cell? ⟨b, off + 1, none⟩ = some (.slice x.tq x.u.td.length x.ct) ∧ w.cell? ⟨b, off + 2, none⟩ = some (.int .i64 x.u.at_.pf) ∧ w.cell? ⟨b, off + 3, none⟩ = some (.int .i64 x.u.at_.md) ∧ w.cell? ⟨b, off + 4, none⟩ = some (.int .i64 x.u.at_.og) ∧ w.cell? ⟨b, off + 5, none⟩ = some (.slice x.po x.u.at_.path.length x.cp) ∧ w.cell? ⟨b, off + 6, none⟩ = some (.slice x.co x.u.at_.comms.length x.cc) ∧ w.cell? ⟨b, off + 7, none⟩ = some (.int .i64 x.u.at_.fr) ∧ w.cell? ⟨b, off + 8, none⟩ = some (.slice x.ko x.u.at_.cl.length x.ck)
theorem Ue.at_below {w w' : World} {b off : Nat} {x : Ue} (h : x.at_ w b off) (hb : Below w.heap.size w w') : x.at_ w' b off := by
  have hlt := block_lt_of_cell h.1
  have k : ∀ o, w'.cell? ⟨b, o, none⟩ = w.cell? ⟨b, o, none⟩ := fun o => hb.cell (p := ⟨b, o, none⟩) hlt
  unfold Ue.at_
  simp only [k]
  exact h
/-- Updates that lie there. -/
def Us.slot (w : World) (ao : Option Addr) (l : List Ue) : Prop := (l = [] ∨ ∃ b off, ao = some ⟨b, off, none⟩ ∧ ∀ j (h : j < l.length), Ue.at_ w b (off + j * 9) l[j]) ∧ ∀ x ∈ l, Up.lies w x.u x.wo x.tq x.po x.co x.ko
theorem Us.slot_below {w w' : World} {ao : Option Addr} {l : List Ue} (h : Us.slot w ao l) (hb : Below w.heap.size w w') : Us.slot w' ao l := by
  refine ⟨?_, fun x hx => Up.lies_below (h.2 x hx) hb⟩
  rcases h.1 with h | ⟨b, off, h, hr⟩
  · exact .inl h
  · exact .inr ⟨b, off, h, fun j hj => Ue.at_below (hr j hj) hb⟩
end Go.Proofs.Ytkhmhmopcofejaa

