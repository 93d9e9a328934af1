/- The document's Drop, Set, Same. -/
import Derived.Test.YtkfomjinilmjaaaRa
namespace Go.Proofs.Ytkfomjinilmjaaa
open Go.RowKit Go.Maps

theorem rowOf_ix {L : List RwS} {k : ByteArray} : (rowOf L k).isSome = (ix L k).isSome := by
  cases e : ix L k with
  | none => rw [ix_none.1 e]; rfl
  | some i =>
    obtain ⟨x, _, _, h⟩ := ix_some e
    rw [h]; rfl
/-- What Drop hands back. -/
def RefDropped (w : World) (L : List RwS) (ao : Option Addr) (k : ByteArray) (e : Ending) (w' : World) : Prop :=
  ∃ (ao' : Option Addr) (cap' : Nat), e = .returned (.tuple #[.slice ao' (without L k).length cap', .bool (rowOf L k).isSome]) ∧ Th.Good w' ao' cap' (without L k) ∧ Below w.heap.size w w' ∧ Near w ao ao'
set_option maxHeartbeats 4000000 in
set_option maxRecDepth 100000 in
theorem refDrop_is {ao : Option Addr} {cap : Nat} {L : List RwS} {w : World} (hG : Th.Good w ao cap L) (ho : Once L) (hn : L.length ≤ 1000) (k : ByteArray) :
    Calls Try.prog 14 #[.slice ao L.length cap, .string k] w (RefDropped w L ao k) := by
  have CA := hide (refAt_is (cap := cap) hG.row hn k)
  have HG := hide hG
  have hle := hG.le
  cases e : ix L k with
  | none =>
    rw [atI_none e] at CA
    have HE : Hid ((rowOf L k).isSome = false) := by show _ = _; rw [rowOf_ix, e]; rfl
    have HW : Hid (without L k = L) := without_no (rowOf_none.1 (ix_none.1 e))
    clear hG e
    go_enter Try.func14, Try.ntmps14
    go_wp2_with fail
    refine CA.out.mono ?_
    rintro e w1 ⟨rfl, hw⟩
    have hw' := hw.symm
    clear hw
    subst hw'
    go_wp2_with fail
    go_ret2
    exact ⟨ao, cap, by rw [HE.out, HW.out]; rfl, by rw [HW.out]; exact HG.out, brefl _, fun a e => .inl ⟨a, e, rfl⟩⟩
  | some i =>
    rw [atI_some e] at CA
    obtain ⟨x, hx, hxk, hrow⟩ := ix_some e
    have HE : Hid ((rowOf L k).isSome = true) := by show _ = _; rw [hrow]; rfl
    have HW : Hid (without L k = L.take i ++ L.drop (i + 1)) := by show _ = _; rw [← hxk]; exact without_at ho hx
    have hil := get_lt hx
    have SL := run_head ao L.length cap i (by omega) hle
    have SL2 := run_tail' ao L.length cap i (by omega) hle
    have HLT : Hid ((L.take i).length = i) := by show _ = _; rw [List.length_take]; omega
    have HLT2 : Hid ((L.drop (i + 1)).length = L.length - (i + 1)) := by show _ = _; simp
    have hnn : ¬ (i : Int) < 0 := by omega
    clear hG e hx hxk hrow ho
    go_enter Try.func14, Try.ntmps14
    go_wp2_with fail
    refine CA.out.mono ?_
    rintro e w1 ⟨rfl, hw⟩
    have hw' := hw.symm
    clear hw
    subst hw'
    clear CA
    go_wp2_with (at_builtin; go_must (refine append_ths (w0 := w) rfl _ _ rfl (.slice none 0 0) 0 [] rfl ⟨rfl, .inl ⟨rfl, rfl⟩⟩ ao i cap (L.take i) rfl HLT.out (row_take HG.out.row i) HG.out.came (by omega) (brefl w) ?_))
    intro v2 w2 ho2 hb2
    have HO2 := hide ho2
    have B2 := hide hb2
    clear ho2 hb2
    go_wp2_with (at_builtin; go_must (refine append_ths (w0 := w) rfl _ _ rfl v2 i (L.take i) rfl (by simpa using HO2.out) (cutA ao cap (i + 1)) (L.length - (i + 1)) (cap - (i + 1)) (L.drop (i + 1)) rfl HLT2.out (row_cut (HG.out.below B2.out).row hle (i + 1)) (came_cut HG.out.came (i + 1)) (by omega) B2.out ?_))
    intro v4 w4 ho4 hb4
    have HO4 := hide ho4
    have B4 := hide hb4
    clear ho4 hb4
    obtain ⟨ao', cap', rfl, hg', hnew⟩ := th_shape (l := L.take i ++ L.drop (i + 1)) HO4.out (by rw [List.length_append, HLT.out, HLT2.out])
    have HG' := hide hg'
    have HNW := hide hnew
    clear hg' hnew
    go_wp2_with fail
    go_ret2
    exact ⟨ao', cap', by rw [HE.out, HW.out]; rfl, by rw [HW.out]; exact HG'.out, B4.out, fun a e => .inr (HNW.out a e)⟩
theorem row_two (W : World) (k : ByteArray) (r t : Int) : Th.rowAt (W.alloc (.cells #[.string k, .int .i64 r] 40)) (some ⟨W.heap.size, 0, none⟩) [⟨k, r, t⟩] := by
  refine .inr ⟨_, 0, rfl, fun j u hu => ?_⟩
  match j, hu with
  | 0, hu => simp [Th.cells, Th.enc] at hu; subst hu; simp
  | 1, hu => simp [Th.cells, Th.enc] at hu; subst hu; simp
  | j + 2, hu => simp [Th.cells, Th.enc] at hu
/-- What Set hands back. -/
def RefSet (w : World) (L : List RwS) (k : ByteArray) (r t : Int) (e : Ending) (w' : World) : Prop :=
  ∃ (ao' : Option Addr) (cap' : Nat), e = .returned (.tuple #[.slice ao' (without L k ++ [(⟨k, r, t⟩ : RwS)]).length cap', .bool (rowOf L k).isSome]) ∧ Th.Good w' ao' cap' (without L k ++ [⟨k, r, t⟩]) ∧ Below w.heap.size w w' ∧ ∀ a, ao' = some a → w.heap.size ≤ a.block
set_option maxHeartbeats 4000000 in
set_option maxRecDepth 100000 in
theorem refSet_is {ao : Option Addr} {cap : Nat} {L : List RwS} {w : World} (hG : Th.Good w ao cap L) (ho : Once L) (hn : L.length ≤ 900) (k : ByteArray) (r t : Int) :
    Calls Try.prog 12 #[.slice ao L.length cap, .string k, .int .i64 r] w (RefSet w L k r t) := by
  have CD := hide (refDrop_is hG ho (by omega) k)
  have hlw : (without L k).length ≤ L.length := List.length_filter_le _ _
  clear hG ho
  go_enter Try.func12, Try.ntmps12
  go_wp2_with fail
  refine CD.out.mono ?_
  rintro e w1 ⟨ao1, cap1, rfl, hg1, hb1, _⟩
  have G1 := hide hg1
  have B1 := hide hb1
  obtain ⟨hs, hhs⟩ : ∃ b, (rowOf L k).isSome = b := ⟨_, rfl⟩
  rw [hhs]
  have HHS := hide hhs
  obtain ⟨L1, hL1⟩ : ∃ L1, without L k = L1 := ⟨_, rfl⟩
  rw [hL1] at G1 hlw ⊢
  have HL1 := hide hL1
  clear hg1 hb1 CD hhs hL1
  go_wp2_with (at_builtin; go_must (refine append_ths (w0 := w1) rfl _ _ rfl (.slice none 0 0) 0 [] rfl ⟨rfl, .inl ⟨rfl, rfl⟩⟩ ao1 L1.length cap1 L1 rfl rfl G1.out.row G1.out.came (by omega) (brefl w1) ?_))
  intro v2 w2 ho2 hb2
  have HO2 := hide ho2
  have B2 := hide hb2
  clear ho2 hb2
  go_wp2_with (at_builtin; go_must (refine append_ths (w0 := w1) rfl _ _ rfl v2 L1.length L1 rfl (by simpa using HO2.out.alloc _) (some ⟨w2.heap.size, 0, none⟩) 1 1 [⟨k, r, t⟩] rfl rfl (row_two w2 k r t) (came_some _ _ _) (by omega) (balloc B2.out _) ?_))
  intro v3 w3 ho3 hb3
  have HO3 := hide ho3
  have B3 := hide (bthen B1.out hb3)
  clear ho3 hb3
  obtain ⟨ao', cap', rfl, hg', hnew⟩ := th_shape (l := L1 ++ [⟨k, r, t⟩]) HO3.out (by rw [List.length_append]; rfl)
  have HG' := hide hg'
  have HNW : Hid (∀ a, ao' = some a → w.heap.size ≤ a.block) := fun a e => Nat.le_trans B1.out.size (hnew a e)
  clear hg' hnew
  go_wp2_with fail
  go_ret2
  exact ⟨ao', cap', by rw [HL1.out, HHS.out]; rfl, by rw [HL1.out]; exact HG'.out, B3.out, HNW.out⟩
set_option maxHeartbeats 4000000 in
set_option maxRecDepth 100000 in
theorem refSame_is {a1 a2 : Option Addr} {c1 c2 : Nat} {l1 l2 : List ByteArray} {w : World} (h1 : Ks.slot w a1 l1) (h2 : Ks.slot w a2 l2) (hn : l1.length ≤ 1000) (he : l1 = l2) :
    Calls Try.prog 25 #[.slice a1 l1.length c1, .slice a2 l2.length c2] w fun e w' => e = .returned (.bool true) ∧ Below w.heap.size w w' := by
  subst he
  have H1 := hide h1
  have H2 := hide h2
  have hne : ((l1.length : Int) != (l1.length : Int)) = false := by simp
  clear h1 h2
  go_enter Try.func25, Try.ntmps25
  go_wp2_with fail
  go_loopw [5] (fun v5 wr => ∃ i : Nat, i ≤ l1.length ∧ v5 = .int .i64 i ∧ Hid (Below w.heap.size w wr)) (fun v5 _ => l1.length - (intOf v5).toNat)
  case atStart => exact ⟨0, Nat.zero_le _, rfl, brefl w⟩
  case round =>
    obtain ⟨i, hi, rfl, HB⟩ := hrel
    by_cases hlt : i < l1.length
    · have hlt' : (i : Int) < (l1.length : Int) := by omega
      obtain ⟨b1, o1, rfl, _, r1⟩ : ∃ b off, a1 = some ⟨b, off, none⟩ ∧ b < wr.heap.size ∧ ∀ j (h : j < l1.length), wr.cell? ⟨b, off + j, none⟩ = some (.string l1[j]) := by
        rcases Ks.below H1.out HB.out with h | h
        · rw [h] at hlt; simp at hlt
        · exact h
      obtain ⟨b2, o2, rfl, _, r2⟩ : ∃ b off, a2 = some ⟨b, off, none⟩ ∧ b < wr.heap.size ∧ ∀ j (h : j < l1.length), wr.cell? ⟨b, off + j, none⟩ = some (.string l1[j]) := by
        rcases Ks.below H2.out HB.out with h | h
        · rw [h] at hlt; simp at hlt
        · exact h
      have e1 := r1 i hlt
      have e2 := r2 i hlt
      clear r1 r2
      generalize l1[i] = x at *
      have hbeq : (x != x) = false := by rw [bne, (Go.MapKept.bytes_beq x x).2 rfl]; rfl
      go_wp2_with fail
      go_quiet (fail)
      have HB2 := hide (below_drewN HB.out nq)
      generalize wr.drewN nq = W2 at *
      go_wp2_with fail
      exact ⟨⟨i + 1, by omega, by go_num, HB2⟩, by simp [intOf]; omega⟩
    · have hlt' : ¬ (i : Int) < (l1.length : Int) := by omega
      go_wp2_with fail
      go_ret
      exact ⟨rfl, HB.out⟩
end Go.Proofs.Ytkfomjinilmjaaa
