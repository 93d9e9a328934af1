/- The document's First and All. -/
import Derived.Test.YtkfomjinilmjaaaRb

namespace Go.Proofs.Ytkfomjinilmjaaa
open Go.RowKit Go.Maps

/-- The first one of those that were looked at. -/
structure Bst (L : List RwS) (i : Nat) (j : Nat) : Prop where
  lt : j < i
  low : ∀ p x y, p < i → L[p]? = some x → L[j]? = some y → y.r ≤ x.r
  first : ∀ p x y, p < j → L[p]? = some x → L[j]? = some y → y.r < x.r
theorem Bst.fst {L : List RwS} {j : Nat} {y : RwS} (B : Bst L L.length j) (ht : L.Pairwise fun a b => a.t < b.t) (hy : L[j]? = some y) : Fst ltI L y := by
  refine ⟨List.mem_iff_getElem?.2 ⟨j, hy⟩, fun x hx => ?_⟩
  obtain ⟨p, hp⟩ := List.mem_iff_getElem?.1 hx
  have h1 := B.low p x y (get_lt hp) hp hy
  rw [ahd_false]
  refine ⟨by simp [ltI]; omega, ?_⟩
  rcases Nat.lt_trichotomy p j with h | h | h
  · have := B.first p x y h hp hy
    left
    simp [ltI]; omega
  · subst h
    rw [hp, Option.some.injEq] at hy
    subst hy
    exact .inr (Int.le_refl _)
  · have := pw_get ht hy hp h
    right; omega
/-- What First tells. -/
def RefFirst (L : List RwS) (w : World) (e : Ending) (w' : World) : Prop :=
  Below w.heap.size w w' ∧ ((L = [] ∧ e = .returned (.int .i64 (-1))) ∨ ∃ (j : Nat) (y : RwS), e = .returned (.int .i64 j) ∧ L[j]? = some y ∧ Fst ltI L y)
set_option maxHeartbeats 4000000 in
set_option maxRecDepth 100000 in
theorem refFirst_is {ao : Option Addr} {cap : Nat} {L : List RwS} {w : World} (hR : Th.rowAt w ao L) (ht : L.Pairwise fun a b => a.t < b.t) (hn : L.length ≤ 1000) :
    Calls Try.prog 17 #[.slice ao L.length cap] w (RefFirst L w) := by
  have HR := hide hR
  have HT := hide ht
  clear hR ht
  go_enter Try.func17, Try.ntmps17
  go_wp2_with fail
  go_loopw [3, 4] (fun v3 v4 wr => ∃ i : Nat, i ≤ L.length ∧ v4 = .int .i64 i ∧ ((i = 0 ∧ v3 = .int .i64 (-1)) ∨ ∃ j : Nat, v3 = .int .i64 j ∧ Hid (Bst L i j)) ∧ Hid (Below w.heap.size w wr)) (fun _ v4 _ => L.length - (intOf v4).toNat)
  case atStart => exact ⟨0, Nat.zero_le _, rfl, .inl ⟨rfl, rfl⟩, brefl w⟩
  case round =>
    obtain ⟨i, hi, rfl, hst, HB⟩ := hrel
    by_cases hlt : i < L.length
    · have hlt' : (i : Int) < (L.length : Int) := by omega
      obtain ⟨b, off, rfl, hr⟩ : ∃ b off, ao = some ⟨b, off, none⟩ ∧ Th.reads wr b off L := by
        rcases Th.rowAt_kept HR.out (Keep.of (S := fun _ => False) HB.out) (fun _ _ h => h) with h | h
        · rw [h] at hlt; simp at hlt
        · exact h
      obtain ⟨e0, e1⟩ := Th.reads_at hr i hlt
      have HX := hide (List.getElem?_eq_getElem hlt)
      generalize L[i] = x at *
      obtain ⟨xk, xr, xt⟩ := x
      simp only at e0 e1
      rcases hst with ⟨rfl, rfl⟩ | ⟨j, rfl, BB⟩
      · have HB1 : Hid (Bst L 1 0) := ⟨by omega, fun p x y hp hx hy => by
          obtain rfl : p = 0 := by omega
          rw [hx, Option.some.injEq] at hy
          subst hy
          exact Int.le_refl _, fun p x y hp => absurd hp (Nat.not_lt_zero _)⟩
        have hm1 : ((-1 : Int) < 0) := by decide
        clear hr
        go_wp2_with fail
        go_quiet (fail)
        have HB2 := hide (below_drewN HB.out nq)
        generalize wr.drewN nq = W2 at *
        go_wp2_with fail
        exact ⟨⟨1, by omega, by go_num, .inr ⟨0, rfl, HB1⟩, HB2⟩, by simp [intOf]; omega⟩
      · have hj := BB.out.lt
        have hjl : j < L.length := by omega
        have hj' : (j : Int) < (L.length : Int) := by omega
        obtain ⟨d0, d1⟩ := Th.reads_at hr j hjl
        have HY := hide (List.getElem?_eq_getElem hjl)
        generalize L[j] = y at *
        obtain ⟨yk, yr, yt⟩ := y
        simp only at d0 d1
        have hnn : ¬ (j : Int) < 0 := by omega
        have hnn' : decide ((j : Int) < 0) = false := decide_eq_false hnn
        clear hr
        by_cases hxy : xr < yr
        · have HB1 : Hid (Bst L (i + 1) i) := ⟨by omega, fun p x y hp hx hy => by
            rw [HX.out, Option.some.injEq] at hy
            subst hy
            by_cases e : p = i
            · subst e
              rw [HX.out, Option.some.injEq] at hx
              subst hx
              exact Int.le_refl _
            · have := BB.out.low p x _ (by omega) hx HY.out
              simp only at this ⊢
              omega, fun p x y hp hx hy => by
            rw [HX.out, Option.some.injEq] at hy
            subst hy
            have := BB.out.low p x _ hp hx HY.out
            simp only at this ⊢
            omega⟩
          clear BB
          go_wp2_with fail
          go_quiet (fail)
          have HB2 := hide (below_drewN HB.out nq)
          generalize wr.drewN nq = W2 at *
          go_wp2_with fail
          exact ⟨⟨i + 1, by omega, by go_num, .inr ⟨i, rfl, HB1⟩, HB2⟩, by simp [intOf]; omega⟩
        · have HB1 : Hid (Bst L (i + 1) j) := ⟨by omega, fun p x y hp hx hy => by
            by_cases e : p = i
            · subst e
              rw [HX.out, Option.some.injEq] at hx
              rw [HY.out, Option.some.injEq] at hy
              subst hx hy
              simp only
              omega
            · exact BB.out.low p x y (by omega) hx hy, BB.out.first⟩
          clear BB
          go_wp2_with fail
          go_quiet (fail)
          have HB2 := hide (below_drewN HB.out nq)
          generalize wr.drewN nq = W2 at *
          go_wp2_with fail
          exact ⟨⟨i + 1, by omega, by go_num, .inr ⟨j, rfl, HB1⟩, HB2⟩, by simp [intOf]; omega⟩
    · have hlt' : ¬ (i : Int) < (L.length : Int) := by omega
      obtain rfl : i = L.length := by omega
      rcases hst with ⟨h0, rfl⟩ | ⟨j, rfl, BB⟩
      · go_wp2_with fail
        go_ret
        exact ⟨HB.out, .inl ⟨List.length_eq_zero_iff.1 h0, rfl⟩⟩
      · have hjl : j < L.length := BB.out.lt
        have HY := hide (List.getElem?_eq_getElem hjl)
        have HF := hide (BB.out.fst HT.out HY.out)
        clear BB
        go_wp2_with fail
        go_ret
        exact ⟨HB.out, .inr ⟨j, L[j], rfl, HY.out, HF.out⟩⟩
/-- Where a row lies behind an append. -/
def Loc (v v' : Value) (N : Nat) : Prop := v'.ownBlock = v.ownBlock ∨ v'.ownBlock = some N
theorem append_key2 {w : World} {B : Nat} {ops : Array Oper} {rest : List Oper} {o : Oper} {a : Act} {Q : Exit → Act → World → Prop} (hgd : o.guard = none) (s x : Operand)
    (ho : o.op = .call { callee := .builtin .append, args := #[s, x], argTypes := #[43, 43] }) (v : Value) (n : Nat) (xs : List ByteArray) (hs : a.eval s = v) (hown : w.ownsRow B 9 1 v n (Ks.cells xs))
    (u : ByteArray) (g0 c : Nat) (hx : a.eval x = .slice (some ⟨g0, 0, none⟩) 1 c) (hc : w.cell? ⟨g0, 0, none⟩ = some (.string u)) (hn : n ≤ 100000) (hB : B ≤ w.heap.size)
    (h : ∀ v' w', w'.ownsRow B 9 1 v' (n + 1) (Ks.cells (xs ++ [u])) → w.grownBy w' v.ownBlock → Loc v v' w.heap.size → wpList Try.prog ops Q rest (a.put o.dst v') w') : wpList Try.prog ops Q (o :: rest) a w := by
  obtain ⟨i0, hi, hz0, hz1, hz2⟩ := info_S
  refine wpList_append_own_at w hgd s x 43 ho B 9 i0 _ 1 16 Try.underlying43 hi hz0 hz1 hz2 rfl (by decide) v n (Ks.cells xs) hs hown ⟨g0, 0, none⟩ 1 c [.string u] hx rfl ?_ (fun w hw => by simp at hw; subst hw; rfl) (by unfold maxLen; omega) (by omega) hB ?_
  · intro j q hj
    match j, hj with
    | 0, hj =>
      simp at hj
      subst hj
      simpa [Addr.add] using hc
  · intro v' w' ho' hg _ hloc
    refine h v' w' ?_ hg hloc
    simpa [Ks.cells] using ho'
/-- While the keys are told. -/
structure Al (w : World) (L : List RwS) (v : Value) (ao : Option Addr) (cap : Nat) (L' : List RwS) (ks : List ByteArray) (wr : World) : Prop where
  good : Th.Good wr ao cap L'
  row : wr.ownsRow w.heap.size 9 1 v ks.length (Ks.cells ks)
  below : Below w.heap.size w wr
  all : ∀ r, Alls ltI L' r → Alls ltI L (ks ++ r)
  once : Once L'
  turn : L'.Pairwise fun a b => a.t < b.t
  len : ks.length + L'.length ≤ L.length
  apart : ∀ a k, ao = some a → v.ownBlock = some k → a.block ≠ k
/-- What All hands back. -/
def RefAll (w : World) (L : List RwS) (e : Ending) (w' : World) : Prop :=
  ∃ (ar : Option Addr) (cr : Nat) (ks : List ByteArray), e = .returned (.slice ar ks.length cr) ∧ Ks.slot w' ar ks ∧ Alls ltI L ks ∧ Below w.heap.size w w'
set_option maxHeartbeats 4000000 in
set_option maxRecDepth 100000 in
theorem refAll_is {ao : Option Addr} {cap : Nat} {L : List RwS} {w : World} (hG : Th.Good w ao cap L) (ho : Once L) (ht : L.Pairwise fun a b => a.t < b.t) (hn : L.length ≤ 1000) :
    Calls Try.prog 26 #[.slice ao L.length cap] w (RefAll w L) := by
  have A0 : Hid (Al w L (.slice none 0 0) ao cap L [] w) := ⟨hG, ⟨rfl, .inl ⟨rfl, rfl⟩⟩, brefl w, fun r h => h, ho, ht, by simp, fun a k _ e => by cases e⟩
  clear hG ho ht
  go_enter Try.func26, Try.ntmps26
  go_wp2_with fail
  go_loopw [0, 3] (fun v0 v3 wr => ∃ (ao' : Option Addr) (cap' : Nat) (L' : List RwS) (ks : List ByteArray), v0 = .slice ao' L'.length cap' ∧ Hid (Al w L v3 ao' cap' L' ks wr)) (fun v0 _ _ => sliceLen v0)
  case atStart => exact ⟨ao, cap, L, [], rfl, A0⟩
  case round =>
    obtain ⟨ao', cap', L', ks, rfl, A1⟩ := hrel
    clear A0
    have hlen := A1.out.len
    have HLE := hide hlen
    by_cases hL : L' = []
    · subst hL
      have HA := hide (A1.out.all [] Alls.nil)
      rw [List.append_nil] at HA
      have HB := hide A1.out.below
      obtain ⟨ar, cr, rfl, hsl, _⟩ := ks_shape A1.out.row rfl
      have HSL := hide hsl
      clear hsl hlen A1
      go_wp2_with fail
      go_ret
      exact ⟨ar, cr, ks, rfl, HSL.out, HA.out, HB.out⟩
    · have CF := hide (refFirst_is (cap := cap') A1.out.good.row A1.out.turn (by omega))
      have hpos : (0 : Int) < (L'.length : Int) := by have := List.length_pos_iff.2 hL; omega
      have hn1 : L'.length ≤ 1000 := by omega
      have hks1 : ks.length ≤ 1000 := by omega
      clear hlen
      go_wp2_with fail
      refine CF.out.mono ?_
      rintro e w1 ⟨hb1, hp⟩
      rcases hp with ⟨e2, _⟩ | ⟨j, y, rfl, hy, hF⟩
      · exact absurd e2 hL
      have hjl := get_lt hy
      have hjl' : (j : Int) < (L'.length : Int) := by omega
      have G1 := hide (A1.out.good.below hb1)
      have R1 := hide (row_keep A1.out.row (Keep.of (S := fun _ => False) hb1) (fun _ _ _ h => h))
      obtain ⟨b, off, rfl, hr⟩ : ∃ b off, ao' = some ⟨b, off, none⟩ ∧ Th.reads w1 b off L' := by
        rcases G1.out.row with h | h
        · exact absurd h hL
        · exact h
      obtain ⟨e0, _⟩ := Th.reads_at hr j hjl
      have hyL : L'[j] = y := (List.getElem?_eq_some_iff.1 hy).2
      rw [hyL] at e0
      have B1 := hide (bthen A1.out.below hb1)
      have HALL := hide A1.out.all
      have HON := hide A1.out.once
      have HTU := hide A1.out.turn
      have HAP := hide A1.out.apart
      have HF := hide hF
      have hl2 : (without L' y.k).length + 1 = L'.length := by have := without_len A1.out.once hy; omega
      clear hr hyL hb1 hF A1 CF
      have HV := hide (owns_len R1.out)
      go_wp2_with (at_builtin; go_must (refine append_key2 (B := w.heap.size) rfl _ _ rfl _ ks.length ks rfl (R1.out.alloc _) y.k _ _ rfl (by simp) (by omega) (by rw [size_alloc]; have := B1.out.size; omega) ?_))
      intro v4 w4 ho4 hg4 hloc
      have hbl : b < w1.heap.size := G1.out.old _ rfl
      have hnb : ∀ k, u3.ownBlock = some k → b ≠ k := fun k hk => HAP.out _ k rfl hk
      have G4 : Hid (Th.Good w4 (some ⟨b, off, none⟩) cap' L') := G1.out.kept (S := fun k => k ≠ b) ⟨hg4.os, hg4.tape, hg4.output, by have := hg4.size; rw [size_alloc] at this; omega, fun k hk hl => by
        obtain rfl : k = b := Classical.byContradiction hk
        rw [hg4.block k (by rw [size_alloc]; omega) (fun e => hnb k e.symm rfl), heap_alloc_lt _ _ _ hl]⟩ (fun a e => by cases e; simp)
      have B4 := hide (Below.grown (balloc B1.out _) hg4 (balloc B1.out _).size (fun k hk => (R1.out.lt k hk).1))
      have HO4 := hide ho4
      have HLO : Hid (∀ k, v4.ownBlock = some k → b ≠ k) := fun k hk => by
        rcases hloc with e | e
        · exact hnb k (by rw [← e]; exact hk)
        · rw [e] at hk
          simp only [Option.some.injEq] at hk
          try rw [size_alloc] at hk
          omega
      have CD := hide (refDrop_is G4.out HON.out (by omega) y.k)
      clear ho4 hg4 hloc hnb
      go_wp2_with fail
      refine CD.out.mono ?_
      rintro e w6 ⟨ao6, cap6, rfl, hg6, hb6, hnr⟩
      have A6 : Hid (Al w L v4 ao6 cap6 (without L' y.k) (ks ++ [y.k]) w6) := by
        refine ⟨hg6, by rw [List.length_append]; exact row_keep HO4.out (Keep.of (S := fun _ => False) hb6) (fun _ _ _ h => h), bthen B4.out hb6, fun r hr => ?_, HON.out.without HTU.out _, List.Pairwise.filter _ HTU.out, ?_, fun a k ha hk => ?_⟩
        · have := HALL.out _ (Alls.cons HF.out hr)
          rw [List.append_assoc]
          exact this
        · rw [List.length_append]
          have := HLE.out
          simp only [List.length_cons, List.length_nil]
          omega
        · rcases hnr a ha with ⟨c, hc, e⟩ | e
          · cases hc
            rw [e]
            exact HLO.out k hk
          · have := (HO4.out.lt k hk).2
            omega
      clear hg6 hb6 hnr CD
      go_wp2_with fail
      exact ⟨⟨ao6, cap6, _, _, rfl, A6⟩, by simp [sliceLen]; omega⟩
end Go.Proofs.Ytkfomjinilmjaaa
