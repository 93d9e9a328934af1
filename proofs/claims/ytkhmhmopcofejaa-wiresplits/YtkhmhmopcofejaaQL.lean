import Derived.Test.YtkhmhmopcofejaaPF
import Derived.Test.YtkhmhmopcofejaaQA
/- The contract of wire's Split. -/
namespace Go.Proofs.Ytkhmhmopcofejaa
open Go.RowKit Go.Sort

theorem infoR : (Try.prog.info? 31).map (fun i => (i.zero, i.size, i.bytes)) = some (some (.slice none 0 0), 1, 24) := by kernel_rfl
theorem info_partsR : ∃ i0 : TypeInfo, Try.prog.info? 31 = some i0 ∧ i0.zero = some (.slice none 0 0) ∧ i0.size = 1 ∧ i0.bytes = 24 := by
  have h := infoR
  cases hi : Try.prog.info? 31 with
  | none => rw [hi] at h; cases h
  | some i0 =>
    rw [hi] at h
    simp only [Option.map_some, Option.some.injEq, Prod.mk.injEq] at h
    exact ⟨i0, rfl, h.1, h.2.1, h.2.2⟩
/-- A row behind rows. -/
theorem app_row {w : World} {ops : Array Oper} {rest : List Oper} {o : Oper} {a : Act} {Q : Exit → Act → World → Prop} (hgd : o.guard = none) (s x : Operand)
    (ho : o.op = .call { callee := .builtin .append, args := #[s, x], argTypes := #[48, 48] }) (B : Nat) (v : Value) (n : Nat) (xs : List Value) (hs : a.eval s = v) (hown : w.ownsRow B 31 1 v n xs)
    (ao : Option Addr) (m k : Nat) (g c : Nat) (hx : a.eval x = .slice (some ⟨g, 0, none⟩) 1 c) (h0 : w.cell? ⟨g, 0, none⟩ = some (.slice ao m k)) (hn : n ≤ 100000) (hB : B ≤ w.heap.size)
    (h : ∀ v' w', w'.ownsRow B 31 1 v' (n + 1) (xs ++ [.slice ao m k]) → w.grownBy w' v.ownBlock → wpList Try.prog ops Q rest (a.put o.dst v') w') : wpList Try.prog ops Q (o :: rest) a w := by
  obtain ⟨i0, hi, hz0, hz1, hz2⟩ := info_partsR
  refine wpList_append_own w hgd s x 48 ho B 31 i0 _ 1 24 Try.underlying48 hi hz0 hz1 hz2 rfl (by decide) v n xs hs hown ⟨g, 0, none⟩ 1 c [.slice ao m k] hx rfl ?_ ?_ (by unfold maxLen; omega) (by omega) hB ?_
  · intro j u hu
    match j, hu with
    | 0, hu => simp at hu; subst hu; simpa [Addr.add] using h0
    | j + 1, hu => simp at hu
  · intro u hu
    simp at hu
    subst hu
    rfl
  · intro v' w' ho' hg _
    exact h v' w' ho' hg
theorem rows_far {w : World} {B B' n n' : Nat} {v v' : Value} {xs ys : List Value} (h5 : w.ownsRow B 5 1 v n xs) (h9 : w.ownsRow B' 31 1 v' n' ys) : v.ownBlock = none ∨ v.ownBlock ≠ v'.ownBlock := by
  rcases h5.2 with ⟨rfl, _⟩ | ⟨g, cap, cur, rfl, _, hg, _⟩
  · exact .inl rfl
  · rcases h9.2 with ⟨rfl, _⟩ | ⟨g', cap', cur', rfl, _, hg', _⟩
    · exact .inr (fun e => by cases e)
    · refine .inr (fun e => ?_)
      simp only [Value.ownBlock, Option.some.injEq] at e
      rw [e] at hg
      rw [hg] at hg'
      simp at hg'
/-- Messages that have been split off. -/
def Msgs (w : World) (B : Nat) (v : Value) (ms : List (List UInt8)) : Prop := ∃ xs : List Value, w.ownsRow B 31 1 v ms.length xs ∧ xs.length = ms.length ∧ ∀ j (h : j < ms.length), ∃ o c, xs[j]? = some (.slice o ms[j].length c) ∧ Own w B (.slice o ms[j].length c) ms[j]
theorem Msgs.below {w w' : World} {B : Nat} {v : Value} {ms : List (List UInt8)} (h : Msgs w B v ms) (hb : Below w.heap.size w w') : Msgs w' B v ms := by
  obtain ⟨xs, h1, h2, h3⟩ := h
  refine ⟨xs, row_below h1 hb, h2, fun j hj => ?_⟩
  obtain ⟨o, c, e, ho⟩ := h3 j hj
  exact ⟨o, c, e, own_below ho hb⟩
theorem Msgs.slot {w : World} {B : Nat} {v : Value} {ms : List (List UInt8)} (h : Msgs w B v ms) : ∃ o k, v = .slice o ms.length k ∧ Bss.slot w o ms := by
  obtain ⟨xs, h1, h2, h3⟩ := h
  obtain ⟨o, k, rfl⟩ := row_slice h1
  refine ⟨o, k, rfl, ?_⟩
  rcases h1.2 with ⟨hv, h0⟩ | ⟨g, cap, cur, hv, _⟩
  · exact .inl (List.length_eq_zero_iff.1 h0)
  · simp only [Value.slice.injEq] at hv
    obtain ⟨rfl, _, rfl⟩ := hv
    refine .inr ⟨g, 0, rfl, fun j hj => ?_⟩
    obtain ⟨oj, cj, ej, hoj⟩ := h3 j hj
    obtain ⟨o', c', e', s1, s2, _⟩ := own_at hoj
    simp only [Value.slice.injEq, true_and] at e'
    obtain ⟨rfl, rfl⟩ := e'
    refine ⟨oj, cj, ?_, s1, s2⟩
    have := h1.cells (g := g) rfl j _ ej
    rw [show (⟨g, 0, none⟩ : Addr).add j = ⟨g, 0 + j, none⟩ by unfold Addr.add; split <;> simp_all] at this
    exact this
def flen (ms : List (List UInt8)) : Nat := ms.flatten.length
theorem flen_app (ms : List (List UInt8)) (m : List UInt8) : flen (ms ++ [m]) = flen ms + m.length := by simp [flen]
def SplitP (W : World) (l : List UInt8) (e : Ending) (w' : World) : Prop := ∃ (ms : List (List UInt8)) (q : Int) (o : Option Addr) (k : Nat), e = .returned (.tuple #[.slice o ms.length k, .int .i64 (flen ms : Int), .int .i64 q]) ∧ SplitTo l ms q ∧ Bss.slot w' o ms ∧ Below W.heap.size W w'
theorem Msgs.more {w w' : World} {B : Nat} {v v' : Value} {ms : List (List UInt8)} {xs : List Value} {o : Option Addr} {c : Nat} {m : List UInt8} {x : Value} (h1 : w.ownsRow B 31 1 v ms.length xs) (h2 : xs.length = ms.length) (h3 : ∀ j (h : j < ms.length), ∃ o c, xs[j]? = some (.slice o ms[j].length c) ∧ Own w B (.slice o ms[j].length c) ms[j]) (hm : Own w B (.slice o m.length c) m) (hg : (w.alloc (.cells #[x] 31)).grownBy w' v.ownBlock) (hx : w'.ownsRow B 31 1 v' (ms.length + 1) (xs ++ [.slice o m.length c])) : Msgs w' B v' (ms ++ [m]) := by
  have hb := balloc (brefl w) (.cells #[x] 31)
  have h1' := row_below h1 hb
  have hm' := own_below hm hb
  refine ⟨xs ++ [.slice o m.length c], ?_, by simp [h2], fun j hj => ?_⟩
  · rw [List.length_append]; exact hx
  · rw [List.length_append] at hj
    by_cases hj' : j < ms.length
    · obtain ⟨oj, cj, ej, hoj⟩ := h3 j hj'
      refine ⟨oj, cj, ?_, ?_⟩
      · rw [List.getElem?_append_left (by omega), List.getElem_append_left hj']; exact ej
      · rw [List.getElem_append_left hj']; exact own_kept (own_below hoj hb) hg (rows_far (own_below hoj hb) h1')
    · obtain rfl : j = ms.length := by simp at hj; omega
      have e : (ms ++ [m])[ms.length]'(by simp) = m := by simp
      refine ⟨o, c, ?_, ?_⟩
      · rw [List.getElem?_append_right (by omega), e]; simp [h2]
      · rw [e]; exact own_kept hm' hg (rows_far hm' h1')
set_option maxHeartbeats 4000000 in
set_option maxRecDepth 100000 in
theorem split_any (ao : Option Addr) (c : Nat) (l : List UInt8) (hl : l.length ≤ 60000) (w : World) (hS : Bs.slot w ao l) (hC : camB ao l.length c) :
    Calls Try.prog 19 #[.slice ao l.length c] w (SplitP w l) := by
  have HS := hide hS
  clear hS
  go_enter Try.func19, Try.ntmps19
  go_wp2_with fail
  go_loopw [5, 6] (fun v5 v6 wr => ∃ ms : List (List UInt8), v6 = .int .i64 (flen ms : Int) ∧ Hid (Msgs wr w.heap.size v5 ms) ∧ flen ms ≤ l.length ∧ Hid (∀ ms' q, SplitTo (l.drop (flen ms)) ms' q → SplitTo l (ms ++ ms') q) ∧ ms.length ≤ flen ms ∧ Below w.heap.size w wr) (fun _ v6 _ => l.length - (intOf v6).toNat)
  case atStart => exact ⟨[], rfl, ⟨[], World.ownsRow_nil w _ 31 1, rfl, fun j hj => (by simp at hj)⟩, Nat.zero_le _, fun ms' q h => h, Nat.zero_le _, brefl w⟩
  case round =>
    obtain ⟨ms, rfl, HM, hml, HT, hmc, hb⟩ := hrel
    have HB := hide hb
    clear hb
    obtain ⟨k, hk⟩ : ∃ k, flen ms = k := ⟨_, rfl⟩
    have HK := hide hk
    rw [hk] at HT hml hmc
    rw [hk]
    clear hk
    by_cases h19 : 19 ≤ l.length - k
    · have h19' : (19 : Int) ≤ (l.length : Int) - (k : Int) := by omega
      obtain ⟨b, off, rfl, hrd⟩ := Bs.slot_at HS.out (k := 0) (by omega)
      have hcl := hC.2.2
      have hne : ¬ c = k := by omega
      have hkl : (k : Int) ≤ (l.length : Int) := by omega
      have hdl : (l.drop k).length = l.length - k := List.length_drop
      have RD : Hid (Bs.reads wr b (off + k) (l.drop k)) := fun j hj => by
        rw [List.getElem_drop, Nat.add_assoc]
        have := hrd (k + j) (by omega)
        exact (HB.out.cell (p := ⟨b, off + (k + j), none⟩) (block_lt_of_cell this)).trans this
      have CH := hide (head_is b (off + k) (c - k) (l.drop k) (by omega) (by omega) (by omega) wr RD.out)
      rw [hdl] at CH
      have HPS : Hid (pstep (l.drop k) = if ¬ hdOk (l.drop k) then .stop 4 else if l.length - k < hdN (l.drop k) then .stop 0 else .msg (hdN (l.drop k))) := by show _ = _; unfold pstep; rw [hdl, if_neg (by omega)]
      clear hrd
      by_cases ho : hdOk (l.drop k)
      · have hv : hdV (l.drop k) = .tuple #[.int .i64 (hdN (l.drop k) : Nat), .int .i64 (kd (l.drop k) : Nat), .bool true] := if_pos ho
        rw [hv] at CH
        rw [if_neg (fun h => h ho)] at HPS
        have hn19 : 19 ≤ hdN (l.drop k) := ho.2.1
        have hn40 : hdN (l.drop k) ≤ 4096 := ho.2.2.1
        clear hv ho
        obtain ⟨n, hn⟩ : ∃ n, hdN (l.drop k) = n := ⟨_, rfl⟩
        rw [hn] at CH HPS hn19 hn40
        generalize kd (l.drop k) = kk at *
        clear hn
        by_cases hov : l.length - k < n
        · rw [if_pos hov] at HPS
          have hov' : (l.length : Int) - (k : Int) < (n : Int) := by omega
          have hov2 : ((l.length - k : Nat) : Int) < (n : Int) := by omega
          have HF := hide (HT.out [] 0 (.stop HPS.out))
          rw [List.append_nil] at HF
          go_wp2_with (go_at_call 40; refine CH.out.mono ?_; rintro e w1 ⟨rfl, rfl⟩)
          go_ret3
          obtain ⟨o, kc, rfl, hsl⟩ := Msgs.slot HM.out
          exact ⟨ms, 0, o, kc, by rw [HK.out]; rfl, HF.out, hsl, HB.out⟩
        · rw [if_neg hov] at HPS
          have hov' : ¬ (l.length : Int) - (k : Int) < (n : Int) := by omega
          have hov2 : ¬ ((l.length - k : Nat) : Int) < (n : Int) := by omega
          have hnc : (n : Int) ≤ ((c - k : Nat) : Int) := by omega
          have hlt : ((l.drop k).take n).length = n := by rw [List.length_take, hdl]; omega
          have CC := hide (clone_is (some ⟨b, off + k, none⟩) (c - k) ((l.drop k).take n) (by omega) wr (.inr ⟨b, off + k, rfl, fun j hj => by rw [List.getElem_take]; exact RD.out j (by rw [List.length_take] at hj; omega)⟩) ⟨fun e => (by cases e), fun ad e => (by cases e; rfl), by omega⟩)
          rw [hlt] at CC
          go_wp2_with (go_at_call 40; refine CH.out.mono ?_; rintro e w1 ⟨rfl, rfl⟩)
          refine CC.out.mono ?_
          rintro e w2 ⟨v2, rfl, o2, b2⟩
          obtain ⟨no, nc, rfl, _, _, _⟩ := own_at o2
          have O2 : Hid (Own w2 w.heap.size (.slice no ((l.drop k).take n).length nc) ((l.drop k).take n)) := own_base o2 HB.out.size
          have M2 := hide (HM.out.below b2)
          have B2 := hide (bthen HB.out b2)
          obtain ⟨xs, h1, h2, h3⟩ := M2.out
          have X2 := hide (row_below h1 (balloc (brefl w2) (.cells #[.slice no ((l.drop k).take n).length nc] 31)))
          have A2 := hide (balloc (brefl w2) (.cells #[.slice no ((l.drop k).take n).length nc] 31))
          have hB3 : w.heap.size ≤ (w2.alloc (.cells #[.slice no ((l.drop k).take n).length nc] 31)).heap.size := Nat.le_trans B2.out.size A2.out.size
          have hmc2 : ms.length ≤ 100000 := by omega
          have H1 := hide h1
          have H2 := hide h2
          have H3 := hide h3
          obtain ⟨m, hm⟩ : ∃ m, (l.drop k).take n = m := ⟨_, rfl⟩
          rw [hm] at hlt O2 X2 A2 hB3
          rw [hm]
          have HMM := hide hm
          have HLT := hide hlt
          clear o2 b2 h1 h2 h3 CC CH HM hdl hm
          have hkm : (k : Int) + (m.length : Int) ≤ 60000 := by omega
          have hkm2 : k + n ≤ l.length ∧ 0 < n := by omega
          rw [← hlt]
          clear hlt
          go_wp2_with (at_builtin; go_must (refine app_row rfl _ _ rfl w.heap.size u5 ms.length xs rfl X2.out no m.length nc w2.heap.size 1 rfl (by simp) hmc2 hB3 ?_))
          intro v3 w3 o3 g3
          have M3 := hide (Msgs.more H1.out H2.out H3.out O2.out g3 o3)
          have B3 := hide (Below.grown (bthen B2.out A2.out) g3 hB3 (fun j hj => (X2.out.lt j hj).1))
          have HF3 : Hid (flen (ms ++ [m]) = k + n) := by show _ = _; rw [flen_app, HK.out, HLT.out]
          have HT3 : Hid (∀ ms' q, SplitTo (l.drop (flen (ms ++ [m]))) ms' q → SplitTo l (ms ++ [m] ++ ms') q) := by
            intro ms' q h
            rw [HF3.out] at h
            rw [List.append_assoc, ← HMM.out]
            refine HT.out _ q (.more HPS.out ?_)
            rw [List.drop_drop]
            exact h
          have HL3 : Hid (flen (ms ++ [m]) ≤ l.length ∧ (ms ++ [m]).length ≤ flen (ms ++ [m]) ∧ l.length - flen (ms ++ [m]) < l.length - k) := by
            rw [HF3.out, List.length_append]
            exact ⟨by omega, by simp only [List.length_cons, List.length_nil]; omega, by omega⟩
          have hkn : (k : Int) + (m.length : Int) = ((flen (ms ++ [m]) : Nat) : Int) := by rw [HF3.out, HLT.out]; push_cast; rfl
          clear o3 g3 X2 A2 H1 H2 H3 O2 M2 B2 HPS HT RD
          generalize ms ++ [m] = ms2 at *
          go_wp2_with fail
          exact ⟨⟨ms2, rfl, M3, HL3.out.1, HT3, HL3.out.2.1, B3.out⟩, by have := HL3.out.2.2; simp [intOf]; omega⟩
      · have hv : hdV (l.drop k) = .tuple #[.int .i64 0, .int .i64 0, .bool false] := if_neg ho
        rw [hv] at CH
        rw [if_pos ho] at HPS
        have HF := hide (HT.out [] 4 (.stop HPS.out))
        rw [List.append_nil] at HF
        clear hv ho
        go_wp2_with (go_at_call 40; refine CH.out.mono ?_; rintro e w1 ⟨rfl, rfl⟩)
        go_ret3
        obtain ⟨o, kc, rfl, hsl⟩ := Msgs.slot HM.out
        exact ⟨ms, 4, o, kc, by rw [HK.out]; rfl, HF.out, hsl, HB.out⟩
    · have h19' : ¬ (19 : Int) ≤ (l.length : Int) - (k : Int) := by omega
      have HF : Hid (SplitTo l (ms ++ []) 0) := HT.out [] 0 (.stop (by unfold pstep; rw [if_pos (by rw [List.length_drop]; omega)]))
      rw [List.append_nil] at HF
      go_wp2_with fail
      go_ret3
      obtain ⟨o, kc, rfl, hsl⟩ := Msgs.slot HM.out
      exact ⟨ms, 0, o, kc, by rw [HK.out]; rfl, HF.out, hsl, HB.out⟩
theorem split_is : KitSplit := split_any
end Go.Proofs.Ytkhmhmopcofejaa
