/- policy.May, first. -/
import Derived.Test.YtngfoijmknclhaaGreatDoorJ13
import Derived.Test.YtngfoijmknclhaaGreatDoorJ34
import Derived.Lib.AppendZeros
namespace Go.Proofs.YtngfoijmknclhaaGreatDoor
open Go.RowKit Go.Sort
/-- Clauses that rise behind a number, each with a change that may be. -/
def risesK : Int → List Kl → Bool
  | _, [] => true
  | last, c :: l => decide (last < c.n) && (decide (c.n ≤ 65535) && (St.ok c.s && risesK c.n l))
def mapOk (m : List Kl) : Bool := decide (m.length ≤ 16) && risesK 0 m
/-- No list of a clause is long. -/
def fewK (c : Kl) : Prop := c.s.add.length ≤ 100 ∧ c.s.del.length ≤ 100 ∧ c.s.pre.length ≤ 100
theorem drop_cons {α : Type} {l : List α} {k : Nat} (h : k < l.length) : l.drop k = l[k] :: l.drop (k + 1) := List.drop_eq_getElem_cons h
set_option maxHeartbeats 8000000 in
set_option maxRecDepth 100000 in
theorem may_isK (v : Value) (l : List Kl) (w : World) (h : Rd w 13 KlR v l) (hf : ∀ c ∈ l, fewK c) :
    Calls Tryz.prog 11 #[v] w fun e w' => e = .returned (.bool (mapOk l)) ∧ Below w.heap.size w w' := by
  obtain ⟨ao, ca, rfl⟩ := h.slice
  by_cases h16 : l.length ≤ 16
  · have h16' : ¬ (16 : Int) < (l.length : Int) := by omega
    have HE : Hid (mapOk l = risesK 0 l) := by show _ = _; unfold mapOk; rw [decide_eq_true h16]; rfl
    generalize mapOk l = R at *
    have H := hide h
    have HF := hide hf
    clear h hf
    go_enter Tryz.func11, Tryz.ntmps11
    go_wp2_with fail
    go_loopw [3, 11] (fun v3 v11 wr => ∃ (k : Nat) (q : Int), v3 = .int .i64 q ∧ v11 = .int .i64 k ∧ k ≤ l.length ∧ Hid (R = risesK q (l.drop k)) ∧ Hid (Below w.heap.size w wr)) (fun _ v11 _ => l.length - (intOf v11).toNat)
    case atStart => exact ⟨0, 0, rfl, rfl, Nat.zero_le _, HE, brefl w⟩
    case round =>
      obtain ⟨k, q, rfl, rfl, hk, HK, HBR⟩ := hrel
      by_cases hkl : k < l.length
      · have hkl' : (k : Int) < (l.length : Int) := by omega
        obtain ⟨b, off, xs, rfl, hbw, hx, hxl, ha⟩ := (Rd.below KlR.mono H.out HBR.out).at_ hkl
        obtain ⟨hf1, hf2, hf3⟩ := HF.out l[k] (List.getElem_mem hkl)
        obtain ⟨o1, o2, o3, c1, c2, c3, rfl, hs, hc⟩ := hx
        unfold Kl.cells at ha
        have HKN : Hid (R = (decide (q < l[k].n) && (decide (l[k].n ≤ 65535) && (St.ok l[k].s && risesK l[k].n (l.drop (k + 1)))))) := by show _ = _; rw [HK.out, drop_cons hkl]; rfl
        obtain ⟨so, hso⟩ : ∃ x, St.ok l[k].s = x := ⟨_, rfl⟩
        have CG := hide (fun W' (hb : Below wr.heap.size wr W') => change_is l[k].s o1 o2 o3 c1 c2 c3 so hso W' (St.lies_below hs hb) hf1 hf2 hf3)
        rw [hso] at HKN
        clear HK hs hc hf1 hf2 hf3 hso hxl
        obtain ⟨tl, htl⟩ : ∃ x, x = risesK l[k].n (l.drop (k + 1)) := ⟨_, rfl⟩
        have HTL := hide htl
        rw [← htl] at HKN
        clear htl
        generalize hlk : l[k] = y at *
        clear hlk
        obtain ⟨n, okv, ls, pt, qa, qn, ⟨pf, md, og, ad, de, clr, pp⟩⟩ := y
        simp only at *
        generalize ad.length = na at *
        generalize de.length = nd at *
        generalize pp.length = np at *
        have e0 := ha 0 _ rfl
        have e1 := ha 1 _ rfl
        have e2 := ha 2 _ rfl
        have e3 := ha 3 _ rfl
        have e4 := ha 4 _ rfl
        have e5 := ha 5 _ rfl
        have e6 := ha 6 _ rfl
        have e7 := ha 7 _ rfl
        have e8 := ha 8 _ rfl
        have e9 := ha 9 _ rfl
        have e10 := ha 10 _ rfl
        have e11 := ha 11 _ rfl
        have e12 := ha 12 _ rfl
        simp only [Nat.add_zero] at e0
        clear ha
        have A1 := balloc (brefl wr) (.cells #[.int .i64 n, .bool okv, .string ls, .string pt, .int .i64 qa, .int .i64 qn, .int .i64 pf, .int .i64 md, .int .i64 og, .slice o1 na c1, .slice o2 nd c2, .bool clr, .slice o3 np c3] 45)
        have N1 := hide (heap_new wr #[.int .i64 n, .bool okv, .string ls, .string pt, .int .i64 qa, .int .i64 qn, .int .i64 pf, .int .i64 md, .int .i64 og, .slice o1 na c1, .slice o2 nd c2, .bool clr, .slice o3 np c3] 45)
        have CG1 := hide (fun W' hb => CG.out W' (bthen A1 hb))
        have B1 := hide (bthen HBR.out A1)
        clear A1 CG
        go_upto_region 7 with fail
        clear e0 e1 e2 e3 e4 e5 e6 e7 e8 e9 e10 e11 e12
        obtain ⟨bx, hbx⟩ : ∃ x, wr.heap.size = x := ⟨_, rfl⟩
        rw [hbx] at N1 ⊢
        generalize wr.alloc (.cells #[.int .i64 n, .bool okv, .string ls, .string pt, .int .i64 qa, .int .i64 qn, .int .i64 pf, .int .i64 md, .int .i64 og, .slice o1 na c1, .slice o2 nd c2, .bool clr, .slice o3 np c3] 45) = W1 at *
        have n0 := cell_of N1.out 0 rfl
        have n1 := cell_of N1.out 1 rfl
        have n2 := cell_of N1.out 2 rfl
        have n3 := cell_of N1.out 3 rfl
        have n4 := cell_of N1.out 4 rfl
        have n5 := cell_of N1.out 5 rfl
        have n6 := cell_of N1.out 6 rfl
        have n7 := cell_of N1.out 7 rfl
        have n8 := cell_of N1.out 8 rfl
        have n9 := cell_of N1.out 9 rfl
        have n10 := cell_of N1.out 10 rfl
        have n11 := cell_of N1.out 11 rfl
        have n12 := cell_of N1.out 12 rfl
        by_cases hq : n ≤ q
        · have HN : Hid (R = false) := by show _ = _; rw [HKN.out, decide_eq_false (by omega)]; rfl
          clear HKN
          go_wp2_with fail
          go_ret
          exact ⟨ret_bool HN.out.symm, B1.out⟩
        · by_cases hm : 65535 < n
          · have HN : Hid (R = false) := by show _ = _; rw [HKN.out, decide_eq_false (show ¬ n ≤ 65535 by omega), Bool.false_and, Bool.and_false]
            clear HKN
            go_wp2_with fail
            go_ret
            exact ⟨ret_bool HN.out.symm, B1.out⟩
          · have HN : Hid (R = (so && tl)) := by show _ = _; rw [HKN.out, decide_eq_true (show q < n by omega), decide_eq_true (show n ≤ 65535 by omega), Bool.true_and, Bool.true_and]
            clear HKN
            go_wp2_with fail
            refine (CG1.out W1 (brefl W1)).mono ?_
            rintro e w2 ⟨rfl, hb2⟩
            have B2 := hide (bthen B1.out hb2)
            have n0 := (cell_of ((hb2.block bx (heap_lt N1.out)).trans N1.out) 0 rfl)
            clear hb2
            cases so with
            | false =>
              go_wp2_with fail
              go_ret
              exact ⟨ret_bool HN.out.symm, B2.out⟩
            | true =>
              have HN2 : Hid (R = risesK n (l.drop (k + 1))) := by show _ = _; rw [HN.out, ← HTL.out]; rfl
              go_wp2_with fail
              exact ⟨⟨k + 1, n, rfl, by go_num, by omega, HN2, B2⟩, by simp [intOf] <;> omega⟩
      · have hkl' : ¬ (k : Int) < (l.length : Int) := by omega
        have HN : Hid (R = true) := by show _ = _; rw [HK.out, List.drop_of_length_le (by omega)]; rfl
        go_wp2_with fail
        go_ret
        exact ⟨ret_bool HN.out.symm, HBR.out⟩
  · have h16' : (16 : Int) < (l.length : Int) := by omega
    have HE : mapOk l = false := by unfold mapOk; rw [decide_eq_false h16]; rfl
    rw [HE]
    go_enter Tryz.func11, Tryz.ntmps11
    go_wp2_with fail
    go_ret
    exact ⟨rfl, brefl w⟩
def zeroK : Value := .agg #[.int .i64 0, .bool false, .string ⟨#[]⟩, .string ⟨#[]⟩, .int .i64 0, .int .i64 0, .int .i64 0, .int .i64 0, .int .i64 0, .slice none 0 0, .slice none 0 0, .bool false, .slice none 0 0]
/-- What first tells of clauses. -/
def FirstGood (w : World) (p : Kl → Bool) (l : List Kl) (e : Ending) (w' : World) : Prop :=
  Below w.heap.size w w' ∧ ((l.find? p = none ∧ e = .returned (.tuple #[zeroK, .bool false])) ∨ ∃ c v, l.find? p = some c ∧ c ∈ l ∧ KlV w' c v ∧ e = .returned (.tuple #[v, .bool true]))
theorem find_some {p : Kl → Bool} {l : List Kl} {k : Nat} (h : k < l.length) (hp : p l[k] = true) (ha : ∀ j (hj : j < k), p (l[j]'(by omega)) = false) : l.find? p = some l[k] := by
  rw [List.find?_eq_some_iff_getElem]
  exact ⟨hp, k, h, rfl, fun j hj => by simp [ha j hj]⟩
theorem find_none {p : Kl → Bool} {l : List Kl} (h : ∀ k (h : k < l.length), p l[k] = false) : l.find? p = none := by
  rw [List.find?_eq_none]
  intro x hx
  obtain ⟨k, hk, rfl⟩ := List.getElem_of_mem hx
  simp [h k hk]
end Go.Proofs.YtngfoijmknclhaaGreatDoor
namespace Go.Proofs.YtngfoijmknclhaaGreatDoor
open Go.RowKit Go.Sort
set_option maxHeartbeats 1000000 in
theorem growI_nil (n : Nat) (hn : n ≤ 100000) (w : World) :
    Calls Tryz.prog 151 #[.slice none 0 0, .int .i64 n] w fun e w' => ∃ v, e = .returned v ∧ w'.ownsRow w.heap.size 3 1 v 0 [] ∧ Below w.heap.size w w' := by
  rcases Nat.eq_zero_or_pos n with h0 | h0
  · subst h0
    go_enter Tryz.func151, Tryz.ntmps151
    go_wp2_with fail
    go_ret
    exact ⟨_, rfl, World.ownsRow_nil _ _ _ _, brefl w⟩
  · obtain ⟨i0, hi, hz0, hz1, hz2⟩ := info_partsI
    have hr := fun ty => Lib.run_append_nil_zeros (P := Tryz.prog) w 27 3 ty 3 i0 _ .i64 .i64 Tryz.underlying27 Tryz.underlying3 hi hz0 n h0 (by omega) (by omega) (by rw [hz2]; omega)
    have hge := grownCap_ge w n 0 3
    have hle : grownCap w n 0 3 ≤ maxLen := grownCap_le_maxLen w n 0 3 (by unfold maxLen; omega)
    have hneg : ¬ (n : Int) < 0 := by omega
    have hpos : (0 : Int) < (n : Int) := by omega
    generalize grownCap w n 0 3 = C at *
    have HR := hide hr
    clear hr hi hz0 hz1 hz2
    go_enter Tryz.func151, Tryz.ntmps151
    go_wp2_with (at_builtin; go_must (refine Lib.wpList_append_run _ rfl _ _ _ _ rfl _ _ rfl rfl _ _ (HR.out _) ?_))
    go_ret
    refine ⟨_, rfl, ⟨rfl, .inr ⟨w.heap.size, C, _, rfl, Nat.le_refl _, heap_alloc_new w _, Nat.zero_le _, hle, ?_, ?_⟩⟩, (balloc (brefl w) _).drew⟩
    · have e : (#[Value.int IntKind.i64 0] : Array Value).size = 1 := rfl
      simp only [Array.size_append, size_zeroCells, e]
      omega
    · simp

set_option maxHeartbeats 2000000 in
theorem concatI_is (g2 c2 : Nat) (ao bo : Option Addr) (ca cb : Nat) (l m : List Int) (w : World) (h0 : w.cell? ⟨g2, 0, none⟩ = some (.slice ao l.length ca)) (h1 : w.cell? ⟨g2, 0 + 1, none⟩ = some (.slice bo m.length cb))
    (hA : Is.slot w ao l) (hB : Is.slot w bo m) (hCA : ao = none → ca = 0) (hCB : bo = none → cb = 0) (hla : l.length ≤ 10000) (hlb : m.length ≤ 10000) :
    Calls Tryz.prog 121 #[.slice (some ⟨g2, 0, none⟩) 2 c2] w fun e w' => ∃ v, e = .returned v ∧ w'.ownsRow w.heap.size 3 1 v (l.length + m.length) (Is.cells (l ++ m)) ∧ Below w.heap.size w w' := by
  have HA := hide hA
  have HB := hide hB
  have HCA := hide hCA
  have HCB := hide hCB
  have H0 := hide h0
  have H1 := hide h1
  clear hA hB hCA hCB
  have hn1 : ¬ (l.length : Int) < 0 := by omega
  have hn2 : ¬ (l.length : Int) + (m.length : Int) < 0 := by omega
  go_enter Tryz.func121, Tryz.ntmps121
  go_wp2_with fail
  go_loopw [3, 11] (fun v3 v11 wr => w = wr ∧ ((v11 = .int .i64 0 ∧ v3 = .int .i64 0) ∨ (v11 = .int .i64 1 ∧ v3 = .int .i64 l.length) ∨ (v11 = .int .i64 2 ∧ v3 = .int .i64 ((l.length + m.length : Nat) : Int)))) (fun _ v11 _ => 2 - (intOf v11).toNat)
  case atStart => exact ⟨rfl, .inl ⟨rfl, rfl⟩⟩
  case round =>
    obtain ⟨rfl, hrel⟩ := hrel
    rcases hrel with ⟨rfl, rfl⟩ | ⟨rfl, rfl⟩ | ⟨rfl, rfl⟩
    · go_wp2_with fail
      exact ⟨⟨trivial, .inr (.inl ⟨by go_num, by go_num⟩)⟩, by simp [intOf]⟩
    · go_wp2_with fail
      exact ⟨⟨trivial, .inr (.inr ⟨by go_num, by go_num⟩)⟩, by simp [intOf]⟩
    · have CG := hide (growI_nil (l.length + m.length) (by omega) w)
      go_wp2_with fail
      refine CG.out.mono ?_
      rintro e w1 ⟨v, rfl, hown, hb1⟩
      obtain ⟨go, gc, rfl⟩ := row_slice hown
      have HO := hide hown
      have B1 := hide hb1
      clear hown hb1 CG h0 h1
      go_wp2_with fail
      go_loopw [6, 27] (fun v6 v27 wq => Below w.heap.size w wq ∧ ∃ (o : Option Addr) (n c : Nat), v6 = .slice o n c ∧ ((v27 = .int .i64 0 ∧ wq.ownsRow w.heap.size 3 1 (.slice o n c) n (Is.cells []) ∧ n = 0) ∨ (v27 = .int .i64 1 ∧ wq.ownsRow w.heap.size 3 1 (.slice o n c) n (Is.cells l) ∧ n = l.length) ∨ (v27 = .int .i64 2 ∧ wq.ownsRow w.heap.size 3 1 (.slice o n c) n (Is.cells (l ++ m)) ∧ n = l.length + m.length))) (fun _ v27 _ => 2 - (intOf v27).toNat)
      case atStart => exact ⟨B1.out, go, 0, gc, rfl, .inl ⟨rfl, HO.out, rfl⟩⟩
      case round =>
        obtain ⟨hbr, o, n, c, rfl, hrel⟩ := hrel
        have HBR := hide hbr
        have k0 : wr.cell? ⟨g2, 0, none⟩ = some (.slice ao l.length ca) := (hbr.cell (p := ⟨g2, 0, none⟩) (block_lt_of_cell H0.out)).trans H0.out
        have k1 : wr.cell? ⟨g2, 0 + 1, none⟩ = some (.slice bo m.length cb) := (hbr.cell (p := ⟨g2, 0 + 1, none⟩) (block_lt_of_cell H1.out)).trans H1.out
        clear hbr HO B1
        rcases hrel with ⟨rfl, hown, hn⟩ | ⟨rfl, hown, hn⟩ | ⟨rfl, hown, hn⟩
        · have HO := hide hown
          clear hown
          subst hn
          go_wp2_with (at_builtin; go_must (refine append_ints (w0 := w) rfl _ _ rfl _ 0 [] rfl HO.out ao _ ca l rfl rfl (Is.slot_below HA.out HBR.out) HCA.out (by omega) HBR.out ?_))
          intro v' w2 hnew hb2
          obtain ⟨no, nc, rfl⟩ := row_slice hnew
          have HN := hide hnew
          have B2 := hide hb2
          clear hnew hb2
          go_wp2_with fail
          exact ⟨⟨B2.out, no, l.length, nc, rfl, .inr (.inl ⟨by go_num, HN.out, rfl⟩)⟩, by simp [intOf]⟩
        · have HO := hide hown
          clear hown
          subst hn
          go_wp2_with (at_builtin; go_must (refine append_ints (w0 := w) rfl _ _ rfl _ l.length l rfl HO.out bo _ cb m rfl rfl (Is.slot_below HB.out HBR.out) HCB.out (by omega) HBR.out ?_))
          intro v' w2 hnew hb2
          obtain ⟨no, nc, rfl⟩ := row_slice hnew
          have HN := hide hnew
          have B2 := hide hb2
          clear hnew hb2
          go_wp2_with fail
          exact ⟨⟨B2.out, no, l.length + m.length, nc, rfl, .inr (.inr ⟨by go_num, HN.out, rfl⟩)⟩, by simp [intOf]⟩
        · have HO := hide hown
          clear hown
          subst hn
          go_wp2_with fail
          go_ret
          exact ⟨_, rfl, HO.out, HBR.out⟩
theorem told_is (n was r : Int) (hr : (if n = -1 then was else n) = r) (W : World) : Calls Tryz.prog 122 #[.int .i64 n, .int .i64 was] W fun e w' => e = .returned (.int .i64 r) ∧ Below W.heap.size W w' := by
  by_cases h : n = -1
  · rw [if_pos h] at hr
    subst hr h
    go_enter Tryz.func122, Tryz.ntmps122
    go_wp2_with fail
    go_ret
    exact ⟨rfl, brefl W⟩
  · rw [if_neg h] at hr
    subst hr
    have h' : (n == -1) = false := by simpa using h
    go_enter Tryz.func122, Tryz.ntmps122
    go_wp2_with fail
    go_ret
    exact ⟨rfl, brefl W⟩
end Go.Proofs.YtngfoijmknclhaaGreatDoor
