import Derived.Test.YtkpoanjcalolkaaDoorPl5
import Derived.Test.YtkpoanjcalolkaaDoorFi1
/- The closures of Differ and of idle. -/
namespace Go.Proofs.YtkpoanjcalolkaaDoor
open Go.RowKit

theorem passes_first (ao : Option Addr) (cap : Nat) (l : List Ad.R) (c d i : Int) (hi : Ad.first l c d = i) (w : World) (hR : Ad.slotR w ao l) :
    Calls Tryd.prog 28 #[.slice ao l.length cap, .int .i64 i] w fun e w' => e = .returned (.bool (Ad.pass l i)) ∧ Below w.heap.size w w' := by
  rcases Ad.first_cases l c d with ⟨h, _⟩ | ⟨k, hk, h, _⟩
  · rw [hi] at h
    subst h
    refine (passes_none ao l.length cap w).mono ?_
    rintro e w' ⟨rfl, hb⟩
    exact ⟨rfl, hb⟩
  · rw [hi] at h
    subst h
    exact passes_some ao cap l k w hR hk

/-- Does a list let a prefix pass? -/
def Ad.ps (l : List Ad.R) (c d : Int) : Bool := Ad.pass l (Ad.first l c d)

set_option maxHeartbeats 2000000 in
theorem clo41 (ao bo : Option Addr) (ca cb : Nat) (a b : List Ad.R) (c d : Int) (A B : Nat) (w : World) (hA : w.cell? ⟨A, 0, none⟩ = some (.slice ao a.length ca)) (hB : w.cell? ⟨B, 0, none⟩ = some (.slice bo b.length cb)) (hRa : Ad.slotR w ao a) (hRb : Ad.slotR w bo b) (hfa : Ad.fitsR a) (hfb : Ad.fitsR b) (hla : a.length ≤ 1000000) (hlb : b.length ≤ 1000000) (hc : 0 ≤ c) (hc2 : c ≤ 4294967295) :
    Calls Tryd.prog 41 #[.agg #[.int .u32 c, .int .i64 d], .pointer (some ⟨A, 0, none⟩), .pointer (some ⟨B, 0, none⟩)] w fun e w' => e = .returned (.bool (Ad.ps a c d != Ad.ps b c d)) ∧ Below w.heap.size w w' := by
  have hAw := block_lt_of_cell hA
  have hBw := block_lt_of_cell hB
  simp only at hAw hBw
  have hAn : A ≠ w.heap.size := by omega
  have hBn : B ≠ w.heap.size := by omega
  unfold Ad.ps
  generalize hia : Ad.first a c d = i
  generalize hib : Ad.first b c d = j
  have HIA := hide hia
  have HIB := hide hib
  have HRA := hide hRa
  have HRB := hide hRb
  have HFA := hide hfa
  have HFB := hide hfb
  have H0 := hide (balloc (brefl w) (.cells #[.int .u32 c, .int .i64 d] 25))
  obtain ⟨N, hN⟩ : ∃ N, N = w.heap.size := ⟨_, rfl⟩
  have g0 : (w.alloc (.cells #[.int .u32 c, .int .i64 d] 25)).cell? ⟨N, 0, none⟩ = some (.int .u32 c) := by rw [hN]; simp
  have g1 : (w.alloc (.cells #[.int .u32 c, .int .i64 d] 25)).cell? ⟨N, 1, none⟩ = some (.int .i64 d) := by rw [hN]; simp
  have hT := two_of g0 g1
  clear hia hib hRa hRb hfa hfb
  go_enter Tryd.func41, Tryd.ntmps41
  go_wp2_with fail
  have r0 := fun dd os => cell_regrown g0 dd os
  have r1 := fun dd os => cell_regrown g1 dd os
  have r2 := fun dd os => cell_regrown (show (w.alloc (.cells #[.int .u32 c, .int .i64 d] 25)).cell? ⟨A, 0, none⟩ = some (.slice ao a.length ca) from (H0.out.cell (p := ⟨A, 0, none⟩) hAw).trans hA) dd os
  have r3 := fun dd os => cell_regrown (show (w.alloc (.cells #[.int .u32 c, .int .i64 d] 25)).cell? ⟨B, 0, none⟩ = some (.slice bo b.length cb) from (H0.out.cell (p := ⟨B, 0, none⟩) hBw).trans hB) dd os
  have SA := hide fun dd os => Ad.slotR_below (Ad.slotR_below HRA.out H0.out) (below_regrown (w.alloc (.cells #[.int .u32 c, .int .i64 d] 25)) dd os)
  have SB := hide fun dd os => Ad.slotR_below (Ad.slotR_below HRB.out H0.out) (below_regrown (w.alloc (.cells #[.int .u32 c, .int .i64 d] 25)) dd os)
  rw [← hN]
  clear hN
  generalize w.alloc (.cells #[.int .u32 c, .int .i64 d] 25) = W0 at *
  refine wp_region_quiet_below (by kernel_rfl) (by kernel_rfl) ?_
  iterate 3 (go_big_quiet_step (fail))
  go_big_quiet_step ((go_at_call 27; exact Calls.regrown_of (meets_is ao ca a c d i HIA.out _ (SA.out _ _) HFA.out hla hc hc2)))
  go_big_quiet_step ((go_at_call 28; exact Calls.regrown_of (passes_first ao ca a c d i HIA.out _ (SA.out _ _))))
  iterate 3 (go_big_quiet_step (fail))
  go_big_quiet_step ((go_at_call 27; exact Calls.regrown_of (meets_is bo cb b c d j HIB.out _ (SB.out _ _) HFB.out hlb hc hc2)))
  go_big_quiet_step ((go_at_call 28; exact Calls.regrown_of (passes_first bo cb b c d j HIB.out _ (SB.out _ _))))
  iterate 2 (go_big_quiet_step (fail))
  refine wpQuiet_nil ?_
  rintro _ ⟨⟨dd, os⟩, rfl⟩
  have hb1 := below_regrown W0 dd os
  generalize Sort.grow (redrawn W0 dd) os = w1 at hb1
  go_wp2_with fail
  go_ret
  exact ⟨rfl, bthen H0.out hb1⟩

set_option maxHeartbeats 2000000 in
theorem clo51 (ao : Option Addr) (ca : Nat) (a : List Ad.R) (c d m : Int) (A B : Nat) (w : World) (hA : w.cell? ⟨A, 0, none⟩ = some (.slice ao a.length ca)) (hB : w.cell? ⟨B, 0, none⟩ = some (.int .i64 m)) (hRa : Ad.slotR w ao a) (hfa : Ad.fitsR a) (hla : a.length ≤ 1000000) (hc : 0 ≤ c) (hc2 : c ≤ 4294967295) :
    Calls Tryd.prog 51 #[.agg #[.int .u32 c, .int .i64 d], .pointer (some ⟨A, 0, none⟩), .pointer (some ⟨B, 0, none⟩)] w fun e w' => e = .returned (.bool (Ad.first a c d == m)) ∧ Below w.heap.size w w' := by
  have hAw := block_lt_of_cell hA
  have hBw := block_lt_of_cell hB
  simp only at hAw hBw
  have hAn : A ≠ w.heap.size := by omega
  have hBn : B ≠ w.heap.size := by omega
  generalize hia : Ad.first a c d = i
  have HIA := hide hia
  have HRA := hide hRa
  have HFA := hide hfa
  have H0 := hide (balloc (brefl w) (.cells #[.int .u32 c, .int .i64 d] 25))
  obtain ⟨N, hN⟩ : ∃ N, N = w.heap.size := ⟨_, rfl⟩
  have g0 : (w.alloc (.cells #[.int .u32 c, .int .i64 d] 25)).cell? ⟨N, 0, none⟩ = some (.int .u32 c) := by rw [hN]; simp
  have g1 : (w.alloc (.cells #[.int .u32 c, .int .i64 d] 25)).cell? ⟨N, 1, none⟩ = some (.int .i64 d) := by rw [hN]; simp
  clear hia hRa hfa
  go_enter Tryd.func51, Tryd.ntmps51
  go_wp2_with fail
  have r0 := fun dd os => cell_regrown g0 dd os
  have r1 := fun dd os => cell_regrown g1 dd os
  have r2 := fun dd os => cell_regrown (show (w.alloc (.cells #[.int .u32 c, .int .i64 d] 25)).cell? ⟨A, 0, none⟩ = some (.slice ao a.length ca) from (H0.out.cell (p := ⟨A, 0, none⟩) hAw).trans hA) dd os
  have r3 := fun dd os => cell_regrown (show (w.alloc (.cells #[.int .u32 c, .int .i64 d] 25)).cell? ⟨B, 0, none⟩ = some (.int .i64 m) from (H0.out.cell (p := ⟨B, 0, none⟩) hBw).trans hB) dd os
  have SA := hide fun dd os => Ad.slotR_below (Ad.slotR_below HRA.out H0.out) (below_regrown (w.alloc (.cells #[.int .u32 c, .int .i64 d] 25)) dd os)
  rw [← hN]
  clear hN
  generalize w.alloc (.cells #[.int .u32 c, .int .i64 d] 25) = W0 at *
  refine wp_region_quiet_below (by kernel_rfl) (by kernel_rfl) ?_
  repeat (go_big_quiet_step ((go_at_call 27; exact Calls.regrown_of (meets_is ao ca a c d i HIA.out _ (SA.out _ _) HFA.out hla hc hc2))))
  refine wpQuiet_nil ?_
  rintro _ ⟨⟨dd, os⟩, rfl⟩
  have hb1 := below_regrown W0 dd os
  generalize Sort.grow (redrawn W0 dd) os = w1 at hb1
  go_wp2_with fail
  go_ret
  exact ⟨rfl, bthen H0.out hb1⟩
end Go.Proofs.YtkpoanjcalolkaaDoor

/- What first finds on a grid of the rules is the least prefix. -/
namespace Go.Proofs.YtkpoanjcalolkaaDoor
open Go.RowKit

/-- The least prefix of which it holds, if there is one. -/
def Ad.Least (P : Int → Int → Bool) (c k : Int) (f : Bool) : Prop :=
  (f = false ∧ c = 0 ∧ k = 0 ∧ ∀ x d, 0 ≤ x → x ≤ 4294967295 → Ad.may x d = true → P x d = false) ∨
  (f = true ∧ 0 ≤ c ∧ c ≤ 4294967295 ∧ Ad.may c k = true ∧ P c k = true ∧ ∀ x d, 0 ≤ x → x ≤ 4294967295 → Ad.may x d = true → P x d = true → k < d ∨ (k = d ∧ c ≤ x))

theorem Ad.sorted_le (S : List Int) (h : S.Pairwise (· ≤ ·)) (i j : Nat) (hi : i < S.length) (hj : j < S.length) (hij : i ≤ j) : S[i] ≤ S[j] := by
  rcases Nat.lt_or_eq_of_le hij with h1 | rfl
  · exact List.pairwise_iff_getElem.1 h i j hi hj h1
  · exact Int.le_refl _

theorem Ad.found_least (rs : List Ad.R) (hall : ∀ r ∈ rs, Ad.rmay r = true) (S : List Int) (hS : ∀ c, Ad.isCol rs c → c ≤ 4294967295 → c ∈ S) (hb : ∀ c ∈ S, 0 ≤ c ∧ c ≤ 4294967295) (hs : S.Pairwise (· ≤ ·))
    (P : Int → Int → Bool) (hP : ∀ x c d, (∀ r ∈ rs, Ad.met r c d = Ad.met r x d) → P c d = P x d) (c k : Int) (f : Bool) (h : Found S P c k f) : Ad.Least P c k f := by
  have key : ∀ x d, 0 ≤ x → x ≤ 4294967295 → Ad.may x d = true → P x d = true → ∃ (dn j : Nat) (hj : j < S.length), dn < 33 ∧ d = dn ∧ S[j] ≤ x ∧ (Ad.may S[j] dn && P S[j] dn) = true := by
    intro x d h0 h1 hm hp
    obtain ⟨d0, d1, _⟩ := (Ad.may_iff _ _).1 hm
    obtain ⟨c', hc1, hc2, hc3, hc4, hc5⟩ := Ad.grid_col rs hall x d h0 hm
    obtain ⟨j, hj, rfl⟩ := List.getElem_of_mem (hS c' hc1 (by omega))
    refine ⟨d.toNat, j, hj, by omega, by omega, hc3, ?_⟩
    rw [show ((d.toNat : Nat) : Int) = d by omega, hc4, hP x _ d hc5, hp]
    rfl
  rcases h with ⟨rfl, rfl, rfl, hno⟩ | ⟨rfl, kn, j, hj, hk33, rfl, rfl, hmp, hless, hbef⟩
  · refine .inl ⟨rfl, rfl, rfl, fun x d h0 h1 hm => ?_⟩
    cases hp : P x d
    · rfl
    · obtain ⟨dn, j, hj, hd, rfl, _, hh⟩ := key x d h0 h1 hm hp
      rw [hno dn hd j hj] at hh
      cases hh
  · obtain ⟨hb0, hb1⟩ := hb S[j] (List.getElem_mem hj)
    rw [Bool.and_eq_true] at hmp
    refine .inr ⟨rfl, hb0, hb1, hmp.1, hmp.2, fun x d h0 h1 hm hp => ?_⟩
    obtain ⟨dn, i, hi, hd, rfl, hle, hh⟩ := key x d h0 h1 hm hp
    rcases Nat.lt_trichotomy dn kn with h2 | rfl | h2
    · rw [hless dn h2 i hi] at hh
      cases hh
    · refine .inr ⟨rfl, ?_⟩
      rcases Nat.lt_or_ge i j with h3 | h3
      · rw [hbef i hi h3] at hh
        cases hh
      · exact Int.le_trans (Ad.sorted_le S hs j i hj hi h3) hle
    · exact .inl (by omega)

theorem Ad.cols_has (rs : List Ad.R) (hall : ∀ r ∈ rs, Ad.rmay r = true) (hf : Ad.fitsR rs) (c : Int) (h : Ad.isCol rs c) (hc : c ≤ 4294967295) : c ∈ 0 :: Ad.cols rs := by
  rcases h with rfl | ⟨r, hr, h⟩
  · exact List.mem_cons_self
  · refine List.mem_cons_of_mem _ (List.mem_flatMap.2 ⟨r, hr, ?_⟩)
    obtain ⟨m1, _⟩ := (Ad.rmay_iff r).1 (hall r hr)
    obtain ⟨f0, f1⟩ := hf r hr
    have hp := Ad.sz_pos r.2.1
    rcases h with rfl | rfl
    · exact List.mem_cons_self
    · refine List.mem_cons_of_mem _ (List.mem_singleton.2 ?_)
      unfold Ad.rend at hc ⊢
      unfold Ad.last
      rw [if_pos m1]
      omega

theorem Ad.cols_bd (rs : List Ad.R) (hf : Ad.fitsR rs) (c : Int) (h : c ∈ 0 :: Ad.cols rs) : 0 ≤ c ∧ c ≤ 4294967295 := by
  rcases List.mem_cons.1 h with rfl | h
  · omega
  · obtain ⟨r, hr, h⟩ := List.mem_flatMap.1 h
    obtain ⟨f0, f1⟩ := hf r hr
    simp only [Ad.colR, List.mem_cons, List.not_mem_nil, or_false] at h
    rcases h with rfl | rfl <;> omega

theorem Ad.cols_app (a b : List Ad.R) : Ad.cols (a ++ b) = Ad.cols a ++ Ad.cols b := by simp [Ad.cols]

/-- Differ's question hangs on the rules that are met. -/
theorem Ad.ps_col (l : List Ad.R) (x c d : Int) (h : ∀ r ∈ l, Ad.met r c d = Ad.met r x d) : Ad.ps l c d = Ad.ps l x d := by
  unfold Ad.ps
  rw [Ad.first_col l x d c h]

theorem Ad.rwhy_all (l : List Ad.R) (h : Ad.rwhy l = 0) : ∀ r ∈ l, Ad.rmay r = true := by
  have h16 := Ad.rwhy_len l h
  unfold Ad.rwhy at h
  rw [if_neg (by omega)] at h
  by_cases ha : l.all Ad.rmay = true
  · exact List.all_eq_true.1 ha
  · rw [if_neg ha] at h; omega

/-- A grid of rules: rising, and just the rules' columns. -/
structure Ad.IsGrid (rs : List Ad.R) (S C : List Int) : Prop where
  len : S.length = C.length
  top : S.length ≤ 65
  mem : ∀ c, c ∈ S ↔ c ∈ 0 :: Ad.cols rs
  up : S.Pairwise (· ≤ ·)

theorem lay_two (Bl : Nat) (ao bo : Option Addr) (ca cb : Nat) (a b : List Ad.R) (w : World) (h0 : w.cell? ⟨Bl, 0, none⟩ = some (.slice ao a.length ca)) (h1 : w.cell? ⟨Bl, 1, none⟩ = some (.slice bo b.length cb)) (hRa : Ad.slotR w ao a) (hRb : Ad.slotR w bo b) (hfa : Ad.fitsR a) (hfb : Ad.fitsR b) (ha : a.length ≤ 16) (hb : b.length ≤ 16) :
    Calls Tryd.prog 39 #[.slice (some ⟨Bl, 0, none⟩) 2 2] w fun e w' => ∃ S C : List Int, Ad.IsGrid (a ++ b) S C ∧ e = .returned (.agg (gridV S C).toArray) ∧ Below w.heap.size w w' := by
  refine (lay_any Bl [(ao, ca, a), (bo, cb, b)] w (fun j hj => ?_) (fun x hx => ?_) (fun x hx => ?_) (Nat.le_refl _) (fun x hx => ?_)).mono ?_
  · match j, hj with
    | 0, _ => exact h0
    | 1, _ => exact h1
  · simp only [List.mem_cons, List.not_mem_nil, or_false] at hx
    rcases hx with rfl | rfl
    · exact hRa
    · exact hRb
  · simp only [List.mem_cons, List.not_mem_nil, or_false] at hx
    rcases hx with rfl | rfl
    · exact hfa
    · exact hfb
  · simp only [List.mem_cons, List.not_mem_nil, or_false] at hx
    rcases hx with rfl | rfl
    · exact ha
    · exact hb
  · rintro e w' ⟨S, hp, hs, rfl, hbb⟩
    have e1 : Ad.colsOf [(ao, ca, a), (bo, cb, b)] = Ad.cols (a ++ b) := by rw [Ad.cols_app]; simp [Ad.colsOf]
    have hl := hp.length_eq
    refine ⟨S, _, ⟨hl, ?_, fun c => ?_, hs⟩, rfl, hbb⟩
    · rw [hl, e1, List.length_cons, Ad.cols_length, List.length_append]; omega
    · rw [hp.mem_iff, e1]

theorem lay_one (Bl : Nat) (ao : Option Addr) (ca : Nat) (a : List Ad.R) (w : World) (h0 : w.cell? ⟨Bl, 0, none⟩ = some (.slice ao a.length ca)) (hRa : Ad.slotR w ao a) (hfa : Ad.fitsR a) (ha : a.length ≤ 16) :
    Calls Tryd.prog 39 #[.slice (some ⟨Bl, 0, none⟩) 1 1] w fun e w' => ∃ S C : List Int, Ad.IsGrid a S C ∧ e = .returned (.agg (gridV S C).toArray) ∧ Below w.heap.size w w' := by
  refine (lay_any Bl [(ao, ca, a)] w (fun j hj => ?_) (fun x hx => ?_) (fun x hx => ?_) (by simp) (fun x hx => ?_)).mono ?_
  · match j, hj with
    | 0, _ => exact h0
  · obtain rfl := List.mem_singleton.1 hx
    exact hRa
  · obtain rfl := List.mem_singleton.1 hx
    exact hfa
  · obtain rfl := List.mem_singleton.1 hx
    exact ha
  · rintro e w' ⟨S, hp, hs, rfl, hbb⟩
    have e1 : Ad.colsOf [(ao, ca, a)] = Ad.cols a := by simp [Ad.colsOf]
    have hl := hp.length_eq
    refine ⟨S, _, ⟨hl, ?_, fun c => ?_, hs⟩, rfl, hbb⟩
    · rw [hl, e1, List.length_cons, Ad.cols_length]; omega
    · rw [hp.mem_iff, e1]

theorem first_least (rs : List Ad.R) (hall : ∀ r ∈ rs, Ad.rmay r = true) (hf : Ad.fitsR rs) (S C : List Int) (hg : Ad.IsGrid rs S C) (gf : Nat) (lb : Array Value) (P : Int → Int → Bool) (w : World) (hcong : ∀ x c d, (∀ r ∈ rs, Ad.met r c d = Ad.met r x d) → P c d = P x d)
    (eg : ∀ args w, (callFunc gf args).run Tryd.prog w = .ok (.enter gf args) w)
    (hP : ∀ W c (k : Nat), Below w.heap.size w W → 0 ≤ c → c ≤ 4294967295 → Calls Tryd.prog gf (#[.agg #[.int .u32 c, .int .i64 (k : Int)]] ++ lb) W fun e w' => e = .returned (.bool (P c k)) ∧ Below W.heap.size W w') :
    Calls Tryd.prog 40 #[.agg (gridV S C).toArray, .func (.func gf) #[] lb] w fun e w' => ∃ (c k : Int) (f : Bool), e = .returned (.tuple #[.agg #[.int .u32 c, .int .i64 k], .bool f]) ∧ Ad.Least P c k f ∧ Below w.heap.size w w' := by
  have hb : ∀ c ∈ S, 0 ≤ c ∧ c ≤ 4294967295 := fun c hc => Ad.cols_bd rs hf c ((hg.mem c).1 hc)
  refine (first_u S C gf lb P w hg.len hg.top hb eg hP).mono ?_
  rintro e w' ⟨c, k, f, rfl, hfo, hbb⟩
  exact ⟨c, k, f, rfl, Ad.found_least rs hall S (fun c h1 h2 => (hg.mem c).2 (Ad.cols_has rs hall hf c h1 h2)) hb hg.up P hcong c k f hfo, hbb⟩
end Go.Proofs.YtkpoanjcalolkaaDoor

