import Derived.Test.YtpkikfojiibdaaaGreatDoorL1
import Derived.ProofKit
import Derived.OpenShut
import Derived.Lib.SmallJoins
import Derived.Deep.SlicePairs
import Derived.Test.YtpkikfojiibdaaaGreatDoorAK9
import Derived.LaidSub
import Derived.LaidMore
import Derived.Lib.LaidTab
/- What the rows' proofs share: attributes and changes that came in, opened. -/
namespace Go.Proofs.YtpkikfojiibdaaaGreatDoor
open Go.ChangeShapes Go.WideShapes Go.ChangeAt Go.RowKit Go.Joins Go.Deep

theorem own : ownKnob Tryz.prog.godebug = none := by kernel_rfl
theorem laidOut : laidOutB Tryz.prog = true := by kernel_rfl
theorem cells64 : Tryz.prog.cellsOf 53 = 2 := by kernel_rfl
theorem cells25 : Tryz.prog.cellsOf 25 = 7 := by kernel_rfl
theorem cells33 : Tryz.prog.cellsOf 27 = 7 := by kernel_rfl
theorem cells22 : Tryz.prog.cellsOf 22 = 1 := by kernel_rfl
theorem cells23 : Tryz.prog.cellsOf 23 = 1 := by kernel_rfl
theorem cells3 : Tryz.prog.cellsOf 3 = 1 := by kernel_rfl
theorem cells4 : Tryz.prog.cellsOf 4 = 1 := by kernel_rfl
theorem types25 : Tryz.prog.cellTypes Tryz.prog.depth 25 = some [3, 3, 3, 22, 23, 3, 22] := by kernel_rfl
theorem types33 : Tryz.prog.cellTypes Tryz.prog.depth 27 = some [3, 3, 3, 23, 23, 4, 22] := by kernel_rfl
theorem array7 {α : Type} {cs : Array α} (h : cs.size = 7) : ∃ c0 c1 c2 c3 c4 c5 c6, cs = #[c0, c1, c2, c3, c4, c5, c6] := by
  obtain ⟨l⟩ := cs
  match l, h with
  | [c0, c1, c2, c3, c4, c5, c6], _ => exact ⟨c0, c1, c2, c3, c4, c5, c6, rfl⟩
theorem add_plainD (b o k : Nat) : (⟨b, o, none⟩ : Addr).add k = ⟨b, o + k, none⟩ := by unfold Addr.add; split <;> simp_all

section
variable {H : Type} {enc : TypeId × Value → H} {W : World} {base fuel : Nat} {v : Value} {x : DataW H × List MemPlace}

/-- A number's cell. -/
theorem cell_int (h : DataW.trod enc Tryz.prog W 0 (fun _ => true) true fuel 3 [v] = some x) : ∃ a : Int, v = .int .i64 a ∧ (-9223372036854775808 ≤ a ∧ a ≤ 9223372036854775807) := by
  obtain ⟨a, e0, _, wa⟩ := DataW.trod_int Tryz.underlying3 h
  simp only [List.cons.injEq, and_true] at e0
  subst e0
  refine ⟨a, rfl, ?_⟩
  simp only [Lit.wf, Bool.and_eq_true, decide_eq_true_eq] at wa
  exact ⟨wa.1, wa.2⟩
set_option maxRecDepth 100000 in
/-- A truth's cell. -/
theorem cell_bool (h : Cell.okWide Tryz.prog W .any base 4 v) : ∃ b, v = .bool b := by
  simp only [Tryz.underlying4, Cell.okWide] at h
  cases v <;> simp_all [Cell.ok]

set_option maxRecDepth 100000 in
/-- A cell that holds a list of numbers. -/
theorem cell_ints (hv : Cell.okWide Tryz.prog W .any base 22 v) (hx : DataW.trod enc Tryz.prog W 0 (fun _ => true) true fuel 22 [v] = some x) :
    ∃ ao l cap, v = .slice ao l.length cap ∧ Is.slot W ao l ∧ Cm.Co.came ao cap ∧ l.length ≤ cap ∧ cap ≤ maxLen := by
  rcases open_slice Tryz.underlying22 hx with ⟨hcs, _⟩ | ⟨a, len, cap, m, n, D, Pl, hcs, _, hl, hm, hmm, _, hall⟩
  · simp only [List.cons.injEq, and_true] at hcs
    exact ⟨none, [], 0, hcs, .inl rfl, ⟨fun _ => rfl, fun ad had => (by cases had)⟩, Nat.le_refl _, Nat.zero_le _⟩
  · simp only [List.cons.injEq, and_true] at hcs
    subst hcs
    have hmc : m = cap := by rw [hmm]; rfl
    have hsp : a.spot = none := by
      simp only [Tryz.underlying22, Cell.okWide, Cell.ok] at hv
      exact hv.2.2.2.1
    obtain ⟨b, off, sp⟩ := a
    subst hsp
    have key : ∀ i, ∃ x : Int, i < len → W.cell? ⟨b, off + i, none⟩ = some (.int .i64 x) := by
      intro i
      by_cases hi : i < len
      · obtain ⟨cs', h1, h2⟩ := hall i (by omega)
        rw [cells3] at h1
        obtain ⟨_, hlen, hcell⟩ := World.cells?_some h1
        obtain ⟨x, e0, _, _⟩ := DataW.trod_int Tryz.underlying3 h2
        subst e0
        have e1 := hcell 0 (by decide)
        rw [Nat.mul_one, add_plainD, add_plainD, Nat.add_zero] at e1
        exact ⟨x, fun _ => by simpa using e1⟩
      · exact ⟨0, fun h => absurd h hi⟩
    obtain ⟨f, hf⟩ : ∃ f : Nat → Int, ∀ i, i < len → W.cell? ⟨b, off + i, none⟩ = some (.int .i64 (f i)) := ⟨fun i => (key i).choose, fun i => (key i).choose_spec⟩
    refine ⟨some ⟨b, off, none⟩, (List.range len).map f, cap, by simp, .inr ⟨b, off, rfl, fun j hj => ?_⟩, ⟨fun h => (by cases h), fun ad had => (by cases had; rfl)⟩, by simpa using hl, hm⟩
    simp only [List.getElem_map, List.getElem_range]
    exact hf j (by simpa using hj)

theorem cells_mk (f : Nat → Int × Int) (n j : Nat) (u : Value) (h : (Cm.Co.cells ((List.range n).map f))[j]? = some u) : j / 2 < n ∧ u = (if j % 2 = 0 then Value.int .i64 (f (j / 2)).1 else Value.int .i64 (f (j / 2)).2) := by
  have hj : j < n * 2 := by have := (List.getElem?_eq_some_iff.1 h).1; rw [Cm.Co.cells_length] at this; simpa using this
  have hn : j / 2 < n := by omega
  refine ⟨hn, ?_⟩
  have hc := Cm.Co.cells_get ((List.range n).map f) (j / 2) (by simpa using hn)
  simp only [List.getElem_map, List.getElem_range] at hc
  by_cases hm : j % 2 = 0
  · rw [if_pos hm]
    rw [show j / 2 * 2 = j by omega, h] at hc
    exact Option.some.inj hc.1
  · rw [if_neg hm]
    rw [show j / 2 * 2 + 1 = j by omega, h] at hc
    exact Option.some.inj hc.2

set_option maxRecDepth 100000 in
/-- A cell that holds a list of communities. -/
theorem cell_comms (hv : Cell.okWide Tryz.prog W .any base 23 v) (hx : DataW.trod enc Tryz.prog W 0 (fun _ => true) true fuel 23 [v] = some x) :
    ∃ ao l cap, v = .slice ao l.length cap ∧ Cm.Co.slot W ao l ∧ Cm.Co.came ao cap ∧ l.length ≤ cap ∧ cap ≤ maxLen := by
  rcases open_slice_pairs Tryz.underlying23 Tryz.underlying53 cells64 rfl rfl (by kernel_rfl) (by kernel_rfl) hx with ⟨hcs, _⟩ | ⟨a, len, cap, m, n, V0, V1, D0, D1, P0, P1, hcs, _, hl, hm, hmm, _, hall⟩
  · simp only [List.cons.injEq, and_true] at hcs
    exact ⟨none, [], 0, hcs, .inl rfl, ⟨fun _ => rfl, fun ad had => (by cases had)⟩, Nat.le_refl _, Nat.zero_le _⟩
  · simp only [List.cons.injEq, and_true] at hcs
    subst hcs
    have hmc : m = cap := by rw [hmm]; rfl
    have hsp : a.spot = none := by
      simp only [Tryz.underlying23, Cell.okWide, Cell.ok] at hv
      exact hv.2.2.2.1
    obtain ⟨b, off, sp⟩ := a
    subst hsp
    have key : ∀ i, ∃ x : Int × Int, i < len → W.cell? ⟨b, off + i * 2, none⟩ = some (.int .i64 x.1) ∧ W.cell? ⟨b, off + i * 2 + 1, none⟩ = some (.int .i64 x.2) := by
      intro i
      by_cases hi : i < len
      · obtain ⟨g0, g1, t0, t1⟩ := hall i (by omega)
        obtain ⟨x, e0, _, wx⟩ := DataW.trod_int Tryz.underlying3 t0
        obtain ⟨y, e1, _, wy⟩ := DataW.trod_int Tryz.underlying3 t1
        simp at e0 e1
        rw [add_plainD] at g0 g1
        exact ⟨(x, y), fun _ => ⟨by rw [g0, e0], by rw [Nat.add_assoc, g1, e1]⟩⟩
      · exact ⟨(0, 0), fun h => absurd h hi⟩
    obtain ⟨f, hf⟩ : ∃ f : Nat → Int × Int, ∀ i, i < len → W.cell? ⟨b, off + i * 2, none⟩ = some (.int .i64 (f i).1) ∧ W.cell? ⟨b, off + i * 2 + 1, none⟩ = some (.int .i64 (f i).2) := ⟨fun i => (key i).choose, fun i => (key i).choose_spec⟩
    refine ⟨some ⟨b, off, none⟩, (List.range len).map f, cap, by simp, .inr ⟨b, off, rfl, ?_⟩, ⟨fun h => (by cases h), fun ad had => (by cases had; rfl)⟩, by simpa using hl, hm⟩
    intro j u hu
    obtain ⟨hj, rfl⟩ := cells_mk f len j u hu
    have := hf (j / 2) hj
    by_cases hm2 : j % 2 = 0
    · rw [if_pos hm2, show off + j = off + j / 2 * 2 by omega]; exact this.1
    · rw [if_neg hm2, show off + j = off + j / 2 * 2 + 1 by omega]; exact this.2
end

set_option maxRecDepth 100000 in
theorem row7 {W : World} {base : Nat} {t : TypeId} {c0 c1 c2 c3 c4 c5 c6 : Value} {u0 u1 u2 u3 u4 u5 u6 : TypeId} (ht : Tryz.prog.cellTypes Tryz.prog.depth t = some [u0, u1, u2, u3, u4, u5, u6]) (h : Row.okWide Tryz.prog W .any base t #[c0, c1, c2, c3, c4, c5, c6]) :
    Cell.okWide Tryz.prog W .any base u3 c3 ∧ Cell.okWide Tryz.prog W .any base u4 c4 ∧ Cell.okWide Tryz.prog W .any base u5 c5 ∧ Cell.okWide Tryz.prog W .any base u6 c6 := by
  obtain ⟨ts, e, _, hc⟩ := h
  rw [ht] at e
  obtain rfl := Option.some.inj e
  obtain ⟨a3, x3, y3⟩ := hc 3 c3 rfl
  obtain ⟨a4, x4, y4⟩ := hc 4 c4 rfl
  obtain ⟨a5, x5, y5⟩ := hc 5 c5 rfl
  obtain ⟨a6, x6, y6⟩ := hc 6 c6 rfl
  obtain rfl : u3 = a3 := Option.some.inj x3
  obtain rfl : u4 = a4 := Option.some.inj x4
  obtain rfl : u5 = a5 := Option.some.inj x5
  obtain rfl : u6 = a6 := Option.some.inj x6
  exact ⟨y3, y4, y5, y6⟩

set_option maxRecDepth 100000 in
/-- Attributes that came in. -/
theorem open_attr {H : Type} {enc : TypeId × Value → H} {W : World} {base : Nat} {v : Value} {d : DataW H} {p : List MemPlace}
    (hv : Value.okWide Tryz.prog W .any base 25 v) (h : DataW.Trod enc Tryz.prog W 0 (fun _ => true) true 25 v d p) :
    ∃ (a : At) (po co ko : Option Addr) (cp cc ck : Nat), v = .agg #[.int .i64 a.pf, .int .i64 a.md, .int .i64 a.og, .slice po a.path.length cp, .slice co a.comms.length cc, .int .i64 a.fr, .slice ko a.cl.length ck] ∧ At.lies W a po co ko ∧ At.came a po co ko cp cc ck ∧ a.cl.length ≤ ck := by
  simp only [Value.okWide, Tryz.underlying25] at hv
  obtain ⟨cs, rfl, hsz, hr⟩ := hv
  obtain ⟨c0, c1, c2, c3, c4, c5, c6, rfl⟩ := array7 (hsz.trans cells25)
  obtain ⟨r3, r4, r5, r6⟩ := row7 types25 hr
  obtain ⟨fuel, hx⟩ := h
  obtain ⟨xs, n, _, _, _, hlen, hf⟩ := DataW.trod_struct Tryz.underlying25 hx
  match xs, hlen with
  | [y0, y1, y2, y3, y4, y5, y6], _ =>
    obtain ⟨a0, rfl, _⟩ := cell_int (x := y0) (by simpa [Value.cells, cells3] using hf 0 _ rfl)
    obtain ⟨a1, rfl, _⟩ := cell_int (x := y1) (by simpa [Value.cells, cells3] using hf 1 _ rfl)
    obtain ⟨a2, rfl, _⟩ := cell_int (x := y2) (by simpa [Value.cells, cells3] using hf 2 _ rfl)
    obtain ⟨po, lp, cp, rfl, sp, kp, _⟩ := cell_ints (x := y3) r3 (by simpa [Value.cells, cells22] using hf 3 _ rfl)
    obtain ⟨co, lc, cc, rfl, sc, kc, _⟩ := cell_comms (x := y4) r4 (by simpa [Value.cells, cells23] using hf 4 _ rfl)
    obtain ⟨a5, rfl, _⟩ := cell_int (x := y5) (by simpa [Value.cells, cells3] using hf 5 _ rfl)
    obtain ⟨ko, lk, ck, rfl, sk, kk, lek, _⟩ := cell_ints (x := y6) r6 (by simpa [Value.cells, cells22] using hf 6 _ rfl)
    exact ⟨⟨a0, a1, a2, lp, lc, a5, lk⟩, po, co, ko, cp, cc, ck, rfl, ⟨sp, sc, sk⟩, ⟨kp, kc, kk, lek⟩, lek⟩

set_option maxRecDepth 100000 in
/-- A change that came in. -/
theorem open_set {H : Type} {enc : TypeId × Value → H} {W : World} {base : Nat} {v : Value} {d : DataW H} {p : List MemPlace}
    (hv : Value.okWide Tryz.prog W .any base 27 v) (h : DataW.Trod enc Tryz.prog W 0 (fun _ => true) true 27 v d p) :
    ∃ (s : St) (ao dl pr : Option Addr) (ca cd cr : Nat), v = .agg #[.int .i64 s.pf, .int .i64 s.md, .int .i64 s.og, .slice ao s.add.length ca, .slice dl s.del.length cd, .bool s.clr, .slice pr s.pre.length cr] ∧ St.lies W s ao dl pr ∧ (Cm.Co.came ao ca ∧ Cm.Co.came dl cd ∧ Cm.Co.came pr cr) := by
  simp only [Value.okWide, Tryz.underlying27] at hv
  obtain ⟨cs, rfl, hsz, hr⟩ := hv
  obtain ⟨c0, c1, c2, c3, c4, c5, c6, rfl⟩ := array7 (hsz.trans cells33)
  obtain ⟨r3, r4, r5, r6⟩ := row7 types33 hr
  obtain ⟨fuel, hx⟩ := h
  obtain ⟨xs, n, _, _, _, hlen, hf⟩ := DataW.trod_struct Tryz.underlying27 hx
  match xs, hlen with
  | [y0, y1, y2, y3, y4, y5, y6], _ =>
    obtain ⟨a0, rfl, _⟩ := cell_int (x := y0) (by simpa [Value.cells, cells3] using hf 0 _ rfl)
    obtain ⟨a1, rfl, _⟩ := cell_int (x := y1) (by simpa [Value.cells, cells3] using hf 1 _ rfl)
    obtain ⟨a2, rfl, _⟩ := cell_int (x := y2) (by simpa [Value.cells, cells3] using hf 2 _ rfl)
    obtain ⟨ao, la, ca, rfl, sa, ka, _⟩ := cell_comms (x := y3) r3 (by simpa [Value.cells, cells23] using hf 3 _ rfl)
    obtain ⟨dl, ld, cd, rfl, sd, kd, _⟩ := cell_comms (x := y4) r4 (by simpa [Value.cells, cells23] using hf 4 _ rfl)
    obtain ⟨b, rfl⟩ := cell_bool r5
    obtain ⟨pr, lr, cr, rfl, sr, kr, _⟩ := cell_ints (x := y6) r6 (by simpa [Value.cells, cells22] using hf 6 _ rfl)
    exact ⟨⟨a0, a1, a2, la, ld, b, lr⟩, ao, dl, pr, ca, cd, cr, rfl, ⟨sa, sd, sr⟩, ⟨ka, kd, kr⟩⟩
end Go.Proofs.YtpkikfojiibdaaaGreatDoor

/- The table of powers of ten, out of a row's condition. -/
namespace Go.Proofs.YtpkikfojiibdaaaGreatDoor
open Go.ChangeShapes Go.WideShapes Go.ChangeAt Go.RowKit Go.Joins Go.Deep

theorem tab_of {W : World} {l : List (String × DataW Unit)} (hl : (l.filter fun x => x.1 == "internal/strconv.uint64pow10") = [("internal/strconv.uint64pow10", Lib.tabData .u64 Lib.pow10Tab)]) (h : laidMetH Tryz.prog l W) : Tab W := by
  have h1 := h.filter fun x => x.1 == "internal/strconv.uint64pow10"
  rw [hl] at h1
  have h2 : laidMet Tryz.prog [("internal/strconv.uint64pow10", Lib.tabData .u64 Lib.pow10Tab)] W := h1
  exact Lib.tabIs_of_head (g := (Tryz.prog.globalNamed "internal/strconv.uint64pow10").getD 0) (t := 120) (e := 102) (n := 20) (by kernel_rfl) (by kernel_rfl) (by kernel_rfl) (by kernel_rfl) (by kernel_rfl) (by kernel_rfl) h2
theorem int_bd {n : Int} (h : (Lit.int .i64 n).wf = true) : -9223372036854775808 ≤ n ∧ n ≤ 9223372036854775807 := by
  simp only [Lit.wf, Bool.and_eq_true, decide_eq_true_eq] at h
  exact ⟨h.1, h.2⟩
end Go.Proofs.YtpkikfojiibdaaaGreatDoor

