import Derived.Test.YtkhmhmopcofejaaKA
import Derived.ProofKit
import Derived.OpenShut
import Derived.Lib.SmallJoins
import Derived.Deep.SlicePairs
import Derived.Test.YtkhmhmopcofejaaKS
/- Bytes that came in, opened. -/
namespace Go.Proofs.Ytkhmhmopcofejaa
open Go.ChangeShapes Go.WideShapes Go.ChangeAt Go.RowKit Go.Joins Go.Deep

theorem own : ownKnob Try.prog.godebug = none := by kernel_rfl
theorem laidOut : laidOutB Try.prog = true := by kernel_rfl
theorem cellsB : Try.prog.cellsOf 5 = 1 := by kernel_rfl
theorem add_plainD (b o k : Nat) : (⟨b, o, none⟩ : Addr).add k = ⟨b, o + k, none⟩ := by unfold Addr.add; split <;> simp_all
theorem byte_back {z : Int} (h0 : 0 ≤ z) (h1 : z ≤ 255) : (((UInt8.ofNat z.toNat).toNat : Nat) : Int) = z := by
  rw [byte_nat (by omega)]
  omega
section
variable {H : Type} {enc : TypeId × Value → H} {W : World} {base fuel : Nat} {v : Value} {x : DataW H × List MemPlace}
set_option maxRecDepth 100000 in
/-- A slice of bytes. -/
theorem cell_bytes (hv : Cell.okWide Try.prog W .any base 31 v) (hx : DataW.trod enc Try.prog W 0 (fun _ => true) true fuel 31 [v] = some x) :
    ∃ ao l cap, v = .slice ao l.length cap ∧ Bs.slot W ao l ∧ camB ao l.length cap ∧ cap ≤ maxLen := by
  rcases open_slice Try.underlying31 hx with ⟨hcs, _⟩ | ⟨a, len, cap, m, n, D, Pl, hcs, _, hl, hm, hmm, _, hall⟩
  · simp only [List.cons.injEq, and_true] at hcs
    exact ⟨none, [], 0, hcs, .inl rfl, ⟨fun _ => rfl, fun ad had => (by cases had), Nat.le_refl _⟩, Nat.zero_le _⟩
  · simp only [List.cons.injEq, and_true] at hcs
    subst hcs
    have hmc : m = cap := by rw [hmm]; rfl
    have hsp : a.spot = none := by
      simp only [Try.underlying31, Cell.okWide, Cell.ok] at hv
      exact hv.2.2.2.1
    obtain ⟨b, off, sp⟩ := a
    subst hsp
    have key : ∀ i, ∃ x : UInt8, i < len → W.cell? ⟨b, off + i, none⟩ = some (.int .u8 (x.toNat : Int)) := by
      intro i
      by_cases hi : i < len
      · obtain ⟨cs', h1, h2⟩ := hall i (by omega)
        rw [cellsB] at h1
        obtain ⟨_, hlen, hcell⟩ := World.cells?_some h1
        obtain ⟨z, e0, _, wz⟩ := DataW.trod_int Try.underlying5 h2
        subst e0
        have e1 := hcell 0 (by decide)
        rw [Nat.mul_one, add_plainD, add_plainD, Nat.add_zero] at e1
        simp only [Lit.wf, Bool.and_eq_true, decide_eq_true_eq] at wz
        have w0 : 0 ≤ z := wz.1
        have w1 : z ≤ 255 := wz.2
        refine ⟨UInt8.ofNat z.toNat, fun _ => ?_⟩
        rw [byte_back w0 w1]
        simpa using e1
      · exact ⟨0, fun h => absurd h hi⟩
    obtain ⟨f, hf⟩ : ∃ f : Nat → UInt8, ∀ i, i < len → W.cell? ⟨b, off + i, none⟩ = some (.int .u8 ((f i).toNat : Int)) := ⟨fun i => (key i).choose, fun i => (key i).choose_spec⟩
    refine ⟨some ⟨b, off, none⟩, (List.range len).map f, cap, by simp, .inr ⟨b, off, rfl, fun j hj => ?_⟩, ⟨fun h => (by cases h), fun ad had => (by cases had; rfl), by simpa using hl⟩, hm⟩
    simp only [List.getElem_map, List.getElem_range]
    exact hf j (by simpa using hj)
end
set_option maxRecDepth 100000 in
/-- Bytes that came in. -/
theorem open_bytes {H : Type} {enc : TypeId × Value → H} {W : World} {base : Nat} {v : Value} {d : DataW H} {p : List MemPlace}
    (hv : Value.okWide Try.prog W .any base 31 v) (h : DataW.Trod enc Try.prog W 0 (fun _ => true) true 31 v d p) :
    ∃ ao l cap, v = .slice ao l.length cap ∧ Bs.slot W ao l ∧ camB ao l.length cap := by
  obtain ⟨fuel, hx⟩ := h
  obtain ⟨a0, n0, c0, rfl⟩ := okWide_slice Try.underlying31 hv
  have hc : Cell.okWide Try.prog W .any base 31 (.slice a0 n0 c0) := by
    simp only [Value.okWide, Try.underlying31] at hv
    exact hv
  obtain ⟨ao, l, cap, e, h1, h2, _⟩ := cell_bytes hc (by simpa [Value.cells] using hx)
  exact ⟨ao, l, cap, e, h1, h2⟩
end Go.Proofs.Ytkhmhmopcofejaa

/- Updates that came in, opened. -/
namespace Go.Proofs.Ytkhmhmopcofejaa
open Go.ChangeShapes Go.WideShapes Go.ChangeAt Go.RowKit Go.Joins Go.Deep

theorem cells64 : Try.prog.cellsOf 94 = 2 := by kernel_rfl
theorem cells56 : Try.prog.cellsOf 56 = 2 := by kernel_rfl
theorem cells3 : Try.prog.cellsOf 3 = 1 := by kernel_rfl
theorem cells22 : Try.prog.cellsOf 22 = 1 := by kernel_rfl
theorem cells23 : Try.prog.cellsOf 23 = 1 := by kernel_rfl
theorem cells24 : Try.prog.cellsOf 24 = 1 := by kernel_rfl
theorem cells26 : Try.prog.cellsOf 26 = 7 := by kernel_rfl
theorem cells28 : Try.prog.cellsOf 28 = 9 := by kernel_rfl
theorem array9 {α : Type} {cs : Array α} (h : cs.size = 9) : ∃ c0 c1 c2 c3 c4 c5 c6 c7 c8, cs = #[c0, c1, c2, c3, c4, c5, c6, c7, c8] := by
  obtain ⟨l⟩ := cs
  match l, h with
  | [c0, c1, c2, c3, c4, c5, c6, c7, c8], _ => exact ⟨c0, c1, c2, c3, c4, c5, c6, c7, c8, rfl⟩
theorem spot_cell {w : World} {a : Addr} {v : Value} (h : w.cell? a = some v) : a.spot = none := by
  unfold World.cell? at h
  split at h
  · split at h
    · cases h
    · rename_i hs
      simpa using hs
  · cases h
theorem spot_add {a : Addr} {k : Nat} (hk : k = 0) (h : (a.add k).spot = none) : a.spot = none := by
  subst hk
  obtain ⟨b, o, s⟩ := a
  cases s with
  | none => rfl
  | some s => unfold Addr.add at h; simp at h
section
variable {H : Type} {enc : TypeId × Value → H} {W : World} {fuel : Nat} {v : Value} {x : DataW H × List MemPlace}
/-- A number's cell. -/
theorem cell_int (h : DataW.trod enc Try.prog W 0 (fun _ => true) true fuel 3 [v] = some x) : ∃ a : Int, v = .int .i64 a ∧ (-9223372036854775808 ≤ a ∧ a ≤ 9223372036854775807) := by
  obtain ⟨a, e0, _, wa⟩ := DataW.trod_int Try.underlying3 h
  simp only [List.cons.injEq, and_true] at e0
  subst e0
  refine ⟨a, rfl, ?_⟩
  simp only [Lit.wf, Bool.and_eq_true, decide_eq_true_eq] at wa
  exact ⟨wa.1, wa.2⟩
set_option maxRecDepth 100000 in
/-- A cell that holds a list of numbers. -/
theorem cell_ints (hx : DataW.trod enc Try.prog W 0 (fun _ => true) true fuel 23 [v] = some x) :
    ∃ ao l cap, v = .slice ao l.length cap ∧ Is.slot W ao l ∧ camU ao l.length cap := by
  rcases open_slice Try.underlying23 hx with ⟨hcs, _⟩ | ⟨a, len, cap, m, n, D, Pl, hcs, _, hl, hm, hmm, _, hall⟩
  · simp only [List.cons.injEq, and_true] at hcs
    exact ⟨none, [], 0, hcs, .inl rfl, ⟨fun _ => rfl, Nat.le_refl _⟩⟩
  · simp only [List.cons.injEq, and_true] at hcs
    subst hcs
    have hmc : m = cap := by rw [hmm]; rfl
    by_cases h0 : len = 0
    · subst h0
      exact ⟨some a, [], cap, rfl, .inl rfl, ⟨fun h => (by cases h), Nat.zero_le _⟩⟩
    have hsp : a.spot = none := by
      obtain ⟨cs', h1, h2⟩ := hall 0 (by omega)
      obtain ⟨x, e0, _, _⟩ := DataW.trod_int Try.underlying3 h2
      rw [cells3] at h1
      have := (World.cells?_some h1).2.2 0 (by decide)
      rw [e0] at this
      exact spot_add (by simp) (spot_add rfl (spot_cell this))
    obtain ⟨b, off, sp⟩ := a
    subst hsp
    have key : ∀ i, ∃ x : Int, i < len → W.cell? ⟨b, off + i, none⟩ = some (.int .i64 x) := by
      intro i
      by_cases hi : i < len
      · obtain ⟨cs', h1, h2⟩ := hall i (by omega)
        rw [cells3] at h1
        obtain ⟨_, hlen, hcell⟩ := World.cells?_some h1
        obtain ⟨x, e0, _, _⟩ := DataW.trod_int Try.underlying3 h2
        subst e0
        have e1 := hcell 0 (by decide)
        rw [Nat.mul_one, add_plainD, add_plainD, Nat.add_zero] at e1
        exact ⟨x, fun _ => by simpa using e1⟩
      · exact ⟨0, fun h => absurd h hi⟩
    obtain ⟨f, hf⟩ : ∃ f : Nat → Int, ∀ i, i < len → W.cell? ⟨b, off + i, none⟩ = some (.int .i64 (f i)) := ⟨fun i => (key i).choose, fun i => (key i).choose_spec⟩
    refine ⟨some ⟨b, off, none⟩, (List.range len).map f, cap, by simp, .inr ⟨b, off, rfl, fun j hj => ?_⟩, ⟨fun h => (by cases h), by simpa using hl⟩⟩
    simp only [List.getElem_map, List.getElem_range]
    exact hf j (by simpa using hj)

theorem cells_mk (f : Nat → Int × Int) (n j : Nat) (u : Value) (h : (Cm.Co.cells ((List.range n).map f))[j]? = some u) : j / 2 < n ∧ u = (if j % 2 = 0 then Value.int .i64 (f (j / 2)).1 else Value.int .i64 (f (j / 2)).2) := by
  have hj : j < n * 2 := by have := (List.getElem?_eq_some_iff.1 h).1; rw [Cm.Co.cells_length] at this; simpa using this
  have hn : j / 2 < n := by omega
  refine ⟨hn, ?_⟩
  have hc := Cm.Co.cells_get ((List.range n).map f) (j / 2) (by simpa using hn)
  simp only [List.getElem_map, List.getElem_range] at hc
  by_cases hm : j % 2 = 0
  · rw [if_pos hm]
    rw [show j / 2 * 2 = j by omega, h] at hc
    exact Option.some.inj hc.1
  · rw [if_neg hm]
    rw [show j / 2 * 2 + 1 = j by omega, h] at hc
    exact Option.some.inj hc.2

set_option maxRecDepth 100000 in
/-- A cell that holds a list of communities. -/
theorem cell_comms (hx : DataW.trod enc Try.prog W 0 (fun _ => true) true fuel 24 [v] = some x) :
    ∃ ao l cap, v = .slice ao l.length cap ∧ Cm.Co.slot W ao l ∧ camU ao l.length cap := by
  rcases open_slice_pairs Try.underlying24 Try.underlying94 cells64 rfl rfl (by kernel_rfl) (by kernel_rfl) hx with ⟨hcs, _⟩ | ⟨a, len, cap, m, n, V0, V1, D0, D1, P0, P1, hcs, _, hl, hm, hmm, _, hall⟩
  · simp only [List.cons.injEq, and_true] at hcs
    exact ⟨none, [], 0, hcs, .inl rfl, ⟨fun _ => rfl, Nat.le_refl _⟩⟩
  · simp only [List.cons.injEq, and_true] at hcs
    subst hcs
    have hmc : m = cap := by rw [hmm]; rfl
    by_cases h0 : len = 0
    · subst h0
      exact ⟨some a, [], cap, rfl, .inl rfl, ⟨fun h => (by cases h), Nat.zero_le _⟩⟩
    have hsp : a.spot = none := by
      obtain ⟨g0, _, _, _⟩ := hall 0 (by omega)
      exact spot_add (by simp) (spot_cell g0)
    obtain ⟨b, off, sp⟩ := a
    subst hsp
    have key : ∀ i, ∃ x : Int × Int, i < len → W.cell? ⟨b, off + i * 2, none⟩ = some (.int .i64 x.1) ∧ W.cell? ⟨b, off + i * 2 + 1, none⟩ = some (.int .i64 x.2) := by
      intro i
      by_cases hi : i < len
      · obtain ⟨g0, g1, t0, t1⟩ := hall i (by omega)
        obtain ⟨x, e0, _, wx⟩ := DataW.trod_int Try.underlying3 t0
        obtain ⟨y, e1, _, wy⟩ := DataW.trod_int Try.underlying3 t1
        simp at e0 e1
        rw [add_plainD] at g0 g1
        exact ⟨(x, y), fun _ => ⟨by rw [g0, e0], by rw [Nat.add_assoc, g1, e1]⟩⟩
      · exact ⟨(0, 0), fun h => absurd h hi⟩
    obtain ⟨f, hf⟩ : ∃ f : Nat → Int × Int, ∀ i, i < len → W.cell? ⟨b, off + i * 2, none⟩ = some (.int .i64 (f i).1) ∧ W.cell? ⟨b, off + i * 2 + 1, none⟩ = some (.int .i64 (f i).2) := ⟨fun i => (key i).choose, fun i => (key i).choose_spec⟩
    refine ⟨some ⟨b, off, none⟩, (List.range len).map f, cap, by simp, .inr ⟨b, off, rfl, ?_⟩, ⟨fun h => (by cases h), by simpa using hl⟩⟩
    intro j u hu
    obtain ⟨hj, rfl⟩ := cells_mk f len j u hu
    have := hf (j / 2) hj
    by_cases hm2 : j % 2 = 0
    · rw [if_pos hm2, show off + j = off + j / 2 * 2 by omega]; exact this.1
    · rw [if_neg hm2, show off + j = off + j / 2 * 2 + 1 by omega]; exact this.2

theorem cells_mkP (f : Nat → Int × Int) (n j : Nat) (u : Value) (h : (Ax.Ad.cells ((List.range n).map f))[j]? = some u) : j / 2 < n ∧ u = (if j % 2 = 0 then Value.int .u32 (f (j / 2)).1 else Value.int .i64 (f (j / 2)).2) := by
  have hj : j < n * 2 := by have := (List.getElem?_eq_some_iff.1 h).1; rw [Ax.Ad.cells_length] at this; simpa using this
  have hn : j / 2 < n := by omega
  refine ⟨hn, ?_⟩
  have hc := Ax.Ad.cells_get ((List.range n).map f) (j / 2) (by simpa using hn)
  simp only [List.getElem_map, List.getElem_range] at hc
  by_cases hm : j % 2 = 0
  · rw [if_pos hm]
    rw [show j / 2 * 2 = j by omega, h] at hc
    exact Option.some.inj hc.1
  · rw [if_neg hm]
    rw [show j / 2 * 2 + 1 = j by omega, h] at hc
    exact Option.some.inj hc.2
set_option maxRecDepth 100000 in
/-- A cell that holds a list of prefixes. -/
theorem cell_pfxs (hx : DataW.trod enc Try.prog W 0 (fun _ => true) true fuel 22 [v] = some x) :
    ∃ ao l cap, v = .slice ao l.length cap ∧ Ax.Ad.rowAt W ao l ∧ camU ao l.length cap ∧ Ax.Ad.fits l := by
  rcases open_slice_pairs Try.underlying22 Try.underlying56 cells56 rfl rfl (by kernel_rfl) (by kernel_rfl) hx with ⟨hcs, _⟩ | ⟨a, len, cap, m, n, V0, V1, D0, D1, P0, P1, hcs, _, hl, hm, hmm, _, hall⟩
  · simp only [List.cons.injEq, and_true] at hcs
    exact ⟨none, [], 0, hcs, .inl rfl, ⟨fun _ => rfl, Nat.le_refl _⟩, fun x hx => (by cases hx)⟩
  · simp only [List.cons.injEq, and_true] at hcs
    subst hcs
    have hmc : m = cap := by rw [hmm]; rfl
    by_cases h0 : len = 0
    · subst h0
      exact ⟨some a, [], cap, rfl, .inl rfl, ⟨fun h => (by cases h), Nat.zero_le _⟩, fun x hx => (by cases hx)⟩
    have hsp : a.spot = none := by
      obtain ⟨g0, _, _, _⟩ := hall 0 (by omega)
      exact spot_add (by simp) (spot_cell g0)
    obtain ⟨b, off, sp⟩ := a
    subst hsp
    have key : ∀ i, ∃ x : Int × Int, i < len → (W.cell? ⟨b, off + i * 2, none⟩ = some (.int .u32 x.1) ∧ W.cell? ⟨b, off + i * 2 + 1, none⟩ = some (.int .i64 x.2)) ∧ 0 ≤ x.1 ∧ x.1 ≤ 4294967295 := by
      intro i
      by_cases hi : i < len
      · obtain ⟨g0, g1, t0, t1⟩ := hall i (by omega)
        obtain ⟨x, e0, _, wx⟩ := DataW.trod_int Try.underlying54 t0
        obtain ⟨y, e1, _, wy⟩ := DataW.trod_int Try.underlying3 t1
        simp at e0 e1
        rw [add_plainD] at g0 g1
        exact ⟨(x, y), fun _ => ⟨⟨by rw [g0, e0], by rw [Nat.add_assoc, g1, e1]⟩, (bounds_u32 wx).1, (bounds_u32 wx).2⟩⟩
      · exact ⟨(0, 0), fun h => absurd h hi⟩
    obtain ⟨f, hf⟩ : ∃ f : Nat → Int × Int, ∀ i, i < len → (W.cell? ⟨b, off + i * 2, none⟩ = some (.int .u32 (f i).1) ∧ W.cell? ⟨b, off + i * 2 + 1, none⟩ = some (.int .i64 (f i).2)) ∧ 0 ≤ (f i).1 ∧ (f i).1 ≤ 4294967295 := ⟨fun i => (key i).choose, fun i => (key i).choose_spec⟩
    refine ⟨some ⟨b, off, none⟩, (List.range len).map f, cap, by simp, .inr ⟨b, off, rfl, ?_⟩, ⟨fun h => (by cases h), by simpa using hl⟩, ?_⟩
    · intro j u hu
      obtain ⟨hj, rfl⟩ := cells_mkP f len j u hu
      have := (hf (j / 2) hj).1
      by_cases hm2 : j % 2 = 0
      · rw [if_pos hm2, show off + j = off + j / 2 * 2 by omega]; exact this.1
      · rw [if_neg hm2, show off + j = off + j / 2 * 2 + 1 by omega]; exact this.2
    · intro x hx
      simp only [List.mem_map, List.mem_range] at hx
      obtain ⟨i, hi, rfl⟩ := hx
      exact (hf i hi).2
end
set_option maxHeartbeats 1000000 in
set_option maxRecDepth 100000 in
/-- An update's nine cells. -/
theorem open_nine {H : Type} {enc : TypeId × Value → H} {W : World} {fuel : Nat} {c0 c1 c2 c3 c4 c5 c6 c7 c8 : Value} {x : DataW H × List MemPlace}
    (hx : DataW.trod enc Try.prog W 0 (fun _ => true) true fuel 28 [c0, c1, c2, c3, c4, c5, c6, c7, c8] = some x) :
    ∃ (u : Up) (wo tq po co ko : Option Addr) (cw ct cp cc ck : Nat), #[c0, c1, c2, c3, c4, c5, c6, c7, c8] = #[.slice wo u.wd.length cw, .slice tq u.td.length ct, .int .i64 u.at_.pf, .int .i64 u.at_.md, .int .i64 u.at_.og, .slice po u.at_.path.length cp, .slice co u.at_.comms.length cc, .int .i64 u.at_.fr, .slice ko u.at_.cl.length ck] ∧ Up.lies W u wo tq po co ko ∧ Up.came u wo tq po co ko cw ct cp cc ck ∧ u.fits := by
  obtain ⟨xs, n, _, _, _, hlen, hf⟩ := DataW.trod_struct Try.underlying28 hx
  match xs, hlen with
  | [y0, y1, y2], _ =>
    obtain ⟨wo, lw, cw, rfl, sw, kw, fw⟩ := cell_pfxs (x := y0) (by simpa [cells22] using hf 0 _ rfl)
    obtain ⟨tq, lt, ct, rfl, st, kt, ft⟩ := cell_pfxs (x := y1) (by simpa [cells22] using hf 1 _ rfl)
    have h2 : DataW.trod enc Try.prog W 0 (fun _ => true) true n 26 [c2, c3, c4, c5, c6, c7, c8] = some y2 := by simpa [cells22, cells26] using hf 2 _ rfl
    obtain ⟨zs, k, _, _, _, hlen2, hg⟩ := DataW.trod_struct Try.underlying26 h2
    match zs, hlen2 with
    | [z0, z1, z2, z3, z4, z5, z6], _ =>
      obtain ⟨a0, rfl, _⟩ := cell_int (x := z0) (by simpa [cells3] using hg 0 _ rfl)
      obtain ⟨a1, rfl, _⟩ := cell_int (x := z1) (by simpa [cells3] using hg 1 _ rfl)
      obtain ⟨a2, rfl, _⟩ := cell_int (x := z2) (by simpa [cells3] using hg 2 _ rfl)
      obtain ⟨po, lp, cp, rfl, sp, kp⟩ := cell_ints (x := z3) (by simpa [cells3, cells23] using hg 3 _ rfl)
      obtain ⟨co, lc, cc, rfl, sc, kc⟩ := cell_comms (x := z4) (by simpa [cells3, cells23, cells24] using hg 4 _ rfl)
      obtain ⟨a5, rfl, _⟩ := cell_int (x := z5) (by simpa [cells3, cells23, cells24] using hg 5 _ rfl)
      obtain ⟨ko, lk, ck, rfl, sk, kk⟩ := cell_ints (x := z6) (by simpa [cells3, cells23, cells24] using hg 6 _ rfl)
      exact ⟨⟨lw, lt, ⟨a0, a1, a2, lp, lc, a5, lk⟩⟩, wo, tq, po, co, ko, cw, ct, cp, cc, ck, rfl, ⟨sw, st, sp, sc, sk⟩, ⟨kw, kt, kp, kc, kk⟩, ⟨fw, ft⟩⟩
set_option maxRecDepth 100000 in
/-- An update that came in. -/
theorem open_upd {H : Type} {enc : TypeId × Value → H} {W : World} {base : Nat} {v : Value} {d : DataW H} {p : List MemPlace}
    (hv : Value.okWide Try.prog W .any base 28 v) (h : DataW.Trod enc Try.prog W 0 (fun _ => true) true 28 v d p) :
    ∃ (u : Up) (wo tq po co ko : Option Addr) (cw ct cp cc ck : Nat), v = .agg #[.slice wo u.wd.length cw, .slice tq u.td.length ct, .int .i64 u.at_.pf, .int .i64 u.at_.md, .int .i64 u.at_.og, .slice po u.at_.path.length cp, .slice co u.at_.comms.length cc, .int .i64 u.at_.fr, .slice ko u.at_.cl.length ck] ∧ Up.lies W u wo tq po co ko ∧ Up.came u wo tq po co ko cw ct cp cc ck ∧ u.fits := by
  simp only [Value.okWide, Try.underlying28] at hv
  obtain ⟨cs, rfl, hsz, _⟩ := hv
  obtain ⟨c0, c1, c2, c3, c4, c5, c6, c7, c8, rfl⟩ := array9 (hsz.trans cells28)
  obtain ⟨fuel, hx⟩ := h
  obtain ⟨u, wo, tq, po, co, ko, cw, ct, cp, cc, ck, e, h1, h2, h3⟩ := open_nine (by simpa [Value.cells] using hx)
  exact ⟨u, wo, tq, po, co, ko, cw, ct, cp, cc, ck, by rw [e], h1, h2, h3⟩
set_option maxHeartbeats 1000000 in
set_option maxRecDepth 100000 in
/-- Updates that came in. -/
theorem open_upds {H : Type} {enc : TypeId × Value → H} {W : World} {base : Nat} {v : Value} {d : DataW H} {p : List MemPlace}
    (hv : Value.okWide Try.prog W .any base 45 v) (h : DataW.Trod enc Try.prog W 0 (fun _ => true) true 45 v d p) :
    ∃ (ao : Option Addr) (us : List Ue) (cap : Nat), v = .slice ao us.length cap ∧ Us.slot W ao us ∧ (∀ x ∈ us, x.u.fits) ∧ ∀ x ∈ us, Up.came x.u x.wo x.tq x.po x.co x.ko x.cw x.ct x.cp x.cc x.ck := by
  obtain ⟨fuel, hx⟩ := h
  obtain ⟨a0, n0, c0, rfl⟩ := okWide_slice Try.underlying45 hv
  rcases open_slice Try.underlying45 hx with ⟨hcs, _⟩ | ⟨a, len, cap, m, n, D, Pl, hcs, _, hl, _, hmm, _, hall⟩
  · simp [Value.cells] at hcs
    exact ⟨none, [], 0, by rw [hcs.1, hcs.2.1, hcs.2.2]; rfl, ⟨.inl rfl, fun x hx => (by cases hx)⟩, fun x hx => (by cases hx), fun x hx => (by cases hx)⟩
  · simp only [Value.cells] at hcs
    have hcs' : Value.slice a0 n0 c0 = .slice (some a) len cap := by simpa using hcs
    simp only [Value.slice.injEq] at hcs'
    obtain ⟨rfl, rfl, rfl⟩ := hcs'
    have hmc : m = c0 := by rw [hmm]; rfl
    have hsp : a.spot = none := by
      simp only [Value.okWide, Try.underlying45, Cell.okWide, Cell.ok] at hv
      exact hv.2.2.2.1
    obtain ⟨b, off, sp⟩ := a
    subst hsp
    have key : ∀ i, ∃ x : Ue, i < n0 → Ue.at_ W b (off + i * 9) x ∧ Up.lies W x.u x.wo x.tq x.po x.co x.ko ∧ x.u.fits ∧ Up.came x.u x.wo x.tq x.po x.co x.ko x.cw x.ct x.cp x.cc x.ck := by
      intro i
      by_cases hi : i < n0
      · obtain ⟨cs', h1, h2⟩ := hall i (by omega)
        rw [cells28] at h1
        obtain ⟨_, hlen, hcell⟩ := World.cells?_some h1
        match cs', hlen with
        | [d0, d1, d2, d3, d4, d5, d6, d7, d8], _ =>
          obtain ⟨u, wo, tq, po, co, ko, cw, ct, cp, cc, ck, e, g1, g2, g3⟩ := open_nine h2
          refine ⟨⟨u, wo, tq, po, co, ko, cw, ct, cp, cc, ck⟩, fun _ => ⟨?_, g1, g3, g2⟩⟩
          have hat : ∀ j, j < 9 → W.cell? ⟨b, off + i * 9 + j, none⟩ = #[d0, d1, d2, d3, d4, d5, d6, d7, d8][j]? := by
            intro j hj
            have := hcell j hj
            rw [add_plainD, add_plainD] at this
            rw [this]
            simp
          rw [e] at hat
          exact ⟨hat 0 (by decide), hat 1 (by decide), hat 2 (by decide), hat 3 (by decide), hat 4 (by decide), hat 5 (by decide), hat 6 (by decide), hat 7 (by decide), hat 8 (by decide)⟩
      · exact ⟨⟨Up.zero, none, none, none, none, none, 0, 0, 0, 0, 0⟩, fun h => absurd h hi⟩
    obtain ⟨f, hf⟩ : ∃ f : Nat → Ue, ∀ i, i < n0 → Ue.at_ W b (off + i * 9) (f i) ∧ Up.lies W (f i).u (f i).wo (f i).tq (f i).po (f i).co (f i).ko ∧ (f i).u.fits ∧ Up.came (f i).u (f i).wo (f i).tq (f i).po (f i).co (f i).ko (f i).cw (f i).ct (f i).cp (f i).cc (f i).ck := ⟨fun i => (key i).choose, fun i => (key i).choose_spec⟩
    have hmem : ∀ x ∈ (List.range n0).map f, ∃ i, i < n0 ∧ x = f i := by
      intro x hx
      simp only [List.mem_map, List.mem_range] at hx
      obtain ⟨i, hi, rfl⟩ := hx
      exact ⟨i, hi, rfl⟩
    refine ⟨some ⟨b, off, none⟩, (List.range n0).map f, c0, by simp, ⟨.inr ⟨b, off, rfl, fun j hj => ?_⟩, fun x hx => ?_⟩, fun x hx => ?_, fun x hx => ?_⟩
    · simp only [List.getElem_map, List.getElem_range]
      exact (hf j (by simpa using hj)).1
    · obtain ⟨i, hi, rfl⟩ := hmem x hx; exact (hf i hi).2.1
    · obtain ⟨i, hi, rfl⟩ := hmem x hx; exact (hf i hi).2.2.1
    · obtain ⟨i, hi, rfl⟩ := hmem x hx; exact (hf i hi).2.2.2
end Go.Proofs.Ytkhmhmopcofejaa

