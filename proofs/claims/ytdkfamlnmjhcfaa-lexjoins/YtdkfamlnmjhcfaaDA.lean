/- Tokens that came in, opened. -/
import Derived.Test.YtdkfamlnmjhcfaaK1
import Derived.ProofKit
import Derived.OpenShut
import Derived.Lib.SmallJoins
import Derived.Deep.SlicePairs
namespace Go.Proofs.Ytdkfamlnmjhcfaa
open Go.ChangeShapes Go.WideShapes Go.ChangeAt Go.RowKit Go.Joins Go.Deep

theorem own : ownKnob Try.prog.godebug = none := by kernel_rfl
theorem laidOut : laidOutB Try.prog = true := by kernel_rfl
theorem add_plainD (b o k : Nat) : (⟨b, o, none⟩ : Addr).add k = ⟨b, o + k, none⟩ := by unfold Addr.add; split <;> simp_all
theorem cells3 : Try.prog.cellsOf 3 = 1 := by kernel_rfl
theorem cells9 : Try.prog.cellsOf 9 = 1 := by kernel_rfl
theorem cells25 : Try.prog.cellsOf 25 = 2 := by kernel_rfl
theorem cells27 : Try.prog.cellsOf 27 = 4 := by kernel_rfl
section
variable {H : Type} {enc : TypeId × Value → H} {W : World} {fuel : Nat}
theorem cell_int {v : Value} {x : DataW H × List MemPlace} (h : DataW.trod enc Try.prog W 0 (fun _ => true) true fuel 3 [v] = some x) : ∃ a : Int, v = .int .i64 a := by
  obtain ⟨a, e0, _, _⟩ := DataW.trod_int Try.underlying3 h
  simp only [List.cons.injEq, and_true] at e0
  exact ⟨a, e0⟩
theorem cell_str {v : Value} {x : DataW H × List MemPlace} (h : DataW.trod enc Try.prog W 0 (fun _ => true) true fuel 9 [v] = some x) : ∃ a : ByteArray, v = .string a := by
  obtain ⟨a, e0, _, _⟩ := DataW.trod_string Try.underlying9 h
  simp only [List.cons.injEq, and_true] at e0
  exact ⟨a, e0⟩
set_option maxHeartbeats 1000000 in
set_option maxRecDepth 100000 in
theorem open_four {c0 c1 c2 c3 : Value} {x : DataW H × List MemPlace} (hx : DataW.trod enc Try.prog W 0 (fun _ => true) true fuel 27 [c0, c1, c2, c3] = some x) : ∃ t : Tv, [c0, c1, c2, c3] = Tv.enc t := by
  obtain ⟨xs, n, _, _, _, hlen, hf⟩ := DataW.trod_struct Try.underlying27 hx
  match xs, hlen with
  | [y0, y1, y2], _ =>
    obtain ⟨a0, rfl⟩ := cell_int (x := y0) (by simpa [cells3] using hf 0 _ rfl)
    obtain ⟨a1, rfl⟩ := cell_str (x := y1) (by simpa [cells9] using hf 1 _ rfl)
    have h2 : DataW.trod enc Try.prog W 0 (fun _ => true) true n 25 [c2, c3] = some y2 := by simpa [cells25] using hf 2 _ rfl
    obtain ⟨zs, k, _, _, _, hlen2, hg⟩ := DataW.trod_struct Try.underlying25 h2
    match zs, hlen2 with
    | [z0, z1], _ =>
      obtain ⟨b0, rfl⟩ := cell_int (x := z0) (by simpa [cells3] using hg 0 _ rfl)
      obtain ⟨b1, rfl⟩ := cell_int (x := z1) (by simpa [cells3] using hg 1 _ rfl)
      exact ⟨⟨a0, a1, b0, b1⟩, rfl⟩
end
set_option maxHeartbeats 1000000 in
set_option maxRecDepth 100000 in
theorem open_toks {H : Type} {enc : TypeId × Value → H} {W : World} {base : Nat} {v : Value} {d : DataW H} {p : List MemPlace}
    (hv : Value.okWide Try.prog W .any base 22 v) (h : DataW.Trod enc Try.prog W 0 (fun _ => true) true 22 v d p) :
    ∃ (ao : Option Addr) (l : List Tv) (cap : Nat), v = .slice ao l.length cap ∧ Tv.slot W ao l := by
  obtain ⟨fuel, hx⟩ := h
  obtain ⟨a0, n0, c0, rfl⟩ := okWide_slice Try.underlying22 hv
  rcases open_slice Try.underlying22 hx with ⟨hcs, _⟩ | ⟨a, len, cap, m, n, D, Pl, hcs, _, hl, _, hmm, _, hall⟩
  · simp [Value.cells] at hcs
    exact ⟨none, [], 0, by rw [hcs.1, hcs.2.1, hcs.2.2]; rfl, .inl rfl⟩
  · simp only [Value.cells] at hcs
    have hcs' : Value.slice a0 n0 c0 = .slice (some a) len cap := by simpa using hcs
    simp only [Value.slice.injEq] at hcs'
    obtain ⟨rfl, rfl, rfl⟩ := hcs'
    have hmc : m = c0 := by rw [hmm]; rfl
    have hsp : a.spot = none := by
      simp only [Value.okWide, Try.underlying22, Cell.okWide, Cell.ok] at hv
      exact hv.2.2.2.1
    obtain ⟨b, off, sp⟩ := a
    subst hsp
    have key : ∀ i, ∃ x : Tv, i < n0 → Tv.at_ W b (off + i * 4) x := by
      intro i
      by_cases hi : i < n0
      · obtain ⟨cs', h1, h2⟩ := hall i (by omega)
        rw [cells27] at h1
        obtain ⟨_, hlen, hcell⟩ := World.cells?_some h1
        match cs', hlen with
        | [d0, d1, d2, d3], _ =>
          obtain ⟨t, e⟩ := open_four h2
          refine ⟨t, fun _ => ?_⟩
          have hat : ∀ j, j < 4 → W.cell? ⟨b, off + i * 4 + j, none⟩ = [d0, d1, d2, d3][j]? := by
            intro j hj
            have := hcell j hj
            rw [add_plainD, add_plainD] at this
            rw [this]
            try simp
          rw [e] at hat
          exact ⟨hat 0 (by decide), hat 1 (by decide), hat 2 (by decide), hat 3 (by decide)⟩
      · exact ⟨⟨0, ⟨#[]⟩, 0, 0⟩, fun h => absurd h hi⟩
    obtain ⟨f, hf⟩ : ∃ f : Nat → Tv, ∀ i, i < n0 → Tv.at_ W b (off + i * 4) (f i) := ⟨fun i => (key i).choose, fun i => (key i).choose_spec⟩
    refine ⟨some ⟨b, off, none⟩, (List.range n0).map f, c0, by simp, .inr ⟨b, off, rfl, fun j hj => ?_⟩⟩
    simp only [List.getElem_map, List.getElem_range]
    exact hf j (by simpa using hj)
end Go.Proofs.Ytdkfamlnmjhcfaa
