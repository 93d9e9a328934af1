/- Clauses, lists and a route that came in, opened. -/
import Derived.Test.YtngfoijmknclhaaGreatDoorJ08
import Derived.Test.YtngfoijmknclhaaGreatDoorJ13
import Derived.Test.YtngfoijmknclhaaGreatDoorJ23
import Derived.Test.YtngfoijmknclhaaGreatDoorJ47
import Derived.ProofKit
import Derived.OpenShut
import Derived.Lib.SmallJoins
import Derived.Deep.SlicePairs
import Derived.SizedLaws
import Derived.Shelf.LaysM
import Derived.Shelf.Strconv.Itoa3
import Derived.Shelf.Strings.OnBuilder
import Derived.Shelf.Strings.Search2
import Derived.Test.YtngfoijmknclhaaGreatDoorProg
import Derived.Laws.MakeOwn
import Derived.Test.YtngfoijmknclhaaGreatDoorRows
import Derived.LaidSub
import Derived.LaidMore
import Derived.Lib.LaidTab
import Derived.Shelf.Vars
import Derived.HandedShaped
namespace Go.Proofs.YtngfoijmknclhaaGreatDoor
open Go.ChangeShapes Go.WideShapes Go.ChangeAt Go.RowKit Go.Joins Go.Deep
theorem add_plainO (b o k : Nat) : (⟨b, o, none⟩ : Addr).add k = ⟨b, o + k, none⟩ := by unfold Addr.add; split <;> simp_all
theorem spotO {w : World} {a : Addr} {v : Value} (h : w.cell? a = some v) : a.spot = none := by
  unfold World.cell? at h
  split at h
  · split at h
    · cases h
    · rename_i hs
      simpa using hs
  · cases h
theorem spot_addO {a : Addr} {k : Nat} (hk : k = 0) (h : (a.add k).spot = none) : a.spot = none := by
  subst hk
  obtain ⟨b, o, s⟩ := a
  cases s with
  | none => rfl
  | some s => unfold Addr.add at h; simp at h
/-- Things that lie at a place, each in so many cells. -/
def RowsAt {α : Type} (w : World) (z : Nat) (R : World → α → List Value → Prop) (ao : Option Addr) (l : List α) : Prop :=
  l = [] ∨ ∃ b off, ao = some ⟨b, off, none⟩ ∧ ∀ j (h : j < l.length), ∃ xs, R w l[j] xs ∧ xs.length = z ∧ xs ≠ [] ∧ ∀ i u, xs[i]? = some u → w.cell? ⟨b, off + j * z + i, none⟩ = some u
theorem list4 {xs : List Value} (h : xs.length = 4) : ∃ x0 x1 x2 x3, xs = [x0, x1, x2, x3] := by
  match xs, h with
  | [x0, x1, x2, x3], _ => exact ⟨x0, x1, x2, x3, rfl⟩
theorem list5 {xs : List Value} (h : xs.length = 5) : ∃ x0 x1 x2 x3 x4, xs = [x0, x1, x2, x3, x4] := by
  match xs, h with
  | [x0, x1, x2, x3, x4], _ => exact ⟨x0, x1, x2, x3, x4, rfl⟩
theorem list7 {xs : List Value} (h : xs.length = 7) : ∃ x0 x1 x2 x3 x4 x5 x6, xs = [x0, x1, x2, x3, x4, x5, x6] := by
  match xs, h with
  | [x0, x1, x2, x3, x4, x5, x6], _ => exact ⟨x0, x1, x2, x3, x4, x5, x6, rfl⟩
theorem cz3 : Tryz.prog.cellsOf 3 = 1 := by kernel_rfl
theorem cz4 : Tryz.prog.cellsOf 4 = 1 := by kernel_rfl
theorem cz9 : Tryz.prog.cellsOf 9 = 1 := by kernel_rfl
theorem cz24 : Tryz.prog.cellsOf 24 = 1 := by kernel_rfl
theorem cz26 : Tryz.prog.cellsOf 26 = 2 := by kernel_rfl
theorem cz27 : Tryz.prog.cellsOf 27 = 1 := by kernel_rfl
theorem cz28 : Tryz.prog.cellsOf 28 = 1 := by kernel_rfl
theorem cz30 : Tryz.prog.cellsOf 30 = 7 := by kernel_rfl
theorem cz32 : Tryz.prog.cellsOf 32 = 9 := by kernel_rfl
theorem cz39 : Tryz.prog.cellsOf 39 = 2 := by kernel_rfl
theorem cz41 : Tryz.prog.cellsOf 41 = 4 := by kernel_rfl
theorem cz43 : Tryz.prog.cellsOf 43 = 7 := by kernel_rfl
theorem cz45 : Tryz.prog.cellsOf 45 = 13 := by kernel_rfl
theorem cz62 : Tryz.prog.cellsOf 62 = 1 := by kernel_rfl
theorem cz64 : Tryz.prog.cellsOf 64 = 2 := by kernel_rfl
theorem cz104 : Tryz.prog.cellsOf 104 = 5 := by kernel_rfl
def U32 (n : Int) : Prop := 0 ≤ n ∧ n ≤ 4294967295
section
variable {H : Type} {enc : TypeId × Value → H} {W : World} {fuel : Nat} {v : Value} {cs : List Value} {x : DataW H × List MemPlace}
/-- A slice whose things are opened by E. -/
theorem rows_open {α : Type} {t T z : Nat} {R : World → α → List Value → Prop} (ht : Tryz.prog.underlying t = some (.slice T)) (hz : Tryz.prog.cellsOf T = z) (hz0 : 0 < z)
    (E : ∀ (fuel : Nat) (cs : List Value) (x : DataW H × List MemPlace), DataW.trod enc Tryz.prog W 0 (fun _ => true) true fuel T cs = some x → ∃ a, R W a cs)
    (hx : DataW.trod enc Tryz.prog W 0 (fun _ => true) true fuel t [v] = some x) : ∃ (l : List α) (ao : Option Addr) (c : Nat), v = .slice ao l.length c ∧ (ao = none → c = 0) ∧ l.length ≤ c ∧ RowsAt W z R ao l := by
  rcases open_slice ht hx with ⟨hcs, _⟩ | ⟨a, len, cap, m, n, D, Pl, hcs, _, hl, hm, hmm, hxe, hall⟩
  · simp only [List.cons.injEq, and_true] at hcs
    exact ⟨[], none, 0, hcs, fun _ => rfl, Nat.le_refl _, .inl rfl⟩
  · simp only [List.cons.injEq, and_true] at hcs
    subst hcs
    have hmc : m = cap := by rw [hmm]; rfl
    by_cases h0 : len = 0
    · subst h0
      exact ⟨[], some a, cap, rfl, fun h => (by cases h), Nat.zero_le _, .inl rfl⟩
    have each : ∀ i, i < len → ∃ y cs', R W y cs' ∧ cs'.length = z ∧ ∀ j, j < z → W.cell? ((a.add (i * z)).add j) = cs'[j]? := by
      intro i hi
      obtain ⟨cs', h1, h2⟩ := hall i (by omega)
      rw [hz] at h1
      obtain ⟨_, hlen, hcell⟩ := World.cells?_some h1
      obtain ⟨y, hy⟩ := E _ _ _ h2
      exact ⟨y, cs', hy, hlen, hcell⟩
    have hsp : a.spot = none := by
      obtain ⟨y, cs', _, hlen, hcell⟩ := each 0 (by omega)
      have h1 := hcell 0 hz0
      rw [List.getElem?_eq_getElem (by omega)] at h1
      exact spot_addO (Nat.zero_mul z) (spot_addO rfl (spotO h1))
    obtain ⟨b, off, sp⟩ := a
    subst hsp
    obtain ⟨y0, _⟩ := each 0 (by omega)
    have key : ∀ i, ∃ y : α, i < len → ∃ cs', R W y cs' ∧ cs'.length = z ∧ ∀ j, j < z → W.cell? (((⟨b, off, none⟩ : Addr).add (i * z)).add j) = cs'[j]? := by
      intro i
      by_cases hi : i < len
      · obtain ⟨y, h⟩ := each i hi
        exact ⟨y, fun _ => h⟩
      · exact ⟨y0, fun h => absurd h hi⟩
    obtain ⟨f, hf⟩ : ∃ f : Nat → α, ∀ i, i < len → ∃ cs', R W (f i) cs' ∧ cs'.length = z ∧ ∀ j, j < z → W.cell? (((⟨b, off, none⟩ : Addr).add (i * z)).add j) = cs'[j]? := ⟨fun i => (key i).choose, fun i => (key i).choose_spec⟩
    refine ⟨(List.range len).map f, some ⟨b, off, none⟩, cap, by simp, fun h => (by cases h), by simpa using hl, .inr ⟨b, off, rfl, fun j hj => ?_⟩⟩
    simp only [List.getElem_map, List.getElem_range]
    obtain ⟨cs', h1, h2, h3⟩ := hf j (by simpa using hj)
    refine ⟨cs', h1, h2, fun h => ?_, fun i u hu => ?_⟩
    · rw [h] at h2
      simp at h2
      omega
    · have hi : i < z := by rw [← h2]; exact (List.getElem?_eq_some_iff.1 hu).1
      have h4 := h3 i hi
      rw [add_plainO, add_plainO, hu] at h4
      exact h4
theorem int_open (h : DataW.trod enc Tryz.prog W 0 (fun _ => true) true fuel 3 [v] = some x) : ∃ a : Int, v = .int .i64 a := by
  obtain ⟨a, e0, _, _⟩ := DataW.trod_int Tryz.underlying3 h
  simp only [List.cons.injEq, and_true] at e0
  exact ⟨a, e0⟩
theorem u32_open (h : DataW.trod enc Tryz.prog W 0 (fun _ => true) true fuel 24 [v] = some x) : ∃ a : Int, v = .int .u32 a ∧ U32 a := by
  obtain ⟨a, e0, _, wa⟩ := DataW.trod_int Tryz.underlying24 h
  simp only [List.cons.injEq, and_true] at e0
  exact ⟨a, e0, bounds_u32 wa⟩
theorem bool_open (h : DataW.trod enc Tryz.prog W 0 (fun _ => true) true fuel 4 [v] = some x) : ∃ a : Bool, v = .bool a := by
  obtain ⟨a, e0, _⟩ := DataW.trod_bool Tryz.underlying4 h
  simp only [List.cons.injEq, and_true] at e0
  exact ⟨a, e0⟩
theorem str_open (h : DataW.trod enc Tryz.prog W 0 (fun _ => true) true fuel 9 [v] = some x) : ∃ a : ByteArray, v = .string a := by
  obtain ⟨a, e0, _⟩ := DataW.trod_string Tryz.underlying9 h
  simp only [List.cons.injEq, and_true] at e0
  exact ⟨a, e0⟩
theorem ints_open (h : DataW.trod enc Tryz.prog W 0 (fun _ => true) true fuel 27 [v] = some x) : ∃ (l : List Int) (ao : Option Addr) (c : Nat), v = .slice ao l.length c ∧ Cm.Co.nilW ao c ∧ l.length ≤ c ∧ Is.slot W ao l := by
  obtain ⟨l, ao, c, hv, hn, hc, hr⟩ := rows_open (R := fun _ (n : Int) xs => xs = [.int .i64 n]) Tryz.underlying27 cz3 (by decide) (fun f cs x h => by
    obtain ⟨a, e0, _, _⟩ := DataW.trod_int Tryz.underlying3 h
    exact ⟨a, e0⟩) h
  refine ⟨l, ao, c, hv, hn, hc, ?_⟩
  rcases hr with h | ⟨b, off, h, hr⟩
  · exact .inl h
  · refine .inr ⟨b, off, h, fun j hj => ?_⟩
    obtain ⟨xs, rfl, _, _, hcell⟩ := hr j hj
    simpa using hcell 0 _ rfl
theorem pr_open (h : DataW.trod enc Tryz.prog W 0 (fun _ => true) true fuel 39 cs = some x) : ∃ a : Int × Int, cs = [.int .i64 a.1, .int .i64 a.2] := by
  obtain ⟨xs, n, _, _, hl, hlen, hf⟩ := DataW.trod_struct Tryz.underlying39 h
  match xs, hlen with
  | [y0, y1], _ =>
    obtain ⟨c0, c1, rfl⟩ := list2 (hl.trans cz39)
    obtain ⟨a0, rfl⟩ := int_open (x := y0) (by simpa [cz3] using hf 0 _ rfl)
    obtain ⟨a1, rfl⟩ := int_open (x := y1) (by simpa [cz3] using hf 1 _ rfl)
    exact ⟨(a0, a1), rfl⟩
theorem cells_two (l : List Cm.Co.C) (j : Nat) (u : Value) (h : (Cm.Co.cells l)[j]? = some u) : ∃ hj : j / 2 < l.length, u = (if j % 2 = 0 then Value.int .i64 l[j / 2].1 else Value.int .i64 l[j / 2].2) := by
  have hj : j < l.length * 2 := by have := (List.getElem?_eq_some_iff.1 h).1; rwa [Cm.Co.cells_length] at this
  have hn : j / 2 < l.length := by omega
  refine ⟨hn, ?_⟩
  have hc := Cm.Co.cells_get l (j / 2) hn
  by_cases hm : j % 2 = 0
  · rw [if_pos hm]
    rw [show j / 2 * 2 = j by omega, h] at hc
    exact Option.some.inj hc.1
  · rw [if_neg hm]
    rw [show j / 2 * 2 + 1 = j by omega, h] at hc
    exact Option.some.inj hc.2
theorem comms_open (h : DataW.trod enc Tryz.prog W 0 (fun _ => true) true fuel 28 [v] = some x) : ∃ (l : List Cm.Co.C) (ao : Option Addr) (c : Nat), v = .slice ao l.length c ∧ Cm.Co.nilW ao c ∧ l.length ≤ c ∧ Cm.Co.slot W ao l := by
  obtain ⟨l, ao, c, hv, hn, hc, hr⟩ := rows_open (R := fun _ (a : Int × Int) xs => xs = [.int .i64 a.1, .int .i64 a.2]) Tryz.underlying28 cz39 (by decide) (fun f cs x h => pr_open h) h
  refine ⟨l, ao, c, hv, hn, hc, ?_⟩
  rcases hr with h | ⟨b, off, h, hr⟩
  · exact .inl h
  · refine .inr ⟨b, off, h, fun j u hu => ?_⟩
    obtain ⟨hj, rfl⟩ := cells_two l j u hu
    obtain ⟨xs, rfl, _, _, hcell⟩ := hr (j / 2) hj
    by_cases hm2 : j % 2 = 0
    · rw [if_pos hm2, show off + j = off + j / 2 * 2 + 0 by omega]
      exact hcell 0 _ rfl
    · rw [if_neg hm2, show off + j = off + j / 2 * 2 + 1 by omega]
      exact hcell 1 _ rfl
theorem px_open (h : DataW.trod enc Tryz.prog W 0 (fun _ => true) true fuel 26 cs = some x) : ∃ a b : Int, cs = [.int .u32 a, .int .i64 b] ∧ U32 a := by
  obtain ⟨xs, n, _, _, hl, hlen, hf⟩ := DataW.trod_struct Tryz.underlying26 h
  match xs, hlen with
  | [y0, y1], _ =>
    obtain ⟨c0, c1, rfl⟩ := list2 (hl.trans cz26)
    obtain ⟨a0, rfl, hu⟩ := u32_open (x := y0) (by simpa [cz24] using hf 0 _ rfl)
    obtain ⟨a1, rfl⟩ := int_open (x := y1) (by simpa [cz3] using hf 1 _ rfl)
    exact ⟨a0, a1, rfl, hu⟩
theorem rg_open (h : DataW.trod enc Tryz.prog W 0 (fun _ => true) true fuel 104 cs = some x) : ∃ a : Pl.Ad.R, cs = Pl.Ad.encR a ∧ U32 a.1 := by
  obtain ⟨xs, n, _, _, hl, hlen, hf⟩ := DataW.trod_struct Tryz.underlying104 h
  match xs, hlen with
  | [y0, y1, y2, y3], _ =>
    obtain ⟨c0, c1, c2, c3, c4, rfl⟩ := list5 (hl.trans cz104)
    obtain ⟨p, q, hp, hu⟩ := px_open (x := y0) (by simpa [cz26] using hf 0 _ rfl)
    obtain ⟨a2, rfl⟩ := int_open (x := y1) (by simpa [cz3] using hf 1 _ rfl)
    obtain ⟨a3, rfl⟩ := int_open (x := y2) (by simpa [cz3] using hf 2 _ rfl)
    obtain ⟨a4, rfl⟩ := bool_open (x := y3) (by simpa [cz4] using hf 3 _ rfl)
    simp only [List.cons.injEq, and_true] at hp
    obtain ⟨rfl, rfl⟩ := hp
    exact ⟨(p, q, a2, a3, a4), rfl, hu⟩
theorem rules_open (h : DataW.trod enc Tryz.prog W 0 (fun _ => true) true fuel 62 [v] = some x) : ∃ (l : List Pl.Ad.R) (ao : Option Addr) (c : Nat), v = .slice ao l.length c ∧ Pl.Ad.slotR W ao l ∧ Pl.Ad.fitsR l := by
  obtain ⟨l, ao, c, hv, hn, hc, hr⟩ := rows_open (R := fun _ (a : Pl.Ad.R) xs => xs = Pl.Ad.encR a ∧ U32 a.1) Tryz.underlying62 cz104 (by decide) (fun f cs x h => rg_open h) h
  rcases hr with rfl | ⟨b, off, h, hr⟩
  · exact ⟨[], ao, c, hv, .inl rfl, fun x hx => absurd hx List.not_mem_nil⟩
  · refine ⟨l, ao, c, hv, .inr ⟨b, off, h, fun j u hu => ?_⟩, fun a ha => ?_⟩
    · have hj : j < l.length * 5 := by have := (List.getElem?_eq_some_iff.1 hu).1; rwa [Pl.Ad.cellsR_length] at this
      have hj5 : j / 5 < l.length := by omega
      have e := Pl.Ad.cellsR_get l (j / 5) (j % 5) hj5 (by omega)
      rw [show j / 5 * 5 + j % 5 = j by omega, hu] at e
      obtain ⟨xs, ⟨rfl, _⟩, _, _, hcell⟩ := hr (j / 5) hj5
      have := hcell (j % 5) u e.symm
      rwa [show off + j / 5 * 5 + j % 5 = off + j by omega] at this
    · obtain ⟨j, hj, rfl⟩ := List.getElem_of_mem ha
      obtain ⟨xs, ⟨_, hu⟩, _⟩ := hr j hj
      exact hu
theorem ll_open (h : DataW.trod enc Tryz.prog W 0 (fun _ => true) true fuel 64 cs = some x) : ∃ a, LlR W a cs := by
  obtain ⟨xs, n, _, _, hl, hlen, hf⟩ := DataW.trod_struct Tryz.underlying64 h
  match xs, hlen with
  | [y0, y1], _ =>
    obtain ⟨c0, c1, rfl⟩ := list2 (hl.trans cz64)
    obtain ⟨a0, rfl⟩ := str_open (x := y0) (by simpa [cz9] using hf 0 _ rfl)
    obtain ⟨l, ao, c, rfl, hs, hfit⟩ := rules_open (x := y1) (by simpa [cz62] using hf 1 _ rfl)
    exact ⟨⟨a0, l⟩, ao, c, rfl, hs, hfit⟩
theorem mt_open (h : DataW.trod enc Tryz.prog W 0 (fun _ => true) true fuel 41 cs = some x) : ∃ (a b : ByteArray) (c d : Int), cs = [.string a, .string b, .int .i64 c, .int .i64 d] := by
  obtain ⟨xs, n, _, _, hl, hlen, hf⟩ := DataW.trod_struct Tryz.underlying41 h
  match xs, hlen with
  | [y0, y1, y2], _ =>
    obtain ⟨c0, c1, c2, c3, rfl⟩ := list4 (hl.trans cz41)
    obtain ⟨a0, rfl⟩ := str_open (x := y0) (by simpa [cz9] using hf 0 _ rfl)
    obtain ⟨a1, rfl⟩ := str_open (x := y1) (by simpa [cz9] using hf 1 _ rfl)
    obtain ⟨p, hp⟩ := pr_open (x := y2) (by simpa [cz39] using hf 2 _ rfl)
    simp only [List.cons.injEq, and_true] at hp
    obtain ⟨rfl, rfl⟩ := hp
    exact ⟨a0, a1, p.1, p.2, rfl⟩
theorem se_open (h : DataW.trod enc Tryz.prog W 0 (fun _ => true) true fuel 43 cs = some x) : ∃ (s : St) (ao dl pr : Option Addr) (ca cd cr : Nat), cs = [.int .i64 s.pf, .int .i64 s.md, .int .i64 s.og, .slice ao s.add.length ca, .slice dl s.del.length cd, .bool s.clr, .slice pr s.pre.length cr] ∧ St.lies W s ao dl pr ∧ St.came ao dl pr ca cd cr := by
  obtain ⟨xs, n, _, _, hl, hlen, hf⟩ := DataW.trod_struct Tryz.underlying43 h
  match xs, hlen with
  | [y0, y1, y2, y3, y4, y5, y6], _ =>
    obtain ⟨c0, c1, c2, c3, c4, c5, c6, rfl⟩ := list7 (hl.trans cz43)
    obtain ⟨a0, rfl⟩ := int_open (x := y0) (by simpa [cz3] using hf 0 _ rfl)
    obtain ⟨a1, rfl⟩ := int_open (x := y1) (by simpa [cz3] using hf 1 _ rfl)
    obtain ⟨a2, rfl⟩ := int_open (x := y2) (by simpa [cz3] using hf 2 _ rfl)
    obtain ⟨la, ao, ca, rfl, na, _, sa⟩ := comms_open (x := y3) (by simpa [cz28] using hf 3 _ rfl)
    obtain ⟨ld, dl, cd, rfl, nd, _, sd⟩ := comms_open (x := y4) (by simpa [cz28] using hf 4 _ rfl)
    obtain ⟨a5, rfl⟩ := bool_open (x := y5) (by simpa [cz4] using hf 5 _ rfl)
    obtain ⟨lp, pr, cr, rfl, np, _, sp⟩ := ints_open (x := y6) (by simpa [cz27] using hf 6 _ rfl)
    exact ⟨⟨a0, a1, a2, la, ld, a5, lp⟩, ao, dl, pr, ca, cd, cr, rfl, ⟨sa, sd, sp⟩, na, nd, np⟩
theorem kl_open (h : DataW.trod enc Tryz.prog W 0 (fun _ => true) true fuel 45 cs = some x) : ∃ a, KlR W a cs := by
  obtain ⟨xs, n, _, _, hl, hlen, hf⟩ := DataW.trod_struct Tryz.underlying45 h
  match xs, hlen with
  | [y0, y1, y2, y3], _ =>
    obtain ⟨c0, c1, c2, c3, c4, c5, c6, c7, c8, c9, c10, c11, c12, rfl⟩ := list13 (hl.trans cz45)
    obtain ⟨a0, rfl⟩ := int_open (x := y0) (by simpa [cz3] using hf 0 _ rfl)
    obtain ⟨a1, rfl⟩ := bool_open (x := y1) (by simpa [cz4] using hf 1 _ rfl)
    obtain ⟨ma, mb, mc, md, hm⟩ := mt_open (x := y2) (by simpa [cz41] using hf 2 _ rfl)
    obtain ⟨s, ao, dl, pr, ca, cd, cr, hs, h1, h2⟩ := se_open (x := y3) (by simpa [cz43] using hf 3 _ rfl)
    simp only [List.cons.injEq, and_true] at hm hs
    obtain ⟨rfl, rfl, rfl, rfl⟩ := hm
    obtain ⟨rfl, rfl, rfl, rfl, rfl, rfl, rfl⟩ := hs
    exact ⟨⟨a0, a1, ma, mb, mc, md, s⟩, ao, dl, pr, ca, cd, cr, rfl, h1, h2⟩
end
theorem rd_of {α : Type} {W : World} {z : Nat} {R : World → α → List Value → Prop} {l : List α} {ao : Option Addr} {c : Nat} {v : Value} (hv : v = .slice ao l.length c) (h : RowsAt W z R ao l) : Rd W z R v l := ⟨ao, c, hv, h⟩
/-- Clauses that came in. -/
theorem open_map {H : Type} {enc : TypeId × Value → H} {W : World} {v : Value} {d : DataW H} {p : List MemPlace} (hv : ∃ ao n c, v = .slice ao n c) (h : DataW.Trod enc Tryz.prog W 0 (fun _ => true) true 22 v d p) : ∃ m, Rd W 13 KlR v m := by
  obtain ⟨ao0, n0, c0, rfl⟩ := hv
  obtain ⟨fuel, hx⟩ := h
  obtain ⟨l, ao, c, hv, _, _, hr⟩ := rows_open (R := KlR) Tryz.underlying22 cz45 (by decide) (fun _ _ _ h => kl_open h) (by simpa [Value.cells] using hx)
  exact ⟨l, rd_of hv hr⟩
/-- Lists that came in. -/
theorem open_lists {H : Type} {enc : TypeId × Value → H} {W : World} {v : Value} {d : DataW H} {p : List MemPlace} (hv : ∃ ao n c, v = .slice ao n c) (h : DataW.Trod enc Tryz.prog W 0 (fun _ => true) true 23 v d p) : ∃ m, Rd W 2 LlR v m := by
  obtain ⟨ao0, n0, c0, rfl⟩ := hv
  obtain ⟨fuel, hx⟩ := h
  obtain ⟨l, ao, c, hv, _, _, hr⟩ := rows_open (R := LlR) Tryz.underlying23 cz64 (by decide) (fun _ _ _ h => ll_open h) (by simpa [Value.cells] using hx)
  exact ⟨l, rd_of hv hr⟩
set_option maxRecDepth 100000 in
theorem slice_of {W : World} {base t e : Nat} {v : Value} (ht : Tryz.prog.underlying t = some (.slice e)) (hv : Value.okWide Tryz.prog W .any base t v) : ∃ ao n c, v = .slice ao n c := by
  simp only [Value.okWide, ht, Cell.okWide, Cell.ok] at hv
  cases v <;> simp_all
theorem array9 {α : Type} {cs : Array α} (h : cs.size = 9) : ∃ c0 c1 c2 c3 c4 c5 c6 c7 c8, cs = #[c0, c1, c2, c3, c4, c5, c6, c7, c8] := by
  obtain ⟨l⟩ := cs
  match l, h with
  | [c0, c1, c2, c3, c4, c5, c6, c7, c8], _ => exact ⟨c0, c1, c2, c3, c4, c5, c6, c7, c8, rfl⟩
theorem types32 : Tryz.prog.cellTypes Tryz.prog.depth 32 = some [24, 3, 3, 3, 3, 27, 28, 3, 27] := by kernel_rfl
set_option maxRecDepth 100000 in
/-- A route that came in. -/
theorem open_route {H : Type} {enc : TypeId × Value → H} {W : World} {base : Nat} {v : Value} {d : DataW H} {p : List MemPlace}
    (hv : Value.okWide Tryz.prog W .any base 32 v) (h : DataW.Trod enc Tryz.prog W 0 (fun _ => true) true 32 v d p) :
    ∃ (pa pb : Int) (a : At) (po co ko : Option Addr) (cp cc ck : Nat), v = RtV pa pb a po co ko cp cc ck ∧ U32 pa ∧ At.lies W a po co ko ∧ At.came a po co ko cp cc ck := by
  simp only [Value.okWide, Tryz.underlying32] at hv
  obtain ⟨cs, rfl, hsz, ⟨ts, e, _, hc⟩⟩ := hv
  obtain ⟨c0, c1, c2, c3, c4, c5, c6, c7, c8, rfl⟩ := array9 (hsz.trans cz32)
  rw [types32] at e
  obtain rfl := Option.some.inj e
  obtain ⟨u5, x5, y5⟩ := hc 5 c5 rfl
  obtain ⟨u6, x6, y6⟩ := hc 6 c6 rfl
  obtain ⟨u8, x8, y8⟩ := hc 8 c8 rfl
  obtain rfl : 27 = u5 := Option.some.inj x5
  obtain rfl : 28 = u6 := Option.some.inj x6
  obtain rfl : 27 = u8 := Option.some.inj x8
  obtain ⟨fuel, hx⟩ := h
  obtain ⟨xs, n, _, _, _, hlen, hf⟩ := DataW.trod_struct Tryz.underlying32 (by simpa [Value.cells] using hx)
  match xs, hlen with
  | [z0, z1], _ =>
    obtain ⟨pa, pb, hp, hu⟩ := px_open (x := z0) (by simpa [cz26] using hf 0 _ rfl)
    have h1 := hf 1 _ rfl
    simp [cz30] at h1
    obtain ⟨ys, n2, _, _, _, hlen2, hf2⟩ := DataW.trod_struct Tryz.underlying30 h1
    simp only [List.cons.injEq, and_true] at hp
    obtain ⟨rfl, rfl⟩ := hp
    match ys, hlen2 with
    | [w0, w1, w2, w3, w4, w5, w6], _ =>
      obtain ⟨a0, rfl⟩ := int_open (x := w0) (by simpa [cz3] using hf2 0 _ rfl)
      obtain ⟨a1, rfl⟩ := int_open (x := w1) (by simpa [cz3] using hf2 1 _ rfl)
      obtain ⟨a2, rfl⟩ := int_open (x := w2) (by simpa [cz3] using hf2 2 _ rfl)
      obtain ⟨lp, po, cp, rfl, np, _, sp⟩ := ints_open (x := w3) (by simpa [cz27] using hf2 3 _ rfl)
      obtain ⟨lc, co, cc, rfl, nc, _, sc⟩ := comms_open (x := w4) (by simpa [cz28] using hf2 4 _ rfl)
      obtain ⟨a5, rfl⟩ := int_open (x := w5) (by simpa [cz3] using hf2 5 _ rfl)
      obtain ⟨lk, ko, ck, rfl, nk, lek, sk⟩ := ints_open (x := w6) (by simpa [cz27] using hf2 6 _ rfl)
      have g5 : ∀ ad, po = some ad → ad.spot = none := fun ad h => by
        subst h
        simp only [Tryz.underlying27, Cell.okWide, Cell.ok] at y5
        exact y5.2.2.2.1
      have g6 : ∀ ad, co = some ad → ad.spot = none := fun ad h => by
        subst h
        simp only [Tryz.underlying28, Cell.okWide, Cell.ok] at y6
        exact y6.2.2.2.1
      have g8 : ∀ ad, ko = some ad → ad.spot = none := fun ad h => by
        subst h
        simp only [Tryz.underlying27, Cell.okWide, Cell.ok] at y8
        exact y8.2.2.2.1
      exact ⟨pa, pb, ⟨a0, a1, a2, lp, lc, a5, lk⟩, po, co, ko, cp, cc, ck, rfl, hu, ⟨sp, sc, sk⟩, ⟨np, g5⟩, ⟨nc, g6⟩, ⟨nk, g8⟩, lek⟩
end Go.Proofs.YtngfoijmknclhaaGreatDoor
namespace Go.Proofs.YtngfoijmknclhaaGreatDoor
open Go.RowKit Go.Sort
/-- The library's table of powers of ten reads as it was laid. -/
def Tab (w : World) : Prop := Lib.TabIs Tryz.prog w "internal/strconv.uint64pow10" .u64 Lib.pow10Tab
end Go.Proofs.YtngfoijmknclhaaGreatDoor
namespace Go.Proofs.YtngfoijmknclhaaGreatDoor
open Go.ChangeShapes Go.WideShapes Go.ChangeAt Go.RowKit Go.Joins Go.Deep
theorem own : ownKnob Tryz.prog.godebug = none := by kernel_rfl
theorem range_of {W : World} {l : List (String × DataW Unit)} (D : DataW Unit) (hl : (l.filter fun x => x.1 == "strconv.ErrRange") = [("strconv.ErrRange", D)]) (hD : ∃ nm d, D = .iface nm d)
    (hH : laidMetH Tryz.prog [("strconv.ErrRange", D)] W → laidMet Tryz.prog [("strconv.ErrRange", D)] W) (h : laidMetH Tryz.prog l W) : ∃ ev, W.cell? ⟨7, 0, none⟩ = some ev ∧ (ev = .nilIface ∨ ∃ te pe, ev = .iface te pe) := by
  have h1 := h.filter fun x => x.1 == "strconv.ErrRange"
  rw [hl] at h1
  have h2 := hH h1
  obtain ⟨nm, d, rfl⟩ := hD
  obtain ⟨ps, ⟨g', t', cs, fuel, p, q, hg', ht', hvar, hd, _, _⟩, _⟩ := h2
  have hg : Tryz.prog.globalNamed "strconv.ErrRange" = some 7 := by kernel_rfl
  obtain rfl := Option.some.inj (hg.symm.trans hg')
  have hty : (Tryz.prog.globals[7]?).map (·.type) = some 165 := by kernel_rfl
  obtain rfl := Option.some.inj (hty.symm.trans ht')
  obtain ⟨f2, u, v, hcs, _, _⟩ := iface_of_trod Tryz.underlying165 hd
  refine ⟨.iface u v, ?_, .inr ⟨u, v, rfl⟩⟩
  have h0 : W.cell? ⟨7, 0, none⟩ = cs[0]? := by simpa using World.var?_cell hg hvar 0
  rw [h0, ← Array.getElem?_toList, hcs]
  rfl
/-- A row that lists variables, and whose proof asks the world's shape besides. -/
theorem returns_both {H : Type} {enc : TypeId × Value → H} {a : Assume} {C : Checked} {os : Os} {f : FuncId} {fn : Func} {s : ChangeSpec} {conds : List PathCond} {apart fresh handsOn again : Bool} {X : World → Array Value → Prop}
    (hX : ∀ (w w' : World) (args : Array Value), w.heap = w'.heap → X w args → X w' args)
    (own : ownKnob C.prog.godebug = none) (started : os.Started) (noInit : C.prog.inits.idxOf? f = none) (hfn : C.prog.funcs[f]? = some fn)
    (witness : ∃ (w : World) (tape : Tape) (i : Input), w.os = os ∧ (w.forCall tape i).Shaped C.prog ∧ i.vars = [] ∧ Input.okWide C.prog (w.forCall tape i) .any w.heap.size f i ∧
      ((s.pre enc C.prog fn conds apart (w.forCall tape i).memory i.args ∧ X (w.forCall tape i).memory i.args) ∧ sizedMet enc C.prog fn (OpenSpec.ofChange s) apart (w.forCall tape i).memory i.args) ∧ a.holds C.prog (lone (Frame.enter C.prog f i.args .normal) [] (w.forCall tape i)))
    (contract : ∀ (W : World) (base : Nat) (args : Array Value) (ds gs : List (DataW H)) (before : List MemPlace),
      (∀ (j : Nat) t v, fn.params[j]? = some t → args[j]? = some v → Value.okWide C.prog W .any base t v) →
      DataW.Whole enc C.prog fn.params.toList s.vars apart W args.toList ds gs before → X W args → W.ShapedOpen C.prog → (DataW.weightsEach C.prog (fn.params.toList ++ s.plain.varTypes C.prog) (ds ++ gs)).all (· ≤ reachBytes) = true →
      Calls C.prog f args W fun e W' => ∃ v, e = .returned v ∧ s.post enc C.prog fn apart fresh handsOn again W args v W') :
    ReturnsInHanded a C os f .any (fun w args => (s.pre enc C.prog fn conds apart w args ∧ X w args) ∧ sizedMet enc C.prog fn (OpenSpec.ofChange s) apart w args) (s.post enc C.prog fn apart fresh handsOn again) := by
  refine returnsInHanded_of_calls own started noInit witness ?_
  intro w tape i _ hsh _ hok hpre _
  obtain ⟨_, _, _, fn', hfn', _, _, _, _, hval⟩ := hok
  obtain rfl : fn' = fn := Option.some.inj (hfn'.symm.trans hfn)
  obtain ⟨⟨⟨ds, gs, before, hw, _⟩, hx⟩, hz⟩ := hpre
  refine (contract (w.forCall tape i) w.heap.size i.args ds gs before hval (DataW.Whole.of_heap (w' := w.forCall tape i) (by rfl) hw) (hX _ _ _ (by rfl) hx) hsh (hz.weights hw)).mono fun e W' ⟨v, he, hp⟩ => ?_
  subst he
  exact ChangeSpec.post_blind hp
/-- What the parser asks of package variables. -/
theorem laidOut : laidOutB Tryz.prog = true := by kernel_rfl
theorem tab_of {W : World} {l : List (String × DataW Unit)} (hl : (l.filter fun x => x.1 == "internal/strconv.uint64pow10") = [("internal/strconv.uint64pow10", Lib.tabData .u64 Lib.pow10Tab)]) (h : laidMetH Tryz.prog l W) : Tab W := by
  have h1 := h.filter fun x => x.1 == "internal/strconv.uint64pow10"
  rw [hl] at h1
  have h2 : laidMet Tryz.prog [("internal/strconv.uint64pow10", Lib.tabData .u64 Lib.pow10Tab)] W := h1
  exact Lib.tabIs_of_head (g := (Tryz.prog.globalNamed "internal/strconv.uint64pow10").getD 0) (t := 200) (e := 184) (n := 20) (by kernel_rfl) (by kernel_rfl) (by kernel_rfl) (by kernel_rfl) (by kernel_rfl) (by kernel_rfl) h2
theorem maxLen_of {W : World} (h : W.ShapedOpen Tryz.prog) : ∃ m, W.cell? ⟨1, 0, none⟩ = some (.int .i64 m) :=
  cell_of_shapedOpen_int (zero := #[.int .i64 0]) (t := 3) h (of_decide_eq_true (by kernel_rfl)) (by kernel_rfl) rfl (by kernel_rfl) (by kernel_rfl) Tryz.underlying3
end Go.Proofs.YtngfoijmknclhaaGreatDoor
