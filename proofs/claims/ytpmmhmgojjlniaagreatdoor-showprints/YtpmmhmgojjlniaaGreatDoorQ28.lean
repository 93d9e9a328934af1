/- A configuration that came in, opened. -/
import Derived.Test.YtpmmhmgojjlniaaGreatDoorQ01
import Derived.ProofKit
import Derived.OpenShut
import Derived.Lib.SmallJoins
import Derived.Deep.SlicePairs
import Derived.SizedLaws
namespace Go.Proofs.YtpmmhmgojjlniaaGreatDoor
open Go.ChangeShapes Go.WideShapes Go.ChangeAt Go.RowKit Go.Joins Go.Deep
theorem add_plainO (b o k : Nat) : (⟨b, o, none⟩ : Addr).add k = ⟨b, o + k, none⟩ := by unfold Addr.add; split <;> simp_all
theorem spotO {w : World} {a : Addr} {v : Value} (h : w.cell? a = some v) : a.spot = none := by
  unfold World.cell? at h
  split at h
  · split at h
    · cases h
    · rename_i hs
      simpa using hs
  · cases h
theorem spot_addO {a : Addr} {k : Nat} (hk : k = 0) (h : (a.add k).spot = none) : a.spot = none := by
  subst hk
  obtain ⟨b, o, s⟩ := a
  cases s with
  | none => rfl
  | some s => unfold Addr.add at h; simp at h
theorem rd_split {α : Type} {w : World} {z : Nat} {R : World → α → List Value → Prop} {v : Value} {l : List α} {G : α → Prop} (h : Rd w z (fun w a x => R w a x ∧ G a) v l) : Rd w z R v l ∧ ∀ a ∈ l, G a := by
  obtain ⟨ao, c, hv, hc, h⟩ := h
  rcases h with rfl | ⟨b, off, h, hr⟩
  · exact ⟨⟨ao, c, hv, hc, .inl rfl⟩, by simp⟩
  · refine ⟨⟨ao, c, hv, hc, .inr ⟨b, off, h, fun j hj => ?_⟩⟩, fun a ha => ?_⟩
    · obtain ⟨xs, ⟨h1, _⟩, h2, h3⟩ := hr j hj
      exact ⟨xs, h1, h2, h3⟩
    · obtain ⟨j, hj, rfl⟩ := List.getElem_of_mem ha
      obtain ⟨xs, ⟨_, h1⟩, _⟩ := hr j hj
      exact h1
theorem list3 {xs : List Value} (h : xs.length = 3) : ∃ x0 x1 x2, xs = [x0, x1, x2] := by
  match xs, h with
  | [x0, x1, x2], _ => exact ⟨x0, x1, x2, rfl⟩
theorem list5 {xs : List Value} (h : xs.length = 5) : ∃ x0 x1 x2 x3 x4, xs = [x0, x1, x2, x3, x4] := by
  match xs, h with
  | [x0, x1, x2, x3, x4], _ => exact ⟨x0, x1, x2, x3, x4, rfl⟩
theorem cz3 : Tryz.prog.cellsOf 3 = 1 := by kernel_rfl
theorem cz4 : Tryz.prog.cellsOf 4 = 1 := by kernel_rfl
theorem cz9 : Tryz.prog.cellsOf 9 = 1 := by kernel_rfl
theorem cz22 : Tryz.prog.cellsOf 22 = 1 := by kernel_rfl
theorem cz23 : Tryz.prog.cellsOf 23 = 1 := by kernel_rfl
theorem cz24 : Tryz.prog.cellsOf 24 = 1 := by kernel_rfl
theorem cz26 : Tryz.prog.cellsOf 26 = 3 := by kernel_rfl
theorem cz46 : Tryz.prog.cellsOf 46 = 1 := by kernel_rfl
theorem cz48 : Tryz.prog.cellsOf 48 = 2 := by kernel_rfl
theorem cz49 : Tryz.prog.cellsOf 49 = 1 := by kernel_rfl
theorem cz51 : Tryz.prog.cellsOf 51 = 2 := by kernel_rfl
theorem cz53 : Tryz.prog.cellsOf 53 = 2 := by kernel_rfl
theorem cz55 : Tryz.prog.cellsOf 55 = 4 := by kernel_rfl
theorem cz56 : Tryz.prog.cellsOf 56 = 1 := by kernel_rfl
theorem cz57 : Tryz.prog.cellsOf 57 = 1 := by kernel_rfl
theorem cz59 : Tryz.prog.cellsOf 59 = 7 := by kernel_rfl
theorem cz61 : Tryz.prog.cellsOf 61 = 13 := by kernel_rfl
theorem cz62 : Tryz.prog.cellsOf 62 = 1 := by kernel_rfl
theorem cz63 : Tryz.prog.cellsOf 63 = 1 := by kernel_rfl
theorem cz64 : Tryz.prog.cellsOf 64 = 1 := by kernel_rfl
theorem cz66 : Tryz.prog.cellsOf 66 = 6 := by kernel_rfl
theorem cz68 : Tryz.prog.cellsOf 68 = 4 := by kernel_rfl
theorem cz70 : Tryz.prog.cellsOf 70 = 2 := by kernel_rfl
theorem cz93 : Tryz.prog.cellsOf 93 = 1 := by kernel_rfl
theorem cz95 : Tryz.prog.cellsOf 95 = 2 := by kernel_rfl
theorem cz97 : Tryz.prog.cellsOf 97 = 5 := by kernel_rfl
def U32 (n : Int) : Prop := 0 ≤ n ∧ n ≤ 4294967295
section
variable {H : Type} {enc : TypeId × Value → H} {W : World} {fuel : Nat} {v : Value} {cs : List Value} {x : DataW H × List MemPlace}
/-- A slice whose things are opened by E. -/
theorem rd_openW {α : Type} {t T z : Nat} {R : World → α → List Value → Prop} (Pd : DataW H → Prop) (ht : Tryz.prog.underlying t = some (.slice T)) (hz : Tryz.prog.cellsOf T = z) (hz0 : 0 < z)
    (E : ∀ (fuel : Nat) (cs : List Value) (x : DataW H × List MemPlace), DataW.trod enc Tryz.prog W 0 (fun _ => true) true fuel T cs = some x → Pd x.1 → ∃ a, R W a cs)
    (hx : DataW.trod enc Tryz.prog W 0 (fun _ => true) true fuel t [v] = some x) (hP : ∀ elems spare, x.1 = .slice elems spare → ∀ d ∈ elems, Pd d) : ∃ l, Rd W z R v l := by
  rcases open_slice ht hx with ⟨hcs, _⟩ | ⟨a, len, cap, m, n, D, Pl, hcs, _, hl, hm, hmm, hxe, hall⟩
  · simp only [List.cons.injEq, and_true] at hcs
    exact ⟨[], none, 0, hcs, Nat.le_refl _, .inl rfl⟩
  · simp only [List.cons.injEq, and_true] at hcs
    subst hcs
    have hmc : m = cap := by rw [hmm]; rfl
    by_cases h0 : len = 0
    · subst h0
      exact ⟨[], some a, cap, rfl, Nat.zero_le _, .inl rfl⟩
    have each : ∀ i, i < len → ∃ y cs', R W y cs' ∧ cs'.length = z ∧ ∀ j, j < z → W.cell? ((a.add (i * z)).add j) = cs'[j]? := by
      intro i hi
      obtain ⟨cs', h1, h2⟩ := hall i (by omega)
      rw [hz] at h1
      obtain ⟨_, hlen, hcell⟩ := World.cells?_some h1
      obtain ⟨y, hy⟩ := E _ _ _ h2 (hP _ _ (by rw [hxe]) _ (List.mem_map.2 ⟨i, List.mem_range.2 hi, rfl⟩))
      exact ⟨y, cs', hy, hlen, hcell⟩
    have hsp : a.spot = none := by
      obtain ⟨y, cs', _, hlen, hcell⟩ := each 0 (by omega)
      have h1 := hcell 0 hz0
      rw [List.getElem?_eq_getElem (by omega)] at h1
      exact spot_addO (Nat.zero_mul z) (spot_addO rfl (spotO h1))
    obtain ⟨b, off, sp⟩ := a
    subst hsp
    obtain ⟨y0, _⟩ := each 0 (by omega)
    have key : ∀ i, ∃ y : α, i < len → ∃ cs', R W y cs' ∧ cs'.length = z ∧ ∀ j, j < z → W.cell? (((⟨b, off, none⟩ : Addr).add (i * z)).add j) = cs'[j]? := by
      intro i
      by_cases hi : i < len
      · obtain ⟨y, h⟩ := each i hi
        exact ⟨y, fun _ => h⟩
      · exact ⟨y0, fun h => absurd h hi⟩
    obtain ⟨f, hf⟩ : ∃ f : Nat → α, ∀ i, i < len → ∃ cs', R W (f i) cs' ∧ cs'.length = z ∧ ∀ j, j < z → W.cell? (((⟨b, off, none⟩ : Addr).add (i * z)).add j) = cs'[j]? := ⟨fun i => (key i).choose, fun i => (key i).choose_spec⟩
    refine ⟨(List.range len).map f, some ⟨b, off, none⟩, cap, by simp, by simpa using hl, .inr ⟨b, off, rfl, fun j hj => ?_⟩⟩
    simp only [List.getElem_map, List.getElem_range]
    obtain ⟨cs', h1, h2, h3⟩ := hf j (by simpa using hj)
    refine ⟨cs', h1, fun h => ?_, fun i u hu => ?_⟩
    · rw [h] at h2
      simp at h2
      omega
    · have hi : i < z := by rw [← h2]; exact (List.getElem?_eq_some_iff.1 hu).1
      have h4 := h3 i hi
      rw [add_plainO, add_plainO, hu] at h4
      exact h4
theorem rd_open {α : Type} {t T z : Nat} {R : World → α → List Value → Prop} (ht : Tryz.prog.underlying t = some (.slice T)) (hz : Tryz.prog.cellsOf T = z) (hz0 : 0 < z)
    (E : ∀ (fuel : Nat) (cs : List Value) (x : DataW H × List MemPlace), DataW.trod enc Tryz.prog W 0 (fun _ => true) true fuel T cs = some x → ∃ a, R W a cs)
    (hx : DataW.trod enc Tryz.prog W 0 (fun _ => true) true fuel t [v] = some x) : ∃ l, Rd W z R v l := rd_openW (fun _ => True) ht hz hz0 (fun _ _ _ h _ => E _ _ _ h) hx (fun _ _ _ _ _ => trivial)
/-- All parts fit into an address space. -/
def Fit (T : TypeId) (d : DataW H) : Prop := ∀ n ∈ d.weights Tryz.prog T, n ≤ reachBytes
set_option maxRecDepth 100000 in
theorem fit_slice {t T : TypeId} {d : DataW H} (ht : Tryz.prog.underlying t = some (.slice T)) (h : Fit t d) : ∀ elems spare, d = .slice elems spare → ∀ y ∈ elems, Fit T y := by
  rintro elems spare rfl y hy n hn
  refine h n ?_
  simp only [DataW.weights, ht]
  refine List.mem_cons_of_mem _ (List.mem_append_left _ ?_)
  clear h
  induction elems with
  | nil => cases hy
  | cons a l ih =>
    simp only [DataW.weightsAll, List.mem_append]
    rcases List.mem_cons.1 hy with rfl | hy
    · exact .inl hn
    · exact .inr (ih hy)
set_option maxRecDepth 100000 in
theorem fit_struct {t : TypeId} {fs : Array Field} {xs : List (DataW H × List MemPlace)} {d : DataW H} (ht : Tryz.prog.underlying t = some (.struct fs)) (hd : d = .agg (xs.map (·.1))) (h : Fit t d) {i : Nat} {f : Field} {y : DataW H × List MemPlace} (hf : fs[i]? = some f) (hy : xs[i]? = some y) : Fit f.type y.1 := by
  subst hd
  intro n hn
  refine h n ?_
  simp only [DataW.weights, ht]
  exact DataW.weights_mem_each (j := i) (by simp [hf]) (by simp [hy]) n hn
theorem int_open (h : DataW.trod enc Tryz.prog W 0 (fun _ => true) true fuel 3 [v] = some x) : ∃ a : Int, v = .int .i64 a := by
  obtain ⟨a, e0, _, _⟩ := DataW.trod_int Tryz.underlying3 h
  simp only [List.cons.injEq, and_true] at e0
  exact ⟨a, e0⟩
theorem u32_open (h : DataW.trod enc Tryz.prog W 0 (fun _ => true) true fuel 93 [v] = some x) : ∃ a : Int, v = .int .u32 a ∧ U32 a := by
  obtain ⟨a, e0, _, wa⟩ := DataW.trod_int Tryz.underlying93 h
  simp only [List.cons.injEq, and_true] at e0
  exact ⟨a, e0, bounds_u32 wa⟩
theorem bool_open (h : DataW.trod enc Tryz.prog W 0 (fun _ => true) true fuel 4 [v] = some x) : ∃ a : Bool, v = .bool a := by
  obtain ⟨a, e0, _⟩ := DataW.trod_bool Tryz.underlying4 h
  simp only [List.cons.injEq, and_true] at e0
  exact ⟨a, e0⟩
theorem str_open (h : DataW.trod enc Tryz.prog W 0 (fun _ => true) true fuel 9 [v] = some x) : ∃ a : ByteArray, v = .string a := by
  obtain ⟨a, e0, _⟩ := DataW.trod_string Tryz.underlying9 h
  simp only [List.cons.injEq, and_true] at e0
  exact ⟨a, e0⟩
theorem inR_open (h : DataW.trod enc Tryz.prog W 0 (fun _ => true) true fuel 3 cs = some x) : ∃ a : Int, InR W a cs := by
  obtain ⟨a, e0, _, _⟩ := DataW.trod_int Tryz.underlying3 h
  exact ⟨a, e0⟩
theorem pr_open (h : DataW.trod enc Tryz.prog W 0 (fun _ => true) true fuel 53 cs = some x) : ∃ a, PrR W a cs := by
  obtain ⟨xs, n, _, _, hl, hlen, hf⟩ := DataW.trod_struct Tryz.underlying53 h
  match xs, hlen with
  | [y0, y1], _ =>
    obtain ⟨c0, c1, rfl⟩ := list2 (hl.trans cz53)
    obtain ⟨a0, rfl⟩ := int_open (x := y0) (by simpa [cz3] using hf 0 _ rfl)
    obtain ⟨a1, rfl⟩ := int_open (x := y1) (by simpa [cz3] using hf 1 _ rfl)
    exact ⟨(a0, a1), rfl⟩
theorem px_open (h : DataW.trod enc Tryz.prog W 0 (fun _ => true) true fuel 95 cs = some x) : ∃ a, PxR W a cs ∧ U32 a.1 := by
  obtain ⟨xs, n, _, _, hl, hlen, hf⟩ := DataW.trod_struct Tryz.underlying95 h
  match xs, hlen with
  | [y0, y1], _ =>
    obtain ⟨c0, c1, rfl⟩ := list2 (hl.trans cz95)
    obtain ⟨a0, rfl, hu⟩ := u32_open (x := y0) (by simpa [cz93] using hf 0 _ rfl)
    obtain ⟨a1, rfl⟩ := int_open (x := y1) (by simpa [cz3] using hf 1 _ rfl)
    exact ⟨(a0, a1), rfl, hu⟩
theorem rg_open (h : DataW.trod enc Tryz.prog W 0 (fun _ => true) true fuel 97 cs = some x) : ∃ a, RgR W a cs ∧ U32 a.ad := by
  obtain ⟨xs, n, _, _, hl, hlen, hf⟩ := DataW.trod_struct Tryz.underlying97 h
  match xs, hlen with
  | [y0, y1, y2, y3], _ =>
    obtain ⟨c0, c1, c2, c3, c4, rfl⟩ := list5 (hl.trans cz97)
    obtain ⟨p, hp, hu⟩ := px_open (x := y0) (by simpa [cz95] using hf 0 _ rfl)
    obtain ⟨a2, rfl⟩ := int_open (x := y1) (by simpa [cz3] using hf 1 _ rfl)
    obtain ⟨a3, rfl⟩ := int_open (x := y2) (by simpa [cz3] using hf 2 _ rfl)
    obtain ⟨a4, rfl⟩ := bool_open (x := y3) (by simpa [cz4] using hf 3 _ rfl)
    unfold PxR at hp
    simp only [List.cons.injEq, and_true] at hp
    obtain ⟨rfl, rfl⟩ := hp
    exact ⟨⟨p.1, p.2, a2, a3, a4⟩, rfl, hu⟩
set_option maxRecDepth 100000 in
theorem strF_open (h : DataW.trod enc Tryz.prog W 0 (fun _ => true) true fuel 9 [v] = some x) (hw : Fit 9 x.1) : ∃ a : ByteArray, v = .string a ∧ a.size ≤ reachBytes := by
  obtain ⟨a, e0, e1, _⟩ := DataW.trod_string Tryz.underlying9 h
  simp only [List.cons.injEq, and_true] at e0
  refine ⟨a, e0, hw _ ?_⟩
  rw [e1]
  simp only [DataW.weights, List.mem_singleton, Array.length_toList]
  rfl
/-- What a neighbor names fits into an address space. -/
def NbFit (n : Nb) : Prop := n.name.size ≤ reachBytes ∧ n.imp.size ≤ reachBytes ∧ n.exp.size ≤ reachBytes
theorem nb_open (h : DataW.trod enc Tryz.prog W 0 (fun _ => true) true fuel 68 cs = some x) (hw : Fit 68 x.1) : ∃ a, NbR W a cs ∧ NbFit a := by
  obtain ⟨xs, n, _, hxe, hl, hlen, hf⟩ := DataW.trod_struct Tryz.underlying68 h
  have hF := fun {i f y} => fit_struct (i := i) (f := f) (y := y) (xs := xs) Tryz.underlying68 (by rw [hxe]) hw
  match xs, hlen with
  | [y0, y1, y2, y3], _ =>
    obtain ⟨c0, c1, c2, c3, rfl⟩ := list4 (hl.trans cz68)
    obtain ⟨a0, rfl, b0⟩ := strF_open (x := y0) (by simpa [cz9] using hf 0 _ rfl) (hF (i := 0) rfl rfl)
    obtain ⟨a1, rfl, b1⟩ := strF_open (x := y1) (by simpa [cz9] using hf 1 _ rfl) (hF (i := 1) rfl rfl)
    obtain ⟨a2, rfl, b2⟩ := strF_open (x := y2) (by simpa [cz9] using hf 2 _ rfl) (hF (i := 2) rfl rfl)
    obtain ⟨a3, rfl⟩ := bool_open (x := y3) (by simpa [cz4] using hf 3 _ rfl)
    exact ⟨⟨a0, a1, a2, a3⟩, rfl, b0, b1, b2⟩
theorem lk_open (h : DataW.trod enc Tryz.prog W 0 (fun _ => true) true fuel 70 cs = some x) : ∃ a, LkR W a cs := by
  obtain ⟨xs, n, _, _, hl, hlen, hf⟩ := DataW.trod_struct Tryz.underlying70 h
  match xs, hlen with
  | [y0, y1], _ =>
    obtain ⟨c0, c1, rfl⟩ := list2 (hl.trans cz70)
    obtain ⟨a0, rfl⟩ := str_open (x := y0) (by simpa [cz9] using hf 0 _ rfl)
    obtain ⟨a1, rfl⟩ := int_open (x := y1) (by simpa [cz3] using hf 1 _ rfl)
    exact ⟨⟨a0, a1⟩, rfl⟩
theorem ls_open (h : DataW.trod enc Tryz.prog W 0 (fun _ => true) true fuel 48 cs = some x) : ∃ a, LsR W a cs ∧ ∀ r ∈ a.rules, U32 r.ad := by
  obtain ⟨xs, n, _, _, hl, hlen, hf⟩ := DataW.trod_struct Tryz.underlying48 h
  match xs, hlen with
  | [y0, y1], _ =>
    obtain ⟨c0, c1, rfl⟩ := list2 (hl.trans cz48)
    obtain ⟨a0, rfl⟩ := str_open (x := y0) (by simpa [cz9] using hf 0 _ rfl)
    obtain ⟨l, hr⟩ := rd_open (x := y1) (R := fun w a x => RgR w a x ∧ U32 a.ad) Tryz.underlying46 cz97 (by decide) (fun _ _ _ h => rg_open h) (by simpa [cz46] using hf 1 _ rfl)
    obtain ⟨h1, h2⟩ := rd_split hr
    exact ⟨⟨a0, l⟩, ⟨c1, rfl, h1⟩, h2⟩
theorem mt_open (h : DataW.trod enc Tryz.prog W 0 (fun _ => true) true fuel 55 cs = some x) : ∃ m : Mt, cs = [.string m.list, .string m.path, .int .i64 m.ca, .int .i64 m.cn] := by
  obtain ⟨xs, n, _, _, hl, hlen, hf⟩ := DataW.trod_struct Tryz.underlying55 h
  match xs, hlen with
  | [y0, y1, y2], _ =>
    obtain ⟨c0, c1, c2, c3, rfl⟩ := list4 (hl.trans cz55)
    obtain ⟨a0, rfl⟩ := str_open (x := y0) (by simpa [cz9] using hf 0 _ rfl)
    obtain ⟨a1, rfl⟩ := str_open (x := y1) (by simpa [cz9] using hf 1 _ rfl)
    obtain ⟨p, hp⟩ := pr_open (x := y2) (by simpa [cz53] using hf 2 _ rfl)
    unfold PrR at hp
    simp only [List.cons.injEq, and_true] at hp
    obtain ⟨rfl, rfl⟩ := hp
    exact ⟨⟨a0, a1, p.1, p.2⟩, rfl⟩
theorem list7 {xs : List Value} (h : xs.length = 7) : ∃ x0 x1 x2 x3 x4 x5 x6, xs = [x0, x1, x2, x3, x4, x5, x6] := by
  match xs, h with
  | [x0, x1, x2, x3, x4, x5, x6], _ => exact ⟨x0, x1, x2, x3, x4, x5, x6, rfl⟩
theorem se_open (h : DataW.trod enc Tryz.prog W 0 (fun _ => true) true fuel 59 cs = some x) : ∃ (s : Se) (va vd vp : Value), cs = [.int .i64 s.pref, .int .i64 s.med, .int .i64 s.org, va, vd, .bool s.clr, vp] ∧ Rd W 2 PrR va s.add ∧ Rd W 2 PrR vd s.del ∧ Rd W 1 InR vp s.prep := by
  obtain ⟨xs, n, _, _, hl, hlen, hf⟩ := DataW.trod_struct Tryz.underlying59 h
  match xs, hlen with
  | [y0, y1, y2, y3, y4, y5, y6], _ =>
    obtain ⟨c0, c1, c2, c3, c4, c5, c6, rfl⟩ := list7 (hl.trans cz59)
    obtain ⟨a0, rfl⟩ := int_open (x := y0) (by simpa [cz3] using hf 0 _ rfl)
    obtain ⟨a1, rfl⟩ := int_open (x := y1) (by simpa [cz3] using hf 1 _ rfl)
    obtain ⟨a2, rfl⟩ := int_open (x := y2) (by simpa [cz3] using hf 2 _ rfl)
    obtain ⟨la, ha⟩ := rd_open (x := y3) (R := PrR) Tryz.underlying56 cz53 (by decide) (fun _ _ _ h => pr_open h) (by simpa [cz56] using hf 3 _ rfl)
    obtain ⟨ld, hd⟩ := rd_open (x := y4) (R := PrR) Tryz.underlying56 cz53 (by decide) (fun _ _ _ h => pr_open h) (by simpa [cz56] using hf 4 _ rfl)
    obtain ⟨a5, rfl⟩ := bool_open (x := y5) (by simpa [cz4] using hf 5 _ rfl)
    obtain ⟨lp, hp⟩ := rd_open (x := y6) (R := InR) Tryz.underlying57 cz3 (by decide) (fun _ _ _ h => inR_open h) (by simpa [cz57] using hf 6 _ rfl)
    exact ⟨⟨a0, a1, a2, la, ld, a5, lp⟩, c3, c4, c6, rfl, ha, hd, hp⟩
theorem cl_open (h : DataW.trod enc Tryz.prog W 0 (fun _ => true) true fuel 61 cs = some x) : ∃ a, ClR W a cs := by
  obtain ⟨xs, n, _, _, hl, hlen, hf⟩ := DataW.trod_struct Tryz.underlying61 h
  match xs, hlen with
  | [y0, y1, y2, y3], _ =>
    obtain ⟨c0, c1, c2, c3, c4, c5, c6, c7, c8, c9, c10, c11, c12, rfl⟩ := list13 (hl.trans cz61)
    obtain ⟨a0, rfl⟩ := int_open (x := y0) (by simpa [cz3] using hf 0 _ rfl)
    obtain ⟨a1, rfl⟩ := bool_open (x := y1) (by simpa [cz4] using hf 1 _ rfl)
    obtain ⟨m, hm⟩ := mt_open (x := y2) (by simpa [cz55] using hf 2 _ rfl)
    obtain ⟨s, va, vd, vp, hs, h1, h2, h3⟩ := se_open (x := y3) (by simpa [cz59] using hf 3 _ rfl)
    simp only [List.cons.injEq, and_true] at hm hs
    obtain ⟨rfl, rfl, rfl, rfl⟩ := hm
    obtain ⟨rfl, rfl, rfl, rfl, rfl, rfl, rfl⟩ := hs
    exact ⟨⟨a0, a1, m, s⟩, _, _, _, rfl, h1, h2, h3⟩
theorem mp_open (h : DataW.trod enc Tryz.prog W 0 (fun _ => true) true fuel 51 cs = some x) : ∃ a, MpR W a cs := by
  obtain ⟨xs, n, _, _, hl, hlen, hf⟩ := DataW.trod_struct Tryz.underlying51 h
  match xs, hlen with
  | [y0, y1], _ =>
    obtain ⟨c0, c1, rfl⟩ := list2 (hl.trans cz51)
    obtain ⟨a0, rfl⟩ := str_open (x := y0) (by simpa [cz9] using hf 0 _ rfl)
    obtain ⟨l, hr⟩ := rd_open (x := y1) (R := ClR) Tryz.underlying49 cz61 (by decide) (fun _ _ _ h => cl_open h) (by simpa [cz49] using hf 1 _ rfl)
    exact ⟨⟨a0, l⟩, c1, rfl, hr⟩
/-- Addresses of 32 bits, names that fit into an address space. -/
def RtFit (a : Rt) : Prop := (∀ p ∈ a.nets, U32 p.1) ∧ ∀ n ∈ a.nbs, NbFit n
theorem rt_open (h : DataW.trod enc Tryz.prog W 0 (fun _ => true) true fuel 66 cs = some x) (hw : Fit 66 x.1) : ∃ a, RtR W a cs ∧ RtFit a := by
  obtain ⟨xs, n, _, hxe, hl, hlen, hf⟩ := DataW.trod_struct Tryz.underlying66 h
  have hF := fun {i f y} => fit_struct (i := i) (f := f) (y := y) (xs := xs) Tryz.underlying66 (by rw [hxe]) hw
  match xs, hlen with
  | [y0, y1, y2, y3, y4, y5], _ =>
    obtain ⟨c0, c1, c2, c3, c4, c5, rfl⟩ := list6 (hl.trans cz66)
    obtain ⟨a0, rfl⟩ := str_open (x := y0) (by simpa [cz9] using hf 0 _ rfl)
    obtain ⟨a1, rfl⟩ := int_open (x := y1) (by simpa [cz3] using hf 1 _ rfl)
    obtain ⟨a2, rfl⟩ := int_open (x := y2) (by simpa [cz3] using hf 2 _ rfl)
    obtain ⟨l, hr⟩ := rd_open (x := y3) (R := fun w a x => PxR w a x ∧ U32 a.1) Tryz.underlying62 cz95 (by decide) (fun _ _ _ h => px_open h) (by simpa [cz62] using hf 3 _ rfl)
    obtain ⟨h1, h2⟩ := rd_split hr
    obtain ⟨lb, hb'⟩ := rd_openW (x := y4) (R := fun w a x => NbR w a x ∧ NbFit a) (Fit 68) Tryz.underlying63 cz68 (by decide) (fun _ _ _ h => nb_open h) (by simpa [cz63] using hf 4 _ rfl) (fit_slice Tryz.underlying63 (hF (i := 4) rfl rfl))
    obtain ⟨hb, hnb⟩ := rd_split hb'
    obtain ⟨ll, hk⟩ := rd_open (x := y5) (R := LkR) Tryz.underlying64 cz70 (by decide) (fun _ _ _ h => lk_open h) (by simpa [cz64] using hf 5 _ rfl)
    exact ⟨⟨a0, a1, a2, l, lb, ll⟩, ⟨c3, c4, c5, rfl, h1, hb, hk⟩, h2, hnb⟩
end
/-- Addresses are of 32 bits; what neighbors name fits into an address space. -/
def Wide (c : Cf) : Prop := (∀ a ∈ c.lists, ∀ r ∈ a.rules, U32 r.ad) ∧ ∀ a ∈ c.routers, RtFit a
set_option maxRecDepth 100000 in
/-- A configuration that came in. -/
theorem open_cfg {H : Type} {enc : TypeId × Value → H} {W : World} {base : Nat} {v : Value} {d : DataW H} {p : List MemPlace}
    (hv : Value.okWide Tryz.prog W .any base 26 v) (h : DataW.Trod enc Tryz.prog W 0 (fun _ => true) true 26 v d p) (hw : Fit 26 d) :
    ∃ (c : Cf) (v1 v2 v3 : Value), v = .agg #[v1, v2, v3] ∧ CfR W c v1 v2 v3 ∧ Wide c := by
  simp only [Value.okWide, Tryz.underlying26] at hv
  obtain ⟨cs, rfl, hsz, _⟩ := hv
  obtain ⟨cs⟩ := cs
  obtain ⟨fuel, hx⟩ := h
  obtain ⟨c0, c1, c2, rfl⟩ := list3 (show cs.length = 3 from hsz.trans cz26)
  obtain ⟨xs, n, _, hxe, hl, hlen, hf⟩ := DataW.trod_struct Tryz.underlying26 (by simpa [Value.cells] using hx)
  have hF := fun {i f y} => fit_struct (i := i) (f := f) (y := y) (xs := xs) Tryz.underlying26 (Prod.mk.inj hxe).1 hw
  match xs, hlen with
  | [y0, y1, y2], _ =>
    obtain ⟨l1, r1⟩ := rd_open (x := y0) (R := fun w a x => LsR w a x ∧ ∀ r ∈ a.rules, U32 r.ad) Tryz.underlying22 cz48 (by decide) (fun _ _ _ h => ls_open h) (by simpa [cz22] using hf 0 _ rfl)
    obtain ⟨l2, r2⟩ := rd_open (x := y1) (R := MpR) Tryz.underlying23 cz51 (by decide) (fun _ _ _ h => mp_open h) (by simpa [cz23] using hf 1 _ rfl)
    obtain ⟨l3, r3⟩ := rd_openW (x := y2) (R := fun w a x => RtR w a x ∧ RtFit a) (Fit 66) Tryz.underlying24 cz66 (by decide) (fun _ _ _ h => rt_open h) (by simpa [cz24] using hf 2 _ rfl) (fit_slice Tryz.underlying24 (hF (i := 2) rfl rfl))
    obtain ⟨h1, g1⟩ := rd_split r1
    obtain ⟨h3, g3⟩ := rd_split r3
    exact ⟨⟨l1, l2, l3⟩, c0, c1, c2, rfl, ⟨h1, r2, h3⟩, ⟨g1, g3⟩⟩
end Go.Proofs.YtpmmhmgojjlniaaGreatDoor
