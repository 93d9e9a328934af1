/- Rising lists; what a row sorted and made compact is; the contract of slices.SortFunc by order. -/
import Derived.Test.YtgebfgjeckdngaaDoorA6
import Derived.Test.YtgebfgjeckdngaaDoorS3
namespace Go.Proofs.YtgebfgjeckdngaaDoor
open Go.RowKit Go.Sort Go.Lib

theorem Co.bef_iff (x y : Co.C) : Co.bef x y = true ↔ x.1 < y.1 ∨ (x.1 = y.1 ∧ x.2 < y.2) := by simp [Co.bef]
theorem Co.bef_irr (x : Co.C) : Co.bef x x = false := by
  cases h : Co.bef x x
  · rfl
  · rw [Co.bef_iff] at h; omega
theorem Co.bef_trans {x y z : Co.C} (h1 : Co.bef x y = true) (h2 : Co.bef y z = true) : Co.bef x z = true := by
  rw [Co.bef_iff] at *; omega
theorem Co.bef_total {x y : Co.C} (h : Co.bef y x = false) : x = y ∨ Co.bef x y = true := by
  by_cases h1 : Co.bef x y = true
  · exact .inr h1
  · left
    have h2 : ¬ Co.bef y x = true := by rw [h]; decide
    rw [Co.bef_iff] at h1 h2
    exact Prod.ext (by omega) (by omega)
theorem Co.lt_ord : ltOf Co.ord = Co.bef := by
  funext x y
  rw [Co.bef_ord]
  rfl
theorem Co.swo : SWO (ltOf Co.ord) where
  irrefl := fun x => by rw [Co.lt_ord]; exact Co.bef_irr x
  trans := fun x y z h1 h2 => by rw [Co.lt_ord] at *; exact Co.bef_trans h1 h2
  ntrans := fun x y z h1 h2 => by
    rw [Co.lt_ord] at *
    cases h : Co.bef x z
    · rfl
    · rw [Co.bef_iff] at h
      have a : ¬ Co.bef x y = true := by rw [h1]; decide
      have b : ¬ Co.bef y z = true := by rw [h2]; decide
      rw [Co.bef_iff] at a b
      omega

/-- A list that rises. -/
def Co.rises (l : List Co.C) : Prop := l.Pairwise fun x y => Co.bef x y = true

theorem Co.rises_eq : ∀ (x y : List Co.C), Co.rises x → Co.rises y → (∀ c, c ∈ x ↔ c ∈ y) → x = y
  | [], [], _, _, _ => rfl
  | [], b :: ys, _, _, h => absurd ((h b).2 (by simp)) (by simp)
  | a :: xs, [], _, _, h => absurd ((h a).1 (by simp)) (by simp)
  | a :: xs, b :: ys, hx, hy, h => by
    obtain ⟨ha, hx'⟩ := List.pairwise_cons.1 hx
    obtain ⟨hb, hy'⟩ := List.pairwise_cons.1 hy
    have e : a = b := by
      rcases List.mem_cons.1 ((h a).1 (by simp)) with h1 | h1
      · exact h1
      · rcases List.mem_cons.1 ((h b).2 (by simp)) with h2 | h2
        · exact h2.symm
        · have := Co.bef_trans (hb a h1) (ha b h2)
          rw [Co.bef_irr] at this; cases this
    subst e
    have : xs = ys := Co.rises_eq xs ys hx' hy' fun c => by
      constructor
      · intro hc
        rcases List.mem_cons.1 ((h c).1 (by simp [hc])) with h1 | h1
        · subst h1
          have := ha c hc
          rw [Co.bef_irr] at this; cases this
        · exact h1
      · intro hc
        rcases List.mem_cons.1 ((h c).2 (by simp [hc])) with h1 | h1
        · subst h1
          have := hb c hc
          rw [Co.bef_irr] at this; cases this
        · exact h1
    rw [this]

theorem Co.comp_mem (d : Array Co.C) (c : Co.C) : c ∈ compactUpTo d d.size ↔ c ∈ d.toList := by
  constructor
  · intro h
    simp only [compactUpTo, List.mem_map, List.mem_filter, List.mem_range] at h
    obtain ⟨i, ⟨hi, _⟩, rfl⟩ := h
    rw [getElem!_pos d i hi]
    simp
  · intro h
    have key : ∀ i, i < d.size → d[i]! ∈ compactUpTo d d.size := by
      intro i
      induction i with
      | zero =>
        intro h0
        simp only [compactUpTo, List.mem_map, List.mem_filter, List.mem_range]
        exact ⟨0, ⟨h0, keeps_lt_one d 0 (by decide)⟩, rfl⟩
      | succ i ih =>
        intro h1
        by_cases e : d[i + 1]! = d[i]!
        · rw [e]
          exact ih (by omega)
        · simp only [compactUpTo, List.mem_map, List.mem_filter, List.mem_range]
          exact ⟨i + 1, ⟨h1, keeps_pos (by simpa using e)⟩, rfl⟩
    obtain ⟨i, hi, rfl⟩ := List.getElem_of_mem h
    have hi' : i < d.size := by simpa using hi
    have := key i hi'
    rw [getElem!_pos d i hi'] at this
    simpa using this

theorem Co.comp_rises (d : Array Co.C) (hs : ∀ i j, i < j → j < d.size → Co.bef d[j]! d[i]! = false) : Co.rises (compactUpTo d d.size) := by
  unfold Co.rises compactUpTo
  rw [List.pairwise_map]
  have h1 : ((List.range d.size).filter (keeps d)).Pairwise (fun i j => i < j ∧ (j < d.size ∧ keeps d j = true)) := by
    have h2 : ((List.range d.size).filter (keeps d)).Pairwise (· < ·) := (List.pairwise_lt_range).filter _
    refine h2.imp_of_mem ?_
    intro i j _ hj hij
    rw [List.mem_filter, List.mem_range] at hj
    exact ⟨hij, hj⟩
  refine h1.imp ?_
  rintro i j ⟨hij, hj, hk⟩
  obtain ⟨k, rfl⟩ : ∃ k, j = k + 1 := ⟨j - 1, by omega⟩
  have hne : d[k + 1]! ≠ d[k]! := by
    intro e
    rw [keeps_neg (by omega) (by simpa using e)] at hk
    cases hk
  have hlt : Co.bef d[k]! d[k + 1]! = true := by
    rcases Co.bef_total (hs k (k + 1) (by omega) hj) with e | e
    · exact absurd e.symm hne
    · exact e
  rcases Nat.lt_or_ge i k with h | h
  · rcases Co.bef_total (hs i k h (by omega)) with e | e
    · rw [e]; exact hlt
    · exact Co.bef_trans e hlt
  · obtain rfl : i = k := by omega
    exact hlt

theorem Co.holds_K {w : World} {g : Nat} {d : Array Co.C} (h : HoldsK Co.enc 2 w g 0 d) : Co.holds w g d := by
  intro i hi
  have a := h (i * 2) (by simp; omega)
  have b := h (i * 2 + 1) (by simp; omega)
  rw [get_flatK _ _ _ _ (by omega)] at a b
  rw [show i * 2 / 2 = i by omega, show i * 2 % 2 = 0 by omega, Nat.zero_add] at a
  rw [show (i * 2 + 1) / 2 = i by omega, show (i * 2 + 1) % 2 = 1 by omega, Nat.zero_add] at b
  exact ⟨a.1, b.1, a.2, b.2⟩

theorem Co.flat_cells (d : Array Co.C) (t : Nat) (h : t < d.size * 2) : (Co.cells d.toList)[t]? = some ((flatK Co.enc 2 d)[t]!) := by
  rw [get_flatK _ _ _ _ h]
  have hi : t / 2 < d.size := by omega
  have hg := Co.cells_get d.toList (t / 2) (by simpa using hi)
  have e : d.toList[t / 2]'(by simpa using hi) = d[t / 2]! := by simp [hi]
  rw [e] at hg
  rcases Nat.mod_two_eq_zero_or_one t with h2 | h2
  · have et : t / 2 * 2 = t := by omega
    rw [et] at hg
    rw [hg.1, h2]
    rfl
  · have et : t / 2 * 2 + 1 = t := by omega
    rw [et] at hg
    rw [hg.2, h2]
    rfl
theorem Co.K_row {w : World} {B g cap : Nat} {d : Array Co.C} (h : w.ownsRow B 23 2 (.slice (some ⟨g, 0, none⟩) d.size cap) d.size (Co.cells d.toList)) : HoldsK Co.enc 2 w g 0 d := by
  intro j hj
  have hj' : j < d.size * 2 := by simpa using hj
  rw [Nat.zero_add]
  exact ⟨(h.cellAt j hj').trans (Co.flat_cells d j hj'), h.frozenAt j⟩

theorem cmp_lays (blk off size : Nat) (w : World) : CmpLays Tryd.prog 41 #[] Co.enc 2 Co.ord blk off size w :=
  fun _ _ _ _ x y => order_any x.1 x.2 y.1 y.2 _ rfl _

theorem below_sortWorld (w : World) (B g n : Nat) (d : Array Co.C) (os : Array Obj) (hB : B ≤ g) (hg : g < w.heap.size) : Below B w (sortWorldK Co.enc 2 w g 0 n d os) := by
  refine ⟨rfl, rfl, rfl, by simp [sortWorldK, putRowK], fun k hk => ?_⟩
  unfold sortWorldK
  rw [heap_grow_old _ _ (by simp [putRowK]; omega)]
  show ((Sort.ahead w n).heap.modify g _)[k]? = _
  rw [Array.getElem?_modify, if_neg (by omega)]
  rfl

theorem sort_arr (B g cap : Nat) (d : Array Co.C) (w : World) (hB : B ≤ g) (hg : g < w.heap.size) (hsz : d.size ≤ 1000000)
    (hown : w.ownsRow B 23 2 (.slice (some ⟨g, 0, none⟩) d.size cap) d.size (Co.cells d.toList)) :
    Calls Tryd.prog 49 #[.slice (some ⟨g, 0, none⟩) d.size cap, .func (.func 41) #[] #[]] w fun e w' => e = .returned (.tuple #[]) ∧
      ∃ d' : Array Co.C, d'.size = d.size ∧ d'.toList.Perm d.toList ∧ (∀ i j, i < j → j < d'.size → Co.bef d'[j]! d'[i]! = false) ∧ Co.holds w' g d' ∧ Below B w w' := by
  have eg : ∀ args w, (callFunc 41 args).run Tryd.prog w = .ok (.enter 41 args) w := enters_of Tryd.func41 (by kernel_rfl) rfl
  have hH := Co.K_row hown
  have hcon := AnyQ.slices_SortFunc Tryd.sortF 2 Tryd.isAgg23 Tryd.sizeOf23 Co.enc (fun _ => rfl) (fun x v hv => by simp [Co.enc] at hv; rcases hv with rfl | rfl <;> rfl) Co.ord Co.swo 41 #[] g 0 cap d w eg (cmp_lays g 0 d.size w) hH hg (by omega)
  refine Calls.mono (show Calls Tryd.prog 49 _ _ _ from hcon) ?_
  rintro e w' ⟨he, d', n, os, hp, hs, rfl⟩
  refine ⟨he, d', hp.1, ?_, ?_, ?_, below_sortWorld w B g n d' os hB hg⟩
  · have := hp.2.2
    rwa [show d.extract 0 d.size = d from by simp, show d'.extract 0 d.size = d' from by rw [← hp.1]; simp] at this
  · intro i j hij hj
    have := hs i j (Nat.zero_le _) hij (by rw [← hp.1]; exact hj)
    rwa [Co.lt_ord] at this
  · refine Co.holds_K ?_
    unfold sortWorldK
    exact holdsK_grow _ _ _ _ _ _ _ (by simp [putRowK]; exact hg) (holdsK_putRowK _ _ _ _ _ d d' (holdsK_ahead _ _ _ _ _ _ _ hH) hp.1)

theorem sort_none (p : Option Addr) (cap : Nat) (fv : Value) (w : World) : Calls Tryd.prog 49 #[.slice p 0 cap, fv] w fun e w' => e = .returned (.tuple #[]) ∧ w' = w :=
  show Calls Tryd.prog 49 _ _ _ from AnyF.slices_SortFunc_none Tryd.sortF p cap fv w
end Go.Proofs.YtgebfgjeckdngaaDoor
