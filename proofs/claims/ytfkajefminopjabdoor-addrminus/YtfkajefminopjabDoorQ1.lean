/- slices.SortFunc by order, of a row of prefixes that the caller has made: a permutation of them that rises. -/
import Derived.Test.YtfkajefminopjabDoorG1
import Derived.Test.YtfkajefminopjabDoorJ1
import Derived.Test.YtfkajefminopjabDoorS2
namespace Go.Proofs.YtfkajefminopjabDoor
open Go.RowKit Go.Sort

/-- Prefixes that may be. -/
abbrev Ad.Ok : Type := { x : Int × Int // 0 ≤ x.1 ∧ x.1 ≤ 4294967295 ∧ Ad.may x.1 x.2 = true }
def Ad.encOk (x : Ad.Ok) : List Value := Ad.enc x.1
def Ad.cf (x y : Ad.Ok) : Int := Ad.order x.1.1 x.1.2 y.1.1 y.1.2

theorem Ad.before_ok (x y : Ad.Ok) : Ad.before x.1.1 x.1.2 y.1.1 y.1.2 = decide (x.1.1 < y.1.1 ∨ x.1.1 = y.1.1 ∧ x.1.2 < y.1.2) := by
  unfold Ad.before
  rw [x.2.2.2, y.2.2.2]
  by_cases h : x.1.1 = y.1.1
  · simp [h]
  · simp [h]

theorem Ad.lt_ok (x y : Ad.Ok) : ltOf Ad.cf x y = Ad.before x.1.1 x.1.2 y.1.1 y.1.2 := by
  unfold ltOf Ad.cf Ad.order
  by_cases h : x.1.1 = y.1.1 ∧ x.1.2 = y.1.2
  · rw [if_pos h, Ad.before_ok]
    have : ¬ (x.1.1 < y.1.1 ∨ x.1.1 = y.1.1 ∧ x.1.2 < y.1.2) := by omega
    simp [this]
  · rw [if_neg h]
    cases hb : Ad.before x.1.1 x.1.2 y.1.1 y.1.2 <;> simp

theorem Ad.swo : SWO (ltOf Ad.cf) where
  irrefl := fun x => by rw [Ad.lt_ok, Ad.before_ok]; simp
  trans := fun x y z h1 h2 => by
    rw [Ad.lt_ok, Ad.before_ok, decide_eq_true_eq] at *
    omega
  ntrans := fun x y z h1 h2 => by
    rw [Ad.lt_ok, Ad.before_ok, decide_eq_false_iff_not] at *
    omega

theorem Ad.ok0 : 0 ≤ ((0, 0) : Int × Int).1 ∧ ((0, 0) : Int × Int).1 ≤ 4294967295 ∧ Ad.may ((0, 0) : Int × Int).1 ((0, 0) : Int × Int).2 = true := by
  refine ⟨by decide, by decide, ?_⟩
  rw [Ad.may_iff]
  simp [Ad.cut]

variable [Inhabited Ad.Ok]

theorem Ad.flat_cells (d : Array Ad.Ok) (t : Nat) (h : t < d.size * 2) : (Ad.cells (d.toList.map Subtype.val))[t]? = some ((flatK Ad.encOk 2 d)[t]!) := by
  rw [get_flatK _ _ _ _ h]
  have hi : t / 2 < d.size := by omega
  have hg := Ad.cells_get (d.toList.map Subtype.val) (t / 2) (by simpa using hi)
  have e : (d.toList.map Subtype.val)[t / 2]'(by simpa using hi) = (d[t / 2]!).1 := by simp [hi]
  rw [e] at hg
  rcases Nat.mod_two_eq_zero_or_one t with h2 | h2
  · have et : t / 2 * 2 = t := by omega
    rw [et] at hg
    rw [hg.1, h2]
    rfl
  · have et : t / 2 * 2 + 1 = t := by omega
    rw [et] at hg
    rw [hg.2, h2]
    rfl

theorem Ad.reads_holds {w : World} {b off : Nat} {d : Array Ad.Ok} (h : HoldsK Ad.encOk 2 w b off d) : Ad.reads w b off (d.toList.map Subtype.val) := by
  intro j u hu
  have hj : j < d.size * 2 := by
    have := (List.getElem?_eq_some_iff.1 hu).1
    rw [Ad.cells_length] at this
    simpa using this
  rw [Ad.flat_cells d j hj] at hu
  obtain rfl := Option.some.inj hu
  exact (h j (by simpa using hj)).1

theorem Ad.holds_row {w : World} {B g cap : Nat} {d : Array Ad.Ok} (h : w.ownsRow B 25 2 (.slice (some ⟨g, 0, none⟩) d.size cap) d.size (Ad.cells (d.toList.map Subtype.val))) : HoldsK Ad.encOk 2 w g 0 d := by
  intro j hj
  have hj' : j < d.size * 2 := by simpa using hj
  rw [Nat.zero_add]
  exact ⟨(h.cellAt j hj').trans (Ad.flat_cells d j hj'), h.frozenAt j⟩

theorem cmp_lays (blk off size : Nat) (w : World) : CmpLays Tryd.prog 34 #[] Ad.encOk 2 Ad.cf blk off size w :=
  fun _ _ _ _ x y => order_grows x.1.1 x.1.2 y.1.1 y.1.2 _ x.2.1 x.2.2.1 y.2.1 y.2.2.1 x.2.2.2 y.2.2.2

theorem below_sortWorld (w : World) (B g n : Nat) (d : Array Ad.Ok) (os : Array Obj) (hB : B ≤ g) (hg : g < w.heap.size) : Below B w (sortWorldK Ad.encOk 2 w g 0 n d os) := by
  refine ⟨rfl, rfl, rfl, by simp [sortWorldK, putRowK], fun k hk => ?_⟩
  unfold sortWorldK
  rw [heap_grow_old _ _ (by simp [putRowK]; omega)]
  show ((Sort.ahead w n).heap.modify g _)[k]? = _
  rw [Array.getElem?_modify, if_neg (by omega)]
  rfl

/-- Of whatever many: what the sort leaves. -/
theorem sort_arr (B g cap : Nat) (d : Array Ad.Ok) (w : World) (hB : B ≤ g) (hg : g < w.heap.size) (hsz : d.size < 4611686018427387904)
    (hown : w.ownsRow B 25 2 (.slice (some ⟨g, 0, none⟩) d.size cap) d.size (Ad.cells (d.toList.map Subtype.val))) :
    Calls Tryd.prog 33 #[.slice (some ⟨g, 0, none⟩) d.size cap, .func (.func 34) #[] #[]] w fun e w' => e = .returned (.tuple #[]) ∧
      ∃ d' : Array Ad.Ok, d'.size = d.size ∧ d'.toList.Perm d.toList ∧ SortedIn (ltOf Ad.cf) 0 d.size d' ∧ Ad.reads w' g 0 (d'.toList.map Subtype.val) ∧ Below B w w' := by
  have eg : ∀ args w, (callFunc 34 args).run Tryd.prog w = .ok (.enter 34 args) w := enters_of Tryd.func34 (by kernel_rfl) rfl
  have hH := Ad.holds_row hown
  have hcon := AnyQ.slices_SortFunc Tryd.sortF 2 Tryd.isAgg25 Tryd.sizeOf25 Ad.encOk (fun _ => rfl) (fun x v hv => by simp [Ad.encOk, Ad.enc] at hv; rcases hv with rfl | rfl <;> rfl) Ad.cf Ad.swo 34 #[] g 0 cap d w eg (cmp_lays g 0 d.size w) hH hg hsz
  refine Calls.mono (show Calls Tryd.prog 33 _ _ _ from hcon) ?_
  rintro e w' ⟨he, d', n, os, hp, hs, rfl⟩
  refine ⟨he, d', hp.1, ?_, hs, ?_, below_sortWorld w B g n d' os hB hg⟩
  · have := hp.2.2
    rwa [show d.extract 0 d.size = d from by simp, show d'.extract 0 d.size = d' from by rw [← hp.1]; simp] at this
  · refine Ad.reads_holds ?_
    unfold sortWorldK
    exact holdsK_grow _ _ _ _ _ _ _ (by simp [putRowK]; exact hg) (holdsK_putRowK _ _ _ _ _ d d' (holdsK_ahead _ _ _ _ _ _ _ hH) hp.1)
end Go.Proofs.YtfkajefminopjabDoor
