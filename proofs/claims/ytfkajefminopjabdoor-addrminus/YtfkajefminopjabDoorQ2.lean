/- slices.SortFunc by order, and slices.Clone, of lists of prefixes. -/
import Derived.Test.YtfkajefminopjabDoorQ1
namespace Go.Proofs.YtfkajefminopjabDoor
open Go.RowKit Go.Sort

/-- A list that rises, or stays. -/
def Ad.rises (l : List (Int × Int)) : Prop := ∀ i j (hi : i < l.length) (hj : j < l.length), i < j → Ad.before l[j].1 l[j].2 l[i].1 l[i].2 = false

theorem sort_row (B g cap : Nat) (l : List (Int × Int)) (w : World) (hgood : Ad.good l) (hB : B ≤ g) (hg : g < w.heap.size) (hsz : l.length < 4611686018427387904)
    (hown : w.ownsRow B 25 2 (.slice (some ⟨g, 0, none⟩) l.length cap) l.length (Ad.cells l)) :
    Calls Tryd.prog 33 #[.slice (some ⟨g, 0, none⟩) l.length cap, .func (.func 34) #[] #[]] w fun e w' => e = .returned (.tuple #[]) ∧
      ∃ l' : List (Int × Int), l'.Perm l ∧ Ad.rises l' ∧ Ad.reads w' g 0 l' ∧ Below B w w' := by
  have inh : Inhabited Ad.Ok := ⟨⟨(0, 0), Ad.ok0⟩⟩
  have hv : (l.attachWith _ hgood).map Subtype.val = l := List.attachWith_map_subtype_val hgood
  generalize l.attachWith _ hgood = dl at hv
  subst hv
  have hl : (dl.map Subtype.val).length = dl.toArray.size := by simp
  have hd : dl.map Subtype.val = dl.toArray.toList.map Subtype.val := by simp
  rw [hl] at hown hsz ⊢
  rw [hd] at hown
  refine (sort_arr B g cap dl.toArray w hB hg hsz hown).mono ?_
  rintro e w' ⟨he, d', hs, hp, hsort, hr, hb⟩
  refine ⟨he, d'.toList.map Subtype.val, ?_, ?_, hr, hb⟩
  · rw [hd]; exact hp.map _
  · intro i j hi hj hij
    have hj' : j < d'.size := by simpa using hj
    have hi' : i < d'.size := by simpa using hi
    have := hsort i j (Nat.zero_le _) hij (by omega)
    rw [Ad.lt_ok] at this
    simpa [hi', hj'] using this

theorem infoPrefix : (Tryd.prog.info? 25).map (fun i => (i.zero, i.size, i.bytes)) = some (some (.agg #[.int .u32 0, .int .i64 0]), 2, 16) := by kernel_rfl

theorem Ad.cells_one (l : List (Int × Int)) : ∀ u ∈ Ad.cells l, u.oneCell' = true := by
  intro u hu
  simp only [Ad.cells, List.mem_flatMap] at hu
  obtain ⟨x, _, hx⟩ := hu
  simp [Ad.enc] at hx
  rcases hx with rfl | rfl <;> rfl

theorem clone_row (b off c : Nat) (l : List (Int × Int)) (w : World) (hR : Ad.reads w b off l) (hlen : l.length ≤ 1000000) :
    Calls Tryd.prog 32 #[.slice (some ⟨b, off, none⟩) l.length c] w fun e w' => ∃ g cap, e = .returned (.slice (some ⟨g, 0, none⟩) l.length cap) ∧ w'.ownsRow w.heap.size 25 2 (.slice (some ⟨g, 0, none⟩) l.length cap) l.length (Ad.cells l) ∧ Below w.heap.size w w' := by
  obtain ⟨i0, hi, hz0, hz1, hz2⟩ := info_parts infoPrefix
  have hcon := AnyE.slices_Clone Tryd.clone i0 (.agg #[.int .u32 0, .int .i64 0]) 2 16 hi hz0 hz1 hz2 rfl (by decide) Tryd.sizeOf25 b off l.length c (Ad.cells l) w (Ad.cells_length l) (by unfold maxLen; omega) (by omega) hR (Ad.cells_one l)
  refine Calls.mono (show Calls Tryd.prog 32 _ _ _ from hcon) ?_
  rintro e w' ⟨v', rfl, hown, hne, hb⟩
  have hown' : w'.ownsRow w.heap.size 25 2 v' l.length (Ad.cells l) := hown
  obtain ⟨g, cap, rfl⟩ : ∃ g cap, v' = .slice (some ⟨g, 0, none⟩) l.length cap := by
    rcases hown'.2 with ⟨hv, _⟩ | ⟨g, cap, cur, hv, _⟩
    · exact absurd hv hne
    · exact ⟨g, cap, hv⟩
  exact ⟨g, cap, rfl, hown', hb⟩

theorem clone_nil (n c : Nat) (w : World) : Calls Tryd.prog 32 #[.slice none n c] w fun e w' => e = .returned (.slice none 0 0) ∧ w' = w :=
  show Calls Tryd.prog 32 _ _ _ from AnyE.slices_Clone_nil Tryd.clone n c w

theorem sort_none (p : Option Addr) (cap : Nat) (fv : Value) (w : World) : Calls Tryd.prog 33 #[.slice p 0 cap, fv] w fun e w' => e = .returned (.tuple #[]) ∧ w' = w :=
  show Calls Tryd.prog 33 _ _ _ from AnyF.slices_SortFunc_none Tryd.sortF p cap fv w
end Go.Proofs.YtfkajefminopjabDoor
