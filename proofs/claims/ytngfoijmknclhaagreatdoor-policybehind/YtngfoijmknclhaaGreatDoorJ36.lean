/- The contracts of slices.Clone and slices.DeleteFunc at communities. -/
import Derived.Test.YtngfoijmknclhaaGreatDoorJ33
namespace Go.Proofs.YtngfoijmknclhaaGreatDoor.Cm
open Go.RowKit Go.Sort Go.Lib
theorem idx_from (p : Co.C → Bool) (x : Co.C) : ∀ (l : List Co.C) (i : Nat), (Lib.idxByFrom (fun _ y => p y) x l i = -1 ∧ ∀ y ∈ l, p y = false) ∨ ∃ k, ∃ hk : k < l.length, Lib.idxByFrom (fun _ y => p y) x l i = ((i + k : Nat) : Int) ∧ p l[k] = true ∧ ∀ y ∈ l.take k, p y = false
  | [], i => .inl ⟨rfl, fun y hy => by cases hy⟩
  | y :: r, i => by
    cases hp : p y
    · rcases idx_from p x r (i + 1) with ⟨h1, h2⟩ | ⟨k, hk, h1, h2, h3⟩
      · refine .inl ⟨by simp only [Lib.idxByFrom, hp]; exact h1, fun z hz => ?_⟩
        rcases List.mem_cons.1 hz with rfl | h
        · exact hp
        · exact h2 z h
      · refine .inr ⟨k + 1, by simpa using hk, ?_, by simpa using h2, fun z hz => ?_⟩
        · simp only [Lib.idxByFrom, hp]
          rw [show i + (k + 1) = i + 1 + k by omega]
          exact h1
        · rw [List.take_succ_cons] at hz
          rcases List.mem_cons.1 hz with rfl | h
          · exact hp
          · exact h3 z h
    · exact .inr ⟨0, by simp, by simp [Lib.idxByFrom, hp], by simpa using hp, fun z hz => by simp at hz⟩

theorem clone_is (ao : Option Addr) (ca : Nat) (l : List Co.C) (w : World) (hA : Co.slot w ao l) (hC : Co.came ao ca) (hlen : l.length ≤ 1000000) :
    Calls Tryz.prog 82 #[.slice ao l.length ca] w fun e w' => ∃ o c, e = .returned (.slice o l.length c) ∧ w'.ownsRow w.heap.size 39 2 (.slice o l.length c) l.length (Co.cells l) ∧ Below w.heap.size w w' := by
  cases ao with
  | none =>
    have hl : l = [] := by
      rcases hA with h | ⟨b, off, h, _⟩
      · exact h
      · cases h
    subst hl
    refine Calls.mono (show Calls Tryz.prog 82 _ _ _ from AnyE.slices_Clone_nil Tryz.clone 0 ca w) ?_
    rintro e w' ⟨rfl, rfl⟩
    exact ⟨none, 0, rfl, World.ownsRow_nil _ _ _ _, brefl _⟩
  | some ad =>
    obtain ⟨b, off, sp⟩ := ad
    obtain rfl : sp = none := hC.2 _ rfl
    have hR : Co.reads w b off l := by
      rcases hA with h | ⟨b', off', h, hr⟩
      · rw [h]; intro j u hu; simp [Co.cells] at hu
      · simp only [Option.some.injEq, Addr.mk.injEq, and_true] at h
        rw [h.1, h.2]; exact hr
    obtain ⟨i0, hi, hz0, hz1, hz2⟩ := info_partsC
    have hcon := AnyE.slices_Clone Tryz.clone i0 (.agg #[.int .i64 0, .int .i64 0]) 2 16 hi hz0 hz1 hz2 rfl (by decide) Tryz.sizeOf39 b off l.length ca (Co.cells l) w (Co.cells_length l) (by unfold maxLen; omega) (by omega) hR (Co.cells_one l)
    refine Calls.mono (show Calls Tryz.prog 82 _ _ _ from hcon) ?_
    rintro e w' ⟨v', rfl, hown, hne, hb⟩
    have hown' : w'.ownsRow w.heap.size 39 2 v' l.length (Co.cells l) := hown
    obtain ⟨o, c, rfl⟩ := row_slice hown'
    exact ⟨o, c, rfl, hown', hb⟩

theorem delF_none (p : Option Addr) (cap : Nat) (fv : Value) (w : World) : Calls Tryz.prog 168 #[.slice p 0 cap, fv] w fun e w' => e = .returned (.slice p 0 cap) ∧ w' = w := by
  go_enter Tryz.func168, Tryz.ntmps168
  go_wp2_with fail
  refine (idxF_none _ _ _ _).mono ?_
  rintro e w1 ⟨rfl, rfl⟩
  go_wp2_with fail
  go_ret
  exact ⟨rfl, rfl⟩

/-- What is asked of the closure: in every world in which all that lay below B lies. -/
def Asks (f : Nat) (lb : Array Value) (p : Co.C → Bool) (B : Nat) (w : World) : Prop :=
  ∀ (W : World) (x : Co.C), Below B w W → Calls Tryz.prog f (#[.agg #[.int .i64 x.1, .int .i64 x.2]] ++ lb) W fun e w' => e = .returned (.bool (p x)) ∧ Below W.heap.size W w'

theorem idxF_is (f : Nat) (lb : Array Value) (eg : ∀ args w, (callFunc f args).run Tryz.prog w = .ok (.enter f args) w) (p : Co.C → Bool) (B g cap : Nat) (d : Array Co.C) (w : World) (hp : Asks f lb p B w) (hh : Co.holds w g d) (hB : B ≤ w.heap.size) (hsz : d.size ≤ 1000000) (h0 : 0 < d.size) :
    Calls Tryz.prog 134 #[.slice (some ⟨g, 0, none⟩) d.size cap, .func (.func f) #[] lb] w fun e w' => ((e = .returned (.int .i64 (-1)) ∧ ∀ y ∈ d.toList, p y = false) ∨ ∃ k, ∃ hk : k < d.size, e = .returned (.int .i64 k) ∧ p d[k] = true ∧ ∀ y ∈ d.toList.take k, p y = false) ∧ Below w.heap.size w w' := by
  have hcon := AnyQ.slices_IndexFunc { Tryz.hasF with } 2 Tryz.isAgg39 Tryz.sizeOf39 Co.enc (fun _ => rfl) p f lb eg g 0 d.size cap d.toList w
    (fun W x hb => (hp W x (hb.mono hB)).mono fun _ _ ⟨h1, h2⟩ => ⟨h1, hb.trans (h2.mono hb.size)⟩) (by simp) (by omega) (block_lt_of_cell (hh 0 h0).1) (by
      have hr := Co.holds_reads hh d.size (Nat.le_refl _)
      have e : d.toList.take d.size = d.toList := List.take_of_length_le (by simp)
      rw [e] at hr
      exact Co.cells_at hr)
  refine Calls.mono (show Calls Tryz.prog 134 _ _ _ from hcon) ?_
  rintro e w' ⟨rfl, hb⟩
  refine ⟨?_, hb⟩
  have e : d.toList.take d.size = d.toList := List.take_of_length_le (by simp)
  rw [e]
  rcases idx_from p default d.toList 0 with ⟨h1, h2⟩ | ⟨k, hk, h1, h2, h3⟩
  · exact .inl ⟨by rw [Lib.idxBy, h1], h2⟩
  · exact .inr ⟨k, by simpa using hk, by rw [Lib.idxBy, h1, Nat.zero_add], by simpa using h2, h3⟩
end Go.Proofs.YtngfoijmknclhaaGreatDoor.Cm
