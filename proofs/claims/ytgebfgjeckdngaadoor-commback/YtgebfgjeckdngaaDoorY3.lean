/- The contracts of the document's with and Add. -/
import Derived.Test.YtgebfgjeckdngaaDoorY2
namespace Go.Proofs.YtgebfgjeckdngaaDoor
open Go.RowKit Go.Sort Go.Lib

set_option maxHeartbeats 4000000 in
set_option maxRecDepth 100000 in
theorem with_nil (c d : Int) (w : World) : Calls Tryd.prog 51 #[.slice none 0 0, .agg #[.int .i64 c, .int .i64 d]] w (WithGood w none [] (c, d)) := by
  have B0 := hide (balloc (brefl w) (.cells #[.int .i64 c, .int .i64 d] 23))
  have T0 := hide (two_new w c d 23)
  have HU : Hid (Co.uni [] [(c, d)] [(c, d)]) := ⟨by unfold Co.rises; simp, fun x => by simp⟩
  have CI := hide (fun W => refIn_is none 0 [] c d false rfl W (.inl rfl) (by decide))
  go_enter Tryd.func51, Tryd.ntmps51
  go_wp2_with fail
  generalize w.alloc (.cells #[.int .i64 c, .int .i64 d] 23) = W0 at *
  generalize w.heap.size = R at T0 ⊢
  refine (CI.out _).mono ?_
  rintro e w1 ⟨rfl, hb1⟩
  have T1 := hide (two_below hb1 T0.out)
  have B1 := hide (bthen B0.out hb1)
  clear hb1
  go_wp2_with fail
  go_loopw [6] (fun v wr => v = .int .i64 0 ∧ Below w1.heap.size w1 wr) (fun _ _ => 0)
  case atStart => exact ⟨rfl, brefl w1⟩
  case round =>
    obtain ⟨rfl, hbr⟩ := hrel
    have HBR := hide (bthen B1.out hbr)
    have T2 := hide (two_below hbr T1.out)
    clear hbr
    go_wp2_with fail
    refine wp_region_quiet_below (by kernel_rfl) (by kernel_rfl) ?_
    repeat (go_big_quiet_step (fail))
    refine wpQuiet_nil ?_
    rintro _ ⟨⟨dd, os⟩, rfl⟩
    have hb2 := below_regrown wr dd os
    generalize Sort.grow (redrawn wr dd) os = w2 at hb2
    have B2 := hide (bthen HBR.out hb2)
    have T3 := hide (two_below hb2 T2.out)
    have HZ : Hid (w.heap.size ≤ w2.heap.size) := B2.out.size
    clear hb2
    go_wp2_with (at_builtin; go_must (refine append_listN (w0 := w2) rfl _ _ rfl _ 0 [] rfl (World.ownsRow_nil _ _ _ _) none 0 0 [] rfl rfl (.inl rfl) ⟨fun _ => rfl, fun ad h => (by cases h)⟩ (by decide) (brefl w2) ?_))
    intro v3 w3 hn3 hb3
    obtain ⟨o3, c3, rfl⟩ := row_slice hn3
    have HN3 := hide hn3
    have T4 := hide (two_below hb3 T3.out)
    have B3 := hide hb3
    clear hn3 hb3
    obtain ⟨p0, p1, p2, p3⟩ := T4.out
    go_wp2_with (at_builtin; go_must (refine append_listN (w0 := w2) rfl _ _ rfl _ 0 [] rfl (HN3.out.alloc _) (some ⟨w3.heap.size, 0, none⟩) 1 1 [(c, d)] rfl rfl (Co.slot_one _ _ _ _ (two_new w3 c d 23)) (came_some _ _ _) (by decide) (balloc B3.out _) ?_))
    intro v4 w4 hn4 hb4
    obtain ⟨o4, c4, rfl⟩ := row_slice hn4
    have HN4 := hide hn4
    have B4 := hide hb4
    clear hn4 hb4 p0 p1 p2 p3
    go_wp2_with (at_builtin; go_must (refine append_listN (w0 := w2) rfl _ _ rfl _ 1 [(c, d)] rfl HN4.out none 0 0 [] rfl rfl (.inl rfl) ⟨fun _ => rfl, fun ad h => (by cases h)⟩ (by decide) B4.out ?_))
    intro v5 w5 hn5 hb5
    obtain ⟨o5, c5, rfl⟩ := row_slice hn5
    have HN5 := hide hn5
    have B5 := hide (bthen B2.out hb5)
    clear hn5 hb5
    go_wp2_with fail
    exact bodyPost_ret (v := .slice o5 1 c5) (by simp [results, Tryd.results51, go_sem]) rfl ⟨o5, c5, [(c, d)], rfl, HU.out, Co.sl_own HN5.out, .inr (fun ad had => Nat.le_trans HZ.out (own_blk HN5.out ad had)), by simp, B5.out⟩

theorem refWith_is (ao : Option Addr) (ca : Nat) (l : List Co.C) (c d : Int) (w : World) (hs : Co.sl w ao ca l) (hr : Co.rises l) (hlen : l.length ≤ 1000) :
    Calls Tryd.prog 51 #[.slice ao l.length ca, .agg #[.int .i64 c, .int .i64 d]] w (WithGood w ao l (c, d)) := by
  cases hi : Co.inL l (c, d)
  · cases ao with
    | none =>
      have hl : l = [] := by
        rcases hs.1 with h | ⟨b, off, h, _⟩
        · exact h
        · cases h
      subst hl
      have hc : ca = 0 := hs.2.1.1 rfl
      subst hc
      exact with_nil c d w
    | some ad =>
      obtain ⟨b, off, sp⟩ := ad
      obtain rfl : sp = none := hs.2.1.2 _ rfl
      exact with_new b off ca l c d w hs hr hlen hi
  · exact with_in ao ca l c d w hs hr hlen hi

/-- What the document's Add hands back where it can. -/
def RefAddGood (w : World) (ao : Option Addr) (l m : List Co.C) (e : Ending) (w' : World) : Prop :=
  ∃ (y : List Co.C) (o : Option Addr) (n : Nat), Co.uni l m y ∧ Co.slot w' o y ∧ Co.blk w ao o ∧ Below w.heap.size w w' ∧
    ((y.length ≤ 8 ∧ e = .returned (.tuple #[.slice o y.length n, .int .i64 0])) ∨ (8 < y.length ∧ e = .returned (.tuple #[.slice none 0 0, .int .i64 2])))

set_option maxHeartbeats 2000000 in
theorem refAdd_bad1 (ao bo : Option Addr) (ca cb n : Nat) (l : List Co.C) (w : World) (hA : Co.slot w ao l) (hs : Co.set l = false) (h200 : l.length ≤ 200) :
    Calls Tryd.prog 29 #[.slice ao l.length ca, .slice bo n cb] w fun e w' => e = .returned (.tuple #[.slice none 0 0, .int .i64 1]) ∧ Below w.heap.size w w' := by
  have HA := hide hA
  have HS := hide hs
  clear hA hs
  go_enter Tryd.func29, Tryd.ntmps29
  go_wp2_with fail
  refine (refSet_is ao ca l false HS.out _ HA.out h200).mono ?_
  rintro e w1 ⟨rfl, hb1⟩
  go_wp2_with fail
  exact bodyPost_ret (v := .tuple #[.slice none 0 0, .int .i64 1]) (by simp [results, Tryd.results29, go_sem]) rfl ⟨rfl, hb1⟩

theorem Co.rises_set {l : List Co.C} (h : Co.set l = true) : Co.rises l := by
  obtain ⟨_, hok⟩ := (Co.set_iff l).1 h
  have key : ∀ k, k ≤ l.length → Co.rises (l.take k) := by
    intro k
    induction k with
    | zero => intro _; unfold Co.rises; simp
    | succ k ih =>
      intro hk
      have ih' := ih (by omega)
      rw [List.take_succ_eq_append_getElem (by omega)]
      unfold Co.rises
      rw [List.pairwise_append]
      refine ⟨ih', by simp, ?_⟩
      intro a ha b hb
      rw [List.mem_singleton] at hb
      subst hb
      rcases Nat.eq_zero_or_pos k with h0 | h0
      · subst h0; simp at ha
      · obtain ⟨j, rfl⟩ : ∃ j, k = j + 1 := ⟨k - 1, by omega⟩
        have h1 := hok (j + 1) (by omega)
        rw [Co.ok_succ l j (by omega), Bool.and_eq_true] at h1
        rw [List.take_succ_eq_append_getElem (by omega), List.mem_append, List.mem_singleton] at ha
        rcases ha with ha | ha
        · rw [List.take_succ_eq_append_getElem (by omega)] at ih'
          unfold Co.rises at ih'
          rw [List.pairwise_append] at ih'
          exact Co.bef_trans (ih'.2.2 a ha l[j] (by simp)) h1.2
        · rw [ha]; exact h1.2
  have := key l.length (Nat.le_refl _)
  rwa [List.take_length] at this

theorem Co.uni_step {l m y z : List Co.C} {k : Nat} (hk : k < m.length) (h : Co.uni l (m.take k) y) (h2 : Co.uni y [m[k]] z) : Co.uni l (m.take (k + 1)) z := by
  refine ⟨h2.1, fun c => ?_⟩
  rw [h2.2, h.2, List.take_succ_eq_append_getElem hk]
  simp only [List.mem_append, List.mem_singleton]
  constructor
  · rintro ((h | h) | h)
    · exact .inl h
    · exact .inr (.inl h)
    · exact .inr (.inr h)
  · rintro (h | (h | h))
    · exact .inl (.inl h)
    · exact .inl (.inr h)
    · exact .inr h
end Go.Proofs.YtgebfgjeckdngaaDoor
