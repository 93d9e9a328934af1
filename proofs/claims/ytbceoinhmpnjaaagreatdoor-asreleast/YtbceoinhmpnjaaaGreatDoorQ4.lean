import Derived.Test.YtbceoinhmpnjaaaGreatDoorQ1
import Derived.Test.YtbceoinhmpnjaaaGreatDoorH8
import Derived.Test.YtbceoinhmpnjaaaGreatDoorP9
/- The law AsreEnds, over the contracts of the program's functions. -/
namespace Go.Proofs.YtbceoinhmpnjaaaGreatDoor
open Go.RowKit Go.Sort

def cutA (ao : Option Addr) (ca i : Nat) : Option Addr := if ca = i then ao else ao.map (·.add i)
theorem slot_cut {W : World} {ao : Option Addr} {l : List Int} {ca : Nat} (hA : Is.slot W ao l) (hc : l.length ≤ ca) (i k : Nat) (_hik : i ≤ k) (hk : k ≤ l.length) : Is.slot W (cutA ao ca i) ((l.take k).drop i) := by
  unfold cutA
  by_cases hi : ca = i
  · left
    rw [List.drop_eq_nil_iff, List.length_take]
    omega
  · rw [if_neg hi]
    rcases hA with rfl | ⟨b, off, rfl, hr⟩
    · left; simp
    · refine .inr ⟨b, off + i, ?_, fun j hj => ?_⟩
      · simp [Addr.add]
      · have hj' : i + j < l.length := by rw [List.length_drop, List.length_take] at hj; omega
        have := hr (i + j) hj'
        rw [Nat.add_assoc, this]
        simp
theorem may_cut {l : List Int} (h : Is.may l = true) (i k : Nat) : Is.may ((l.take k).drop i) = true := by
  have h1 := (Is.may_iff l).1 h
  refine (Is.may_iff _).2 ⟨?_, fun j hj => ?_⟩
  · rw [List.length_drop, List.length_take]; omega
  · rw [List.length_drop, List.length_take] at hj
    have := h1.2 (i + j) (by omega)
    simpa using this
theorem fun_of (P : Nat → Nat → Prop) : ∃ f : Nat → Nat → Bool, ∀ i k, f i k = true ↔ P i k :=
  ⟨fun i k => (bool_of (P i k)).choose, fun i k => (bool_of (P i k)).choose_spec⟩

/-- What the loops have seen ahead of (i, k): is there a piece of P's among it? -/
def Seen (f : Nat → Nat → Bool) (n : Nat) (P : Nat → Nat → Prop) (i k : Nat) (b : Bool) : Prop := b = true ↔ ∃ i' k', i' ≤ k' ∧ k' ≤ n ∧ (i' < i ∨ i' = i ∧ k' < k) ∧ P i' k' ∧ f i' k' = true
theorem Seen.start (f : Nat → Nat → Bool) (n : Nat) (P : Nat → Nat → Prop) : Seen f n P 0 0 false := by
  refine ⟨fun h => (by cases h), ?_⟩
  rintro ⟨i', k', h1, _, h2, _⟩
  omega
theorem Seen.step {f : Nat → Nat → Bool} {n : Nat} {P : Nat → Nat → Prop} {i k : Nat} {b : Bool} (h : Seen f n P i k b) (hik : i ≤ k) (hk : k ≤ n) (b' : Bool) (hb : b' = true ↔ b = true ∨ (P i k ∧ f i k = true)) : Seen f n P i (k + 1) b' := by
  refine hb.trans ?_
  constructor
  · rintro (h0 | ⟨hp, hf⟩)
    · obtain ⟨i', k', h1, h2, h3, h4⟩ := h.1 h0
      exact ⟨i', k', h1, h2, by omega, h4⟩
    · exact ⟨i, k, hik, hk, by omega, hp, hf⟩
  · rintro ⟨i', k', h1, h2, h3, h4, h5⟩
    by_cases he : i' = i ∧ k' = k
    · obtain ⟨rfl, rfl⟩ := he
      exact .inr ⟨h4, h5⟩
    · exact .inl (h.2 ⟨i', k', h1, h2, by omega, h4, h5⟩)
theorem Seen.next {f : Nat → Nat → Bool} {n : Nat} {P : Nat → Nat → Prop} {i k : Nat} {b : Bool} (h : Seen f n P i k b) (hk : n < k) : Seen f n P (i + 1) (i + 1) b := by
  refine h.trans ?_
  constructor
  · rintro ⟨i', k', h1, h2, h3, h4⟩
    exact ⟨i', k', h1, h2, by omega, h4⟩
  · rintro ⟨i', k', h1, h2, h3, h4⟩
    exact ⟨i', k', h1, h2, by omega, h4⟩
theorem Seen.done {f : Nat → Nat → Bool} {n : Nat} {P : Nat → Nat → Prop} {i k : Nat} {b : Bool} (h : Seen f n P i k b) (hi : n < i) : b = true ↔ ∃ i' k', i' ≤ k' ∧ k' ≤ n ∧ P i' k' ∧ f i' k' = true := by
  refine h.trans ?_
  constructor
  · rintro ⟨i', k', h1, h2, _, h4⟩
    exact ⟨i', k', h1, h2, h4⟩
  · rintro ⟨i', k', h1, h2, h4⟩
    exact ⟨i', k', h1, h2, by omega, h4⟩
theorem parse_any {T : World → Prop} {Rep : World → Value → Xp → Prop} (K : Kit5 T Rep) (s : ByteArray) (hs : s.size ≤ 2000) (W : World) (hT : T W) :
    Calls Tryz.prog 10 #[.string s] W fun e w' => ∃ v q, e = .returned (.tuple #[v, .int .i64 q]) ∧ Below W.heap.size W w' := by
  refine (K.parse s hs W hT).mono ?_
  rintro e w' ⟨hb, ⟨q, _, _, rfl⟩ | ⟨y, v, _, _, rfl⟩⟩
  · exact ⟨_, _, rfl, hb⟩
  · exact ⟨_, _, rfl, hb⟩
end Go.Proofs.YtbceoinhmpnjaaaGreatDoor

/- The law AsreEnds, over the contracts of the program's functions: its walk. -/
namespace Go.Proofs.YtbceoinhmpnjaaaGreatDoor
open Go.RowKit Go.Sort

/-- Two texts added up. -/
theorem adds_any (s t : ByteArray) (h1 : s.size ≤ 1000) (h2 : t.size ≤ 1000) : ∃ z : ByteArray, Adds s t z ∧ z.data.toList = s.data.toList ++ t.data.toList ∧ z.size = s.size + t.size :=
  ⟨s ++ t, adds_mk s t _ (by unfold maxLen; omega) rfl, by simp [ByteArray.data_append], by simp⟩

theorem ends_out {T : World → Prop} {Rep : World → Value → Xp → Prop} (K : Kit5 T Rep) (s : ByteArray) (ao : Option Addr) (ca : Nat) (l : List Int) (w : World) (hT : T w) (hA : Is.slot w ao l) (h : 50 < s.size ∨ 16 < l.length ∨ Is.may l = false) :
    Calls Tryz.prog 7 #[.string s, .slice ao l.length ca] w fun e w' => e = .returned (.bool true) ∧ Below w.heap.size w w' := by
  have CL := hide (lives_is K w hT)
  by_cases hs : 50 < s.size
  · have h1 : (50 : Int) < (s.size : Int) := by omega
    clear hT hA h
    go_enter Tryz.func7, Tryz.ntmps7
    go_wp2_with fail
    refine CL.out.mono ?_
    rintro e w1 ⟨rfl, hb1⟩
    go_wp2_with fail
    go_ret
    exact ⟨rfl, hb1⟩
  · have h1 : ¬ (50 : Int) < (s.size : Int) := by omega
    by_cases hl : 16 < l.length
    · have h2 : (16 : Int) < (l.length : Int) := by omega
      clear hT hA h
      go_enter Tryz.func7, Tryz.ntmps7
      go_wp2_with fail
      refine CL.out.mono ?_
      rintro e w1 ⟨rfl, hb1⟩
      go_wp2_with fail
      go_ret
      exact ⟨rfl, hb1⟩
    · have h2 : ¬ (16 : Int) < (l.length : Int) := by omega
      have hm : Is.may l = false := by
        rcases h with h | h | h
        · exact absurd h hs
        · exact absurd h hl
        · exact h
      have CM := hide (refMay_is ao ca l false hm w hA (by omega))
      clear hT hA h hm
      go_enter Tryz.func7, Tryz.ntmps7
      go_wp2_with fail
      refine CM.out.mono ?_
      rintro e w1 ⟨rfl, rfl⟩
      go_wp2_with fail
      refine CL.out.mono ?_
      rintro e w1 ⟨rfl, hb1⟩
      go_wp2_with fail
      go_ret
      exact ⟨rfl, hb1⟩

set_option maxHeartbeats 4000000 in
theorem ends_none {T : World → Prop} {Rep : World → Value → Xp → Prop} (K : Kit5 T Rep) (s : ByteArray) (ao : Option Addr) (ca : Nat) (l : List Int) (w : World) (hT : T w) (hA : Is.slot w ao l) (hs : s.size ≤ 50) (hl : l.length ≤ 16) (hm : Is.may l = true) (q : Int) (hp : Px.parse s.data.toList = .error q) :
    Calls Tryz.prog 7 #[.string s, .slice ao l.length ca] w fun e w' => e = .returned (.bool true) ∧ Below w.heap.size w w' := by
  have h1 : ¬ (50 : Int) < (s.size : Int) := by omega
  have h2 : ¬ (16 : Int) < (l.length : Int) := by omega
  have CL := hide (fun W (hW : Below w.heap.size w W) => lives_is K W (K.on hT hW))
  have CM := hide (refMay_is ao ca l true hm w hA (by omega))
  have CP := hide (parse_bad K s q hp (by omega) w hT)
  have hq := err_ne hp
  have hq' : (q == 0) = false := by simpa using hq
  clear hT hA hm hp
  go_enter Tryz.func7, Tryz.ntmps7
  go_wp2_with fail
  refine CM.out.mono ?_
  rintro e w1 ⟨rfl, rfl⟩
  go_wp2_with fail
  refine CP.out.mono ?_
  rintro e w2 ⟨rfl, hb2⟩
  have B2 := hide hb2
  clear hb2
  go_wp2_with fail
  refine (CL.out _ B2.out).mono ?_
  rintro e w3 ⟨rfl, hb3⟩
  go_wp2_with fail
  go_ret
  exact ⟨rfl, bthen B2.out hb3⟩

set_option maxHeartbeats 4000000 in
set_option maxRecDepth 100000 in
theorem ends_bad {T : World → Prop} {Rep : World → Value → Xp → Prop} (K : Kit5 T Rep) (s : ByteArray) (ao : Option Addr) (ca : Nat) (l : List Int) (w : World) (hT : T w) (hA : Is.slot w ao l) (hs : s.size ≤ 50) (hl : l.length ≤ 16) (hm : Is.may l = true) (x : Xp) (hp : Px.parse s.data.toList = .ok x) (q : Int) (hf : Px.parse (40 :: (s.data.toList ++ [41])) = .error q) :
    Calls Tryz.prog 7 #[.string s, .slice ao l.length ca] w fun e w' => e = .returned (.bool true) ∧ Below w.heap.size w w' := by
  have h1 : ¬ (50 : Int) < (s.size : Int) := by omega
  have h2 : ¬ (16 : Int) < (l.length : Int) := by omega
  have CL := hide (fun W (hW : Below w.heap.size w W) => lives_is K W (K.on hT hW))
  have CM := hide (refMay_is ao ca l true hm w hA (by omega))
  have CP := hide (parse_ok K s x hp (by omega) w hT)
  obtain ⟨u1, A1, e1, z1⟩ := adds_any ⟨#[94, 40]⟩ s (by decide) (by omega)
  obtain ⟨u2, A2, e2, z2⟩ := adds_any ⟨#[40]⟩ s (by decide) (by omega)
  change u1.size = 2 + s.size at z1
  change u2.size = 1 + s.size at z2
  obtain ⟨t1, A3, e3, z3⟩ := adds_any u1 ⟨#[41, 36]⟩ (by omega) (by decide)
  obtain ⟨t2, A4, e4, z4⟩ := adds_any u1 ⟨#[41]⟩ (by omega) (by decide)
  obtain ⟨t3, A5, e5, z5⟩ := adds_any u2 ⟨#[41, 36]⟩ (by omega) (by decide)
  obtain ⟨t4, A6, e6, z6⟩ := adds_any u2 ⟨#[41]⟩ (by omega) (by decide)
  change t1.size = u1.size + 2 at z3
  change t2.size = u1.size + 1 at z4
  change t3.size = u2.size + 2 at z5
  change t4.size = u2.size + 1 at z6
  have e6' : t4.data.toList = 40 :: (s.data.toList ++ [41]) := by rw [e6, e2]; rfl
  have C1 := hide (fun W (hW : Below w.heap.size w W) => parse_any K t1 (by omega) W (K.on hT hW))
  have C2 := hide (fun W (hW : Below w.heap.size w W) => parse_any K t2 (by omega) W (K.on hT hW))
  have C3 := hide (fun W (hW : Below w.heap.size w W) => parse_any K t3 (by omega) W (K.on hT hW))
  have C4 := hide (fun W (hW : Below w.heap.size w W) => parse_bad K t4 q (by rw [e6', hf]) (by omega) W (K.on hT hW))
  have hq := err_ne hf
  have hq' : (q == 0) = false := by simpa using hq
  unfold Adds at A1 A2 A3 A4 A5 A6
  clear hT hA hm hp hf e1 e2 e3 e4 e5 e6 e6' z1 z2 z3 z4 z5 z6
  go_enter Tryz.func7, Tryz.ntmps7
  go_wp2_with fail
  refine CM.out.mono ?_
  rintro e w1 ⟨rfl, rfl⟩
  go_wp2_with fail
  refine CP.out.mono ?_
  rintro e w2 ⟨a, rfl, _, hb2⟩
  have B2 := hide hb2
  clear hb2
  go_wp2_with fail
  refine (C1.out _ B2.out).mono ?_
  rintro e w3 ⟨v3, q3, rfl, hb3⟩
  have B3 := hide (bthen B2.out hb3)
  clear hb3 B2
  go_wp2_with fail
  refine (C2.out _ B3.out).mono ?_
  rintro e w4 ⟨v4, q4, rfl, hb4⟩
  have B4 := hide (bthen B3.out hb4)
  clear hb4 B3
  go_wp2_with fail
  refine (C3.out _ B4.out).mono ?_
  rintro e w5 ⟨v5, q5, rfl, hb5⟩
  have B5 := hide (bthen B4.out hb5)
  clear hb5 B4
  go_wp2_with fail
  refine (C4.out _ B5.out).mono ?_
  rintro e w6 ⟨rfl, hb6⟩
  have B6 := hide (bthen B5.out hb6)
  clear hb6 B5
  have CLL := hide (CL.out _ B6.out)
  by_cases h3 : q3 = 0
  · subst h3
    by_cases h4 : q4 = 0
    · subst h4
      by_cases h5 : q5 = 0
      · subst h5
        go_wp2_with fail
        refine CLL.out.mono ?_
        rintro e w7 ⟨rfl, hb7⟩
        go_wp2_with fail
        go_ret
        exact ⟨rfl, bthen B6.out hb7⟩
      · have h5' : (q5 == 0) = false := by simpa using h5
        go_wp2_with fail
        refine CLL.out.mono ?_
        rintro e w7 ⟨rfl, hb7⟩
        go_wp2_with fail
        go_ret
        exact ⟨rfl, bthen B6.out hb7⟩
    · have h4' : (q4 == 0) = false := by simpa using h4
      go_wp2_with fail
      refine CLL.out.mono ?_
      rintro e w7 ⟨rfl, hb7⟩
      go_wp2_with fail
      go_ret
      exact ⟨rfl, bthen B6.out hb7⟩
  · have h3' : (q3 == 0) = false := by simpa using h3
    go_wp2_with fail
    refine CLL.out.mono ?_
    rintro e w7 ⟨rfl, hb7⟩
    go_wp2_with fail
    go_ret
    exact ⟨rfl, bthen B6.out hb7⟩
end Go.Proofs.YtbceoinhmpnjaaaGreatDoor

