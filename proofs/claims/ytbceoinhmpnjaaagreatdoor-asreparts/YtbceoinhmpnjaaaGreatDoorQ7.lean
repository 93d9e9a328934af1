import Derived.Test.YtbceoinhmpnjaaaGreatDoorQ6
/- The law AsreParts, over the contracts of the program's functions: all but its loop. -/
namespace Go.Proofs.YtbceoinhmpnjaaaGreatDoor
open Go.RowKit Go.Sort

set_option maxRecDepth 100000 in
theorem run_to (ao : Option Addr) (n ca k : Nat) (hk : k ≤ n) (hca : n ≤ ca) (W : World) : (Instr.slice 27 (.slice ao n ca) none (some (.int .i64 k)) none).run Tryz.prog W = .ok (.slice (cutA ao ca 0) k ca) W := by
  have hc : (k : Int) ≤ (ca : Int) := by omega
  rw [run_slice_h W 27 ao n ca Tryz.underlying27 .i64 k (by omega) hc]
  have e : Tryz.t3.size = 1 := by kernel_rfl
  simp [cutA, sliced, sizeOf, go_sem, e]
set_option maxRecDepth 100000 in
theorem run_from (ao : Option Addr) (n ca k : Nat) (hk : k ≤ n) (W : World) : (Instr.slice 27 (.slice ao n ca) (some (.int .i64 k)) none none).run Tryz.prog W = .ok (.slice (cutA ao ca k) (n - k) (ca - k)) W := by
  have hc : (k : Int) ≤ (n : Int) := by omega
  rw [run_slice_l W 27 ao n ca Tryz.underlying27 .i64 k (by omega) hc]
  have e : Tryz.t3.size = 1 := by kernel_rfl
  simp [cutA, sliced, sizeOf, go_sem, e]
theorem whole_to {T : World → Prop} {Rep : World → Value → Xp → Prop} (K : Kit5 T Rep) (v : Value) (x : Xp) (ao : Option Addr) (ca : Nat) (l : List Int) (b : Bool) (k : Nat) (hk : k ≤ l.length) (hca : l.length ≤ ca) (hm : Is.may l = true) (hl : l.length ≤ 16) (hb : b = true ↔ Nd.MetRows x.2.2 (l.take k)) (W : World) (hT : T W) (hR : Rep W v x) (hA : Is.slot W ao l) :
    Calls Tryz.prog 18 #[v, .slice (cutA ao ca 0) k ca] W fun e w' => e = .returned (.bool b) ∧ Below W.heap.size W w' :=
  whole_cut K v x ao ca l b 0 k (Nat.zero_le _) hk hca hm hl (by rw [List.drop_zero]; exact hb) W hT hR hA
theorem whole_from {T : World → Prop} {Rep : World → Value → Xp → Prop} (K : Kit5 T Rep) (v : Value) (x : Xp) (ao : Option Addr) (ca : Nat) (l : List Int) (b : Bool) (k : Nat) (hk : k ≤ l.length) (hca : l.length ≤ ca) (hm : Is.may l = true) (hl : l.length ≤ 16) (hb : b = true ↔ Nd.MetRows x.2.2 (l.drop k)) (W : World) (hT : T W) (hR : Rep W v x) (hA : Is.slot W ao l) :
    Calls Tryz.prog 18 #[v, .slice (cutA ao ca k) (l.length - k) (ca - k)] W fun e w' => e = .returned (.bool b) ∧ Below W.heap.size W w' :=
  whole_cut K v x ao ca l b k l.length hk (Nat.le_refl _) hca hm hl (by rw [List.take_length]; exact hb) W hT hR hA
theorem row_of (P : Nat → Prop) : ∃ f : Nat → Bool, ∀ k, f k = true ↔ P k :=
  ⟨fun k => (bool_of (P k)).choose, fun k => (bool_of (P k)).choose_spec⟩
/-- What a loop has found ahead of k. -/
def Found (P : Nat → Prop) (b0 : Bool) (k : Nat) (b : Bool) : Prop := b = true ↔ b0 = true ∨ ∃ k', k' < k ∧ P k'
theorem Found.start (P : Nat → Prop) (b0 : Bool) : Found P b0 0 b0 := by
  refine ⟨.inl, ?_⟩
  rintro (h | ⟨k', h, _⟩)
  · exact h
  · omega
theorem Found.step {P : Nat → Prop} {b0 : Bool} {k : Nat} {b : Bool} (h : Found P b0 k b) (b' : Bool) (hb : b' = true ↔ b = true ∨ P k) : Found P b0 (k + 1) b' := by
  refine hb.trans ?_
  constructor
  · rintro (h0 | hp)
    · rcases h.1 h0 with h1 | ⟨k', h1, h2⟩
      · exact .inl h1
      · exact .inr ⟨k', by omega, h2⟩
    · exact .inr ⟨k, by omega, hp⟩
  · rintro (h0 | ⟨k', h1, h2⟩)
    · exact .inl (h.2 (.inl h0))
    · rcases Nat.lt_or_ge k' k with h3 | h3
      · exact .inl (h.2 (.inr ⟨k', h3, h2⟩))
      · obtain rfl : k' = k := by omega
        exact .inr h2

set_option maxRecDepth 100000 in
theorem parts_out {T : World → Prop} {Rep : World → Value → Xp → Prop} (K : Kit5 T Rep) (a b : ByteArray) (ao : Option Addr) (n ca : Nat) (w : World) (hT : T w) (h : 20 < a.size ∨ 20 < b.size ∨ 16 < n) :
    Calls Tryz.prog 6 #[.string a, .string b, .slice ao n ca] w fun e w' => e = .returned (.bool true) ∧ Below w.heap.size w w' := by
  have CL := hide (lives_is K w hT)
  clear hT
  by_cases ha : 20 < a.size
  · have h1 : (20 : Int) < (a.size : Int) := by omega
    clear h
    go_enter Tryz.func6, Tryz.ntmps6
    go_wp2_with fail
    refine CL.out.mono ?_
    rintro e w1 ⟨rfl, hb1⟩
    go_wp2_with fail
    go_ret
    exact ⟨rfl, hb1⟩
  · have h1 : ¬ (20 : Int) < (a.size : Int) := by omega
    by_cases hb : 20 < b.size
    · have h2 : (20 : Int) < (b.size : Int) := by omega
      clear h
      go_enter Tryz.func6, Tryz.ntmps6
      go_wp2_with fail
      refine CL.out.mono ?_
      rintro e w1 ⟨rfl, hb1⟩
      go_wp2_with fail
      go_ret
      exact ⟨rfl, hb1⟩
    · have h2 : ¬ (20 : Int) < (b.size : Int) := by omega
      have h3 : (16 : Int) < (n : Int) := by omega
      clear h
      go_enter Tryz.func6, Tryz.ntmps6
      go_wp2_with fail
      refine CL.out.mono ?_
      rintro e w1 ⟨rfl, hb1⟩
      go_wp2_with fail
      go_ret
      exact ⟨rfl, hb1⟩

set_option maxHeartbeats 4000000 in
set_option maxRecDepth 100000 in
theorem parts_none {T : World → Prop} {Rep : World → Value → Xp → Prop} (K : Kit5 T Rep) (a b : ByteArray) (ao : Option Addr) (n ca : Nat) (w : World) (hT : T w) (ha : a.size ≤ 20) (hb : b.size ≤ 20) (hn : n ≤ 16) (h : (∃ q, Px.parse a.data.toList = .error q) ∨ (∃ x, Px.parse a.data.toList = .ok x) ∧ ∃ q, Px.parse b.data.toList = .error q) :
    Calls Tryz.prog 6 #[.string a, .string b, .slice ao n ca] w fun e w' => e = .returned (.bool true) ∧ Below w.heap.size w w' := by
  have h1 : ¬ (20 : Int) < (a.size : Int) := by omega
  have h2 : ¬ (20 : Int) < (b.size : Int) := by omega
  have h3 : ¬ (16 : Int) < (n : Int) := by omega
  have CL := hide (fun W (hW : Below w.heap.size w W) => lives_is K W (K.on hT hW))
  rcases h with ⟨q, hq⟩ | ⟨⟨x, hx⟩, ⟨q, hq⟩⟩
  · have C1 := hide (parse_bad K a q hq (by omega) w hT)
    have C2 := hide (fun W (hW : Below w.heap.size w W) => parse_any K b (by omega) W (K.on hT hW))
    have hq0 := err_ne hq
    have hq' : (q == 0) = false := by simpa using hq0
    clear hT hq
    go_enter Tryz.func6, Tryz.ntmps6
    go_wp2_with fail
    refine C1.out.mono ?_
    rintro e w1 ⟨rfl, hb1⟩
    have B1 := hide hb1
    clear hb1
    go_wp2_with fail
    refine (C2.out _ B1.out).mono ?_
    rintro e w2 ⟨v, r, rfl, hb2⟩
    have B2 := hide (bthen B1.out hb2)
    clear hb2
    go_wp2_with fail
    refine (CL.out _ B2.out).mono ?_
    rintro e w3 ⟨rfl, hb3⟩
    go_wp2_with fail
    go_ret
    exact ⟨rfl, bthen B2.out hb3⟩
  · have C1 := hide (parse_ok K a x hx (by omega) w hT)
    have C2 := hide (fun W (hW : Below w.heap.size w W) => parse_bad K b q hq (by omega) W (K.on hT hW))
    have hq0 := err_ne hq
    have hq' : (q == 0) = false := by simpa using hq0
    clear hT hq hx
    go_enter Tryz.func6, Tryz.ntmps6
    go_wp2_with fail
    refine C1.out.mono ?_
    rintro e w1 ⟨p1, rfl, _, hb1⟩
    have B1 := hide hb1
    clear hb1
    go_wp2_with fail
    refine (C2.out _ B1.out).mono ?_
    rintro e w2 ⟨rfl, hb2⟩
    have B2 := hide (bthen B1.out hb2)
    clear hb2
    go_wp2_with fail
    refine (CL.out _ B2.out).mono ?_
    rintro e w3 ⟨rfl, hb3⟩
    go_wp2_with fail
    go_ret
    exact ⟨rfl, bthen B2.out hb3⟩

/-- The texts that the law makes of two. -/
theorem parts_texts (a b : ByteArray) (ha : a.size ≤ 20) (hb : b.size ≤ 20) : ∃ u v u2 u3 v2 v3 t1 t2 t3 t4 t5 t6 : ByteArray,
    (Adds ⟨#[40]⟩ a u ∧ Adds ⟨#[40]⟩ b v ∧ Adds u ⟨#[41, 124, 40]⟩ u2 ∧ Adds u2 b u3 ∧ Adds u ⟨#[41, 32, 40]⟩ v2 ∧ Adds v2 b v3 ∧
    Adds u ⟨#[41]⟩ t1 ∧ Adds v ⟨#[41]⟩ t2 ∧ Adds u3 ⟨#[41]⟩ t3 ∧ Adds v3 ⟨#[41]⟩ t4 ∧ Adds u ⟨#[41, 63]⟩ t5 ∧ Adds u ⟨#[41, 43]⟩ t6) ∧
    (t1.data.toList = 40 :: (a.data.toList ++ [41]) ∧ t2.data.toList = 40 :: (b.data.toList ++ [41]) ∧ t3.data.toList = 40 :: (a.data.toList ++ 41 :: 124 :: 40 :: (b.data.toList ++ [41])) ∧ t4.data.toList = 40 :: (a.data.toList ++ 41 :: 32 :: 40 :: (b.data.toList ++ [41])) ∧ t5.data.toList = 40 :: (a.data.toList ++ [41, 63]) ∧ t6.data.toList = 40 :: (a.data.toList ++ [41, 43])) ∧
    t1.size ≤ 60 ∧ t2.size ≤ 60 ∧ t3.size ≤ 60 ∧ t4.size ≤ 60 ∧ t5.size ≤ 60 ∧ t6.size ≤ 60 := by
  obtain ⟨u, A1, e1, z1⟩ := adds_any ⟨#[40]⟩ a (by decide) (by omega)
  obtain ⟨v, A2, e2, z2⟩ := adds_any ⟨#[40]⟩ b (by decide) (by omega)
  change u.size = 1 + a.size at z1
  change v.size = 1 + b.size at z2
  obtain ⟨u2, A3, e3, z3⟩ := adds_any u ⟨#[41, 124, 40]⟩ (by omega) (by decide)
  obtain ⟨v2, A4, e4, z4⟩ := adds_any u ⟨#[41, 32, 40]⟩ (by omega) (by decide)
  change u2.size = u.size + 3 at z3
  change v2.size = u.size + 3 at z4
  obtain ⟨u3, A5, e5, z5⟩ := adds_any u2 b (by omega) (by omega)
  obtain ⟨v3, A6, e6, z6⟩ := adds_any v2 b (by omega) (by omega)
  obtain ⟨t1, A7, e7, z7⟩ := adds_any u ⟨#[41]⟩ (by omega) (by decide)
  obtain ⟨t2, A8, e8, z8⟩ := adds_any v ⟨#[41]⟩ (by omega) (by decide)
  obtain ⟨t3, A9, e9, z9⟩ := adds_any u3 ⟨#[41]⟩ (by omega) (by decide)
  obtain ⟨t4, A10, e10, z10⟩ := adds_any v3 ⟨#[41]⟩ (by omega) (by decide)
  obtain ⟨t5, A11, e11, z11⟩ := adds_any u ⟨#[41, 63]⟩ (by omega) (by decide)
  obtain ⟨t6, A12, e12, z12⟩ := adds_any u ⟨#[41, 43]⟩ (by omega) (by decide)
  change t1.size = u.size + 1 at z7
  change t2.size = v.size + 1 at z8
  change t3.size = u3.size + 1 at z9
  change t4.size = v3.size + 1 at z10
  change t5.size = u.size + 2 at z11
  change t6.size = u.size + 2 at z12
  refine ⟨u, v, u2, u3, v2, v3, t1, t2, t3, t4, t5, t6, ⟨A1, A2, A3, A5, A4, A6, A7, A8, A9, A10, A11, A12⟩, ⟨?_, ?_, ?_, ?_, ?_, ?_⟩, by omega, by omega, by omega, by omega, by omega, by omega⟩
  · rw [e7, e1]; rfl
  · rw [e8, e2]; rfl
  · rw [e9, e5, e3, e1]; simp
  · rw [e10, e6, e4, e1]; simp
  · rw [e11, e1]; rfl
  · rw [e12, e1]; rfl

set_option maxHeartbeats 8000000 in
set_option maxRecDepth 100000 in
theorem parts_bad {T : World → Prop} {Rep : World → Value → Xp → Prop} (K : Kit5 T Rep) (a b : ByteArray) (ao : Option Addr) (n ca : Nat) (w : World) (hT : T w) (ha : a.size ≤ 20) (hb : b.size ≤ 20) (hn : n ≤ 16) (x y : Xp) (hx : Px.parse a.data.toList = .ok x) (hy : Px.parse b.data.toList = .ok y) (h : (∃ q, Px.parse (40 :: (a.data.toList ++ [41])) = .error q) ∨ (∃ z, Px.parse (40 :: (a.data.toList ++ [41])) = .ok z) ∧ ∃ q, Px.parse (40 :: (b.data.toList ++ [41])) = .error q) :
    Calls Tryz.prog 6 #[.string a, .string b, .slice ao n ca] w fun e w' => e = .returned (.bool true) ∧ Below w.heap.size w w' := by
  have h1 : ¬ (20 : Int) < (a.size : Int) := by omega
  have h2 : ¬ (20 : Int) < (b.size : Int) := by omega
  have h3 : ¬ (16 : Int) < (n : Int) := by omega
  have CL := hide (fun W (hW : Below w.heap.size w W) => lives_is K W (K.on hT hW))
  have C1 := hide (parse_ok K a x hx (by omega) w hT)
  have C2 := hide (fun W (hW : Below w.heap.size w W) => parse_ok K b y hy (by omega) W (K.on hT hW))
  obtain ⟨u, v, u2, u3, v2, v3, t1, t2, t3, t4, t5, t6, ⟨A1, A2, A3, A4, A5, A6, A7, A8, A9, A10, A11, A12⟩, ⟨e1, e2, e3, e4, e5, e6⟩, z1, z2, z3, z4, z5, z6⟩ := parts_texts a b ha hb
  have D3 := hide (fun W (hW : Below w.heap.size w W) => parse_any K t3 (by omega) W (K.on hT hW))
  have D4 := hide (fun W (hW : Below w.heap.size w W) => parse_any K t4 (by omega) W (K.on hT hW))
  have D5 := hide (fun W (hW : Below w.heap.size w W) => parse_any K t5 (by omega) W (K.on hT hW))
  have D6 := hide (fun W (hW : Below w.heap.size w W) => parse_any K t6 (by omega) W (K.on hT hW))
  unfold Adds at A1 A2 A3 A4 A5 A6 A7 A8 A9 A10 A11 A12
  rcases h with ⟨q, hq⟩ | ⟨⟨z, hz⟩, ⟨q, hq⟩⟩
  · have D1 := hide (fun W (hW : Below w.heap.size w W) => parse_bad K t1 q (by rw [e1, hq]) (by omega) W (K.on hT hW))
    have D2 := hide (fun W (hW : Below w.heap.size w W) => parse_any K t2 (by omega) W (K.on hT hW))
    have hq0 := err_ne hq
    have hq' : (q == 0) = false := by simpa using hq0
    clear hT hq hx hy e1 e2 e3 e4 e5 e6 z1 z2 z3 z4 z5 z6
    go_enter Tryz.func6, Tryz.ntmps6
    go_wp2_with fail
    refine C1.out.mono ?_
    rintro e w1 ⟨p1, rfl, _, hb1⟩
    have B1 := hide hb1
    clear hb1
    go_wp2_with fail
    refine (C2.out _ B1.out).mono ?_
    rintro e w2 ⟨p2, rfl, _, hb2⟩
    have B2 := hide (bthen B1.out hb2)
    clear hb2
    go_wp2_with fail
    refine (D1.out _ B2.out).mono ?_
    rintro e w3 ⟨rfl, hb3⟩
    have B3 := hide (bthen B2.out hb3)
    clear hb3
    go_wp2_with fail
    refine (D2.out _ B3.out).mono ?_
    rintro e w4 ⟨_, _, rfl, hb4⟩
    have B4 := hide (bthen B3.out hb4)
    clear hb4
    go_wp2_with fail
    refine (D3.out _ B4.out).mono ?_
    rintro e w5 ⟨_, _, rfl, hb5⟩
    have B5 := hide (bthen B4.out hb5)
    clear hb5
    go_wp2_with fail
    refine (D4.out _ B5.out).mono ?_
    rintro e w6 ⟨_, _, rfl, hb6⟩
    have B6 := hide (bthen B5.out hb6)
    clear hb6
    go_wp2_with fail
    refine (D5.out _ B6.out).mono ?_
    rintro e w7 ⟨_, _, rfl, hb7⟩
    have B7 := hide (bthen B6.out hb7)
    clear hb7
    go_wp2_with fail
    refine (D6.out _ B7.out).mono ?_
    rintro e w8 ⟨_, _, rfl, hb8⟩
    have B8 := hide (bthen B7.out hb8)
    clear hb8
    go_wp2_with fail
    refine (CL.out _ B8.out).mono ?_
    rintro e w9 ⟨rfl, hb9⟩
    go_wp2_with fail
    go_ret
    exact ⟨rfl, bthen B8.out hb9⟩
  · have D1 := hide (fun W (hW : Below w.heap.size w W) => parse_ok K t1 z (by rw [e1, hz]) (by omega) W (K.on hT hW))
    have D2 := hide (fun W (hW : Below w.heap.size w W) => parse_bad K t2 q (by rw [e2, hq]) (by omega) W (K.on hT hW))
    have hq0 := err_ne hq
    have hq' : (q == 0) = false := by simpa using hq0
    clear hT hq hz hx hy e1 e2 e3 e4 e5 e6 z1 z2 z3 z4 z5 z6
    go_enter Tryz.func6, Tryz.ntmps6
    go_wp2_with fail
    refine C1.out.mono ?_
    rintro e w1 ⟨p1, rfl, _, hb1⟩
    have B1 := hide hb1
    clear hb1
    go_wp2_with fail
    refine (C2.out _ B1.out).mono ?_
    rintro e w2 ⟨p2, rfl, _, hb2⟩
    have B2 := hide (bthen B1.out hb2)
    clear hb2
    go_wp2_with fail
    refine (D1.out _ B2.out).mono ?_
    rintro e w3 ⟨_, rfl, _, hb3⟩
    have B3 := hide (bthen B2.out hb3)
    clear hb3
    go_wp2_with fail
    refine (D2.out _ B3.out).mono ?_
    rintro e w4 ⟨rfl, hb4⟩
    have B4 := hide (bthen B3.out hb4)
    clear hb4
    go_wp2_with fail
    refine (D3.out _ B4.out).mono ?_
    rintro e w5 ⟨_, _, rfl, hb5⟩
    have B5 := hide (bthen B4.out hb5)
    clear hb5
    go_wp2_with fail
    refine (D4.out _ B5.out).mono ?_
    rintro e w6 ⟨_, _, rfl, hb6⟩
    have B6 := hide (bthen B5.out hb6)
    clear hb6
    go_wp2_with fail
    refine (D5.out _ B6.out).mono ?_
    rintro e w7 ⟨_, _, rfl, hb7⟩
    have B7 := hide (bthen B6.out hb7)
    clear hb7
    go_wp2_with fail
    refine (D6.out _ B7.out).mono ?_
    rintro e w8 ⟨_, _, rfl, hb8⟩
    have B8 := hide (bthen B7.out hb8)
    clear hb8
    go_wp2_with fail
    refine (CL.out _ B8.out).mono ?_
    rintro e w9 ⟨rfl, hb9⟩
    go_wp2_with fail
    go_ret
    exact ⟨rfl, bthen B8.out hb9⟩
end Go.Proofs.YtbceoinhmpnjaaaGreatDoor
