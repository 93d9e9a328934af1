import Derived.Test.YtbceoinhmpnjaaaGreatDoorP12
import Derived.Test.YtbceoinhmpnjaaaGreatDoorP5
import Derived.Test.YtbceoinhmpnjaaaGreatDoorH1
/- What the laws of stage 5 ask of the program; the law's lives. -/
namespace Go.Proofs.YtbceoinhmpnjaaaGreatDoor
open Go.RowKit Go.Sort

abbrev Xp : Type := Bool × Bool × List (List Nd)
mutual
def Nd.size : Nd → Nat
  | .num _ _ _ => 1
  | .ch rows => Nd.sizeRows rows
  | .st _ n => Nd.size n
def Nd.sizeRow : List Nd → Nat
  | [] => 0
  | n :: r => Nd.size n + Nd.sizeRow r
def Nd.sizeRows : List (List Nd) → Nat
  | [] => 0
  | l :: r => Nd.sizeRow l + Nd.sizeRows r
end
/-- The contracts of the program's functions: T what must be laid, Rep where an expression lies. -/
structure Kit5 (T : World → Prop) (Rep : World → Value → Xp → Prop) : Prop where
  on : ∀ {w w' : World}, T w → Below w.heap.size w w' → T w'
  rep : ∀ {w w' : World} {v : Value} {x : Xp}, Rep w v x → Below w.heap.size w w' → Rep w' v x
  some : ∀ {w : World} {v : Value} {x : Xp}, Rep w v x → ∃ a, v = .pointer (some a)
  parse : ∀ (s : ByteArray), s.size ≤ 2000 → ∀ W, T W → Calls Tryz.prog 10 #[.string s] W fun e w' => Below W.heap.size W w' ∧
    ((∃ q, Px.parse s.data.toList = .error q ∧ q ≠ 0 ∧ e = .returned (.tuple #[.pointer none, .int .i64 q])) ∨ (∃ x v, Px.parse s.data.toList = .ok x ∧ Rep w' v x ∧ e = .returned (.tuple #[v, .int .i64 0])))
  text : ∀ (v : Value) (x : Xp) (t : ByteArray), t = ⟨(Px.text x).toArray⟩ → ∀ W, T W → Rep W v x → Calls Tryz.prog 12 #[v] W fun e w' => e = .returned (.string t) ∧ Below W.heap.size W w'
  size : ∀ (v : Value) (x : Xp), ∀ W, T W → Rep W v x → Calls Tryz.prog 14 #[v] W fun e w' => e = .returned (.int .i64 (Nd.sizeRows x.2.2 : Nat)) ∧ Below W.heap.size W w'
  meets : ∀ (v : Value) (x : Xp) (ao : Option Addr) (ca : Nat) (l : List Int) (b : Bool), (b = true ↔ Is.may l = true ∧ Ex.Meets x l) → ∀ W, T W → Rep W v x → Is.slot W ao l → l.length ≤ 320 → Calls Tryz.prog 17 #[v, .slice ao l.length ca] W fun e w' => e = .returned (.bool b) ∧ Below W.heap.size W w'
  whole : ∀ (v : Value) (x : Xp) (ao : Option Addr) (ca : Nat) (l : List Int) (b : Bool), (b = true ↔ Is.may l = true ∧ Ex.Whole x l) → ∀ W, T W → Rep W v x → Is.slot W ao l → l.length ≤ 320 → Calls Tryz.prog 18 #[v, .slice ao l.length ca] W fun e w' => e = .returned (.bool b) ∧ Below W.heap.size W w'

def X1 : Xp := (true, true, [[.num false false [(65000, 65000, false)], .st 3 (.num true false [(1, 65535, true)])]])
def X2 : Xp := (false, false, [[.st 4 (.ch [[.num false false [(1, 1, false)]], [.num false false [(2, 2, false)]]]), .num false false [(3, 3, false)]]])
theorem px1 : Px.parse [94, 54, 53, 48, 48, 48, 32, 46, 42, 36] = .ok X1 := by rfl
theorem px2 : Px.parse [40, 49, 124, 50, 41, 43, 32, 51] = .ok X2 := by rfl
theorem m1 : Ex.Meets X1 [65000, 1, 2] := by
  refine ⟨[], [65000, 1, 2], [], rfl, ?_, fun _ => rfl, fun _ => rfl⟩
  simp only [X1, Nd.MetRows, Nd.MetRow, or_false]
  refine ⟨[65000], [1, 2], rfl, ?_, [1, 2], [], rfl, ?_, rfl⟩
  · rw [Nd.Met]
    exact ⟨65000, rfl, (65000, 65000, false), by simp, by decide, by decide⟩
  · rw [Nd.Met, if_neg (by decide), if_pos rfl]
    refine Many.cons (a := [1]) (b := [2]) ?_ (Many.cons (a := [2]) (b := []) ?_ .nil)
    · rw [Nd.Met]
      exact ⟨1, rfl, (1, 65535, true), by simp, by decide, by decide⟩
    · rw [Nd.Met]
      exact ⟨2, rfl, (1, 65535, true), by simp, by decide, by decide⟩
theorem m2 : ¬ Ex.Meets X1 [1, 65000] := by
  rintro ⟨a, b, c, hp, h, h1, h2⟩
  rw [h1 rfl, h2 rfl] at hp
  simp only [List.nil_append, List.append_nil] at hp
  subst hp
  simp only [X1, Nd.MetRows, Nd.MetRow, or_false] at h
  obtain ⟨a, b, hp, ha, _⟩ := h
  rw [Nd.Met] at ha
  obtain ⟨n, rfl, r, hr, h3, h4⟩ := ha
  simp at hp hr
  obtain ⟨rfl, _⟩ := hp
  subst hr
  simp at h3
theorem m3 : Ex.Meets X2 [7, 1, 2, 3, 9] := by
  refine ⟨[7], [1, 2, 3], [9], rfl, ?_, fun e => (by cases e), fun e => (by cases e)⟩
  simp only [X2, Nd.MetRows, Nd.MetRow, or_false]
  have hn : ∀ k : Int, Nd.Met (.num false false [(k, k, false)]) [k] := by
    intro k
    rw [Nd.Met]
    exact ⟨k, rfl, (k, k, false), by simp, Int.le_refl _, Int.le_refl _⟩
  refine ⟨[1, 2], [3], rfl, ?_, [3], [], rfl, hn 3, rfl⟩
  rw [Nd.Met, if_neg (by decide), if_neg (by decide)]
  refine ⟨[1], [2], rfl, ?_, Many.cons (a := [2]) (b := []) ?_ .nil⟩
  · simp only [Nd.Met, Nd.MetRows, Nd.MetRow, or_false]
    exact .inl ⟨[1], [], rfl, by have := hn 1; rwa [Nd.Met] at this, rfl⟩
  · simp only [Nd.Met, Nd.MetRows, Nd.MetRow, or_false]
    exact .inr ⟨[2], [], rfl, by have := hn 2; rwa [Nd.Met] at this, rfl⟩
theorem itoa_one (n : Nat) (h : n < 10) : Lib.itoa (n : Int) = [UInt8.ofNat (48 + n)] := by
  rw [Lib.itoa_nonneg, Lib.decDigits_one h]
theorem tx2 : Px.text X2 = [40, 49, 124, 50, 41, 43, 32, 51] := by
  have e1 : Lib.itoa 1 = [49] := itoa_one 1 (by decide)
  have e2 : Lib.itoa 2 = [50] := itoa_one 2 (by decide)
  have e3 : Lib.itoa 3 = [51] := itoa_one 3 (by decide)
  simp [Px.text, X2, Nd.rowsText, Nd.alsoText, Nd.rowText, Nd.moreText, Nd.text, Px.pairs, Px.pair, Px.signText, e1, e2, e3]
end Go.Proofs.YtbceoinhmpnjaaaGreatDoor

/- The law's lives, over the contracts. -/
namespace Go.Proofs.YtbceoinhmpnjaaaGreatDoor
open Go.RowKit Go.Sort

theorem parse_ok {T : World → Prop} {Rep : World → Value → Xp → Prop} (K : Kit5 T Rep) (s : ByteArray) (x : Xp) (h : Px.parse s.data.toList = .ok x) (hs : s.size ≤ 2000) (W : World) (hT : T W) :
    Calls Tryz.prog 10 #[.string s] W fun e w' => ∃ a, e = .returned (.tuple #[.pointer (some a), .int .i64 0]) ∧ Rep w' (.pointer (some a)) x ∧ Below W.heap.size W w' := by
  refine (K.parse s hs W hT).mono ?_
  rintro e w' ⟨hb, ⟨q, hq, _, _⟩ | ⟨y, v, hy, hr, rfl⟩⟩
  · rw [h] at hq; cases hq
  · rw [h] at hy
    simp only [Except.ok.injEq] at hy
    subst hy
    obtain ⟨a, rfl⟩ := K.some hr
    exact ⟨a, rfl, hr, hb⟩
theorem number_err {r : Bs} {q : Int} (h : Px.number r = .error q) : q ≠ 0 := by
  unfold Px.number at h
  split at h
  · split at h
    · cases h
    · cases h; decide
  · cases h; decide
theorem set_err : ∀ (f : Nat) (acc : List Prt) (r : Bs) (q : Int), Px.set f acc r = .error q → q ≠ 0
  | 0, _, _, _, h => by cases h; decide
  | f + 1, acc, r, q, h => by
    rw [Px.set] at h
    split at h
    · cases h
    · split at h
      · rename_i e hn; cases h; exact number_err hn
      · split at h
        · split at h
          · rename_i e hn; cases h; exact number_err hn
          · split at h
            · cases h; decide
            · exact set_err f _ _ q h
        · exact set_err f _ _ q h
def NoErr (ch : Bs → Except Int (List (List Nd) × Bs)) : Prop := ∀ r q, ch r = .error q → q ≠ 0
theorem atom_err {ch : Bs → Except Int (List (List Nd) × Bs)} (hc : NoErr ch) {r : Bs} {q : Int} (h : Px.atom ch r = .error q) : q ≠ 0 := by
  unfold Px.atom at h
  split at h
  · cases h
  · split at h
    · split at h
      · rename_i e hs; cases h; exact set_err _ _ _ _ hs
      · cases h
    · split at h
      · split at h
        · rename_i e hs; cases h; exact hc _ _ hs
        · split at h
          · cases h
          · cases h; decide
      · split at h
        · rename_i e hs; cases h; exact number_err hs
        · cases h
theorem item_err {ch : Bs → Except Int (List (List Nd) × Bs)} (hc : NoErr ch) {r : Bs} {q : Int} (h : Px.item ch r = .error q) : q ≠ 0 := by
  unfold Px.item at h
  split at h
  · rename_i e hs; cases h; exact atom_err hc hs
  · split at h <;> cases h
theorem row_err {ch : Bs → Except Int (List (List Nd) × Bs)} (hc : NoErr ch) : ∀ (f : Nat) (acc : List Nd) (r : Bs) (q : Int), Px.row ch f acc r = .error q → q ≠ 0
  | 0, _, _, _, h => by cases h; decide
  | f + 1, acc, r, q, h => by
    rw [Px.row] at h
    split at h
    · cases h
    · split at h
      · split at h
        · rename_i e hs; cases h; exact item_err hc hs
        · exact row_err hc f _ _ q h
      · cases h
theorem rows_err {ch : Bs → Except Int (List (List Nd) × Bs)} (hc : NoErr ch) : ∀ (f : Nat) (acc : List (List Nd)) (r : Bs) (q : Int), Px.rows ch f acc r = .error q → q ≠ 0
  | 0, _, _, _, h => by cases h; decide
  | f + 1, acc, r, q, h => by
    rw [Px.rows] at h
    split at h
    · rename_i e hs; cases h; exact row_err hc _ _ _ _ hs
    · split at h
      · exact rows_err hc f _ _ q h
      · cases h
theorem choice_err : ∀ d, NoErr (Px.choice d)
  | 0 => fun r q h => by cases h; decide
  | d + 1 => fun r q h => rows_err (choice_err d) _ _ r q h
theorem err_ne {s : Bs} {q : Int} (h : Px.parse s = .error q) : q ≠ 0 := by
  unfold Px.parse at h
  by_cases hl : 64 < s.length
  · rw [if_pos hl] at h; cases h; decide
  · rw [if_neg hl] at h
    cases hc : Px.choice 8 (if Px.isAt s 94 = true then Px.next s else s) with
    | error e => rw [hc] at h; cases h; exact choice_err 8 _ _ hc
    | ok z =>
      rw [hc] at h
      simp only at h
      by_cases hk : Px.skip (if Px.isAt z.2 36 = true then Px.next z.2 else z.2) = []
      · rw [if_pos hk] at h; cases h
      · rw [if_neg hk] at h; cases h; decide
theorem parse_bad {T : World → Prop} {Rep : World → Value → Xp → Prop} (K : Kit5 T Rep) (s : ByteArray) (q : Int) (h : Px.parse s.data.toList = .error q) (hs : s.size ≤ 2000) (W : World) (hT : T W) :
    Calls Tryz.prog 10 #[.string s] W fun e w' => e = .returned (.tuple #[.pointer none, .int .i64 q]) ∧ Below W.heap.size W w' := by
  refine (K.parse s hs W hT).mono ?_
  rintro e w' ⟨hb, ⟨q', hq, _, rfl⟩ | ⟨y, v, hy, _, _⟩⟩
  · rw [h] at hq
    simp only [Except.error.injEq] at hq
    subst hq
    exact ⟨rfl, hb⟩
  · rw [h] at hy; cases hy

theorem slot_lit (W : World) (l : List Int) (t : TypeId) : Is.slot (W.alloc (.cells (Is.cells l).toArray t)) (some ⟨W.heap.size, 0, none⟩) l := by
  refine .inr ⟨_, 0, rfl, fun j hj => ?_⟩
  rw [Nat.zero_add]
  simp [Is.cells, hj]

set_option maxHeartbeats 4000000 in
theorem lives_is {T : World → Prop} {Rep : World → Value → Xp → Prop} (K : Kit5 T Rep) (w : World) (hT : T w) : Calls Tryz.prog 9 #[] w fun e w' => e = .returned (.bool true) ∧ Below w.heap.size w w' := by
  have C1 := hide (parse_ok K ⟨#[94, 54, 53, 48, 48, 48, 32, 46, 42, 36]⟩ X1 px1 (by decide) w hT)
  have HT := hide hT
  clear hT
  go_enter Tryz.func9, Tryz.ntmps9
  go_wp2_with fail
  refine C1.out.mono ?_
  rintro e w1 ⟨a1, rfl, hr1, hb1⟩
  have B1 := hide hb1
  have R1 := hide hr1
  have C2 := hide (parse_ok K ⟨#[40, 49, 124, 50, 41, 43, 32, 51]⟩ X2 px2 (by decide) w1 (K.on HT.out hb1))
  clear C1 hr1 hb1
  go_wp2_with fail
  refine C2.out.mono ?_
  rintro e w2 ⟨a2, rfl, hr2, hb2⟩
  have B2 := hide (bthen B1.out hb2)
  have R2 := hide hr2
  have D2 := hide (K.rep R1.out hb2)
  have ba := balloc (brefl w2) (.cells #[.int .i64 65000, .int .i64 1, .int .i64 2] 3)
  have B3 := hide (bthen B2.out ba)
  have R3 := hide (K.rep R2.out ba)
  have D3 := hide (K.rep D2.out ba)
  have C3 := hide (K.meets _ X1 _ 3 [65000, 1, 2] true ⟨fun _ => ⟨by decide, m1⟩, fun _ => rfl⟩ _ (K.on HT.out B3.out) D3.out (slot_lit w2 [65000, 1, 2] 3) (by decide))
  clear C2 hr2 hb2 B1 R1 ba R2 D2 B2
  go_wp2_with fail
  generalize w2.alloc (.cells #[.int .i64 65000, .int .i64 1, .int .i64 2] 3) = W3 at *
  refine C3.out.mono ?_
  rintro e w3 ⟨rfl, hb3⟩
  have ba := balloc (brefl w3) (.cells #[.int .i64 1, .int .i64 65000] 3)
  have B4 := hide (bthen (bthen B3.out hb3) ba)
  have R4 := hide (K.rep (K.rep R3.out hb3) ba)
  have D4 := hide (K.rep (K.rep D3.out hb3) ba)
  have C4 := hide (K.meets _ X1 _ 2 [1, 65000] false ⟨fun h => (by cases h), fun h => absurd h.2 m2⟩ _ (K.on HT.out B4.out) D4.out (slot_lit w3 [1, 65000] 3) (by decide))
  clear C3 hb3 B3 R3 D3 ba
  go_wp2_with fail
  generalize w3.alloc (.cells #[.int .i64 1, .int .i64 65000] 3) = W4 at *
  refine C4.out.mono ?_
  rintro e w4 ⟨rfl, hb4⟩
  have ba := balloc (brefl w4) (.cells #[.int .i64 7, .int .i64 1, .int .i64 2, .int .i64 3, .int .i64 9] 3)
  have B5 := hide (bthen (bthen B4.out hb4) ba)
  have R5 := hide (K.rep (K.rep R4.out hb4) ba)
  have C5 := hide (K.meets _ X2 _ 5 [7, 1, 2, 3, 9] true ⟨fun _ => ⟨by decide, m3⟩, fun _ => rfl⟩ _ (K.on HT.out B5.out) R5.out (slot_lit w4 [7, 1, 2, 3, 9] 3) (by decide))
  clear C4 hb4 B4 R4 D4 ba
  go_wp2_with fail
  generalize w4.alloc (.cells #[.int .i64 7, .int .i64 1, .int .i64 2, .int .i64 3, .int .i64 9] 3) = W5 at *
  refine C5.out.mono ?_
  rintro e w5 ⟨rfl, hb5⟩
  have B6 := hide (bthen B5.out hb5)
  have C6 := hide (K.text _ X2 ⟨#[40, 49, 124, 50, 41, 43, 32, 51]⟩ (by rw [tx2]) w5 (K.on HT.out B6.out) (K.rep R5.out hb5))
  clear C5 hb5 B5 R5
  go_wp2_with fail
  refine C6.out.mono ?_
  rintro e w6 ⟨rfl, hb6⟩
  go_wp2_with fail
  go_ret
  exact ⟨rfl, bthen B6.out hb6⟩
end Go.Proofs.YtbceoinhmpnjaaaGreatDoor

/- The law AsreBack, over the contracts of the program's functions. -/
namespace Go.Proofs.YtbceoinhmpnjaaaGreatDoor
open Go.RowKit Go.Sort

theorem bool_of (P : Prop) : ∃ b : Bool, (b = true ↔ P) := by
  by_cases h : P
  · exact ⟨true, fun _ => h, fun _ => rfl⟩
  · exact ⟨false, fun e => (by cases e), fun e => absurd e h⟩
theorem ba_size (l : Bs) : (⟨l.toArray⟩ : ByteArray).size = l.length := by
  show l.toArray.size = _
  simp
theorem ba_list (l : Bs) : (⟨l.toArray⟩ : ByteArray).data.toList = l := by simp

theorem back_long {T : World → Prop} {Rep : World → Value → Xp → Prop} (K : Kit5 T Rep) (s : ByteArray) (ao : Option Addr) (n ca : Nat) (w : World) (hT : T w) (h : 64 < s.size ∨ (s.size ≤ 64 ∧ 300 < n)) :
    Calls Tryz.prog 5 #[.string s, .slice ao n ca] w fun e w' => e = .returned (.bool true) ∧ Below w.heap.size w w' := by
  have CL := hide (lives_is K w hT)
  clear hT
  rcases h with h | ⟨h, h2⟩
  · have h1 : (64 : Int) < (s.size : Int) := by omega
    go_enter Tryz.func5, Tryz.ntmps5
    go_wp2_with fail
    refine CL.out.mono ?_
    rintro e w1 ⟨rfl, hb1⟩
    go_wp2_with fail
    go_ret
    exact ⟨rfl, hb1⟩
  · have h1 : ¬ (64 : Int) < (s.size : Int) := by omega
    have h3 : (300 : Int) < (n : Int) := by omega
    go_enter Tryz.func5, Tryz.ntmps5
    go_wp2_with fail
    refine CL.out.mono ?_
    rintro e w1 ⟨rfl, hb1⟩
    go_wp2_with fail
    go_ret
    exact ⟨rfl, hb1⟩

set_option maxHeartbeats 8000000 in
theorem back_short {T : World → Prop} {Rep : World → Value → Xp → Prop} (K : Kit5 T Rep) (s : ByteArray) (ao : Option Addr) (ca : Nat) (l : List Int) (w : World) (hT : T w) (hA : Is.slot w ao l) (hs : s.size ≤ 64) (hl : l.length ≤ 300) :
    Calls Tryz.prog 5 #[.string s, .slice ao l.length ca] w fun e w' => e = .returned (.bool true) ∧ Below w.heap.size w w' := by
  have hs' : ¬ (64 : Int) < (s.size : Int) := by omega
  have hl' : ¬ (300 : Int) < (l.length : Int) := by omega
  have HT := hide (fun W (hW : Below w.heap.size w W) => K.on hT hW)
  have HA := hide (fun W (hW : Below w.heap.size w W) => Is.slot_below hA hW)
  have CL := hide (fun W (hW : Below w.heap.size w W) => lives_is K W (K.on hT hW))
  cases hp : Px.parse s.data.toList with
  | error q =>
    have hq := err_ne hp
    have CP := hide (parse_bad K s q hp (by omega) w hT)
    clear hT hA hp
    have hq' : (q == 0) = false := by simpa using hq
    go_enter Tryz.func5, Tryz.ntmps5
    go_wp2_with fail
    refine CP.out.mono ?_
    rintro e w1 ⟨rfl, hb1⟩
    have B1 := hide hb1
    clear hb1 CP
    go_wp2_with fail
    refine (CL.out _ B1.out).mono ?_
    rintro e w2 ⟨rfl, hb2⟩
    go_wp2_with fail
    go_ret
    exact ⟨rfl, bthen B1.out hb2⟩
  | ok x =>
    have CP := hide (parse_ok K s x hp (by omega) w hT)
    obtain ⟨t, ht⟩ : ∃ t : ByteArray, t = ⟨(Px.text x).toArray⟩ := ⟨_, rfl⟩
    have hts : t.size = (Px.text x).length := by rw [ht]; exact ba_size _
    have htl : t.data.toList = Px.text x := by rw [ht]
    have CT := hide (fun v W (hW : Below w.heap.size w W) hR => K.text v x t ht W (K.on hT hW) hR)
    by_cases h64 : 64 < t.size
    · have h64' : (64 : Int) < (t.size : Int) := by omega
      clear hT hA hp hts htl ht
      go_enter Tryz.func5, Tryz.ntmps5
      go_wp2_with fail
      refine CP.out.mono ?_
      rintro e w1 ⟨a, rfl, hr1, hb1⟩
      have B1 := hide hb1
      have R1 := hide hr1
      clear hb1 hr1 CP
      go_wp2_with fail
      refine (CT.out _ _ B1.out R1.out).mono ?_
      rintro e w2 ⟨rfl, hb2⟩
      have B2 := hide (bthen B1.out hb2)
      clear hb2
      go_wp2_with fail
      refine (CL.out _ B2.out).mono ?_
      rintro e w3 ⟨rfl, hb3⟩
      go_wp2_with fail
      go_ret
      exact ⟨rfl, bthen B2.out hb3⟩
    · have h64' : ¬ (64 : Int) < (t.size : Int) := by omega
      have CP2 := hide (fun W (hW : Below w.heap.size w W) => parse_ok K t x (by rw [htl]; exact parse_text hp (by omega)) (by omega) W (K.on hT hW))
      have CZ := hide (fun v W (hW : Below w.heap.size w W) hR => K.size v x W (K.on hT hW) hR)
      obtain ⟨bm, hbm⟩ := bool_of (Is.may l = true ∧ Ex.Meets x l)
      obtain ⟨bw, hbw⟩ := bool_of (Is.may l = true ∧ Ex.Whole x l)
      have CM := hide (fun v W (hW : Below w.heap.size w W) hR => K.meets v x ao ca l bm hbm W (K.on hT hW) hR (Is.slot_below hA hW) (by omega))
      have CW := hide (fun v W (hW : Below w.heap.size w W) hR => K.whole v x ao ca l bw hbw W (K.on hT hW) hR (Is.slot_below hA hW) (by omega))
      clear hT hA hp hts htl ht hbm hbw
      generalize Nd.sizeRows x.2.2 = z at *
      go_enter Tryz.func5, Tryz.ntmps5
      go_wp2_with fail
      refine CP.out.mono ?_
      rintro e w1 ⟨a, rfl, hr1, hb1⟩
      have B1 := hide hb1
      have R1 := hide hr1
      clear hb1 hr1 CP
      go_wp2_with fail
      refine (CT.out _ _ B1.out R1.out).mono ?_
      rintro e w2 ⟨rfl, hb2⟩
      have B2 := hide (bthen B1.out hb2)
      have R2 := hide (K.rep R1.out hb2)
      clear hb2 B1 R1
      go_wp2_with fail
      refine (CT.out _ _ B2.out R2.out).mono ?_
      rintro e w3 ⟨rfl, hb3⟩
      have B3 := hide (bthen B2.out hb3)
      have R3 := hide (K.rep R2.out hb3)
      clear hb3 B2 R2
      go_wp2_with fail
      refine (CP2.out _ B3.out).mono ?_
      rintro e w4 ⟨b, rfl, hs4, hb4⟩
      have B4 := hide (bthen B3.out hb4)
      have R4 := hide (K.rep R3.out hb4)
      have S4 := hide hs4
      clear hb4 B3 R3 hs4 CP2
      go_wp2_with fail
      refine (CT.out _ _ B4.out S4.out).mono ?_
      rintro e w5 ⟨rfl, hb5⟩
      have B5 := hide (bthen B4.out hb5)
      have R5 := hide (K.rep R4.out hb5)
      have S5 := hide (K.rep S4.out hb5)
      clear hb5 B4 R4 S4
      go_wp2_with fail
      refine (CT.out _ _ B5.out R5.out).mono ?_
      rintro e w6 ⟨rfl, hb6⟩
      have B6 := hide (bthen B5.out hb6)
      have R6 := hide (K.rep R5.out hb6)
      have S6 := hide (K.rep S5.out hb6)
      clear hb6 B5 R5 S5
      go_wp2_with fail
      refine (CZ.out _ _ B6.out S6.out).mono ?_
      rintro e w7 ⟨rfl, hb7⟩
      have B7 := hide (bthen B6.out hb7)
      have R7 := hide (K.rep R6.out hb7)
      have S7 := hide (K.rep S6.out hb7)
      clear hb7 B6 R6 S6
      go_wp2_with fail
      refine (CZ.out _ _ B7.out R7.out).mono ?_
      rintro e w8 ⟨rfl, hb8⟩
      have B8 := hide (bthen B7.out hb8)
      have R8 := hide (K.rep R7.out hb8)
      have S8 := hide (K.rep S7.out hb8)
      clear hb8 B7 R7 S7
      go_wp2_with fail
      refine (CM.out _ _ B8.out S8.out).mono ?_
      rintro e w9 ⟨rfl, hb9⟩
      have B9 := hide (bthen B8.out hb9)
      have R9 := hide (K.rep R8.out hb9)
      have S9 := hide (K.rep S8.out hb9)
      clear hb9 B8 R8 S8
      go_wp2_with fail
      refine (CM.out _ _ B9.out R9.out).mono ?_
      rintro e w10 ⟨rfl, hb10⟩
      have B10 := hide (bthen B9.out hb10)
      have R10 := hide (K.rep R9.out hb10)
      have S10 := hide (K.rep S9.out hb10)
      clear hb10 B9 R9 S9
      go_wp2_with fail
      refine (CW.out _ _ B10.out S10.out).mono ?_
      rintro e w11 ⟨rfl, hb11⟩
      have B11 := hide (bthen B10.out hb11)
      have R11 := hide (K.rep R10.out hb11)
      clear hb11 B10 R10 S10
      go_wp2_with fail
      refine (CW.out _ _ B11.out R11.out).mono ?_
      rintro e w12 ⟨rfl, hb12⟩
      have B12 := hide (bthen B11.out hb12)
      clear hb12 B11 R11
      go_wp2_with fail
      refine (CL.out _ B12.out).mono ?_
      rintro e w13 ⟨rfl, hb13⟩
      go_wp2_with fail
      go_ret
      exact ⟨rfl, bthen B12.out hb13⟩
theorem back_law {T : World → Prop} {Rep : World → Value → Xp → Prop} (K : Kit5 T Rep) (s : ByteArray) (ao : Option Addr) (ca : Nat) (l : List Int) (w : World) (hT : T w) (hA : Is.slot w ao l) :
    Calls Tryz.prog 5 #[.string s, .slice ao l.length ca] w fun e w' => e = .returned (.bool true) ∧ Below w.heap.size w w' := by
  by_cases hs : s.size ≤ 64
  · by_cases hl : l.length ≤ 300
    · exact back_short K s ao ca l w hT hA hs hl
    · exact back_long K s ao _ ca w hT (.inr ⟨hs, by omega⟩)
  · exact back_long K s ao _ ca w hT (.inl (by omega))
end Go.Proofs.YtbceoinhmpnjaaaGreatDoor

