/- Parts of a text: word, quoted, begin. -/
import Derived.Test.YtdkfamlnmjhcfaaP1
namespace Go.Proofs.Ytdkfamlnmjhcfaa
open Go.RowKit Go.Sort

/-- A part as it lies there. -/
def Stp.pc : Stp → Value
  | .fault n e => .agg #[.int .i64 0, .string ⟨#[]⟩, .int .i64 0, .int .i64 (n : Int), .int .i64 e]
  | .go n _ (some (k, s)) => .agg #[.int .i64 (k : Int), .string (txt s), .int .i64 (n : Int), .int .i64 0, .int .i64 0]
  | .go n _ none => .agg #[.int .i64 2, .string ⟨#[]⟩, .int .i64 (n : Int), .int .i64 0, .int .i64 0]
theorem pc_fault (n : Nat) (e : Int) : (Stp.fault n e).pc = .agg #[.int .i64 0, .string ⟨#[]⟩, .int .i64 0, .int .i64 (n : Int), .int .i64 e] := rfl
theorem pc_go (n a k : Nat) (s : List UInt8) : (Stp.go n a (some (k, s))).pc = .agg #[.int .i64 (k : Int), .string (txt s), .int .i64 (n : Int), .int .i64 0, .int .i64 0] := rfl
theorem five_cells {w : World} {b y : Nat} {x0 x1 x2 x3 x4 : Value} (h : w.heap[b]? = some (.cells #[x0, x1, x2, x3, x4] y (0, 0))) : (w.cell? ⟨b, 0, none⟩ = some x0 ∧ w.cell? ⟨b, 1, none⟩ = some x1 ∧ w.cell? ⟨b, 2, none⟩ = some x2 ∧ w.cell? ⟨b, 3, none⟩ = some x3 ∧ w.cell? ⟨b, 4, none⟩ = some x4) ∧ w.frozen? ⟨b, 0, none⟩ = false ∧ w.frozen? ⟨b, 1, none⟩ = false ∧ w.frozen? ⟨b, 2, none⟩ = false ∧ w.frozen? ⟨b, 3, none⟩ = false ∧ w.frozen? ⟨b, 4, none⟩ = false := by
  simp [World.cell?, World.frozen?, h]
/-- Five cells set. -/
abbrev set5 (w : World) (b : Nat) (v0 v1 v2 v3 v4 : Value) : World := ((((w.setCell ⟨b, 0, none⟩ v0).setCell ⟨b, 1, none⟩ v1).setCell ⟨b, 2, none⟩ v2).setCell ⟨b, 3, none⟩ v3).setCell ⟨b, 4, none⟩ v4
theorem five_set {w : World} {b t : Nat} {x0 x1 x2 x3 x4 : Value} (h : w.heap[b]? = some (.cells #[x0, x1, x2, x3, x4] t (0, 0))) (v0 v1 v2 v3 v4 : Value) : (set5 w b v0 v1 v2 v3 v4).heap[b]? = some (.cells #[v0, v1, v2, v3, v4] t (0, 0)) := by
  have h0 := heap_setCell_same w b 0 _ t v0 h
  have h1 := heap_setCell_same _ b 1 _ t v1 h0
  have h2 := heap_setCell_same _ b 2 _ t v2 h1
  have h3 := heap_setCell_same _ b 3 _ t v3 h2
  exact heap_setCell_same _ b 4 _ t v4 h3
theorem bset5 {w W : World} (h : Below w.heap.size w W) {b : Nat} (hp : w.heap.size ≤ b) (v0 v1 v2 v3 v4 : Value) : Below w.heap.size w (set5 W b v0 v1 v2 v3 v4) :=
  bset (bset (bset (bset (bset h (p := ⟨b, 0, none⟩) hp v0) (p := ⟨b, 1, none⟩) hp v1) (p := ⟨b, 2, none⟩) hp v2) (p := ⟨b, 3, none⟩) hp v3) (p := ⟨b, 4, none⟩) hp v4
theorem far5 {w : World} {b j : Nat} {x : Obj} (h : w.heap[j]? = some x) (hn : j ≠ b) (v0 v1 v2 v3 v4 : Value) : (set5 w b v0 v1 v2 v3 v4).heap[j]? = some x := set_far (set_far (set_far (set_far (set_far h hn) hn) hn) hn) hn
set_option maxHeartbeats 1000000 in
set_option maxRecDepth 100000 in
theorem word_is (s : ByteArray) (hs : s.size ≤ 100000) (w : World) : Calls Try.prog 29 #[.string s] w fun e w' => e = .returned (wrd (lst s)).pc ∧ Below w.heap.size w w' := by
  have N0 := hide (heap_new w #[.int .i64 0, .string ⟨#[]⟩, .int .i64 0, .int .i64 0, .int .i64 0] 56)
  have B0 := hide (balloc (brefl w) (.cells #[.int .i64 0, .string ⟨#[]⟩, .int .i64 0, .int .i64 0, .int .i64 0] 56))
  obtain ⟨p, hp⟩ : ∃ p, w.heap.size = p := ⟨_, rfl⟩
  have HPW : Hid (w.heap.size ≤ p) := Nat.le_of_eq hp
  rw [hp] at N0
  have R := hide (run_is inWord_is s hs)
  have hle := takeWhile_le ltr (lst s)
  rw [lst_size] at hle
  have HW : Hid (wrd (lst s) = if 32 < ((lst s).takeWhile ltr).length then .fault 0 2 else .go ((lst s).takeWhile ltr).length 0 (some (0, (lst s).takeWhile ltr))) := rfl
  have HX : Hid (s.extract 0 ((lst s).takeWhile ltr).length = txt ((lst s).takeWhile ltr)) := by
    show _ = _
    rw [extract_txt, List.drop_zero, Nat.sub_zero, take_takeWhile]
  generalize wrd (lst s) = V at *
  generalize (lst s).takeWhile ltr = l at *
  obtain ⟨n, hn⟩ : ∃ n, l.length = n := ⟨_, rfl⟩
  rw [hn] at R HW HX hle
  go_enter Try.func29, Try.ntmps29
  go_upto_region 1 with fail
  generalize w.alloc (.cells #[.int .i64 0, .string ⟨#[]⟩, .int .i64 0, .int .i64 0, .int .i64 0] 56) = W at *
  clear hp hn
  obtain ⟨⟨z0, z1, z2, z3, z4⟩, y0, y1, y2, y3, y4⟩ := five_cells N0.out
  by_cases h32 : 32 < n
  · have h32' : (32 : Int) < (n : Int) := by omega
    have P3 := hide (five_set N0.out (.int .i64 0) (.string ⟨#[]⟩) (.int .i64 0) (.int .i64 0) (.int .i64 2))
    have B3 := hide (bset5 B0.out HPW.out (.int .i64 0) (.string ⟨#[]⟩) (.int .i64 0) (.int .i64 0) (.int .i64 2))
    have HV : Hid (V = .fault 0 2) := by show _ = _; rw [HW.out, if_pos h32]
    clear HW
    go_wp2_with (refine (R.out _).mono ?_; rintro e w1 ⟨rfl, rfl⟩)
    rw [HV.out]
    refine bodyPost_ret (v := .agg #[.int .i64 0, .string ⟨#[]⟩, .int .i64 0, .int .i64 0, .int .i64 2]) ?_ rfl ⟨rfl, B3.out⟩
    obtain ⟨⟨t0, t1, t2, t3, t4⟩, _⟩ := five_cells P3.out
    simp [results, Try.results29, go_sem, t0, t1, t2, t3, t4]
  · have h32' : ¬ (32 : Int) < (n : Int) := by omega
    have hn1 : (n : Int) ≤ (s.size : Int) := by omega
    have hn0 : (0 : Int) ≤ (n : Int) := by omega
    have P3 := hide (five_set N0.out (.int .i64 0) (.string (s.extract 0 n)) (.int .i64 (n : Int)) (.int .i64 0) (.int .i64 0))
    have B3 := hide (bset5 B0.out HPW.out (.int .i64 0) (.string (s.extract 0 n)) (.int .i64 (n : Int)) (.int .i64 0) (.int .i64 0))
    have HV : Hid (V = .go n 0 (some (0, l))) := by show _ = _; rw [HW.out, if_neg h32]
    clear HW hle h32
    go_upto_region 4 with (refine (R.out _).mono ?_; rintro e w1 ⟨rfl, rfl⟩)
    go_wp2_with (refine (R.out _).mono ?_; rintro e w1 ⟨rfl, rfl⟩)
    rw [HV.out, pc_go, ← HX.out]
    refine bodyPost_ret (v := .agg #[.int .i64 0, .string (s.extract 0 n), .int .i64 (n : Int), .int .i64 0, .int .i64 0]) ?_ rfl ⟨rfl, B3.out⟩
    obtain ⟨⟨t0, t1, t2, t3, t4⟩, _⟩ := five_cells P3.out
    simp [results, Try.results29, go_sem, t0, t1, t2, t3, t4]
end Go.Proofs.Ytdkfamlnmjhcfaa
