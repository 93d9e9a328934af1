/- What the program's Join writes. -/
import Derived.Test.YtdkfamlnmjhcfaaK1
import Derived.Test.YtdkfamlnmjhcfaaW3
namespace Go.Proofs.Ytdkfamlnmjhcfaa
open Go.RowKit Go.Sort

/-- What comes ahead of a token. -/
def sep (l : List Tv) : List UInt8 := match l.getLast? with
  | none => []
  | some x => if x.k = 2 then [] else [32]
theorem join_snoc (l : List Tv) (t : Tv) : join (l ++ [t]) = join l ++ sep l ++ t.own := by
  induction l with
  | nil =>
    show t.piece false ++ [] = [] ++ [] ++ t.own
    simp [Tv.piece]
  | cons a l ih =>
    rw [List.cons_append, join, ih, join]
    cases l with
    | nil =>
      simp only [List.nil_append, List.isEmpty_cons, Bool.not_false, List.isEmpty_nil, Bool.not_true, join, sep, List.getLast?_nil, List.getLast?_singleton, List.append_nil]
      unfold Tv.piece
      split <;> simp
    | cons b l =>
      simp only [List.cons_append, List.isEmpty_cons, Bool.not_false]
      have e : sep (a :: b :: l) = sep (b :: l) := by unfold sep; rw [List.getLast?_cons_cons]
      rw [e]
      simp only [List.append_assoc]
theorem join_take {l : List Tv} {i : Nat} (h : i < l.length) : join (l.take (i + 1)) = join (l.take i) ++ sep (l.take i) ++ l[i].own := by
  rw [List.take_succ_eq_append_getElem h, join_snoc]
theorem sep_zero (l : List Tv) : sep (l.take 0) = [] := rfl
theorem sep_succ {l : List Tv} {i : Nat} (h : i < l.length) : sep (l.take (i + 1)) = if l[i].k = 2 then [] else [32] := by
  unfold sep
  rw [List.take_succ_eq_append_getElem h, List.getLast?_concat]
theorem join_size (l : List Tv) (h : ∀ t ∈ l, t.s.size ≤ 1000) : (join l).length ≤ l.length * 1010 := by
  induction l with
  | nil => simp [join]
  | cons t l ih =>
    have h1 := ih (fun x hx => h x (List.mem_cons_of_mem _ hx))
    have h2 := h t (List.mem_cons_self ..)
    rw [join, List.length_append, List.length_cons]
    have h3 : (t.piece (!l.isEmpty)).length ≤ 1003 := by
      have e : (lst t.s).length = t.s.size := lst_size _
      unfold Tv.piece Tv.own
      repeat' split
      all_goals simp only [List.length_append, List.length_cons, List.length_nil, e]; omega
    omega
/-- A Builder is kept by what makes new memory. -/
theorem builder_below {T E B b : Nat} {bs : List Value} {w w' : World} (h : Lib.IsBuilder T E B b bs w) (hb : Below w.heap.size w w') : Lib.IsBuilder T E B b bs w' := by
  have k : ∀ p, Lib.BuilderAt T E B b p bs w → Lib.BuilderAt T E B b p bs w' := by
    rintro p ⟨hB, v, hbk, hown, hne⟩
    exact ⟨hB, v, (hb.block b (heap_lt hbk)).trans hbk, row_below hown hb, hne⟩
  rcases h with h | h
  · exact .inl (k _ h)
  · exact .inr (k _ h)
theorem four_cells {w : World} {b y : Nat} {x0 x1 x2 x3 : Value} (h : w.heap[b]? = some (.cells #[x0, x1, x2, x3] y (0, 0))) : w.cell? ⟨b, 0, none⟩ = some x0 ∧ w.cell? ⟨b, 1, none⟩ = some x1 ∧ w.cell? ⟨b, 2, none⟩ = some x2 ∧ w.cell? ⟨b, 3, none⟩ = some x3 := by
  simp [World.cell?, h]
set_option maxHeartbeats 1000000 in
theorem written_text (t : ByteArray) (p q : Int) (hz : t.size ≤ 1000) (w : World) : Calls Try.prog 17 #[.agg #[.int .i64 1, .string t, .int .i64 p, .int .i64 q]] w fun e w' => e = .returned (.string (⟨#[34]⟩ ++ t ++ ⟨#[34]⟩)) ∧ Below w.heap.size w w' := by
  have B0 := hide (balloc (brefl w) (.cells #[.int .i64 1, .string t, .int .i64 p, .int .i64 q] 38))
  have hov1 : ¬ 9223372036854775807 < 1 + t.size := by omega
  have hov2 : ¬ 9223372036854775807 < 1 + t.size + 1 := by omega
  go_enter Try.func17, Try.ntmps17
  go_wp2_with fail
  go_ret
  exact ⟨rfl, B0.out⟩
set_option maxHeartbeats 1000000 in
theorem written_plain (k : Int) (hk : ¬ k = 1) (t : ByteArray) (p q : Int) (w : World) : Calls Try.prog 17 #[.agg #[.int .i64 k, .string t, .int .i64 p, .int .i64 q]] w fun e w' => e = .returned (.string t) ∧ Below w.heap.size w w' := by
  have B0 := hide (balloc (brefl w) (.cells #[.int .i64 k, .string t, .int .i64 p, .int .i64 q] 38))
  have hkb : (k == 1) = false := by rw [beq_eq_false_iff_ne]; exact hk
  clear hk
  go_enter Try.func17, Try.ntmps17
  go_wp2_with fail
  go_ret
  exact ⟨rfl, B0.out⟩
end Go.Proofs.Ytdkfamlnmjhcfaa
