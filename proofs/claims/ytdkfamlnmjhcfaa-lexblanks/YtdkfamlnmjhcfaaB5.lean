/- Tokens as they lie there; the contract of the document's Join. -/
import Derived.Test.YtdkfamlnmjhcfaaB3
namespace Go.Proofs.Ytdkfamlnmjhcfaa
open Go.RowKit Go.Sort

/-- A token as it lies there. -/
structure Tv where
  k : Int
  s : ByteArray
  p : Int
  q : Int
def Tok.tv (l : List UInt8) (t : Tok) : Tv := ⟨(t.kind : Int), txt t.s, ((plc l t.at_).1 : Nat), ((plc l t.at_).2 : Nat)⟩
def Tv.at_ (w : World) (b off : Nat) (x : Tv) : Prop := w.cell? ⟨b, off, none⟩ = some (.int .i64 x.k) ∧ w.cell? ⟨b, off + 1, none⟩ = some (.string x.s) ∧ w.cell? ⟨b, off + 2, none⟩ = some (.int .i64 x.p) ∧ w.cell? ⟨b, off + 3, none⟩ = some (.int .i64 x.q)
def Tv.slot (w : World) (ao : Option Addr) (l : List Tv) : Prop := l = [] ∨ ∃ b off, ao = some ⟨b, off, none⟩ ∧ ∀ j (h : j < l.length), Tv.at_ w b (off + j * 4) l[j]
theorem Tv.slot_below {w w' : World} {ao : Option Addr} {l : List Tv} (h : Tv.slot w ao l) (hb : Below w.heap.size w w') : Tv.slot w' ao l := by
  rcases h with h | ⟨b, off, h, hr⟩
  · exact .inl h
  · refine .inr ⟨b, off, h, fun j hj => ?_⟩
    have hlt := World.block_lt_of_cell? w _ (hr j hj).1
    have k : ∀ o, w'.cell? ⟨b, o, none⟩ = w.cell? ⟨b, o, none⟩ := fun o => hb.cell (p := ⟨b, o, none⟩) hlt
    unfold Tv.at_
    simp only [k]
    exact hr j hj
/-- A token's bytes. -/
def Tv.own (t : Tv) : List UInt8 := if t.k = 2 then lst t.s ++ [10] else if t.k = 1 then [34] ++ lst t.s ++ [34] else lst t.s
def Tv.piece (t : Tv) (more : Bool) : List UInt8 := if t.k = 2 then t.own else if more then t.own ++ [32] else t.own
/-- Tokens joined. -/
def join : List Tv → List UInt8
  | [] => []
  | t :: r => t.piece (!r.isEmpty) ++ join r
theorem join_drop {l : List Tv} {i : Nat} (h : i < l.length) : join (l.drop i) = l[i].piece (decide (i + 1 < l.length)) ++ join (l.drop (i + 1)) := by
  rw [List.drop_eq_getElem_cons h, join]
  congr 2
  by_cases h' : i + 1 < l.length
  · rw [decide_eq_true h']
    cases hd : l.drop (i + 1) with
    | nil => have := congrArg List.length hd; simp at this; omega
    | cons a r => rfl
  · rw [decide_eq_false h', List.drop_of_length_le (by omega)]
    rfl
theorem lst_append (a b : ByteArray) : lst (a ++ b) = lst a ++ lst b := by simp [lst]
theorem one_size (c : UInt8) : (ByteArray.mk #[c]).size = 1 := rfl
theorem str_ret {a b : ByteArray} (h : lst a = lst b) : Ending.returned (.string a) = .returned (.string b) := by
  rw [show a = b from ByteArray.ext (Array.ext' h)]
set_option maxHeartbeats 1000000 in
set_option maxRecDepth 100000 in
theorem refJoin_is (ao : Option Addr) (c : Nat) (l : List Tv) (hl : l.length ≤ 100000) (hz : ∀ t ∈ l, t.s.size ≤ 100000) (w : World) (hr : Tv.slot w ao l) :
    Calls Try.prog 10 #[.slice ao l.length c] w fun e w' => e = .returned (.string (txt (join l))) ∧ w = w' := by
  have HR := hide hr
  have HZ := hide hz
  clear hr hz
  obtain ⟨N, hN⟩ : ∃ N, l.length = N := ⟨_, rfl⟩
  have HN := hide hN
  rw [hN] at hl ⊢
  clear hN
  go_enter Try.func10, Try.ntmps10
  go_wp2_with fail
  go_loopw [3, 4] (fun v3 v4 wr => ∃ (i : Nat) (x : ByteArray), v4 = .int .i64 (i : Int) ∧ v3 = .string x ∧ i ≤ N ∧ x.size ≤ i * 100010 ∧ Hid (lst x ++ join (l.drop i) = join l) ∧ w = wr) (fun _ v4 _ => N - (intOf v4).toNat)
  case atStart => exact ⟨0, _, rfl, rfl, Nat.zero_le _, Nat.zero_le _, rfl, rfl⟩
  case round =>
    obtain ⟨i, x, rfl, rfl, hi, hxz, HX, rfl⟩ := hrel
    rcases Nat.lt_or_ge i N with hlt | hge
    · have hil : i < l.length := by have := HN.out; omega
      have h1 : (i : Int) < (N : Int) := by omega
      have HD := hide (join_drop hil)
      obtain ⟨b, off, rfl, hat⟩ : ∃ b off, ao = some ⟨b, off, none⟩ ∧ ∀ j (h : j < l.length), Tv.at_ w b (off + j * 4) l[j] := by
        rcases HR.out with h | h
        · rw [h] at hil; simp at hil
        · exact h
      obtain ⟨c0, c1, _, _⟩ := hat i hil
      clear hat
      have htz := HZ.out l[i] (List.getElem_mem hil)
      have HL : Hid (decide (i + 1 < l.length) = decide (i + 1 < N)) := by show _ = _; rw [HN.out]
      generalize l[i] = t at *
      obtain ⟨tk, tt, tp, tq⟩ := t
      simp only at c0 c1 htz
      by_cases k2 : tk = 2
      · subst k2
        have HE : Hid (lst (x ++ tt ++ ⟨#[10]⟩) ++ join (l.drop (i + 1)) = join l) := by
          show _ = _
          rw [← HX.out, HD.out, lst_append, lst_append]
          simp [Tv.piece, Tv.own, lst]
        clear HX HD
        have hov1 : ¬ 9223372036854775807 < x.size + tt.size + 1 := by omega
        have hov0 : ¬ 9223372036854775807 < x.size + tt.size := by omega
        have hov2 : ¬ 9223372036854775807 < x.size + 1 + tt.size := by omega
        have hov3 : ¬ 9223372036854775807 < x.size + 1 + tt.size + 1 := by omega
        have hov4 : ¬ 9223372036854775807 < x.size + 1 + tt.size + 1 + 1 := by omega
        have hov5 : ¬ 9223372036854775807 < x.size + 1 := by omega
        go_wp2_with fail
        exact ⟨⟨i + 1, _, by go_num, rfl, by omega, by simp only [ByteArray.size_append, one_size]; omega, HE, trivial⟩, by simp [intOf]; omega⟩
      · have b2 : (tk == 2) = false := by rw [beq_eq_false_iff_ne]; exact k2
        by_cases k1 : tk = 1
        · subst k1
          by_cases hm : i + 1 < N
          · have HE : Hid (lst (x ++ ⟨#[34]⟩ ++ tt ++ ⟨#[34]⟩ ++ ⟨#[32]⟩) ++ join (l.drop (i + 1)) = join l) := by
              show _ = _
              rw [← HX.out, HD.out, HL.out, decide_eq_true hm]
              simp [Tv.piece, Tv.own, lst]
            have hm' : (i : Int) < (N : Int) - 1 := by omega
            clear HX HD
            have hov1 : ¬ 9223372036854775807 < x.size + tt.size + 1 := by omega
            have hov0 : ¬ 9223372036854775807 < x.size + tt.size := by omega
            have hov2 : ¬ 9223372036854775807 < x.size + 1 + tt.size := by omega
            have hov3 : ¬ 9223372036854775807 < x.size + 1 + tt.size + 1 := by omega
            have hov4 : ¬ 9223372036854775807 < x.size + 1 + tt.size + 1 + 1 := by omega
            have hov5 : ¬ 9223372036854775807 < x.size + 1 := by omega
            go_wp2_with fail
            exact ⟨⟨i + 1, _, by go_num, rfl, by omega, by simp only [ByteArray.size_append, one_size]; omega, HE, trivial⟩, by simp [intOf]; omega⟩
          · have HE : Hid (lst (x ++ ⟨#[34]⟩ ++ tt ++ ⟨#[34]⟩) ++ join (l.drop (i + 1)) = join l) := by
              show _ = _
              rw [← HX.out, HD.out, HL.out, decide_eq_false hm]
              simp [Tv.piece, Tv.own, lst]
            have hm' : ¬ (i : Int) < (N : Int) - 1 := by omega
            clear HX HD
            have hov1 : ¬ 9223372036854775807 < x.size + tt.size + 1 := by omega
            have hov0 : ¬ 9223372036854775807 < x.size + tt.size := by omega
            have hov2 : ¬ 9223372036854775807 < x.size + 1 + tt.size := by omega
            have hov3 : ¬ 9223372036854775807 < x.size + 1 + tt.size + 1 := by omega
            have hov4 : ¬ 9223372036854775807 < x.size + 1 + tt.size + 1 + 1 := by omega
            have hov5 : ¬ 9223372036854775807 < x.size + 1 := by omega
            go_wp2_with fail
            exact ⟨⟨i + 1, _, by go_num, rfl, by omega, by simp only [ByteArray.size_append, one_size]; omega, HE, trivial⟩, by simp [intOf]; omega⟩
        · have b1 : (tk == 1) = false := by rw [beq_eq_false_iff_ne]; exact k1
          by_cases hm : i + 1 < N
          · have HE : Hid (lst (x ++ tt ++ ⟨#[32]⟩) ++ join (l.drop (i + 1)) = join l) := by
              show _ = _
              rw [← HX.out, HD.out, HL.out, decide_eq_true hm]
              simp [Tv.piece, Tv.own, lst, k1, k2]
            have hm' : (i : Int) < (N : Int) - 1 := by omega
            clear HX HD
            have hov1 : ¬ 9223372036854775807 < x.size + tt.size + 1 := by omega
            have hov0 : ¬ 9223372036854775807 < x.size + tt.size := by omega
            have hov2 : ¬ 9223372036854775807 < x.size + 1 + tt.size := by omega
            have hov3 : ¬ 9223372036854775807 < x.size + 1 + tt.size + 1 := by omega
            have hov4 : ¬ 9223372036854775807 < x.size + 1 + tt.size + 1 + 1 := by omega
            have hov5 : ¬ 9223372036854775807 < x.size + 1 := by omega
            go_wp2_with fail
            exact ⟨⟨i + 1, _, by go_num, rfl, by omega, by simp only [ByteArray.size_append, one_size]; omega, HE, trivial⟩, by simp [intOf]; omega⟩
          · have HE : Hid (lst (x ++ tt) ++ join (l.drop (i + 1)) = join l) := by
              show _ = _
              rw [← HX.out, HD.out, HL.out, decide_eq_false hm]
              simp [Tv.piece, Tv.own, lst, k1, k2]
            have hm' : ¬ (i : Int) < (N : Int) - 1 := by omega
            clear HX HD
            have hov1 : ¬ 9223372036854775807 < x.size + tt.size + 1 := by omega
            have hov0 : ¬ 9223372036854775807 < x.size + tt.size := by omega
            have hov2 : ¬ 9223372036854775807 < x.size + 1 + tt.size := by omega
            have hov3 : ¬ 9223372036854775807 < x.size + 1 + tt.size + 1 := by omega
            have hov4 : ¬ 9223372036854775807 < x.size + 1 + tt.size + 1 + 1 := by omega
            have hov5 : ¬ 9223372036854775807 < x.size + 1 := by omega
            go_wp2_with fail
            exact ⟨⟨i + 1, _, by go_num, rfl, by omega, by simp only [ByteArray.size_append]; omega, HE, trivial⟩, by simp [intOf]; omega⟩
    · obtain rfl : i = N := by omega
      have h1 : ¬ (i : Int) < (i : Int) := by omega
      have HE : Hid (lst x = join l) := by
        show _ = _
        rw [← HX.out, List.drop_of_length_le (by have := HN.out; omega)]
        simp [join]
      clear HX
      go_wp2_with fail
      go_ret
      exact ⟨str_ret HE.out, rfl⟩
end Go.Proofs.Ytdkfamlnmjhcfaa
