/- The program's Scan. -/
import Derived.Test.YtdkfamlnmjhcfaaP4
import Derived.Test.YtdkfamlnmjhcfaaP5
namespace Go.Proofs.Ytdkfamlnmjhcfaa
open Go.RowKit Go.Sort

set_option maxHeartbeats 1000000 in
theorem clone_is (s : ByteArray) (hs : s.size ≤ 100000) (w : World) : Calls Try.prog 22 #[.string s] w fun e w' => e = .returned (.string s) ∧ Below w.heap.size w w' := by
  have C := hide (Try.stringslite_Clone s w (by omega))
  go_enter Try.func22, Try.ntmps22
  go_wp2_with fail
  refine C.out.mono ?_
  rintro e w1 ⟨rfl, hb⟩
  go_wp2_with fail
  go_ret
  exact ⟨rfl, hb⟩
theorem row_set {w : World} {B e size n : Nat} {v : Value} {xs : List Value} (h : w.ownsRow B e size v n xs) {p : Addr} (hp : p.block < B) (u : Value) : (w.setCell p u).ownsRow B e size v n xs := by
  obtain ⟨h1, h2⟩ := h
  refine ⟨h1, ?_⟩
  rcases h2 with h2 | ⟨g, cap, cur, hv, hB, hg, r⟩
  · exact .inl h2
  · exact .inr ⟨g, cap, cur, hv, hB, (Below.heap_setCell w p u g (by omega)).trans hg, r⟩
theorem row_set5 {w : World} {B e size n : Nat} {v : Value} {xs : List Value} (h : w.ownsRow B e size v n xs) {b : Nat} (hp : b < B) (v0 v1 v2 v3 v4 : Value) : (set5 w b v0 v1 v2 v3 v4).ownsRow B e size v n xs :=
  row_set (row_set (row_set (row_set (row_set h (p := ⟨b, 0, none⟩) hp v0) (p := ⟨b, 1, none⟩) hp v1) (p := ⟨b, 2, none⟩) hp v2) (p := ⟨b, 3, none⟩) hp v3) (p := ⟨b, 4, none⟩) hp v4
theorem row_base {w : World} {B B' e size n : Nat} {v : Value} {xs : List Value} (h : w.ownsRow B e size v n xs) (hb : B' ≤ B) : w.ownsRow B' e size v n xs := by
  obtain ⟨h1, h2⟩ := h
  refine ⟨h1, ?_⟩
  rcases h2 with h2 | ⟨g, cap, cur, hv, hB, r⟩
  · exact .inl h2
  · exact .inr ⟨g, cap, cur, hv, Nat.le_trans hb hB, r⟩
theorem blk_iff (c : UInt8) : blk c = true ↔ c.toNat = 32 ∨ c.toNat = 9 ∨ c.toNat = 13 ∨ c.toNat = 10 := by
  unfold blk
  simp only [Bool.or_eq_true, decide_eq_true_eq, or_assoc]
theorem bool_not {b : Bool} (h : ¬ b = true) : b = false := by cases b <;> simp_all
theorem rmk_iff (c : UInt8) : rmk c = true ↔ ¬ c.toNat = 10 := by
  unfold rmk
  rw [decide_eq_true_eq]
/-- Where a line begins. -/
def Lin (l : List UInt8) (k line start : Nat) : Prop := start ≤ k ∧ plc l k = (line, k - start + 1)
theorem Lin.zero (l : List UInt8) : Lin l 0 1 0 := ⟨Nat.le_refl _, rfl⟩
theorem Lin.ten {l : List UInt8} {k line start : Nat} (h : Lin l k line start) (hk : k < l.length) (hc : l[k].toNat = 10) : Lin l (k + 1) (line + 1) (k + 1) := by
  refine ⟨Nat.le_refl _, ?_⟩
  rw [plc_ten hk hc, h.2, Nat.sub_self]
theorem Lin.one {l : List UInt8} {k line start : Nat} (h : Lin l k line start) (hk : k < l.length) (hc : ¬ l[k].toNat = 10) : Lin l (k + 1) line start := by
  have := h.1
  refine ⟨by omega, ?_⟩
  rw [plc_one hk hc, h.2, show k + 1 - start = k - start + 1 by omega]
/-- No line ends within. -/
theorem Lin.more {l : List UInt8} {k line start : Nat} (h : Lin l k line start) (n : Nat) (hn : k + n ≤ l.length) (hc : ∀ c ∈ (l.drop k).take n, ¬ c.toNat = 10) : Lin l (k + n) line start := by
  induction n with
  | zero => exact h
  | succ n ih =>
    have hk : k + n < l.length := by omega
    have h1 := ih (by omega) (fun c hc' => hc c (List.mem_of_mem_take (i := n) (by rw [List.take_take, Nat.min_eq_left (Nat.le_succ _)]; exact hc')))
    refine h1.one hk (hc _ ?_)
    rw [List.mem_iff_getElem]
    refine ⟨n, by rw [List.length_take, List.length_drop]; omega, ?_⟩
    rw [List.getElem_take, List.getElem_drop]
/-- A token has no line's end within. -/
theorem bgn_line {r : List UInt8} {f n f' : Nat} {t : Option (Nat × List UInt8)} (h : bgn r f = .go n f' t) (hs : stp r f = bgn r f) : (∀ c ∈ r.take n, ¬ c.toNat = 10) ∧ n ≤ r.length ∧ 1 ≤ n := by
  have hne : r ≠ [] := by rintro rfl; cases h
  obtain ⟨s, rfl⟩ := bgn_go h
  obtain ⟨hg, ht, hl⟩ := stp_good (hs.trans h)
  have hp := stp_pos hne (hs.trans h)
  refine ⟨?_, hp.2, hp.1⟩
  rw [ht]
  intro c hc e
  rcases hg with ⟨rfl, _, hw, _⟩ | ⟨rfl, hw, _⟩ | ⟨rfl, d, rfl, hm⟩
  · rw [wr, if_neg (by decide)] at hc
    have := (ltr_facts (hw c hc)).1
    have hb := (blk_iff c).2 (.inr (.inr (.inr e)))
    rw [hb] at this
    cases this
  · rw [wr, if_pos rfl] at hc
    rcases List.mem_append.1 hc with hc | hc
    · rcases List.mem_append.1 hc with hc | hc
      · simp at hc
        subst hc
        cases e
      · have := hw c hc
        unfold txc at this
        simp only [Bool.and_eq_true, decide_eq_true_eq] at this
        omega
    · simp at hc
      subst hc
      cases e
  · rw [wr, if_neg (by decide)] at hc
    simp at hc
    subst hc
    have := (mrk_facts hm).1
    have hb := (blk_iff c).2 (.inr (.inr (.inr e)))
    rw [hb] at this
    cases this
theorem bgn_kind {r : List UInt8} {f n f' : Nat} {t : Option (Nat × List UInt8)} (h : bgn r f = .go n f' t) (hs : stp r f = bgn r f) : ∃ s, t = some (f', s) ∧ f' ≤ 2 ∧ s.length ≤ 64 := by
  obtain ⟨s, rfl⟩ := bgn_go h
  have hg := (stp_good (hs.trans h)).1
  refine ⟨s, rfl, ?_, good_size hg⟩
  rcases hg with ⟨rfl, _⟩ | ⟨rfl, _⟩ | ⟨rfl, _⟩ <;> decide
end Go.Proofs.Ytdkfamlnmjhcfaa
