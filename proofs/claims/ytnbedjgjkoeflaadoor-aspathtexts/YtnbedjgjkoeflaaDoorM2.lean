/- Texts cut at blanks, trimmed of digits, and read as numbers: the mathematics. -/
import Derived.Test.YtnbedjgjkoeflaaDoorH10
import Derived.Lib.SplitLaws
import Derived.Lib.SlTrimSet
import Derived.Lib.AtoiAllCases
namespace Go.Proofs.YtnbedjgjkoeflaaDoor

theorem splitK_one_zero (k : Nat) (r : List UInt8) : Lib.splitK [32] 0 (k + 1) (32 :: r) = [] :: Lib.splitK [32] 0 k r := by
  have h : Lib.index (32 :: r) [32] = 0 := by simp [Lib.index, List.isPrefixOf]
  rw [Lib.splitK, h]
  simp
theorem splitK_one_cons (c : UInt8) (h : c ≠ 32) : ∀ (k : Nat) (r : List UInt8), ∃ f fs, Lib.splitK [32] 0 k r = f :: fs ∧ Lib.splitK [32] 0 k (c :: r) = (c :: f) :: fs
  | 0, r => ⟨r, [], rfl, rfl⟩
  | k + 1, r => by
    have hp : ([32] : List UInt8).isPrefixOf (c :: r) = false := by
      simp [List.isPrefixOf]
      exact fun e => h e.symm
    have hi : Lib.index (c :: r) [32] = if Lib.index r [32] == -1 then -1 else Lib.index r [32] + 1 := by
      rw [Lib.index, hp]
      simp
    have hge := Lib.index_ge r [32]
    by_cases hm : Lib.index r [32] = -1
    · refine ⟨r, [], ?_, ?_⟩
      · rw [Lib.splitK, hm]; simp
      · rw [Lib.splitK, hi, hm]; simp
    · have hb : (Lib.index r [32] == -1) = false := by simpa using hm
      have h2 : (Lib.index r [32] + 1 == -1) = false := by simp; omega
      refine ⟨r.take (Lib.index r [32]).toNat, Lib.splitK [32] 0 k (r.drop ((Lib.index r [32]).toNat + 1)), ?_, ?_⟩
      · rw [Lib.splitK, hb]; simp
      · rw [Lib.splitK, hi, hb]
        simp only [Bool.false_eq_true, if_false, h2]
        rw [show (Lib.index r [32] + 1).toNat = (Lib.index r [32]).toNat + 1 by omega]
        simp
theorem splitK_is : ∀ l : List UInt8, Lib.splitK [32] 0 (Lib.count l [32]) l = Sp.split l
  | [] => rfl
  | c :: r => by
    have ih := splitK_is r
    by_cases h : c = 32
    · subst h
      rw [Lib.count_cons_eq, Nat.add_comm, splitK_one_zero, ih, Sp.split_blank]
    · obtain ⟨f, fs, h1, h2⟩ := splitK_one_cons c h (Lib.count r [32]) r
      rw [Lib.count_cons_ne c 32 r h, h2, Sp.split, if_neg h, ← ih, h1]
theorem splitB_is (s : ByteArray) : (Lib.splitB ⟨#[32]⟩ 0 (Lib.countB s ⟨#[32]⟩) s).map (·.data.toList) = Sp.split s.data.toList := by
  rw [Lib.splitB_data]
  exact splitK_is s.data.toList

theorem Sp.split_size (s f : List UInt8) (h : f ∈ Sp.split s) : f.length ≤ s.length := by
  induction s generalizing f with
  | nil => simp [Sp.split] at h; subst h; simp
  | cons c r ih =>
    unfold Sp.split at h
    split at h
    · rcases List.mem_cons.1 h with h | h
      · subst h; simp
      · have := ih f h; simp; omega
    · split at h
      · rename_i g gs hg
        rcases List.mem_cons.1 h with h | h
        · subst h
          have := ih g (by rw [hg]; simp)
          simp; omega
        · have := ih f (by rw [hg]; simp [h])
          simp; omega
      · simp at h; subst h; simp
theorem Sp.split_count (s : List UInt8) : (Sp.split s).length ≤ s.length + 1 := by
  induction s with
  | nil => simp [Sp.split]
  | cons c r ih =>
    unfold Sp.split
    split
    · simp; omega
    · split
      · rename_i g gs hg
        rw [hg] at ih
        simp at ih ⊢; omega
      · simp

/-- The ten digits. -/
def tens : List UInt8 := [48, 49, 50, 51, 52, 53, 54, 55, 56, 57]
theorem tens_dig (c : UInt8) : tens.contains c = Ad.dig c := by
  have e : ∀ k : UInt8, c = k ↔ c.toNat = k.toNat := fun k => ⟨fun h => by rw [h], fun h => UInt8.toNat_inj.1 h⟩
  rw [Bool.eq_iff_iff]
  unfold Ad.dig tens
  simp only [List.contains_eq_mem, List.mem_cons, List.not_mem_nil, or_false, decide_eq_true_eq, Bool.and_eq_true, e]
  have h1 : (48 : UInt8).toNat = 48 := rfl
  have h2 : (49 : UInt8).toNat = 49 := rfl
  have h3 : (50 : UInt8).toNat = 50 := rfl
  have h4 : (51 : UInt8).toNat = 51 := rfl
  have h5 : (52 : UInt8).toNat = 52 := rfl
  have h6 : (53 : UInt8).toNat = 53 := rfl
  have h7 : (54 : UInt8).toNat = 54 := rfl
  have h8 : (55 : UInt8).toNat = 55 := rfl
  have h9 : (56 : UInt8).toNat = 56 := rfl
  have h10 : (57 : UInt8).toNat = 57 := rfl
  omega
theorem drop_nil_iff {p : UInt8 → Bool} : ∀ l : List UInt8, l.dropWhile p = [] ↔ ∀ x ∈ l, p x = true
  | [] => by simp
  | c :: r => by
    have ih := drop_nil_iff (p := p) r
    rw [List.dropWhile_cons]
    cases h : p c
    · simp [h]
    · simp [h, ih]
theorem drop_head {p : UInt8 → Bool} : ∀ (l : List UInt8) (x : UInt8) (t : List UInt8), l.dropWhile p = x :: t → p x = false
  | [], _, _, h => by simp at h
  | c :: r, x, t, h => by
    rw [List.dropWhile_cons] at h
    cases hc : p c
    · rw [hc] at h
      simp at h
      rw [← h.1]; exact hc
    · rw [hc] at h
      simp at h
      exact drop_head r x t h
/-- Nothing is left, if all of it is digits. -/
theorem trim_digs (l : List UInt8) : (Lib.trimS l tens = []) ↔ Ad.digs l = true := by
  have hd : Ad.digs l = true ↔ ∀ x ∈ l, tens.contains x = true := by
    unfold Ad.digs
    rw [List.all_eq_true]
    exact ⟨fun h x hx => by rw [tens_dig]; exact h x hx, fun h x hx => by have := h x hx; rw [tens_dig] at this; exact this⟩
  rw [hd]
  unfold Lib.trimS Lib.trimLeftS Lib.trimRightS
  rw [drop_nil_iff]
  cases hr : l.reverse.dropWhile (tens.contains ·) with
  | nil =>
    have := (drop_nil_iff _).1 hr
    exact ⟨fun _ x hx => this x (by simpa using hx), fun _ x hx => by simp at hx⟩
  | cons y t =>
    have hy := drop_head _ y t hr
    constructor
    · intro h
      have := h y (by simp)
      rw [hy] at this
      cases this
    · intro h
      have : l.reverse.dropWhile (tens.contains ·) = [] := (drop_nil_iff _).2 fun x hx => h x (by simpa using hx)
      rw [hr] at this
      cases this

/-- Digits read on: the number that they spell, or it is too great. -/
theorem uint_digs (l : List UInt8) : ∀ (acc : Nat), Ad.digs l = true → (acc : Int) < 18446744073709551616 →
    (Lib.parseUint10 acc l = .ok (l.foldl (fun n c => 10 * n + ((c.toNat : Int) - 48)) (acc : Int)).toNat ∧ 0 ≤ l.foldl (fun n c => 10 * n + ((c.toNat : Int) - 48)) (acc : Int)) ∨
    (Lib.parseUint10 acc l = .range ∧ 18446744073709551616 ≤ l.foldl (fun n c => 10 * n + ((c.toNat : Int) - 48)) (acc : Int)) := by
  induction l with
  | nil =>
    intro acc _ _
    left
    rw [Lib.parseUint10, List.foldl_nil, Int.toNat_natCast]
    exact ⟨rfl, by omega⟩
  | cons c r ih0 =>
    intro acc h ha
    have h1 : Ad.dig c = true ∧ Ad.digs r = true := by
      unfold Ad.digs at h ⊢
      rw [List.all_cons, Bool.and_eq_true] at h
      exact h
    obtain ⟨hc0, hc1⟩ := Ad.dig_bd c h1.1
    have hmono : ∀ (l : List UInt8) (a b : Int), a ≤ b → 0 ≤ a → Ad.digs l = true → b ≤ l.foldl (fun n c => 10 * n + ((c.toNat : Int) - 48)) b ∨ b < 0 := by
      intro l
      induction l with
      | nil => intro a b _ _ _; left; simp
      | cons d t ih =>
        intro a b hab ha hd
        have h2 : Ad.dig d = true ∧ Ad.digs t = true := by
          unfold Ad.digs at hd ⊢
          rw [List.all_cons, Bool.and_eq_true] at hd
          exact hd
        obtain ⟨g0, g1⟩ := Ad.dig_bd d h2.1
        have hb : 0 ≤ b := by omega
        rcases ih (10 * b + ((d.toNat : Int) - 48)) (10 * b + ((d.toNat : Int) - 48)) (Int.le_refl _) (by omega) h2.2 with h3 | h3
        · left
          rw [List.foldl_cons]
          omega
        · omega
    rw [List.foldl_cons]
    have hpc : 48 ≤ c.toNat ∧ c.toNat ≤ 57 := by omega
    rw [Lib.parseUint10, if_pos hpc]
    by_cases hb : 1844674407370955162 ≤ acc
    · right
      rw [if_pos hb]
      refine ⟨rfl, ?_⟩
      rcases hmono r _ (10 * (acc : Int) + ((c.toNat : Int) - 48)) (Int.le_refl _) (by omega) h1.2 with h3 | h3 <;> omega
    · rw [if_neg hb]
      by_cases hb2 : 18446744073709551616 ≤ acc * 10 + (c.toNat - 48)
      · right
        rw [if_pos hb2]
        refine ⟨rfl, ?_⟩
        rcases hmono r _ (10 * (acc : Int) + ((c.toNat : Int) - 48)) (Int.le_refl _) (by omega) h1.2 with h3 | h3 <;> omega
      · rw [if_neg hb2]
        have := ih0 (acc * 10 + (c.toNat - 48)) h1.2 (by omega)
        rw [show ((acc * 10 + (c.toNat - 48) : Nat) : Int) = 10 * (acc : Int) + ((c.toNat : Int) - 48) by omega] at this
        exact this
theorem atoi_num (l : List UInt8) (h : Ad.isNum l = true) : (Lib.atoiAll l = .ok (Ad.num l)) ∨ (Lib.atoiAll l = .range ∧ 65535 < Ad.num l) := by
  have hd := isNum_digs h
  cases l with
  | nil => cases h
  | cons c r =>
    have hc : Ad.dig c = true := by
      unfold Ad.digs at hd
      rw [List.all_cons, Bool.and_eq_true] at hd
      exact hd.1
    obtain ⟨g0, g1⟩ := Ad.dig_bd c hc
    have hz : Lib.parseMag (c :: r) = Lib.parseUint10 0 (c :: r) := by simp [Lib.parseMag]
    rw [Lib.atoiAll_plain c r (by omega) (by omega), hz]
    rcases uint_digs (c :: r) 0 hd (by decide) with ⟨h1, h2⟩ | ⟨h1, h2⟩
    · rw [h1]
      have e : (c :: r).foldl (fun n c => 10 * n + ((c.toNat : Int) - 48)) ((0 : Nat) : Int) = Ad.num (c :: r) := rfl
      rw [e] at h2 ⊢
      unfold Lib.signless
      by_cases hb : 9223372036854775808 ≤ (Ad.num (c :: r)).toNat
      · right
        simp only [if_pos hb]
        exact ⟨trivial, by omega⟩
      · left
        simp only [if_neg hb]
        congr 1
        omega
    · right
      rw [h1]
      have e : (c :: r).foldl (fun n c => 10 * n + ((c.toNat : Int) - 48)) ((0 : Nat) : Int) = Ad.num (c :: r) := rfl
      rw [e] at h2
      exact ⟨rfl, by omega⟩
end Go.Proofs.YtnbedjgjkoeflaaDoor
