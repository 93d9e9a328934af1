import Derived.Laws.BitsAllLaws
import Derived.Test.YtkhmhmopcofejaaProg
import Derived.WalkKit
import Derived.WalkSpells
import Derived.WalkLawsBesides
import Derived.Deep.QuietTactic
import Derived.BigQuiet
import Derived.Lib.QuietBelow
import Derived.Deep.Cut
import Derived.Lib.Builder
import Derived.Laws.StructEq
import Derived.RegionTactic
/- Plain mathematics of prefixes of 32 bits: sizes, cuts, which may be, which has what; nothing of the program. -/
namespace Go.Proofs.Ytkhmhmopcofejaa.Ax.Ad
open Go

/-- How many addresses a prefix of b bits has. -/
def sz (b : Int) : Int := ((2 ^ (32 - b.toNat) : Nat) : Int)
/-- The first b bits of a, with 0 for the others. -/
def cut (a b : Int) : Int := a / sz b * sz b
def may (a b : Int) : Bool := decide (0 ≤ b ∧ b ≤ 32 ∧ cut a b = a)
def has (a b x : Int) : Bool := may a b && decide (cut x b = a)
def contains (a b c d : Int) : Bool := may c d && decide (b ≤ d) && has a b c
def before (a b c d : Int) : Bool := may a b && may c d && (if a = c then decide (b < d) else decide (a < c))
def last (a b : Int) : Int := if may a b = true then a + sz b - 1 else 0

theorem sz_pos (b : Int) : 0 < sz b := by
  unfold sz; have := Nat.two_pow_pos (32 - b.toNat); omega

theorem sz_dvd (b c : Int) (h : b ≤ c) : ∃ k : Int, 0 < k ∧ sz b = k * sz c := by
  refine ⟨((2 ^ ((32 - b.toNat) - (32 - c.toNat)) : Nat) : Int), ?_, ?_⟩
  · have := Nat.two_pow_pos ((32 - b.toNat) - (32 - c.toNat)); omega
  · unfold sz
    rw [← Int.natCast_mul, ← Nat.pow_add]
    congr 2
    omega

theorem sz_half (b : Int) (h0 : 0 ≤ b) (h : b ≤ 31) : sz b = 2 * sz (b + 1) := by
  unfold sz
  have e : 32 - b.toNat = (32 - (b + 1).toNat) + 1 := by omega
  rw [e, Nat.pow_succ]
  omega

theorem sz_32 : sz 32 = 1 := by decide
theorem sz_0 : sz 0 = 4294967296 := by decide

theorem sz_le (b : Int) (h0 : 0 ≤ b) : sz b ≤ 4294967296 := by
  obtain ⟨k, hk, e⟩ := sz_dvd 0 b h0
  rw [sz_0] at e
  have hp := sz_pos b
  have : 1 * sz b ≤ k * sz b := Int.mul_le_mul_of_nonneg_right (by omega) (by omega)
  omega

theorem cut_le (a b : Int) : cut a b ≤ a := by
  unfold cut
  have := Int.ediv_mul_le a (b := sz b) (by have := sz_pos b; omega)
  exact this

theorem cut_lt (a b : Int) : a < cut a b + sz b := by
  unfold cut
  have h := Int.lt_ediv_add_one_mul_self a (sz_pos b)
  rw [Int.add_mul, Int.one_mul] at h
  exact h

theorem cut_nonneg (a b : Int) (h : 0 ≤ a) : 0 ≤ cut a b := by
  unfold cut
  exact Int.mul_nonneg (Int.ediv_nonneg h (by have := sz_pos b; omega)) (by have := sz_pos b; omega)

/-- A multiple of a prefix's size, at most a, and less than a size away: that is the cut. -/
theorem cut_eq (a b q : Int) (h1 : q * sz b ≤ a) (h2 : a < q * sz b + sz b) : cut a b = q * sz b := by
  unfold cut
  have hp := sz_pos b
  have : a / sz b = q := by
    have l1 : q ≤ a / sz b := (Int.le_ediv_iff_mul_le hp).2 h1
    have l2 : a / sz b < q + 1 := (Int.ediv_lt_iff_lt_mul hp).2 (by rw [Int.add_mul]; omega)
    omega
  rw [this]

theorem cut_cut (a b c : Int) (h : b ≤ c) : cut (cut a c) b = cut a b := by
  obtain ⟨k, hk, e⟩ := sz_dvd b c h
  have hp := sz_pos c
  have hq := sz_pos b
  have e1 : cut a c / sz b = a / sz b := by
    have l1 : a / sz b ≤ cut a c / sz b := by
      refine (Int.le_ediv_iff_mul_le hq).2 ?_
      have : a / sz b * k ≤ a / sz c := by
        refine (Int.le_ediv_iff_mul_le hp).2 ?_
        have := Int.ediv_mul_le a (b := sz b) (by omega)
        rw [e] at this ⊢
        rw [Int.mul_assoc]
        exact this
      unfold cut
      have := Int.mul_le_mul_of_nonneg_right this (Int.le_of_lt hp)
      rw [Int.mul_assoc, ← e] at this
      exact this
    have l2 : cut a c / sz b ≤ a / sz b := Int.ediv_le_ediv hq (cut_le a c)
    omega
  unfold cut at *
  rw [e1]

theorem cut_zero (a : Int) (h0 : 0 ≤ a) (h1 : a < 4294967296) : cut a 0 = 0 := by
  have := cut_eq a 0 0 (by simpa using h0) (by rw [sz_0]; omega)
  simpa using this

theorem cut_idem (a b : Int) : cut (cut a b) b = cut a b := cut_cut a b b (Int.le_refl _)

theorem cut_mono (a c : Int) (i j : Int) (h : i ≤ j) (e : cut a j = cut c j) : cut a i = cut c i := by
  rw [← cut_cut a i j h, ← cut_cut c i j h, e]

theorem may_iff (a b : Int) : may a b = true ↔ 0 ≤ b ∧ b ≤ 32 ∧ cut a b = a := by unfold may; exact decide_eq_true_iff

/-- As the walk spells the cut. -/
theorem cut_bits (a b : Int) (h0 : 0 ≤ a) (h1 : a ≤ 4294967295) (hb : 0 ≤ b) (hb2 : b ≤ 32) :
    bits .andNot .u32 a (4294967295 / 2 ^ b.toNat) = cut a b := by
  obtain ⟨A, rfl⟩ := Int.eq_ofNat_of_zero_le h0
  obtain ⟨B, rfl⟩ := Int.eq_ofNat_of_zero_le hb
  have hB : B ≤ 32 := by omega
  have hA : A < 4294967296 := by omega
  have hpow : (4294967295 : Nat) / 2 ^ B = 2 ^ (32 - B) - 1 := by
    have : ∀ n : Fin 33, (4294967295 : Nat) / 2 ^ n.val = 2 ^ (32 - n.val) - 1 := by decide
    exact this ⟨B, by omega⟩
  have e1 : ((4294967295 : Int) / 2 ^ (Int.toNat (B : Int))) = (((4294967295 : Nat) / 2 ^ B : Nat) : Int) := by
    rw [Int.toNat_natCast]; simp
  rw [e1, hpow]
  have hlt : 2 ^ (32 - B) - 1 < 4294967296 := by
    have : (2 : Nat) ^ (32 - B) ≤ 2 ^ 32 := Nat.pow_le_pow_right (by decide) (by omega)
    omega
  rw [u32_andNot_nat A _ hA hlt]
  have e2 : cut (A : Int) (B : Int) = ((A / 2 ^ (32 - B) * 2 ^ (32 - B) : Nat) : Int) := by
    unfold cut sz
    rw [Int.toNat_natCast]; simp
  rw [e2]
  congr 1
  have hle : (2 : Nat) ^ (32 - B) ≤ 2 ^ 32 := Nat.pow_le_pow_right (by decide) (by omega)
  have hp := Nat.two_pow_pos (32 - B)
  have e3 : 4294967295 - (2 ^ (32 - B) - 1) = 2 ^ 32 - ((2 ^ (32 - B) - 1) + 1) := by omega
  rw [e3]
  apply Nat.eq_of_testBit_eq
  intro i
  rw [Nat.testBit_and, Nat.testBit_two_pow_sub_succ (by omega), Nat.testBit_two_pow_sub_one, Nat.testBit_mul_two_pow, Nat.testBit_div_two_pow]
  by_cases hi : 32 - B ≤ i
  · have : i - (32 - B) + (32 - B) = i := by omega
    by_cases h32 : i < 32
    · simp [hi, h32, this]
    · have hge : (2 : Nat) ^ 32 ≤ 2 ^ i := Nat.pow_le_pow_right (by decide) (by omega)
      have : A.testBit i = false := Nat.testBit_lt_two_pow (by omega)
      simp [*]
  · have h2 : i < 32 - B := by omega
    simp [hi, h2]
end Go.Proofs.Ytkhmhmopcofejaa.Ax.Ad

/- The contracts of addr's small functions: cut, May. -/
namespace Go.Proofs.Ytkhmhmopcofejaa.Ax
open Go.RowKit

theorem ret_int {k : IntKind} {a b : Int} (h : a = b) : Ending.returned (.int k a) = .returned (.int k b) := by rw [h]

set_option maxHeartbeats 400000 in
theorem cut_any (a b : Int) (w : World) (ha : 0 ≤ a) (ha2 : a ≤ 4294967295) (hb : 0 ≤ b) (hb2 : b ≤ 32) :
    Calls Try.prog 66 #[.int .u32 a, .int .i64 b] w fun e w' => e = .returned (.int .u32 (Ad.cut a b)) ∧ w' = w := by
  go_enter Try.func66, Try.ntmps66
  go_wp2
  go_ret
  exact ⟨ret_int (Ad.cut_bits a b ha ha2 hb hb2), rfl⟩

theorem ret_bool {a b : Bool} (h : a = b) : Ending.returned (.bool a) = .returned (.bool b) := by rw [h]

set_option maxHeartbeats 400000 in
theorem may_any (a b : Int) (w : World) (ha : 0 ≤ a) (ha2 : a ≤ 4294967295) :
    Calls Try.prog 42 #[.agg #[.int .u32 a, .int .i64 b]] w fun e w' => e = .returned (.bool (Ad.may a b)) ∧ Below w.heap.size w w' := by
  by_cases h0 : 0 ≤ b
  · by_cases h1 : b ≤ 32
    · go_enter Try.func42, Try.ntmps42
      go_wp2
      go_quiet ((go_at_call 66; exact Calls.quiet_of_same (cut_any _ _ _ (by omega) (by omega) (by omega) (by omega))))
      go_wp2
      go_ret
      exact ⟨ret_bool (by simp [Ad.may, h0, h1, Bool.beq_eq_decide_eq]), below_drewN ((Below.refl _ _).alloc (Nat.le_refl _) _) _⟩
    · have hd : decide (b ≤ 32) = false := by simpa using h1
      go_enter Try.func42, Try.ntmps42
      go_wp2
      go_quiet (fail)
      go_wp2
      go_ret
      exact ⟨ret_bool (by simp [Ad.may]; omega), below_drewN ((Below.refl _ _).alloc (Nat.le_refl _) _) _⟩
  · have hd : decide (0 ≤ b) = false := by simpa using h0
    go_enter Try.func42, Try.ntmps42
    go_wp2
    go_quiet (fail)
    go_wp2
    go_ret
    exact ⟨ret_bool (by simp [Ad.may]; omega), below_drewN ((Below.refl _ _).alloc (Nat.le_refl _) _) _⟩
end Go.Proofs.Ytkhmhmopcofejaa.Ax

/- The contracts of addr's Has, Contains, Meets, Before, Last. -/
namespace Go.Proofs.Ytkhmhmopcofejaa.Ax
open Go.RowKit

theorem bcell {W w1 : World} (hb : Below W.heap.size W w1) : (∀ b o, b < W.heap.size → w1.cell? ⟨b, o, none⟩ = W.cell? ⟨b, o, none⟩) ∧ (∀ b o, b < W.heap.size → w1.frozen? ⟨b, o, none⟩ = W.frozen? ⟨b, o, none⟩) :=
  ⟨fun b o h => hb.cell (p := ⟨b, o, none⟩) h, fun b o h => hb.frozen (p := ⟨b, o, none⟩) h⟩
theorem bthen {w W w1 : World} (h : Below w.heap.size w W) (hb : Below W.heap.size W w1) : Below w.heap.size w w1 := h.trans (hb.mono h.size)
theorem balloc {w W : World} (h : Below w.heap.size w W) (o : Obj) : Below w.heap.size w (W.alloc o) := h.alloc h.size o
theorem brefl (w : World) : Below w.heap.size w w := Below.refl _ _

theorem may_is (a b : Int) (r : Bool) (h : Ad.may a b = r) (w : World) (ha : 0 ≤ a) (ha2 : a ≤ 4294967295) :
    Calls Try.prog 42 #[.agg #[.int .u32 a, .int .i64 b]] w fun e w' => e = .returned (.bool r) ∧ Below w.heap.size w w' := by
  rw [← h]; exact may_any a b w ha ha2

end Go.Proofs.Ytkhmhmopcofejaa.Ax

/- The contracts of addr's Meets, Before, Last. -/
namespace Go.Proofs.Ytkhmhmopcofejaa.Ax
open Go.RowKit

end Go.Proofs.Ytkhmhmopcofejaa.Ax

/- Small laws on worlds: what lies in old blocks lies there still behind calls that only make memory. -/
namespace Go.Proofs.Ytkhmhmopcofejaa.Ax
open Go.RowKit

theorem hide {p : Prop} (h : p) : Hid p := h

theorem heap_lt {w : World} {b : Nat} {o : Obj} (h : w.heap[b]? = some o) : b < w.heap.size := by
  rcases Nat.lt_or_ge b w.heap.size with h' | h'
  · exact h'
  · simp [Array.getElem?_eq_none h'] at h

/-- An owned row is owned still behind what leaves all old blocks as they were. -/
theorem row_below {w w' : World} {B e size n : Nat} {v : Value} {xs : List Value} (h : w.ownsRow B e size v n xs) (hb : Below w.heap.size w w') : w'.ownsRow B e size v n xs := by
  obtain ⟨h1, h2⟩ := h
  refine ⟨h1, ?_⟩
  rcases h2 with h2 | ⟨g, cap, cur, hv, hB, hg, r⟩
  · exact .inl h2
  · exact .inr ⟨g, cap, cur, hv, hB, (hb.block g (heap_lt hg)).trans hg, r⟩

/-- .. and so is a builder. -/
theorem builder_below {w w' : World} {T e B b : Nat} {bs : List Value} (h : Lib.IsBuilder T e B b bs w) (hb : Below w.heap.size w w') : Lib.IsBuilder T e B b bs w' := by
  rcases h with ⟨h1, v, h2, h3, h4⟩ | ⟨h1, v, h2, h3, h4⟩
  · exact .inl ⟨h1, v, (hb.block b (heap_lt h2)).trans h2, row_below h3 hb, h4⟩
  · exact .inr ⟨h1, v, (hb.block b (heap_lt h2)).trans h2, row_below h3 hb, h4⟩
end Go.Proofs.Ytkhmhmopcofejaa.Ax

/- The contract of addr's check, of whatever list of prefixes. -/
namespace Go.Proofs.Ytkhmhmopcofejaa.Ax
open Go.RowKit

/-- A prefix's two cells; a list's. -/
def Ad.enc (x : Int × Int) : List Value := [.int .u32 x.1, .int .i64 x.2]
def Ad.cells (l : List (Int × Int)) : List Value := l.flatMap Ad.enc
/-- Addresses that are ones. -/
def Ad.fits (l : List (Int × Int)) : Prop := ∀ x ∈ l, 0 ≤ x.1 ∧ x.1 ≤ 4294967295
/-- The list's cells lie in block b from off on. -/
def Ad.reads (w : World) (b off : Nat) (l : List (Int × Int)) : Prop := ∀ j u, (Ad.cells l)[j]? = some u → w.cell? ⟨b, off + j, none⟩ = some u

theorem Ad.cells_length (l : List (Int × Int)) : (Ad.cells l).length = l.length * 2 := by
  induction l with
  | nil => rfl
  | cons x l ih => simp only [Ad.cells, List.flatMap_cons, List.length_append, List.length_cons] at *; simp only [Ad.enc, List.length_cons, List.length_nil]; omega

theorem Ad.cells_get (l : List (Int × Int)) (i : Nat) (h : i < l.length) : (Ad.cells l)[i * 2]? = some (.int .u32 l[i].1) ∧ (Ad.cells l)[i * 2 + 1]? = some (.int .i64 l[i].2) := by
  induction l generalizing i with
  | nil => simp at h
  | cons x l ih =>
    cases i with
    | zero => simp [Ad.cells, Ad.enc]
    | succ i =>
      have := ih i (by simpa using h)
      have e : (i + 1) * 2 = i * 2 + 1 + 1 := by omega
      simpa [Ad.cells, Ad.enc, e] using this

theorem Ad.reads_at {w : World} {b off : Nat} {l : List (Int × Int)} (h : Ad.reads w b off l) (i : Nat) (hi : i < l.length) :
    w.cell? ⟨b, off + i * 2, none⟩ = some (.int .u32 l[i].1) ∧ w.cell? ⟨b, off + i * 2 + 1, none⟩ = some (.int .i64 l[i].2) := by
  have := Ad.cells_get l i hi
  exact ⟨h _ _ this.1, by rw [Nat.add_assoc]; exact h _ _ this.2⟩

theorem Ad.reads_below {w w' : World} {b off : Nat} {l : List (Int × Int)} (h : Ad.reads w b off l) (hb : Below w.heap.size w w') : Ad.reads w' b off l := by
  intro j u hu
  have := h j u hu
  rw [hb.cell (p := ⟨b, off + j, none⟩) (block_lt_of_cell this)]
  exact this

/-- Which error a list has. -/
def Ad.why (l : List (Int × Int)) : Int := if 1024 < l.length then 2 else if l.all (fun x => Ad.may x.1 x.2) = true then 0 else 1

end Go.Proofs.Ytkhmhmopcofejaa.Ax

/- Two prefixes held against each other as wholes: what the model's comparison gives. -/
namespace Go.Proofs.Ytkhmhmopcofejaa.Ax

theorem guardP : Try.prog.eqGuardType Try.prog.depth 56 = false := by kernel_rfl

theorem eqP (a b c d : Int) (w : World) : (binOp .eql 56 (.agg #[.int .u32 a, .int .i64 b]) (.agg #[.int .u32 c, .int .i64 d])).run Try.prog w = .ok (.bool (a == c && b == d)) w := by
  have u3 := Try.underlying3
  have u22 := Try.underlying54
  have a3 := Try.isAgg3
  have a22 := Try.isAgg54
  have z3 := Try.sizeOf3
  have z22 := Try.sizeOf54
  have hS : Try.prog.underlying 56 = some (.struct (Try.prog.fieldsOf 56)) := by kernel_rfl
  have hp : Try.prog.stoodInHeld 56 = false := by kernel_rfl
  rw [run_eql_struct, show (10000 : Nat) = 9999 + 1 from rfl, run_equalIn_agg w 9999 56 _ _ hS hp]
  simp only [Program.fieldsOf, Try.underlying56]
  go_simp
  by_cases h1 : a = c <;> by_cases h2 : b = d <;> simp [h1, h2]

theorem neqP (a b c d : Int) (w : World) : (binOp .neq 56 (.agg #[.int .u32 a, .int .i64 b]) (.agg #[.int .u32 c, .int .i64 d])).run Try.prog w = .ok (.bool (!(a == c && b == d))) w := by
  have u3 := Try.underlying3
  have u22 := Try.underlying54
  have a3 := Try.isAgg3
  have a22 := Try.isAgg54
  have z3 := Try.sizeOf3
  have z22 := Try.sizeOf54
  have hS : Try.prog.underlying 56 = some (.struct (Try.prog.fieldsOf 56)) := by kernel_rfl
  have hp : Try.prog.stoodInHeld 56 = false := by kernel_rfl
  rw [run_neq_struct, show (10000 : Nat) = 9999 + 1 from rfl, run_equalIn_agg w 9999 56 _ _ hS hp]
  simp only [Program.fieldsOf, Try.underlying56]
  go_simp
  by_cases h1 : a = c <;> by_cases h2 : b = d <;> simp [h1, h2]
end Go.Proofs.Ytkhmhmopcofejaa.Ax

/- Plain mathematics of prefixes: the or-forms of a half and of the last address, as the walk spells them. -/
namespace Go.Proofs.Ytkhmhmopcofejaa.Ax.Ad
open Go

theorem dvd_cut (a b : Int) (h : cut a b = a) : a % sz b = 0 := by
  unfold cut at h
  have := Int.emod_add_mul_ediv a (sz b)
  rw [Int.mul_comm] at this
  omega

theorem or_low (a x : Int) (k : Nat) (h0 : 0 ≤ a) (h1 : a ≤ 4294967295) (hd : a % ((2 ^ k : Nat) : Int) = 0) (hx : 0 ≤ x) (hk : x < ((2 ^ k : Nat) : Int)) (hk32 : k ≤ 32) :
    bits .or .u32 a x = a + x := by
  obtain ⟨A, rfl⟩ := Int.eq_ofNat_of_zero_le h0
  obtain ⟨X, rfl⟩ := Int.eq_ofNat_of_zero_le hx
  have hX : X < 2 ^ k := by omega
  have hle : (2 : Nat) ^ k ≤ 2 ^ 32 := Nat.pow_le_pow_right (by decide) hk32
  have hA : A % 2 ^ k = 0 := by exact_mod_cast hd
  rw [u32_or_nat A X (by omega) (by omega), nat_join k A X hA hX]
  exact Int.natCast_add A X

theorem half_bits (a b : Int) (h0 : 0 ≤ a) (h1 : a ≤ 4294967295) (hb : 0 ≤ b) (hb2 : b ≤ 31) (hc : cut a b = a) :
    bits .or .u32 a (2 ^ (32 - (b + 1)).toNat % 4294967296) = a + sz (b + 1) := by
  have e : (2 : Int) ^ (32 - (b + 1)).toNat % 4294967296 = sz (b + 1) := by
    unfold sz
    have e1 : (32 - (b + 1)).toNat = 32 - (b + 1).toNat := by omega
    rw [e1]
    have h1 : (2 : Nat) ^ (32 - (b + 1).toNat) ≤ 2 ^ 31 := Nat.pow_le_pow_right (by decide) (by omega)
    have h2 : (2 : Int) ^ (32 - (b + 1).toNat) = ((2 ^ (32 - (b + 1).toNat) : Nat) : Int) := by rw [Int.natCast_pow]; rfl
    rw [h2]
    generalize (2 : Nat) ^ (32 - (b + 1).toNat) = n at *
    omega
  rw [e]
  have hd := dvd_cut a b hc
  have hh := sz_half b hb hb2
  have hp := sz_pos (b + 1)
  refine or_low a (sz (b + 1)) (32 - b.toNat) h0 h1 hd (by omega) ?_ (by omega)
  show sz (b + 1) < sz b
  omega

theorem last_bits (a b : Int) (h0 : 0 ≤ a) (h1 : a ≤ 4294967295) (hb : 0 ≤ b) (hb2 : b ≤ 32) (hc : cut a b = a) :
    bits .or .u32 a (4294967295 / 2 ^ b.toNat) = a + sz b - 1 := by
  have e : (4294967295 : Int) / 2 ^ b.toNat = sz b - 1 := by
    obtain ⟨B, rfl⟩ := Int.eq_ofNat_of_zero_le hb
    have hpow : (4294967295 : Nat) / 2 ^ B = 2 ^ (32 - B) - 1 := by
      have : ∀ n : Fin 33, (4294967295 : Nat) / 2 ^ n.val = 2 ^ (32 - n.val) - 1 := by decide
      exact this ⟨B, by omega⟩
    have e1 : ((4294967295 : Int) / 2 ^ (Int.toNat (B : Int))) = (((4294967295 : Nat) / 2 ^ B : Nat) : Int) := by
      rw [Int.toNat_natCast]; simp
    rw [e1, hpow]
    unfold sz
    rw [Int.toNat_natCast]
    have := Nat.two_pow_pos (32 - B)
    omega
  rw [e]
  have hd := dvd_cut a b hc
  have hp := sz_pos b
  have := or_low a (sz b - 1) (32 - b.toNat) h0 h1 hd (by omega) (by show sz b - 1 < sz b; omega) (by omega)
  rw [this]
  omega
end Go.Proofs.Ytkhmhmopcofejaa.Ax.Ad

/- The contracts of addr's Last, Halves. -/
namespace Go.Proofs.Ytkhmhmopcofejaa.Ax
open Go.RowKit

theorem bset {w W : World} (h : Below w.heap.size w W) {p : Addr} (hp : w.heap.size ≤ p.block) (u : Value) : Below w.heap.size w (W.setCell p u) := h.setCell hp u

end Go.Proofs.Ytkhmhmopcofejaa.Ax

/- Plain mathematics: when two prefixes are the halves of what is above both; the stack on which they are joined. -/
namespace Go.Proofs.Ytkhmhmopcofejaa.Ax.Ad

/-- p and q are the halves of one, the lower one first. -/
def pair (p q : Int × Int) : Bool := decide (p.2 = q.2 ∧ 1 ≤ p.2 ∧ cut p.1 (p.2 - 1) = p.1 ∧ q.1 = p.1 + sz p.2)
/-- The one whose lower half p is. -/
def up (p : Int × Int) : Int × Int := (p.1, p.2 - 1)

theorem mul_cut (a b : Int) (h : cut a b = a) : ∃ q : Int, a = q * sz b := ⟨a / sz b, by unfold cut at h; omega⟩

/-- What stands just behind a multiple, less than a size away, is cut to it. -/
theorem cut_add (a b x : Int) (h : cut a b = a) (h0 : 0 ≤ x) (h1 : x < sz b) : cut (a + x) b = a := by
  obtain ⟨q, hq⟩ := mul_cut a b h
  have := cut_eq (a + x) b q (by omega) (by omega)
  omega

theorem pair_above (a b c d : Int) (k : Nat) (hb : 0 ≤ b) (hb2 : b ≤ 32) (ha : cut a b = a) (hc : cut c d = c) (hk : (k : Int) ≤ b) (he : cut a k = cut c k)
    (hs : (k : Int) = b ∨ (k : Int) = d ∨ cut a (k + 1) ≠ cut c (k + 1)) (hp : pair (a, b) (c, d) = true) : (k : Int) = b - 1 := by
  simp only [pair, decide_eq_true_eq] at hp
  obtain ⟨h1, h2, h3, h4⟩ := hp
  subst h1
  have hh := sz_half (b - 1) (by omega) (by omega)
  have hb1 : b - 1 + 1 = b := by omega
  rw [hb1] at hh
  have hz := sz_pos b
  have e1 : cut c (b - 1) = a := by rw [h4]; exact cut_add a (b - 1) (sz b) h3 (by omega) (by omega)
  rcases Int.lt_trichotomy (k : Int) (b - 1) with h | h | h
  · exfalso
    have hm := cut_mono a c ((k : Int) + 1) (b - 1) (by omega) (by rw [h3, e1])
    rcases hs with h5 | h5 | h5
    · omega
    · omega
    · exact h5 hm
  · exact h
  · exfalso
    have hkb : (k : Int) = b := by omega
    rw [hkb, ha, hc] at he
    omega

/-- If they are no pair, they are not the halves of what is above both. -/
theorem pair_not (a b c d : Int) (k : Nat) (h : pair (a, b) (c, d) = false) (h1 : a = cut a k) (h2 : b = k + 1) (h3 : c = cut a k + sz (k + 1)) (h4 : d = k + 1) : False := by
  have : pair (a, b) (c, d) = true := by
    simp only [pair, decide_eq_true_eq]
    have e : b - 1 = k := by omega
    refine ⟨by omega, by omega, by rw [e]; exact h1.symm, ?_⟩
    rw [h3, ← h1, h2]
  rw [this] at h
  cases h

/-- A pair's upper one may be. -/
theorem may_up (a b c d : Int) (hm : may a b = true) (hp : pair (a, b) (c, d) = true) : may a (b - 1) = true := by
  simp only [pair, decide_eq_true_eq] at hp
  rw [may_iff] at hm ⊢
  exact ⟨by omega, by omega, hp.2.2.1⟩

/-- The stack, its top first: as long as two that are a pair stand there, they are one. -/
def joinF : Nat → List (Int × Int) → List (Int × Int)
  | 0, s => s
  | f + 1, s =>
    match s with
    | q :: p :: r => if pair p q = true then joinF f (up p :: r) else q :: p :: r
    | s => s
def join (s : List (Int × Int)) : List (Int × Int) := joinF s.length s

theorem join_step (q p : Int × Int) (r : List (Int × Int)) (h : pair p q = true) : join (q :: p :: r) = join (up p :: r) := by
  simp [join, joinF, h]
theorem join_stop (q p : Int × Int) (r : List (Int × Int)) (h : pair p q = false) : join (q :: p :: r) = q :: p :: r := by
  simp [join, joinF, h]
theorem join_one (q : Int × Int) : join [q] = [q] := rfl
theorem join_nil : join [] = [] := rfl
end Go.Proofs.Ytkhmhmopcofejaa.Ax.Ad

/- Plain mathematics of a prefix's halves. -/
namespace Go.Proofs.Ytkhmhmopcofejaa.Ax.Ad

theorem end_le (a b : Int) (h0 : 0 ≤ b) (h1 : a ≤ 4294967295) (hc : cut a b = a) : a + sz b ≤ 4294967296 := by
  obtain ⟨q, hq⟩ := mul_cut a b hc
  obtain ⟨K, hK, e⟩ := sz_dvd 0 b h0
  rw [sz_0] at e
  have hp := sz_pos b
  have h2 : q * sz b < K * sz b := by omega
  have h3 : q < K := Int.lt_of_mul_lt_mul_right h2 (Int.le_of_lt hp)
  have h4 : (q + 1) * sz b ≤ K * sz b := Int.mul_le_mul_of_nonneg_right (by omega) (Int.le_of_lt hp)
  rw [Int.add_mul] at h4
  omega

theorem low_may (a b : Int) (h0 : 0 ≤ b) (h31 : b ≤ 31) (hc : cut a b = a) : cut a (b + 1) = a := by
  obtain ⟨q, hq⟩ := mul_cut a b hc
  have hh := sz_half b h0 h31
  have hp := sz_pos (b + 1)
  have e : a = (q * 2) * sz (b + 1) := by rw [Int.mul_assoc, ← hh]; exact hq
  have := cut_eq a (b + 1) (q * 2) (by omega) (by omega)
  omega

theorem high_may (a b : Int) (h0 : 0 ≤ b) (h31 : b ≤ 31) (hc : cut a b = a) : cut (a + sz (b + 1)) (b + 1) = a + sz (b + 1) := by
  obtain ⟨q, hq⟩ := mul_cut a b hc
  have hh := sz_half b h0 h31
  have hp := sz_pos (b + 1)
  have e : a + sz (b + 1) = (q * 2 + 1) * sz (b + 1) := by rw [Int.add_mul, Int.mul_assoc, ← hh, Int.one_mul]; omega
  have := cut_eq (a + sz (b + 1)) (b + 1) (q * 2 + 1) (by omega) (by omega)
  omega

theorem halves_pair (a b : Int) (h0 : 0 ≤ b) (hc : cut a b = a) : pair (a, b + 1) (a + sz (b + 1), b + 1) = true := by
  simp only [pair, decide_eq_true_eq]
  refine ⟨trivial, by omega, ?_, trivial⟩
  rw [show b + 1 - 1 = b by omega]
  exact hc

/-- Each address of a prefix is one of just one of its halves. -/
theorem halves_has (a b x : Int) (h0 : 0 ≤ b) (h31 : b ≤ 31) (hc : cut a b = a) : ((decide (cut x (b + 1) = a) != decide (cut x (b + 1) = a + sz (b + 1))) == decide (cut x b = a)) = true := by
  have hh := sz_half b h0 h31
  have hp := sz_pos (b + 1)
  have hx := cut_cut x b (b + 1) (by omega)
  have hl := cut_le x (b + 1)
  have hg := cut_lt x (b + 1)
  have hl2 := cut_le x b
  have hg2 := cut_lt x b
  by_cases h1 : cut x b = a
  · by_cases h2 : cut x (b + 1) = a
    · have : ¬ cut x (b + 1) = a + sz (b + 1) := by omega
      simp [h1, h2]
      omega
    · have h3 : cut x (b + 1) = a + sz (b + 1) := by
        have hlo := low_may a b h0 h31 hc
        obtain ⟨q, hq⟩ := mul_cut a (b + 1) hlo
        by_cases h4 : x < a + sz (b + 1)
        · exact absurd (by have := cut_eq x (b + 1) q (by omega) (by omega); omega) h2
        · have := cut_eq x (b + 1) (q + 1) (by rw [Int.add_mul]; omega) (by rw [Int.add_mul]; omega)
          rw [Int.add_mul] at this
          omega
      simp [h1, h3]
      omega
  · have h2 : ¬ cut x (b + 1) = a := fun h => h1 (by rw [← hx, h]; exact hc)
    have h3 : ¬ cut x (b + 1) = a + sz (b + 1) := fun h => h1 (by rw [← hx, h]; exact cut_add a b (sz (b + 1)) hc (by omega) (by omega))
    simp [h1, h2, h3]
end Go.Proofs.Ytkhmhmopcofejaa.Ax.Ad

/- Plain mathematics: a prefix bit by bit, as the document's answer goes through it. -/
namespace Go.Proofs.Ytkhmhmopcofejaa.Ax.Ad

/-- The i-th bit of an address, from the highest on. -/
def bit (a : Int) (i : Nat) : Int := a / 2 ^ (31 - i) % 2

theorem bit_nat (A i : Nat) : bit (A : Int) i = ((A / 2 ^ (31 - i) % 2 : Nat) : Int) := by
  unfold bit
  simp

theorem bit_test (A i : Nat) : bit (A : Int) i = if A.testBit (31 - i) then 1 else 0 := by
  rw [bit_nat, Nat.testBit_eq_decide_div_mod_eq]
  rcases Nat.mod_two_eq_zero_or_one (A / 2 ^ (31 - i)) with h | h <;> simp [h]

theorem cut_nat (A B : Nat) : cut (A : Int) (B : Int) = ((A / 2 ^ (32 - B) * 2 ^ (32 - B) : Nat) : Int) := by
  unfold cut sz
  rw [Int.toNat_natCast]; simp

/-- A prefix may be just if all bits behind the counting ones are 0. -/
theorem may_bits (a : Int) (B : Nat) (h0 : 0 ≤ a) (hB : B ≤ 32) : cut a B = a ↔ ∀ i, B ≤ i → i < 32 → bit a i = 0 := by
  obtain ⟨A, rfl⟩ := Int.eq_ofNat_of_zero_le h0
  rw [cut_nat]
  constructor
  · intro h i hi hi2
    rw [bit_test]
    have h' : A / 2 ^ (32 - B) * 2 ^ (32 - B) = A := by omega
    have ht : A.testBit (31 - i) = false := by
      rw [← h', Nat.testBit_mul_two_pow]
      have : ¬ 32 - B ≤ 31 - i := by omega
      simp [this]
    simp [ht]
  · intro h
    have : A / 2 ^ (32 - B) * 2 ^ (32 - B) = A := by
      apply Nat.eq_of_testBit_eq
      intro j
      rw [Nat.testBit_mul_two_pow, Nat.testBit_div_two_pow]
      by_cases hj : 32 - B ≤ j
      · simp [hj, show j - (32 - B) + (32 - B) = j by omega]
      · have := h (31 - j) (by omega) (by omega)
        rw [bit_test, show 31 - (31 - j) = j by omega] at this
        have ht : A.testBit j = false := by
          cases ht : A.testBit j
          · rfl
          · rw [ht] at this; simp at this
        simp [hj, ht]
    rw [this]

/-- Two addresses have the same first bits just if they are cut to the same. -/
theorem has_bits (a x : Int) (B : Nat) (h0 : 0 ≤ a) (h1 : a ≤ 4294967295) (g0 : 0 ≤ x) (g1 : x ≤ 4294967295) (hB : B ≤ 32) : cut a B = cut x B ↔ ∀ i, i < B → bit a i = bit x i := by
  obtain ⟨A, rfl⟩ := Int.eq_ofNat_of_zero_le h0
  obtain ⟨X, rfl⟩ := Int.eq_ofNat_of_zero_le g0
  rw [cut_nat, cut_nat]
  constructor
  · intro h i hi
    have h' : A / 2 ^ (32 - B) * 2 ^ (32 - B) = X / 2 ^ (32 - B) * 2 ^ (32 - B) := by omega
    rw [bit_test, bit_test]
    have ht := congrArg (fun n => n.testBit (31 - i)) h'
    simp only [Nat.testBit_mul_two_pow, Nat.testBit_div_two_pow] at ht
    have hj : 32 - B ≤ 31 - i := by omega
    simp only [hj, decide_true, Bool.true_and, show 31 - i - (32 - B) + (32 - B) = 31 - i by omega] at ht
    rw [ht]
  · intro h
    have : A / 2 ^ (32 - B) * 2 ^ (32 - B) = X / 2 ^ (32 - B) * 2 ^ (32 - B) := by
      apply Nat.eq_of_testBit_eq
      intro j
      rw [Nat.testBit_mul_two_pow, Nat.testBit_div_two_pow, Nat.testBit_mul_two_pow, Nat.testBit_div_two_pow]
      by_cases hj : 32 - B ≤ j
      · rw [show j - (32 - B) + (32 - B) = j by omega]
        by_cases h32 : j < 32
        · have := h (31 - j) (by omega)
          rw [bit_test, bit_test, show 31 - (31 - j) = j by omega] at this
          have ht : A.testBit j = X.testBit j := by
            cases h1 : A.testBit j <;> cases h2 : X.testBit j <;> simp [h1, h2] at this <;> rfl
          rw [ht]
        · have hge : (2 : Nat) ^ 32 ≤ 2 ^ j := Nat.pow_le_pow_right (by decide) (by omega)
          rw [Nat.testBit_lt_two_pow (x := A) (by omega), Nat.testBit_lt_two_pow (x := X) (by omega)]
      · simp [hj]
    rw [this]

theorem bit_le (a : Int) (i : Nat) : 0 ≤ bit a i ∧ bit a i ≤ 1 := by unfold bit; omega
end Go.Proofs.Ytkhmhmopcofejaa.Ax.Ad

/- The contracts of the document's answer: Bit, May, Has, Contains, Before, Last. -/
namespace Go.Proofs.Ytkhmhmopcofejaa.Ax
open Go.RowKit

set_option maxHeartbeats 400000 in
theorem bit_any (a : Int) (i : Nat) (w : World) (h0 : 0 ≤ a) (h1 : a ≤ 4294967295) (hi : i ≤ 31) :
    Calls Try.prog 68 #[.int .u32 a, .int .i64 i] w fun e w' => e = .returned (.int .u32 (Ad.bit a i)) ∧ w' = w := by
  go_enter Try.func68, Try.ntmps68
  go_wp2_with fail
  go_loop [0, 1] (fun s t => ∃ k : Nat, i ≤ k ∧ k ≤ 31 ∧ t = .int .i64 k ∧ s = .int .u32 (a / 2 ^ (k - i))) (fun _ t => 31 - (intOf t).toNat)
  case atStart => exact ⟨i, Nat.le_refl _, hi, rfl, by simp⟩
  case round =>
    obtain ⟨k, hk1, hk2, rfl, rfl⟩ := hrel
    have hb0 : 0 ≤ a / 2 ^ (k - i) := Int.ediv_nonneg h0 (Int.le_of_lt (Int.pow_pos (by decide)))
    have hb1 : a / 2 ^ (k - i) ≤ 4294967295 := Int.le_trans (Int.ediv_le_self _ h0) h1
    by_cases hlt : k < 31
    · have HE : Hid (a / 2 ^ (k - i) / 2 = a / 2 ^ (k + 1 - i)) := by
        show a / 2 ^ (k - i) / 2 = a / 2 ^ (k + 1 - i)
        rw [show k + 1 - i = (k - i) + 1 by omega, Int.pow_succ, Int.ediv_ediv_of_nonneg (Int.le_of_lt (Int.pow_pos (by decide)))]
      generalize a / 2 ^ (k - i) = z at *
      go_wp2_with fail
      go_round
      case rel => exact ⟨k + 1, by omega, by omega, by go_num, by rw [← HE.out]⟩
      case measure => simp [intOf]; omega
    · have hk31 : k = 31 := by omega
      subst hk31
      have HE : Hid (Ad.bit a i = a / 2 ^ (31 - i) % 2) := rfl
      generalize a / 2 ^ (31 - i) = z at *
      go_wp2_with fail
      go_ret
      exact ⟨ret_int HE.out.symm, rfl⟩
end Go.Proofs.Ytkhmhmopcofejaa.Ax

/- The contracts of the document's answer: May, Has, Contains, Before, Last. -/
namespace Go.Proofs.Ytkhmhmopcofejaa.Ax
open Go.RowKit

set_option maxHeartbeats 1000000 in
theorem refMay_in (a : Int) (B : Nat) (w : World) (h0 : 0 ≤ a) (h1 : a ≤ 4294967295) (hB : B ≤ 32) :
    Calls Try.prog 44 #[.agg #[.int .u32 a, .int .i64 (B : Int)]] w fun e w' => e = .returned (.bool (Ad.may a B)) ∧ Below w.heap.size w w' := by
  have hlo : ¬ (B : Int) < 0 := by omega
  have hhi : ¬ (32 : Int) < (B : Int) := by omega
  go_enter Try.func44, Try.ntmps44
  go_wp2_with fail
  go_loop [3] (fun t => ∃ k : Nat, B ≤ k ∧ k ≤ 32 ∧ t = .int .i64 k ∧ ∀ j, B ≤ j → j < k → Ad.bit a j = 0) (fun t => 32 - (intOf t).toNat)
  case atStart => exact ⟨B, Nat.le_refl _, hB, rfl, fun j h h' => by omega⟩
  case round =>
    obtain ⟨k, hk1, hk2, rfl, hall⟩ := hrel
    have HALL := hide hall
    clear hall
    by_cases hlt : k < 32
    · have hbb := Ad.bit_le a k
      by_cases hz : Ad.bit a k = 0
      · have hne : (Ad.bit a k != 0) = false := by simp [hz]
        have HZ := hide hz
        clear hz
        go_wp2_with (go_at_call 68; refine (bit_any a k _ h0 h1 (by omega)).mono ?_; rintro e w1 ⟨rfl, rfl⟩)
        go_round
        case rel =>
          refine ⟨k + 1, by omega, by omega, by go_num, fun j hj hj2 => ?_⟩
          rcases Nat.lt_succ_iff_lt_or_eq.1 hj2 with h | rfl
          · exact HALL.out j hj h
          · exact HZ.out
        case measure => simp [intOf]; omega
      · have hne : (Ad.bit a k != 0) = true := by simpa using hz
        have HZ := hide hz
        clear hz
        go_wp2_with (go_at_call 68; refine (bit_any a k _ h0 h1 (by omega)).mono ?_; rintro e w1 ⟨rfl, rfl⟩)
        go_ret
        refine ⟨ret_bool ?_, balloc (brefl _) _⟩
        have hm : Ad.may a B = false := by
          cases hm : Ad.may a B
          · rfl
          · exact absurd ((Ad.may_bits a B h0 hB).1 ((Ad.may_iff _ _).1 hm).2.2 k hk1 hlt) HZ.out
        rw [hm]
    · go_wp2_with fail
      go_ret
      refine ⟨ret_bool ?_, balloc (brefl _) _⟩
      have hm : Ad.may a B = true := (Ad.may_iff _ _).2 ⟨by omega, by omega, (Ad.may_bits a B h0 hB).2 fun i hi hi2 => HALL.out i hi (by omega)⟩
      rw [hm]

set_option maxHeartbeats 1000000 in
theorem refMay_any (a b : Int) (w : World) (h0 : 0 ≤ a) (h1 : a ≤ 4294967295) :
    Calls Try.prog 44 #[.agg #[.int .u32 a, .int .i64 b]] w fun e w' => e = .returned (.bool (Ad.may a b)) ∧ Below w.heap.size w w' := by
  by_cases hb : 0 ≤ b
  · by_cases hb2 : b ≤ 32
    · obtain ⟨B, rfl⟩ := Int.eq_ofNat_of_zero_le hb
      exact refMay_in a B w h0 h1 (by omega)
    · have hlo : ¬ b < 0 := by omega
      have hhi : 32 < b := by omega
      have hm : Ad.may a b = false := by
        cases hm : Ad.may a b
        · rfl
        · have := (Ad.may_iff _ _).1 hm; omega
      rw [hm]
      go_enter Try.func44, Try.ntmps44
      go_wp2_with fail
      go_ret
      exact ⟨rfl, balloc (brefl _) _⟩
  · have hlo : b < 0 := by omega
    have hm : Ad.may a b = false := by
      cases hm : Ad.may a b
      · rfl
      · have := (Ad.may_iff _ _).1 hm; omega
    rw [hm]
    go_enter Try.func44, Try.ntmps44
    go_wp2_with fail
    go_ret
    exact ⟨rfl, balloc (brefl _) _⟩

theorem refMay_is (a b : Int) (r : Bool) (h : Ad.may a b = r) (w : World) (ha : 0 ≤ a) (ha2 : a ≤ 4294967295) :
    Calls Try.prog 44 #[.agg #[.int .u32 a, .int .i64 b]] w fun e w' => e = .returned (.bool r) ∧ Below w.heap.size w w' := by
  rw [← h]; exact refMay_any a b w ha ha2

end Go.Proofs.Ytkhmhmopcofejaa.Ax

/- The contracts of the document's answer: Contains, Before, Last. -/
namespace Go.Proofs.Ytkhmhmopcofejaa.Ax
open Go.RowKit

theorem Ad.has_may (a b x : Int) (h : Ad.may a b = false) : Ad.has a b x = false := by unfold Ad.has; rw [h]; rfl
theorem Ad.contains_may (a b c d : Int) (h : Ad.may a b = false) : Ad.contains a b c d = false := by unfold Ad.contains; rw [Ad.has_may a b c h]; simp
theorem Ad.contains_may2 (a b c d : Int) (h : Ad.may c d = false) : Ad.contains a b c d = false := by unfold Ad.contains; rw [h]; simp

set_option maxHeartbeats 400000 in
theorem refBefore_any (a b c d : Int) (w : World) :
    Calls Try.prog 45 #[.agg #[.int .u32 a, .int .i64 b], .agg #[.int .u32 c, .int .i64 d]] w fun e w' => e = .returned (.bool (if a = c then decide (b < d) else decide (a < c))) ∧ Below w.heap.size w w' := by
  by_cases hac : a = c
  · subst hac
    have he : (a != a) = false := by simp
    go_enter Try.func45, Try.ntmps45
    go_wp2_with fail
    go_ret
    exact ⟨ret_bool (by simp), balloc (balloc (brefl w) _) _⟩
  · have he : (a != c) = true := by simpa using hac
    go_enter Try.func45, Try.ntmps45
    go_wp2_with fail
    go_ret
    exact ⟨ret_bool (by simp), balloc (balloc (brefl w) _) _⟩

end Go.Proofs.Ytkhmhmopcofejaa.Ax

/- The contract of the document's Same. -/
namespace Go.Proofs.Ytkhmhmopcofejaa.Ax
open Go.RowKit

/-- A slice at which a list lies: none need lie at an empty one. -/
def Ad.rowAt (w : World) (ao : Option Addr) (l : List (Int × Int)) : Prop := l = [] ∨ ∃ b off, ao = some ⟨b, off, none⟩ ∧ Ad.reads w b off l

theorem Ad.rowAt_below {w w' : World} {ao : Option Addr} {l : List (Int × Int)} (h : Ad.rowAt w ao l) (hb : Below w.heap.size w w') : Ad.rowAt w' ao l := by
  rcases h with h | ⟨b, off, h, hr⟩
  · exact .inl h
  · exact .inr ⟨b, off, h, Ad.reads_below hr hb⟩

theorem Ad.rowAt_own {w : World} {B n cap : Nat} {ao : Option Addr} {l : List (Int × Int)} (h : w.ownsRow B 56 2 (.slice ao n cap) n (Ad.cells l)) : Ad.rowAt w ao l := by
  rcases h.2 with ⟨hv, h0⟩ | ⟨g, cap', cur, hv, _⟩
  · left
    have := h.1
    rw [Ad.cells_length, h0] at this
    exact List.length_eq_zero_iff.1 (by omega)
  · right
    simp only [Value.slice.injEq] at hv
    refine ⟨g, 0, hv.1, fun j u hu => ?_⟩
    have hj : j < n * 2 := by have := (List.getElem?_eq_some_iff.1 hu).1; have := h.1; omega
    rw [hv.1] at h
    rw [Nat.zero_add, h.cellAt j hj]
    exact hu

set_option maxHeartbeats 1000000 in
theorem same_len (a1 a2 : Option Addr) (n1 n2 c1 c2 : Nat) (w : World) (h : n1 ≠ n2) :
    Calls Try.prog 39 #[.slice a1 n1 c1, .slice a2 n2 c2] w fun e w' => e = .returned (.bool false) ∧ Below w.heap.size w w' := by
  have hne : ((n1 : Int) != (n2 : Int)) = true := by simp; omega
  go_enter Try.func39, Try.ntmps39
  go_wp2_with fail
  go_ret
  exact ⟨rfl, brefl w⟩

set_option maxHeartbeats 1000000 in
set_option maxRecDepth 100000 in
theorem same_any (a1 a2 : Option Addr) (c1 c2 : Nat) (l1 l2 : List (Int × Int)) (w : World) (hlen : l2.length = l1.length) (hm : l1.length ≤ 1000000) (h1 : Ad.rowAt w a1 l1) (h2 : Ad.rowAt w a2 l2) :
    Calls Try.prog 39 #[.slice a1 l1.length c1, .slice a2 l1.length c2] w fun e w' => e = .returned (.bool (decide (l1 = l2))) ∧ Below w.heap.size w w' := by
  have hne : ((l1.length : Int) != (l1.length : Int)) = false := by simp
  have H1 := hide h1
  have H2 := hide h2
  have HL := hide hlen
  clear h1 h2 hlen
  go_enter Try.func39, Try.ntmps39
  go_wp2_with fail
  go_loopw [5] (fun i wr => ∃ k : Nat, k ≤ l1.length ∧ i = .int .i64 k ∧ (∀ j (h : j < l1.length) (h' : j < l2.length), j < k → l1[j] = l2[j]) ∧ Below w.heap.size w wr) (fun i _ => l1.length - (intOf i).toNat)
  case atStart => exact ⟨0, Nat.zero_le _, rfl, fun j _ _ hj => absurd hj (Nat.not_lt_zero _), brefl w⟩
  case round =>
    obtain ⟨k, hk, rfl, hall, hbr⟩ := hrel
    have HALL := hide hall
    clear hall
    by_cases hlt : k < l1.length
    · have hlt2 : k < l2.length := by have := HL.out; omega
      obtain ⟨b1, o1, rfl, r1⟩ : ∃ b off, a1 = some ⟨b, off, none⟩ ∧ Ad.reads wr b off l1 := by
        rcases Ad.rowAt_below H1.out hbr with h | h
        · rw [h] at hlt; simp at hlt
        · exact h
      obtain ⟨b2, o2, rfl, r2⟩ : ∃ b off, a2 = some ⟨b, off, none⟩ ∧ Ad.reads wr b off l2 := by
        rcases Ad.rowAt_below H2.out hbr with h | h
        · rw [h] at hlt2; simp at hlt2
        · exact h
      obtain ⟨e0, e1⟩ := Ad.reads_at r1 k hlt
      obtain ⟨g0, g1⟩ := Ad.reads_at r2 k hlt2
      clear r1 r2
      generalize hx : l1[k] = x at *
      generalize hy : l2[k] = y at *
      have HX := hide hx
      have HY := hide hy
      clear hx hy
      obtain ⟨a, b⟩ := x
      obtain ⟨c, d⟩ := y
      cases hq : (a == c && b == d)
      · have hq1 : ∀ w, (binOp .neq 56 (.agg #[.int .u32 a, .int .i64 b]) (.agg #[.int .u32 c, .int .i64 d])).run Try.prog w = .ok (.bool true) w := by
          intro w; rw [neqP, hq]; rfl
        have HQ := hide hq
        clear hq
        have hgd := guardP
        go_wp2_with fail
        go_quiet (fail)
        go_wp2_with fail
        go_ret
        refine ⟨ret_bool ?_, below_drewN hbr _⟩
        symm
        rw [decide_eq_false_iff_not]
        intro he
        subst he
        have := HX.out.symm.trans HY.out
        simp only [Prod.mk.injEq] at this
        have hq := HQ.out
        rw [this.1, this.2] at hq
        simp at hq
      · have hq1 : ∀ w, (binOp .neq 56 (.agg #[.int .u32 a, .int .i64 b]) (.agg #[.int .u32 c, .int .i64 d])).run Try.prog w = .ok (.bool false) w := by
          intro w; rw [neqP, hq]; rfl
        have HQ := hide hq
        clear hq
        have hgd := guardP
        go_wp2_with fail
        go_quiet (fail)
        go_wp2_with fail
        refine ⟨⟨k + 1, by omega, by go_num, fun j hj hj' hjk => ?_, below_drewN hbr _⟩, by simp [intOf]; omega⟩
        rcases Nat.lt_succ_iff_lt_or_eq.1 hjk with h1 | rfl
        · exact HALL.out j hj hj' h1
        · rw [HX.out, HY.out]
          have hq := HQ.out
          rw [Bool.and_eq_true, beq_iff_eq, beq_iff_eq] at hq
          rw [hq.1, hq.2]
    · go_wp2_with fail
      go_ret
      refine ⟨ret_bool ?_, hbr⟩
      symm
      rw [decide_eq_true_eq]
      exact List.ext_getElem HL.out.symm fun j hj hj' => HALL.out j hj hj' (by omega)
end Go.Proofs.Ytkhmhmopcofejaa.Ax

/- The contract of addr's Before. -/
namespace Go.Proofs.Ytkhmhmopcofejaa.Ax
open Go.RowKit

set_option maxHeartbeats 400000 in
theorem before_any (a b c d : Int) (w : World) (ha : 0 ≤ a) (ha2 : a ≤ 4294967295) (hc : 0 ≤ c) (hc2 : c ≤ 4294967295) :
    Calls Try.prog 56 #[.agg #[.int .u32 a, .int .i64 b], .agg #[.int .u32 c, .int .i64 d]] w fun e w' => e = .returned (.bool (Ad.before a b c d)) ∧ Below w.heap.size w w' := by
  cases hm : Ad.may a b
  · go_enter Try.func56, Try.ntmps56
    go_wp2_with fail
    refine (may_is _ _ _ hm _ ha ha2).mono ?_
    rintro e w1 ⟨rfl, hb1⟩
    go_wp2_with fail
    go_ret
    exact ⟨ret_bool (by simp [Ad.before, hm]), bthen (balloc (balloc (brefl w) _) _) hb1⟩
  · cases hm2 : Ad.may c d
    · go_enter Try.func56, Try.ntmps56
      go_wp2_with fail
      refine (may_is _ _ _ hm _ ha ha2).mono ?_
      rintro e w1 ⟨rfl, hb1⟩
      obtain ⟨hc1, hf1⟩ := bcell hb1
      go_wp2_with fail
      refine (may_is _ _ _ hm2 _ hc hc2).mono ?_
      rintro e w2 ⟨rfl, hb2⟩
      go_wp2_with fail
      go_ret
      exact ⟨ret_bool (by simp [Ad.before, hm2]), bthen (bthen (balloc (balloc (brefl w) _) _) hb1) hb2⟩
    · by_cases hac : a = c
      · subst hac
        have he : (a != a) = false := by simp
        go_enter Try.func56, Try.ntmps56
        go_wp2_with fail
        refine (may_is _ _ _ hm _ ha ha2).mono ?_
        rintro e w1 ⟨rfl, hb1⟩
        obtain ⟨hc1, hf1⟩ := bcell hb1
        go_wp2_with fail
        refine (may_is _ _ _ hm2 _ hc hc2).mono ?_
        rintro e w2 ⟨rfl, hb2⟩
        have hz : w.heap.size + 1 < w1.heap.size := by have := hb1.size; simp at this; omega
        have hz0 : w.heap.size < w1.heap.size := by omega
        obtain ⟨hc2', hf2⟩ := bcell hb2
        go_wp2_with fail
        go_ret
        exact ⟨ret_bool (by simp [Ad.before, hm, hm2]), bthen (bthen (balloc (balloc (brefl w) _) _) hb1) hb2⟩
      · have he : (a != c) = true := by simpa using hac
        go_enter Try.func56, Try.ntmps56
        go_wp2_with fail
        refine (may_is _ _ _ hm _ ha ha2).mono ?_
        rintro e w1 ⟨rfl, hb1⟩
        obtain ⟨hc1, hf1⟩ := bcell hb1
        go_wp2_with fail
        refine (may_is _ _ _ hm2 _ hc hc2).mono ?_
        rintro e w2 ⟨rfl, hb2⟩
        have hz : w.heap.size + 1 < w1.heap.size := by have := hb1.size; simp at this; omega
        have hz0 : w.heap.size < w1.heap.size := by omega
        obtain ⟨hc2', hf2⟩ := bcell hb2
        go_wp2_with fail
        go_ret
        exact ⟨ret_bool (by simp [Ad.before, hm, hm2, hac]), bthen (bthen (balloc (balloc (brefl w) _) _) hb1) hb2⟩
end Go.Proofs.Ytkhmhmopcofejaa.Ax

