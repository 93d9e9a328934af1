import Derived.Test.YtkhmhmopcofejaaE1
/- Numbers in bytes, the highest first; the bytes of prefixes: read again. -/
namespace Go.Proofs.Ytkhmhmopcofejaa
open Go.RowKit

/-- A number in so many bytes. -/
def num (n : Nat) : Nat → List UInt8
  | 0 => []
  | k + 1 => num (n / 256) k ++ [UInt8.ofNat (n % 256)]
def valFrom (a : Nat) : List UInt8 → Nat
  | [] => a
  | b :: l => valFrom (a * 256 + b.toNat) l
def val (l : List UInt8) : Nat := valFrom 0 l
theorem num_length (n k : Nat) : (num n k).length = k := by
  induction k generalizing n with
  | zero => rfl
  | succ k ih => simp [num, ih]
theorem valFrom_app (a : Nat) (l m : List UInt8) : valFrom a (l ++ m) = valFrom (valFrom a l) m := by
  induction l generalizing a with
  | nil => rfl
  | cons x l ih => exact ih _
theorem byte_nat {n : Nat} (h : n < 256) : (UInt8.ofNat n).toNat = n := by
  rw [UInt8.toNat_ofNat']
  exact Nat.mod_eq_of_lt h
theorem val_num (n k : Nat) (h : n < 256 ^ k) : val (num n k) = n := by
  induction k generalizing n with
  | zero => simp at h; subst h; rfl
  | succ k ih =>
    unfold val at *
    rw [num, valFrom_app, ih (n / 256) (by rw [Nat.pow_succ] at h; omega)]
    show n / 256 * 256 + (UInt8.ofNat (n % 256)).toNat = n
    rw [byte_nat (by omega)]
    omega
theorem num_inj {m n k : Nat} (hm : m < 256 ^ k) (hn : n < 256 ^ k) (h : num m k = num n k) : m = n := by
  rw [← val_num m k hm, ← val_num n k hn, h]
theorem valFrom_lt (a : Nat) (l : List UInt8) : valFrom a l < (a + 1) * 256 ^ l.length := by
  induction l generalizing a with
  | nil => simp [valFrom]
  | cons x l ih =>
    have h := ih (a * 256 + x.toNat)
    have hx := x.toNat_lt
    refine Nat.lt_of_lt_of_le h ?_
    rw [List.length_cons, Nat.pow_succ, ← Nat.mul_assoc, Nat.mul_right_comm]
    exact Nat.mul_le_mul_right _ (by omega)
theorem val_lt (l : List UInt8) : val l < 256 ^ l.length := by
  have := valFrom_lt 0 l
  simpa [val] using this
theorem val_snoc (l : List UInt8) (b : UInt8) : val (l ++ [b]) = val l * 256 + b.toNat := by
  unfold val
  rw [valFrom_app]
  rfl
theorem num_val_of : ∀ (n : Nat) (l : List UInt8), l.length = n → num (val l) n = l
  | 0, l, h => by
    rw [List.length_eq_zero_iff.1 h]
    rfl
  | n + 1, l, h => by
    have hne : l ≠ [] := fun e => by rw [e] at h; cases h
    obtain ⟨m, b, rfl⟩ : ∃ m b, l = m ++ [b] := ⟨l.dropLast, l.getLast hne, (List.dropLast_concat_getLast hne).symm⟩
    have hb := b.toNat_lt
    have hm : m.length = n := by simpa using h
    rw [num, val_snoc, show (val m * 256 + b.toNat) / 256 = val m by omega, show (val m * 256 + b.toNat) % 256 = b.toNat by omega, num_val_of n m hm]
    simp
theorem num_val (l : List UInt8) : num (val l) l.length = l := num_val_of _ l rfl

/-- A prefix that may be: its address's other bits are 0. -/
def Gp (p : Int × Int) : Prop := 0 ≤ p.1 ∧ p.1 ≤ 4294967295 ∧ 0 ≤ p.2 ∧ p.2 ≤ 32 ∧ p.1.toNat % 2 ^ (32 - p.2.toNat) = 0
instance (p : Int × Int) : Decidable (Gp p) := by unfold Gp; infer_instance
def pn (p : Int × Int) : Nat := (p.2.toNat + 7) / 8
/-- A prefix's bytes. -/
def pfx (p : Int × Int) : List UInt8 := UInt8.ofNat p.2.toNat :: (num p.1.toNat 4).take (pn p)
theorem pfx_length (p : Int × Int) (h : Gp p) : (pfx p).length = 1 + pn p := by
  have : pn p ≤ 4 := by unfold pn; have := h.2.2.2.1; omega
  simp [pfx, num_length]
  omega
/-- The number that bytes and as many noughts behind them are. -/
def wide (l : List UInt8) : Nat := val l * 256 ^ (4 - l.length)
theorem num_take (x n : Nat) (hn : n ≤ 4) : (num x 4).take n = num (x / 256 ^ (4 - n)) n := by
  have key : ∀ k j, (num x (j + k)).take j = num (x / 256 ^ k) j := by
    intro k
    induction k generalizing x with
    | zero => intro j; simp [num_length, List.take_of_length_le]
    | succ k ih =>
      intro j
      rw [← Nat.add_assoc, num, List.take_append_of_le_length (by rw [num_length]; omega), ih (x / 256) j, Nat.div_div_eq_div_mul, Nat.pow_succ, Nat.mul_comm]
  have := key (4 - n) n
  rwa [show n + (4 - n) = 4 by omega] at this
theorem wide_pfx {p : Int × Int} (h : Gp p) : wide ((num p.1.toNat 4).take (pn p)) = p.1.toNat := by
  obtain ⟨h0, h1, h2, h3, h4⟩ := h
  have hn : pn p ≤ 4 := by unfold pn; omega
  unfold wide
  rw [num_take _ _ hn, num_length, val_num]
  · have hd : 256 ^ (4 - pn p) ∣ 2 ^ (32 - p.2.toNat) := by
      rw [show (256 : Nat) = 2 ^ 8 by decide, ← Nat.pow_mul]
      exact Nat.pow_dvd_pow 2 (by unfold pn at *; omega)
    exact Nat.div_mul_cancel (Nat.dvd_trans hd (Nat.dvd_of_mod_eq_zero h4))
  · rw [Nat.div_lt_iff_lt_mul (Nat.pow_pos (by decide)), ← Nat.pow_add, show pn p + (4 - pn p) = 4 by omega]
    show p.1.toNat < 4294967296
    omega
/-- The prefix whose bytes come first, and what comes behind. -/
def takeP : List UInt8 → Option ((Int × Int) × List UInt8)
  | [] => none
  | b :: l => if 32 < b.toNat then none else if l.length < (b.toNat + 7) / 8 then none else
      (if Gp (((wide (l.take ((b.toNat + 7) / 8)) : Nat) : Int), ((b.toNat : Nat) : Int)) then some ((((wide (l.take ((b.toNat + 7) / 8)) : Nat) : Int), ((b.toNat : Nat) : Int)), l.drop ((b.toNat + 7) / 8)) else none)
theorem takeP_cons (b : UInt8) (l : List UInt8) : takeP (b :: l) = if 32 < b.toNat then none else if l.length < (b.toNat + 7) / 8 then none else
      (if Gp (((wide (l.take ((b.toNat + 7) / 8)) : Nat) : Int), ((b.toNat : Nat) : Int)) then some ((((wide (l.take ((b.toNat + 7) / 8)) : Nat) : Int), ((b.toNat : Nat) : Int)), l.drop ((b.toNat + 7) / 8)) else none) := rfl
theorem takeP_pfx {p : Int × Int} (h : Gp p) (r : List UInt8) : takeP (pfx p ++ r) = some (p, r) := by
  have hw := wide_pfx h
  obtain ⟨h0, h1, h2, h3, h4⟩ := h
  have hb : (UInt8.ofNat p.2.toNat).toNat = p.2.toNat := byte_nat (by omega)
  have hn : pn p ≤ 4 := by unfold pn; omega
  have hl : ((num p.1.toNat 4).take (pn p)).length = pn p := by simp [num_length]; omega
  have ht : ((num p.1.toNat 4).take (pn p) ++ r).take (pn p) = (num p.1.toNat 4).take (pn p) := by rw [List.take_append_of_le_length (by omega), List.take_of_length_le (by omega)]
  have hd : ((num p.1.toNat 4).take (pn p) ++ r).drop (pn p) = r := by rw [List.drop_append_of_le_length (by omega), List.drop_of_length_le (by omega)]; rfl
  show takeP (UInt8.ofNat p.2.toNat :: ((num p.1.toNat 4).take (pn p) ++ r)) = _
  rw [takeP_cons, hb, show (p.2.toNat + 7) / 8 = pn p from rfl, if_neg (by omega), if_neg (by rw [List.length_append]; omega), ht, hd, hw]
  have e : ((p.1.toNat : Int), (p.2.toNat : Int)) = p := by
    rw [Int.toNat_of_nonneg h0, Int.toNat_of_nonneg h2]
  rw [e, if_pos ⟨h0, h1, h2, h3, h4⟩]
theorem takeP_some {b r : List UInt8} {p : Int × Int} (h : takeP b = some (p, r)) : Gp p ∧ b = pfx p ++ r := by
  cases b with
  | nil => cases h
  | cons x l =>
    rw [takeP_cons] at h
    split at h
    · cases h
    · rename_i hx
      split at h
      · cases h
      · rename_i hl
        split at h
        · rename_i hg
          simp only [Option.some.injEq, Prod.mk.injEq] at h
          obtain ⟨rfl, rfl⟩ := h
          refine ⟨hg, ?_⟩
          have hn : (x.toNat + 7) / 8 ≤ 4 := by omega
          have hl' : (l.take ((x.toNat + 7) / 8)).length = (x.toNat + 7) / 8 := by rw [List.length_take]; omega
          unfold pfx pn
          simp only [Int.toNat_natCast]
          rw [num_take _ _ hn]
          have e : wide (l.take ((x.toNat + 7) / 8)) / 256 ^ (4 - (x.toNat + 7) / 8) = val (l.take ((x.toNat + 7) / 8)) := by
            unfold wide
            rw [hl', Nat.mul_div_cancel _ (Nat.pow_pos (by decide))]
          rw [e]
          have hv := num_val (l.take ((x.toNat + 7) / 8))
          rw [hl'] at hv
          rw [hv]
          simp
        · cases h
/-- Prefixes one behind the other. -/
def pfxs (l : List (Int × Int)) : List UInt8 := l.flatMap pfx
theorem pfxs_inj : ∀ {l m : List (Int × Int)}, (∀ p ∈ l, Gp p) → (∀ p ∈ m, Gp p) → pfxs l = pfxs m → l = m
  | [], [], _, _, _ => rfl
  | [], q :: m, _, _, h => by simp [pfxs, pfx] at h
  | p :: l, [], _, _, h => by simp [pfxs, pfx] at h
  | p :: l, q :: m, hl, hm, h => by
    have h1 := takeP_pfx (hl p (List.mem_cons_self ..)) (pfxs l)
    have h2 := takeP_pfx (hm q (List.mem_cons_self ..)) (pfxs m)
    have e : pfx p ++ pfxs l = pfx q ++ pfxs m := by simpa [pfxs] using h
    rw [e, h2] at h1
    simp only [Option.some.injEq, Prod.mk.injEq] at h1
    obtain ⟨rfl, h3⟩ := h1
    rw [pfxs_inj (fun x hx => hl x (List.mem_cons_of_mem _ hx)) (fun x hx => hm x (List.mem_cons_of_mem _ hx)) h3.symm]
end Go.Proofs.Ytkhmhmopcofejaa

/- The bytes of attributes, told apart. -/
namespace Go.Proofs.Ytkhmhmopcofejaa
open Go.RowKit

abbrev Tl : Type := Nat × Nat × List UInt8
def one (x : Tl) : List UInt8 := UInt8.ofNat x.1 :: UInt8.ofNat x.2.1 :: UInt8.ofNat x.2.2.length :: x.2.2
def tlvs (l : List Tl) : List UInt8 := l.flatMap one
def Tl.ok (x : Tl) : Prop := x.1 < 256 ∧ x.2.1 < 256 ∧ x.2.2.length < 256
theorem Tl.ok_of {f k : Nat} {d : List UInt8} (h1 : f < 256) (h2 : k < 256) (h3 : d.length < 256) : Tl.ok (f, k, d) := ⟨h1, h2, h3⟩
theorem byte_inj {m n : Nat} (hm : m < 256) (hn : n < 256) (h : UInt8.ofNat m = UInt8.ofNat n) : m = n := by
  rw [← byte_nat hm, ← byte_nat hn, h]
theorem one_inj {x y : Tl} {r s : List UInt8} (hx : Tl.ok x) (hy : Tl.ok y) (h : one x ++ r = one y ++ s) : x = y ∧ r = s := by
  obtain ⟨f, k, d⟩ := x
  obtain ⟨g, j, e⟩ := y
  simp only [one, List.cons_append, List.cons.injEq] at h
  obtain ⟨h1, h2, h3, h4⟩ := h
  have e1 := byte_inj hx.1 hy.1 h1
  have e2 := byte_inj hx.2.1 hy.2.1 h2
  have e3 := byte_inj hx.2.2 hy.2.2 h3
  obtain ⟨h5, h6⟩ := List.append_inj h4 e3
  simp only at e1 e2 h5
  subst e1 e2 h5
  exact ⟨rfl, h6⟩
theorem tlvs_inj : ∀ {l m : List Tl}, (∀ x ∈ l, Tl.ok x) → (∀ x ∈ m, Tl.ok x) → tlvs l = tlvs m → l = m
  | [], [], _, _, _ => rfl
  | [], y :: m, _, _, h => by simp [tlvs, one] at h
  | x :: l, [], _, _, h => by simp [tlvs, one] at h
  | x :: l, y :: m, hl, hm, h => by
    have e : one x ++ tlvs l = one y ++ tlvs m := by simpa [tlvs] using h
    obtain ⟨rfl, h2⟩ := one_inj (hl x (List.mem_cons_self ..)) (hm y (List.mem_cons_self ..)) e
    rw [tlvs_inj (fun z hz => hl z (List.mem_cons_of_mem _ hz)) (fun z hz => hm z (List.mem_cons_of_mem _ hz)) h2]
/-- What stands in one of a kind. -/
def lk (k : Nat) : List Tl → List UInt8
  | [] => []
  | x :: l => if x.2.1 = k then x.2.2 else lk k l
theorem lk_opt (k f j : Nat) (d : List UInt8) (c : Prop) [Decidable c] (l : List Tl) : lk k ((if c then [(f, j, d)] else []) ++ l) = if c ∧ j = k then d else lk k l := by
  by_cases hc : c
  · by_cases hj : j = k <;> simp [hc, hj, lk]
  · simp [hc]
/-- Numbers one behind the other. -/
def rowN (k : Nat) (l : List Int) : List UInt8 := l.flatMap fun n => num n.toNat k
theorem rows_length (k : Nat) (l : List Int) : (rowN k l).length = l.length * k := by
  induction l with
  | nil => simp [rowN]
  | cons x l ih =>
    simp only [rowN, List.flatMap_cons, List.length_append, List.length_cons, num_length] at *
    rw [ih, Nat.add_mul, Nat.one_mul, Nat.add_comm]
theorem rows_inj {k : Nat} (hk : 0 < k) : ∀ {l m : List Int}, (∀ x ∈ l, 0 ≤ x ∧ x.toNat < 256 ^ k) → (∀ x ∈ m, 0 ≤ x ∧ x.toNat < 256 ^ k) → rowN k l = rowN k m → l = m
  | [], [], _, _, _ => rfl
  | [], y :: m, _, _, h => by
    have := congrArg List.length h
    rw [rows_length, rows_length, List.length_cons, List.length_nil, Nat.zero_mul, Nat.add_mul] at this
    omega
  | x :: l, [], _, _, h => by
    have := congrArg List.length h
    rw [rows_length, rows_length, List.length_cons, List.length_nil, Nat.zero_mul, Nat.add_mul] at this
    omega
  | x :: l, y :: m, hl, hm, h => by
    have e : num x.toNat k ++ rowN k l = num y.toNat k ++ rowN k m := by simpa [rowN] using h
    obtain ⟨h1, h2⟩ := List.append_inj e (by rw [num_length, num_length])
    have hx := hl x (List.mem_cons_self ..)
    have hy := hm y (List.mem_cons_self ..)
    have hxy := num_inj hx.2 hy.2 h1
    have : x = y := by omega
    rw [this, rows_inj hk (fun z hz => hl z (List.mem_cons_of_mem _ hz)) (fun z hz => hm z (List.mem_cons_of_mem _ hz)) h2]
/-- Communities as numbers. -/
def flat : List Cm.Co.C → List Int
  | [] => []
  | c :: l => c.1 :: c.2 :: flat l
theorem flat_inj : ∀ {l m : List Cm.Co.C}, flat l = flat m → l = m
  | [], [], _ => rfl
  | [], c :: m, h => by simp [flat] at h
  | c :: l, [], h => by simp [flat] at h
  | c :: l, d :: m, h => by
    simp only [flat, List.cons.injEq] at h
    rw [flat_inj h.2.2, Prod.ext h.1 h.2.1]
theorem flat_length (l : List Cm.Co.C) : (flat l).length = l.length * 2 := by
  induction l with
  | nil => rfl
  | cons c l ih => simp only [flat, List.length_cons, ih]; omega
theorem flat_mem {l : List Cm.Co.C} {x : Int} (h : x ∈ flat l) : ∃ c ∈ l, x = c.1 ∨ x = c.2 := by
  induction l with
  | nil => cases h
  | cons c l ih =>
    simp only [flat, List.mem_cons] at h
    rcases h with h | h | h
    · exact ⟨c, List.mem_cons_self .., .inl h⟩
    · exact ⟨c, List.mem_cons_self .., .inr h⟩
    · obtain ⟨d, hd, hx⟩ := ih h
      exact ⟨d, List.mem_cons_of_mem _ hd, hx⟩
def pathB (l : List Int) : List UInt8 := if l = [] then [] else 2 :: UInt8.ofNat l.length :: rowN 2 l
/-- The attributes, one behind the other. -/
def At.tl (a : At) : List Tl :=
  (64, 1, num a.og.toNat 1) :: (64, 2, pathB a.path) :: ((if a.md ≠ 0 then [(128, 4, num a.md.toNat 4)] else []) ++ ((64, 5, num a.pf.toNat 4) :: ((if a.comms ≠ [] then [(192, 8, rowN 2 (flat a.comms))] else []) ++ ((if a.fr ≠ 0 then [(128, 9, num a.fr.toNat 4)] else []) ++ ((if a.cl ≠ [] then [(128, 10, rowN 4 a.cl)] else []) ++ [])))))
def At.bytes (a : At) : List UInt8 := tlvs a.tl
theorem lk1 (a : At) : lk 1 a.tl = num a.og.toNat 1 := by simp [At.tl, lk]
theorem lk2 (a : At) : lk 2 a.tl = pathB a.path := by simp [At.tl, lk]
theorem lk4 (a : At) : lk 4 a.tl = if a.md ≠ 0 then num a.md.toNat 4 else [] := by
  simp only [At.tl, lk, lk_opt]
  simp
theorem lk5 (a : At) : lk 5 a.tl = num a.pf.toNat 4 := by
  simp only [At.tl, lk, lk_opt]
  simp
theorem lk8 (a : At) : lk 8 a.tl = if a.comms ≠ [] then rowN 2 (flat a.comms) else [] := by
  simp only [At.tl, lk, lk_opt]
  simp
theorem lk9 (a : At) : lk 9 a.tl = if a.fr ≠ 0 then num a.fr.toNat 4 else [] := by
  simp only [At.tl, lk, lk_opt]
  simp
theorem lk10 (a : At) : lk 10 a.tl = if a.cl ≠ [] then rowN 4 a.cl else [] := by
  simp only [At.tl, lk, lk_opt]
  simp
/-- A number that is left out where it is 0. -/
theorem opt_num {m n : Int} (hm : 0 ≤ m ∧ m ≤ 1048576) (hn : 0 ≤ n ∧ n ≤ 1048576) (h : (if m ≠ 0 then num m.toNat 4 else []) = (if n ≠ 0 then num n.toNat 4 else [])) : m = n := by
  by_cases h1 : m = 0 <;> by_cases h2 : n = 0
  · rw [h1, h2]
  · rw [if_neg (by simp [h1]), if_pos h2] at h
    have := congrArg List.length h
    rw [num_length] at this
    cases this
  · rw [if_pos h1, if_neg (by simp [h2])] at h
    have := congrArg List.length h
    rw [num_length] at this
    cases this
  · rw [if_pos h1, if_pos h2] at h
    have := num_inj (k := 4) (by omega) (by omega) h
    omega
theorem opt_list {α : Type} {f : List α → List UInt8} (hf : f [] = []) (l : List α) [Decidable (l ≠ [])] : (if l ≠ [] then f l else []) = f l := by
  by_cases h : l = []
  · rw [if_neg (by simp [h]), h, hf]
  · rw [if_pos h]
theorem comm_may {l : List Cm.Co.C} (h : Cm.Co.set l = true) : ∀ c ∈ l, Cm.Co.may c = true := by
  intro c hc
  obtain ⟨j, hj, rfl⟩ := List.mem_iff_getElem.1 hc
  have := ((Cm.Co.set_iff l).1 h).2 j hj
  cases hm : Cm.Co.may l[j]
  · rw [Cm.Co.ok_may l j hj hm] at this
    cases this
  · rfl
theorem comm_range {a b : Int} (h : Cm.Co.may (a, b) = true) : 1 ≤ a ∧ a ≤ 65535 ∧ 0 ≤ b ∧ b ≤ 65535 := by simpa [Cm.Co.may] using h
structure At.fits (a : At) : Prop where
  pf : 0 ≤ a.pf ∧ a.pf ≤ 1048576
  md : 0 ≤ a.md ∧ a.md ≤ 1048576
  og : 0 ≤ a.og ∧ a.og ≤ 2
  fr : 0 ≤ a.fr ∧ a.fr ≤ 1048576
  path : ∀ x ∈ a.path, 0 ≤ x ∧ x.toNat < 256 ^ 2
  lp : a.path.length ≤ 16
  comms : ∀ x ∈ flat a.comms, 0 ≤ x ∧ x.toNat < 256 ^ 2
  lc : a.comms.length ≤ 8
  cl : ∀ x ∈ a.cl, 0 ≤ x ∧ x.toNat < 256 ^ 4
  lk : a.cl.length ≤ 8
theorem as_range {n : Int} (h : Is.as n = true) : 0 ≤ n ∧ n.toNat < 65536 := by
  have := (Is.as_iff n).1 h
  omega
theorem At.may_fits {a : At} (h : At.may a = true) : At.fits a := by
  unfold At.may at h
  simp only [Bool.and_eq_true, decide_eq_true_eq] at h
  obtain ⟨⟨h1, h2, h3, h4, h5, h6, h7, h8⟩, pm, cs, ks⟩ := h
  obtain ⟨lp, pa⟩ := (Is.may_iff _).1 pm
  obtain ⟨lk, ka, _⟩ := (Cl.ok_iff _).1 ks
  have lc := ((Cm.Co.set_iff _).1 cs).1
  refine ⟨⟨h1, h2⟩, ⟨h3, h4⟩, ⟨h5, h6⟩, ⟨h7, by omega⟩, fun x hx => ?_, lp, fun x hx => ?_, lc, fun x hx => ?_, lk⟩
  · obtain ⟨j, hj, rfl⟩ := List.mem_iff_getElem.1 hx
    exact as_range (pa j hj)
  · obtain ⟨c, hc, e⟩ := flat_mem hx
    have := comm_range (a := c.1) (b := c.2) (comm_may cs c hc)
    rcases e with rfl | rfl <;> (show _ ∧ _ < 65536; omega)
  · obtain ⟨j, hj, rfl⟩ := List.mem_iff_getElem.1 hx
    have := as_range (ka j hj)
    exact ⟨this.1, Nat.lt_trans this.2 (by decide)⟩
theorem pathB_length (l : List Int) : (pathB l).length ≤ 2 + l.length * 2 := by
  unfold pathB
  split
  · simp
  · simp only [List.length_cons, rows_length]; omega
theorem At.tl_ok {a : At} (h : At.fits a) : ∀ x ∈ a.tl, Tl.ok x := by
  have hp := pathB_length a.path
  have h1 := h.lp
  have h2 := h.lc
  have h3 := h.lk
  intro x hx
  simp only [At.tl, List.mem_cons, List.mem_append, List.not_mem_nil, or_false] at hx
  rcases hx with rfl | rfl | hx | rfl | hx | hx | hx
  · exact Tl.ok_of (by decide) (by decide) (by rw [num_length]; decide)
  · exact Tl.ok_of (by decide) (by decide) (by omega)
  · split at hx
    · rw [List.mem_singleton] at hx; subst hx; exact Tl.ok_of (by decide) (by decide) (by rw [num_length]; decide)
    · cases hx
  · exact Tl.ok_of (by decide) (by decide) (by rw [num_length]; decide)
  · split at hx
    · rw [List.mem_singleton] at hx; subst hx; exact Tl.ok_of (by decide) (by decide) (by rw [rows_length, flat_length]; omega)
    · cases hx
  · split at hx
    · rw [List.mem_singleton] at hx; subst hx; exact Tl.ok_of (by decide) (by decide) (by rw [num_length]; decide)
    · cases hx
  · split at hx
    · rw [List.mem_singleton] at hx; subst hx; exact Tl.ok_of (by decide) (by decide) (by rw [rows_length]; omega)
    · cases hx
theorem pathB_inj {l m : List Int} (hl : ∀ x ∈ l, 0 ≤ x ∧ x.toNat < 256 ^ 2) (hm : ∀ x ∈ m, 0 ≤ x ∧ x.toNat < 256 ^ 2) (h : pathB l = pathB m) : l = m := by
  unfold pathB at h
  by_cases h1 : l = [] <;> by_cases h2 : m = []
  · rw [h1, h2]
  · rw [if_pos h1, if_neg h2] at h; cases h
  · rw [if_neg h1, if_pos h2] at h; cases h
  · rw [if_neg h1, if_neg h2] at h
    simp only [List.cons.injEq, true_and] at h
    exact rows_inj (by decide) hl hm h.2
theorem At.bytes_inj {a b : At} (ha : At.fits a) (hb : At.fits b) (h : a.bytes = b.bytes) : a = b := by
  have e := tlvs_inj (At.tl_ok ha) (At.tl_ok hb) h
  have e1 := congrArg (lk 1) e
  have e2 := congrArg (lk 2) e
  have e4 := congrArg (lk 4) e
  have e5 := congrArg (lk 5) e
  have e8 := congrArg (lk 8) e
  have e9 := congrArg (lk 9) e
  have e10 := congrArg (lk 10) e
  rw [lk1, lk1] at e1
  rw [lk2, lk2] at e2
  rw [lk4, lk4] at e4
  rw [lk5, lk5] at e5
  rw [lk8, lk8, opt_list (f := fun l => rowN 2 (flat l)) rfl, opt_list (f := fun l => rowN 2 (flat l)) rfl] at e8
  rw [lk9, lk9] at e9
  rw [lk10, lk10, opt_list (f := rowN 4) rfl, opt_list (f := rowN 4) rfl] at e10
  have a1 := ha.og
  have b1 := hb.og
  have a2 := ha.pf
  have b2 := hb.pf
  have q1 := num_inj (k := 1) (by omega) (by omega) e1
  have q5 := num_inj (k := 4) (by omega) (by omega) e5
  have q2 := pathB_inj ha.path hb.path e2
  have q4 := opt_num ha.md hb.md e4
  have q8 := flat_inj (rows_inj (by decide) ha.comms hb.comms e8)
  have q9 := opt_num ha.fr hb.fr e9
  have q10 := rows_inj (by decide) ha.cl hb.cl e10
  obtain ⟨x0, x1, x2, x3, x4, x5, x6⟩ := a
  obtain ⟨y0, y1, y2, y3, y4, y5, y6⟩ := b
  simp only [At.mk.injEq] at *
  exact ⟨by omega, q4, by omega, q2, q8, q9, q10⟩
end Go.Proofs.Ytkhmhmopcofejaa

/- The bytes of updates, told apart; messages cut and changed. -/
namespace Go.Proofs.Ytkhmhmopcofejaa
open Go.RowKit

/-- An update. -/
structure Up where
  wd : List (Int × Int)
  td : List (Int × Int)
  at_ : At
def Up.zero : Up := ⟨[], [], ⟨0, 0, 0, [], [], 0, []⟩⟩
def pLt (x y : Int × Int) : Prop := x.1 < y.1 ∨ (x.1 = y.1 ∧ x.2 < y.2)
instance (x y : Int × Int) : Decidable (pLt x y) := by unfold pLt; infer_instance
/-- Prefixes that rise, at most 32. -/
def Ups (l : List (Int × Int)) : Prop := l.length ≤ 32 ∧ (∀ p ∈ l, Gp p) ∧ ∀ i (h : i + 1 < l.length), pLt (l[i]'(by omega)) l[i + 1]
/-- An update that may be. -/
def Up.may (u : Up) : Prop := Ups u.wd ∧ Ups u.td ∧ (u.wd ≠ [] ∨ u.td ≠ []) ∧ (if u.td = [] then u.at_ = ⟨0, 0, 0, [], [], 0, []⟩ else At.may u.at_ = true)
def Up.ab (u : Up) : List UInt8 := if u.td = [] then [] else u.at_.bytes
def ff : List UInt8 := List.replicate 16 255
/-- A message with its head. -/
def frame (k : Nat) (d : List UInt8) : List UInt8 := ff ++ num (19 + d.length) 2 ++ num k 1 ++ d
def Up.body (u : Up) : List UInt8 := num (pfxs u.wd).length 2 ++ (pfxs u.wd ++ (num u.ab.length 2 ++ (u.ab ++ pfxs u.td)))
def Up.enc (u : Up) : List UInt8 := frame 2 u.body
theorem frame_length (k : Nat) (d : List UInt8) : (frame k d).length = 19 + d.length := by
  simp [frame, ff, num_length]
  omega
theorem pfxs_length {l : List (Int × Int)} (h : Ups l) : (pfxs l).length ≤ 160 := by
  have key : ∀ m : List (Int × Int), (∀ p ∈ m, Gp p) → (pfxs m).length ≤ m.length * 5 := by
    intro m
    induction m with
    | nil => intro _; simp [pfxs]
    | cons p m ih =>
      intro hg
      have hp := hg p (List.mem_cons_self ..)
      have h1 := pfx_length p hp
      have h2 := ih fun x hx => hg x (List.mem_cons_of_mem _ hx)
      have h3 : pn p ≤ 4 := by unfold pn; have := hp.2.2.2.1; omega
      simp only [pfxs, List.flatMap_cons, List.length_append, List.length_cons] at *
      omega
  have := key l h.2.1
  have := h.1
  omega
theorem one_length (x : Tl) : (one x).length = 3 + x.2.2.length := by simp [one]; omega
theorem tlvs_cons (x : Tl) (l : List Tl) : tlvs (x :: l) = one x ++ tlvs l := rfl
theorem tlvs_app (l m : List Tl) : tlvs (l ++ m) = tlvs l ++ tlvs m := by simp [tlvs]
theorem tlvs_opt (c : Prop) [Decidable c] (x : Tl) : (tlvs (if c then [x] else [])).length ≤ 3 + x.2.2.length := by
  split
  · rw [tlvs_cons, List.length_append, one_length]; simp [tlvs]
  · simp [tlvs]
theorem At.bytes_length {a : At} (h : At.fits a) : a.bytes.length ≤ 140 := by
  have hp := pathB_length a.path
  have h1 := h.lp
  have h2 := h.lc
  have h3 := h.lk
  have o1 := tlvs_opt (a.md ≠ 0) (128, 4, num a.md.toNat 4)
  have o2 := tlvs_opt (a.comms ≠ []) (192, 8, rowN 2 (flat a.comms))
  have o3 := tlvs_opt (a.fr ≠ 0) (128, 9, num a.fr.toNat 4)
  have o4 := tlvs_opt (a.cl ≠ []) (128, 10, rowN 4 a.cl)
  simp only [num_length, rows_length, flat_length] at o1 o2 o3 o4
  unfold At.bytes At.tl
  simp only [tlvs_cons, tlvs_app, List.length_append, one_length, num_length]
  have e : (tlvs []).length = 0 := rfl
  omega
theorem Up.may_fits {u : Up} (h : u.may) (ht : u.td ≠ []) : At.fits u.at_ := by
  have := h.2.2.2
  rw [if_neg ht] at this
  exact At.may_fits this
theorem Up.ab_length {u : Up} (h : u.may) : u.ab.length ≤ 140 := by
  unfold Up.ab
  split
  · simp
  · rename_i ht
    exact At.bytes_length (Up.may_fits h ht)
theorem Up.body_length {u : Up} (h : u.may) : u.body.length ≤ 464 := by
  have h1 := pfxs_length h.1
  have h2 := pfxs_length h.2.1
  have h3 := Up.ab_length h
  simp only [Up.body, List.length_append, num_length]
  omega
theorem frame_inj {k : Nat} {d e : List UInt8} (h : frame k d = frame k e) : d = e := by
  have hl := congrArg List.length h
  rw [frame_length, frame_length] at hl
  have hl' : d.length = e.length := by omega
  unfold frame at h
  rw [hl'] at h
  exact List.append_cancel_left h
theorem Up.enc_inj {u v : Up} (hu : u.may) (hv : v.may) (h : u.enc = v.enc) : u = v := by
  have hb : u.body = v.body := frame_inj h
  unfold Up.body at hb
  obtain ⟨e1, hb⟩ := List.append_inj hb (by rw [num_length, num_length])
  have a1 := pfxs_length hu.1
  have a2 := pfxs_length hv.1
  have l1 := num_inj (k := 2) (by omega) (by omega) e1
  obtain ⟨e2, hb⟩ := List.append_inj hb l1
  obtain ⟨e3, hb⟩ := List.append_inj hb (by rw [num_length, num_length])
  have a3 := Up.ab_length hu
  have a4 := Up.ab_length hv
  have l2 := num_inj (k := 2) (by omega) (by omega) e3
  obtain ⟨e4, e5⟩ := List.append_inj hb l2
  have w1 := pfxs_inj hu.1.2.1 hv.1.2.1 e2
  have w2 := pfxs_inj hu.2.1.2.1 hv.2.1.2.1 e5
  obtain ⟨uw, ut, ua⟩ := u
  obtain ⟨vw, vt, va⟩ := v
  simp only at w1 w2
  subst w1 w2
  have w3 : ua = va := by
    by_cases ht : ut = []
    · have h1 := hu.2.2.2
      have h2 := hv.2.2.2
      simp only [ht, if_true] at h1 h2
      rw [h1, h2]
    · unfold Up.ab at e4
      simp only [ht, if_false] at e4
      exact At.bytes_inj (Up.may_fits hu ht) (Up.may_fits hv ht) e4
  rw [w3]
/-- What bytes are read as: the answer, and its error's number. -/
def DecTo (b : List UInt8) (r : Up) (q : Int) : Prop :=
  (b.length < 19 ∧ r = Up.zero ∧ q = 3) ∨ (19 ≤ b.length ∧ r.may ∧ r.enc = b ∧ q = 0) ∨ (19 ≤ b.length ∧ (∀ u : Up, u.may → u.enc ≠ b) ∧ r = Up.zero ∧ q = 4)
theorem Up.enc_length {u : Up} : u.enc.length = 19 + u.body.length := frame_length 2 _
theorem dec_enc {u r : Up} {q : Int} (hu : u.may) (h : DecTo u.enc r q) : r = u ∧ q = 0 := by
  have hl := Up.enc_length (u := u)
  rcases h with ⟨h1, _⟩ | ⟨_, h2, h3, h4⟩ | ⟨_, h2, _⟩
  · omega
  · exact ⟨Up.enc_inj h2 hu h3, h4⟩
  · exact absurd rfl (h2 u hu)
/-- The head of an update's bytes. -/
theorem head_get (k : Nat) (d : List UInt8) : (frame k d).take 19 = ff ++ num (19 + d.length) 2 ++ num k 1 := by
  unfold frame
  rw [List.take_append_of_le_length (by simp [ff, num_length]), List.take_of_length_le (by simp [ff, num_length])]
/-- Bytes of another length, with the same head, are none. -/
theorem no_more {u v : Up} (hu : u.may) (hv : v.may) (h : u.enc.take 19 = v.enc.take 19) : u.enc.length = v.enc.length := by
  unfold Up.enc at *
  rw [head_get, head_get] at h
  have h1 := List.append_inj_left h (by simp [ff, num_length])
  have h2 := List.append_inj_right h1 (by simp [ff])
  have b1 := Up.body_length hu
  have b2 := Up.body_length hv
  have := num_inj (k := 2) (by omega) (by omega) h2
  rw [frame_length, frame_length]
  omega
theorem no_longer {u : Up} (hu : u.may) (x : UInt8) (v : Up) (hv : v.may) : v.enc ≠ u.enc ++ [x] := by
  intro h
  have hl := Up.enc_length (u := u)
  have := no_more hv hu (by rw [h, List.take_append_of_le_length (by omega)])
  rw [h, List.length_append] at this
  simp at this
theorem no_shorter {u : Up} (hu : u.may) (c : Nat) (hc : c < u.enc.length) (v : Up) (hv : v.may) : v.enc ≠ u.enc.take c := by
  intro h
  have hl := Up.enc_length (u := v)
  have hc' : (u.enc.take c).length = c := by rw [List.length_take]; omega
  have : v.enc.length = c := by rw [h, hc']
  have h2 := no_more hv hu (by rw [h, List.take_take, Nat.min_eq_left (by omega)])
  omega
/-- One byte of the head changed. -/
theorem no_other {u : Up} (_hu : u.may) (c : Nat) (hc : c < 19) (x : UInt8) (hx : u.enc[c]? ≠ some x) (v : Up) (_hv : v.may) : v.enc ≠ u.enc.set c x := by
  intro h
  have hl := Up.enc_length (u := u)
  have hs : v.enc.length = u.enc.length := by rw [h, List.length_set]
  have hb : u.body.length = v.body.length := by
    have := Up.enc_length (u := v)
    omega
  have e : v.enc.take 19 = u.enc.take 19 := by
    unfold Up.enc
    rw [head_get, head_get, hb]
  have h1 : (v.enc.take 19)[c]? = some x := by rw [h, List.getElem?_take_of_lt hc, List.getElem?_set_self (by omega)]
  rw [e, List.getElem?_take_of_lt hc] at h1
  exact hx h1
end Go.Proofs.Ytkhmhmopcofejaa

