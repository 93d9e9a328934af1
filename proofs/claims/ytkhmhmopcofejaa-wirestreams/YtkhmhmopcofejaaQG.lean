import Derived.Test.YtkhmhmopcofejaaQF
/- What attributes are read as: mathematics. -/
namespace Go.Proofs.Ytkhmhmopcofejaa
open Go.RowKit Go.Sort

theorem rowN_cons (k : Nat) (x : Int) (l : List Int) : rowN k (x :: l) = num x.toNat k ++ rowN k l := rfl
theorem rowN_drop (k : Nat) : ∀ (l : List Int) (j : Nat), j ≤ l.length → (rowN k l).drop (j * k) = rowN k (l.drop j)
  | l, 0, _ => by simp
  | [], j + 1, h => by simp at h
  | x :: l, j + 1, h => by
    rw [rowN_cons, List.drop_succ_cons, ← rowN_drop k l j (by simpa using h)]
    rw [show (j + 1) * k = (num x.toNat k).length + j * k by rw [num_length, Nat.add_mul]; omega]
    rw [List.drop_append, List.drop_eq_nil_of_le (Nat.le_add_right _ _), List.nil_append, Nat.add_sub_cancel_left]
theorem rowN_at (k : Nat) (l : List Int) (j : Nat) (h : j < l.length) : ((rowN k l).drop (j * k)).take k = num l[j].toNat k := by
  rw [rowN_drop k l j (by omega), List.drop_eq_getElem_cons h, rowN_cons]
  conv => lhs; rw [show k = (num l[j].toNat k).length by rw [num_length]]
  rw [num_length]
  rw [List.take_left' (num_length _ _)]
theorem numsI_row (k : Nat) (l : List Int) (hl : ∀ x ∈ l, 0 ≤ x ∧ x.toNat < 256 ^ k) : numsI k (rowN k l) l.length = l := by
  apply List.ext_getElem (by rw [numsI_length])
  intro j h1 h2
  have hx := hl l[j] (List.getElem_mem h2)
  simp only [numsI, List.getElem_map, List.getElem_range]
  rw [rowN_at k l j h2, val_num _ _ hx.2]
  omega
theorem flat_drop : ∀ (l : List Cm.Co.C) (j : Nat), (flat l).drop (j * 2) = flat (l.drop j)
  | l, 0 => by simp
  | [], j + 1 => by simp [flat]
  | (a, b) :: l, j + 1 => by
    rw [List.drop_succ_cons, ← flat_drop l j, show (j + 1) * 2 = j * 2 + 1 + 1 by omega]
    rfl
theorem flat_get (l : List Cm.Co.C) (j : Nat) (h : j < l.length) : ∃ (h1 : j * 2 < (flat l).length) (h2 : j * 2 + 1 < (flat l).length), (flat l)[j * 2] = l[j].1 ∧ (flat l)[j * 2 + 1] = l[j].2 := by
  have hf := flat_length l
  refine ⟨by omega, by omega, ?_⟩
  have e := flat_drop l j
  rw [List.drop_eq_getElem_cons h, List.drop_eq_getElem_cons (by omega : j * 2 < (flat l).length), List.drop_eq_getElem_cons (by omega : j * 2 + 1 < (flat l).length)] at e
  have e2 : flat (l[j] :: l.drop (j + 1)) = l[j].1 :: l[j].2 :: flat (l.drop (j + 1)) := rfl
  rw [e2] at e
  simp only [List.cons.injEq] at e
  exact ⟨e.1, e.2.1⟩
theorem commsI_row (l : List Cm.Co.C) (hl : ∀ x ∈ flat l, 0 ≤ x ∧ x.toNat < 256 ^ 2) : commsI (rowN 2 (flat l)) l.length = l := by
  apply List.ext_getElem (by rw [commsI_length])
  intro j h1 h2
  obtain ⟨g1, g2, e1, e2⟩ := flat_get l j h2
  have x1 := hl _ (List.getElem_mem g1)
  have x2 := hl _ (List.getElem_mem g2)
  simp only [commsI, List.getElem_map, List.getElem_range]
  rw [show j * 4 = j * 2 * 2 by omega, show j * 2 * 2 + 2 = (j * 2 + 1) * 2 by omega, rowN_at 2 (flat l) (j * 2) g1, rowN_at 2 (flat l) (j * 2 + 1) g2, val_num _ _ x1.2, val_num _ _ x2.2]
  apply Prod.ext
  · simp only; rw [← e1]; omega
  · simp only; rw [← e2]; omega
theorem pathR_B (l : List Int) (hl : ∀ x ∈ l, 0 ≤ x ∧ x.toNat < 256 ^ 2) : pathR (pathB l) = some l := by
  unfold pathB
  by_cases h : l = []
  · subst h; rfl
  · rw [if_neg h]
    unfold pathR
    have e : (2 :: UInt8.ofNat l.length :: rowN 2 l).length = 2 + l.length * 2 := by simp [rows_length]; omega
    rw [if_neg (by simp), e, if_neg (by omega), if_pos (by omega), show (2 + l.length * 2 - 2) / 2 = l.length by omega]
    rw [show (2 :: UInt8.ofNat l.length :: rowN 2 l).drop 2 = rowN 2 l from rfl, numsI_row 2 l hl]
/-- One attribute is read. -/
def stp (a : At) (k : Nat) (d : List UInt8) : Option At :=
  if k = 1 then (if d.length < 1 then none else some { a with og := ((val (d.take 1) : Nat) : Int) })
  else if k = 2 then (match pathR d with | none => none | some L => some { a with path := L })
  else if k = 4 then (if d.length < 4 then none else some { a with md := ((val (d.take 4) : Nat) : Int) })
  else if k = 5 then (if d.length < 4 then none else some { a with pf := ((val (d.take 4) : Nat) : Int) })
  else if k = 8 then (if d.length % 4 = 0 then some { a with comms := commsI d (d.length / 4) } else none)
  else if k = 9 then (if d.length < 4 then none else some { a with fr := ((val (d.take 4) : Nat) : Int) })
  else if k = 10 then (if d.length % 4 = 0 then some { a with cl := numsI 4 d (d.length / 4) } else none)
  else none
def appl (a : At) : List Tl → Option At
  | [] => some a
  | x :: l => match stp a x.2.1 x.2.2 with
    | none => none
    | some a' => appl a' l
theorem appl_app (a : At) (l m : List Tl) : appl a (l ++ m) = (appl a l).bind fun a' => appl a' m := by
  induction l generalizing a with
  | nil => rfl
  | cons x l ih =>
    simp only [List.cons_append, appl]
    cases stp a x.2.1 x.2.2 with
    | none => rfl
    | some a' => exact ih a'
theorem val_four {n : Int} (h : 0 ≤ n ∧ n ≤ 1048576) : ((val ((num n.toNat 4).take 4) : Nat) : Int) = n := by
  rw [List.take_of_length_le (by rw [num_length]; exact Nat.le_refl _), val_num _ _ (by omega)]
  omega
def At.zero : At := ⟨0, 0, 0, [], [], 0, []⟩
theorem appl_tl {v : At} (h : At.fits v) : appl At.zero v.tl = some v := by
  obtain ⟨pf, md, og, pa, cm, fr, cl⟩ := v
  obtain ⟨h1, h2, h3, h4, h5, _, h6, _, h7, _⟩ := h
  simp only at h1 h2 h3 h4 h5 h6 h7
  have e1 : ((val ((num og.toNat 1).take 1) : Nat) : Int) = og := by
    rw [List.take_of_length_le (by rw [num_length]; exact Nat.le_refl _), val_num _ _ (by omega)]
    omega
  have l4 : ∀ n : Nat, ¬ (num n 4).length < 4 := fun n => by rw [num_length]; omega
  have l1 : ∀ n : Nat, ¬ (num n 1).length < 1 := fun n => by rw [num_length]; omega
  have s1 : stp At.zero 1 (num og.toNat 1) = some ⟨0, 0, og, [], [], 0, []⟩ := by simp only [stp, if_true, if_neg (l1 _), e1]; rfl
  have s2 : stp ⟨0, 0, og, [], [], 0, []⟩ 2 (pathB pa) = some ⟨0, 0, og, pa, [], 0, []⟩ := by simp [stp, pathR_B pa h5]
  have s3 : appl ⟨0, 0, og, pa, [], 0, []⟩ (if md ≠ 0 then [(128, 4, num md.toNat 4)] else []) = some ⟨0, md, og, pa, [], 0, []⟩ := by
    by_cases hz : md = 0
    · subst hz; rfl
    · rw [if_pos hz]
      simp [appl, stp, num_length, val_four h2]
  have s4 : stp ⟨0, md, og, pa, [], 0, []⟩ 5 (num pf.toNat 4) = some ⟨pf, md, og, pa, [], 0, []⟩ := by simp [stp, num_length, val_four h1]
  have s5 : appl ⟨pf, md, og, pa, [], 0, []⟩ (if cm ≠ [] then [(192, 8, rowN 2 (flat cm))] else []) = some ⟨pf, md, og, pa, cm, 0, []⟩ := by
    by_cases hz : cm = []
    · subst hz; rfl
    · rw [if_pos hz]
      have hl : (rowN 2 (flat cm)).length = cm.length * 4 := by rw [rows_length, flat_length]; omega
      have hd : cm.length * 4 / 4 = cm.length := by omega
      simp [appl, stp, hl, hd, commsI_row cm h6]
  have s6 : appl ⟨pf, md, og, pa, cm, 0, []⟩ (if fr ≠ 0 then [(128, 9, num fr.toNat 4)] else []) = some ⟨pf, md, og, pa, cm, fr, []⟩ := by
    by_cases hz : fr = 0
    · subst hz; rfl
    · rw [if_pos hz]
      simp [appl, stp, num_length, val_four h4]
  have s7 : appl ⟨pf, md, og, pa, cm, fr, []⟩ (if cl ≠ [] then [(128, 10, rowN 4 cl)] else []) = some ⟨pf, md, og, pa, cm, fr, cl⟩ := by
    by_cases hz : cl = []
    · subst hz; rfl
    · rw [if_pos hz]
      have hl : (rowN 4 cl).length = cl.length * 4 := by rw [rows_length]
      have hd : cl.length * 4 / 4 = cl.length := by omega
      simp [appl, stp, hl, hd, numsI_row 4 cl h7]
  unfold At.tl
  simp only [appl, s1, s2, appl_app, s3, s4, s5, s6, s7, Option.bind_some]
/-- What has been read, and what is still to come. -/
def Inv (l : List UInt8) (k : Nat) (a : At) : Prop := (∀ v, At.fits v → v.bytes = l → ∃ dn td, v.tl = dn ++ td ∧ tlvs td = l.drop k ∧ appl At.zero dn = some a) ∧ (l = [] → a = At.zero)
/-- No attributes have these bytes. -/
def NoAt (l : List UInt8) : Prop := (∀ v, At.fits v → v.bytes ≠ l) ∧ l ≠ []
/-- These attributes, if some, have these bytes. -/
def IsAt (l : List UInt8) (a : At) : Prop := (∀ v, At.fits v → v.bytes = l → a = v) ∧ (l = [] → a = At.zero)
theorem ne_nil {l : List UInt8} {k : Nat} (h : k < l.length) : l ≠ [] := fun e => by rw [e] at h; simp at h
def vb (l : List UInt8) (k : Nat) : Nat := val ((l.drop k).take 1)
theorem vb_get {l : List UInt8} {k : Nat} (h : k < l.length) : vb l k = l[k].toNat := by
  unfold vb
  rw [List.drop_eq_getElem_cons h, List.take_succ_cons, List.take_zero]
  simp [val, valFrom]
theorem inv_core {l : List UInt8} {k : Nat} {a : At} (hk : k < l.length) (h : Inv l k a) {v : At} (hf : At.fits v) (hv : v.bytes = l) :
    k + 3 ≤ l.length ∧ k + 3 + vb l (k + 2) ≤ l.length ∧ ∃ x dn td, v.tl = dn ++ x :: td ∧ vb l (k + 1) = x.2.1 ∧ (l.drop (k + 3)).take (vb l (k + 2)) = x.2.2 ∧ l.drop (k + 3 + vb l (k + 2)) = tlvs td ∧ appl At.zero dn = some a := by
  obtain ⟨dn, td, h1, h2, h3⟩ := h.1 v hf hv
  cases td with
  | nil =>
    have := congrArg List.length h2
    rw [List.length_drop] at this
    simp [tlvs] at this
    omega
  | cons x td =>
    have hok := At.tl_ok hf x (by rw [h1]; simp)
    obtain ⟨o1, o2, o3⟩ := hok
    rw [tlvs_cons] at h2
    have hl := congrArg List.length h2
    rw [List.length_append, one_length, List.length_drop] at hl
    have g : ∀ j, j < l.length - k → l[k + j]? = (one x ++ tlvs td)[j]? := by
      intro j hj
      rw [h2, List.getElem?_drop]
    have g1 := g 1 (by omega)
    have g2 := g 2 (by omega)
    rw [List.getElem?_eq_getElem (by omega : k + 1 < l.length)] at g1
    rw [List.getElem?_eq_getElem (by omega : k + 2 < l.length)] at g2
    simp only [one, List.cons_append, List.getElem?_cons_succ, List.getElem?_cons_zero, Option.some.injEq] at g1 g2
    have k1 : vb l (k + 1) = x.2.1 := by rw [vb_get (by omega), g1, byte_nat o2]
    have k2 : vb l (k + 2) = x.2.2.length := by rw [vb_get (by omega), g2, byte_nat o3]
    have d3 : l.drop (k + 3) = x.2.2 ++ tlvs td := by
      rw [← List.drop_drop, ← h2]
      rfl
    rw [k2]
    refine ⟨by omega, by omega, x, dn, td, h1, k1, ?_, ?_, h3⟩
    · rw [d3, List.take_left]
    · rw [← List.drop_drop, d3, List.drop_left]
theorem inv_none {l : List UInt8} {k : Nat} {a : At} (hk : k < l.length) (h : Inv l k a) (hs : stp a (vb l (k + 1)) ((l.drop (k + 3)).take (vb l (k + 2))) = none) : NoAt l := by
  refine ⟨fun v hf hv => ?_, ne_nil hk⟩
  obtain ⟨_, _, x, dn, td, h1, h2, h3, h4, h5⟩ := inv_core hk h hf hv
  rw [h2, h3] at hs
  have := appl_tl hf
  rw [h1, appl_app, h5, Option.bind_some, appl, hs] at this
  cases this
theorem inv_some {l : List UInt8} {k : Nat} {a a' : At} (hk : k < l.length) (h : Inv l k a) (hs : stp a (vb l (k + 1)) ((l.drop (k + 3)).take (vb l (k + 2))) = some a') : Inv l (k + 3 + vb l (k + 2)) a' := by
  refine ⟨fun v hf hv => ?_, fun e => absurd e (ne_nil hk)⟩
  obtain ⟨_, _, x, dn, td, h1, h2, h3, h4, h5⟩ := inv_core hk h hf hv
  rw [h2, h3] at hs
  refine ⟨dn ++ [x], td, by rw [h1]; simp, h4.symm, ?_⟩
  rw [appl_app, h5, Option.bind_some, appl, hs]
  rfl
theorem inv_short {l : List UInt8} {k : Nat} {a : At} (hk : k < l.length) (h : Inv l k a) (hs : l.length < k + 3 ∨ l.length < k + 3 + vb l (k + 2)) : NoAt l := by
  refine ⟨fun v hf hv => ?_, ne_nil hk⟩
  obtain ⟨h1, h2, _⟩ := inv_core hk h hf hv
  omega
theorem inv_start (l : List UInt8) : Inv l 0 At.zero := ⟨fun v _ hv => ⟨[], v.tl, rfl, by rw [List.drop_zero]; exact hv, rfl⟩, fun _ => rfl⟩
theorem inv_end {l : List UInt8} {a : At} (h : Inv l l.length a) : IsAt l a := by
  refine ⟨fun v hf hv => ?_, h.2⟩
  obtain ⟨dn, td, h1, h2, h3⟩ := h.1 v hf hv
  rw [List.drop_length] at h2
  cases td with
  | nil =>
    rw [List.append_nil] at h1
    have := appl_tl hf
    rw [h1, h3] at this
    exact Option.some.inj this
  | cons x td =>
    rw [tlvs_cons] at h2
    have := congrArg List.length h2
    rw [List.length_append, one_length] at this
    simp at this
theorem vb_lt (l : List UInt8) (k : Nat) : vb l k < 256 := by
  have h := val_lt ((l.drop k).take 1)
  have h2 : ((l.drop k).take 1).length ≤ 1 := by rw [List.length_take]; omega
  have h3 : 256 ^ ((l.drop k).take 1).length ≤ 256 ^ 1 := Nat.pow_le_pow_right (by decide) h2
  unfold vb
  omega
end Go.Proofs.Ytkhmhmopcofejaa
