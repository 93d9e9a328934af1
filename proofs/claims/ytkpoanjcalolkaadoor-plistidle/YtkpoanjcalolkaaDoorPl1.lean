import Derived.Test.YtkpoanjcalolkaaDoorM8
import Derived.Lib.SlBy
/- Rules of prefix lists: which may be, which are met, the first one; and that their texts tell them apart. -/
namespace Go.Proofs.YtkpoanjcalolkaaDoor

/-- A rule: its prefix's address and bits, from how many bits, up to how many, and whether it lets pass. -/
abbrev Ad.R : Type := Int × Int × Int × Int × Bool
def Ad.rmay (r : Ad.R) : Bool := Ad.may r.1 r.2.1 && decide (r.2.1 ≤ r.2.2.1) && decide (r.2.2.1 ≤ r.2.2.2.1) && decide (r.2.2.2.1 ≤ 32)
def Ad.met (r : Ad.R) (c d : Int) : Bool := Ad.rmay r && Ad.contains r.1 r.2.1 c d && decide (r.2.2.1 ≤ d) && decide (d ≤ r.2.2.2.1)
def Ad.rwhy (l : List Ad.R) : Int := if 16 < l.length then 2 else if l.all Ad.rmay = true then 0 else 1
/-- The first rule that is met, or -1. -/
def Ad.first (l : List Ad.R) (c d : Int) : Int := Lib.idxBy (fun _ y => Ad.met y c d) l default
def Ad.pass (l : List Ad.R) (i : Int) : Bool := decide (0 ≤ i) && (l[i.toNat]!).2.2.2.2
def Ad.lets (l : List Ad.R) (c d : Int) : Bool × Int := if Ad.rwhy l = 0 then (Ad.pass l (Ad.first l c d), Ad.first l c d) else (false, -1)

theorem Ad.met_may (r : Ad.R) (c d : Int) (h : Ad.may c d = false) : Ad.met r c d = false := by simp [Ad.met, Ad.contains, h]

theorem Ad.first_may (l : List Ad.R) (c d : Int) (h : Ad.may c d = false) : Ad.first l c d = -1 := by
  have := Lib.idxBy_miss (fun _ y => Ad.met y c d) l l.length default (fun j _ => Ad.met_may _ c d h)
  simpa [Ad.first] using this

theorem Ad.first_hit (l : List Ad.R) (c d : Int) (k : Nat) (hk : k < l.length) (h : Ad.met l[k]! c d = true) (ha : ∀ j, j < k → Ad.met l[j]! c d = false) : Ad.first l c d = k := by
  have := Lib.idxBy_hit (fun _ y => Ad.met y c d) l l.length k default hk (Nat.le_refl _) h ha
  simpa [Ad.first] using this

theorem Ad.first_miss (l : List Ad.R) (c d : Int) (ha : ∀ j, j < l.length → Ad.met l[j]! c d = false) : Ad.first l c d = -1 := by
  have := Lib.idxBy_miss (fun _ y => Ad.met y c d) l l.length default ha
  simpa [Ad.first] using this

theorem Ad.split_blank : ∀ (x x' y y' : List UInt8), 32 ∉ x → 32 ∉ x' → (y = [] ∨ ∃ t, y = 32 :: t) → (y' = [] ∨ ∃ t, y' = 32 :: t) → x ++ y = x' ++ y' → x = x' ∧ y = y'
  | [], [], _, _, _, _, _, _, h => ⟨rfl, h⟩
  | [], c :: cs, y, y', _, h2, h3, _, h => by
    exfalso
    rcases h3 with rfl | ⟨t, rfl⟩
    · simp at h
    · simp at h; exact h2 (by rw [← h.1]; exact List.mem_cons_self)
  | c :: cs, [], y, y', h1, _, _, h4, h => by
    exfalso
    rcases h4 with rfl | ⟨t, rfl⟩
    · simp at h
    · simp at h; exact h1 (by rw [h.1]; exact List.mem_cons_self)
  | c :: cs, e :: es, y, y', h1, h2, h3, h4, h => by
    simp only [List.cons_append, List.cons.injEq] at h
    have := Ad.split_blank cs es y y' (fun m => h1 (List.mem_cons_of_mem _ m)) (fun m => h2 (List.mem_cons_of_mem _ m)) h3 h4 h.2
    exact ⟨by rw [h.1, this.1], this.2⟩

theorem Ad.itoa_blank (n : Int) (h : 0 ≤ n) : (32 : UInt8) ∉ Lib.itoa n := Ad.digs_not _ (Ad.itoa_nat n h).2.2 32 (by decide)

theorem Ad.itoa_inj (n m : Int) (hn : 0 ≤ n) (hm : 0 ≤ m) (h : Lib.itoa n = Lib.itoa m) : n = m := by
  rw [← (Ad.itoa_nat n hn).2.1, ← (Ad.itoa_nat m hm).2.1, h]

theorem Ad.textI_blank (a b : Int) (hb : 0 ≤ b) : (32 : UInt8) ∉ Ad.textI a b := by
  rw [Ad.textI_eq]
  have o := fun j => Ad.itoa_blank _ (Ad.oct_bd a j).1
  simp [o 0, o 1, o 2, o 3, Ad.itoa_blank b hb]

theorem Ad.textI_inj (a b c d : Int) (ha : 0 ≤ a) (ha2 : a ≤ 4294967295) (hc : 0 ≤ c) (hc2 : c ≤ 4294967295) (hm : Ad.may a b = true) (hm2 : Ad.may c d = true) (h : Ad.textI a b = Ad.textI c d) : a = c ∧ b = d := by
  have h1 := Ad.parse_text a b ha ha2 hm
  have h2 := Ad.parse_text c d hc hc2 hm2
  rw [h, h2] at h1
  simp only [Prod.mk.injEq] at h1
  exact ⟨h1.1.symm, h1.2.1.symm⟩

/-- What stands behind a rule's prefix. -/
def Ad.tge (b g : Int) : List UInt8 := if g = b then [] else [32, 103, 101, 32] ++ Lib.itoa g
def Ad.tle (g l : Int) : List UInt8 := if l = g then [] else [32, 108, 101, 32] ++ Lib.itoa l
def Ad.tword (p : Bool) : List UInt8 := if p = true then [112, 101, 114, 109, 105, 116, 32] else [100, 101, 110, 121, 32]
/-- A rule's text. -/
def Ad.rtext (r : Ad.R) : List UInt8 := if Ad.rmay r = true then Ad.tword r.2.2.2.2 ++ Ad.textI r.1 r.2.1 ++ Ad.tge r.2.1 r.2.2.1 ++ Ad.tle r.2.2.1 r.2.2.2.1 else []

theorem Ad.tle_inj (g l m : Int) (hl : 0 ≤ l) (hm : 0 ≤ m) (h : Ad.tle g l = Ad.tle g m) : l = m := by
  unfold Ad.tle at h
  by_cases e1 : l = g <;> by_cases e2 : m = g
  · omega
  · simp [e1, e2] at h
  · simp [e1, e2] at h
  · simp [e1, e2] at h
    exact Ad.itoa_inj l m hl hm h

theorem Ad.tle_start (g l : Int) : Ad.tle g l = [] ∨ ∃ t, Ad.tle g l = 32 :: t := by
  unfold Ad.tle
  split
  · exact .inl rfl
  · exact .inr ⟨_, rfl⟩

theorem Ad.tail_start (b g l : Int) : Ad.tge b g ++ Ad.tle g l = [] ∨ ∃ t, Ad.tge b g ++ Ad.tle g l = 32 :: t := by
  unfold Ad.tge
  split
  · simpa using Ad.tle_start g l
  · exact .inr ⟨_, rfl⟩

theorem Ad.tail_other (b g l m : Int) (h : Ad.tle b l = [32, 103, 101, 32] ++ Lib.itoa g ++ Ad.tle g m) : False := by
  unfold Ad.tle at h
  split at h
  · simp at h
  · simp at h

theorem Ad.tail_inj (b g l g' l' : Int) (hg : 0 ≤ g) (hl : 0 ≤ l) (hg' : 0 ≤ g') (hl' : 0 ≤ l') (h : Ad.tge b g ++ Ad.tle g l = Ad.tge b g' ++ Ad.tle g' l') : g = g' ∧ l = l' := by
  unfold Ad.tge at h
  by_cases e1 : g = b <;> by_cases e2 : g' = b
  · subst e1; subst e2
    simp at h
    exact ⟨rfl, Ad.tle_inj _ _ _ hl hl' h⟩
  · rw [if_pos e1, if_neg e2, List.nil_append, e1] at h
    exact absurd h (Ad.tail_other b g' l l')
  · rw [if_neg e1, if_pos e2, List.nil_append, e2] at h
    exact absurd h.symm (Ad.tail_other b g l' l)
  · rw [if_neg e1, if_neg e2, List.append_assoc, List.append_assoc] at h
    have h' := List.append_cancel_left h
    have := Ad.split_blank _ _ _ _ (Ad.itoa_blank g hg) (Ad.itoa_blank g' hg') (Ad.tle_start g l) (Ad.tle_start g' l') h'
    have eg := Ad.itoa_inj g g' hg hg' this.1
    subst eg
    exact ⟨rfl, Ad.tle_inj _ _ _ hl hl' this.2⟩

theorem Ad.rmay_iff (r : Ad.R) : Ad.rmay r = true ↔ Ad.may r.1 r.2.1 = true ∧ r.2.1 ≤ r.2.2.1 ∧ r.2.2.1 ≤ r.2.2.2.1 ∧ r.2.2.2.1 ≤ 32 := by
  unfold Ad.rmay; simp [and_assoc]

theorem Ad.rtext_inj (r s : Ad.R) (h0 : 0 ≤ r.1) (h1 : r.1 ≤ 4294967295) (g0 : 0 ≤ s.1) (g1 : s.1 ≤ 4294967295) (hr : Ad.rmay r = true) (hs : Ad.rmay s = true) : Ad.rtext r = Ad.rtext s ↔ r = s := by
  refine ⟨fun h => ?_, fun h => by rw [h]⟩
  unfold Ad.rtext at h
  rw [if_pos hr, if_pos hs] at h
  obtain ⟨a, b, g, l, p⟩ := r
  obtain ⟨c, d, g', l', q⟩ := s
  simp only at *
  obtain ⟨r1, r2, r3, r4⟩ := (Ad.rmay_iff _).1 hr
  obtain ⟨s1, s2, s3, s4⟩ := (Ad.rmay_iff _).1 hs
  simp only at r1 r2 r3 r4 s1 s2 s3 s4
  have hb := ((Ad.may_iff _ _).1 r1).1
  have hd := ((Ad.may_iff _ _).1 s1).1
  have hpq : p = q := by
    cases p <;> cases q <;> first | rfl | (simp [Ad.tword] at h)
  subst hpq
  rw [List.append_assoc, List.append_assoc, List.append_assoc, List.append_assoc] at h
  have h' := List.append_cancel_left h
  have := Ad.split_blank _ _ _ _ (Ad.textI_blank a b hb) (Ad.textI_blank c d hd) (Ad.tail_start b g l) (Ad.tail_start d g' l') h'
  obtain ⟨rfl, rfl⟩ := Ad.textI_inj a b c d h0 h1 g0 g1 r1 s1 this.1
  obtain ⟨rfl, rfl⟩ := Ad.tail_inj b g l g' l' (by omega) (by omega) (by omega) (by omega) this.2
  rfl

end Go.Proofs.YtkpoanjcalolkaaDoor
