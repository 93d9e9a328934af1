/- Plain mathematics of lists of prefixes: which addresses they have, and that merge's stack is plain; nothing of the program. -/
import Derived.Test.YtfkajefminopjabDoorR2
import Derived.Test.YtfkajefminopjabDoorM6
namespace Go.Proofs.YtfkajefminopjabDoor.Ad
open Go

/-- The first address behind a prefix. -/
def hi (p : Int × Int) : Int := p.1 + sz p.2
/-- The addresses of a prefix. -/
def inn (p : Int × Int) (x : Int) : Prop := p.1 ≤ x ∧ x < hi p
/-- The addresses of some. -/
def cov (l : List (Int × Int)) (x : Int) : Prop := ∃ p ∈ l, inn p x

theorem mul_step (i j s : Int) (hs : 0 < s) (h : i * s < j * s) : i * s + s ≤ j * s := by
  have hij : i < j := by
    by_cases h1 : i < j
    · exact h1
    · have := Int.mul_le_mul_of_nonneg_right (show j ≤ i by omega) (Int.le_of_lt hs)
      omega
  have := Int.mul_le_mul_of_nonneg_right (show i + 1 ≤ j by omega) (Int.le_of_lt hs)
  rw [Int.add_mul] at this
  omega

theorem hi_gt (p : Int × Int) : p.1 < hi p := by have := sz_pos p.2; unfold hi; omega

theorem has_inn (p : Int × Int) (x : Int) (hp : may p.1 p.2 = true) : has p.1 p.2 x = true ↔ inn p x := by
  have hc := ((may_iff _ _).1 hp).2.2
  unfold has inn hi
  rw [hp, Bool.true_and, decide_eq_true_iff]
  constructor
  · intro h
    have h1 := cut_le x p.2
    have h2 := cut_lt x p.2
    omega
  · rintro ⟨h1, h2⟩
    obtain ⟨q, hq⟩ := mul_cut _ _ hc
    rw [hq] at h1 h2 ⊢
    exact cut_eq x p.2 q h1 h2

theorem inside (p q : Int × Int) (hp : may p.1 p.2 = true) (hq : may q.1 q.2 = true) (h : contains p.1 p.2 q.1 q.2 = true) : p.1 ≤ q.1 ∧ hi q ≤ hi p ∧ p.2 ≤ q.2 := by
  obtain ⟨h1, h2⟩ := (contains_iff _ _ _ _ hp hq).1 h
  have h3 := cut_le q.1 p.2
  have h4 := cut_lt q.1 p.2
  obtain ⟨i, hi'⟩ := mul_cut _ _ ((may_iff _ _).1 hq).2.2
  obtain ⟨j, hj⟩ := mul_cut _ _ ((may_iff _ _).1 hp).2.2
  obtain ⟨k, _, hk⟩ := sz_dvd p.2 q.2 h1
  have e : p.1 + sz p.2 = ((j + 1) * k) * sz q.2 := by rw [Int.mul_assoc, ← hk, Int.add_mul, ← hj]; omega
  have hl : i * sz q.2 < ((j + 1) * k) * sz q.2 := by rw [← e, ← hi']; omega
  have := mul_step _ _ _ (sz_pos q.2) hl
  rw [← e, ← hi'] at this
  exact ⟨by omega, this, h1⟩

theorem apart (p q : Int × Int) (hp : may p.1 p.2 = true) (hq : may q.1 q.2 = true) (h1 : p.2 ≤ q.2) (h : contains p.1 p.2 q.1 q.2 = false) : hi q ≤ p.1 ∨ hi p ≤ q.1 := by
  have hne : cut q.1 p.2 ≠ p.1 := by
    intro e
    have := (contains_iff _ _ _ _ hp hq).2 ⟨h1, e⟩
    rw [this] at h
    cases h
  have h3 := cut_le q.1 p.2
  have h4 := cut_lt q.1 p.2
  obtain ⟨i, hi'⟩ := mul_cut _ _ ((may_iff _ _).1 hq).2.2
  obtain ⟨j, hj⟩ := mul_cut _ _ ((may_iff _ _).1 hp).2.2
  obtain ⟨k, _, hk⟩ := sz_dvd p.2 q.2 h1
  have hm : cut q.1 p.2 = q.1 / sz p.2 * sz p.2 := rfl
  rcases Int.lt_or_gt_of_ne hne with hlt | hgt
  · left
    rw [hm, hj] at hlt
    have h5 := mul_step _ _ _ (sz_pos p.2) hlt
    rw [← hj, ← hm] at h5
    have e : p.1 = (j * k) * sz q.2 := by rw [Int.mul_assoc, ← hk]; exact hj
    have hl : i * sz q.2 < (j * k) * sz q.2 := by rw [← e, ← hi']; omega
    have := mul_step _ _ _ (sz_pos q.2) hl
    rw [← e, ← hi'] at this
    exact this
  · right
    have hgt' : p.1 < cut q.1 p.2 := hgt
    rw [hm, hj] at hgt'
    have h5 := mul_step _ _ _ (sz_pos p.2) hgt'
    rw [← hj, ← hm] at h5
    unfold hi
    omega

/-- The order of prefixes. -/
def le (p q : Int × Int) : Prop := p.1 < q.1 ∨ p.1 = q.1 ∧ p.2 ≤ q.2
/-- Stacked: what lies below ends ahead of what lies above it. -/
def desc (s : List (Int × Int)) : Prop := s.Pairwise fun q p => hi p ≤ q.1
/-- No two are the halves of one. -/
def nosib (s : List (Int × Int)) : Prop := s.Pairwise fun q p => pair p q = false

theorem pair_iff (p q : Int × Int) : pair p q = true ↔ p.2 = q.2 ∧ 1 ≤ p.2 ∧ cut p.1 (p.2 - 1) = p.1 ∧ q.1 = p.1 + sz p.2 := by unfold pair; exact decide_eq_true_iff

theorem up_inn (p q : Int × Int) (h : pair p q = true) (hb : p.2 ≤ 32) (x : Int) : inn (up p) x ↔ inn p x ∨ inn q x := by
  obtain ⟨h1, h2, _, h4⟩ := (pair_iff p q).1 h
  have hh := sz_half (p.2 - 1) (by omega) (by omega)
  have e : p.2 - 1 + 1 = p.2 := by omega
  rw [e] at hh
  unfold inn hi up
  rw [hh, ← h1, h4]
  constructor
  · rintro ⟨a, b⟩
    by_cases c : x < p.1 + sz p.2
    · exact .inl ⟨a, c⟩
    · right
      show p.1 + sz p.2 ≤ x ∧ _
      constructor
      · omega
      · have b' : x < p.1 + 2 * sz p.2 := b
        omega
  · rintro (⟨a, b⟩ | ⟨a, b⟩)
    · have := sz_pos p.2
      refine ⟨a, ?_⟩
      show x < p.1 + 2 * sz p.2
      omega
    · have := sz_pos p.2
      refine ⟨?_, ?_⟩
      · show p.1 ≤ x
        omega
      · show x < p.1 + 2 * sz p.2
        omega

theorem cov_cons (p : Int × Int) (l : List (Int × Int)) (x : Int) : cov (p :: l) x ↔ inn p x ∨ cov l x := by unfold cov; simp

theorem join_inv : ∀ (n : Nat) (s : List (Int × Int)), s.length ≤ n → good s → desc s → nosib s.tail →
    desc (join s) ∧ nosib (join s) ∧ (∀ x, cov (join s) x ↔ cov s x) ∧ (∀ q, s.head? = some q → ∃ t, (join s).head? = some t ∧ t.1 ≤ q.1 ∧ hi q ≤ hi t ∧ t.2 ≤ q.2)
  | _, [], _, _, _, _ => ⟨List.Pairwise.nil, List.Pairwise.nil, fun x => Iff.rfl, fun q h => by cases h⟩
  | _, [q], _, _, hd, _ => ⟨hd, List.pairwise_singleton _ _, fun x => Iff.rfl, fun q' h => ⟨q', h, Int.le_refl _, Int.le_refl _, Int.le_refl _⟩⟩
  | 0, _ :: _ :: _, hn, _, _, _ => by simp at hn
  | n + 1, q :: p :: r, hn, hg, hd, hs => by
    cases hp : pair p q
    · rw [join_stop q p r hp]
      refine ⟨hd, ?_, fun x => Iff.rfl, fun q' h => ⟨q', h, Int.le_refl _, Int.le_refl _, Int.le_refl _⟩⟩
      refine List.pairwise_cons.2 ⟨?_, hs⟩
      intro u hu
      rcases List.mem_cons.1 hu with rfl | hu
      · exact hp
      · cases hc : pair u q
        · rfl
        · exfalso
          have h4 := ((pair_iff u q).1 hc).2.2.2
          have h1 := (List.pairwise_cons.1 hd).1 p (by simp)
          have h2 := (List.pairwise_cons.1 (List.pairwise_cons.1 hd).2).1 u hu
          have := hi_gt p
          unfold hi at h2
          omega
    · rw [join_step q p r hp]
      have hgp := hg p (by simp)
      have hb := ((may_iff _ _).1 hgp.2.2).2.1
      have hd' := (List.pairwise_cons.1 hd).2
      have hg' : good (up p :: r) := by
        intro y hy
        rcases List.mem_cons.1 hy with rfl | hy
        · exact ⟨hgp.1, hgp.2.1, may_up p.1 p.2 q.1 q.2 hgp.2.2 hp⟩
        · exact hg y (by simp [hy])
      have hd2 : desc (up p :: r) := List.pairwise_cons.2 ⟨fun u hu => (List.pairwise_cons.1 hd').1 u hu, (List.pairwise_cons.1 hd').2⟩
      have hs2 : nosib (up p :: r).tail := (List.pairwise_cons.1 hs).2
      obtain ⟨i1, i2, i3, i4⟩ := join_inv n (up p :: r) (by simp at hn ⊢; omega) hg' hd2 hs2
      refine ⟨i1, i2, fun x => ?_, fun q' h => ?_⟩
      · rw [i3 x, cov_cons, cov_cons, cov_cons, up_inn p q hp hb x]
        constructor
        · rintro ((h | h) | h)
          · exact .inr (.inl h)
          · exact .inl h
          · exact .inr (.inr h)
        · rintro (h | h | h)
          · exact .inl (.inr h)
          · exact .inl (.inl h)
          · exact .inr h
      · obtain rfl : q = q' := by simpa using h
        obtain ⟨t, j1, j2, j3, j4⟩ := i4 (up p) rfl
        obtain ⟨h1, h2, _, h4⟩ := (pair_iff p q).1 hp
        have hh := sz_half (p.2 - 1) (by omega) (by omega)
        have e : p.2 - 1 + 1 = p.2 := by omega
        rw [e] at hh
        have hup : hi (up p) = p.1 + 2 * sz p.2 := by unfold hi up; rw [hh]
        have hup1 : (up p).1 = p.1 := rfl
        have hup2 : (up p).2 = p.2 - 1 := rfl
        have hpos := sz_pos p.2
        refine ⟨t, j1, by omega, ?_, by omega⟩
        unfold hi at j3 ⊢
        unfold hi at hup
        rw [h4, ← h1]
        omega

theorem step_inv (s : List (Int × Int)) (p : Int × Int) (hg : good s) (hd : desc s) (hs : nosib s) (hp : 0 ≤ p.1 ∧ p.1 ≤ 4294967295 ∧ may p.1 p.2 = true)
    (ht : ∀ t, s.head? = some t → ∃ m : Int × Int, t.1 ≤ m.1 ∧ hi m ≤ hi t ∧ t.2 ≤ m.2 ∧ le m p) :
    desc (stepM s p) ∧ nosib (stepM s p) ∧ (∀ x, cov (stepM s p) x ↔ cov s x ∨ inn p x) ∧ (∀ t, (stepM s p).head? = some t → t.1 ≤ p.1 ∧ hi p ≤ hi t ∧ t.2 ≤ p.2) := by
  cases s with
  | nil =>
    refine ⟨List.pairwise_singleton _ _, List.pairwise_singleton _ _, fun x => ?_, fun t h => ?_⟩
    · show cov [p] x ↔ _
      rw [cov_cons]
      exact or_comm
    · obtain rfl : p = t := Option.some.inj h
      exact ⟨Int.le_refl _, Int.le_refl _, Int.le_refl _⟩
  | cons t r =>
    have hgt := hg t (by simp)
    cases hc : contains t.1 t.2 p.1 p.2
    · have e : stepM (t :: r) p = join (p :: t :: r) := by unfold stepM; simp [hc]
      rw [e]
      obtain ⟨m, m1, m2, m3, m4⟩ := ht t rfl
      have hmp : m.1 ≤ p.1 := by rcases m4 with h | ⟨h, _⟩ <;> omega
      have hpp := hi_gt p
      have hle : hi t ≤ p.1 := by
        rcases Int.le_total t.2 p.2 with h1 | h1
        · rcases apart t p hgt.2.2 hp.2.2 h1 hc with h2 | h2
          · omega
          · exact h2
        · cases hc2 : contains p.1 p.2 t.1 t.2
          · rcases apart p t hp.2.2 hgt.2.2 h1 hc2 with h2 | h2
            · exact h2
            · omega
          · exfalso
            obtain ⟨k1, k2, k3⟩ := inside p t hp.2.2 hgt.2.2 hc2
            have hm1 : m.1 = p.1 := by omega
            have hm2 : m.2 ≤ p.2 := by rcases m4 with h | ⟨_, h⟩ <;> omega
            have ht2 : t.2 = p.2 := by omega
            have ht1 : t.1 = p.1 := by omega
            have : contains t.1 t.2 p.1 p.2 = true := by
              rw [ht1, ht2]
              exact (contains_iff _ _ _ _ hp.2.2 hp.2.2).2 ⟨Int.le_refl _, ((may_iff _ _).1 hp.2.2).2.2⟩
            rw [this] at hc
            cases hc
      have hd2 : desc (p :: t :: r) := by
        refine List.pairwise_cons.2 ⟨fun u hu => ?_, hd⟩
        rcases List.mem_cons.1 hu with rfl | hu
        · exact hle
        · have h1 := (List.pairwise_cons.1 hd).1 u hu
          have := hi_gt t
          omega
      have hg2 : good (p :: t :: r) := by
        intro y hy
        rcases List.mem_cons.1 hy with rfl | hy
        · exact hp
        · exact hg y hy
      obtain ⟨i1, i2, i3, i4⟩ := join_inv _ (p :: t :: r) (Nat.le_refl _) hg2 hd2 hs
      refine ⟨i1, i2, fun x => ?_, fun t' h' => ?_⟩
      · rw [i3 x, cov_cons]
        exact or_comm
      · obtain ⟨t2, j1, j2⟩ := i4 p rfl
        rw [h'] at j1
        obtain rfl := Option.some.inj j1
        exact j2
    · have e : stepM (t :: r) p = t :: r := by unfold stepM; simp [hc]
      rw [e]
      obtain ⟨k1, k2, k3⟩ := inside t p hgt.2.2 hp.2.2 hc
      refine ⟨hd, hs, fun x => ?_, fun t' h => ?_⟩
      · constructor
        · exact .inl
        · rintro (h | h)
          · exact h
          · exact ⟨t, by simp, by have := h.1; omega, by have := h.2; omega⟩
      · obtain rfl : t = t' := Option.some.inj h
        exact ⟨k1, k2, k3⟩

theorem stack_inv : ∀ (l s : List (Int × Int)), good l → l.Pairwise le → good s → desc s → nosib s →
    (∀ t, s.head? = some t → ∃ m : Int × Int, t.1 ≤ m.1 ∧ hi m ≤ hi t ∧ t.2 ≤ m.2 ∧ ∀ p ∈ l, le m p) →
    good (l.foldl stepM s) ∧ desc (l.foldl stepM s) ∧ nosib (l.foldl stepM s) ∧ (∀ x, cov (l.foldl stepM s) x ↔ cov s x ∨ cov l x) ∧ (l.foldl stepM s).length ≤ s.length + l.length
  | [], s, _, _, hg, hd, hs, _ => ⟨hg, hd, hs, fun x => by simp [cov], by simp⟩
  | p :: l, s, hl, hw, hg, hd, hs, ht => by
    have hp := hl p (by simp)
    have hl' : good l := fun y hy => hl y (by simp [hy])
    obtain ⟨w1, w2⟩ := List.pairwise_cons.1 hw
    obtain ⟨i1, i2, i3, i4⟩ := step_inv s p hg hd hs hp fun t h => by
      obtain ⟨m, a, b, c, d⟩ := ht t h
      exact ⟨m, a, b, c, d p (by simp)⟩
    obtain ⟨g1, g2⟩ := stepM_good s p hg hp
    obtain ⟨j1, j2, j3, j4, j5⟩ := stack_inv l (stepM s p) hl' w2 g1 i1 i2 fun t h => by
      obtain ⟨a, b, c⟩ := i4 t h
      exact ⟨p, a, b, c, w1⟩
    refine ⟨j1, j2, j3, fun x => ?_, ?_⟩
    · show cov (l.foldl stepM (stepM s p)) x ↔ _
      rw [j4 x, i3 x, cov_cons, or_assoc]
    · show (l.foldl stepM (stepM s p)).length ≤ _
      simp
      omega

/-- A plain list. -/
def plain (x : List (Int × Int)) : Prop := good x ∧ (x.Pairwise fun p q => hi p ≤ q.1) ∧ (x.Pairwise fun p q => pair p q = false)

theorem stack_plain (l : List (Int × Int)) (hg : good l) (hw : l.Pairwise le) : plain (stack l).reverse ∧ (∀ x, cov (stack l).reverse x ↔ cov l x) ∧ (stack l).length ≤ l.length := by
  obtain ⟨h1, h2, h3, h4, h5⟩ := stack_inv l [] hg hw (fun _ h => by cases h) List.Pairwise.nil List.Pairwise.nil (fun t h => by cases h)
  have hst : l.foldl stepM [] = stack l := rfl
  rw [hst] at h1 h2 h3 h4 h5
  refine ⟨⟨fun x hx => h1 x (by simpa using hx), List.pairwise_reverse.2 h2, List.pairwise_reverse.2 h3⟩, fun x => ?_, by simpa using h5⟩
  have : cov (stack l).reverse x ↔ cov (stack l) x := by unfold cov; simp
  rw [this]
  rw [h4 x]
  simp [cov]

theorem disjoint_not (p q : Int × Int) (hp : may p.1 p.2 = true) (hq : may q.1 q.2 = true) (h : hi p ≤ q.1) : contains p.1 p.2 q.1 q.2 = false ∧ contains q.1 q.2 p.1 p.2 = false := by
  constructor
  · cases hc : contains p.1 p.2 q.1 q.2
    · rfl
    · have := inside p q hp hq hc
      have := hi_gt q
      omega
  · cases hc : contains q.1 q.2 p.1 p.2
    · rfl
    · have := inside q p hq hp hc
      have := hi_gt p
      omega

theorem stack_same : ∀ (x s : List (Int × Int)), good x → good s → desc (x.reverse ++ s) → nosib (x.reverse ++ s) → x.foldl stepM s = x.reverse ++ s
  | [], s, _, _, _, _ => by simp
  | p :: x, s, hg, hgs, hd, hs => by
    have hp := hg p (by simp)
    have e0 : (p :: x).reverse ++ s = x.reverse ++ (p :: s) := by simp
    rw [e0] at hd hs ⊢
    have hps : desc (p :: s) := (List.pairwise_append.1 hd).2.1
    have hpn : nosib (p :: s) := (List.pairwise_append.1 hs).2.1
    have e1 : stepM s p = p :: s := by
      cases s with
      | nil => rfl
      | cons t r =>
        have h1 := (List.pairwise_cons.1 hps).1 t (by simp)
        have h2 := (List.pairwise_cons.1 hpn).1 t (by simp)
        have h3 := (disjoint_not t p (hgs t (by simp)).2.2 hp.2.2 h1).1
        unfold stepM
        simp only [h3, Bool.false_eq_true, if_false]
        exact join_stop p t r h2
    show x.foldl stepM (stepM s p) = _
    rw [e1]
    exact stack_same x (p :: s) (fun y hy => hg y (by simp [hy])) (fun y hy => by
      rcases List.mem_cons.1 hy with rfl | hy
      · exact hp
      · exact hgs y hy) hd hs

theorem plain_stack (x : List (Int × Int)) (h : plain x) : (stack x).reverse = x := by
  have := stack_same x [] h.1 (fun _ h => by cases h) (by rw [List.append_nil]; exact List.pairwise_reverse.2 (by simpa using h.2.1)) (by rw [List.append_nil]; exact List.pairwise_reverse.2 (by simpa using h.2.2))
  unfold stack
  rw [this]
  simp

theorem plain_le (x : List (Int × Int)) (h : plain x) : x.Pairwise le := by
  refine List.Pairwise.imp ?_ h.2.1
  intro p q hpq
  have := hi_gt p
  exact .inl (by omega)

theorem le_antisymm (p q : Int × Int) (h1 : le p q) (h2 : le q p) : p = q := by
  obtain ⟨a, b⟩ := p
  obtain ⟨c, d⟩ := q
  simp only [le] at h1 h2
  have : a = c ∧ b = d := by omega
  rw [this.1, this.2]

theorem sorted_unique : ∀ (l1 l2 : List (Int × Int)), l1.Perm l2 → l1.Pairwise le → l2.Pairwise le → l1 = l2
  | [], l2, h, _, _ => (List.Perm.nil_eq h)
  | a :: t1, [], h, _, _ => absurd (List.Perm.eq_nil h) (by simp)
  | a :: t1, b :: t2, h, h1, h2 => by
    have hab : a = b := by
      rcases List.mem_cons.1 (h.mem_iff.1 (by simp : a ∈ a :: t1)) with e | ha
      · exact e
      · rcases List.mem_cons.1 (h.mem_iff.2 (by simp : b ∈ b :: t2)) with e | hb
        · exact e.symm
        · exact le_antisymm a b ((List.pairwise_cons.1 h1).1 b hb) ((List.pairwise_cons.1 h2).1 a ha)
    subst hab
    rw [sorted_unique t1 t2 (List.Perm.cons_inv h) (List.pairwise_cons.1 h1).2 (List.pairwise_cons.1 h2).2]

theorem rises_le (l : List (Int × Int)) (hg : good l) (h : rises l) : l.Pairwise le := by
  rw [List.pairwise_iff_getElem]
  intro i j hi' hj hij
  have hb := h i j hi' hj hij
  have g1 := hg l[i] (List.getElem_mem hi')
  have g2 := hg l[j] (List.getElem_mem hj)
  unfold before at hb
  rw [g1.2.2, g2.2.2] at hb
  simp only [Bool.and_self, Bool.true_and] at hb
  unfold le
  by_cases e : l[j].1 = l[i].1
  · rw [if_pos e] at hb
    have := of_decide_eq_false hb
    right
    omega
  · rw [if_neg e] at hb
    have := of_decide_eq_false hb
    left
    omega

/-- The plain list of some prefixes: what merge makes, in whatever way they were put in order. -/
theorem merged (l l' : List (Int × Int)) (hg : good l) (hp : l'.Perm l) (hr : rises l') : plain (stack l').reverse ∧ (∀ x, cov (stack l').reverse x ↔ cov l x) ∧ (stack l').length ≤ l.length := by
  have hg' : good l' := fun x hx => hg x (hp.mem_iff.1 hx)
  obtain ⟨h1, h2, h3⟩ := stack_plain l' hg' (rises_le l' hg' hr)
  refine ⟨h1, fun x => ?_, by rw [← hp.length_eq]; exact h3⟩
  rw [h2 x]
  unfold cov
  constructor
  · rintro ⟨p, a, b⟩
    exact ⟨p, hp.mem_iff.1 a, b⟩
  · rintro ⟨p, a, b⟩
    exact ⟨p, hp.mem_iff.2 a, b⟩

theorem merged_same (l1 l2 m1 m2 : List (Int × Int)) (hg : good l1) (h12 : l1.Perm l2) (hp1 : m1.Perm l1) (hr1 : rises m1) (hp2 : m2.Perm l2) (hr2 : rises m2) : m1 = m2 := by
  have hg1 : good m1 := fun x hx => hg x (hp1.mem_iff.1 hx)
  have hg2 : good m2 := fun x hx => hg x (h12.mem_iff.2 (hp2.mem_iff.1 hx))
  exact sorted_unique m1 m2 (hp1.trans (h12.trans hp2.symm)) (rises_le m1 hg1 hr1) (rises_le m2 hg2 hr2)

theorem merged_plain (x m : List (Int × Int)) (h : plain x) (hp : m.Perm x) (hr : rises m) : (stack m).reverse = x := by
  have hg : good m := fun y hy => h.1 y (hp.mem_iff.1 hy)
  rw [sorted_unique m x hp (rises_le m hg hr) (plain_le x h)]
  exact plain_stack x h
end Go.Proofs.YtfkajefminopjabDoor.Ad
