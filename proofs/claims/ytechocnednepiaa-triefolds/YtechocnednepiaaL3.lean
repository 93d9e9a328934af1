import Derived.Test.YtechocnednepiaaL2
/- The law's number and its state. -/
namespace Go.Proofs.Ytechocnednepiaa
open Go.RowKit

/-- A value out of any number. -/
def nb (v : Int) : Int := if v.tmod 1000 < 0 then v.tmod 1000 + 1000 else v.tmod 1000
theorem nb_bd (v : Int) : 0 ≤ nb v ∧ nb v < 1000 := by
  unfold nb
  have h := Int.tmod_lt_of_pos v (show (0 : Int) < 1000 by decide)
  have h2 := Int.lt_tmod_of_pos v (show (0 : Int) < 1000 by decide)
  split <;> omega
theorem number_is (v : Int) (w : World) : Calls Try.prog 38 #[.int .i64 v] w fun e w' => e = .returned (.int .i64 (nb v)) ∧ w' = w := by
  have h := Int.tmod_lt_of_pos v (show (0 : Int) < 1000 by decide)
  have h2 := Int.lt_tmod_of_pos v (show (0 : Int) < 1000 by decide)
  obtain ⟨r, hr⟩ : ∃ r, v.tmod 1000 = r := ⟨_, rfl⟩
  have HN : Hid (nb v = if r < 0 then r + 1000 else r) := by show _ = _; unfold nb; rw [hr]
  rw [hr] at h h2
  have h2' : -1000 < r := by omega
  clear h2
  by_cases hn : r < 0
  · go_enter Try.func38, Try.ntmps38
    go_wp2_with fail
    all_goals go_ret
    all_goals rw [HN.out]
    all_goals exact ⟨by simp [hn], rfl⟩
  · have hn' : 0 ≤ r := by omega
    clear hn
    go_enter Try.func38, Try.ntmps38
    go_wp2_with fail
    all_goals go_ret
    all_goals rw [HN.out]
    all_goals exact ⟨by rw [if_neg (by omega)]; rfl, rfl⟩
def em (x : Pf × Int) : Pf × Value := (x.1, .int .i64 x.2)
theorem ints_of {z : Value} (hz : ∃ n, z = .int .i64 n) : ∀ (t : Nt) (c : Pf) (d : Nat), t.wf z d → (∀ x ∈ t.list c, ∃ n, x.2 = .int .i64 n) → t.ints
  | .nil, _, _, _, _ => trivial
  | .nd b lo hi v is, c, d, hw, h => by
    refine ⟨?_, ints_of hz lo (half c false) _ hw.2.2.2.1 fun x hx => h x (by simp [Nt.list, hx]), ints_of hz hi (half c true) _ hw.2.2.2.2 fun x hx => h x (by simp [Nt.list, hx])⟩
    cases is
    · rw [hw.2.1 rfl]; exact hz
    · exact h (c, v) (by simp [Nt.list, one])
theorem ahead_iff {p q : Pf} : ahead p q = true ↔ Lt p q := before_iff
theorem ahead_false {p q : Pf} (h : Lt q p) : ahead p q = false := by
  cases e : ahead p q
  · rfl
  · exact absurd (h.trans (ahead_iff.1 e)) Lt.irrefl
def SortedP (l : Prs) : Prop := l.Pairwise fun x y => Lt x.1 y.1
theorem sorted_map {l : Prs} (h : Sorted (l.map em)) : SortedP l := by
  unfold Sorted at h
  rw [List.pairwise_map] at h
  exact h
/-- Where a prefix is, by what lies ahead of it and behind. -/
theorem place_of {p : Pf} {v : Int} {o post : Prs} (ho : o = [] ∨ ∃ x, o = [(p, x)]) : ∀ (pre : Prs), SortedP (pre ++ (p, v) :: post) → place (pre ++ o ++ post) p = (pre.length, !o.isEmpty)
  | [], hs => by
    rcases ho with rfl | ⟨x, rfl⟩
    · cases post with
      | nil => rfl
      | cons y post =>
        have h : Lt p y.1 := (List.pairwise_cons.1 hs).1 y (by simp)
        simp only [List.nil_append, place]
        rw [if_neg (fun e => (Lt.ne h) e.symm), ahead_iff.2 h]
        rfl
    · simp [place]
  | x :: pre, hs => by
    have h : Lt x.1 p := (List.pairwise_cons.1 hs).1 (p, v) (by simp)
    have ih := place_of (v := v) (post := post) ho pre (List.pairwise_cons.1 hs).2
    simp only [List.cons_append, place]
    rw [if_neg (Lt.ne h), ahead_false h, ih]
    simp
theorem place_mem {l : Prs} {p : Pf} (h : (place l p).2 = true) : ∃ x ∈ l, x.1 = p := by
  induction l with
  | nil => simp [place] at h
  | cons x l ih =>
    simp only [place] at h
    by_cases h1 : x.1 = p
    · exact ⟨x, by simp, h1⟩
    · simp only [h1, if_false] at h
      by_cases h2 : ahead p x.1 = true
      · simp [h2] at h
      · simp only [h2] at h
        obtain ⟨y, hy, e⟩ := ih (by simpa using h)
        exact ⟨y, by simp [hy], e⟩
theorem look_none {l : List (Pf × Value)} {p : Pf} (h : look l p = none) : ∀ x ∈ l, x.1 ≠ p := by
  unfold look at h
  rw [Option.map_eq_none_iff, List.find?_eq_none] at h
  intro x hx
  simpa using h x hx
/-- The law's state: a trie and the plain list. -/
structure St (w0 w : World) (T : Nat) (t : Nt) (ao : Option Addr) (cap : Nat) (l : Prs) : Prop where
  tri : Tri 75 89 (.int .i64 0) w T t
  good : Pr.Good w ao cap l
  same : t.list (0, 0) = l.map em
  off : ∀ a, ao = some a → a.block ∉ T :: t.own ∧ a.block < w.heap.size
  base : ∀ k ∈ T :: t.own, w0.heap.size ≤ k
  below : Below w0.heap.size w0 w
  vals : ∀ x ∈ l, 0 ≤ x.2 ∧ x.2 < 1000
theorem St.ints {w0 w : World} {T : Nat} {t : Nt} {ao : Option Addr} {cap : Nat} {l : Prs} (h : St w0 w T t ao cap l) : t.ints := by
  refine ints_of ⟨0, rfl⟩ t (0, 0) 32 h.tri.wf fun x hx => ?_
  rw [h.same, List.mem_map] at hx
  obtain ⟨y, _, rfl⟩ := hx
  exact ⟨y.2, rfl⟩
theorem St.len {w0 w : World} {T : Nat} {t : Nt} {ao : Option Addr} {cap : Nat} {l : Prs} (h : St w0 w T t ao cap l) : (t.list (0, 0)).length = l.length := by rw [h.same, List.length_map]
theorem St.sorted {w0 w : World} {T : Nat} {t : Nt} {ao : Option Addr} {cap : Nat} {l : Prs} (h : St w0 w T t ao cap l) : SortedP l ∧ ∀ x ∈ l, Gd x.1 := by
  have h1 := Nt.sorted t (0, 0) gd_root h.tri.wf
  have h2 := Nt.list_in t (0, 0) gd_root h.tri.wf
  rw [h.same] at h1 h2
  exact ⟨sorted_map h1, fun x hx => (h2 (em x) (List.mem_map_of_mem hx)).1⟩
theorem Pr.Good.kept {S : Nat → Prop} {w w' : World} {ao : Option Addr} {cap : Nat} {l : Prs} (h : Pr.Good w ao cap l) (hk : Keep S w w') (hs : ∀ a, ao = some a → ¬ S a.block) : Pr.Good w' ao cap l := by
  refine ⟨?_, h.came, h.le⟩
  rcases h.row with e | ⟨b, off, rfl, hr⟩
  · exact .inl e
  · refine .inr ⟨b, off, rfl, fun j u hu => ?_⟩
    have hc := hr j u hu
    rw [World.cell?_of_block (a := ⟨b, off + j, none⟩) (hk.block b (hs _ rfl) (block_lt_of_cell hc))]
    exact hc
/-- Nothing but new blocks. -/
theorem St.next {w0 w w' : World} {T : Nat} {t : Nt} {ao : Option Addr} {cap : Nat} {l : Prs} (h : St w0 w T t ao cap l) (hb : Below w.heap.size w w') : St w0 w' T t ao cap l :=
  ⟨h.tri.below hb, h.good.below hb, h.same, fun a e => ⟨(h.off a e).1, Nat.lt_of_lt_of_le (h.off a e).2 hb.size⟩, h.base, bthen h.below hb, h.vals⟩
theorem map_split {l : Prs} {pre o post : List (Pf × Value)} (h : l.map em = pre ++ o ++ post) : ∃ a b c : Prs, l = a ++ b ++ c ∧ a.map em = pre ∧ b.map em = o ∧ c.map em = post := by
  obtain ⟨ab, c, h1, h2, h3⟩ := List.map_eq_append_iff.1 h
  obtain ⟨a, b, h4, h5, h6⟩ := List.map_eq_append_iff.1 h2
  exact ⟨a, b, c, by rw [h1, h4], h5, h6, h3⟩
/-- Behind a Put of both. -/
theorem St.put {w0 w w1 w2 : World} {T : Nat} {t t' : Nt} {ao : Option Addr} {cap : Nat} {l : Prs} {p : Pf} {v : Int} {is : Bool} {pre o post : List (Pf × Value)} {u : Value} (h : St w0 w T t ao cap l) (_hp : Gd p) (hv : 0 ≤ v ∧ v < 1000) (hP : PutTo 75 89 (.int .i64 0) w T t p (.int .i64 v) is w1 t' pre o post) (hN : Pr.New w1 (putL l p v) u w2) (hb : Below w1.heap.size w1 w2) :
    (place l p).2 = is ∧ ∃ ao' cap', u = .slice ao' (putL l p v).length cap' ∧ St w0 w2 T t' ao' cap' (putL l p v) := by
  have hw := hP.was
  rw [h.same] at hw
  obtain ⟨a, b, c, rfl, rfl, rfl, rfl⟩ := map_split hw
  have hs := Nt.sorted t' (0, 0) gd_root hP.tri.wf
  rw [hP.now] at hs
  have hs2 : SortedP (a ++ (p, v) :: c) := by
    have : a.map em ++ (p, Value.int .i64 v) :: c.map em = (a ++ (p, v) :: c).map em := by simp [em]
    rw [this] at hs
    exact sorted_map hs
  have hbo : b = [] ∨ ∃ x, b = [(p, x)] := by
    rcases hP.one with ⟨_, e⟩ | ⟨_, x, e⟩
    · exact .inl (List.map_eq_nil_iff.1 e)
    · right
      obtain ⟨y, rfl, e2⟩ := List.map_eq_singleton_iff.1 e
      simp only [em, Prod.mk.injEq] at e2
      exact ⟨y.2, by rw [← e2.1]⟩
  have hpl := place_of (v := v) (post := c) hbo a hs2
  have hput : putL (a ++ b ++ c) p v = a ++ (p, v) :: c := by
    unfold putL
    rw [hpl]
    rcases hbo with rfl | ⟨x, rfl⟩
    · simp
    · simp [List.drop_append]
  have his : (place (a ++ b ++ c) p).2 = is := by
    rw [hpl]
    rcases hP.one with ⟨rfl, e⟩ | ⟨rfl, x, e⟩
    · rw [List.map_eq_nil_iff.1 e]; rfl
    · obtain ⟨y, rfl, _⟩ := List.map_eq_singleton_iff.1 e
      rfl
  refine ⟨his, ?_⟩
  obtain ⟨ao', cap', hu, hg, hf⟩ := hN
  refine ⟨ao', cap', hu, hP.tri.below hb, hg, ?_, fun x e => ⟨fun hm => ?_, (hf x e).2⟩, fun k hk => ?_, ?_, ?_⟩
  · rw [hP.now, hput]
    simp [em]
  · have h1 := hP.tri.lt x.block hm
    have := (hf x e).1
    omega
  · rcases List.mem_cons.1 hk with rfl | hk
    · exact h.base _ (by simp)
    · rcases hP.own k hk with e | e
      · exact h.base _ (by simp [e])
      · exact Nat.le_trans h.below.size e
  · exact bthen (hP.keep.below' h.below (fun k hk => h.base k hk) h.below.size) hb
  · rw [hput]
    intro x hx
    simp only [List.mem_append, List.mem_cons] at hx
    rcases hx with hx | rfl | hx
    · exact h.vals x (by simp [hx])
    · exact hv
    · exact h.vals x (by simp [hx])
theorem drop_place {w0 w w1 : World} {T : Nat} {t t' : Nt} {ao : Option Addr} {cap : Nat} {l : Prs} {p : Pf} (h : St w0 w T t ao cap l) (hP : DropTo 75 89 (.int .i64 0) w T t p w1 t') : (place l p).2 = true := by
  obtain ⟨v, pre, post, l1, l2⟩ := hP.list
  have hw : l.map em = pre ++ [(p, v)] ++ post := by rw [← h.same, l1]; simp
  obtain ⟨a, b, c, rfl, rfl, hbm, rfl⟩ := map_split hw
  obtain ⟨y, rfl, e2⟩ := List.map_eq_singleton_iff.1 hbm
  simp only [em, Prod.mk.injEq] at e2
  have e3 : y = (p, y.2) := Prod.ext e2.1 rfl
  have hs : SortedP (a ++ (p, y.2) :: c) := by
    have := h.sorted.1
    rw [e3] at this
    simpa using this
  have := place_of (v := y.2) (post := c) (o := [(p, y.2)]) (.inr ⟨_, rfl⟩) a hs
  rw [← e3] at this
  rw [this]
  rfl
/-- Behind a Drop of both. -/
theorem St.drop {w0 w w1 w2 : World} {T : Nat} {t t' : Nt} {ao : Option Addr} {cap : Nat} {l : Prs} {p : Pf} {u : Value} (h : St w0 w T t ao cap l) (hP : DropTo 75 89 (.int .i64 0) w T t p w1 t') (hN : (place l p).2 = true → Pr.New w1 (l.take (place l p).1 ++ l.drop ((place l p).1 + 1)) u w2) (hb : Below w1.heap.size w1 w2) :
    (place l p).2 = true ∧ ∃ l' ao' cap', l'.length ≤ l.length ∧ u = .slice ao' l'.length cap' ∧ St w0 w2 T t' ao' cap' l' := by
  obtain ⟨v, pre, post, l1, l2⟩ := hP.list
  have hw : l.map em = pre ++ [(p, v)] ++ post := by rw [← h.same, l1]; simp
  obtain ⟨a, b, c, rfl, rfl, hbm, rfl⟩ := map_split hw
  obtain ⟨y, rfl, e2⟩ := List.map_eq_singleton_iff.1 hbm
  simp only [em, Prod.mk.injEq] at e2
  have hs : SortedP (a ++ (p, y.2) :: c) := by
    have := h.sorted.1
    have e3 : y = (p, y.2) := Prod.ext e2.1 rfl
    rw [e3] at this
    simpa using this
  have hpl : place (a ++ [y] ++ c) p = (a.length, true) := by
    have e3 : y = (p, y.2) := Prod.ext e2.1 rfl
    have := place_of (v := y.2) (post := c) (o := [(p, y.2)]) (.inr ⟨_, rfl⟩) a hs
    rw [← e3] at this
    exact this
  refine ⟨by rw [hpl], a ++ c, ?_⟩
  have := hN (by rw [hpl])
  rw [hpl] at this
  have e4 : (a ++ [y] ++ c).take a.length ++ (a ++ [y] ++ c).drop (a.length + 1) = a ++ c := by simp [List.drop_append]
  rw [e4] at this
  obtain ⟨ao', cap', hu, hg, hf⟩ := this
  refine ⟨ao', cap', by simp, hu, hP.tri.below hb, hg, by rw [l2]; simp, fun x e => ⟨fun hm => ?_, (hf x e).2⟩, fun k hk => ?_, ?_, fun x hx => h.vals x ?_⟩
  · have h1 := hP.tri.lt x.block hm
    have := (hf x e).1
    omega
  · rcases List.mem_cons.1 hk with rfl | hk
    · exact h.base _ (by simp)
    · exact h.base _ (by simp [hP.own k hk])
  · exact bthen (hP.keep.below' h.below (fun k hk => h.base k hk) h.below.size) hb
  · simp only [List.mem_append] at hx ⊢
    rcases hx with hx | hx
    · exact .inl (.inl hx)
    · exact .inr hx
end Go.Proofs.Ytechocnednepiaa
