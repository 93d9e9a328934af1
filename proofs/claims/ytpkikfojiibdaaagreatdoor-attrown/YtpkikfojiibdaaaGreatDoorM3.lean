import Derived.Test.YtpkikfojiibdaaaGreatDoorL1
import Derived.Laws.Rows
/- A change that is done twice; the change that changes nothing. -/
namespace Go.Proofs.YtpkikfojiibdaaaGreatDoor
open Go.RowKit

theorem rises_of_set {l : List Cm.Co.C} (h : Cm.Co.set l = true) : Cm.Co.rises l := by
  obtain ⟨_, hk⟩ := (Cm.Co.set_iff l).1 h
  unfold Cm.Co.rises
  have step : ∀ i (h1 : i + 1 < l.length), Cm.Co.bef l[i] l[i + 1] = true := by
    intro i h1
    have := hk (i + 1) h1
    rw [Cm.Co.ok_succ l i h1, Bool.and_eq_true] at this
    exact this.2
  rw [List.pairwise_iff_getElem]
  intro i j hi hj hij
  obtain ⟨d, rfl⟩ : ∃ d, j = i + 1 + d := ⟨j - i - 1, by omega⟩
  induction d with
  | zero => exact step i hj
  | succ d ih => exact Cm.Co.bef_trans (ih (by omega) (by omega)) (step (i + 1 + d) hj)
theorem set_of_rises {x : List Cm.Co.C} (hr : Cm.Co.rises x) (hm : ∀ c ∈ x, Cm.Co.may c = true) (h8 : x.length ≤ 8) : Cm.Co.set x = true := by
  refine Cm.Co.set_ok x h8 fun j hj => ?_
  cases j with
  | zero => rw [Cm.Co.ok_zero x hj]; exact hm _ (List.getElem_mem hj)
  | succ m =>
    rw [Cm.Co.ok_succ x m hj, Bool.and_eq_true]
    unfold Cm.Co.rises at hr
    rw [List.pairwise_iff_getElem] at hr
    exact ⟨hm _ (List.getElem_mem hj), hr m (m + 1) (by omega) hj (by omega)⟩
theorem inL_iff (l : List Cm.Co.C) (c : Cm.Co.C) : Cm.Co.inL l c = true ↔ c ∈ l := by
  unfold Cm.Co.inL
  rw [List.any_eq_true]
  constructor
  · rintro ⟨y, hy, h⟩
    simp only [Bool.and_eq_true, beq_iff_eq] at h
    have : y = c := Prod.ext h.1 h.2
    rwa [this] at hy
  · exact fun h => ⟨c, h, by simp⟩
theorem mem_left (a : At) (s : St) (c : Cm.Co.C) : c ∈ At.left a s ↔ (s.clr = false ∧ c ∈ a.comms) ∧ c ∉ s.del := by
  unfold At.left
  rw [List.mem_filter]
  have e : (!Cm.Co.inL s.del c) = true ↔ c ∉ s.del := by
    rw [Bool.not_eq_true', ← Bool.not_eq_true, inL_iff]
  rw [e]
  cases s.clr <;> simp
theorem uni_eq {l m l' m' x y : List Cm.Co.C} (hx : Cm.Co.uni l m x) (hy : Cm.Co.uni l' m' y) (h : ∀ c, (c ∈ l ∨ c ∈ m) ↔ (c ∈ l' ∨ c ∈ m')) : x = y :=
  Cm.Co.rises_eq x y hx.1 hy.1 fun c => (hx.2 c).trans ((h c).trans (hy.2 c).symm)
/-- The change that changes nothing. -/
def St.none : St := ⟨-1, -1, -1, [], [], false, []⟩
theorem ok_none : St.ok St.none = true := by decide
theorem may_parts {a : At} (h : At.may a = true) : (0 ≤ a.pf ∧ a.pf ≤ 1048576 ∧ 0 ≤ a.md ∧ a.md ≤ 1048576 ∧ 0 ≤ a.og ∧ a.og ≤ 2 ∧ 0 ≤ a.fr ∧ a.fr ≤ 65535) ∧ Is.may a.path = true ∧ Cm.Co.set a.comms = true ∧ Cl.ok a.cl = true := by
  unfold At.may at h
  simpa only [Bool.and_eq_true, decide_eq_true_eq] using h
theorem do_none {a r : At} {q : Int} (h : At.DoTo a St.none r q) : (At.may a = true ∧ r = a ∧ q = 0) ∨ (At.may a = false ∧ r = At.zero ∧ q = 1) := by
  unfold At.DoTo at h
  by_cases hm : At.may a = true
  · rw [if_pos ⟨hm, ok_none⟩] at h
    obtain ⟨_, hp, hs, _⟩ := may_parts hm
    obtain ⟨x, hu, h⟩ := h
    have hx : x = a.comms := by
      have hr : Cm.Co.uni a.comms [] a.comms := ⟨rises_of_set hs, fun c => by simp⟩
      refine uni_eq hu hr fun c => ?_
      rw [mem_left]
      simp [St.none]
    have h8 := ((Cm.Co.set_iff _).1 hs).1
    have h16 := ((Is.may_iff _).1 hp).1
    subst hx
    rcases h with ⟨h1, _⟩ | ⟨_, rfl, rfl⟩
    · simp [St.none] at h1
      omega
    · exact .inl ⟨hm, by simp [At.told, St.none], rfl⟩
  · rw [if_neg (fun h => hm h.1)] at h
    exact .inr ⟨by simpa using hm, h.1, h.2⟩
theorem do_err {a r : At} {s : St} {q : Int} (h : At.DoTo a s r q) : (q = 0 ∧ At.may a = true ∧ St.ok s = true) ∨ (q ≠ 0 ∧ r = At.zero) := by
  unfold At.DoTo at h
  by_cases hm : At.may a = true ∧ St.ok s = true
  · rw [if_pos hm] at h
    obtain ⟨x, _, h⟩ := h
    rcases h with ⟨_, h1, rfl⟩ | ⟨_, _, rfl⟩
    · exact .inr ⟨by decide, h1⟩
    · exact .inl ⟨rfl, hm.1, hm.2⟩
  · rw [if_neg hm] at h
    obtain ⟨h1, rfl⟩ := h
    exact .inr ⟨by decide, h1⟩
theorem ok_parts {s : St} (h : St.ok s = true) : (-1 ≤ s.pf ∧ s.pf ≤ 1048576 ∧ -1 ≤ s.md ∧ s.md ≤ 1048576 ∧ -1 ≤ s.og ∧ s.og ≤ 2) ∧ s.add.length ≤ 8 ∧ s.del.length ≤ 8 ∧ (∀ c ∈ s.add, Cm.Co.may c = true) ∧ (∀ c ∈ s.del, Cm.Co.may c = true) ∧ Is.may s.pre = true := by
  unfold St.ok at h
  simp only [Bool.and_eq_true, decide_eq_true_eq, Bool.not_eq_true', List.any_eq_false] at h
  obtain ⟨h1, h2, h3, h4, h5, h6⟩ := h
  exact ⟨h1, h2, h3, fun c hc => by simpa using h4 c hc, fun c hc => by simpa using h5 c hc, h6⟩
/-- What comes of a change that can be done may be. -/
theorem do_may {a r : At} {s : St} (h : At.DoTo a s r 0) : At.may r = true := by
  unfold At.DoTo at h
  by_cases hm : At.may a = true ∧ St.ok s = true
  · rw [if_pos hm] at h
    obtain ⟨x, hu, h⟩ := h
    rcases h with ⟨_, _, h⟩ | ⟨⟨h8, h16⟩, rfl, _⟩
    · cases h
    · obtain ⟨⟨a1, a2, a3, a4, a5, a6, a7, a8⟩, pa, ca, ka⟩ := may_parts hm.1
      obtain ⟨⟨s1, s2, s3, s4, s5, s6⟩, _, _, sa, _, sp⟩ := ok_parts hm.2
      have hx : Cm.Co.set x = true := by
        refine set_of_rises hu.1 (fun c hc => ?_) h8
        rcases (hu.2 c).1 hc with h | h
        · exact set_may ca c ((mem_left _ _ _).1 h).1.2
        · exact sa c h
      have hp : Is.may (s.pre ++ a.path) = true := by
        rw [Is.may_iff]
        refine ⟨by rw [List.length_append]; exact h16, fun j hj => ?_⟩
        rw [List.getElem_append]
        split
        · exact ((Is.may_iff _).1 sp).2 j _
        · exact ((Is.may_iff _).1 pa).2 _ _
      unfold At.may
      simp only [hx, hp, ka, Bool.and_true, decide_eq_true_eq]
      unfold At.told
      refine ⟨?_, ?_, ?_, ?_, ?_, ?_, a7, a8⟩ <;> split <;> omega
  · rw [if_neg hm] at h
    cases h.2
/-- Done twice, with nothing ahead of the path, it is as done once. -/
theorem do_twice {a r y : At} {s : St} {f : Int} (hp : s.pre = []) (h : At.DoTo a s r 0) (h2 : At.DoTo r s y f) : y = r ∧ f = 0 ∧ (s.pf < 0 ∨ r.pf = s.pf) ∧ (s.md < 0 ∨ r.md = s.md) ∧ (s.og < 0 ∨ r.og = s.og) := by
  have hmr := do_may h
  unfold At.DoTo at h h2
  by_cases hm : At.may a = true ∧ St.ok s = true
  · rw [if_pos hm] at h
    rw [if_pos ⟨hmr, hm.2⟩] at h2
    obtain ⟨x, hu, h⟩ := h
    obtain ⟨z, hv, h2⟩ := h2
    rcases h with ⟨_, _, h⟩ | ⟨⟨h8, h16⟩, rfl, _⟩
    · cases h
    · have hz : z = x := by
        refine uni_eq hv hu fun c => ?_
        rw [mem_left, mem_left]
        simp only
        rw [hu.2 c, mem_left]
        constructor
        · rintro (⟨⟨h1, h2 | h2⟩, h3⟩ | h1)
          · exact .inl h2
          · exact .inr h2
          · exact .inr h1
        · rintro (h1 | h1)
          · exact .inl ⟨⟨h1.1.1, .inl h1⟩, h1.2⟩
          · exact .inr h1
      subst hz
      have hpath : s.pre ++ (s.pre ++ a.path) = s.pre ++ a.path := by rw [hp]; rfl
      rcases h2 with ⟨h1, _⟩ | ⟨_, rfl, rfl⟩
      · simp only [hp, List.length_append, List.length_nil, Nat.zero_add] at h1 h16
        omega
      · refine ⟨?_, rfl, ?_, ?_, ?_⟩
        · simp only [At.mk.injEq, hpath, and_true]
          unfold At.told
          refine ⟨?_, ?_, ?_⟩ <;> split <;> simp_all
        · simp only [At.told]
          split <;> omega
        · simp only [At.told]
          split <;> omega
        · simp only [At.told]
          split <;> omega
  · rw [if_neg hm] at h
    cases h.2
/-- Attributes that may be have few parts. -/
theorem may_few {a : At} (h : At.may a = true) : a.path.length ≤ 100 ∧ a.comms.length ≤ 100 ∧ a.cl.length ≤ 100 := by
  obtain ⟨_, pa, ca, ka⟩ := may_parts h
  have h1 := ((Is.may_iff _).1 pa).1
  have h2 := ((Cm.Co.set_iff _).1 ca).1
  have h3 := ((Cl.ok_iff _).1 ka).1
  omega
theorem boxes2 (w : World) (x y : Array Value) (t u : TypeId) : ((w.alloc (.cells x t)).alloc (.cells y u)).heap[w.heap.size]? = some (.cells x t (0, 0)) ∧ ((w.alloc (.cells x t)).alloc (.cells y u)).heap[w.heap.size + 1]? = some (.cells y u (0, 0)) ∧ Below w.heap.size w ((w.alloc (.cells x t)).alloc (.cells y u)) := by
  have h1 := heap_new w x t
  have h2 := heap_new (w.alloc (.cells x t)) y u
  have hb := balloc (brefl (w.alloc (.cells x t))) (.cells y u)
  rw [show (w.alloc (.cells x t)).heap.size = w.heap.size + 1 by simp] at h2
  exact ⟨(hb.block _ (heap_lt h1)).trans h1, h2, balloc (balloc (brefl w) _) _⟩
end Go.Proofs.YtpkikfojiibdaaaGreatDoor

/- Seven cells written over; lists that are kept. -/
namespace Go.Proofs.YtpkikfojiibdaaaGreatDoor
open Go.RowKit

theorem frozen7 {w : World} {b y : Nat} {x : Array Value} (h : w.heap[b]? = some (.cells x y (0, 0))) (o : Nat) : w.frozen? ⟨b, o, none⟩ = false := by
  unfold World.frozen?
  rw [h]
  rfl
/-- Seven cells written over. -/
def put7 (w : World) (g : Nat) (v0 v1 v2 v3 v4 v5 v6 : Value) : World := ((((((w.setCell ⟨g, 0, none⟩ v0).setCell ⟨g, 1, none⟩ v1).setCell ⟨g, 2, none⟩ v2).setCell ⟨g, 3, none⟩ v3).setCell ⟨g, 4, none⟩ v4).setCell ⟨g, 5, none⟩ v5).setCell ⟨g, 6, none⟩ v6
theorem put7_same {w : World} {g t : Nat} {z0 z1 z2 z3 z4 z5 z6 : Value} (h : w.heap[g]? = some (.cells #[z0, z1, z2, z3, z4, z5, z6] t (0, 0))) (v0 v1 v2 v3 v4 v5 v6 : Value) : (put7 w g v0 v1 v2 v3 v4 v5 v6).heap[g]? = some (.cells #[v0, v1, v2, v3, v4, v5, v6] t (0, 0)) := by
  unfold put7
  have h0 := heap_setCell_same w g 0 _ t v0 h
  have h1 := heap_setCell_same _ g 1 _ t v1 h0
  have h2 := heap_setCell_same _ g 2 _ t v2 h1
  have h3 := heap_setCell_same _ g 3 _ t v3 h2
  have h4 := heap_setCell_same _ g 4 _ t v4 h3
  have h5 := heap_setCell_same _ g 5 _ t v5 h4
  have h6 := heap_setCell_same _ g 6 _ t v6 h5
  rw [h6]
  simp
theorem put7_below {B : Nat} {u w : World} (h : Below B u w) {g : Nat} (hg : B ≤ g) (v0 v1 v2 v3 v4 v5 v6 : Value) : Below B u (put7 w g v0 v1 v2 v3 v4 v5 v6) := by
  unfold put7
  exact ((((((h.setCell (p := ⟨g, 0, none⟩) hg v0).setCell (p := ⟨g, 1, none⟩) hg v1).setCell (p := ⟨g, 2, none⟩) hg v2).setCell (p := ⟨g, 3, none⟩) hg v3).setCell (p := ⟨g, 4, none⟩) hg v4).setCell (p := ⟨g, 5, none⟩) hg v5).setCell (p := ⟨g, 6, none⟩) hg v6
theorem put7_other (w : World) (g : Nat) (v0 v1 v2 v3 v4 v5 v6 : Value) (b : Nat) (hb : b ≠ g) : (put7 w g v0 v1 v2 v3 v4 v5 v6).heap[b]? = w.heap[b]? := by
  unfold put7
  rw [heap_setCell_other _ ⟨g, 6, none⟩ b _ hb, heap_setCell_other _ ⟨g, 5, none⟩ b _ hb, heap_setCell_other _ ⟨g, 4, none⟩ b _ hb, heap_setCell_other _ ⟨g, 3, none⟩ b _ hb, heap_setCell_other _ ⟨g, 2, none⟩ b _ hb, heap_setCell_other _ ⟨g, 1, none⟩ b _ hb, heap_setCell_other _ ⟨g, 0, none⟩ b _ hb]
theorem cell_block {w w' : World} {b : Nat} (h : w'.heap[b]? = w.heap[b]?) (o : Nat) : w'.cell? ⟨b, o, none⟩ = w.cell? ⟨b, o, none⟩ := by
  unfold World.cell?
  rw [h]
theorem is_keep {B : Nat} {w w' : World} {o : Option Addr} {l : List Int} (h : Is.slot w o l) (hw : Wr B w o l.length) (hk : ∀ b, B ≤ b → w'.heap[b]? = w.heap[b]?) : Is.slot w' o l := by
  rcases hw with h0 | ⟨g, off, rfl, hg, _⟩
  · exact .inl (List.length_eq_zero_iff.1 h0)
  · rcases h with h | ⟨b, off', e, hr⟩
    · exact .inl h
    · cases e
      exact .inr ⟨g, off, rfl, fun j hj => (cell_block (hk g hg) _).trans (hr j hj)⟩
theorem co_keep {B : Nat} {w w' : World} {o : Option Addr} {l : List Cm.Co.C} (h : Cm.Co.slot w o l) (hw : Wr B w o (l.length * 2)) (hk : ∀ b, B ≤ b → w'.heap[b]? = w.heap[b]?) : Cm.Co.slot w' o l := by
  rcases hw with h0 | ⟨g, off, rfl, hg, _⟩
  · exact .inl (List.length_eq_zero_iff.1 (by omega))
  · rcases h with h | ⟨b, off', e, hr⟩
    · exact .inl h
    · cases e
      exact .inr ⟨g, off, rfl, fun j u hu => (cell_block (hk g hg) _).trans (hr j u hu)⟩
theorem mine_keep {B : Nat} {w w' : World} {a : At} {p c k : Option Addr} (h : At.mine B w a p c k) (hk : ∀ b, B ≤ b → w'.heap[b]? = w.heap[b]?) : At.lies w' a p c k :=
  ⟨is_keep h.1.1 h.2.1 hk, co_keep h.1.2.1 h.2.2.1 hk, is_keep h.1.2.2 h.2.2.2 hk⟩
theorem frozenG {w : World} {b y : Nat} {x : Array Value} (h : w.heap[b]? = some (.cells x y (0, 0))) (o : Nat) : w.frozen? ⟨b, o, none⟩ = false := by
  unfold World.frozen?
  rw [h]
  rfl
theorem cellB {w w' : World} {b : Nat} (h : w'.heap[b]? = w.heap[b]?) (o : Nat) : w'.cell? ⟨b, o, none⟩ = w.cell? ⟨b, o, none⟩ := by
  unfold World.cell?
  rw [h]
theorem is_far {w w' : World} {o : Option Addr} {l : List Int} (h : Is.slot w o l) {g : Nat} (hn : ∀ ad, o = some ad → ad.block = g → False) (hk : ∀ b, b ≠ g → w'.heap[b]? = w.heap[b]?) : Is.slot w' o l := by
  rcases h with h | ⟨b, off, rfl, hr⟩
  · exact .inl h
  · exact .inr ⟨b, off, rfl, fun j hj => (cellB (hk b (fun e => hn _ rfl e)) _).trans (hr j hj)⟩
theorem co_far {w w' : World} {o : Option Addr} {l : List Cm.Co.C} (h : Cm.Co.slot w o l) {g : Nat} (hn : ∀ ad, o = some ad → ad.block = g → False) (hk : ∀ b, b ≠ g → w'.heap[b]? = w.heap[b]?) : Cm.Co.slot w' o l := by
  rcases h with h | ⟨b, off, rfl, hr⟩
  · exact .inl h
  · exact .inr ⟨b, off, rfl, fun j u hu => (cellB (hk b (fun e => hn _ rfl e)) _).trans (hr j u hu)⟩
end Go.Proofs.YtpkikfojiibdaaaGreatDoor

