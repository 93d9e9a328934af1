import Derived.Test.YtbceoinhmpnjaaaGreatDoorT5
import Derived.Deep.RegionHeldLaw
import Derived.Deep.RegionLaw
/- The document's Met: tables of trees. -/
namespace Go.Proofs.YtbceoinhmpnjaaaGreatDoor
open Go.RowKit Go.Sort

/-- The table of a node of numbers: rows ahead of i whole, row i with the first k parts. -/
def numAny (p f t : List Int) (a k : Nat) : Bool := (List.range k).any fun x => decide (f.getD x 0 ≤ p.getD a 0) && decide (p.getD a 0 ≤ t.getD x 0)
def numT (p f t : List Int) : Nat → Nat → Bool := fun a b => decide (a < p.length ∧ b = a + 1) && numAny p f t a f.length
def numK (p f t : List Int) (i k : Nat) : Nat → Nat → Bool := fun a b => decide (b = a + 1) && (if a < i then numAny p f t a f.length else if a = i then numAny p f t a k else false)
theorem numAny_succ (p f t : List Int) (a k : Nat) : numAny p f t a (k + 1) = (numAny p f t a k || (decide (f.getD k 0 ≤ p.getD a 0) && decide (p.getD a 0 ≤ t.getD k 0))) := by
  unfold numAny
  rw [List.range_succ, List.any_append]
  simp
theorem numK_zero (p f t : List Int) (a b : Nat) : false = numK p f t 0 0 a b := by
  unfold numK numAny
  by_cases h : a = 0 <;> simp [h]
theorem numK_here (p f t : List Int) (i k : Nat) : numK p f t i k i (i + 1) = numAny p f t i k := by
  unfold numK
  simp
theorem numK_step (p f t : List Int) (i k : Nat) (v : Bool) (hv : v = (numAny p f t i k || (decide (f.getD k 0 ≤ p.getD i 0) && decide (p.getD i 0 ≤ t.getD k 0)))) (a b : Nat) : upd (numK p f t i k) i (i + 1) v a b = numK p f t i (k + 1) a b := by
  unfold upd
  by_cases h : a = i ∧ b = i + 1
  · obtain ⟨rfl, rfl⟩ := h
    rw [if_pos ⟨rfl, rfl⟩, hv, numK_here, numAny_succ]
  · rw [if_neg h]
    unfold numK
    by_cases h1 : a = i
    · have h2 : ¬ b = a + 1 := fun e => h ⟨h1, by omega⟩
      simp [h2]
    · simp [h1]
theorem numK_next (p f t : List Int) (i k : Nat) (hk : k = f.length) (a b : Nat) : numK p f t i k a b = numK p f t (i + 1) 0 a b := by
  subst hk
  unfold numK
  by_cases h1 : a < i
  · simp [h1, show a < i + 1 by omega]
  · by_cases h2 : a = i
    · subst h2; simp
    · have h3 : ¬ a < i + 1 := by omega
      by_cases h4 : a = i + 1
      · rw [if_neg h1, if_neg h2, if_neg h3, if_pos h4]
        simp [numAny]
      · simp [h1, h2, h3, h4]
theorem numK_done (p f t : List Int) (i : Nat) (hi : i = p.length) (a b : Nat) : numK p f t i 0 a b = numT p f t a b := by
  subst hi
  unfold numK numT
  by_cases h1 : a < p.length
  · simp [h1]
  · by_cases h2 : a = p.length
    · simp [h2, numAny]
    · simp [h1, h2]
mutual
/-- A tree's table, as the document makes it. -/
def Tr.tb (p : List Int) : Tr → Nat → Nat → Bool
  | .mk k _ _ f t ks => if k = 0 then numT p f t else if k = 1 then Tr.tbRow p (fun i j => i == j) ks else if k = 2 then Tr.tbOr p (fun _ _ => false) ks
      else if k = 5 then (fun i j => (i == j) || Tr.tb1 p ks i j) else if k = 3 then (fun i j => plusT (Tr.tb1 p ks) p.length p.length i j || (i == j)) else plusT (Tr.tb1 p ks) p.length p.length
def Tr.tb1 (p : List Int) : List Tr → Nat → Nat → Bool
  | [] => fun _ _ => false
  | x :: _ => Tr.tb p x
def Tr.tbRow (p : List Int) : (Nat → Nat → Bool) → List Tr → Nat → Nat → Bool
  | T, [] => T
  | T, x :: r => Tr.tbRow p (thenT T (Tr.tb p x) p.length) r
def Tr.tbOr (p : List Int) : (Nat → Nat → Bool) → List Tr → Nat → Nat → Bool
  | T, [] => T
  | T, x :: r => Tr.tbOr p (fun i j => T i j || Tr.tb p x i j) r
end
theorem Tr.tbRow_app (p : List Int) : ∀ (a b : List Tr) (T : Nat → Nat → Bool), Tr.tbRow p T (a ++ b) = Tr.tbRow p (Tr.tbRow p T a) b
  | [], b, T => by rw [List.nil_append, Tr.tbRow]
  | x :: a, b, T => by rw [List.cons_append, Tr.tbRow, Tr.tbRow, Tr.tbRow_app p a b]
theorem Tr.tbOr_app (p : List Int) : ∀ (a b : List Tr) (T : Nat → Nat → Bool), Tr.tbOr p T (a ++ b) = Tr.tbOr p (Tr.tbOr p T a) b
  | [], b, T => by rw [List.nil_append, Tr.tbOr]
  | x :: a, b, T => by rw [List.cons_append, Tr.tbOr, Tr.tbOr, Tr.tbOr_app p a b]
theorem Tr.tbRow_step (p : List Int) (T : Nat → Nat → Bool) (ks : List Tr) (i : Nat) (h : i < ks.length) : Tr.tbRow p T (ks.take (i + 1)) = thenT (Tr.tbRow p T (ks.take i)) (Tr.tb p ks[i]) p.length := by
  rw [List.take_succ_eq_append_getElem h, Tr.tbRow_app, Tr.tbRow, Tr.tbRow]
theorem Tr.tbOr_step (p : List Int) (T : Nat → Nat → Bool) (ks : List Tr) (i : Nat) (h : i < ks.length) : Tr.tbOr p T (ks.take (i + 1)) = fun a b => Tr.tbOr p T (ks.take i) a b || Tr.tb p ks[i] a b := by
  rw [List.take_succ_eq_append_getElem h, Tr.tbOr_app, Tr.tbOr, Tr.tbOr]
mutual
/-- A tree that the document's functions may be asked of. -/
def Tr.Ok : Tr → Prop
  | .mk k _ _ f t ks => (k = 0 ∧ f.length = t.length ∨ k = 1 ∨ k = 2 ∨ (k = 3 ∨ k = 4 ∨ k = 5) ∧ ks ≠ []) ∧ Tr.Oks ks
def Tr.Oks : List Tr → Prop
  | [] => True
  | x :: r => Tr.Ok x ∧ Tr.Oks r
end
theorem Tr.oks_at : ∀ (ks : List Tr), Tr.Oks ks → ∀ i (h : i < ks.length), Tr.Ok ks[i]
  | [], _, i, h => by cases h
  | x :: r, h, 0, _ => h.1
  | x :: r, h, i + 1, hi => Tr.oks_at r h.2 i (by simpa using hi)
theorem numAny_iff (p : List Int) (rs : List Prt) (a : Nat) : numAny p (rs.map Prod.fst) (rs.map fun r => r.2.1) a (rs.map Prod.fst).length = true ↔ ∃ r ∈ rs, r.1 ≤ p.getD a 0 ∧ p.getD a 0 ≤ r.2.1 := by
  unfold numAny
  rw [List.any_eq_true]
  constructor
  · rintro ⟨x, hx, h⟩
    have hx' : x < rs.length := by simpa using hx
    refine ⟨rs[x], List.getElem_mem hx', ?_⟩
    simpa [hx', List.getD_eq_getElem?_getD] using h
  · rintro ⟨r, hr, h⟩
    obtain ⟨x, hx, rfl⟩ := List.getElem_of_mem hr
    refine ⟨x, by simpa using hx, ?_⟩
    simpa [hx, List.getD_eq_getElem?_getD] using h
theorem says_numT (p : List Int) (d s : Bool) (rs : List Prt) : Says p (numT p (rs.map Prod.fst) (rs.map fun r => r.2.1)) (Nd.Met (.num d s rs)) := by
  intro i k hik hk
  unfold numT
  rw [Nd.Met, Bool.and_eq_true, numAny_iff, decide_eq_true_eq]
  constructor
  · rintro ⟨⟨h, rfl⟩, r, hr, h1, h2⟩
    exact ⟨p.getD i 0, piece_one p i h, r, hr, h1, h2⟩
  · rintro ⟨n, hn, r, hr, h1, h2⟩
    have hl := congrArg List.length hn
    rw [piece_len p i k hk] at hl
    simp at hl
    obtain rfl : k = i + 1 := by omega
    rw [piece_one p i (by omega)] at hn
    simp only [List.cons.injEq, and_true] at hn
    rw [hn]
    exact ⟨⟨by omega, rfl⟩, r, hr, h1, h2⟩
theorem kinds {k : Nat} (h : k = 3 ∨ k = 4 ∨ k = 5) : ¬ (k : Int) = 0 ∧ ¬ (k : Int) = 1 ∧ ¬ (k : Int) = 2 := by omega
mutual
theorem says_tr (p : List Int) : ∀ (d : Nat) (n : Nd), Nd.Good d n → Says p (Tr.tb p (Nd.tr n)) (Nd.Met n)
  | _, .num d s rs, _ => by
    have e : Tr.tb p (Nd.tr (.num d s rs)) = numT p (rs.map Prod.fst) (rs.map fun r => r.2.1) := by rw [Nd.tr, Tr.tb, if_pos rfl]
    rw [e]
    exact says_numT p d s rs
  | 0, .ch rows, hg => by rw [Nd.Good] at hg; exact hg.elim
  | d + 1, .ch rows, hg => by
    rw [Nd.Good] at hg
    have h := says_trRows p d rows hg.2 (fun _ _ => false) (fun _ => False) (fun i k _ _ => by simp)
    have e : Tr.tb p (Nd.tr (.ch rows)) = Tr.tbOr p (fun _ _ => false) (Nd.trRows rows) := by rw [Nd.tr, Tr.tb, if_neg (by decide), if_neg (by decide), if_pos rfl]
    rw [e]
    refine says_iff h fun q _ => ?_
    rw [Nd.Met]
    simp
  | d, .st k n, hg => by
    rw [Nd.Good] at hg
    obtain ⟨h0, h1, h2⟩ := kinds hg.1
    have h := says_tr p d n hg.2.2
    have e1 : Tr.tb1 p [Nd.tr n] = Tr.tb p (Nd.tr n) := by rw [Tr.tb1]
    by_cases h5 : k = 5
    · have e : Tr.tb p (Nd.tr (.st k n)) = fun i j => (i == j) || Tr.tb p (Nd.tr n) i j := by rw [Nd.tr, Tr.tb, if_neg h0, if_neg h1, if_neg h2, if_pos (show (k : Int) = 5 by omega), e1]
      rw [e]
      refine says_iff (says_or (says_empty p) h) fun q _ => ?_
      rw [Nd.Met, if_pos h5]
    · by_cases h3 : k = 3
      · have e : Tr.tb p (Nd.tr (.st k n)) = fun i j => plusT (Tr.tb p (Nd.tr n)) p.length p.length i j || (i == j) := by rw [Nd.tr, Tr.tb, if_neg h0, if_neg h1, if_neg h2, if_neg (show ¬ (k : Int) = 5 by omega), if_pos (show (k : Int) = 3 by omega), e1]
        rw [e]
        refine says_iff (says_or (says_plus h) (says_empty p)) fun q _ => ?_
        rw [Nd.Met, if_neg h5, if_pos h3]
        constructor
        · rintro (hp | rfl)
          · exact Many.plus hp
          · exact .nil
        · intro hm
          rcases hm.first with rfl | ⟨a, b, _, rfl, ha, hb⟩
          · exact .inr rfl
          · exact .inl ⟨a, b, rfl, ha, hb⟩
      · have e : Tr.tb p (Nd.tr (.st k n)) = plusT (Tr.tb p (Nd.tr n)) p.length p.length := by rw [Nd.tr, Tr.tb, if_neg h0, if_neg h1, if_neg h2, if_neg (show ¬ (k : Int) = 5 by omega), if_neg (show ¬ (k : Int) = 3 by omega), e1]
        rw [e]
        refine says_iff (says_plus h) fun q _ => ?_
        rw [Nd.Met, if_neg h5, if_neg h3]
theorem says_trRow (p : List Int) : ∀ (d : Nat) (l : List Nd), Nd.GoodRow d l → ∀ (t : Nat → Nat → Bool) (P : List Int → Prop), Says p t P → Says p (Tr.tbRow p t (Nd.trRow l)) fun q => ∃ a b, q = a ++ b ∧ P a ∧ Nd.MetRow l b
  | _, [], _, t, P, h => by
    have e : Tr.tbRow p t (Nd.trRow []) = t := by rw [Nd.trRow, Tr.tbRow]
    rw [e]
    refine says_iff h fun q _ => ⟨fun hq => ⟨q, [], by simp, hq, by rw [Nd.MetRow]⟩, ?_⟩
    rintro ⟨a, b, rfl, ha, hb⟩
    rw [Nd.MetRow] at hb
    subst hb
    simpa using ha
  | d, n :: r, hg, t, P, h => by
    rw [Nd.GoodRow] at hg
    have e : Tr.tbRow p t (Nd.trRow (n :: r)) = Tr.tbRow p (thenT t (Tr.tb p (Nd.tr n)) p.length) (Nd.trRow r) := by rw [Nd.trRow, Tr.tbRow]
    rw [e]
    refine says_iff (says_trRow p d r hg.2 _ _ (says_then h (says_tr p d n hg.1))) fun q _ => ?_
    constructor
    · rintro ⟨_, b, rfl, ⟨a1, a2, rfl, h1, h2⟩, hb⟩
      exact ⟨a1, a2 ++ b, by rw [List.append_assoc], h1, by rw [Nd.MetRow]; exact ⟨a2, b, rfl, h2, hb⟩⟩
    · rintro ⟨a, b, rfl, ha, hb⟩
      rw [Nd.MetRow] at hb
      obtain ⟨b1, b2, rfl, h1, h2⟩ := hb
      exact ⟨a ++ b1, b2, by rw [List.append_assoc], ⟨a, b1, rfl, ha, h1⟩, h2⟩
theorem says_trRows (p : List Int) : ∀ (d : Nat) (l : List (List Nd)), Nd.GoodRows d l → ∀ (t : Nat → Nat → Bool) (P : List Int → Prop), Says p t P → Says p (Tr.tbOr p t (Nd.trRows l)) fun q => P q ∨ Nd.MetRows l q
  | _, [], _, t, P, h => by
    have e : Tr.tbOr p t (Nd.trRows []) = t := by rw [Nd.trRows, Tr.tbOr]
    rw [e]
    refine says_iff h fun q _ => ?_
    rw [Nd.MetRows]
    simp
  | d, x :: r, hg, t, P, h => by
    rw [Nd.GoodRows] at hg
    have e : Tr.tbOr p t (Nd.trRows (x :: r)) = Tr.tbOr p (fun i k => t i k || Tr.tbRow p (fun i k => i == k) (Nd.trRow x) i k) (Nd.trRows r) := by rw [Nd.trRows, Tr.tbOr, Tr.tb, if_neg (by decide), if_pos rfl]
    rw [e]
    have hx := says_trRow p d x hg.1 _ _ (says_empty p)
    refine says_iff (says_trRows p d r hg.2 _ _ (says_or h hx)) fun q _ => ?_
    rw [Nd.MetRows]
    constructor
    · rintro ((h1 | ⟨a, b, rfl, rfl, hb⟩) | h1)
      · exact .inl h1
      · exact .inr (.inl (by simpa using hb))
      · exact .inr (.inr h1)
    · rintro (h1 | h1 | h1)
      · exact .inl (.inl h1)
      · exact .inl (.inr ⟨[], q, rfl, rfl, h1⟩)
      · exact .inr h1
end
mutual
theorem ok_tr : ∀ (d : Nat) (n : Nd), Nd.Good d n → Tr.Ok (Nd.tr n)
  | _, .num d s rs, _ => by rw [Nd.tr, Tr.Ok]; exact ⟨.inl ⟨rfl, by simp⟩, by rw [Tr.Oks]; trivial⟩
  | 0, .ch rows, hg => by rw [Nd.Good] at hg; exact hg.elim
  | d + 1, .ch rows, hg => by
    rw [Nd.Good] at hg
    rw [Nd.tr, Tr.Ok]
    exact ⟨.inr (.inr (.inl rfl)), ok_trRows d rows hg.2⟩
  | d, .st k n, hg => by
    rw [Nd.Good] at hg
    rw [Nd.tr, Tr.Ok]
    exact ⟨.inr (.inr (.inr ⟨by have := hg.1; omega, by simp⟩)), by rw [Tr.Oks]; exact ⟨ok_tr d n hg.2.2, by rw [Tr.Oks]; trivial⟩⟩
theorem ok_trRow : ∀ (d : Nat) (l : List Nd), Nd.GoodRow d l → Tr.Oks (Nd.trRow l)
  | _, [], _ => by rw [Nd.trRow, Tr.Oks]; trivial
  | d, n :: r, hg => by
    rw [Nd.GoodRow] at hg
    rw [Nd.trRow, Tr.Oks]
    exact ⟨ok_tr d n hg.1, ok_trRow d r hg.2⟩
theorem ok_trRows : ∀ (d : Nat) (l : List (List Nd)), Nd.GoodRows d l → Tr.Oks (Nd.trRows l)
  | _, [], _ => by rw [Nd.trRows, Tr.Oks]; trivial
  | d, x :: r, hg => by
    rw [Nd.GoodRows] at hg
    rw [Nd.trRows, Tr.Oks, Tr.Ok]
    exact ⟨⟨.inr (.inl rfl), ok_trRow d x hg.1⟩, ok_trRows d r hg.2⟩
end
end Go.Proofs.YtbceoinhmpnjaaaGreatDoor

/- The document's Met: its tables as lists, its frame. -/
namespace Go.Proofs.YtbceoinhmpnjaaaGreatDoor
open Go.RowKit Go.Sort

def TabL (T : Nat → Nat → Bool) (l : List Value) : Prop := Tab T l.toArray
def TbPost (W : World) (T : Nat → Nat → Bool) (e : Ending) (w' : World) : Prop := (∃ l : List Value, e = .returned (.agg l.toArray) ∧ TabL T l) ∧ Below W.heap.size W w'
theorem TabL.len {T : Nat → Nat → Bool} {l : List Value} (h : TabL T l) : l.length = 289 := h.1
theorem TabL.one {T : Nat → Nat → Bool} {l : List Value} (h : TabL T l) : ∀ v ∈ l, v.oneCell' = true := fun v hv => (Array.all_eq_true_iff_forall_mem.1 (tab_one h)) v (by simpa using hv)
theorem TabL.info {T : Nat → Nat → Bool} {l : List Value} (h : TabL T l) : (Tryz.prog.info? 44).map (·.size) = some l.length := by rw [info44, h.len]
theorem TabL.infoA {T : Nat → Nat → Bool} {l : List Value} (h : TabL T l) : (Tryz.prog.info? 44).map (·.size) = some l.toArray.size := h.info
theorem tabPost_of {W w' : World} {T : Nat → Nat → Bool} {e : Ending} (h : (∃ cs, e = .returned (.agg cs) ∧ Tab T cs) ∧ Below W.heap.size W w') : TbPost W T e w' := by
  obtain ⟨⟨cs, rfl, hc⟩, hb⟩ := h
  exact ⟨⟨cs.toList, rfl, hc⟩, hb⟩
theorem refEmpty_l (W : World) : Calls Tryz.prog 36 #[] W (TbPost W fun i k => i == k) := (refEmpty_is W).mono fun _ _ h => tabPost_of h
theorem refOr_l {A B : Nat → Nat → Bool} {la lb : List Value} (hA : TabL A la) (hB : TabL B lb) (W : World) : Calls Tryz.prog 38 #[.agg la.toArray, .agg lb.toArray] W (TbPost W fun i k => A i k || B i k) := (refOr_is _ _ A B hA hB W).mono fun _ _ h => tabPost_of h
theorem refThen_l {A B : Nat → Nat → Bool} {la lb : List Value} (hA : TabL A la) (hB : TabL B lb) (n : Nat) (hn : n ≤ 16) (W : World) : Calls Tryz.prog 37 #[.agg la.toArray, .agg lb.toArray, .int .i64 n] W (TbPost W (thenT A B n)) := (refThen_is _ _ A B hA hB n hn W).mono fun _ _ h => tabPost_of h
theorem tabAt_list {w : World} {g : Nat} {T : Nat → Nat → Bool} (h : TabAt w g T) : ∃ l : List Value, TabL T l ∧ w.rangeAt g 0 l ∧ w.there g 0 289 := by
  obtain ⟨cs, h1, h2⟩ := h
  refine ⟨cs.toList, h2, fun j v hj => ?_, fun j hj => ?_⟩
  · rw [cell_of_row w g (0 + j) cs 44 _ h1, Nat.zero_add]
    simpa using hj
  · rw [cell_of_row w g (0 + j) cs 44 _ h1, Nat.zero_add]
    have : j < cs.size := by rw [h2.1]; exact hj
    exact ⟨by simp [this], by simp [World.frozen?, h1]⟩
theorem ok_world {a b : World} (h : (Result.ok () a : Result Unit) = .ok () b) : a = b := by cases h; rfl
theorem tab_cells {w : World} {g : Nat} {T U : Nat → Nat → Bool} {l : List Value} (h : TabAt w g T) (hl : TabL U l) : w.setCells g 0 l = w.setRow g l.toArray := by
  obtain ⟨_, _, _, ht⟩ := tabAt_list h
  have h1 := (tab_store h hl).1
  have h2 := run_storeVar_mid (P := Tryz.prog) w g 0 44 l.toArray (by have := hl.len; simpa [this] using ht) hl.infoA (tab_one hl)
  rw [h1] at h2
  exact (ok_world h2).symm
theorem tab_put {w : World} {g : Nat} {T U : Nat → Nat → Bool} {l : List Value} (h : TabAt w g T) (hl : TabL U l) : (w.setCells g 0 l).heap[g]? = some (.cells l.toArray 44) := by
  rw [tab_cells h hl]
  exact (tab_store h hl).2
/-- Where Met keeps its node, its answer and its table. -/
structure MS (W : World) (x0 x1 x2 x3 x4 x5 : Value) (T : Nat → Nat → Bool) (wr : World) : Prop where
  box : Box wr W.heap.size x0 x1 x2 x3 x4 x5
  res : TabAt wr (W.heap.size + 1) fun _ _ => false
  tab : TabAt wr (W.heap.size + 1 + 1) T
  bel : Below W.heap.size W wr
theorem tabAt_lt {w : World} {g : Nat} {T : Nat → Nat → Bool} (h : TabAt w g T) : g < w.heap.size := by
  obtain ⟨cs, h1, _⟩ := h
  exact heap_lt h1
variable {W wr w' : World} {x0 x1 x2 x3 x4 x5 : Value} {T U : Nat → Nat → Bool}
theorem MS.below (h : MS W x0 x1 x2 x3 x4 x5 T wr) (hb : Below wr.heap.size wr w') : MS W x0 x1 x2 x3 x4 x5 T w' :=
  ⟨box_below h.box hb, tab_below h.res hb (tabAt_lt h.res), tab_below h.tab hb (tabAt_lt h.tab), bthen h.bel hb⟩
theorem MS.drew (h : MS W x0 x1 x2 x3 x4 x5 T wr) : MS W x0 x1 x2 x3 x4 x5 T wr.drew := h.below (Below.drew (brefl _))
theorem MS.set (h : MS W x0 x1 x2 x3 x4 x5 T wr) {l : List Value} (hl : TabL U l) : MS W x0 x1 x2 x3 x4 x5 U (wr.setCells (W.heap.size + 1 + 1) 0 l) := by
  have e := tab_cells h.tab hl
  have hp := tab_put h.tab hl
  refine ⟨?_, ?_, ⟨_, hp, hl⟩, ?_⟩
  · rw [e]
    obtain ⟨h0, h1, h2, h3, h4, h5⟩ := h.box
    have hh : (wr.setRow (W.heap.size + 1 + 1) l.toArray).heap[W.heap.size]? = wr.heap[W.heap.size]? := setRow_other _ _ _ _ (by omega)
    exact ⟨(World.cell?_of_block (a := ⟨W.heap.size, 0, none⟩) hh).trans h0, (World.cell?_of_block (a := ⟨W.heap.size, 1, none⟩) hh).trans h1, (World.cell?_of_block (a := ⟨W.heap.size, 2, none⟩) hh).trans h2, (World.cell?_of_block (a := ⟨W.heap.size, 3, none⟩) hh).trans h3, (World.cell?_of_block (a := ⟨W.heap.size, 4, none⟩) hh).trans h4, (World.cell?_of_block (a := ⟨W.heap.size, 5, none⟩) hh).trans h5⟩
  · rw [e]
    exact tab_row h.res (by omega)
  · rw [e]
    exact row_bel h.bel (by omega) _
theorem MS.ext (h : MS W x0 x1 x2 x3 x4 x5 T wr) (e : ∀ i k, i < 17 → k < 17 → T i k = U i k) : MS W x0 x1 x2 x3 x4 x5 U wr := ⟨h.box, h.res, tabAt_ext h.tab e, h.bel⟩
theorem MS.start (W : World) (x0 x1 x2 x3 x4 x5 : Value) {z : Array Value} (hz : Tab (fun _ _ => false) z) : MS W x0 x1 x2 x3 x4 x5 (fun _ _ => false) (((W.alloc (.cells #[x0, x1, x2, x3, x4, x5] 30)).alloc (.cells z 44)).alloc (.cells z 44)) := by
  have e1 : (W.alloc (.cells #[x0, x1, x2, x3, x4, x5] 30)).heap.size = W.heap.size + 1 := by simp
  have e2 : ((W.alloc (.cells #[x0, x1, x2, x3, x4, x5] 30)).alloc (.cells z 44)).heap.size = W.heap.size + 1 + 1 := by rw [size_alloc, size_alloc]
  have t1 := tab_alloc (tab_new (W.alloc (.cells #[x0, x1, x2, x3, x4, x5] 30)) hz) (.cells z 44)
  have t2 := tab_new ((W.alloc (.cells #[x0, x1, x2, x3, x4, x5] 30)).alloc (.cells z 44)) hz
  rw [e1] at t1
  rw [e2] at t2
  exact ⟨box_below (box_new W x0 x1 x2 x3 x4 x5 30) (balloc (balloc (brefl _) _) _), t1, t2, balloc (balloc (balloc (brefl W) _) _) _⟩
/-- The answer's cells, at the end. -/
theorem MS.done (h : MS W x0 x1 x2 x3 x4 x5 T wr) {l : List Value} (hl : TabL U l) : (wr.setCells (W.heap.size + 1) 0 l).heap[W.heap.size + 1]? = some (.cells l.toArray 44) ∧ Below W.heap.size W (wr.setCells (W.heap.size + 1) 0 l) := by
  refine ⟨tab_put h.res hl, ?_⟩
  rw [tab_cells h.res hl]
  exact row_bel h.bel (by omega) _
/-- What a region that draws may look at: a kid's six cells, the node's kids, room for the table. -/
def SK (g b o : Nat) (v y0 y1 y2 y3 y4 y5 : Value) (w' : World) : Prop := w'.there (g + 1 + 1) 0 289 ∧ w'.cell? ⟨g, 5, none⟩ = some v ∧ w'.cell? ⟨b, o, none⟩ = some y0 ∧ w'.cell? ⟨b, o + 1, none⟩ = some y1 ∧ w'.cell? ⟨b, o + 2, none⟩ = some y2 ∧ w'.cell? ⟨b, o + 3, none⟩ = some y3 ∧ w'.cell? ⟨b, o + 4, none⟩ = some y4 ∧ w'.cell? ⟨b, o + 5, none⟩ = some y5
theorem there_below {w w' : World} {b o n : Nat} (h : w.there b o n) (hb : Below w.heap.size w w') : w'.there b o n := fun j hj => by
  obtain ⟨h1, h2⟩ := h j hj
  obtain ⟨u, hu⟩ := Option.isSome_iff_exists.1 h1
  have hl := block_lt_of_cell hu
  exact ⟨by rw [hb.cell (p := ⟨b, o + j, none⟩) hl]; exact h1, by rw [hb.frozen (p := ⟨b, o + j, none⟩) hl]; exact h2⟩
theorem range_below {w w' : World} {b o : Nat} {l : List Value} (h : w.rangeAt b o l) (hb : Below w.heap.size w w') : w'.rangeAt b o l := fun j v hj => by
  have h1 := h j v hj
  rw [hb.cell (p := ⟨b, o + j, none⟩) (block_lt_of_cell h1)]
  exact h1
variable {g b o : Nat} {v y0 y1 y2 y3 y4 y5 : Value}
theorem SK.below {w w' : World} (h : SK g b o v y0 y1 y2 y3 y4 y5 w) (hb : Below w.heap.size w w') : SK g b o v y0 y1 y2 y3 y4 y5 w' := by
  obtain ⟨t, h0, h1, h2, h3, h4, h5, h6⟩ := h
  exact ⟨there_below t hb, (hb.cell (p := ⟨g, 5, none⟩) (block_lt_of_cell h0)).trans h0, (hb.cell (p := ⟨b, o, none⟩) (block_lt_of_cell h1)).trans h1, (hb.cell (p := ⟨b, o + 1, none⟩) (block_lt_of_cell h2)).trans h2, (hb.cell (p := ⟨b, o + 2, none⟩) (block_lt_of_cell h3)).trans h3, (hb.cell (p := ⟨b, o + 3, none⟩) (block_lt_of_cell h4)).trans h4, (hb.cell (p := ⟨b, o + 4, none⟩) (block_lt_of_cell h5)).trans h5, (hb.cell (p := ⟨b, o + 5, none⟩) (block_lt_of_cell h6)).trans h6⟩
theorem SK.set {w : World} (h : SK g b o v y0 y1 y2 y3 y4 y5 w) (hb : b ≠ g + 1 + 1) (l : List Value) : SK g b o v y0 y1 y2 y3 y4 y5 (w.setCells (g + 1 + 1) 0 l) := by
  obtain ⟨t, h0, h1, h2, h3, h4, h5, h6⟩ := h
  have far : ∀ (p : Addr), p.block ≠ g + 1 + 1 → (w.setCells (g + 1 + 1) 0 l).cell? p = w.cell? p := fun p hp => World.cell?_setCells_out (g + 1 + 1) l 0 w p (fun e _ => absurd e hp)
  exact ⟨World.there_setCells t _ _ _, (far _ (by show g ≠ g + 1 + 1; omega)).trans h0, (far _ hb).trans h1, (far _ hb).trans h2, (far _ hb).trans h3, (far _ hb).trans h4, (far _ hb).trans h5, (far _ hb).trans h6⟩
end Go.Proofs.YtbceoinhmpnjaaaGreatDoor

