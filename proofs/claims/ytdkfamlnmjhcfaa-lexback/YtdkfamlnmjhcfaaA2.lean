/- Mathematics of scans: tokens that are good; what is joined is scanned again; a text behind a text. -/
import Derived.Test.YtdkfamlnmjhcfaaB5
namespace Go.Proofs.Ytdkfamlnmjhcfaa
open Go.RowKit Go.Sort

/-- A token that a scan may tell. -/
def Good (k : Nat) (s : List UInt8) : Prop := (k = 0 ∧ s ≠ [] ∧ (∀ c ∈ s, ltr c = true) ∧ s.length ≤ 32) ∨ (k = 1 ∧ (∀ c ∈ s, txc c = true) ∧ s.length ≤ 64) ∨ (k = 2 ∧ ∃ c, s = [c] ∧ mrk c = true)
/-- A token as it stands in a text. -/
def wr (k : Nat) (s : List UInt8) : List UInt8 := if k = 1 then [34] ++ s ++ [34] else s
theorem take_takeWhile (p : UInt8 → Bool) (l : List UInt8) : l.take (l.takeWhile p).length = l.takeWhile p := (List.prefix_iff_eq_take.1 (List.takeWhile_prefix p)).symm
theorem takeWhile_stop {p : UInt8 → Bool} {c : UInt8} (hc : p c = false) (l r : List UInt8) : (l ++ c :: r).takeWhile p = l.takeWhile p := by
  induction l with
  | nil => rw [List.nil_append, List.takeWhile_cons_of_neg (by rw [hc]; decide)]; rfl
  | cons a l ih =>
    rw [List.cons_append, List.takeWhile_cons, List.takeWhile_cons, ih]
theorem takeWhile_all {p : UInt8 → Bool} {l : List UInt8} (h : ∀ c ∈ l, p c = true) : l.takeWhile p = l := by
  induction l with
  | nil => rfl
  | cons a l ih => rw [List.takeWhile_cons_of_pos (h a (List.mem_cons_self ..)), ih (fun c hc => h c (List.mem_cons_of_mem _ hc))]
theorem ltr_facts {c : UInt8} (h : ltr c = true) : blk c = false ∧ ¬ c.toNat = 35 ∧ mrk c = false ∧ ¬ c.toNat = 34 := by
  unfold ltr at h
  unfold blk mrk
  simp only [Bool.or_eq_true, decide_eq_true_eq, Bool.or_eq_false_iff, decide_eq_false_iff_not] at *
  omega
theorem mrk_facts {c : UInt8} (h : mrk c = true) : blk c = false ∧ ¬ c.toNat = 35 := by
  unfold mrk at h
  unfold blk
  simp only [Bool.or_eq_true, decide_eq_true_eq, Bool.or_eq_false_iff, decide_eq_false_iff_not] at *
  omega
theorem txc_inq {c : UInt8} (h : txc c = true) : inq c = true := by
  unfold txc at h
  unfold inq
  simp only [Bool.and_eq_true, decide_eq_true_eq] at *
  omega
/-- What a step tells. -/
theorem stp_good {r : List UInt8} {f f' : Nat} {n k : Nat} {s : List UInt8} (h : stp r f = .go n f' (some (k, s))) : Good k s ∧ r.take n = wr k s ∧ n = (wr k s).length := by
  cases r with
  | nil => simp [stp] at h
  | cons c r =>
    simp only [stp, bgn] at h
    split at h
    · simp at h
    · split at h
      · simp at h
      · split at h
        · rename_i hm
          simp at h
          obtain ⟨rfl, _, rfl, rfl⟩ := h
          exact ⟨.inr (.inr ⟨rfl, c, rfl, hm⟩), rfl, rfl⟩
        · split at h
          · rename_i h34
            obtain ⟨s', q, rfl, ht, h64, rfl, _, hk, _⟩ := quo_go h
            cases hk
            have ec : c = 34 := UInt8.toNat_inj.1 h34.1
            refine ⟨.inr (.inl ⟨rfl, ht, h64⟩), ?_, by simp [wr]⟩
            rw [List.take_succ_cons, ec, List.take_append]
            simp [wr]
            exact List.take_of_length_le (Nat.le_succ _)
          · split at h
            · rename_i hl
              unfold wrd at h
              split at h
              · cases h
              · rename_i h32
                simp at h
                obtain ⟨rfl, _, rfl, rfl⟩ := h
                refine ⟨.inl ⟨rfl, ?_, mem_takeWhile, by omega⟩, take_takeWhile _ _, rfl⟩
                rw [List.takeWhile_cons_of_pos hl.1]
                simp
            · cases h
/-- A good token is told. -/
theorem good_stp {k : Nat} {s q : List UInt8} (h : Good k s) (hq : k = 0 → ∀ c r, q = c :: r → ltr c = false) : stp (wr k s ++ q) 2 = .go (wr k s).length k (some (k, s)) := by
  rcases h with ⟨rfl, hs, hl, hz⟩ | ⟨rfl, hl, hz⟩ | ⟨rfl, c, rfl, hm⟩
  · cases s with
    | nil => exact absurd rfl hs
    | cons c s =>
      have hlc := hl c (List.mem_cons_self ..)
      obtain ⟨h1, h2, h3, h4⟩ := ltr_facts hlc
      have ht : (c :: (s ++ q)).takeWhile ltr = c :: s := by
        rw [← List.cons_append]
        cases q with
        | nil => rw [List.append_nil]; exact takeWhile_all hl
        | cons d q => rw [takeWhile_stop (hq rfl d q rfl)]; exact takeWhile_all hl
      show stp (c :: (s ++ q)) 2 = _
      simp only [stp, bgn]
      rw [if_neg (by rw [h1]; decide), if_neg h2, if_neg (by rw [h3]; decide), if_neg (fun h => h4 h.1), if_pos ⟨hlc, by decide⟩, wrd, ht, if_neg (by omega)]
      rfl
  · have ht : (s ++ [34] ++ q).takeWhile inq = s := by
      rw [List.append_assoc, List.singleton_append, takeWhile_stop (by decide)]
      exact takeWhile_all (fun c hc => txc_inq (hl c hc))
    show stp (34 :: (s ++ [34] ++ q)) 2 = _
    simp only [stp, bgn]
    rw [if_neg (by decide), if_neg (by decide), if_neg (by decide), if_pos (by decide), quo, ht, List.append_assoc, List.drop_left]
    simp only [List.singleton_append]
    rw [if_neg (by decide), if_neg (by omega), takeWhile_all hl, if_neg (by omega)]
    simp [wr]
  · obtain ⟨h1, h2⟩ := mrk_facts hm
    show stp (c :: q) 2 = _
    simp only [stp, bgn]
    rw [if_neg (by rw [h1]; decide), if_neg h2, if_pos hm]
    rfl
/-- The tokens of a scan are good. -/
theorem Sc.good {b : Nat} {r : List UInt8} {f : Nat} {ts : List Tok} {o : Option (Nat × Int)} (h : Sc b r f ts o) : ∀ t ∈ ts, Good t.kind t.s := by
  induction h with
  | nil => intro t ht; simp at ht
  | bad => intro t ht; simp at ht
  | @more b r f f' n t ts o hr hs _ ih =>
    intro t' ht'
    rcases List.mem_append.1 ht' with h | h
    · cases t with
      | none => simp [tokOf] at h
      | some x =>
        obtain ⟨k, s⟩ := x
        simp [tokOf] at h
        subst h
        exact (stp_good hs).1
    · exact ih t' h
theorem Sc.count {b : Nat} {r : List UInt8} {f : Nat} {ts : List Tok} {o : Option (Nat × Int)} (h : Sc b r f ts o) : ts.length ≤ r.length := by
  induction h with
  | nil => simp
  | bad => simp
  | @more b r f f' n t ts o hr hs _ ih =>
    have := stp_pos hr hs
    rw [List.length_drop] at ih
    rw [List.length_append]
    have : (tokOf b t).length ≤ 1 := by cases t <;> simp [tokOf]
    omega
/-- Kinds and texts, without places. -/
def Tok.bare (t : Tok) : Nat × List UInt8 := (t.kind, t.s)
def jn : List (Nat × List UInt8) → List UInt8
  | [] => []
  | (k, s) :: r => wr k s ++ (if k = 2 then [10] else if r.isEmpty then [] else [32]) ++ jn r
theorem join_jn (l : List UInt8) (ts : List Tok) : join (ts.map (Tok.tv l)) = jn (ts.map Tok.bare) := by
  induction ts with
  | nil => rfl
  | cons t ts ih =>
    rw [List.map_cons, List.map_cons, join, ih]
    show _ = wr t.kind t.s ++ _ ++ _
    congr 1
    have e2 : ((t.kind : Int) = 2) ↔ t.kind = 2 := by omega
    have e1 : ((t.kind : Int) = 1) ↔ t.kind = 1 := by omega
    unfold Tv.piece Tv.own Tok.tv wr
    simp only [e1, e2, List.isEmpty_map]
    by_cases h2 : t.kind = 2
    · simp [h2, lst]
    · by_cases h1 : t.kind = 1
      · cases ts <;> simp [h1, lst]
      · cases ts <;> simp [h1, h2, lst]
/-- What is joined is scanned as the same tokens. -/
theorem jn_scan : ∀ (l : List (Nat × List UInt8)), (∀ t ∈ l, Good t.1 t.2) → ∀ b, ∃ ts, Sc b (jn l) 2 ts none ∧ ts.map Tok.bare = l
  | [], _, b => ⟨[], .nil _ _, rfl⟩
  | (k, s) :: r, hg, b => by
    have hgood := hg (k, s) (List.mem_cons_self ..)
    have hr : ∀ t ∈ r, Good t.1 t.2 := fun t ht => hg t (List.mem_cons_of_mem _ ht)
    have hw : wr k s ≠ [] := by
      rcases hgood with ⟨h, hs, _⟩ | ⟨h, _⟩ | ⟨h, c, hs, _⟩
      · simp only at h hs; subst h; simpa [wr] using hs
      · simp only at h; subst h; simp [wr]
      · simp only at h hs; subst h; rw [hs]; simp [wr]
    by_cases hlast : k ≠ 2 ∧ r = []
    · obtain ⟨h2, rfl⟩ := hlast
      refine ⟨[⟨k, s, b⟩], ?_, rfl⟩
      have e : jn [(k, s)] = wr k s ++ [] := by simp [jn, h2]
      rw [e]
      have h := good_stp (q := []) hgood (by intro _ c r h; cases h)
      have hm := Sc.more (b := b) (ts := []) (o := none) (by simpa using hw) h (by rw [List.append_nil, List.drop_length]; exact .nil _ _)
      simpa [tokOf] using hm
    · obtain ⟨c, hc, e⟩ : ∃ c : UInt8, blk c = true ∧ jn ((k, s) :: r) = wr k s ++ c :: jn r := by
        by_cases h2 : k = 2
        · exact ⟨10, by decide, by simp [jn, h2]⟩
        · refine ⟨32, by decide, ?_⟩
          cases r with
          | nil => exact absurd ⟨h2, rfl⟩ hlast
          | cons a r => simp [jn, h2]
      obtain ⟨ts, h1, h2⟩ := jn_scan r hr (b + (wr k s).length + 1)
      refine ⟨⟨k, s, b⟩ :: ts, ?_, by rw [List.map_cons, h2]; rfl⟩
      rw [e]
      have hcl : ltr c = false := by
        cases hl : ltr c
        · rfl
        · rw [(ltr_facts hl).1] at hc; cases hc
      have hs := good_stp (q := c :: jn r) hgood (by intro _ c' r' h; cases h; exact hcl)
      refine Sc.more (b := b) (t := some (k, s)) (by simp) hs ?_
      rw [List.drop_left]
      have hb : ∀ f, stp (c :: jn r) f = .go 1 2 none := fun f => by simp only [stp]; rw [if_pos hc]
      exact Sc.more (t := none) (by simp) (hb _) h1
end Go.Proofs.Ytdkfamlnmjhcfaa
