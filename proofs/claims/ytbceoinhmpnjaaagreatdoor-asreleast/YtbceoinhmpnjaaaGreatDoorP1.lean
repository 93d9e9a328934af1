import Derived.Test.YtbceoinhmpnjaaaGreatDoorH8
/- What the document says of an expression's text: as functions on bytes. -/
namespace Go.Proofs.YtbceoinhmpnjaaaGreatDoor

/-- A part of a set: from, to, and whether two were told. -/
abbrev Prt : Type := Int × Int × Bool
/-- A node of an expression: numbers, a choice of rows, or what is told by a sign behind a node. -/
inductive Nd where
  | num (dot set : Bool) (rs : List Prt)
  | ch (rows : List (List Nd))
  | st (k : Nat) (n : Nd)

abbrev Bs : Type := List UInt8
def Px.skip (r : Bs) : Bs := r.dropWhile fun c => c == 32
def Px.isAt (r : Bs) (c : UInt8) : Bool := (Px.skip r).head? == some c
def Px.next (r : Bs) : Bs := (Px.skip r).tail
def Px.digits (r : Bs) : Bs := (Px.skip r).takeWhile Ad.dig
def Px.number (r : Bs) : Except Int (Int × Bs) :=
  if Ad.isNum (Px.digits r) = true then (if Is.as (Ad.num (Px.digits r)) = true then .ok (Ad.num (Px.digits r), (Px.skip r).drop (Px.digits r).length) else .error 7) else .error 4
def Px.set : Nat → List Prt → Bs → Except Int (List Prt × Bs)
  | 0, _, _ => .error 4
  | f + 1, acc, r =>
    if acc ≠ [] ∧ Px.isAt r 93 = true then .ok (acc, Px.next r) else
    match Px.number r with
    | .error e => .error e
    | .ok (a, k) =>
      if Px.isAt k 45 = true then
        match Px.number (Px.next k) with
        | .error e => .error e
        | .ok (b, k2) => if b < a then .error 7 else Px.set f (acc ++ [(a, b, true)]) k2
      else Px.set f (acc ++ [(a, a, false)]) k
def Px.starts (c : UInt8) : Bool := c == 46 || c == 91 || c == 40 || Ad.dig c
def Px.atom (ch : Bs → Except Int (List (List Nd) × Bs)) (r : Bs) : Except Int (Nd × Bs) :=
  if Px.isAt r 46 = true then .ok (.num true false [(1, 65535, true)], Px.next r)
  else if Px.isAt r 91 = true then
    match Px.set ((Px.next r).length + 1) [] (Px.next r) with
    | .error e => .error e
    | .ok (rs, k) => .ok (.num false true rs, k)
  else if Px.isAt r 40 = true then
    match ch (Px.next r) with
    | .error e => .error e
    | .ok (c, k) => if Px.isAt k 41 = true then .ok (.ch c, Px.next k) else .error 4
  else
    match Px.number r with
    | .error e => .error e
    | .ok (x, k) => .ok (.num false false [(x, x, false)], k)
def Px.sign (r : Bs) : Nat := if Px.isAt r 42 = true then 3 else if Px.isAt r 43 = true then 4 else if Px.isAt r 63 = true then 5 else 0
def Px.item (ch : Bs → Except Int (List (List Nd) × Bs)) (r : Bs) : Except Int (Nd × Bs) :=
  match Px.atom ch r with
  | .error e => .error e
  | .ok (n, k) => if Px.sign k = 0 then .ok (n, k) else .ok (.st (Px.sign k) n, Px.next k)
def Px.row (ch : Bs → Except Int (List (List Nd) × Bs)) : Nat → List Nd → Bs → Except Int (List Nd × Bs)
  | 0, _, _ => .error 4
  | f + 1, acc, r =>
    match Px.skip r with
    | [] => .ok (acc, [])
    | c :: t =>
      if Px.starts c = true then
        match Px.item ch (c :: t) with
        | .error e => .error e
        | .ok (n, k) => Px.row ch f (acc ++ [n]) k
      else .ok (acc, c :: t)
def Px.rows (ch : Bs → Except Int (List (List Nd) × Bs)) : Nat → List (List Nd) → Bs → Except Int (List (List Nd) × Bs)
  | 0, _, _ => .error 4
  | f + 1, acc, r =>
    match Px.row ch (r.length + 1) [] r with
    | .error e => .error e
    | .ok (row, k) => if Px.isAt k 124 = true then Px.rows ch f (acc ++ [row]) (Px.next k) else .ok (acc ++ [row], k)
/-- A choice, so many deep. -/
def Px.choice : Nat → Bs → Except Int (List (List Nd) × Bs)
  | 0, _ => .error 2
  | d + 1, r => Px.rows (Px.choice d) (r.length + 1) [] r
def Px.parse (s : Bs) : Except Int (Bool × Bool × List (List Nd)) :=
  if 64 < s.length then .error 2 else
  match Px.choice 8 (if Px.isAt s 94 = true then Px.next s else s) with
  | .error e => .error e
  | .ok (c, k) => if Px.skip (if Px.isAt k 36 = true then Px.next k else k) = [] then .ok (Px.isAt s 94, Px.isAt k 36, c) else .error 4

theorem Px.skip_suf (r : Bs) : Px.skip r <:+ r := List.dropWhile_suffix _
theorem Px.skip_idem (r : Bs) : Px.skip (Px.skip r) = Px.skip r := by
  unfold Px.skip
  induction r with
  | nil => rfl
  | cons c t ih =>
    rw [List.dropWhile_cons]
    split
    · exact ih
    · rename_i h
      rw [List.dropWhile_cons, if_neg h]
theorem Px.isAt_some {r : Bs} {c : UInt8} (h : Px.isAt r c = true) : ∃ t, Px.skip r = c :: t ∧ Px.next r = t := by
  unfold Px.isAt at h
  cases hs : Px.skip r with
  | nil => rw [hs] at h; simp at h
  | cons d t =>
    rw [hs] at h
    simp at h
    subst h
    exact ⟨t, rfl, by unfold Px.next; rw [hs]; rfl⟩
theorem Px.next_suf (r : Bs) : Px.next r <:+ r := (List.tail_suffix _).trans (Px.skip_suf r)
theorem Px.next_len {r : Bs} {c : UInt8} (h : Px.isAt r c = true) : (Px.next r).length < r.length := by
  obtain ⟨t, h1, h2⟩ := Px.isAt_some h
  have := (Px.skip_suf r).length_le
  rw [h1, List.length_cons] at this
  rw [h2]
  omega
theorem Px.skip_skip_isAt (r : Bs) (c : UInt8) : Px.isAt (Px.skip r) c = Px.isAt r c := by unfold Px.isAt; rw [Px.skip_idem]
theorem Px.number_suf {r : Bs} {x : Int} {k : Bs} (h : Px.number r = .ok (x, k)) : k <:+ r ∧ k.length < r.length := by
  unfold Px.number at h
  split at h
  · rename_i hn
    split at h
    · simp only [Except.ok.injEq, Prod.mk.injEq] at h
      obtain ⟨_, rfl⟩ := h
      have hs := Px.skip_suf r
      refine ⟨(List.drop_suffix _ _).trans hs, ?_⟩
      have hne : Px.digits r ≠ [] := by intro e; rw [e] at hn; cases hn
      have hpos := List.length_pos_iff.2 hne
      have hle : (Px.digits r).length ≤ (Px.skip r).length := (List.takeWhile_prefix _).length_le
      have := hs.length_le
      rw [List.length_drop]
      omega
    · cases h
  · cases h
theorem Px.set_suf : ∀ (f : Nat) (acc : List Prt) (r : Bs) (rs : List Prt) (k : Bs), Px.set f acc r = .ok (rs, k) → k <:+ r ∧ k.length < r.length
  | 0, _, _, _, _, h => by cases h
  | f + 1, acc, r, rs, k, h => by
    rw [Px.set] at h
    split at h
    · rename_i hc
      simp only [Except.ok.injEq, Prod.mk.injEq] at h
      obtain ⟨_, rfl⟩ := h
      exact ⟨Px.next_suf r, Px.next_len hc.2⟩
    · split at h
      · cases h
      · rename_i a k1 hn
        obtain ⟨s1, l1⟩ := Px.number_suf hn
        split at h
        · rename_i hm
          split at h
          · cases h
          · rename_i b k2 hn2
            obtain ⟨s2, l2⟩ := Px.number_suf hn2
            have s3 := Px.next_suf k1
            have l3 := Px.next_len hm
            split at h
            · cases h
            · obtain ⟨s4, l4⟩ := Px.set_suf f _ k2 rs k h
              exact ⟨s4.trans (s2.trans (s3.trans s1)), by omega⟩
        · obtain ⟨s4, l4⟩ := Px.set_suf f _ k1 rs k h
          exact ⟨s4.trans s1, by omega⟩
/-- A reader that leaves an end of what it was handed. -/
def Px.Suf (ch : Bs → Except Int (List (List Nd) × Bs)) : Prop := ∀ r c k, ch r = .ok (c, k) → k <:+ r
theorem Px.atom_suf {ch : Bs → Except Int (List (List Nd) × Bs)} (hc : Px.Suf ch) {r : Bs} {n : Nd} {k : Bs} (h : Px.atom ch r = .ok (n, k)) : k <:+ r ∧ k.length < r.length := by
  unfold Px.atom at h
  split at h
  · rename_i h1
    simp only [Except.ok.injEq, Prod.mk.injEq] at h
    obtain ⟨_, rfl⟩ := h
    exact ⟨Px.next_suf r, Px.next_len h1⟩
  · split at h
    · rename_i h1
      split at h
      · cases h
      · rename_i rs k1 hs
        simp only [Except.ok.injEq, Prod.mk.injEq] at h
        obtain ⟨_, rfl⟩ := h
        obtain ⟨s1, l1⟩ := Px.set_suf _ _ _ _ _ hs
        have := Px.next_len h1
        exact ⟨s1.trans (Px.next_suf r), by omega⟩
    · split at h
      · rename_i h1
        split at h
        · cases h
        · rename_i c k1 hs
          split at h
          · rename_i h2
            simp only [Except.ok.injEq, Prod.mk.injEq] at h
            obtain ⟨_, rfl⟩ := h
            have s1 := hc _ _ _ hs
            have := Px.next_len h1
            have := Px.next_len h2
            have := s1.length_le
            exact ⟨(Px.next_suf k1).trans (s1.trans (Px.next_suf r)), by omega⟩
          · cases h
      · split at h
        · cases h
        · rename_i x k1 hn
          simp only [Except.ok.injEq, Prod.mk.injEq] at h
          obtain ⟨_, rfl⟩ := h
          exact Px.number_suf hn
theorem Px.item_suf {ch : Bs → Except Int (List (List Nd) × Bs)} (hc : Px.Suf ch) {r : Bs} {n : Nd} {k : Bs} (h : Px.item ch r = .ok (n, k)) : k <:+ r ∧ k.length < r.length := by
  unfold Px.item at h
  split at h
  · cases h
  · rename_i m k1 ha
    obtain ⟨s1, l1⟩ := Px.atom_suf hc ha
    split at h
    · simp only [Except.ok.injEq, Prod.mk.injEq] at h
      obtain ⟨_, rfl⟩ := h
      exact ⟨s1, l1⟩
    · simp only [Except.ok.injEq, Prod.mk.injEq] at h
      obtain ⟨_, rfl⟩ := h
      have := (Px.next_suf k1).length_le
      exact ⟨(Px.next_suf k1).trans s1, by omega⟩
theorem Px.row_suf {ch : Bs → Except Int (List (List Nd) × Bs)} (hc : Px.Suf ch) : ∀ (f : Nat) (acc : List Nd) (r : Bs) (l : List Nd) (k : Bs), Px.row ch f acc r = .ok (l, k) → k <:+ r
  | 0, _, _, _, _, h => by cases h
  | f + 1, acc, r, l, k, h => by
    rw [Px.row] at h
    have hs := Px.skip_suf r
    split at h
    · rename_i he
      simp only [Except.ok.injEq, Prod.mk.injEq] at h
      obtain ⟨_, rfl⟩ := h
      exact List.nil_suffix
    · rename_i c t he
      rw [he] at hs
      split at h
      · split at h
        · cases h
        · rename_i n k1 hi
          exact (Px.row_suf hc f _ k1 l k h).trans ((Px.item_suf hc hi).1.trans hs)
      · simp only [Except.ok.injEq, Prod.mk.injEq] at h
        obtain ⟨_, rfl⟩ := h
        exact hs
theorem Px.rows_suf {ch : Bs → Except Int (List (List Nd) × Bs)} (hc : Px.Suf ch) : ∀ (f : Nat) (acc : List (List Nd)) (r : Bs) (l : List (List Nd)) (k : Bs), Px.rows ch f acc r = .ok (l, k) → k <:+ r
  | 0, _, _, _, _, h => by cases h
  | f + 1, acc, r, l, k, h => by
    rw [Px.rows] at h
    split at h
    · cases h
    · rename_i row k1 hr
      have s1 := Px.row_suf hc _ _ _ _ _ hr
      split at h
      · exact (Px.rows_suf hc f _ _ l k h).trans ((Px.next_suf k1).trans s1)
      · simp only [Except.ok.injEq, Prod.mk.injEq] at h
        obtain ⟨_, rfl⟩ := h
        exact s1
theorem Px.choice_suf : ∀ d, Px.Suf (Px.choice d)
  | 0 => fun r c k h => by cases h
  | d + 1 => fun r c k h => Px.rows_suf (Px.choice_suf d) _ _ r c k h
end Go.Proofs.YtbceoinhmpnjaaaGreatDoor

/- The document's skip, is and number. -/
namespace Go.Proofs.YtbceoinhmpnjaaaGreatDoor
open Go.RowKit Go.Sort

/-- At place n of a text the bytes r are left. -/
def Pos (s : ByteArray) (n : Nat) (r : Bs) : Prop := s.data.toList.drop n = r ∧ n ≤ s.size
theorem Pos.start (s : ByteArray) : Pos s 0 s.data.toList := ⟨rfl, Nat.zero_le _⟩
theorem Pos.len {s : ByteArray} {n : Nat} {r : Bs} (h : Pos s n r) : n + r.length = s.size := by
  have := congrArg List.length h.1
  rw [List.length_drop, Ad.size_list] at this
  have := h.2
  omega
theorem Pos.cons {s : ByteArray} {n : Nat} {c : UInt8} {t : Bs} (h : Pos s n (c :: t)) : ∃ hn : n < s.size, s[n] = c ∧ Pos s (n + 1) t := by
  have hl := h.len
  rw [List.length_cons] at hl
  have hn : n < s.size := by omega
  refine ⟨hn, ?_, ?_, by omega⟩
  · have hd := h.1
    rw [List.drop_eq_getElem_cons (by rw [Ad.size_list]; exact hn)] at hd
    have := (List.cons.inj hd).1
    rw [Ad.get_list s n hn] at this
    exact this
  · have hd := h.1
    rw [List.drop_eq_getElem_cons (by rw [Ad.size_list]; exact hn)] at hd
    exact (List.cons.inj hd).2
theorem Pos.nil {s : ByteArray} {n : Nat} (h : Pos s n []) : n = s.size := by simpa using h.len
theorem Pos.suf {s : ByteArray} {n : Nat} {r k : Bs} (h : Pos s n r) (hk : k <:+ r) : Pos s (s.size - k.length) k := by
  refine ⟨?_, by omega⟩
  obtain ⟨p, rfl⟩ := hk
  have hl := h.len
  rw [List.length_append] at hl
  have hd := h.1
  rw [show s.size - k.length = n + p.length by omega, ← List.drop_drop, hd]
  simp
theorem Pos.uniq {s : ByteArray} {n m : Nat} {r : Bs} (h : Pos s n r) (h2 : Pos s m r) : n = m := by
  have := h.len
  have := h2.len
  omega

theorem skip_is (s : ByteArray) (hs : s.size ≤ 2000) (n : Nat) (r : Bs) (hp : Pos s n r) (m : Nat) (hm : Pos s m (Px.skip r)) (w : World) :
    Calls Tryz.prog 27 #[.string s, .int .i64 n] w fun e w' => e = .returned (.int .i64 m) ∧ w' = w := by
  have HP := hide hp
  have HM := hide hm
  clear hp hm
  go_enter Tryz.func27, Tryz.ntmps27
  go_wp2_with fail
  go_loop [1] (fun t => ∃ (k : Nat) (q : Bs), t = .int .i64 k ∧ k ≤ s.size ∧ Hid (Pos s k q) ∧ Hid (Px.skip q = Px.skip r)) (fun t => s.size - (intOf t).toNat)
  case atStart => exact ⟨n, r, rfl, HP.out.2, HP, hide rfl⟩
  case round =>
    obtain ⟨k, q, rfl, hk, HQ, HE⟩ := hrel
    cases q with
    | nil =>
      obtain rfl : k = s.size := HQ.out.nil
      obtain rfl : m = s.size := by
        have h := HM.out
        rw [← HE.out] at h
        exact h.nil
      have hn : ¬ (s.size : Int) < (s.size : Int) := by omega
      go_wp2_with fail
      go_ret
      exact ⟨rfl, rfl⟩
    | cons c t =>
      obtain ⟨hlt, hc, hnx⟩ := HQ.out.cons
      have hlt' : (k : Int) < (s.size : Int) := by omega
      by_cases h32 : c = 32
      · have hb : ((s[k].toNat : Int) == 32) = true := by rw [hc, h32]; rfl
        have HN := hide hnx
        have HE2 : Hid (Px.skip t = Px.skip r) := by
          show _ = _
          rw [← HE.out, h32]
          rfl
        clear hnx hc h32 HQ HE
        go_wp2_with fail
        exact ⟨⟨k + 1, t, by go_num, by omega, HN, HE2⟩, by simp [intOf] <;> omega⟩
      · have hb : ((s[k].toNat : Int) == 32) = false := by
          rw [hc]
          simp
          intro e
          exact h32 (UInt8.toNat_inj.1 (by show c.toNat = 32; omega))
        obtain rfl : m = k := by
          have h := HM.out
          rw [← HE.out] at h
          have e : Px.skip (c :: t) = c :: t := by
            unfold Px.skip
            rw [List.dropWhile_cons, if_neg (by simpa using h32)]
          rw [e] at h
          exact h.uniq HQ.out
        clear hnx hc h32 HQ HE HM
        go_wp2_with fail
        go_ret
        exact ⟨rfl, rfl⟩
theorem Pos.skip {s : ByteArray} {n : Nat} {r : Bs} (h : Pos s n r) : Pos s (s.size - (Px.skip r).length) (Px.skip r) := h.suf (Px.skip_suf r)

theorem is_is (s : ByteArray) (hs : s.size ≤ 2000) (n : Nat) (r : Bs) (hp : Pos s n r) (c : UInt8) (d : Int) (hd : d = (c.toNat : Int)) (b : Bool) (hb : Px.isAt r c = b) (w : World) :
    Calls Tryz.prog 26 #[.string s, .int .i64 n, .int .u8 d] w fun e w' => e = .returned (.bool b) ∧ w' = w := by
  obtain ⟨m, hm⟩ : ∃ m, Pos s m (Px.skip r) := ⟨_, hp.skip⟩
  have CS := hide (skip_is s hs n r hp m hm w)
  subst hd
  cases hq : Px.skip r with
  | nil =>
    rw [hq] at hm
    obtain rfl : m = s.size := hm.nil
    obtain rfl : false = b := by rw [← hb]; unfold Px.isAt; rw [hq]; rfl
    have hn : ¬ (s.size : Int) < (s.size : Int) := by omega
    clear hp hm hb hq
    go_enter Tryz.func26, Tryz.ntmps26
    go_wp2_with fail
    refine CS.out.mono ?_
    rintro e w1 ⟨rfl, rfl⟩
    go_wp2_with fail
    go_ret
    exact ⟨rfl, rfl⟩
  | cons x t =>
    rw [hq] at hm
    obtain ⟨hlt, hx, _⟩ := hm.cons
    have hlt' : (m : Int) < (s.size : Int) := by omega
    have hbb : (x == c) = b := by rw [← hb]; unfold Px.isAt; rw [hq]; rfl
    have hbe : ((s[m].toNat : Int) == (c.toNat : Int)) = b := by
      rw [← hbb, hx, Bool.eq_iff_iff]
      simp only [beq_iff_eq]
      constructor
      · intro e
        exact UInt8.toNat_inj.1 (by omega)
      · intro e
        rw [e]
    clear hp hm hb hq hx hbb
    go_enter Tryz.func26, Tryz.ntmps26
    go_wp2_with fail
    refine CS.out.mono ?_
    rintro e w1 ⟨rfl, rfl⟩
    go_wp2_with fail
    go_ret
    exact ⟨rfl, rfl⟩
end Go.Proofs.YtbceoinhmpnjaaaGreatDoor

/- The document's number. -/
namespace Go.Proofs.YtbceoinhmpnjaaaGreatDoor
open Go.RowKit Go.Sort

def NumGood (s : ByteArray) (w : World) (R : Except Int (Int × Bs)) (e : Ending) (w' : World) : Prop :=
  match R with
  | .ok (x, k) => ∃ j : Nat, Pos s j k ∧ e = .returned (.tuple #[.int .i64 x, .int .i64 j, .int .i64 0]) ∧ w' = w
  | .error q => ∃ j : Int, e = .returned (.tuple #[.int .i64 0, .int .i64 j, .int .i64 q]) ∧ w' = w

theorem Pos.drop {s : ByteArray} {n : Nat} {r : Bs} (h : Pos s n r) (k : Nat) (hk : k ≤ r.length) : Pos s (n + k) (r.drop k) := by
  have hl := h.len
  refine ⟨?_, by omega⟩
  rw [← List.drop_drop, h.1]
theorem take_dig_at (q : Bs) (k : Nat) (hk : k < (q.takeWhile Ad.dig).length) : ∃ t, q.drop k = (q.takeWhile Ad.dig)[k] :: t ∧ Ad.dig (q.takeWhile Ad.dig)[k] = true := by
  have hp : q.takeWhile Ad.dig <+: q := List.takeWhile_prefix _
  have hl := hp.length_le
  refine ⟨q.drop (k + 1), ?_, ?_⟩
  · rw [List.drop_eq_getElem_cons (by omega)]
    congr 1
    exact (hp.getElem hk).symm
  · have : (q.takeWhile Ad.dig)[k] ∈ q.takeWhile Ad.dig := List.getElem_mem hk
    exact List.all_eq_true.1 List.all_takeWhile _ this
theorem take_dig_end : ∀ (q : Bs), (q.drop (q.takeWhile Ad.dig).length = []) ∨ ∃ c t, q.drop (q.takeWhile Ad.dig).length = c :: t ∧ Ad.dig c = false
  | [] => .inl rfl
  | c :: t => by
    rw [List.takeWhile_cons]
    cases h : Ad.dig c
    · exact .inr ⟨c, t, by simp, h⟩
    · simpa using take_dig_end t
theorem digs_takeWhile (q : Bs) : Ad.digs (q.takeWhile Ad.dig) = true := by
  unfold Ad.digs
  exact List.all_takeWhile
theorem num_take_succ (ds : Bs) (k : Nat) (hk : k < ds.length) : Ad.num (ds.take (k + 1)) = 10 * Ad.num (ds.take k) + ((ds[k].toNat : Int) - 48) := by
  rw [List.take_succ_eq_append_getElem hk, Ad.num_snoc]
theorem digs_take (ds : Bs) (k : Nat) (h : Ad.digs ds = true) : Ad.digs (ds.take k) = true := by
  unfold Ad.digs at *
  rw [List.all_eq_true] at *
  exact fun c hc => h c (List.mem_of_mem_take hc)
theorem clamp_step (a : Int) (d : Int) (_ha : 0 ≤ a) (hd : 0 ≤ d) : Ad.clampM (10 * a + d) = Ad.clampM (10 * Ad.clampM a + d) := by
  unfold Ad.clampM
  split <;> split <;> (try split) <;> omega
theorem clamp_le (a : Int) : Ad.clampM a ≤ 1000000 := by
  unfold Ad.clampM
  split <;> omega
theorem clamp_ge (a : Int) (h : 0 ≤ a) : 0 ≤ Ad.clampM a := by
  unfold Ad.clampM
  split <;> omega

theorem num_bad (s : ByteArray) (w : World) (j q : Int) : NumGood s w (.error q) (.returned (.tuple #[.int .i64 0, .int .i64 j, .int .i64 q])) w := ⟨j, rfl, rfl⟩
theorem num_ok (s : ByteArray) (w : World) (x : Int) (m k : Nat) (r : Bs) (h : Pos s (m + k) r) : NumGood s w (.ok (x, r)) (.returned (.tuple #[.int .i64 x, .int .i64 ((m : Int) + (k : Int)), .int .i64 0])) w :=
  ⟨m + k, h, by simp, rfl⟩
set_option maxHeartbeats 8000000 in
theorem number_is (s : ByteArray) (hs : s.size ≤ 2000) (n : Nat) (r : Bs) (hp : Pos s n r) (w : World) : Calls Tryz.prog 59 #[.string s, .int .i64 n] w (NumGood s w (Px.number r)) := by
  obtain ⟨m, hm⟩ : ∃ m, Pos s m (Px.skip r) := ⟨_, hp.skip⟩
  have CS := hide (skip_is s hs n r hp m hm w)
  obtain ⟨ds, hds⟩ : ∃ ds, Px.digits r = ds := ⟨_, rfl⟩
  obtain ⟨q, hq⟩ : ∃ q, Px.skip r = q := ⟨_, rfl⟩
  have hdq : ds = q.takeWhile Ad.dig := by rw [← hds, ← hq]; rfl
  have hdl : ds.length ≤ q.length := by rw [hdq]; exact (List.takeWhile_prefix _).length_le
  have HR : Hid (Px.number r = if Ad.isNum ds = true then (if Is.as (Ad.num ds) = true then .ok (Ad.num ds, q.drop ds.length) else .error 7) else .error 4) := by
    show _ = _
    rw [← hds, ← hq]
    rfl
  rw [hq] at hm
  have hml := hm.len
  have HM := hide hm
  have HDIG := hide (show Ad.digs ds = true by rw [hdq]; exact digs_takeWhile q)
  have HDQ := hide hdq
  generalize Px.number r = R at *
  clear hp hds hq hm hdq
  go_enter Tryz.func59, Tryz.ntmps59
  go_wp2_with fail
  refine CS.out.mono ?_
  rintro e w1 ⟨rfl, rfl⟩
  go_wp2_with fail
  go_loop [7, 8] (fun t7 t8 => ∃ (k : Nat) (v : Int), t7 = .int .i64 k ∧ t8 = .int .i64 v ∧ k ≤ ds.length ∧ 0 ≤ v ∧ v ≤ 1000000 ∧ Hid (v = Ad.clampM (Ad.num (ds.take k)))) (fun t7 _ => ds.length - (intOf t7).toNat)
  case atStart => exact ⟨0, 0, rfl, rfl, Nat.zero_le _, by decide, by decide, hide rfl⟩
  case round =>
    obtain ⟨k, v, rfl, rfl, hk, hv0, hv1, HV⟩ := hrel
    by_cases hkl : k < ds.length
    · obtain ⟨hlt, hc, hdg⟩ : ∃ hlt : m + k < s.size, s[m + k] = ds[k] ∧ Ad.dig ds[k] = true := by
        have hk2 : k < (q.takeWhile Ad.dig).length := by rw [← HDQ.out]; exact hkl
        obtain ⟨t, h1, h2⟩ := take_dig_at q k hk2
        have h3 := HM.out.drop k (by omega)
        rw [h1] at h3
        obtain ⟨hlt, h4, _⟩ := h3.cons
        have he : (q.takeWhile Ad.dig)[k] = ds[k] := by simp only [HDQ.out]
        rw [he] at h2 h4
        exact ⟨hlt, h4, h2⟩
      have hlt' : (m : Int) + (k : Int) < (s.size : Int) := by omega
      obtain ⟨g0, g1⟩ := Ad.dig_bd _ hdg
      have hg0 : (48 : Int) ≤ (s[m + k].toNat : Int) := by rw [hc]; exact g0
      have hg1 : (s[m + k].toNat : Int) ≤ 57 := by rw [hc]; exact g1
      have HV2 : Hid (Ad.clampM (10 * v + ((s[m + k].toNat : Int) - 48)) = Ad.clampM (Ad.num (ds.take (k + 1)))) := by
        show _ = _
        rw [num_take_succ ds k hkl, HV.out, hc, ← clamp_step _ _ (Ad.num_bd _ (digs_take ds k HDIG.out)).1 (by omega)]
      clear hc hdg g0 g1 HV
      have hcb : 0 ≤ Ad.clampM (10 * v + ((s[m + k].toNat : Int) - 48)) ∧ Ad.clampM (10 * v + ((s[m + k].toNat : Int) - 48)) ≤ 1000000 := ⟨clamp_ge _ (by omega), clamp_le _⟩
      generalize hd : (s[m + k].toNat : Int) = d at *
      by_cases hbig : 1000000 < 10 * v + d - 48
      · have hce : Ad.clampM (10 * v + (d - 48)) = 1000000 := by unfold Ad.clampM; rw [if_pos (by omega)]
        rw [hce] at HV2
        clear hcb hce
        go_wp2_with fail
        exact ⟨⟨k + 1, 1000000, by go_num, rfl, by omega, by decide, by decide, HV2⟩, by simp [intOf] <;> omega⟩
      · have hce : Ad.clampM (10 * v + (d - 48)) = 10 * v + d - 48 := by unfold Ad.clampM; rw [if_neg (by omega)]; omega
        rw [hce] at HV2 hcb
        obtain ⟨hc0, hc1⟩ := hcb
        clear hce
        go_wp2_with fail
        exact ⟨⟨k + 1, 10 * v + d - 48, by go_num, rfl, by omega, hc0, hc1, HV2⟩, by simp [intOf] <;> omega⟩
    · obtain rfl : k = ds.length := by omega
      rw [List.take_length] at HV
      have hend : ¬ ((m : Int) + (ds.length : Int) < (s.size : Int)) ∨ (∃ hlt : m + ds.length < s.size, (m : Int) + (ds.length : Int) < (s.size : Int) ∧ ¬ (48 : Int) ≤ (s[m + ds.length].toNat : Int)) ∨ (∃ hlt : m + ds.length < s.size, (m : Int) + (ds.length : Int) < (s.size : Int) ∧ (48 : Int) ≤ (s[m + ds.length].toNat : Int) ∧ ¬ (s[m + ds.length].toNat : Int) ≤ 57) := by
        have h3 := HM.out.drop ds.length hdl
        rcases take_dig_end q with h | ⟨c, t, h, hd⟩
        · rw [← HDQ.out] at h
          rw [h] at h3
          have := h3.nil
          exact .inl (by omega)
        · rw [← HDQ.out] at h
          rw [h] at h3
          obtain ⟨hlt, hc, _⟩ := h3.cons
          right
          have hd' : ¬ (48 ≤ c.toNat ∧ c.toNat ≤ 57) := by
            intro hh
            have : Ad.dig c = true := by unfold Ad.dig; simp [hh]
            rw [this] at hd
            cases hd
          by_cases h48 : (48 : Int) ≤ (s[m + ds.length].toNat : Int)
          · exact .inr ⟨hlt, by omega, h48, by rw [hc] at h48 ⊢; omega⟩
          · exact .inl ⟨hlt, by omega, h48⟩
      have HPE := hide (HM.out.drop ds.length hdl)
      have HZ : Hid (0 < ds.length → ∃ hm0 : m < s.size, s[m] = (ds.head?).getD 0) := by
        intro hpos
        have hk2 : 0 < (q.takeWhile Ad.dig).length := by rw [← HDQ.out]; exact hpos
        obtain ⟨t, h1, _⟩ := take_dig_at q 0 hk2
        have h3 := HM.out
        rw [List.drop_zero] at h1
        rw [h1] at h3
        obtain ⟨hlt, h4, _⟩ := h3.cons
        refine ⟨hlt, ?_⟩
        rw [h4]
        simp only [← HDQ.out]
        cases ds with
        | nil => simp at hpos
        | cons c t => rfl
      have HN : Hid (Ad.isNum ds = (!ds.isEmpty && !Ad.zeroAhead ds)) := by
        show _ = _
        unfold Ad.isNum
        rw [HDIG.out, Bool.and_true]
      have HVD := hide (Is.as_clamp (Ad.num ds))
      rw [← HV.out] at HVD
      obtain ⟨L, hL⟩ : ∃ L, ds.length = L := ⟨_, rfl⟩
      rw [hL] at hend HPE hdl ⊢
      have HL := hide hL
      clear HM HDQ HDIG hkl hk hL
      by_cases hk0 : L = 0
      · have hkb : ((L : Int) == 0) = true := by simp [hk0]
        obtain rfl : R = .error 4 := by
          have h := HR.out
          rw [HN.out] at h
          have : ds = [] := List.length_eq_zero_iff.1 (HL.out.trans hk0)
          rw [this] at h
          exact h
        clear HR HPE HV HZ HN HL hk0 HVD
        rcases hend with h | ⟨_, h1, h2⟩ | ⟨_, h1, h2, h3⟩
        all_goals
          go_wp2_with fail
          exact bodyPost_ret (v := .tuple #[.int .i64 0, .int .i64 m, .int .i64 4]) (by simp [results, Tryz.results59, go_sem]) rfl (num_bad _ _ _ _)
      · have hkb : ((L : Int) == 0) = false := by simp; omega
        obtain ⟨hm0, hc0⟩ := HZ.out (by rw [HL.out]; omega)
        have hm0' : (m : Int) < (s.size : Int) := by omega
        have hne : ds.isEmpty = false := by
          cases hd : ds with
          | nil => rw [hd] at HL; exact absurd HL.out.symm hk0
          | cons c t => rfl
        by_cases hz : (s[m].toNat : Int) = 48 ∧ 1 < L
        · have hz1 : ((s[m].toNat : Int) == 48) = true := by simp [hz.1]
          have hz2 : (1 : Int) < (L : Int) := by omega
          obtain rfl : R = .error 4 := by
            have h := HR.out
            have h48 : (ds.head?).getD 0 = 48 := by rw [← hc0]; exact UInt8.toNat_inj.1 (by show s[m].toNat = 48; omega)
            have hza : Ad.zeroAhead ds = true := by
              unfold Ad.zeroAhead
              rw [HL.out, decide_eq_true hz.2]
              cases hd : ds with
              | nil => rw [hd] at hne; cases hne
              | cons c t => rw [hd] at h48; simp at h48; simp [h48]
            rw [HN.out, hza, hne] at h
            exact h
          clear HR HPE HV HZ HN HL HVD hc0 hz hne hk0
          rcases hend with h | ⟨_, h1, h2⟩ | ⟨_, h1, h2, h3⟩
          all_goals
            go_wp2_with fail
            exact bodyPost_ret (v := .tuple #[.int .i64 0, .int .i64 m, .int .i64 4]) (by simp [results, Tryz.results59, go_sem]) rfl (num_bad _ _ _ _)
        · have hza : Ad.zeroAhead ds = false := by
            unfold Ad.zeroAhead
            rw [HL.out]
            by_cases h1 : 1 < L
            · have h48 : ¬ (ds.head?).getD 0 = 48 := by
                intro e
                rw [← hc0] at e
                exact hz ⟨by rw [e]; rfl, h1⟩
              rw [decide_eq_true h1]
              cases hd : ds with
              | nil => rfl
              | cons c t => rw [hd] at h48; simp at h48; simp [h48]
            · rw [decide_eq_false h1]; rfl
          have HR2 : Hid (R = if Is.as (Ad.num ds) = true then .ok (Ad.num ds, q.drop ds.length) else .error 7) := by
            have h := HR.out
            rw [HN.out, hza, hne] at h
            exact h
          have hzz : (((s[m].toNat : Int) == 48) = false ∧ (1 : Int) < (L : Int)) ∨ ¬ (1 : Int) < (L : Int) := by
            by_cases h1 : (1 : Int) < (L : Int)
            · refine .inl ⟨?_, h1⟩
              have : ¬ (s[m].toNat : Int) = 48 := fun h => hz ⟨h, by omega⟩
              simpa using this
            · exact .inr h1
          rw [HL.out] at HR2
          clear HR HV HZ HN HL hc0 hz hne hk0 hza
          cases has : Is.as v
          · have CA := hide (fun W => refAS_is v false has W)
            obtain rfl : R = .error 7 := by
              have h := HR2.out
              rw [← HVD.out.1, has] at h
              exact h
            clear HR2 HVD has HPE
            rcases hzz with ⟨hzz, hz1⟩ | hzz
            all_goals
              rcases hend with h | ⟨_, h1, h2⟩ | ⟨_, h1, h2, h3⟩
              all_goals
                go_wp2_with fail
                refine (CA.out _).mono ?_
                rintro e w2 ⟨rfl, rfl⟩
                go_wp2_with fail
                exact bodyPost_ret (v := .tuple #[.int .i64 0, .int .i64 m, .int .i64 7]) (by simp [results, Tryz.results59, go_sem]) rfl (num_bad _ _ _ _)
          · have CA := hide (fun W => refAS_is v true has W)
            have hvn : v = Ad.num ds := HVD.out.2 (by rw [← HVD.out.1]; exact has)
            obtain rfl : R = .ok (v, q.drop L) := by
              have h := HR2.out
              rw [← HVD.out.1, has, ← hvn] at h
              exact h
            clear HR2 HVD has hvn
            rcases hzz with ⟨hzz, hz1⟩ | hzz
            all_goals
              rcases hend with h | ⟨_, h1, h2⟩ | ⟨_, h1, h2, h3⟩
              all_goals
                go_wp2_with fail
                refine (CA.out _).mono ?_
                rintro e w2 ⟨rfl, rfl⟩
                go_wp2_with fail
                exact bodyPost_ret (v := .tuple #[.int .i64 v, .int .i64 ((m : Int) + (L : Int)), .int .i64 0]) (by simp [results, Tryz.results59, go_sem]) rfl (num_ok s _ v m L _ HPE.out)
end Go.Proofs.YtbceoinhmpnjaaaGreatDoor

