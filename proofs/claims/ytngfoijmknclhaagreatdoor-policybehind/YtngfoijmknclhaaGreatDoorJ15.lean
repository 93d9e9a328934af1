/- The reader: marks, faults, digits. -/
import Derived.Test.YtngfoijmknclhaaGreatDoorJ14
namespace Go.Proofs.YtngfoijmknclhaaGreatDoor.Ar
open Go.RowKit Go.Sort
theorem tx_size (l : Bs) : (tx l).size = l.length := by simp [ByteArray.size]
theorem tx_nil : tx [] = ⟨#[]⟩ := rfl
theorem tx_isEmpty (c : UInt8) (t : Bs) : (tx (c :: t)).toList.isEmpty = false := by rw [Ad.empty_iff]; exact decide_eq_false (by rw [tx_size]; simp)
theorem tx_get (c : UInt8) (t : Bs) (h : 0 < (tx (c :: t)).size) : (tx (c :: t))[0] = c := by
  have := Ad.get_list (tx (c :: t)) 0 h
  rw [← this]
  rfl
theorem tx_extract (l : Bs) (i j : Nat) : (tx l).extract i j = tx ((l.take j).drop i) := by
  apply ByteArray.ext
  rw [ByteArray.data_extract]
  apply Array.toList_inj.1
  simp only [tx, Array.toList_extract, List.extract]
  rw [List.take_drop]
  by_cases h : i ≤ j
  · rw [Nat.add_sub_cancel' h]
  · rw [List.drop_eq_nil_iff.2, List.drop_eq_nil_iff.2]
    · simp only [List.length_take]; omega
    · simp only [List.length_take]; omega
theorem tx_tail (c : UInt8) (t : Bs) : (tx (c :: t)).extract 1 (tx (c :: t)).size = tx t := by
  rw [tx_extract, tx_size, List.take_length]
  rfl

set_option maxHeartbeats 4000000 in
theorem take_is (K : Trims) {W : World} {b : Nat} {r : Bs} {d : Nat} {q : Int} (h : Rd W b r d q) (c : UInt8) (m : Int) (hm : m = (c.toNat : Int)) (t : Bool) (ht : Px.isAt r c = t) (r2 : Bs) (h2 : r2 = if t = true then Px.next r else Px.skip r) :
    Calls Tryz.prog 104 #[.pointer (some ⟨b, 0, none⟩), .int .u8 m] W fun e w' => e = .returned (.bool t) ∧ But b W w' ∧ Rd w' b r2 d q := by
  have CS := hide (rskip_is K h)
  subst hm
  clear h
  cases hq : Px.skip r with
  | nil =>
    obtain rfl : false = t := by rw [← ht]; unfold Px.isAt; rw [hq]; rfl
    obtain rfl : r2 = [] := by rw [h2, hq]; simp
    rw [hq] at CS
    clear ht h2 hq
    go_enter Tryz.func104, Tryz.ntmps104
    go_wp2_with fail
    refine CS.out.mono ?_
    rintro e w1 ⟨rfl, hB, hR⟩
    have B1 := hide hB
    have R1 := hide hR
    obtain ⟨c0, c1, c2, fr⟩ := hR
    clear hB fr CS
    rw [tx_nil] at c0
    go_wp2_with fail
    go_ret
    exact ⟨rfl, B1.out, R1.out⟩
  | cons x u =>
    have hbb : (x == c) = t := by rw [← ht]; unfold Px.isAt; rw [hq]; rfl
    have hnx : Px.next r = u := by unfold Px.next; rw [hq]; rfl
    have hz : 0 < (tx (x :: u)).size := by rw [tx_size]; simp
    have he := tx_isEmpty x u
    have hx := tx_get x u hz
    have HT := hide (tx_tail x u)
    rw [hq] at CS h2
    rw [hnx] at h2
    have hz1 : (1 : Int) ≤ ((tx (x :: u)).size : Int) := by omega
    have hbe : (((tx (x :: u))[0].toNat : Int) == (c.toNat : Int)) = t := by
      rw [← hbb, hx, Bool.eq_iff_iff]
      simp only [beq_iff_eq]
      constructor
      · intro e
        exact UInt8.toNat_inj.1 (by omega)
      · intro e
        rw [e]
    have hbn : (((tx (x :: u))[0].toNat : Int) != (c.toNat : Int)) = !t := by rw [← hbe]; rfl
    clear ht hbb hnx hx hq hbe
    cases t with
    | false =>
      obtain rfl : r2 = x :: u := by rw [h2]; simp
      simp only [Bool.not_false] at hbn
      clear h2 HT
      go_enter Tryz.func104, Tryz.ntmps104
      go_wp2_with fail
      refine CS.out.mono ?_
      rintro e w1 ⟨rfl, hB, hR⟩
      have B1 := hide hB
      have R1 := hide hR
      obtain ⟨c0, c1, c2, fr⟩ := hR
      clear hB fr CS
      generalize tx (x :: u) = s at *
      go_wp2_with fail
      go_ret
      exact ⟨rfl, B1.out, R1.out⟩
    | true =>
      obtain rfl : r2 = u := by rw [h2]; simp
      simp only [Bool.not_true] at hbn
      clear h2
      go_enter Tryz.func104, Tryz.ntmps104
      go_wp2_with fail
      refine CS.out.mono ?_
      rintro e w1 ⟨rfl, hB, hR⟩
      have B1 := hide hB
      have R1 := hide hR
      obtain ⟨c0, c1, c2, fr⟩ := hR
      have f0 := fr.2 0
      clear hB fr CS
      generalize tx (x :: r2) = s at *
      go_wp2_with fail
      go_ret
      rw [HT.out]
      exact ⟨rfl, B1.out.setCell (.inl rfl) _, R1.out.rest _⟩

theorem rfail_is {W : World} {b : Nat} {r : Bs} {d : Nat} {q : Int} (h : Rd W b r d q) (v q' : Int) (hq : q' = if q = 0 then v else q) :
    Calls Tryz.prog 141 #[.pointer (some ⟨b, 0, none⟩), .int .i64 v] W fun e w' => e = .returned (.tuple #[]) ∧ But b W w' ∧ Rd w' b [] d q' := by
  have HR := hide h
  obtain ⟨c0, c1, c2, fr⟩ := h
  have f0 := fr.2 0
  have f2 := fr.2 2
  clear fr
  by_cases h0 : q = 0
  · subst h0
    obtain rfl : q' = v := by simpa using hq
    clear hq
    go_enter Tryz.func141, Tryz.ntmps141
    go_wp2_with fail
    exact bodyPost_end (results_none Tryz.results141 _ _ _) rfl ⟨rfl, ((But.refl b W).setCell (.inl rfl) _).setCell (.inl rfl) _, (HR.out.fault _).rest []⟩
  · obtain rfl : q' = q := by rw [hq, if_neg h0]
    have h0' : (q' == 0) = false := by simpa using h0
    clear hq h0
    go_enter Tryz.func141, Tryz.ntmps141
    go_wp2_with fail
    exact bodyPost_end (results_none Tryz.results141 _ _ _) rfl ⟨rfl, (But.refl b W).setCell (.inl rfl) _, HR.out.rest []⟩

theorem rend_is (K : Trims) {W : World} {b : Nat} {r : Bs} {d : Nat} {q : Int} (h : Rd W b r d q) (q' : Int) (hq : q' = if Px.skip r = [] then q else if q = 0 then 4 else q) :
    Calls Tryz.prog 106 #[.pointer (some ⟨b, 0, none⟩)] W fun e w' => e = .returned (.tuple #[]) ∧ But b W w' ∧ Rd w' b [] d q' := by
  have CS := hide (rskip_is K h)
  clear h
  cases hk : Px.skip r with
  | nil =>
    rw [hk] at CS hq
    obtain rfl : q' = q := by simpa using hq
    clear hq hk
    go_enter Tryz.func106, Tryz.ntmps106
    go_wp2_with fail
    refine CS.out.mono ?_
    rintro e w1 ⟨rfl, hB, hR⟩
    have B1 := hide hB
    have R1 := hide hR
    obtain ⟨c0, c1, c2, fr⟩ := hR
    clear hB fr CS
    rw [tx_nil] at c0
    go_wp2_with fail
    exact bodyPost_end (results_none Tryz.results106 _ _ _) rfl ⟨rfl, B1.out, R1.out⟩
  | cons x u =>
    rw [hk] at CS hq
    have HQ : Hid (q' = if q = 0 then 4 else q) := by show _ = _; rw [hq, if_neg (by simp)]
    have he := tx_isEmpty x u
    clear hq hk
    go_enter Tryz.func106, Tryz.ntmps106
    go_wp2_with fail
    refine CS.out.mono ?_
    rintro e w1 ⟨rfl, hB, hR⟩
    have B1 := hide hB
    have CF := hide (rfail_is hR 4 q' HQ.out)
    obtain ⟨c0, c1, c2, fr⟩ := hR
    clear hB fr CS HQ
    generalize tx (x :: u) = s at *
    go_wp2_with fail
    refine CF.out.mono ?_
    rintro e w2 ⟨rfl, hB, hR⟩
    have B2 := hide (B1.out.trans hB)
    have R2 := hide hR
    clear hB hR
    go_wp2_with fail
    exact bodyPost_end (results_none Tryz.results106 _ _ _) rfl ⟨rfl, B2.out, R2.out⟩
end Go.Proofs.YtngfoijmknclhaaGreatDoor.Ar
namespace Go.Proofs.YtngfoijmknclhaaGreatDoor.Ar
open Go.RowKit Go.Sort
theorem takeWhile_len (p : UInt8 → Bool) (l : Bs) : (l.takeWhile p).length + (l.dropWhile p).length = l.length := by
  rw [← List.length_append, List.takeWhile_append_dropWhile]
theorem take_while_take (p : UInt8 → Bool) (l : Bs) : l.take (l.length - (l.dropWhile p).length) = l.takeWhile p := by
  have h := takeWhile_len p l
  have e : l.length - (l.dropWhile p).length = (l.takeWhile p).length := by omega
  rw [e]
  exact (List.prefix_iff_eq_take.1 (List.takeWhile_prefix p)).symm
theorem drop_while_drop (p : UInt8 → Bool) (l : Bs) : l.drop (l.takeWhile p).length = l.dropWhile p := by
  have h := List.drop_left (l₁ := l.takeWhile p) (l₂ := l.dropWhile p)
  rwa [List.takeWhile_append_dropWhile] at h

set_option maxHeartbeats 4000000 in
theorem digits_is (K : Trims) {W : World} {b : Nat} {r : Bs} {d : Nat} {q : Int} (h : Rd W b r d q) (hl : r.length ≤ 2000) :
    Calls Tryz.prog 188 #[.pointer (some ⟨b, 0, none⟩)] W fun e w' => e = .returned (.string (tx (Px.digits r))) ∧ But b W w' ∧ Rd w' b ((Px.skip r).dropWhile Ad.dig) d q := by
  have CS := hide (rskip_is K h)
  have hl2 : (Px.skip r).length ≤ 2000 := Nat.le_trans (Px.skip_suf r).length_le hl
  have HE : Hid ((tx (Px.skip r)).extract 0 ((tx (Px.skip r)).size - (tx ((Px.skip r).dropWhile Ad.dig)).size) = tx (Px.digits r)) := by
    show _ = _
    rw [tx_extract, tx_size, tx_size, take_while_take]
    rfl
  have h1 := takeWhile_len Ad.dig (Px.skip r)
  have CD := hide (K.digs (Px.skip r))
  clear h
  have z1 : (tx (Px.skip r)).size ≤ 2000 := by rw [tx_size]; exact hl2
  have z2 : (tx ((Px.skip r).dropWhile Ad.dig)).size ≤ (tx (Px.skip r)).size := by rw [tx_size, tx_size]; omega
  generalize Px.digits r = ds at *
  generalize Px.skip r = r2 at *
  clear hl hl2 h1
  go_enter Tryz.func188, Tryz.ntmps188
  go_wp2_with fail
  refine CS.out.mono ?_
  rintro e w1 ⟨rfl, hB, hR⟩
  have B1 := hide hB
  have R1 := hide hR
  have CD1 := hide (CD.out w1)
  obtain ⟨c0, c1, c2, fr⟩ := hR
  clear hB fr CS CD
  generalize hs : tx r2 = s at c0 CD1 HE z1 z2
  clear hs
  go_wp2_with fail
  refine CD1.out.mono ?_
  rintro e w2 ⟨rfl, hb⟩
  have B2 := hide (B1.out.trans (But.of hb))
  have R2 := hide (R1.out.below hb)
  have e0 := (hb.cell (p := ⟨b, 0, none⟩) (block_lt_of_cell c0)).trans c0
  have f0 := R2.out.2.2.2.2 0
  clear hb CD1 c0 c1 c2 B1 R1
  generalize hu : tx (List.dropWhile Ad.dig r2) = u at *
  have z3 : (u.size : Int) ≤ (s.size : Int) := by omega
  have z4 : (s.size : Int) ≤ 2000 := by omega
  have HU := hide hu
  clear hu
  go_wp2_with fail
  go_region
  go_wp2_with fail
  go_ret
  rw [HE.out, ← HU.out]
  exact ⟨rfl, (B2.out.setCell (.inl rfl) _).drew, (R2.out.rest _).drew⟩

/-- A path of the call's own, and an error's number. -/
def PathGood (w : World) (x : List Int) (q : Int) (e : Ending) (w' : World) : Prop := ∃ (o : Option Addr) (c : Nat), e = .returned (.tuple #[.slice o x.length c, .int .i64 q]) ∧ w'.ownsRow w.heap.size 3 1 (.slice o x.length c) x.length (Is.cells x) ∧ Below w.heap.size w w'
/-- What is asked of the library and of aspath's Parse. -/
structure ReadKit (T : World → Prop) : Prop where
  trims : Trims
  on : ∀ {w w' : World}, T w → Below w.heap.size w w' → T w'
  path : ∀ (s : ByteArray) (y : List Int) (q : Int), s.size ≤ 2000 → Is.parse s.data.toList = (y, q) → ∀ w, T w → Calls Tryz.prog 201 #[.string s] w (PathGood w y q)
theorem Ty.out {T : World → Prop} (K : ReadKit T) {b : Nat} {w : World} (h : Ty T b w) : T w := by
  obtain ⟨w0, h0, h1, _⟩ := h
  exact K.on h0 h1
/-- The number of digits, or why it is none. -/
def numRes (ds : Bs) : Except Int Int := if Ad.isNum ds = true then (if Is.as (Ad.num ds) = true then .ok (Ad.num ds) else .error 7) else .error 4
theorem parse_digits (ds : Bs) (h : (32 : UInt8) ∉ ds) (h0 : ds ≠ []) : Is.parse ds = (match numRes ds with | .ok v => ([v], 0) | .error v => ([], v)) := by
  unfold Is.parse numRes
  rw [if_neg h0, Sp.split_one ds h]
  simp only [List.all_cons, List.all_nil, Bool.and_true, List.map_cons, List.map_nil, List.length_cons, List.length_nil]
  by_cases h1 : Ad.isNum ds = true
  · rw [if_pos h1, if_pos h1]
    by_cases h2 : Is.as (Ad.num ds) = true
    · rw [if_pos h2, if_pos h2, if_neg (by omega)]
    · rw [if_neg h2, if_neg h2]
  · rw [if_neg h1, if_neg h1]
theorem numRes_nil : numRes [] = .error 4 := rfl
theorem numRes_err {ds : Bs} {v : Int} (h : numRes ds = .error v) : v = 4 ∨ v = 7 := by
  unfold numRes at h
  split at h
  · split at h
    · cases h
    · cases h; exact .inr rfl
  · cases h; exact .inl rfl
theorem numRes_as {ds : Bs} {v : Int} (h : numRes ds = .ok v) : Is.as v = true := by
  unfold numRes at h
  split at h
  · split at h
    · rename_i h2
      cases h
      exact h2
    · cases h
  · cases h
theorem number_res (r : Bs) : Px.number r = (match numRes (Px.digits r) with | .ok v => .ok (v, (Px.skip r).dropWhile Ad.dig) | .error v => .error v) := by
  unfold Px.number numRes
  have e : (Px.skip r).drop (Px.digits r).length = (Px.skip r).dropWhile Ad.dig := drop_while_drop Ad.dig (Px.skip r)
  rw [e]
  by_cases h1 : Ad.isNum (Px.digits r) = true
  · rw [if_pos h1, if_pos h1]
    by_cases h2 : Is.as (Ad.num (Px.digits r)) = true
    · rw [if_pos h2, if_pos h2]
    · rw [if_neg h2, if_neg h2]
  · rw [if_neg h1, if_neg h1]
theorem digits_no (r : Bs) : (32 : UInt8) ∉ Px.digits r := by
  intro h
  have h1 : (Px.digits r).all Ad.dig = true := List.all_takeWhile
  have := List.all_eq_true.1 h1 32 h
  revert this
  decide
theorem digits_len (r : Bs) : (Px.digits r).length ≤ r.length := Nat.le_trans (List.takeWhile_prefix _).length_le (Px.skip_suf r).length_le

/-- What becomes of the reader behind a number. -/
def RnGood (b : Nat) (W : World) (r : Bs) (d : Nat) (q : Int) (R : Except Int Int) (e : Ending) (w' : World) : Prop :=
  But b W w' ∧ match R with
  | .ok v => e = .returned (.int .i64 v) ∧ Rd w' b r d q
  | .error v => e = .returned (.int .i64 0) ∧ Rd w' b [] d (if q = 0 then v else q)

set_option maxHeartbeats 4000000 in
theorem rnumber_is {T : World → Prop} (K : ReadKit T) {W : World} {b : Nat} {r : Bs} {d : Nat} {q : Int} (h : Rd W b r d q) (hT : Ty T b W) (ds : Bs) (hds : (32 : UInt8) ∉ ds) (hl : ds.length ≤ 2000) :
    Calls Tryz.prog 189 #[.pointer (some ⟨b, 0, none⟩), .string (tx ds)] W (RnGood b W r d q (numRes ds)) := by
  have HR := hide h
  by_cases h0 : ds = []
  · subst h0
    have CP := hide (K.path (tx []) [] 0 (by rw [tx_size]; simp) rfl W (hT.out K))
    rw [numRes_nil]
    clear h hds hl hT
    generalize tx [] = s at *
    go_enter Tryz.func189, Tryz.ntmps189
    go_wp2_with fail
    refine CP.out.mono ?_
    rintro e w1 ⟨o, c, rfl, ho, hb⟩
    have CF := hide (rfail_is (HR.out.below hb) 4 _ rfl)
    have B1 := hide (But.of (b := b) hb)
    clear ho hb CP
    go_wp2_with fail
    refine CF.out.mono ?_
    rintro e w2 ⟨rfl, hB, hR⟩
    have B2 := hide (B1.out.trans hB)
    have R2 := hide hR
    clear hB hR
    go_wp2_with fail
    go_ret
    exact ⟨B2.out, rfl, R2.out⟩
  · have hp := parse_digits ds hds h0
    cases hn : numRes ds with
    | ok v =>
      rw [hn] at hp
      simp only at hp
      have CP := hide (K.path (tx ds) [v] 0 (by rw [tx_size]; exact hl) hp W (hT.out K))
      clear h hds hl hT hp hn h0
      generalize tx ds = s at *
      go_enter Tryz.func189, Tryz.ntmps189
      go_wp2_with fail
      refine CP.out.mono ?_
      rintro e w1 ⟨o, c, rfl, ho, hb⟩
      have R1 := hide (HR.out.below hb)
      have B1 := hide (But.of (b := b) hb)
      obtain ⟨g, cap, ho2, hc⟩ : ∃ g cap, o = some ⟨g, 0, none⟩ ∧ w1.cell? ⟨g, 0, none⟩ = some (.int .i64 v) ∧ cap = c := by
        rcases ho.2 with ⟨h1, h2⟩ | ⟨g, cap, cur, h1, h2, h3, h4, h5, h6, h7⟩
        · simp at h2
        · simp only [Value.slice.injEq] at h1
          refine ⟨g, cap, h1.1, ?_, h1.2.2.symm⟩
          rw [cell_of_row w1 g 0 cur 3 _ h3]
          have h8 : (cur.toList.take (1 * 1))[0]? = (Is.cells [v])[0]? := by
            have : [v].length = 1 := rfl
            rw [this] at h7
            rw [h7]
          rw [List.getElem?_take, if_pos (by omega)] at h8
          simpa [Is.cells] using h8
      obtain ⟨hc, rfl⟩ := hc
      subst ho2
      clear ho hb CP
      go_wp2_with fail
      go_ret
      exact ⟨B1.out, rfl, R1.out⟩
    | error v =>
      have hv := numRes_err hn
      have hv0 : (v == 0) = false := by rcases hv with rfl | rfl <;> rfl
      have hv1 : (v != 0) = true := by rcases hv with rfl | rfl <;> rfl
      rw [hn] at hp
      simp only at hp
      have CP := hide (K.path (tx ds) [] v (by rw [tx_size]; exact hl) hp W (hT.out K))
      clear h hds hl hT hp hn h0 hv
      generalize tx ds = s at *
      go_enter Tryz.func189, Tryz.ntmps189
      go_wp2_with fail
      refine CP.out.mono ?_
      rintro e w1 ⟨o, c, rfl, ho, hb⟩
      have CF := hide (rfail_is (HR.out.below hb) v _ rfl)
      have B1 := hide (But.of (b := b) hb)
      clear ho hb CP
      go_wp2_with fail
      refine CF.out.mono ?_
      rintro e w2 ⟨rfl, hB, hR⟩
      have B2 := hide (B1.out.trans hB)
      have R2 := hide hR
      clear hB hR
      go_wp2_with fail
      go_ret
      exact ⟨B2.out, rfl, R2.out⟩
end Go.Proofs.YtngfoijmknclhaaGreatDoor.Ar
namespace Go.Proofs.YtngfoijmknclhaaGreatDoor.Ar
open Go.RowKit Go.Sort
theorem isAt_cong {r r' : Bs} (h : Px.skip r' = Px.skip r) (c : UInt8) : Px.isAt r' c = Px.isAt r c := by unfold Px.isAt; rw [h]
theorem next_cong {r r' : Bs} (h : Px.skip r' = Px.skip r) : Px.next r' = Px.next r := by unfold Px.next; rw [h]
theorem digits_cong {r r' : Bs} (h : Px.skip r' = Px.skip r) : Px.digits r' = Px.digits r := by unfold Px.digits; rw [h]
theorem number_cong {r r' : Bs} (h : Px.skip r' = Px.skip r) : Px.number r' = Px.number r := by rw [number_res, number_res, digits_cong h, h]
theorem sign_cong {r r' : Bs} (h : Px.skip r' = Px.skip r) : Px.sign r' = Px.sign r := by unfold Px.sign; rw [isAt_cong h, isAt_cong h, isAt_cong h]
theorem set_cong {r r' : Bs} (h : Px.skip r' = Px.skip r) (f : Nat) (acc : List Prt) : Px.set f acc r' = Px.set f acc r := by
  cases f with
  | zero => rfl
  | succ f => rw [Px.set, Px.set, isAt_cong h, number_cong h, next_cong h]
theorem atom_cong {r r' : Bs} (h : Px.skip r' = Px.skip r) (ch : Rdr) : Px.atom ch r' = Px.atom ch r := by
  unfold Px.atom
  rw [isAt_cong h, isAt_cong h, isAt_cong h, number_cong h, next_cong h]
theorem row_cong {r r' : Bs} (h : Px.skip r' = Px.skip r) (ch : Rdr) (f : Nat) (acc : List Nd) : Px.row ch f acc r' = Px.row ch f acc r := by
  cases f with
  | zero => rfl
  | succ f => rw [Px.row, Px.row, h]
theorem set_fuel : ∀ (f g : Nat) (acc : List Prt) (r : Bs), r.length < f → r.length < g → Px.set f acc r = Px.set g acc r
  | 0, _, _, _, h, _ => by omega
  | _, 0, _, _, _, h => by omega
  | f + 1, g + 1, acc, r, hf, hg => by
    rw [Px.set, Px.set]
    split
    · rfl
    · split
      · rfl
      · rename_i a k hn
        have h1 := (Px.number_suf hn).2
        split
        · rename_i h45
          have h2 := Px.next_len h45
          split
          · rfl
          · rename_i b k2 hn2
            have h3 := (Px.number_suf hn2).2
            split
            · rfl
            · exact set_fuel f g _ k2 (by omega) (by omega)
        · exact set_fuel f g _ k (by omega) (by omega)
theorem row_fuel {ch : Rdr} (hc : Px.Suf ch) : ∀ (f g : Nat) (acc : List Nd) (r : Bs), r.length < f → r.length < g → Px.row ch f acc r = Px.row ch g acc r
  | 0, _, _, _, h, _ => by omega
  | _, 0, _, _, _, h => by omega
  | f + 1, g + 1, acc, r, hf, hg => by
    rw [Px.row, Px.row]
    have hs := (Px.skip_suf r).length_le
    split
    · rfl
    · rename_i c t he
      rw [he] at hs
      split
      · split
        · rfl
        · rename_i n k hi
          have h1 := (Px.item_suf hc hi).2
          exact row_fuel hc f g _ k (by omega) (by omega)
      · rfl
theorem rows_fuel {ch : Rdr} (hc : Px.Suf ch) : ∀ (f g : Nat) (acc : List (List Nd)) (r : Bs), r.length < f → r.length < g → Px.rows ch f acc r = Px.rows ch g acc r
  | 0, _, _, _, h, _ => by omega
  | _, 0, _, _, _, h => by omega
  | f + 1, g + 1, acc, r, hf, hg => by
    rw [Px.rows, Px.rows]
    split
    · rfl
    · rename_i row k hr
      have h1 := (Px.row_suf hc _ _ _ _ _ hr).length_le
      split
      · rename_i h124
        have h2 := Px.next_len h124
        exact rows_fuel hc f g _ _ (by omega) (by omega)
      · rfl
theorem rows_cong {r r' : Bs} (h : Px.skip r' = Px.skip r) {ch : Rdr} (hc : Px.Suf ch) (f : Nat) (acc : List (List Nd)) : Px.rows ch f acc r' = Px.rows ch f acc r := by
  cases f with
  | zero => rfl
  | succ f =>
    have e : ∀ u : Bs, Px.row ch (u.length + 1) [] u = Px.row ch ((Px.skip u).length + 1) [] (Px.skip u) := fun u => by
      have := (Px.skip_suf u).length_le
      rw [← row_cong (Px.skip_idem u), row_fuel hc (u.length + 1) ((Px.skip u).length + 1) [] (Px.skip u) (by omega) (by omega)]
    rw [Px.rows, Px.rows, e r', e r, h]
theorem choice_cong {r r' : Bs} (h : Px.skip r' = Px.skip r) (d : Nat) : Px.choice d r' = Px.choice d r := by
  cases d with
  | zero => rfl
  | succ d =>
    have e : ∀ u : Bs, Px.rows (Px.choice d) (u.length + 1) [] u = Px.rows (Px.choice d) ((Px.skip u).length + 1) [] (Px.skip u) := fun u => by
      have := (Px.skip_suf u).length_le
      rw [← rows_cong (Px.skip_idem u) (Px.choice_suf d), rows_fuel (Px.choice_suf d) (u.length + 1) ((Px.skip u).length + 1) [] (Px.skip u) (by omega) (by omega)]
    rw [Px.choice, Px.choice, e r', e r, h]

/-- A part of a set at a place. -/
def partRes (r : Bs) : Except Int (Prt × Bs) :=
  match Px.number r with
  | .error e => .error e
  | .ok (a, k) =>
    if Px.isAt k 45 = true then
      match Px.number (Px.next k) with
      | .error e => .error e
      | .ok (b, k2) => if b < a then .error 7 else .ok ((a, b, true), k2)
    else .ok ((a, a, false), k)
theorem partRes_suf {r : Bs} {p : Prt} {k : Bs} (h : partRes r = .ok (p, k)) : k.length < r.length := by
  unfold partRes at h
  split at h
  · cases h
  · rename_i a k1 hn
    have h1 := (Px.number_suf hn).2
    split at h
    · rename_i h45
      have h2 := Px.next_len h45
      split at h
      · cases h
      · rename_i b k2 hn2
        have h3 := (Px.number_suf hn2).2
        split at h
        · cases h
        · simp only [Except.ok.injEq, Prod.mk.injEq] at h
          obtain ⟨_, rfl⟩ := h
          omega
    · simp only [Except.ok.injEq, Prod.mk.injEq] at h
      obtain ⟨_, rfl⟩ := h
      exact h1
theorem set_part {f : Nat} {acc : List Prt} {r : Bs} (h : ¬ (acc ≠ [] ∧ Px.isAt r 93 = true)) : Px.set (f + 1) acc r = (match partRes r with | .error e => .error e | .ok (p, k) => Px.set f (acc ++ [p]) k) := by
  rw [Px.set, if_neg h]
  unfold partRes
  cases Px.number r with
  | error e => rfl
  | ok z =>
    obtain ⟨a, k⟩ := z
    simp only
    by_cases h45 : Px.isAt k 45 = true
    · rw [if_pos h45, if_pos h45]
      cases Px.number (Px.next k) with
      | error e => rfl
      | ok y =>
        obtain ⟨b, k2⟩ := y
        simp only
        by_cases hlt : b < a
        · rw [if_pos hlt, if_pos hlt]
        · rw [if_neg hlt, if_neg hlt]
    · rw [if_neg h45, if_neg h45]
end Go.Proofs.YtngfoijmknclhaaGreatDoor.Ar
