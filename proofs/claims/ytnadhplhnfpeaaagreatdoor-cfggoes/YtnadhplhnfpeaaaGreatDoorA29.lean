/- Part of the proof. -/
import Derived.Test.YtnadhplhnfpeaaaGreatDoorAZ
import Derived.Test.YtnadhplhnfpeaaaGreatDoorA28
namespace Go.Proofs.YtnadhplhnfpeaaaGreatDoor.Ar
open Go.RowKit Go.Sort
structure But (b : Nat) (w w' : World) : Prop where
  os : w'.os = w.os
  tape : w'.tape = w.tape
  output : w'.output = w.output
  size : w.heap.size ≤ w'.heap.size
  block : ∀ k, k ≠ b → k < w.heap.size → w'.heap[k]? = w.heap[k]?
theorem But.refl (b : Nat) (w : World) : But b w w := ⟨rfl, rfl, rfl, Nat.le_refl _, fun _ _ _ => rfl⟩
theorem But.trans {b : Nat} {u v w : World} (h : But b u v) (k : But b v w) : But b u w :=
  ⟨k.os.trans h.os, k.tape.trans h.tape, k.output.trans h.output, Nat.le_trans h.size k.size, fun i hi hl => (k.block i hi (Nat.lt_of_lt_of_le hl h.size)).trans (h.block i hi hl)⟩
theorem But.of {b : Nat} {w w' : World} (h : Below w.heap.size w w') : But b w w' := ⟨h.os, h.tape, h.output, h.size, fun k _ hk => h.block k hk⟩
theorem But.below {b N : Nat} {w w' : World} (h : But b w w') (hN : N ≤ b) (hS : N ≤ w.heap.size) : Below N w w' := ⟨h.os, h.tape, h.output, h.size, fun k hk => h.block k (by omega) (by omega)⟩
theorem But.alloc {b : Nat} {w w' : World} (h : But b w w') (o : Obj) : But b w (w'.alloc o) := h.trans (But.of (balloc (brefl _) o))
theorem But.drew {b : Nat} {w w' : World} (h : But b w w') : But b w w'.drew := h.trans (But.of (Below.drew (brefl _)))
theorem But.setCell {b : Nat} {w w' : World} (h : But b w w') {p : Addr} (hp : p.block = b ∨ w.heap.size ≤ p.block) (u : Value) : But b w (w'.setCell p u) :=
  ⟨h.os, h.tape, h.output, by rw [size_setCell]; exact h.size, fun k hk hl => by
    rw [Below.heap_setCell _ _ _ _ (by rcases hp with e | e <;> omega)]
    exact h.block k hk hl⟩
theorem But.grown {b : Nat} {u w w' : World} {row : Option Nat} (h : But b u w) (hg : w.grownBy w' row) (hr : ∀ k, row = some k → u.heap.size ≤ k) : But b u w' :=
  ⟨hg.os.trans h.os, hg.tape.trans h.tape, hg.output.trans h.output, Nat.le_trans h.size hg.size, fun k hk hl => (hg.block k (Nat.lt_of_lt_of_le hl h.size) (fun e => by have := hr k e.symm; omega)).trans (h.block k hk hl)⟩
theorem But.free {b c : Nat} {w w' : World} (h : But b w w') (hf : Free w c) (hc : c ≠ b) : Free w' c := free_of hf h.size (h.block c hc hf.1)
theorem free_alloc {w : World} {b : Nat} (h : Free w b) (o : Obj) : Free (w.alloc o) b := free_of h (by rw [size_alloc]; omega) (heap_alloc_lt _ _ _ h.1)
theorem free_set {w : World} {b : Nat} (h : Free w b) (p : Addr) (u : Value) : Free (w.setCell p u) b := ⟨by rw [size_setCell]; exact h.1, fun o => by simpa using h.2 o⟩
def Rd (w : World) (b : Nat) (r : Bs) (d : Nat) (q : Int) : Prop := w.cell? ⟨b, 0, none⟩ = some (.string (tx r)) ∧ w.cell? ⟨b, 1, none⟩ = some (.int .i64 d) ∧ w.cell? ⟨b, 2, none⟩ = some (.int .i64 q) ∧ Free w b
theorem Rd.of {w w' : World} {b : Nat} {r : Bs} {d : Nat} {q : Int} (h : Rd w b r d q) (hs : w.heap.size ≤ w'.heap.size) (hb : w'.heap[b]? = w.heap[b]?) : Rd w' b r d q := by
 have e : ∀ o, w'.cell? ⟨b, o, none⟩ = w.cell? ⟨b, o, none⟩ := fun o => World.cell?_of_block (a := ⟨b, o, none⟩) hb
 exact ⟨(e 0).trans h.1, (e 1).trans h.2.1, (e 2).trans h.2.2.1, free_of h.2.2.2 hs hb⟩
theorem Rd.below {w w' : World} {b : Nat} {r : Bs} {d : Nat} {q : Int} (h : Rd w b r d q) (hb : Below w.heap.size w w') : Rd w' b r d q := h.of hb.size (hb.block b h.2.2.2.1)
theorem Rd.alloc {w : World} {b : Nat} {r : Bs} {d : Nat} {q : Int} (h : Rd w b r d q) (o : Obj) : Rd (w.alloc o) b r d q := h.below (balloc (brefl _) o)
theorem Rd.drew {w : World} {b : Nat} {r : Bs} {d : Nat} {q : Int} (h : Rd w b r d q) : Rd w.drew b r d q := h.below (Below.drew (brefl _))
theorem Rd.lt {w : World} {b : Nat} {r : Bs} {d : Nat} {q : Int} (h : Rd w b r d q) : b < w.heap.size := h.2.2.2.1
theorem Rd.other {w : World} {b : Nat} {r : Bs} {d : Nat} {q : Int} (h : Rd w b r d q) {p : Addr} (hp : p.block ≠ b) (u : Value) : Rd (w.setCell p u) b r d q := h.of (by rw [size_setCell]; omega) (Below.heap_setCell _ _ _ _ (fun e => hp e.symm))
theorem Rd.rest {w : World} {b : Nat} {r : Bs} {d : Nat} {q : Int} (h : Rd w b r d q) (r' : Bs) : Rd (w.setCell ⟨b, 0, none⟩ (.string (tx r'))) b r' d q := by
 obtain ⟨h0, h1, h2, h3⟩ := h
 exact ⟨by simp [go_sem, h0], by simp [go_sem, h1], by simp [go_sem, h2], free_set h3 _ _⟩
theorem Rd.deep {w : World} {b : Nat} {r : Bs} {d : Nat} {q : Int} (h : Rd w b r d q) (d' : Nat) : Rd (w.setCell ⟨b, 1, none⟩ (.int .i64 d')) b r d' q := by
 obtain ⟨h0, h1, h2, h3⟩ := h
 exact ⟨by simp [go_sem, h0], by simp [go_sem, h1], by simp [go_sem, h2], free_set h3 _ _⟩
theorem Rd.fault {w : World} {b : Nat} {r : Bs} {d : Nat} {q : Int} (h : Rd w b r d q) (q' : Int) : Rd (w.setCell ⟨b, 2, none⟩ (.int .i64 q')) b r d q' := by
 obtain ⟨h0, h1, h2, h3⟩ := h
 exact ⟨by simp [go_sem, h0], by simp [go_sem, h1], by simp [go_sem, h2], free_set h3 _ _⟩
def Ty (T : World → Prop) (b : Nat) (W : World) : Prop := ∃ w0, T w0 ∧ Below w0.heap.size w0 W ∧ w0.heap.size ≤ b
theorem Ty.but {T : World → Prop} {b : Nat} {w w' : World} (h : Ty T b w) (hb : But b w w') : Ty T b w' := by
 obtain ⟨w0, h0, h1, h2⟩ := h
 exact ⟨w0, h0, h1.trans (hb.below h2 h1.size), h2⟩
structure Trims : Prop where
  blank : ∀ (r : Bs) (W : World), Calls Tryz.prog 152 #[.string (tx r), .string ⟨#[32]⟩] W fun e w' => e = .returned (.string (tx (Px.skip r))) ∧ Below W.heap.size W w'
  digs : ∀ (r : Bs) (W : World), Calls Tryz.prog 152 #[.string (tx r), .string ⟨#[48, 49, 50, 51, 52, 53, 54, 55, 56, 57]⟩] W fun e w' => e = .returned (.string (tx (r.dropWhile Ad.dig))) ∧ Below W.heap.size W w'
theorem rskip_is (K : Trims) {W : World} {b : Nat} {r : Bs} {d : Nat} {q : Int} (h : Rd W b r d q) :
    Calls Tryz.prog 146 #[.pointer (some ⟨b, 0, none⟩)] W fun e w' => e = .returned (.tuple #[]) ∧ But b W w' ∧ Rd w' b (Px.skip r) d q := by
 have CT := hide (K.blank r W)
 have HR := hide h
 obtain ⟨c0, c1, c2, fr⟩ := h
 generalize tx r = s at c0 CT
 go_enter Tryz.func146, Tryz.ntmps146
 go_wp2_with fail
 refine CT.out.mono ?_
 rintro e w1 ⟨rfl, hb⟩
 have R1 := hide (HR.out.below hb)
 have B1 := hide (But.of (b := b) hb)
 obtain ⟨d0, d1, d2, fr2⟩ := R1.out
 have f0 := fr2.2 0
 clear hb c0 c1 c2 fr fr2
 go_wp2_with fail
 exact bodyPost_end (results_none Tryz.results146 _ _ _) rfl ⟨rfl, B1.out.setCell (.inl rfl) _, R1.out.rest _⟩
theorem tx_size (l : Bs) : (tx l).size = l.length := by simp [ByteArray.size]
theorem tx_nil : tx [] = ⟨#[]⟩ := rfl
theorem tx_isEmpty (c : UInt8) (t : Bs) : (tx (c :: t)).toList.isEmpty = false := by rw [Ad.empty_iff]; exact decide_eq_false (by rw [tx_size]; simp)
theorem tx_get (c : UInt8) (t : Bs) (h : 0 < (tx (c :: t)).size) : (tx (c :: t))[0] = c := by
 have := Ad.get_list (tx (c :: t)) 0 h
 rw [← this]
 rfl
theorem tx_extract (l : Bs) (i j : Nat) : (tx l).extract i j = tx ((l.take j).drop i) := by
 apply ByteArray.ext
 rw [ByteArray.data_extract]
 apply Array.toList_inj.1
 simp only [tx, Array.toList_extract, List.extract]
 rw [List.take_drop]
 by_cases h : i ≤ j
 ·
  rw [Nat.add_sub_cancel' h]
 rw [List.drop_eq_nil_iff.2, List.drop_eq_nil_iff.2]
 ·
  simp only [List.length_take]; omega
 simp only [List.length_take]; omega
theorem tx_tail (c : UInt8) (t : Bs) : (tx (c :: t)).extract 1 (tx (c :: t)).size = tx t := by
 rw [tx_extract, tx_size, List.take_length]
 rfl
set_option maxHeartbeats 4000000 in
theorem take_is (K : Trims) {W : World} {b : Nat} {r : Bs} {d : Nat} {q : Int} (h : Rd W b r d q) (c : UInt8) (m : Int) (hm : m = (c.toNat : Int)) (t : Bool) (ht : Px.isAt r c = t) (r2 : Bs) (h2 : r2 = if t = true then Px.next r else Px.skip r) :
    Calls Tryz.prog 131 #[.pointer (some ⟨b, 0, none⟩), .int .u8 m] W fun e w' => e = .returned (.bool t) ∧ But b W w' ∧ Rd w' b r2 d q := by
 have CS := hide (rskip_is K h)
 subst hm
 clear h
 cases hq : Px.skip r with
 | nil =>
  obtain rfl : false = t := by rw [← ht]; unfold Px.isAt; rw [hq]; rfl
  obtain rfl : r2 = [] := by rw [h2, hq]; simp
  rw [hq] at CS
  clear ht h2 hq
  go_enter Tryz.func131, Tryz.ntmps131
  go_wp2_with fail
  refine CS.out.mono ?_
  rintro e w1 ⟨rfl, hB, hR⟩
  have B1 := hide hB
  have R1 := hide hR
  obtain ⟨c0, c1, c2, fr⟩ := hR
  clear hB fr CS
  rw [tx_nil] at c0
  go_wp2_with fail
  go_ret
  exact ⟨rfl, B1.out, R1.out⟩
 | cons x u =>
  have hbb : (x == c) = t := by rw [← ht]; unfold Px.isAt; rw [hq]; rfl
  have hnx : Px.next r = u := by unfold Px.next; rw [hq]; rfl
  have hz : 0 < (tx (x :: u)).size := by rw [tx_size]; simp
  have he := tx_isEmpty x u
  have hx := tx_get x u hz
  have HT := hide (tx_tail x u)
  rw [hq] at CS h2
  rw [hnx] at h2
  have hz1 : (1 : Int) ≤ ((tx (x :: u)).size : Int) := by omega
  have hbe : (((tx (x :: u))[0].toNat : Int) == (c.toNat : Int)) = t := by
   rw [← hbb, hx, Bool.eq_iff_iff]
   simp only [beq_iff_eq]
   constructor
   ·
    intro e
    exact UInt8.toNat_inj.1 (by omega)
   intro e
   rw [e]
  have hbn : (((tx (x :: u))[0].toNat : Int) != (c.toNat : Int)) = !t := by rw [← hbe]; rfl
  clear ht hbb hnx hx hq hbe
  cases t with
  | false =>
   obtain rfl : r2 = x :: u := by rw [h2]; simp
   simp only [Bool.not_false] at hbn
   clear h2 HT
   go_enter Tryz.func131, Tryz.ntmps131
   go_wp2_with fail
   refine CS.out.mono ?_
   rintro e w1 ⟨rfl, hB, hR⟩
   have B1 := hide hB
   have R1 := hide hR
   obtain ⟨c0, c1, c2, fr⟩ := hR
   clear hB fr CS
   generalize tx (x :: u) = s at *
   go_wp2_with fail
   go_ret
   exact ⟨rfl, B1.out, R1.out⟩
  | true =>
   obtain rfl : r2 = u := by rw [h2]; simp
   simp only [Bool.not_true] at hbn
   clear h2
   go_enter Tryz.func131, Tryz.ntmps131
   go_wp2_with fail
   refine CS.out.mono ?_
   rintro e w1 ⟨rfl, hB, hR⟩
   have B1 := hide hB
   have R1 := hide hR
   obtain ⟨c0, c1, c2, fr⟩ := hR
   have f0 := fr.2 0
   clear hB fr CS
   generalize tx (x :: r2) = s at *
   go_wp2_with fail
   go_ret
   rw [HT.out]
   exact ⟨rfl, B1.out.setCell (.inl rfl) _, R1.out.rest _⟩
theorem rfail_is {W : World} {b : Nat} {r : Bs} {d : Nat} {q : Int} (h : Rd W b r d q) (v q' : Int) (hq : q' = if q = 0 then v else q) :
    Calls Tryz.prog 147 #[.pointer (some ⟨b, 0, none⟩), .int .i64 v] W fun e w' => e = .returned (.tuple #[]) ∧ But b W w' ∧ Rd w' b [] d q' := by
 have HR := hide h
 obtain ⟨c0, c1, c2, fr⟩ := h
 have f0 := fr.2 0
 have f2 := fr.2 2
 clear fr
 by_cases h0 : q = 0
 ·
  subst h0
  obtain rfl : q' = v := by simpa using hq
  clear hq
  go_enter Tryz.func147, Tryz.ntmps147
  go_wp2_with fail
  exact bodyPost_end (results_none Tryz.results147 _ _ _) rfl ⟨rfl, ((But.refl b W).setCell (.inl rfl) _).setCell (.inl rfl) _, (HR.out.fault _).rest []⟩
 obtain rfl : q' = q := by rw [hq, if_neg h0]
 have h0' : (q' == 0) = false := by simpa using h0
 clear hq h0
 go_enter Tryz.func147, Tryz.ntmps147
 go_wp2_with fail
 exact bodyPost_end (results_none Tryz.results147 _ _ _) rfl ⟨rfl, (But.refl b W).setCell (.inl rfl) _, HR.out.rest []⟩
theorem rend_is (K : Trims) {W : World} {b : Nat} {r : Bs} {d : Nat} {q : Int} (h : Rd W b r d q) (q' : Int) (hq : q' = if Px.skip r = [] then q else if q = 0 then 4 else q) :
    Calls Tryz.prog 133 #[.pointer (some ⟨b, 0, none⟩)] W fun e w' => e = .returned (.tuple #[]) ∧ But b W w' ∧ Rd w' b [] d q' := by
 have CS := hide (rskip_is K h)
 clear h
 cases hk : Px.skip r with
 | nil =>
  rw [hk] at CS hq
  obtain rfl : q' = q := by simpa using hq
  clear hq hk
  go_enter Tryz.func133, Tryz.ntmps133
  go_wp2_with fail
  refine CS.out.mono ?_
  rintro e w1 ⟨rfl, hB, hR⟩
  have B1 := hide hB
  have R1 := hide hR
  obtain ⟨c0, c1, c2, fr⟩ := hR
  clear hB fr CS
  rw [tx_nil] at c0
  go_wp2_with fail
  exact bodyPost_end (results_none Tryz.results133 _ _ _) rfl ⟨rfl, B1.out, R1.out⟩
 | cons x u =>
  rw [hk] at CS hq
  have HQ : Hid (q' = if q = 0 then 4 else q) := by show _ = _; rw [hq, if_neg (by simp)]
  have he := tx_isEmpty x u
  clear hq hk
  go_enter Tryz.func133, Tryz.ntmps133
  go_wp2_with fail
  refine CS.out.mono ?_
  rintro e w1 ⟨rfl, hB, hR⟩
  have B1 := hide hB
  have CF := hide (rfail_is hR 4 q' HQ.out)
  obtain ⟨c0, c1, c2, fr⟩ := hR
  clear hB fr CS HQ
  generalize tx (x :: u) = s at *
  go_wp2_with fail
  refine CF.out.mono ?_
  rintro e w2 ⟨rfl, hB, hR⟩
  have B2 := hide (B1.out.trans hB)
  have R2 := hide hR
  clear hB hR
  go_wp2_with fail
  exact bodyPost_end (results_none Tryz.results133 _ _ _) rfl ⟨rfl, B2.out, R2.out⟩
theorem takeWhile_len (p : UInt8 → Bool) (l : Bs) : (l.takeWhile p).length + (l.dropWhile p).length = l.length := by
 rw [← List.length_append, List.takeWhile_append_dropWhile]
theorem take_while_take (p : UInt8 → Bool) (l : Bs) : l.take (l.length - (l.dropWhile p).length) = l.takeWhile p := by
 have h := takeWhile_len p l
 have e : l.length - (l.dropWhile p).length = (l.takeWhile p).length := by omega
 rw [e]
 exact (List.prefix_iff_eq_take.1 (List.takeWhile_prefix p)).symm
theorem drop_while_drop (p : UInt8 → Bool) (l : Bs) : l.drop (l.takeWhile p).length = l.dropWhile p := by
 have h := List.drop_left (l₁ := l.takeWhile p) (l₂ := l.dropWhile p)
 rwa [List.takeWhile_append_dropWhile] at h
set_option maxHeartbeats 4000000 in
theorem digits_is (K : Trims) {W : World} {b : Nat} {r : Bs} {d : Nat} {q : Int} (h : Rd W b r d q) (hl : r.length ≤ 2000) :
    Calls Tryz.prog 161 #[.pointer (some ⟨b, 0, none⟩)] W fun e w' => e = .returned (.string (tx (Px.digits r))) ∧ But b W w' ∧ Rd w' b ((Px.skip r).dropWhile Ad.dig) d q := by
 have CS := hide (rskip_is K h)
 have hl2 : (Px.skip r).length ≤ 2000 := Nat.le_trans (Px.skip_suf r).length_le hl
 have HE : Hid ((tx (Px.skip r)).extract 0 ((tx (Px.skip r)).size - (tx ((Px.skip r).dropWhile Ad.dig)).size) = tx (Px.digits r)) := by
  show _ = _
  rw [tx_extract, tx_size, tx_size, take_while_take]
  rfl
 have h1 := takeWhile_len Ad.dig (Px.skip r)
 have CD := hide (K.digs (Px.skip r))
 clear h
 have z1 : (tx (Px.skip r)).size ≤ 2000 := by rw [tx_size]; exact hl2
 have z2 : (tx ((Px.skip r).dropWhile Ad.dig)).size ≤ (tx (Px.skip r)).size := by rw [tx_size, tx_size]; omega
 generalize Px.digits r = ds at *
 generalize Px.skip r = r2 at *
 clear hl hl2 h1
 go_enter Tryz.func161, Tryz.ntmps161
 go_wp2_with fail
 refine CS.out.mono ?_
 rintro e w1 ⟨rfl, hB, hR⟩
 have B1 := hide hB
 have R1 := hide hR
 have CD1 := hide (CD.out w1)
 obtain ⟨c0, c1, c2, fr⟩ := hR
 clear hB fr CS CD
 generalize hs : tx r2 = s at c0 CD1 HE z1 z2
 clear hs
 go_wp2_with fail
 refine CD1.out.mono ?_
 rintro e w2 ⟨rfl, hb⟩
 have B2 := hide (B1.out.trans (But.of hb))
 have R2 := hide (R1.out.below hb)
 have e0 := (hb.cell (p := ⟨b, 0, none⟩) (block_lt_of_cell c0)).trans c0
 have f0 := R2.out.2.2.2.2 0
 clear hb CD1 c0 c1 c2 B1 R1
 generalize hu : tx (List.dropWhile Ad.dig r2) = u at *
 have z3 : (u.size : Int) ≤ (s.size : Int) := by omega
 have z4 : (s.size : Int) ≤ 2000 := by omega
 have HU := hide hu
 clear hu
 go_wp2_with fail
 go_region
 go_wp2_with fail
 go_ret
 rw [HE.out, ← HU.out]
 exact ⟨rfl, (B2.out.setCell (.inl rfl) _).drew, (R2.out.rest _).drew⟩
def PathGood (w : World) (x : List Int) (q : Int) (e : Ending) (w' : World) : Prop := ∃ (o : Option Addr) (c : Nat), e = .returned (.tuple #[.slice o x.length c, .int .i64 q]) ∧ w'.ownsRow w.heap.size 3 1 (.slice o x.length c) x.length (Is.cells x) ∧ Below w.heap.size w w'
structure ReadKit (T : World → Prop) : Prop where
  trims : Trims
  on : ∀ {w w' : World}, T w → Below w.heap.size w w' → T w'
  path : ∀ (s : ByteArray) (y : List Int) (q : Int), s.size ≤ 2000 → Is.parse s.data.toList = (y, q) → ∀ w, T w → Calls Tryz.prog 167 #[.string s] w (PathGood w y q)
theorem Ty.out {T : World → Prop} (K : ReadKit T) {b : Nat} {w : World} (h : Ty T b w) : T w := by
 obtain ⟨w0, h0, h1, _⟩ := h
 exact K.on h0 h1
def numRes (ds : Bs) : Except Int Int := if Ad.isNum ds = true then (if Is.as (Ad.num ds) = true then .ok (Ad.num ds) else .error 7) else .error 4
theorem parse_digits (ds : Bs) (h : (32 : UInt8) ∉ ds) (h0 : ds ≠ []) : Is.parse ds = (match numRes ds with | .ok v => ([v], 0) | .error v => ([], v)) := by
 unfold Is.parse numRes
 rw [if_neg h0, Sp.split_one ds h]
 simp only [List.all_cons, List.all_nil, Bool.and_true, List.map_cons, List.map_nil, List.length_cons, List.length_nil]
 by_cases h1 : Ad.isNum ds = true
 ·
  rw [if_pos h1, if_pos h1]
  by_cases h2 : Is.as (Ad.num ds) = true
  ·
   rw [if_pos h2, if_pos h2, if_neg (by omega)]
  rw [if_neg h2, if_neg h2]
 rw [if_neg h1, if_neg h1]
theorem numRes_nil : numRes [] = .error 4 := rfl
theorem numRes_err {ds : Bs} {v : Int} (h : numRes ds = .error v) : v = 4 ∨ v = 7 := by
 unfold numRes at h
 split at h
 ·
  split at h
  ·
   cases h
  cases h; exact .inr rfl
 cases h; exact .inl rfl
theorem numRes_as {ds : Bs} {v : Int} (h : numRes ds = .ok v) : Is.as v = true := by
 unfold numRes at h
 split at h
 ·
  split at h
  ·
   rename_i h2
   cases h
   exact h2
  cases h
 cases h
theorem number_res (r : Bs) : Px.number r = (match numRes (Px.digits r) with | .ok v => .ok (v, (Px.skip r).dropWhile Ad.dig) | .error v => .error v) := by
 unfold Px.number numRes
 have e : (Px.skip r).drop (Px.digits r).length = (Px.skip r).dropWhile Ad.dig := drop_while_drop Ad.dig (Px.skip r)
 rw [e]
 by_cases h1 : Ad.isNum (Px.digits r) = true
 ·
  rw [if_pos h1, if_pos h1]
  by_cases h2 : Is.as (Ad.num (Px.digits r)) = true
  ·
   rw [if_pos h2, if_pos h2]
  rw [if_neg h2, if_neg h2]
 rw [if_neg h1, if_neg h1]
theorem digits_no (r : Bs) : (32 : UInt8) ∉ Px.digits r := by
 intro h
 have h1 : (Px.digits r).all Ad.dig = true := List.all_takeWhile
 have := List.all_eq_true.1 h1 32 h
 revert this
 decide
theorem digits_len (r : Bs) : (Px.digits r).length ≤ r.length := Nat.le_trans (List.takeWhile_prefix _).length_le (Px.skip_suf r).length_le
def RnGood (b : Nat) (W : World) (r : Bs) (d : Nat) (q : Int) (R : Except Int Int) (e : Ending) (w' : World) : Prop :=
  But b W w' ∧ match R with
  | .ok v => e = .returned (.int .i64 v) ∧ Rd w' b r d q
  | .error v => e = .returned (.int .i64 0) ∧ Rd w' b [] d (if q = 0 then v else q)
set_option maxHeartbeats 4000000 in
theorem rnumber_is {T : World → Prop} (K : ReadKit T) {W : World} {b : Nat} {r : Bs} {d : Nat} {q : Int} (h : Rd W b r d q) (hT : Ty T b W) (ds : Bs) (hds : (32 : UInt8) ∉ ds) (hl : ds.length ≤ 2000) :
    Calls Tryz.prog 162 #[.pointer (some ⟨b, 0, none⟩), .string (tx ds)] W (RnGood b W r d q (numRes ds)) := by
 have HR := hide h
 by_cases h0 : ds = []
 ·
  subst h0
  have CP := hide (K.path (tx []) [] 0 (by rw [tx_size]; simp) rfl W (hT.out K))
  rw [numRes_nil]
  clear h hds hl hT
  generalize tx [] = s at *
  go_enter Tryz.func162, Tryz.ntmps162
  go_wp2_with fail
  refine CP.out.mono ?_
  rintro e w1 ⟨o, c, rfl, ho, hb⟩
  have CF := hide (rfail_is (HR.out.below hb) 4 _ rfl)
  have B1 := hide (But.of (b := b) hb)
  clear ho hb CP
  go_wp2_with fail
  refine CF.out.mono ?_
  rintro e w2 ⟨rfl, hB, hR⟩
  have B2 := hide (B1.out.trans hB)
  have R2 := hide hR
  clear hB hR
  go_wp2_with fail
  go_ret
  exact ⟨B2.out, rfl, R2.out⟩
 have hp := parse_digits ds hds h0
 cases hn : numRes ds with
 | ok v =>
  rw [hn] at hp
  simp only at hp
  have CP := hide (K.path (tx ds) [v] 0 (by rw [tx_size]; exact hl) hp W (hT.out K))
  clear h hds hl hT hp hn h0
  generalize tx ds = s at *
  go_enter Tryz.func162, Tryz.ntmps162
  go_wp2_with fail
  refine CP.out.mono ?_
  rintro e w1 ⟨o, c, rfl, ho, hb⟩
  have R1 := hide (HR.out.below hb)
  have B1 := hide (But.of (b := b) hb)
  obtain ⟨g, cap, ho2, hc⟩ : ∃ g cap, o = some ⟨g, 0, none⟩ ∧ w1.cell? ⟨g, 0, none⟩ = some (.int .i64 v) ∧ cap = c := by
   rcases ho.2 with ⟨h1, h2⟩ | ⟨g, cap, cur, h1, h2, h3, h4, h5, h6, h7⟩
   ·
    simp at h2
   simp only [Value.slice.injEq] at h1
   refine ⟨g, cap, h1.1, ?_, h1.2.2.symm⟩
   rw [cell_of_row w1 g 0 cur 3 _ h3]
   have h8 : (cur.toList.take (1 * 1))[0]? = (Is.cells [v])[0]? := by
    have : [v].length = 1 := rfl
    rw [this] at h7
    rw [h7]
   rw [List.getElem?_take, if_pos (by omega)] at h8
   simpa [Is.cells] using h8
  obtain ⟨hc, rfl⟩ := hc
  subst ho2
  clear ho hb CP
  go_wp2_with fail
  go_ret
  exact ⟨B1.out, rfl, R1.out⟩
 | error v =>
  have hv := numRes_err hn
  have hv0 : (v == 0) = false := by rcases hv with rfl | rfl <;> rfl
  have hv1 : (v != 0) = true := by rcases hv with rfl | rfl <;> rfl
  rw [hn] at hp
  simp only at hp
  have CP := hide (K.path (tx ds) [] v (by rw [tx_size]; exact hl) hp W (hT.out K))
  clear h hds hl hT hp hn h0 hv
  generalize tx ds = s at *
  go_enter Tryz.func162, Tryz.ntmps162
  go_wp2_with fail
  refine CP.out.mono ?_
  rintro e w1 ⟨o, c, rfl, ho, hb⟩
  have CF := hide (rfail_is (HR.out.below hb) v _ rfl)
  have B1 := hide (But.of (b := b) hb)
  clear ho hb CP
  go_wp2_with fail
  refine CF.out.mono ?_
  rintro e w2 ⟨rfl, hB, hR⟩
  have B2 := hide (B1.out.trans hB)
  have R2 := hide hR
  clear hB hR
  go_wp2_with fail
  go_ret
  exact ⟨B2.out, rfl, R2.out⟩
end Go.Proofs.YtnadhplhnfpeaaaGreatDoor.Ar
namespace Go.Proofs.YtnadhplhnfpeaaaGreatDoor.Ar.Y4
open Go.RowKit Go.Sort
theorem path_none (w : World) (q : Int) {w' : World} (hb : Below w.heap.size w w') : PathGood w [] q (.returned (.tuple #[.slice none 0 0, .int .i64 q])) w' := ⟨none, 0, rfl, World.ownsRow_nil _ _ _ _, hb⟩
def Pt (w : World) : Prop := (∃ m, w.cell? ⟨2, 0, none⟩ = some (.int .i64 m)) ∧ ∃ ev, w.cell? ⟨1, 0, none⟩ = some ev ∧ (ev = .nilIface ∨ ∃ te pe, ev = .iface te pe)
theorem Pt.on {w w' : World} (h : Pt w) (hb : Below w.heap.size w w') : Pt w' := by
 obtain ⟨⟨m, h1⟩, ev, h2, h3⟩ := h
 exact ⟨⟨m, (hb.cell (p := ⟨2, 0, none⟩) (block_lt_of_cell h1)).trans h1⟩, ev, (hb.cell (p := ⟨1, 0, none⟩) (block_lt_of_cell h2)).trans h2, h3⟩
theorem atoi_is (t : ByteArray) (hn : Ad.isNum t.data.toList = true) (ht : t.size ≤ 2000) (w : World) (hT : Pt w) :
    (Calls Tryz.prog 17 #[.string t] w fun e w' => e = .returned (.tuple #[.int .i64 (Ad.num t.data.toList), .nilIface]) ∧ Below w.heap.size w w') ∨
    (65535 < Ad.num t.data.toList ∧ ∃ v : Int, Calls Tryz.prog 17 #[.string t] w fun e w' => ∃ N : Nat, e = .returned (.tuple #[.int .i64 v, .iface 120 (.pointer (some ⟨N, 0, none⟩))]) ∧ Below w.heap.size w w') := by
  rcases atoi_num _ hn with h | ⟨h, h1⟩
  · left
    refine (Tryz.strconv_Atoi_ok t (by omega) _ h w).mono ?_
    rintro e w' ⟨rfl, rfl | ⟨u, rfl⟩⟩
    · exact ⟨rfl, brefl _⟩
    · exact ⟨rfl, Lib.bytesWorld_below w 5 u⟩
  · right
    obtain ⟨_, ev, h2, h3⟩ := hT
    refine ⟨h1, Lib.atoiSat t.data.toList, (Tryz.strconv_Atoi_range t (by omega) h ev w h2 h3).mono ?_⟩
    rintro e w' ⟨N, rfl, _, _, hb⟩
    exact ⟨N, rfl, hb⟩
theorem Is.parse_good (l : List UInt8) (h0 : l ≠ []) (ha : (Sp.split l).all Ad.isNum = true) (y : List Int) (q : Int) (h : Is.parse l = (y, q)) :
    ((∃ f ∈ Sp.split l, Is.as (Ad.num f) = false) → y = [] ∧ q = 7) ∧ ((∀ f ∈ Sp.split l, Is.as (Ad.num f) = true) → (16 < (Sp.split l).length ∧ y = [] ∧ q = 2) ∨ ((Sp.split l).length ≤ 16 ∧ y = (Sp.split l).map Ad.num ∧ q = 0)) := by
 unfold Is.parse at h
 rw [if_neg h0, if_pos ha] at h
 constructor
 ·
  rintro ⟨f, hf, hn⟩
  have hb : ((Sp.split l).map Ad.num).all Is.as = false := by
   rw [List.all_eq_false]
   exact ⟨_, List.mem_map.2 ⟨f, hf, rfl⟩, by rw [hn]; decide⟩
  rw [hb] at h
  simp at h
  exact ⟨h.1, h.2.symm⟩
 intro hall
 have hb : ((Sp.split l).map Ad.num).all Is.as = true := by
  rw [List.all_eq_true]
  intro x hx
  obtain ⟨f, hf, rfl⟩ := List.mem_map.1 hx
  exact hall f hf
 rw [if_pos hb] at h
 split at h
 ·
  rename_i h16
  simp at h
  exact .inl ⟨h16, h.1, h.2.symm⟩
 rename_i h16
 simp only [Prod.mk.injEq] at h
 exact .inr ⟨by omega, h.1.symm, h.2.symm⟩
theorem split_is (s : ByteArray) (ws : List ByteArray) (hw : Lib.splitB ⟨#[32]⟩ 0 (Lib.countB s ⟨#[32]⟩) s = ws) (w : World) (hT : Pt w) (hs : s.size ≤ 2000) :
    Calls Tryz.prog 170 #[.string s, .string ⟨#[32]⟩] w fun e w' => e = .returned (.slice (some ⟨w.heap.size, 0, none⟩) ws.length ws.length) ∧ St.reads w' w.heap.size 0 ws ∧ Below w.heap.size w w' := by
 obtain ⟨⟨m, hm⟩, _⟩ := hT
 have hl : ws.length = Lib.countB s ⟨#[32]⟩ + 1 := by rw [← hw]; exact Lib.splitB_all ⟨#[32]⟩ (by decide) 0 _ s rfl
 refine (Tryz.strings_Split s ⟨#[32]⟩ m w (by omega) hm (by decide)).mono ?_
 rintro e w' ⟨rfl, rfl⟩
 rw [← hl, hw]
 refine ⟨rfl, fun j hj => ?_, balloc (brefl w) _⟩
 rw [Nat.zero_add]
 simp [hj]
theorem own_mono {w : World} {B B' e size n : Nat} {v : Value} {xs : List Value} (h : w.ownsRow B e size v n xs) (hB : B' ≤ B) : w.ownsRow B' e size v n xs := by
 refine ⟨h.1, ?_⟩
 rcases h.2 with h2 | ⟨g, cap, cur, hv, hg, r⟩
 ·
  exact .inl h2
 exact .inr ⟨g, cap, cur, hv, Nat.le_trans hB hg, r⟩
set_option maxHeartbeats 4000000 in
theorem parse_is (s : ByteArray) (y : List Int) (q : Int) (hs : s.size ≤ 2000) (h : Is.parse s.data.toList = (y, q)) (w : World) (hT : Pt w) : Calls Tryz.prog 167 #[.string s] w (PathGood w y q) := by
 by_cases h0 : s.size = 0
 ·
  obtain rfl : s = ⟨#[]⟩ := ByteArray.ext (Array.eq_empty_of_size_eq_zero h0)
  obtain ⟨rfl, rfl⟩ : y = [] ∧ q = 0 := by
   have h : (([], 0) : List Int × Int) = (y, q) := h
   simp at h
   exact ⟨h.1, h.2.symm⟩
  clear h hT
  go_enter Tryz.func167, Tryz.ntmps167
  go_wp2_with fail
  exact bodyPost_ret (v := .tuple #[.slice none 0 0, .int .i64 0]) (by simp [results, Tryz.results167, go_sem]) rfl (path_none _ _ (brefl _))
 have he : s.toList.isEmpty = false := by rw [Ad.empty_iff]; exact decide_eq_false h0
 have hne : s.data.toList ≠ [] := by
  intro e
  have := Ad.size_list s
  rw [e] at this
  simp at this
  omega
 obtain ⟨ws, hw⟩ : ∃ ws, Lib.splitB ⟨#[32]⟩ 0 (Lib.countB s ⟨#[32]⟩) s = ws := ⟨_, rfl⟩
 have hsp : ws.map (·.data.toList) = Sp.split s.data.toList := by rw [← hw]; exact splitB_is s
 have hwl : ws.length ≤ 2001 := by
  have h1 := Sp.split_count s.data.toList
  rw [← hsp, List.length_map, Ad.size_list] at h1
  omega
 have hsz : ∀ t ∈ ws, t.size ≤ 2000 := by
  intro t ht
  have h1 := Sp.split_size s.data.toList t.data.toList (by rw [← hsp]; exact List.mem_map.2 ⟨t, ht, rfl⟩)
  rw [Ad.size_list, Ad.size_list] at h1
  omega
 have CS := hide (split_is s ws hw w hT hs)
 have HALLN : Hid ((ws.all fun t => Ad.isNum t.data.toList) = (Sp.split s.data.toList).all Ad.isNum) := by
  show _ = _
  rw [← hsp, List.all_map]
  rfl
 cases hall : ws.all fun t => Ad.isNum t.data.toList
 ·
  obtain ⟨rfl, rfl⟩ : y = [] ∧ q = 4 := by
   rw [HALLN.out, List.all_eq_false] at hall
   obtain ⟨f, hf, hn⟩ := hall
   exact Is.parse_bad _ hne f hf (by simpa using hn) y q h
  have CN := hide (fun b off c w1 hrd => areNumbers_is b off c ws false hall w1 hrd (by omega) hsz)
  clear h hT hne hw hsp hsz hall HALLN
  go_enter Tryz.func167, Tryz.ntmps167
  go_wp2_with fail
  refine CS.out.mono ?_
  rintro e w1 ⟨rfl, hrd, hb1⟩
  have B1 := hide hb1
  have CN1 := hide (CN.out _ 0 ws.length w1 hrd)
  clear CS CN hrd hb1
  go_wp2_with fail
  refine CN1.out.mono ?_
  rintro e w2 ⟨rfl, hb2⟩
  have B2 := hide (bthen B1.out hb2)
  clear hb2 CN1 B1
  go_wp2_with fail
  exact bodyPost_ret (v := .tuple #[.slice none 0 0, .int .i64 4]) (by simp [results, Tryz.results167, go_sem]) rfl (path_none _ _ B2.out)
 have hg := Is.parse_good s.data.toList hne (by rw [← HALLN.out]; exact hall) y q h
 rw [← hsp] at hg
 have HBAD : Hid (∀ j (hj : j < ws.length), Is.as (Ad.num ws[j].data.toList) = false → y = [] ∧ q = 7) := by
  intro j hj hn
  exact hg.1 ⟨_, List.mem_map.2 ⟨ws[j], List.getElem_mem hj, rfl⟩, hn⟩
 have HEND : Hid ((∀ j (hj : j < ws.length), Is.as (Ad.num ws[j].data.toList) = true) → (16 < ws.length ∧ y = [] ∧ q = 2) ∨ (ws.length ≤ 16 ∧ y = ws.map (fun t => Ad.num t.data.toList) ∧ q = 0)) := by
  intro hj
  have := hg.2 (by
   intro f hf
   obtain ⟨t, ht, rfl⟩ := List.mem_map.1 hf
   obtain ⟨j, hj', rfl⟩ := List.getElem_of_mem ht
   exact hj j hj')
  rw [List.length_map, List.map_map] at this
  exact this
 have HNUM : Hid (∀ j (hj : j < ws.length), Ad.isNum ws[j].data.toList = true) := by
  intro j hj
  exact List.all_eq_true.1 hall _ (List.getElem_mem hj)
 have CN := hide (fun b off c w1 hrd => areNumbers_is b off c ws true hall w1 hrd (by omega) hsz)
 have HT := hide hT
 have HSZ := hide hsz
 clear h hT hne hw hsp hsz hall HALLN hg
 go_enter Tryz.func167, Tryz.ntmps167
 go_wp2_with fail
 refine CS.out.mono ?_
 rintro e w1 ⟨rfl, hrd, hb1⟩
 have B1 := hide hb1
 have RD1 := hide hrd
 have CN1 := hide (CN.out _ 0 ws.length w1 hrd)
 clear CS CN hrd hb1
 generalize w.heap.size = G at RD1 CN1 ⊢
 go_wp2_with fail
 refine CN1.out.mono ?_
 rintro e w2 ⟨rfl, hb2⟩
 have B2 := hide (bthen B1.out hb2)
 have RD := hide (St.reads_below RD1.out hb2)
 clear hb2 CN1 B1 RD1
 go_wp2_with fail
 go_loopw [5, 19] (fun v5 v19 wr => ∃ (k : Nat) (o : Option Addr) (c : Nat) (p : List Int), v19 = .int .i64 k ∧ v5 = .slice o k c ∧ k ≤ ws.length ∧ Hid (p = (ws.take k).map fun t => Ad.num t.data.toList) ∧ Hid (∀ j (hj : j < ws.length), j < k → Is.as (Ad.num ws[j].data.toList) = true) ∧ wr.ownsRow w2.heap.size 3 1 (.slice o k c) k (Is.cells p) ∧ Below w2.heap.size w2 wr) (fun _ v19 _ => ws.length - (intOf v19).toNat)
 case atStart => exact ⟨0, none, 0, [], rfl, rfl, Nat.zero_le _, hide rfl, hide fun j _ h => absurd h (Nat.not_lt_zero _), World.ownsRow_nil _ _ _ _, brefl _⟩
 case round =>
  obtain ⟨k, o, c, p, rfl, rfl, hk, HP, HAS, hown, hbr2⟩ := hrel
  have HO := hide hown
  have HBR := hide (bthen B2.out hbr2)
  have HB2 := hide hbr2
  clear hown hbr2
  by_cases hkl : k < ws.length
  ·
   have hkl' : (k : Int) < (ws.length : Int) := by omega
   have e0 := St.reads_below RD.out HB2.out k hkl
   rw [Nat.zero_add] at e0
   have hts := HSZ.out _ (List.getElem_mem hkl)
   have hnum := HNUM.out k hkl
   have CA := atoi_is ws[k] hnum hts wr (HT.out.on HBR.out)
   have HBD := hide (HBAD.out k hkl)
   have HNP : Hid ((ws.take (k + 1)).map (fun t => Ad.num t.data.toList) = p ++ [Ad.num ws[k].data.toList]) := by
    show _ = _
    rw [List.take_succ_eq_append_getElem hkl, List.map_append, HP.out]
    rfl
   have HNA : Hid (Is.as (Ad.num ws[k].data.toList) = true → ∀ j (hj : j < ws.length), j < k + 1 → Is.as (Ad.num ws[j].data.toList) = true) := by
    intro h j hj hjk
    rcases Nat.lt_or_ge j k with h1 | h1
    ·
     exact HAS.out j hj h1
    obtain rfl : j = k := by omega
    exact h
   generalize ws[k] = t at *
   clear hts hnum HP HAS
   generalize Ad.num t.data.toList = n at *
   rcases CA with CA | ⟨hbig, v, CA⟩
   ·
    have CAH := hide CA
    clear CA
    cases has : Is.as n
    ·
     obtain ⟨rfl, rfl⟩ := HBD.out has
     have CM := hide (fun W => mayAS_is n false has W)
     clear HBD HNP HNA has
     go_wp2_with fail
     refine CAH.out.mono ?_
     rintro e w3 ⟨rfl, hb3⟩
     have B3 := hide (bthen HBR.out hb3)
     clear hb3 CAH
     go_wp2_with fail
     refine (CM.out _).mono ?_
     rintro e w4 ⟨rfl, rfl⟩
     go_wp2_with fail
     exact bodyPost_ret (v := .tuple #[.slice none 0 0, .int .i64 7]) (by simp [results, Tryz.results167, go_sem]) rfl (path_none _ _ B3.out)
    have CM := hide (fun W => mayAS_is n true has W)
    have HNA := hide (HNA.out has)
    clear HBD has
    go_wp2_with fail
    refine CAH.out.mono ?_
    rintro e w3 ⟨rfl, hb3⟩
    have B3 := hide (bthen HBR.out hb3)
    have D3 := hide (bthen HB2.out hb3)
    have HO3 := hide (row_below HO.out hb3)
    clear hb3 CAH HO
    go_wp2_with fail
    refine (CM.out _).mono ?_
    rintro e w4 ⟨rfl, rfl⟩
    go_wp2_with (at_builtin; go_must (refine append_ints (w0 := w2) rfl _ _ rfl _ k p rfl (HO3.out.alloc _) (some ⟨w4.heap.size, 0, none⟩) 1 _ [n] rfl rfl (Is.slot_one _ _ _) (came_some _ _ _) (by omega) (balloc D3.out _) ?_))
    intro v' w5 hnew hb5
    obtain ⟨no, nc, rfl⟩ := row_slice hnew
    have HNW := hide hnew
    have D5 := hide hb5
    clear hnew hb5
    go_wp2_with fail
    exact ⟨⟨k + 1, no, nc, p ++ [n], by go_num, rfl, by omega, hide HNP.out.symm, HNA, HNW.out, D5.out⟩, by simp [intOf] <;> omega⟩
   have hna : Is.as n = false := (Is.as_not n).2 (by omega)
   obtain ⟨rfl, rfl⟩ := HBD.out hna
   have CAH := hide CA
   clear CA HBD HNP HNA hna
   go_wp2_with fail
   refine CAH.out.mono ?_
   rintro e w3 ⟨N, rfl, hb3⟩
   have B3 := hide (bthen HBR.out hb3)
   clear hb3 CAH
   go_wp2_with fail
   exact bodyPost_ret (v := .tuple #[.slice none 0 0, .int .i64 7]) (by simp [results, Tryz.results167, go_sem]) rfl (path_none _ _ B3.out)
  obtain rfl : k = ws.length := by omega
  have hcs := HEND.out fun j hj => HAS.out j hj hj
  have hpp := HP.out
  rw [List.take_length] at hpp
  rcases hcs with ⟨h16, rfl, rfl⟩ | ⟨h16, hy, rfl⟩
  ·
   have h16' : (16 : Int) < (ws.length : Int) := by omega
   clear hpp
   go_wp2_with fail
   exact bodyPost_ret (v := .tuple #[.slice none 0 0, .int .i64 2]) (by simp [results, Tryz.results167, go_sem]) rfl (path_none _ _ HBR.out)
  have h16' : ¬ (16 : Int) < (ws.length : Int) := by omega
  obtain rfl : p = y := by rw [hy, hpp]
  have HPL : Hid (p.length = ws.length) := by show _ = _; rw [hpp, List.length_map]
  clear hpp hy
  go_wp2_with fail
  exact bodyPost_ret (v := .tuple #[.slice o ws.length c, .int .i64 0]) (by simp [results, Tryz.results167, go_sem]) rfl ⟨o, c, by rw [HPL.out], by rw [HPL.out]; exact own_mono HO.out B2.out.size, HBR.out⟩
end Go.Proofs.YtnadhplhnfpeaaaGreatDoor.Ar.Y4
