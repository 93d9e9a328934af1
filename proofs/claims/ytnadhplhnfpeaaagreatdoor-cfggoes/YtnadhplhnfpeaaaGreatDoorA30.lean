/- Part of the proof. -/
import Derived.Test.YtnadhplhnfpeaaaGreatDoorAZ
import Derived.Test.YtnadhplhnfpeaaaGreatDoorA27
import Derived.Test.YtnadhplhnfpeaaaGreatDoorA28
import Derived.Test.YtnadhplhnfpeaaaGreatDoorA29
namespace Go.Proofs.YtnadhplhnfpeaaaGreatDoor.Kn
open Go.RowKit Go.Sort
theorem isNm_num (s : ByteArray) : isNm s = Ar.Ad.isNum s.data.toList := by
 by_cases hp : 0 < s.size
 ·
  have hd : Ar.Ad.digs s.data.toList = s.data.toList.all dgtC := by
   unfold Ar.Ad.digs
   congr 1
   funext c
   unfold dgtC
   rw [Bool.eq_iff_iff]
   simp
   omega
  unfold isNm
  rw [dif_pos hp]
  by_cases hz : (s[0].toNat : Int) = 48 ∧ 1 < s.size
  ·
   rw [if_pos hz]
   exact (Ar.Y4.num_zero s hp (by omega) hz.2).symm
  rw [if_neg hz, Ar.Y4.num_digs s hp (fun h => hz ⟨by omega, h.2⟩), hd]
 obtain rfl : s = ⟨#[]⟩ := ByteArray.ext (Array.eq_empty_of_size_eq_zero (by show s.size = 0; omega))
 rfl
def numF (s : ByteArray) (a b : Int) : Int × Int := if isNm s = false then (0, 4) else match Lib.atoiAll s.data.toList with
  | .ok v => if v < a ∨ b < v then (0, 7) else (v, 0)
  | _ => (0, 7)
set_option maxHeartbeats 2000000 in
set_option maxRecDepth 100000 in
theorem number_is (s : ByteArray) (a b : Int) (hs : s.size ≤ 1000) (w0 w : World) (hT : Ar.Y4.Pt w0) (hw : Below w0.heap.size w0 w) : Calls Tryz.prog 7 #[.string s, .int .i64 a, .int .i64 b] w fun e w' => e = .returned (.tuple #[.int .i64 (numF s a b).1, .int .i64 (numF s a b).2]) ∧ Below w.heap.size w w' := by
 have CI := hide (isNumber_is s hs w)
 obtain ⟨x, y, hR⟩ : ∃ x y, numF s a b = (x, y) := ⟨_, _, rfl⟩
 rw [hR]
 unfold numF at hR
 cases hn : isNm s
 ·
  rw [hn] at CI
  rw [if_pos hn] at hR
  simp only [Prod.mk.injEq] at hR
  obtain ⟨rfl, rfl⟩ := hR
  clear hn hT hw
  go_enter Tryz.func7, Tryz.ntmps7
  go_wp2_with fail
  refine CI.out.mono ?_
  rintro e w1 ⟨rfl, hb1⟩
  have B1 := hide hb1
  clear hb1
  go_wp2_with fail
  exact bodyPost_ret (v := .tuple #[.int .i64 0, .int .i64 4]) (by simp [results, Tryz.results7, go_sem]) rfl ⟨rfl, B1.out⟩
 rw [if_neg (by rw [hn]; decide)] at hR
 have hi : Ar.Ad.isNum s.data.toList = true := by rw [← isNm_num]; exact hn
 rw [hn] at CI
 clear hn
 have HT := hide (fun W (hb : Below w.heap.size w W) => Ar.Y4.Pt.on (Ar.Y4.Pt.on hT hw) hb)
 rcases Ar.Y4.atoi_num _ hi with ha | ⟨ha, _⟩
 ·
  generalize Ar.Ad.num s.data.toList = v at *
  rw [ha] at hR
  replace hR : (if v < a ∨ b < v then ((0 : Int), (7 : Int)) else (v, 0)) = (x, y) := hR
  have CA := hide (fun W => Tryz.strconv_Atoi_ok s (by omega) v ha W)
  clear ha hi hT hw
  by_cases h1 : v < a
  ·
   rw [if_pos (.inl h1)] at hR
   simp only [Prod.mk.injEq] at hR
   obtain ⟨rfl, rfl⟩ := hR
   go_enter Tryz.func7, Tryz.ntmps7
   go_wp2_with fail
   refine CI.out.mono ?_
   rintro e w1 ⟨rfl, hb1⟩
   have B1 := hide hb1
   clear hb1
   go_wp2_with fail
   refine (CA.out _).mono ?_
   rintro e w2 ⟨rfl, h2⟩
   have B2 := hide (show Below w1.heap.size w1 w2 by rcases h2 with rfl | ⟨u, rfl⟩; exact brefl _; exact Lib.bytesWorld_below w1 5 u)
   clear h2
   go_wp2_with fail
   exact bodyPost_ret (v := .tuple #[.int .i64 0, .int .i64 7]) (by simp [results, Tryz.results7, go_sem]) rfl ⟨rfl, bthen B1.out B2.out⟩
  by_cases h3 : b < v
  ·
   rw [if_pos (.inr h3)] at hR
   simp only [Prod.mk.injEq] at hR
   obtain ⟨rfl, rfl⟩ := hR
   go_enter Tryz.func7, Tryz.ntmps7
   go_wp2_with fail
   refine CI.out.mono ?_
   rintro e w1 ⟨rfl, hb1⟩
   have B1 := hide hb1
   clear hb1
   go_wp2_with fail
   refine (CA.out _).mono ?_
   rintro e w2 ⟨rfl, h2⟩
   have B2 := hide (show Below w1.heap.size w1 w2 by rcases h2 with rfl | ⟨u, rfl⟩; exact brefl _; exact Lib.bytesWorld_below w1 5 u)
   clear h2
   go_wp2_with fail
   exact bodyPost_ret (v := .tuple #[.int .i64 0, .int .i64 7]) (by simp [results, Tryz.results7, go_sem]) rfl ⟨rfl, bthen B1.out B2.out⟩
  rw [if_neg (by rintro (h | h) <;> contradiction)] at hR
  simp only [Prod.mk.injEq] at hR
  obtain ⟨rfl, rfl⟩ := hR
  go_enter Tryz.func7, Tryz.ntmps7
  go_wp2_with fail
  refine CI.out.mono ?_
  rintro e w1 ⟨rfl, hb1⟩
  have B1 := hide hb1
  clear hb1
  go_wp2_with fail
  refine (CA.out _).mono ?_
  rintro e w2 ⟨rfl, h2⟩
  have B2 := hide (show Below w1.heap.size w1 w2 by rcases h2 with rfl | ⟨u, rfl⟩; exact brefl _; exact Lib.bytesWorld_below w1 5 u)
  clear h2
  go_wp2_with fail
  exact bodyPost_ret (v := .tuple #[.int .i64 v, .int .i64 0]) (by simp [results, Tryz.results7, go_sem]) rfl ⟨rfl, bthen B1.out B2.out⟩
 rw [ha] at hR
 replace hR : ((0 : Int), (7 : Int)) = (x, y) := hR
 simp only [Prod.mk.injEq] at hR
 obtain ⟨rfl, rfl⟩ := hR
 have CA : Hid (∀ W, Below w.heap.size w W → Calls Tryz.prog 17 #[.string s] W fun e w' => ∃ N : Nat, e = .returned (.tuple #[.int .i64 (Lib.atoiSat s.data.toList), .iface 120 (.pointer (some ⟨N, 0, none⟩))]) ∧ Below W.heap.size W w') := by
  intro W hb
  obtain ⟨_, ev, h2, h3⟩ := HT.out W hb
  refine (Tryz.strconv_Atoi_range s (by omega) ha ev W h2 h3).mono ?_
  rintro e w' ⟨N, rfl, _, _, h⟩
  exact ⟨N, rfl, h⟩
 generalize Lib.atoiSat s.data.toList = v at *
 clear ha hi hT hw HT
 go_enter Tryz.func7, Tryz.ntmps7
 go_wp2_with fail
 refine CI.out.mono ?_
 rintro e w1 ⟨rfl, hb1⟩
 have B1 := hide hb1
 clear hb1
 go_wp2_with fail
 refine (CA.out _ B1.out).mono ?_
 rintro e w2 ⟨N, rfl, hb2⟩
 have B2 := hide hb2
 clear hb2
 go_wp2_with fail
 exact bodyPost_ret (v := .tuple #[.int .i64 0, .int .i64 7]) (by simp [results, Tryz.results7, go_sem]) rfl ⟨rfl, bthen B1.out B2.out⟩
theorem num_fits (s : ByteArray) (a b : Int) : (numF s a b).1 = 0 ∨ a ≤ (numF s a b).1 ∧ (numF s a b).1 ≤ b := by
 unfold numF
 split
 ·
  exact .inl rfl
 split
 ·
  split
  ·
   exact .inl rfl
  rename_i h
  exact .inr ⟨by simp only; omega, by simp only; omega⟩
 exact .inl rfl
end Go.Proofs.YtnadhplhnfpeaaaGreatDoor.Kn
namespace Go.Proofs.YtnadhplhnfpeaaaGreatDoor.Ar
open Go.RowKit Go.Sort
theorem isAt_cong {r r' : Bs} (h : Px.skip r' = Px.skip r) (c : UInt8) : Px.isAt r' c = Px.isAt r c := by unfold Px.isAt; rw [h]
theorem next_cong {r r' : Bs} (h : Px.skip r' = Px.skip r) : Px.next r' = Px.next r := by unfold Px.next; rw [h]
theorem digits_cong {r r' : Bs} (h : Px.skip r' = Px.skip r) : Px.digits r' = Px.digits r := by unfold Px.digits; rw [h]
theorem number_cong {r r' : Bs} (h : Px.skip r' = Px.skip r) : Px.number r' = Px.number r := by rw [number_res, number_res, digits_cong h, h]
theorem sign_cong {r r' : Bs} (h : Px.skip r' = Px.skip r) : Px.sign r' = Px.sign r := by unfold Px.sign; rw [isAt_cong h, isAt_cong h, isAt_cong h]
theorem set_cong {r r' : Bs} (h : Px.skip r' = Px.skip r) (f : Nat) (acc : List Prt) : Px.set f acc r' = Px.set f acc r := by
 cases f with
 | zero => rfl
 | succ f => rw [Px.set, Px.set, isAt_cong h, number_cong h, next_cong h]
theorem atom_cong {r r' : Bs} (h : Px.skip r' = Px.skip r) (ch : Rdr) : Px.atom ch r' = Px.atom ch r := by
 unfold Px.atom
 rw [isAt_cong h, isAt_cong h, isAt_cong h, number_cong h, next_cong h]
theorem row_cong {r r' : Bs} (h : Px.skip r' = Px.skip r) (ch : Rdr) (f : Nat) (acc : List Nd) : Px.row ch f acc r' = Px.row ch f acc r := by
 cases f with
 | zero => rfl
 | succ f => rw [Px.row, Px.row, h]
theorem set_fuel : ∀ (f g : Nat) (acc : List Prt) (r : Bs), r.length < f → r.length < g → Px.set f acc r = Px.set g acc r
  | 0, _, _, _, h, _ => by omega
  | _, 0, _, _, _, h => by omega
  | f + 1, g + 1, acc, r, hf, hg => by
    rw [Px.set, Px.set]
    split
    · rfl
    · split
      · rfl
      · rename_i a k hn
        have h1 := (Px.number_suf hn).2
        split
        · rename_i h45
          have h2 := Px.next_len h45
          split
          · rfl
          · rename_i b k2 hn2
            have h3 := (Px.number_suf hn2).2
            split
            · rfl
            · exact set_fuel f g _ k2 (by omega) (by omega)
        · exact set_fuel f g _ k (by omega) (by omega)
theorem row_fuel {ch : Rdr} (hc : Px.Suf ch) : ∀ (f g : Nat) (acc : List Nd) (r : Bs), r.length < f → r.length < g → Px.row ch f acc r = Px.row ch g acc r
  | 0, _, _, _, h, _ => by omega
  | _, 0, _, _, _, h => by omega
  | f + 1, g + 1, acc, r, hf, hg => by
    rw [Px.row, Px.row]
    have hs := (Px.skip_suf r).length_le
    split
    · rfl
    · rename_i c t he
      rw [he] at hs
      split
      · split
        · rfl
        · rename_i n k hi
          have h1 := (Px.item_suf hc hi).2
          exact row_fuel hc f g _ k (by omega) (by omega)
      · rfl
theorem rows_fuel {ch : Rdr} (hc : Px.Suf ch) : ∀ (f g : Nat) (acc : List (List Nd)) (r : Bs), r.length < f → r.length < g → Px.rows ch f acc r = Px.rows ch g acc r
  | 0, _, _, _, h, _ => by omega
  | _, 0, _, _, _, h => by omega
  | f + 1, g + 1, acc, r, hf, hg => by
    rw [Px.rows, Px.rows]
    split
    · rfl
    · rename_i row k hr
      have h1 := (Px.row_suf hc _ _ _ _ _ hr).length_le
      split
      · rename_i h124
        have h2 := Px.next_len h124
        exact rows_fuel hc f g _ _ (by omega) (by omega)
      · rfl
theorem rows_cong {r r' : Bs} (h : Px.skip r' = Px.skip r) {ch : Rdr} (hc : Px.Suf ch) (f : Nat) (acc : List (List Nd)) : Px.rows ch f acc r' = Px.rows ch f acc r := by
 cases f with
 | zero => rfl
 | succ f =>
  have e : ∀ u : Bs, Px.row ch (u.length + 1) [] u = Px.row ch ((Px.skip u).length + 1) [] (Px.skip u) := fun u => by
   have := (Px.skip_suf u).length_le
   rw [← row_cong (Px.skip_idem u), row_fuel hc (u.length + 1) ((Px.skip u).length + 1) [] (Px.skip u) (by omega) (by omega)]
  rw [Px.rows, Px.rows, e r', e r, h]
theorem choice_cong {r r' : Bs} (h : Px.skip r' = Px.skip r) (d : Nat) : Px.choice d r' = Px.choice d r := by
 cases d with
 | zero => rfl
 | succ d =>
  have e : ∀ u : Bs, Px.rows (Px.choice d) (u.length + 1) [] u = Px.rows (Px.choice d) ((Px.skip u).length + 1) [] (Px.skip u) := fun u => by
   have := (Px.skip_suf u).length_le
   rw [← rows_cong (Px.skip_idem u) (Px.choice_suf d), rows_fuel (Px.choice_suf d) (u.length + 1) ((Px.skip u).length + 1) [] (Px.skip u) (by omega) (by omega)]
  rw [Px.choice, Px.choice, e r', e r, h]
def partRes (r : Bs) : Except Int (Prt × Bs) :=
  match Px.number r with
  | .error e => .error e
  | .ok (a, k) =>
    if Px.isAt k 45 = true then
      match Px.number (Px.next k) with
      | .error e => .error e
      | .ok (b, k2) => if b < a then .error 7 else .ok ((a, b, true), k2)
    else .ok ((a, a, false), k)
theorem partRes_suf {r : Bs} {p : Prt} {k : Bs} (h : partRes r = .ok (p, k)) : k.length < r.length := by
 unfold partRes at h
 split at h
 ·
  cases h
 rename_i a k1 hn
 have h1 := (Px.number_suf hn).2
 split at h
 ·
  rename_i h45
  have h2 := Px.next_len h45
  split at h
  ·
   cases h
  rename_i b k2 hn2
  have h3 := (Px.number_suf hn2).2
  split at h
  ·
   cases h
  simp only [Except.ok.injEq, Prod.mk.injEq] at h
  obtain ⟨_, rfl⟩ := h
  omega
 simp only [Except.ok.injEq, Prod.mk.injEq] at h
 obtain ⟨_, rfl⟩ := h
 exact h1
theorem set_part {f : Nat} {acc : List Prt} {r : Bs} (h : ¬ (acc ≠ [] ∧ Px.isAt r 93 = true)) : Px.set (f + 1) acc r = (match partRes r with | .error e => .error e | .ok (p, k) => Px.set f (acc ++ [p]) k) := by
 rw [Px.set, if_neg h]
 unfold partRes
 cases Px.number r with
 | error e => rfl
 | ok z =>
  obtain ⟨a, k⟩ := z
  simp only
  by_cases h45 : Px.isAt k 45 = true
  ·
   rw [if_pos h45, if_pos h45]
   cases Px.number (Px.next k) with
   | error e => rfl
   | ok y =>
    obtain ⟨b, k2⟩ := y
    simp only
    by_cases hlt : b < a
    ·
     rw [if_pos hlt, if_pos hlt]
    rw [if_neg hlt, if_neg hlt]
  rw [if_neg h45, if_neg h45]
def Box3 (w : World) (b : Nat) (x0 x1 x2 : Value) : Prop := w.cell? ⟨b, 0, none⟩ = some x0 ∧ w.cell? ⟨b, 1, none⟩ = some x1 ∧ w.cell? ⟨b, 2, none⟩ = some x2
theorem box3_new (W : World) (x0 x1 x2 : Value) (t : TypeId) : Box3 (W.alloc (.cells #[x0, x1, x2] t)) W.heap.size x0 x1 x2 := ⟨by simp, by simp, by simp⟩
theorem box3_of {w w' : World} {b : Nat} {x0 x1 x2 : Value} (h : Box3 w b x0 x1 x2) (hb : w'.heap[b]? = w.heap[b]?) : Box3 w' b x0 x1 x2 := by
 have e : ∀ o, w'.cell? ⟨b, o, none⟩ = w.cell? ⟨b, o, none⟩ := fun o => World.cell?_of_block (a := ⟨b, o, none⟩) hb
 exact ⟨(e 0).trans h.1, (e 1).trans h.2.1, (e 2).trans h.2.2⟩
theorem box3_lt {w : World} {b : Nat} {x0 x1 x2 : Value} (h : Box3 w b x0 x1 x2) : b < w.heap.size := block_lt_of_cell h.1
theorem box3_but {w w' : World} {b c : Nat} {x0 x1 x2 : Value} (h : Box3 w c x0 x1 x2) (hb : But b w w') (hc : c ≠ b) : Box3 w' c x0 x1 x2 := box3_of h (hb.block c hc (box3_lt h))
theorem box3_below {w w' : World} {c : Nat} {x0 x1 x2 : Value} (h : Box3 w c x0 x1 x2) (hb : Below w.heap.size w w') : Box3 w' c x0 x1 x2 := box3_of h (hb.block c (box3_lt h))
theorem free_new (W : World) (cs : Array Value) (t : TypeId) : Free (W.alloc (.cells cs t)) W.heap.size := ⟨by simp, fun o => by simp [go_sem]⟩
def put3 (w : World) (g : Nat) (y0 y1 y2 : Value) : World := ((w.setCell ⟨g, 0, none⟩ y0).setCell ⟨g, 1, none⟩ y1).setCell ⟨g, 2, none⟩ y2
theorem put3_size (w : World) (g : Nat) (y0 y1 y2 : Value) : (put3 w g y0 y1 y2).heap.size = w.heap.size := by simp [put3]
theorem put3_other (w : World) (g : Nat) (y0 y1 y2 : Value) (k : Nat) (h : k ≠ g) : (put3 w g y0 y1 y2).heap[k]? = w.heap[k]? := by
 unfold put3
 rw [heap_setCell_ne _ _ _ _ _ h, heap_setCell_ne _ _ _ _ _ h, heap_setCell_ne _ _ _ _ _ h]
theorem put3_but {b : Nat} {W w : World} {g : Nat} (h : But b W w) (hg : g = b ∨ W.heap.size ≤ g) (y0 y1 y2 : Value) : But b W (put3 w g y0 y1 y2) :=
  ((h.setCell (p := ⟨g, 0, none⟩) hg y0).setCell (p := ⟨g, 1, none⟩) hg y1).setCell (p := ⟨g, 2, none⟩) hg y2
theorem put3_rd {w : World} {b g : Nat} {r : Bs} {d : Nat} {q : Int} (h : Rd w b r d q) (hg : g ≠ b) (y0 y1 y2 : Value) : Rd (put3 w g y0 y1 y2) b r d q :=
  ((h.other (p := ⟨g, 0, none⟩) hg y0).other (p := ⟨g, 1, none⟩) hg y1).other (p := ⟨g, 2, none⟩) hg y2
theorem put3_box {w : World} {g : Nat} {x0 x1 x2 : Value} (h : Box3 w g x0 x1 x2) (y0 y1 y2 : Value) : Box3 (put3 w g y0 y1 y2) g y0 y1 y2 := by
 obtain ⟨c0, c1, c2⟩ := h
 unfold put3
 refine ⟨?_, ?_, ?_⟩ <;> simp [go_sem, c0, c1, c2]
theorem box3_range {w : World} {g : Nat} {y0 y1 y2 : Value} (h : Box3 w g y0 y1 y2) : w.rangeAt g 0 [y0, y1, y2] := by
 obtain ⟨c0, c1, c2⟩ := h
 intro j v hj
 rw [Nat.zero_add]
 match j, hj with
 | 0, hj => simp at hj; subst hj; exact c0
 | 1, hj => simp at hj; subst hj; exact c1
 | 2, hj => simp at hj; subst hj; exact c2
theorem info59 : (Tryz.prog.info? 199).map (·.size) = some 3 := by kernel_rfl
theorem info84 : (Tryz.prog.info? 229).map (·.size) = some 3 := by kernel_rfl
theorem res_n {fn : Func} {p : Tmp} (h : fn.results = #[.cell p 199]) (tmps : Array Value) (w : World) (g : Nat) {y0 y1 y2 : Value} (hp : tmps.getD p undef = .pointer (some ⟨g, 0, none⟩)) (hg : Box3 w g y0 y1 y2) :
    (results fn tmps).run Tryz.prog w = .ok (.agg #[y0, y1, y2]) w := by
 have hp' : tmps[p]?.getD undef = .pointer (some ⟨g, 0, none⟩) := by simpa using hp
 have hl := run_loadVar_mid (P := Tryz.prog) w g 0 199 _ _ (box3_range hg) Tryz.underlying199 rfl (by rw [info59]; rfl)
 simp [results, h, hp', asAddr, hl]
theorem res_nb {fn : Func} {p a : Tmp} (h : fn.results = #[.cell p 199, .tmp a]) (tmps : Array Value) (w : World) (g : Nat) {y0 y1 y2 va : Value} (hp : tmps.getD p undef = .pointer (some ⟨g, 0, none⟩)) (ha : tmps.getD a undef = va) (hg : Box3 w g y0 y1 y2) :
    (results fn tmps).run Tryz.prog w = .ok (.tuple #[.agg #[y0, y1, y2], va]) w := by
 have hp' : tmps[p]?.getD undef = .pointer (some ⟨g, 0, none⟩) := by simpa using hp
 have ha' : tmps[a]?.getD undef = va := by simpa using ha
 have hl := run_loadVar_mid (P := Tryz.prog) w g 0 199 _ _ (box3_range hg) Tryz.underlying199 rfl (by rw [info59]; rfl)
 simp [results, h, hp', ha', asAddr, hl]
theorem res_p {fn : Func} {p : Tmp} (h : fn.results = #[.cell p 229]) (tmps : Array Value) (w : World) (g : Nat) {y0 y1 y2 : Value} (hp : tmps.getD p undef = .pointer (some ⟨g, 0, none⟩)) (hg : Box3 w g y0 y1 y2) :
    (results fn tmps).run Tryz.prog w = .ok (.agg #[y0, y1, y2]) w := by
 have hp' : tmps[p]?.getD undef = .pointer (some ⟨g, 0, none⟩) := by simpa using hp
 have hl := run_loadVar_mid (P := Tryz.prog) w g 0 229 _ _ (box3_range hg) Tryz.underlying229 rfl (by rw [info84]; rfl)
 simp [results, h, hp', asAddr, hl]
def PartGood (b : Nat) (W : World) (d : Nat) (R : Except Int (Prt × Bs)) (e : Ending) (w' : World) : Prop :=
  But b W w' ∧ match R with
  | .ok (p, k) => ∃ k', Px.skip k' = Px.skip k ∧ k'.length ≤ k.length ∧ e = .returned (.agg #[.int .i64 p.1, .int .i64 p.2.1, .bool p.2.2]) ∧ Rd w' b k' d 0
  | .error v => ∃ (x y : Int) (z : Bool), e = .returned (.agg #[.int .i64 x, .int .i64 y, .bool z]) ∧ Rd w' b [] d v
abbrev zPart : Obj := .cells #[.int .i64 0, .int .i64 0, .bool false] 229
set_option maxHeartbeats 8000000 in
theorem part_is {T : World → Prop} (K : ReadKit T) {W : World} {b : Nat} {r : Bs} {d : Nat} (h : Rd W b r d 0) (hT : Ty T b W) (hl : r.length ≤ 2000) :
    Calls Tryz.prog 166 #[.pointer (some ⟨b, 0, none⟩)] W (PartGood b W d (partRes r)) := by
 have hne : W.heap.size ≠ b := by have := h.lt; omega
 have CD := hide (digits_is K.trims (h.alloc zPart) hl)
 have CN := hide (fun w hR hT => rnumber_is K (W := w) (b := b) (r := (Px.skip r).dropWhile Ad.dig) (d := d) (q := 0) hR hT (Px.digits r) (digits_no r) (Nat.le_trans (digits_len r) hl))
 have HB := hide (box3_new W (.int .i64 0) (.int .i64 0) (.bool false) 229)
 have HF := hide (free_new W #[.int .i64 0, .int .i64 0, .bool false] 229)
 have B0 := hide ((But.refl b W).alloc zPart)
 have HT := hide (hT.but B0.out)
 have HX : Hid (partRes r = (match numRes (Px.digits r) with | .error e => .error e | .ok a => (if Px.isAt ((Px.skip r).dropWhile Ad.dig) 45 = true then
    match Px.number (Px.next ((Px.skip r).dropWhile Ad.dig)) with
    | .error e => .error e
    | .ok (b, k2) => if b < a then .error 7 else .ok ((a, b, true), k2)
  else .ok ((a, a, false), (Px.skip r).dropWhile Ad.dig)))) := by
  show _ = _
  unfold partRes
  rw [number_res]
  cases numRes (Px.digits r) <;> rfl
 have hkl : ((Px.skip r).dropWhile Ad.dig).length ≤ 2000 := by
  have h1 := takeWhile_len Ad.dig (Px.skip r)
  have h2 := (Px.skip_suf r).length_le
  omega
 generalize partRes r = R at *
 generalize Px.digits r = ds at *
 generalize (Px.skip r).dropWhile Ad.dig = k at *
 clear h hl hT
 cases hn : numRes ds with
 | error v =>
  have hv := numRes_err hn
  rw [hn] at HX CN
  have HX2 : Hid (R = .error v) := HX.out
  clear HX hn
  go_enter Tryz.func166, Tryz.ntmps166
  go_wp2_with fail
  refine CD.out.mono ?_
  rintro e w1 ⟨rfl, hB, hR⟩
  have B1 := hide (B0.out.trans hB)
  have CN1 := hide (CN.out w1 hR (HT.out.but hB))
  have HB1 := hide (box3_but HB.out hB hne)
  have HF1 := hide (hB.free HF.out hne)
  clear hB hR CD CN
  go_wp2_with fail
  refine CN1.out.mono ?_
  rintro e w2 ⟨hB, rfl, hR⟩
  have B2 := hide (B1.out.trans hB)
  have R2 := hide (show Rd w2 b [] d v by simpa using hR)
  have CT := hide (take_is K.trims R2.out 45 45 rfl false rfl [] rfl)
  have HB2 := hide (box3_but HB1.out hB hne)
  have HF2 := hide (hB.free HF1.out hne)
  clear hB hR CN1
  go_wp2_with fail
  refine CT.out.mono ?_
  rintro e w3 ⟨rfl, hB, hR⟩
  have B3 := hide (B2.out.trans hB)
  have R3 := hide hR
  have HB3 := hide (box3_but HB2.out hB hne)
  obtain ⟨c0, c1, c2⟩ := HB3.out
  have fr := (hB.free HF2.out hne).2
  have f0 := fr 0
  have f1 := fr 1
  have f2 := fr 2
  clear hB hR CT fr
  go_wp2_with fail
  change bodyPost Tryz.prog Tryz.f166 (PartGood b W d R) Exit.ret _ (put3 w3 W.heap.size (.int .i64 0) (.int .i64 0) (.bool false))
  refine bodyPost_ret (v := .agg #[.int .i64 0, .int .i64 0, .bool false]) (res_p Tryz.results166 _ _ W.heap.size rfl (put3_box HB3.out _ _ _)) rfl ?_
  rw [HX2.out]
  exact ⟨put3_but B3.out (.inr (Nat.le_refl _)) _ _ _, 0, 0, false, rfl, put3_rd R3.out hne _ _ _⟩
 | ok a =>
  rw [hn] at HX CN
  have ha := numRes_as hn
  have HX := hide HX.out
  clear hn
  cases h45 : Px.isAt k 45 with
  | false =>
   have HX2 : Hid (R = .ok ((a, a, false), k)) := by
    show _ = _
    rw [HX.out]
    simp only [h45]
    rfl
   clear HX
   go_enter Tryz.func166, Tryz.ntmps166
   go_wp2_with fail
   refine CD.out.mono ?_
   rintro e w1 ⟨rfl, hB, hR⟩
   have B1 := hide (B0.out.trans hB)
   have CN1 := hide (CN.out w1 hR (HT.out.but hB))
   have HB1 := hide (box3_but HB.out hB hne)
   have HF1 := hide (hB.free HF.out hne)
   clear hB hR CD CN
   go_wp2_with fail
   refine CN1.out.mono ?_
   rintro e w2 ⟨hB, rfl, hR⟩
   have B2 := hide (B1.out.trans hB)
   have CT := hide (take_is K.trims hR 45 45 rfl false h45 (Px.skip k) (by simp))
   have HB2 := hide (box3_but HB1.out hB hne)
   have HF2 := hide (hB.free HF1.out hne)
   clear hB hR CN1 h45
   go_wp2_with fail
   refine CT.out.mono ?_
   rintro e w3 ⟨rfl, hB, hR⟩
   have B3 := hide (B2.out.trans hB)
   have R3 := hide hR
   have HB3 := hide (box3_but HB2.out hB hne)
   obtain ⟨c0, c1, c2⟩ := HB3.out
   have fr := (hB.free HF2.out hne).2
   have f0 := fr 0
   have f1 := fr 1
   have f2 := fr 2
   clear hB hR CT fr
   go_wp2_with fail
   change bodyPost Tryz.prog Tryz.f166 (PartGood b W d R) Exit.ret _ (put3 w3 W.heap.size (.int .i64 a) (.int .i64 a) (.bool false))
   refine bodyPost_ret (v := .agg #[.int .i64 a, .int .i64 a, .bool false]) (res_p Tryz.results166 _ _ W.heap.size rfl (put3_box HB3.out _ _ _)) rfl ?_
   rw [HX2.out]
   exact ⟨put3_but B3.out (.inr (Nat.le_refl _)) _ _ _, Px.skip k, Px.skip_idem k, (Px.skip_suf k).length_le, rfl, put3_rd R3.out hne _ _ _⟩
  | true =>
   have hkn : (Px.next k).length ≤ 2000 := Nat.le_trans (Px.next_suf k).length_le hkl
   have hkn2 : ((Px.skip (Px.next k)).dropWhile Ad.dig).length ≤ 2000 := by
    have h1 := takeWhile_len Ad.dig (Px.skip (Px.next k))
    have h2 := (Px.skip_suf (Px.next k)).length_le
    omega
   have HX1 : Hid (R = (match numRes (Px.digits (Px.next k)) with | .error e => .error e | .ok b => if b < a then .error 7 else .ok ((a, b, true), (Px.skip (Px.next k)).dropWhile Ad.dig))) := by
    show _ = _
    rw [HX.out]
    simp only [h45, if_true]
    rw [number_res]
    cases numRes (Px.digits (Px.next k)) <;> rfl
   have CD2 := hide (fun w hR => digits_is K.trims (W := w) (b := b) (r := Px.next k) (d := d) (q := 0) hR hkn)
   have CN2 := hide (fun w hR hT => rnumber_is K (W := w) (b := b) (r := (Px.skip (Px.next k)).dropWhile Ad.dig) (d := d) (q := 0) hR hT (Px.digits (Px.next k)) (digits_no _) (Nat.le_trans (digits_len _) hkn))
   have CT0 := hide (fun w hR => take_is K.trims (W := w) (b := b) (r := k) (d := d) (q := 0) hR 45 45 rfl true h45 (Px.next k) (by simp))
   generalize Px.digits (Px.next k) = ds2 at *
   generalize (Px.skip (Px.next k)).dropWhile Ad.dig = k2 at *
   generalize Px.next k = k1 at *
   clear HX h45 hkl
   cases hn2 : numRes ds2 with
   | error v =>
    have hv := numRes_err hn2
    have hv0 : v ≠ 0 := by rcases hv with rfl | rfl <;> decide
    rw [hn2] at HX1 CN2
    have HX2 : Hid (R = .error v) := HX1.out
    have ha1 := (Is.as_iff a).1 ha
    have hlt : (0 : Int) < a := by omega
    clear HX1 hn2 ha1 ha
    go_enter Tryz.func166, Tryz.ntmps166
    go_wp2_with fail
    refine CD.out.mono ?_
    rintro e w1 ⟨rfl, hB, hR⟩
    have B1 := hide (B0.out.trans hB)
    have HT1 := hide (HT.out.but hB)
    have CN1 := hide (CN.out w1 hR HT1.out)
    have HB1 := hide (box3_but HB.out hB hne)
    have HF1 := hide (hB.free HF.out hne)
    clear hB hR CD CN
    go_wp2_with fail
    refine CN1.out.mono ?_
    rintro e w2 ⟨hB, rfl, hR⟩
    have B2 := hide (B1.out.trans hB)
    have CT := hide (CT0.out w2 hR)
    have HT2 := hide (HT1.out.but hB)
    have HB2 := hide (box3_but HB1.out hB hne)
    have HF2 := hide (hB.free HF1.out hne)
    clear hB hR CN1 CT0
    go_wp2_with fail
    refine CT.out.mono ?_
    rintro e w3 ⟨rfl, hB, hR⟩
    have B3 := hide (B2.out.trans hB)
    have CD3 := hide (CD2.out w3 hR)
    have HT3 := hide (HT2.out.but hB)
    have HB3 := hide (box3_but HB2.out hB hne)
    have HF3 := hide (hB.free HF2.out hne)
    clear hB hR CT CD2
    go_wp2_with fail
    refine CD3.out.mono ?_
    rintro e w4 ⟨rfl, hB, hR⟩
    have B4 := hide (B3.out.trans hB)
    have CN4 := hide (CN2.out w4 hR (HT3.out.but hB))
    have HB4 := hide (box3_but HB3.out hB hne)
    have HF4 := hide (hB.free HF3.out hne)
    clear hB hR CD3 CN2
    go_wp2_with fail
    refine CN4.out.mono ?_
    rintro e w5 ⟨hB, rfl, hR⟩
    have B5 := hide (B4.out.trans hB)
    have R5 := hide (show Rd w5 b [] d v by simpa using hR)
    have CF := hide (rfail_is R5.out 7 v (by rw [if_neg hv0]))
    have HB5 := hide (box3_but HB4.out hB hne)
    have HF5 := hide (hB.free HF4.out hne)
    clear hB hR CN4
    go_wp2_with fail
    refine CF.out.mono ?_
    rintro e w6 ⟨rfl, hB, hR⟩
    have B6 := hide (B5.out.trans hB)
    have R6 := hide hR
    have HB6 := hide (box3_but HB5.out hB hne)
    obtain ⟨c0, c1, c2⟩ := HB6.out
    have fr := (hB.free HF5.out hne).2
    have f0 := fr 0
    have f1 := fr 1
    have f2 := fr 2
    clear hB hR CF fr
    go_wp2_with fail
    change bodyPost Tryz.prog Tryz.f166 (PartGood b W d R) Exit.ret _ (put3 w6 W.heap.size (.int .i64 a) (.int .i64 0) (.bool true))
    refine bodyPost_ret (v := .agg #[.int .i64 a, .int .i64 0, .bool true]) (res_p Tryz.results166 _ _ W.heap.size rfl (put3_box HB6.out _ _ _)) rfl ?_
    rw [HX2.out]
    exact ⟨put3_but B6.out (.inr (Nat.le_refl _)) _ _ _, a, 0, true, rfl, put3_rd R6.out hne _ _ _⟩
   | ok c =>
    rw [hn2] at HX1 CN2
    have HX1 := hide HX1.out
    clear hn2 ha
    by_cases hlt : c < a
    ·
     have HX2 : Hid (R = .error 7) := by
      show _ = _
      rw [HX1.out]
      simp only [hlt, if_true]
     clear HX1
     go_enter Tryz.func166, Tryz.ntmps166
     go_wp2_with fail
     refine CD.out.mono ?_
     rintro e w1 ⟨rfl, hB, hR⟩
     have B1 := hide (B0.out.trans hB)
     have HT1 := hide (HT.out.but hB)
     have CN1 := hide (CN.out w1 hR HT1.out)
     have HB1 := hide (box3_but HB.out hB hne)
     have HF1 := hide (hB.free HF.out hne)
     clear hB hR CD CN
     go_wp2_with fail
     refine CN1.out.mono ?_
     rintro e w2 ⟨hB, rfl, hR⟩
     have B2 := hide (B1.out.trans hB)
     have CT := hide (CT0.out w2 hR)
     have HT2 := hide (HT1.out.but hB)
     have HB2 := hide (box3_but HB1.out hB hne)
     have HF2 := hide (hB.free HF1.out hne)
     clear hB hR CN1 CT0
     go_wp2_with fail
     refine CT.out.mono ?_
     rintro e w3 ⟨rfl, hB, hR⟩
     have B3 := hide (B2.out.trans hB)
     have CD3 := hide (CD2.out w3 hR)
     have HT3 := hide (HT2.out.but hB)
     have HB3 := hide (box3_but HB2.out hB hne)
     have HF3 := hide (hB.free HF2.out hne)
     clear hB hR CT CD2
     go_wp2_with fail
     refine CD3.out.mono ?_
     rintro e w4 ⟨rfl, hB, hR⟩
     have B4 := hide (B3.out.trans hB)
     have CN4 := hide (CN2.out w4 hR (HT3.out.but hB))
     have HB4 := hide (box3_but HB3.out hB hne)
     have HF4 := hide (hB.free HF3.out hne)
     clear hB hR CD3 CN2
     go_wp2_with fail
     refine CN4.out.mono ?_
     rintro e w5 ⟨hB, rfl, hR⟩
     have B5 := hide (B4.out.trans hB)
     have CF := hide (rfail_is hR 7 7 rfl)
     have HB5 := hide (box3_but HB4.out hB hne)
     have HF5 := hide (hB.free HF4.out hne)
     clear hB hR CN4
     go_wp2_with fail
     refine CF.out.mono ?_
     rintro e w6 ⟨rfl, hB, hR⟩
     have B6 := hide (B5.out.trans hB)
     have R6 := hide hR
     have HB6 := hide (box3_but HB5.out hB hne)
     obtain ⟨c0, c1, c2⟩ := HB6.out
     have fr := (hB.free HF5.out hne).2
     have f0 := fr 0
     have f1 := fr 1
     have f2 := fr 2
     clear hB hR CF fr
     go_wp2_with fail
     change bodyPost Tryz.prog Tryz.f166 (PartGood b W d R) Exit.ret _ (put3 w6 W.heap.size (.int .i64 a) (.int .i64 c) (.bool true))
     refine bodyPost_ret (v := .agg #[.int .i64 a, .int .i64 c, .bool true]) (res_p Tryz.results166 _ _ W.heap.size rfl (put3_box HB6.out _ _ _)) rfl ?_
     rw [HX2.out]
     exact ⟨put3_but B6.out (.inr (Nat.le_refl _)) _ _ _, a, c, true, rfl, put3_rd R6.out hne _ _ _⟩
    have HX2 : Hid (R = .ok ((a, c, true), k2)) := by
     show _ = _
     rw [HX1.out]
     simp only [hlt, if_false]
    clear HX1
    go_enter Tryz.func166, Tryz.ntmps166
    go_wp2_with fail
    refine CD.out.mono ?_
    rintro e w1 ⟨rfl, hB, hR⟩
    have B1 := hide (B0.out.trans hB)
    have HT1 := hide (HT.out.but hB)
    have CN1 := hide (CN.out w1 hR HT1.out)
    have HB1 := hide (box3_but HB.out hB hne)
    have HF1 := hide (hB.free HF.out hne)
    clear hB hR CD CN
    go_wp2_with fail
    refine CN1.out.mono ?_
    rintro e w2 ⟨hB, rfl, hR⟩
    have B2 := hide (B1.out.trans hB)
    have CT := hide (CT0.out w2 hR)
    have HT2 := hide (HT1.out.but hB)
    have HB2 := hide (box3_but HB1.out hB hne)
    have HF2 := hide (hB.free HF1.out hne)
    clear hB hR CN1 CT0
    go_wp2_with fail
    refine CT.out.mono ?_
    rintro e w3 ⟨rfl, hB, hR⟩
    have B3 := hide (B2.out.trans hB)
    have CD3 := hide (CD2.out w3 hR)
    have HT3 := hide (HT2.out.but hB)
    have HB3 := hide (box3_but HB2.out hB hne)
    have HF3 := hide (hB.free HF2.out hne)
    clear hB hR CT CD2
    go_wp2_with fail
    refine CD3.out.mono ?_
    rintro e w4 ⟨rfl, hB, hR⟩
    have B4 := hide (B3.out.trans hB)
    have CN4 := hide (CN2.out w4 hR (HT3.out.but hB))
    have HB4 := hide (box3_but HB3.out hB hne)
    have HF4 := hide (hB.free HF3.out hne)
    clear hB hR CD3 CN2
    go_wp2_with fail
    refine CN4.out.mono ?_
    rintro e w5 ⟨hB, rfl, hR⟩
    have B5 := hide (B4.out.trans hB)
    have R5 := hide hR
    have HB5 := hide (box3_but HB4.out hB hne)
    obtain ⟨c0, c1, c2⟩ := HB5.out
    have fr := (hB.free HF4.out hne).2
    have f0 := fr 0
    have f1 := fr 1
    have f2 := fr 2
    clear hB hR CN4 fr
    go_wp2_with fail
    change bodyPost Tryz.prog Tryz.f166 (PartGood b W d R) Exit.ret _ (put3 w5 W.heap.size (.int .i64 a) (.int .i64 c) (.bool true))
    refine bodyPost_ret (v := .agg #[.int .i64 a, .int .i64 c, .bool true]) (res_p Tryz.results166 _ _ W.heap.size rfl (put3_box HB5.out _ _ _)) rfl ?_
    rw [HX2.out]
    exact ⟨put3_but B5.out (.inr (Nat.le_refl _)) _ _ _, k2, rfl, Nat.le_refl _, rfl, put3_rd R5.out hne _ _ _⟩
end Go.Proofs.YtnadhplhnfpeaaaGreatDoor.Ar
