/- Part of the proof. -/
import Derived.Test.YtnadhplhnfpeaaaGreatDoorAZ
import Derived.Test.YtnadhplhnfpeaaaGreatDoorA39
namespace Go.Proofs.YtnadhplhnfpeaaaGreatDoor.Lx
open Go.RowKit Go.Sort
def PredIs (f : Nat) (p : UInt8 → Bool) : Prop := (∀ (args : Array Value) (w : World), (callFunc f args).run Tryz.prog w = .ok (.enter f args) w) ∧ ∀ (c : UInt8) (w : World), Calls Tryz.prog f #[.int .u8 (c.toNat : Int)] w fun e w' => e = .returned (.bool (p c)) ∧ w' = w
theorem inLine_is : PredIs 33 rmk := by
 refine ⟨fun args w => by go_simp, fun c w => ?_⟩
 go_enter Tryz.func33, Tryz.ntmps33
 go_wp2_with fail
 all_goals
  go_ret
  refine ⟨ret_bool ?_, rfl⟩
  unfold rmk
  rw [Bool.eq_iff_iff]
  simp only [bne_iff_ne, decide_eq_true_eq, ne_eq]
  try omega
theorem isMark_is : PredIs 52 mrk := by
 refine ⟨fun args w => by go_simp, fun c w => ?_⟩
 go_enter Tryz.func52, Tryz.ntmps52
 go_wp2_with fail
 all_goals
  go_ret
  refine ⟨ret_bool ?_, rfl⟩
  unfold mrk
  rw [Bool.eq_iff_iff]
  simp only [Bool.or_eq_true, decide_eq_true_eq, beq_iff_eq, true_iff]
  try omega
set_option maxHeartbeats 1000000 in
set_option maxRecDepth 100000 in
theorem inWord_is : PredIs 54 ltr := by
 refine ⟨fun args w => by go_simp, fun c w => ?_⟩
 go_enter Tryz.func54, Tryz.ntmps54
 by_cases e1 : (c.toNat : Int) = 46
 ·
  have hl : ltr c = true := by unfold ltr; rw [show c.toNat = 46 by omega]; rfl
  rw [hl]
  clear hl
  go_wp2_with fail
  all_goals
   go_ret
   exact ⟨rfl, rfl⟩
 by_cases e2 : (c.toNat : Int) = 58
 ·
  have hl : ltr c = true := by unfold ltr; rw [show c.toNat = 58 by omega]; rfl
  rw [hl]
  clear hl
  go_wp2_with fail
  all_goals
   go_ret
   exact ⟨rfl, rfl⟩
 by_cases e3 : (c.toNat : Int) = 47
 ·
  have hl : ltr c = true := by unfold ltr; rw [show c.toNat = 47 by omega]; rfl
  rw [hl]
  clear hl
  go_wp2_with fail
  all_goals
   go_ret
   exact ⟨rfl, rfl⟩
 by_cases e4 : (c.toNat : Int) = 45
 ·
  have hl : ltr c = true := by unfold ltr; rw [show c.toNat = 45 by omega]; rfl
  rw [hl]
  clear hl
  go_wp2_with fail
  all_goals
   go_ret
   exact ⟨rfl, rfl⟩
 by_cases e5 : (c.toNat : Int) = 95
 ·
  have hl : ltr c = true := by unfold ltr; rw [show c.toNat = 95 by omega]; rfl
  rw [hl]
  clear hl
  go_wp2_with fail
  all_goals
   go_ret
   exact ⟨rfl, rfl⟩
 have HL : Hid (ltr c = (decide (97 ≤ c.toNat ∧ c.toNat ≤ 122) || decide (48 ≤ c.toNat ∧ c.toNat ≤ 57))) := by
  show _ = _
  unfold ltr
  rw [decide_eq_false (show ¬ c.toNat = 46 by omega), decide_eq_false (show ¬ c.toNat = 58 by omega), decide_eq_false (show ¬ c.toNat = 47 by omega), decide_eq_false (show ¬ c.toNat = 45 by omega), decide_eq_false (show ¬ c.toNat = 95 by omega)]
  simp only [Bool.or_false]
 generalize ltr c = L at *
 go_wp2_with fail
 all_goals
  go_ret
  refine ⟨ret_bool ?_, rfl⟩
  rw [HL.out]
  rw [Bool.eq_iff_iff]
  simp only [Bool.or_eq_true, decide_eq_true_eq, true_iff, Bool.false_eq_true, false_iff]
  try omega
theorem isPlain_is : PredIs 79 txc := by
 refine ⟨fun args w => by go_simp, fun c w => ?_⟩
 go_enter Tryz.func79, Tryz.ntmps79
 go_wp2_with fail
 all_goals
  go_ret
  refine ⟨ret_bool ?_, rfl⟩
  unfold txc
  rw [Bool.eq_iff_iff]
  simp only [Bool.and_eq_true, decide_eq_true_eq, bne_iff_ne, ne_eq, Bool.false_eq_true, false_iff]
  try omega
theorem inQuotes_is : PredIs 78 inq := by
 refine ⟨fun args w => by go_simp, fun c w => ?_⟩
 have L := hide (inLine_is.2 c)
 go_enter Tryz.func78, Tryz.ntmps78
 by_cases h34 : (c.toNat : Int) = 34
 ·
  go_wp2_with fail
  all_goals
   go_ret
   refine ⟨ret_bool ?_, rfl⟩
   unfold inq
   rw [decide_eq_false (by omega)]
   rfl
 go_wp2_with (refine (L.out _).mono ?_; rintro e w1 ⟨rfl, rfl⟩)
 all_goals
  go_ret
  refine ⟨ret_bool ?_, rfl⟩
  unfold inq rmk
  rw [decide_eq_true (show c.toNat ≠ 34 by omega)]
  simp
  try (intro _; omega)
set_option maxHeartbeats 1000000 in
theorem run_is {f : Nat} {p : UInt8 → Bool} (hp : PredIs f p) (s : ByteArray) (hs : s.size ≤ 100000) (w : World) : Calls Tryz.prog 32 #[.string s, .func (.func f) #[] #[]] w fun e w' => e = .returned (.int .i64 (((lst s).takeWhile p).length : Nat)) ∧ w' = w := by
 have HP := hide hp.2
 have hcf := hp.1
 clear hp
 go_enter Tryz.func32, Tryz.ntmps32
 go_wp2_with fail
 go_loopw [5] (fun v5 wr => ∃ j : Nat, v5 = .int .i64 (j : Int) ∧ j ≤ s.size ∧ Hid (j + tw p (lst s) j = ((lst s).takeWhile p).length) ∧ wr = w) (fun v5 _ => s.size - (intOf v5).toNat)
 case atStart => exact ⟨0, rfl, Nat.zero_le _, (Nat.zero_add _), rfl⟩
 case round =>
  obtain ⟨j, rfl, hjs, HT, rfl⟩ := hrel
  by_cases hj : j < s.size
  ·
   have hjl : j < (lst s).length := by simpa using hj
   have hj' : (j : Int) < (s.size : Int) := by omega
   have hget : s[j] = (lst s)[j] := rfl
   cases hpc : p (lst s)[j] with
   | false =>
    have hw := tw_stop (p := p) hjl hpc
    have HJ : Hid (((lst s).takeWhile p).length = j) := by show _ = _; have := HT.out; omega
    have CP : Hid (∀ W, Calls Tryz.prog f #[.int .u8 (s[j].toNat : Int)] W fun e w' => e = .returned (.bool false) ∧ w' = W) := fun W => by have h := HP.out s[j] W; rw [hget, hpc] at h; exact h
    clear hget hw hpc HP HT
    go_wp2_with (refine (CP.out _).mono ?_; rintro e w1 ⟨rfl, rfl⟩)
    go_ret
    exact ⟨by rw [HJ.out]; rfl, rfl⟩
   | true =>
    have hw := tw_step (p := p) hjl hpc
    have HJ : Hid (j + 1 + tw p (lst s) (j + 1) = ((lst s).takeWhile p).length) := by show _ = _; have := HT.out; omega
    have CP : Hid (∀ W, Calls Tryz.prog f #[.int .u8 (s[j].toNat : Int)] W fun e w' => e = .returned (.bool true) ∧ w' = W) := fun W => by have h := HP.out s[j] W; rw [hget, hpc] at h; exact h
    clear hget hw hpc HP HT
    go_wp2_with (refine (CP.out _).mono ?_; rintro e w1 ⟨rfl, rfl⟩)
    exact ⟨⟨j + 1, by go_num, by omega, HJ, trivial⟩, by simp [intOf]; omega⟩
  have hj' : ¬ (j : Int) < (s.size : Int) := by omega
  have hw := tw_end (p := p) (l := lst s) (i := j) (by rw [lst_size]; omega)
  have HJ : Hid (((lst s).takeWhile p).length = j) := by show _ = _; have := HT.out; omega
  clear hw HT
  go_wp2_with fail
  go_ret
  exact ⟨by rw [HJ.out]; rfl, rfl⟩
def Stp.pc : Stp → Value
  | .fault n e => .agg #[.int .i64 0, .string ⟨#[]⟩, .int .i64 0, .int .i64 (n : Int), .int .i64 e]
  | .go n _ (some (k, s)) => .agg #[.int .i64 (k : Int), .string (txt s), .int .i64 (n : Int), .int .i64 0, .int .i64 0]
  | .go n _ none => .agg #[.int .i64 2, .string ⟨#[]⟩, .int .i64 (n : Int), .int .i64 0, .int .i64 0]
theorem pc_fault (n : Nat) (e : Int) : (Stp.fault n e).pc = .agg #[.int .i64 0, .string ⟨#[]⟩, .int .i64 0, .int .i64 (n : Int), .int .i64 e] := rfl
theorem pc_go (n a k : Nat) (s : List UInt8) : (Stp.go n a (some (k, s))).pc = .agg #[.int .i64 (k : Int), .string (txt s), .int .i64 (n : Int), .int .i64 0, .int .i64 0] := rfl
theorem five_cells {w : World} {b y : Nat} {x0 x1 x2 x3 x4 : Value} (h : w.heap[b]? = some (.cells #[x0, x1, x2, x3, x4] y (0, 0))) : (w.cell? ⟨b, 0, none⟩ = some x0 ∧ w.cell? ⟨b, 1, none⟩ = some x1 ∧ w.cell? ⟨b, 2, none⟩ = some x2 ∧ w.cell? ⟨b, 3, none⟩ = some x3 ∧ w.cell? ⟨b, 4, none⟩ = some x4) ∧ w.frozen? ⟨b, 0, none⟩ = false ∧ w.frozen? ⟨b, 1, none⟩ = false ∧ w.frozen? ⟨b, 2, none⟩ = false ∧ w.frozen? ⟨b, 3, none⟩ = false ∧ w.frozen? ⟨b, 4, none⟩ = false := by
 simp [World.cell?, World.frozen?, h]
abbrev set5 (w : World) (b : Nat) (v0 v1 v2 v3 v4 : Value) : World := ((((w.setCell ⟨b, 0, none⟩ v0).setCell ⟨b, 1, none⟩ v1).setCell ⟨b, 2, none⟩ v2).setCell ⟨b, 3, none⟩ v3).setCell ⟨b, 4, none⟩ v4
theorem five_set {w : World} {b t : Nat} {x0 x1 x2 x3 x4 : Value} (h : w.heap[b]? = some (.cells #[x0, x1, x2, x3, x4] t (0, 0))) (v0 v1 v2 v3 v4 : Value) : (set5 w b v0 v1 v2 v3 v4).heap[b]? = some (.cells #[v0, v1, v2, v3, v4] t (0, 0)) := by
 have h0 := heap_setCell_same w b 0 _ t v0 h
 have h1 := heap_setCell_same _ b 1 _ t v1 h0
 have h2 := heap_setCell_same _ b 2 _ t v2 h1
 have h3 := heap_setCell_same _ b 3 _ t v3 h2
 exact heap_setCell_same _ b 4 _ t v4 h3
theorem bset5 {w W : World} (h : Below w.heap.size w W) {b : Nat} (hp : w.heap.size ≤ b) (v0 v1 v2 v3 v4 : Value) : Below w.heap.size w (set5 W b v0 v1 v2 v3 v4) :=
  bset (bset (bset (bset (bset h (p := ⟨b, 0, none⟩) hp v0) (p := ⟨b, 1, none⟩) hp v1) (p := ⟨b, 2, none⟩) hp v2) (p := ⟨b, 3, none⟩) hp v3) (p := ⟨b, 4, none⟩) hp v4
theorem far5 {w : World} {b j : Nat} {x : Obj} (h : w.heap[j]? = some x) (hn : j ≠ b) (v0 v1 v2 v3 v4 : Value) : (set5 w b v0 v1 v2 v3 v4).heap[j]? = some x := set_far (set_far (set_far (set_far (set_far h hn) hn) hn) hn) hn
set_option maxHeartbeats 1000000 in
set_option maxRecDepth 100000 in
theorem word_is (s : ByteArray) (hs : s.size ≤ 100000) (w : World) : Calls Tryz.prog 55 #[.string s] w fun e w' => e = .returned (wrd (lst s)).pc ∧ Below w.heap.size w w' := by
 have N0 := hide (heap_new w #[.int .i64 0, .string ⟨#[]⟩, .int .i64 0, .int .i64 0, .int .i64 0] 90)
 have B0 := hide (balloc (brefl w) (.cells #[.int .i64 0, .string ⟨#[]⟩, .int .i64 0, .int .i64 0, .int .i64 0] 90))
 obtain ⟨p, hp⟩ : ∃ p, w.heap.size = p := ⟨_, rfl⟩
 have HPW : Hid (w.heap.size ≤ p) := Nat.le_of_eq hp
 rw [hp] at N0
 have R := hide (run_is inWord_is s hs)
 have hle := takeWhile_le ltr (lst s)
 rw [lst_size] at hle
 have HW : Hid (wrd (lst s) = if 32 < ((lst s).takeWhile ltr).length then .fault 0 2 else .go ((lst s).takeWhile ltr).length 0 (some (0, (lst s).takeWhile ltr))) := rfl
 have HX : Hid (s.extract 0 ((lst s).takeWhile ltr).length = txt ((lst s).takeWhile ltr)) := by
  show _ = _
  rw [extract_txt, List.drop_zero, Nat.sub_zero, take_takeWhile]
 generalize wrd (lst s) = V at *
 generalize (lst s).takeWhile ltr = l at *
 obtain ⟨n, hn⟩ : ∃ n, l.length = n := ⟨_, rfl⟩
 rw [hn] at R HW HX hle
 go_enter Tryz.func55, Tryz.ntmps55
 go_upto_region 1 with fail
 generalize w.alloc (.cells #[.int .i64 0, .string ⟨#[]⟩, .int .i64 0, .int .i64 0, .int .i64 0] 90) = W at *
 clear hp hn
 obtain ⟨⟨z0, z1, z2, z3, z4⟩, y0, y1, y2, y3, y4⟩ := five_cells N0.out
 by_cases h32 : 32 < n
 ·
  have h32' : (32 : Int) < (n : Int) := by omega
  have P3 := hide (five_set N0.out (.int .i64 0) (.string ⟨#[]⟩) (.int .i64 0) (.int .i64 0) (.int .i64 2))
  have B3 := hide (bset5 B0.out HPW.out (.int .i64 0) (.string ⟨#[]⟩) (.int .i64 0) (.int .i64 0) (.int .i64 2))
  have HV : Hid (V = .fault 0 2) := by show _ = _; rw [HW.out, if_pos h32]
  clear HW
  go_wp2_with (refine (R.out _).mono ?_; rintro e w1 ⟨rfl, rfl⟩)
  rw [HV.out]
  refine bodyPost_ret (v := .agg #[.int .i64 0, .string ⟨#[]⟩, .int .i64 0, .int .i64 0, .int .i64 2]) ?_ rfl ⟨rfl, B3.out⟩
  obtain ⟨⟨t0, t1, t2, t3, t4⟩, _⟩ := five_cells P3.out
  simp [results, Tryz.results55, go_sem, t0, t1, t2, t3, t4]
 have h32' : ¬ (32 : Int) < (n : Int) := by omega
 have hn1 : (n : Int) ≤ (s.size : Int) := by omega
 have hn0 : (0 : Int) ≤ (n : Int) := by omega
 have P3 := hide (five_set N0.out (.int .i64 0) (.string (s.extract 0 n)) (.int .i64 (n : Int)) (.int .i64 0) (.int .i64 0))
 have B3 := hide (bset5 B0.out HPW.out (.int .i64 0) (.string (s.extract 0 n)) (.int .i64 (n : Int)) (.int .i64 0) (.int .i64 0))
 have HV : Hid (V = .go n 0 (some (0, l))) := by show _ = _; rw [HW.out, if_neg h32]
 clear HW hle h32
 go_upto_region 4 with (refine (R.out _).mono ?_; rintro e w1 ⟨rfl, rfl⟩)
 go_wp2_with (refine (R.out _).mono ?_; rintro e w1 ⟨rfl, rfl⟩)
 rw [HV.out, pc_go, ← HX.out]
 refine bodyPost_ret (v := .agg #[.int .i64 0, .string (s.extract 0 n), .int .i64 (n : Int), .int .i64 0, .int .i64 0]) ?_ rfl ⟨rfl, B3.out⟩
 obtain ⟨⟨t0, t1, t2, t3, t4⟩, _⟩ := five_cells P3.out
 simp [results, Tryz.results55, go_sem, t0, t1, t2, t3, t4]
theorem bdrewN {w W : World} (h : Below w.heap.size w W) (n : Nat) : Below w.heap.size w (W.drewN n) := ⟨h.os, h.tape, h.output, h.size, h.block⟩
set_option maxHeartbeats 2000000 in
set_option maxRecDepth 100000 in
theorem quoted_is (s : ByteArray) (hs : s.size ≤ 100000) (h1 : 1 ≤ s.size) (w : World) : Calls Tryz.prog 53 #[.string s] w fun e w' => e = .returned (quo ((lst s).drop 1)).pc ∧ Below w.heap.size w w' := by
 have N0 := hide (heap_new w #[.int .i64 0, .string ⟨#[]⟩, .int .i64 0, .int .i64 0, .int .i64 0] 90)
 have B0 := hide (balloc (brefl w) (.cells #[.int .i64 0, .string ⟨#[]⟩, .int .i64 0, .int .i64 0, .int .i64 0] 90))
 obtain ⟨p, hp⟩ : ∃ p, w.heap.size = p := ⟨_, rfl⟩
 have HPW : Hid (w.heap.size ≤ p) := Nat.le_of_eq hp
 rw [hp] at N0
 have R := hide (run_is inQuotes_is (s.extract 1 s.size) (by rw [ByteArray.size_extract]; omega))
 have hx : lst (s.extract 1 s.size) = (lst s).drop 1 := by
  rw [extract_txt, lst_txt, List.take_of_length_le (by rw [List.length_drop, lst_size]; omega)]
 rw [hx] at R
 clear hx
 have hle := takeWhile_le inq ((lst s).drop 1)
 rw [List.length_drop, lst_size] at hle
 have HI : Hid (s.extract 1 (1 + (((lst s).drop 1).takeWhile inq).length) = txt (((lst s).drop 1).takeWhile inq)) := by
  show _ = _
  rw [extract_txt, show 1 + (((lst s).drop 1).takeWhile inq).length - 1 = (((lst s).drop 1).takeWhile inq).length by omega, take_takeWhile]
 have HJ : Hid (s.extract (1 + (((lst s).drop 1).takeWhile inq).length) s.size = txt (((lst s).drop 1).drop (((lst s).drop 1).takeWhile inq).length)) := by
  show _ = _
  rw [extract_txt, List.drop_drop, List.take_of_length_le (by rw [List.length_drop, lst_size]; omega)]
 have HW : Hid (quo ((lst s).drop 1) = match ((lst s).drop 1).drop (((lst s).drop 1).takeWhile inq).length with
   | [] => .fault 0 3
   | d :: _ => if d.toNat ≠ 34 then .fault 0 3 else if 64 < (((lst s).drop 1).takeWhile inq).length then .fault 0 2 else if ((((lst s).drop 1).takeWhile inq).takeWhile txc).length < (((lst s).drop 1).takeWhile inq).length then .fault (1 + ((((lst s).drop 1).takeWhile inq).takeWhile txc).length) 4 else .go ((((lst s).drop 1).takeWhile inq).length + 2) 1 (some (1, ((lst s).drop 1).takeWhile inq))) := rfl
 generalize quo ((lst s).drop 1) = V at *
 generalize ((lst s).drop 1).drop (((lst s).drop 1).takeWhile inq).length = bh at *
 generalize ((lst s).drop 1).takeWhile inq = l at *
 obtain ⟨n, hn⟩ : ∃ n, l.length = n := ⟨_, rfl⟩
 rw [hn] at R HW HI HJ hle
 have R2 := hide (run_is isPlain_is (txt l) (by rw [txt_size]; omega))
 rw [lst_txt] at R2
 generalize (l.takeWhile txc).length = m at *
 have hs1 : (1 : Int) ≤ (s.size : Int) := by omega
 have hn1 : (1 : Int) + (n : Int) ≤ (s.size : Int) := by omega
 go_enter Tryz.func53, Tryz.ntmps53
 go_upto_region 1 with fail
 generalize w.alloc (.cells #[.int .i64 0, .string ⟨#[]⟩, .int .i64 0, .int .i64 0, .int .i64 0] 90) = W at *
 clear hp hn
 go_upto_region 2 with (refine (R.out _).mono ?_; rintro e w1 ⟨rfl, rfl⟩)
 go_quiet (fail)
 have B0 := hide (bdrewN B0.out nq)
 have N0 : Hid ((w1.drewN nq).heap[p]? = some (.cells #[.int .i64 0, .string ⟨#[]⟩, .int .i64 0, .int .i64 0, .int .i64 0] 90 (0, 0))) := N0
 generalize w1.drewN nq = W2 at *
 rw [HI.out, HJ.out]
 clear HI HJ R hle hn1 hs1 h1 hs
 obtain ⟨⟨z0, z1, z2, z3, z4⟩, y0, y1, y2, y3, y4⟩ := five_cells N0.out
 cases bh with
 | nil =>
  have HV : Hid (V = .fault 0 3) := HW.out
  clear HW
  go_wp2_with fail
  rw [HV.out, pc_fault]
  refine bodyPost_ret (v := .agg #[.int .i64 0, .string ⟨#[]⟩, .int .i64 0, .int .i64 0, .int .i64 3]) ?_ rfl ⟨rfl, bset5 B0.out HPW.out (.int .i64 0) (.string ⟨#[]⟩) (.int .i64 0) (.int .i64 0) (.int .i64 3)⟩
  obtain ⟨⟨t0, t1, t2, t3, t4⟩, _⟩ := five_cells (five_set N0.out (.int .i64 0) (.string ⟨#[]⟩) (.int .i64 0) (.int .i64 0) (.int .i64 3))
  simp [results, Tryz.results53, go_sem, t0, t1, t2, t3, t4]
 | cons d tl =>
  have HD : Hid ((txt (d :: tl)).size = tl.length + 1) := by show _ = _; rw [txt_size]; rfl
  obtain ⟨bs, hbs⟩ : ∃ bs, txt (d :: tl) = bs := ⟨_, rfl⟩
  have hz : bs.size = tl.length + 1 := by rw [← hbs]; exact HD.out
  have he : bs.toList.isEmpty = false := by
   rw [← hbs]
   cases hh : (txt (d :: tl)).toList with
   | nil => have := congrArg List.length hh; simp at this
   | cons a b => rfl
  have h0 : 0 < bs.size := by omega
  have hg : bs[0] = d := by subst hbs; rfl
  rw [hbs]
  clear hbs HD hz
  have HW2 : Hid (V = if d.toNat ≠ 34 then .fault 0 3 else if 64 < n then .fault 0 2 else if m < n then .fault (1 + m) 4 else .go (n + 2) 1 (some (1, l))) := HW.out
  clear HW
  have hd256 : d.toNat < 256 := d.toNat_lt
  by_cases h34 : d.toNat = 34
  ·
   have e34 : (bs[0].toNat : Int) = 34 := by rw [hg, h34]; rfl
   have HW3 : Hid (V = if 64 < n then .fault 0 2 else if m < n then .fault (1 + m) 4 else .go (n + 2) 1 (some (1, l))) := by
    show _ = _
    rw [HW2.out, if_neg (by simp [h34])]
   clear hg h34 HW2 hd256
   by_cases h64 : 64 < n
   ·
    have h64' : (64 : Int) < (n : Int) := by omega
    have HV : Hid (V = .fault 0 2) := by show _ = _; rw [HW3.out, if_pos h64]
    clear HW3 h64
    go_wp2_with fail
    rw [HV.out, pc_fault]
    refine bodyPost_ret (v := .agg #[.int .i64 0, .string ⟨#[]⟩, .int .i64 0, .int .i64 0, .int .i64 2]) ?_ rfl ⟨rfl, bset5 B0.out HPW.out (.int .i64 0) (.string ⟨#[]⟩) (.int .i64 0) (.int .i64 0) (.int .i64 2)⟩
    obtain ⟨⟨t0, t1, t2, t3, t4⟩, _⟩ := five_cells (five_set N0.out (.int .i64 0) (.string ⟨#[]⟩) (.int .i64 0) (.int .i64 0) (.int .i64 2))
    simp [results, Tryz.results53, go_sem, t0, t1, t2, t3, t4]
   have h64' : ¬ (64 : Int) < (n : Int) := by omega
   have HW4 : Hid (V = if m < n then .fault (1 + m) 4 else .go (n + 2) 1 (some (1, l))) := by show _ = _; rw [HW3.out, if_neg h64]
   clear HW3
   by_cases hm : m < n
   ·
    have hm' : (m : Int) < (n : Int) := by omega
    have hm9 : (m : Int) ≤ 64 := by omega
    have HV : Hid (V = .fault (1 + m) 4) := by show _ = _; rw [HW4.out, if_pos hm]
    clear HW4 hm h64
    go_wp2_with (refine (R2.out _).mono ?_; rintro e w3 ⟨rfl, rfl⟩)
    rw [HV.out, pc_fault]
    refine bodyPost_ret (v := .agg #[.int .i64 0, .string ⟨#[]⟩, .int .i64 0, .int .i64 (1 + (m : Int)), .int .i64 4]) ?_ rfl ⟨by rw [Int.natCast_add]; rfl, bset5 B0.out HPW.out (.int .i64 0) (.string ⟨#[]⟩) (.int .i64 0) (.int .i64 (1 + (m : Int))) (.int .i64 4)⟩
    obtain ⟨⟨t0, t1, t2, t3, t4⟩, _⟩ := five_cells (five_set N0.out (.int .i64 0) (.string ⟨#[]⟩) (.int .i64 0) (.int .i64 (1 + (m : Int))) (.int .i64 4))
    simp [results, Tryz.results53, go_sem, t0, t1, t2, t3, t4]
   have hm' : ¬ (m : Int) < (n : Int) := by omega
   have HV : Hid (V = .go (n + 2) 1 (some (1, l))) := by show _ = _; rw [HW4.out, if_neg hm]
   have hn9 : (n : Int) ≤ 64 := by omega
   clear HW4 hm h64
   go_wp2_with (refine (R2.out _).mono ?_; rintro e w3 ⟨rfl, rfl⟩)
   rw [HV.out, pc_go]
   refine bodyPost_ret (v := .agg #[.int .i64 1, .string (txt l), .int .i64 ((n : Int) + 2), .int .i64 0, .int .i64 0]) ?_ rfl ⟨by rw [Int.natCast_add]; rfl, bset5 B0.out HPW.out (.int .i64 1) (.string (txt l)) (.int .i64 ((n : Int) + 2)) (.int .i64 0) (.int .i64 0)⟩
   obtain ⟨⟨t0, t1, t2, t3, t4⟩, _⟩ := five_cells (five_set N0.out (.int .i64 1) (.string (txt l)) (.int .i64 ((n : Int) + 2)) (.int .i64 0) (.int .i64 0))
   simp [results, Tryz.results53, go_sem, t0, t1, t2, t3, t4]
  have e34 : ¬ (bs[0].toNat : Int) = 34 := by rw [hg]; omega
  have HV : Hid (V = .fault 0 3) := by show _ = _; rw [HW2.out, if_pos h34]
  clear hg h34 HW2 hd256
  go_wp2_with fail
  rw [HV.out, pc_fault]
  refine bodyPost_ret (v := .agg #[.int .i64 0, .string ⟨#[]⟩, .int .i64 0, .int .i64 0, .int .i64 3]) ?_ rfl ⟨rfl, bset5 B0.out HPW.out (.int .i64 0) (.string ⟨#[]⟩) (.int .i64 0) (.int .i64 0) (.int .i64 3)⟩
  obtain ⟨⟨t0, t1, t2, t3, t4⟩, _⟩ := five_cells (five_set N0.out (.int .i64 0) (.string ⟨#[]⟩) (.int .i64 0) (.int .i64 0) (.int .i64 3))
  simp [results, Tryz.results53, go_sem, t0, t1, t2, t3, t4]
theorem pc_five (x : Stp) : ∃ (k : Int) (t : ByteArray) (n f e : Int), x.pc = .agg #[.int .i64 k, .string t, .int .i64 n, .int .i64 f, .int .i64 e] := by
 match x with
 | .fault n e => exact ⟨_, _, _, _, _, rfl⟩
 | .go n _ (some (k, s)) => exact ⟨_, _, _, _, _, rfl⟩
 | .go n _ none => exact ⟨_, _, _, _, _, rfl⟩
set_option maxHeartbeats 2000000 in
set_option maxRecDepth 100000 in
theorem begin_mark (s : ByteArray) (h0 : 0 < s.size) (a : Int) (CM : ∀ W, Calls Tryz.prog 52 #[.int .u8 (s[0].toNat : Int)] W fun e w' => e = .returned (.bool true) ∧ w' = W) (w : World) : Calls Tryz.prog 34 #[.string s, .int .i64 a] w fun e w' => e = .returned (.agg #[.int .i64 2, .string (s.extract 0 1), .int .i64 1, .int .i64 0, .int .i64 0]) ∧ Below w.heap.size w w' := by
 have N0 := hide (heap_new w #[.int .i64 0, .string ⟨#[]⟩, .int .i64 0, .int .i64 0, .int .i64 0] 90)
 have B0 := hide (balloc (brefl w) (.cells #[.int .i64 0, .string ⟨#[]⟩, .int .i64 0, .int .i64 0, .int .i64 0] 90))
 obtain ⟨p, hp⟩ : ∃ p, w.heap.size = p := ⟨_, rfl⟩
 have HPW : Hid (w.heap.size ≤ p) := Nat.le_of_eq hp
 rw [hp] at N0
 have hs1 : (1 : Int) ≤ (s.size : Int) := by omega
 replace CM := hide CM
 go_enter Tryz.func34, Tryz.ntmps34
 go_upto_region 1 with fail
 generalize w.alloc (.cells #[.int .i64 0, .string ⟨#[]⟩, .int .i64 0, .int .i64 0, .int .i64 0] 90) = W at *
 clear hp
 go_upto_region 2 with fail
 obtain ⟨x, hx⟩ : ∃ x, (s[0].toNat : Int) = x := ⟨_, rfl⟩
 rw [hx] at CM ⊢
 clear hx
 go_upto_region 3 with (refine (CM.out _).mono ?_; rintro e w1 ⟨rfl, rfl⟩)
 obtain ⟨⟨z0, z1, z2, z3, z4⟩, y0, y1, y2, y3, y4⟩ := five_cells N0.out
 clear CM
 go_wp2_with fail
 refine bodyPost_ret (v := .agg #[.int .i64 2, .string (s.extract 0 1), .int .i64 1, .int .i64 0, .int .i64 0]) ?_ rfl ⟨rfl, bset5 B0.out HPW.out (.int .i64 2) (.string (s.extract 0 1)) (.int .i64 1) (.int .i64 0) (.int .i64 0)⟩
 obtain ⟨⟨t0, t1, t2, t3, t4⟩, _⟩ := five_cells (five_set N0.out (.int .i64 2) (.string (s.extract 0 1)) (.int .i64 1) (.int .i64 0) (.int .i64 0))
 simp [results, Tryz.results34, go_sem, t0, t1, t2, t3, t4]
set_option maxHeartbeats 2000000 in
set_option maxRecDepth 100000 in
theorem begin_quote (s : ByteArray) (h0 : 0 < s.size) (a : Int) (ha : ¬ a = 0) (hc : (s[0].toNat : Int) = 34) (CM : ∀ W, Calls Tryz.prog 52 #[.int .u8 (s[0].toNat : Int)] W fun e w' => e = .returned (.bool false) ∧ w' = W) (k1 : Int) (t1 : ByteArray) (n1 f1 e1 : Int) (CQ : ∀ W, Calls Tryz.prog 53 #[.string s] W fun e w' => e = .returned (.agg #[.int .i64 k1, .string t1, .int .i64 n1, .int .i64 f1, .int .i64 e1]) ∧ Below W.heap.size W w') (w : World) : Calls Tryz.prog 34 #[.string s, .int .i64 a] w fun e w' => e = .returned (.agg #[.int .i64 k1, .string t1, .int .i64 n1, .int .i64 f1, .int .i64 e1]) ∧ Below w.heap.size w w' := by
 have N0 := hide (heap_new w #[.int .i64 0, .string ⟨#[]⟩, .int .i64 0, .int .i64 0, .int .i64 0] 90)
 have B0 := hide (balloc (brefl w) (.cells #[.int .i64 0, .string ⟨#[]⟩, .int .i64 0, .int .i64 0, .int .i64 0] 90))
 obtain ⟨p, hp⟩ : ∃ p, w.heap.size = p := ⟨_, rfl⟩
 have HPW : Hid (w.heap.size ≤ p) := Nat.le_of_eq hp
 rw [hp] at N0
 have hab : (a != 0) = true := by rw [bne_iff_ne]; exact ha
 replace CM := hide CM
 replace CQ := hide CQ
 replace hc := hide hc
 clear ha
 go_enter Tryz.func34, Tryz.ntmps34
 go_upto_region 1 with fail
 generalize w.alloc (.cells #[.int .i64 0, .string ⟨#[]⟩, .int .i64 0, .int .i64 0, .int .i64 0] 90) = W at *
 clear hp
 go_upto_region 2 with fail
 rw [hc.out] at CM ⊢
 clear hc
 go_upto_region 4 with (refine (CM.out _).mono ?_; rintro e w1 ⟨rfl, rfl⟩)
 clear CM
 go_upto_region 5 with fail
 clear hab
 go_wp2_with fail
 refine (CQ.out _).mono ?_
 rintro e w2 ⟨rfl, b2⟩
 have N2 := hide ((b2.block p (heap_lt N0.out)).trans N0.out)
 have B2 := hide (bthen B0.out b2)
 clear b2 N0 B0 CQ
 obtain ⟨⟨z0, z1, z2, z3, z4⟩, y0, y1, y2, y3, y4⟩ := five_cells N2.out
 go_wp2_with fail
 refine bodyPost_ret (v := .agg #[.int .i64 k1, .string t1, .int .i64 n1, .int .i64 f1, .int .i64 e1]) ?_ rfl ⟨rfl, bset5 B2.out HPW.out (.int .i64 k1) (.string t1) (.int .i64 n1) (.int .i64 f1) (.int .i64 e1)⟩
 obtain ⟨⟨t0, t1, t2, t3, t4⟩, _⟩ := five_cells (five_set N2.out (.int .i64 k1) (.string t1) (.int .i64 n1) (.int .i64 f1) (.int .i64 e1))
 simp [results, Tryz.results34, go_sem, t0, t1, t2, t3, t4]
set_option maxHeartbeats 2000000 in
set_option maxRecDepth 100000 in
theorem begin_word (s : ByteArray) (h0 : 0 < s.size) (a : Int) (ha : ¬ a = 1) (hc : ¬ (s[0].toNat : Int) = 34 ∨ (s[0].toNat : Int) = 34 ∧ a = 0) (CM : ∀ W, Calls Tryz.prog 52 #[.int .u8 (s[0].toNat : Int)] W fun e w' => e = .returned (.bool false) ∧ w' = W) (CW : ∀ W, Calls Tryz.prog 54 #[.int .u8 (s[0].toNat : Int)] W fun e w' => e = .returned (.bool true) ∧ w' = W) (k1 : Int) (t1 : ByteArray) (n1 f1 e1 : Int) (CQ : ∀ W, Calls Tryz.prog 55 #[.string s] W fun e w' => e = .returned (.agg #[.int .i64 k1, .string t1, .int .i64 n1, .int .i64 f1, .int .i64 e1]) ∧ Below W.heap.size W w') (w : World) : Calls Tryz.prog 34 #[.string s, .int .i64 a] w fun e w' => e = .returned (.agg #[.int .i64 k1, .string t1, .int .i64 n1, .int .i64 f1, .int .i64 e1]) ∧ Below w.heap.size w w' := by
 have N0 := hide (heap_new w #[.int .i64 0, .string ⟨#[]⟩, .int .i64 0, .int .i64 0, .int .i64 0] 90)
 have B0 := hide (balloc (brefl w) (.cells #[.int .i64 0, .string ⟨#[]⟩, .int .i64 0, .int .i64 0, .int .i64 0] 90))
 obtain ⟨p, hp⟩ : ∃ p, w.heap.size = p := ⟨_, rfl⟩
 have HPW : Hid (w.heap.size ≤ p) := Nat.le_of_eq hp
 rw [hp] at N0
 have hab : (a != 1) = true := by rw [bne_iff_ne]; exact ha
 replace CM := hide CM
 replace CW := hide CW
 replace CQ := hide CQ
 replace hc := hide hc
 clear ha
 go_enter Tryz.func34, Tryz.ntmps34
 go_upto_region 1 with fail
 generalize w.alloc (.cells #[.int .i64 0, .string ⟨#[]⟩, .int .i64 0, .int .i64 0, .int .i64 0] 90) = W at *
 clear hp
 go_upto_region 2 with fail
 generalize (s[0].toNat : Int) = x at *
 go_upto_region 4 with (refine (CM.out _).mono ?_; rintro e w1 ⟨rfl, rfl⟩)
 clear CM
 rcases hc.out with hx | ⟨rfl, rfl⟩
 focus
  have hx' : (x == 34) = false := by simpa using hx
  clear hc hx
  go_upto_region 6 with fail
  clear hx'
 rotate_left
 focus
  clear hc
  go_upto_region 6 with fail
 all_goals
  go_wp2_with fail
  refine (CW.out _).mono ?_
  rintro e w1 ⟨rfl, rfl⟩
  go_upto_region 7 with fail
  clear hab CW
  go_wp2_with fail
  refine (CQ.out _).mono ?_
  rintro e w2 ⟨rfl, b2⟩
  have N2 := hide ((b2.block p (heap_lt N0.out)).trans N0.out)
  have B2 := hide (bthen B0.out b2)
  clear b2 N0 B0 CQ
  obtain ⟨⟨z0, z1, z2, z3, z4⟩, y0, y1, y2, y3, y4⟩ := five_cells N2.out
  go_wp2_with fail
  refine bodyPost_ret (v := .agg #[.int .i64 k1, .string t1, .int .i64 n1, .int .i64 f1, .int .i64 e1]) ?_ rfl ⟨rfl, bset5 B2.out HPW.out (.int .i64 k1) (.string t1) (.int .i64 n1) (.int .i64 f1) (.int .i64 e1)⟩
  obtain ⟨⟨t0, t1, t2, t3, t4⟩, _⟩ := five_cells (five_set N2.out (.int .i64 k1) (.string t1) (.int .i64 n1) (.int .i64 f1) (.int .i64 e1))
  simp [results, Tryz.results34, go_sem, t0, t1, t2, t3, t4]
set_option maxHeartbeats 2000000 in
set_option maxRecDepth 100000 in
theorem begin_bad (s : ByteArray) (h0 : 0 < s.size) (a : Int) (L : Bool) (ha : L = false ∨ L = true ∧ a = 1) (hc : ¬ (s[0].toNat : Int) = 34 ∨ (s[0].toNat : Int) = 34 ∧ a = 0) (CM : ∀ W, Calls Tryz.prog 52 #[.int .u8 (s[0].toNat : Int)] W fun e w' => e = .returned (.bool false) ∧ w' = W) (CW : ∀ W, Calls Tryz.prog 54 #[.int .u8 (s[0].toNat : Int)] W fun e w' => e = .returned (.bool L) ∧ w' = W) (w : World) : Calls Tryz.prog 34 #[.string s, .int .i64 a] w fun e w' => e = .returned (.agg #[.int .i64 0, .string ⟨#[]⟩, .int .i64 0, .int .i64 0, .int .i64 4]) ∧ Below w.heap.size w w' := by
 have N0 := hide (heap_new w #[.int .i64 0, .string ⟨#[]⟩, .int .i64 0, .int .i64 0, .int .i64 0] 90)
 have B0 := hide (balloc (brefl w) (.cells #[.int .i64 0, .string ⟨#[]⟩, .int .i64 0, .int .i64 0, .int .i64 0] 90))
 obtain ⟨p, hp⟩ : ∃ p, w.heap.size = p := ⟨_, rfl⟩
 have HPW : Hid (w.heap.size ≤ p) := Nat.le_of_eq hp
 rw [hp] at N0
 replace CM := hide CM
 replace CW := hide CW
 replace hc := hide hc
 replace ha := hide ha
 go_enter Tryz.func34, Tryz.ntmps34
 go_upto_region 1 with fail
 generalize w.alloc (.cells #[.int .i64 0, .string ⟨#[]⟩, .int .i64 0, .int .i64 0, .int .i64 0] 90) = W at *
 clear hp
 go_upto_region 2 with fail
 generalize (s[0].toNat : Int) = x at *
 go_upto_region 4 with (refine (CM.out _).mono ?_; rintro e w1 ⟨rfl, rfl⟩)
 clear CM
 have HF := hide (five_set N0.out (.int .i64 0) (.string ⟨#[]⟩) (.int .i64 0) (.int .i64 0) (.int .i64 4))
 rcases hc.out with hx | ⟨rfl, rfl⟩
 ·
  have hx' : (x == 34) = false := by simpa using hx
  clear hc hx
  rcases ha.out with rfl | ⟨rfl, rfl⟩
  all_goals
   clear ha
   go_upto_region 6 with fail
   go_wp2_with fail
   refine (CW.out _).mono ?_
   rintro e w1 ⟨rfl, rfl⟩
   go_upto_region 8 with fail
   clear hx' CW
   obtain ⟨⟨z0, z1, z2, z3, z4⟩, y0, y1, y2, y3, y4⟩ := five_cells N0.out
   go_wp2_with fail
   refine bodyPost_ret (v := .agg #[.int .i64 0, .string ⟨#[]⟩, .int .i64 0, .int .i64 0, .int .i64 4]) ?_ rfl ⟨rfl, bset5 B0.out HPW.out (.int .i64 0) (.string ⟨#[]⟩) (.int .i64 0) (.int .i64 0) (.int .i64 4)⟩
   obtain ⟨⟨t0, t1, t2, t3, t4⟩, _⟩ := five_cells HF.out
   simp [results, Tryz.results34, go_sem, t0, t1, t2, t3, t4]
 clear hc
 have hL : L = false := by
  rcases ha.out with h | ⟨_, h⟩
  ·
   exact h
  cases h
 subst hL
 clear ha
 go_upto_region 6 with fail
 go_wp2_with fail
 refine (CW.out _).mono ?_
 rintro e w1 ⟨rfl, rfl⟩
 go_upto_region 8 with fail
 clear CW
 obtain ⟨⟨z0, z1, z2, z3, z4⟩, y0, y1, y2, y3, y4⟩ := five_cells N0.out
 go_wp2_with fail
 refine bodyPost_ret (v := .agg #[.int .i64 0, .string ⟨#[]⟩, .int .i64 0, .int .i64 0, .int .i64 4]) ?_ rfl ⟨rfl, bset5 B0.out HPW.out (.int .i64 0) (.string ⟨#[]⟩) (.int .i64 0) (.int .i64 0) (.int .i64 4)⟩
 obtain ⟨⟨t0, t1, t2, t3, t4⟩, _⟩ := five_cells HF.out
 simp [results, Tryz.results34, go_sem, t0, t1, t2, t3, t4]
theorem begin_is (s : ByteArray) (hs : s.size ≤ 100000) (h1 : 1 ≤ s.size) (a : Nat) (w : World) : Calls Tryz.prog 34 #[.string s, .int .i64 (a : Int)] w fun e w' => e = .returned (bgn (lst s) a).pc ∧ Below w.heap.size w w' := by
 have h0 : 0 < s.size := h1
 have hl : lst s = s[0] :: (lst s).drop 1 := by
  have h := List.drop_eq_getElem_cons (l := lst s) (i := 0) (by rw [lst_size]; omega)
  rw [List.drop_zero] at h
  exact h
 have HB : bgn (lst s) a = if mrk s[0] = true then .go 1 2 (some (2, [s[0]])) else if s[0].toNat = 34 ∧ a ≠ 0 then quo ((lst s).drop 1) else if ltr s[0] = true ∧ a ≠ 1 then wrd (lst s) else .fault 0 4 := by
  conv => lhs; rw [hl]
  conv => rhs; rw [hl]
  rfl
 have CM := isMark_is.2 s[0]
 have CW := inWord_is.2 s[0]
 cases hm : mrk s[0] with
 | true =>
  rw [hm] at CM
  have HX : s.extract 0 1 = txt [s[0]] := by
   rw [extract_txt, List.drop_zero]
   conv => lhs; rw [hl]
   rfl
  rw [HB, if_pos hm, pc_go, ← HX]
  exact begin_mark s h0 a CM w
 | false =>
  rw [hm] at CM
  rw [HB, if_neg (by rw [hm]; decide)]
  by_cases h34 : s[0].toNat = 34 ∧ a ≠ 0
  ·
   rw [if_pos h34]
   obtain ⟨k1, t1, n1, f1, e1, hv1⟩ := pc_five (quo ((lst s).drop 1))
   have CQ := quoted_is s hs h1
   rw [hv1] at CQ ⊢
   exact begin_quote s h0 a (by omega) (by omega) CM k1 t1 n1 f1 e1 CQ w
  rw [if_neg h34]
  have hc : ¬ (s[0].toNat : Int) = 34 ∨ (s[0].toNat : Int) = 34 ∧ (a : Int) = 0 := by omega
  by_cases hw : ltr s[0] = true ∧ a ≠ 1
  ·
   rw [if_pos hw]
   rw [hw.1] at CW
   obtain ⟨k1, t1, n1, f1, e1, hv1⟩ := pc_five (wrd (lst s))
   have CQ := word_is s hs
   rw [hv1] at CQ ⊢
   exact begin_word s h0 a (by omega) hc CM CW k1 t1 n1 f1 e1 CQ w
  rw [if_neg hw]
  refine begin_bad s h0 a (ltr s[0]) ?_ hc CM CW w
  cases hl : ltr s[0]
  ·
   exact .inl rfl
  refine .inr ⟨rfl, ?_⟩
  have : ¬ a ≠ 1 := fun h => hw ⟨hl, h⟩
  omega
end Go.Proofs.YtnadhplhnfpeaaaGreatDoor.Lx
