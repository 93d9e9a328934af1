/- show's writer: Itoa, number, neighbor. -/
import Derived.Test.YtpmmhmgojjlniaaGreatDoorQ02
import Derived.Test.YtpmmhmgojjlniaaGreatDoorQ03
import Derived.Test.YtpmmhmgojjlniaaGreatDoorQ32
import Derived.Lib.LaidTab
import Derived.Lib.ItoaLen
import Derived.Lib.AppendIntMem
import Derived.Laws.IdiomStrings
import Derived.Laws.Concat
namespace Go.Proofs.YtpmmhmgojjlniaaGreatDoor
open Go.RowKit Go.Sort
/-- The library's table of powers of ten reads as it was laid. -/
def Tab (w : World) : Prop := Lib.TabIs Tryz.prog w "internal/strconv.uint64pow10" .u64 Lib.pow10Tab
theorem Tab.on {w w' : World} (h : Tab w) (hb : Below w.heap.size w w') : Tab w' := Lib.tabBelow_of_tabIs h w' hb
theorem itoa_is (n : Int) (h0 : -1 ≤ n) (h1 : n ≤ 1048576) (w : World) (h : Tab w) :
    Calls Tryz.prog 136 #[.int .i64 n] w fun e w' => e = .returned (.string (numT n)) ∧ Below w.heap.size w w' := by
  refine (Tryz.strconv_Itoa n (by omega) (by omega) w h).mono ?_
  rintro e w' ⟨rfl, k, os, rfl⟩
  exact ⟨rfl, Lib.below_grow _ w (Nat.le_refl _) k os⟩
def numB (d : Nat) (words : ByteArray) (n : Int) : List UInt8 := if n = -1 then [] else lineB d (sayT [words, numT n])
set_option maxHeartbeats 2000000 in
set_option maxRecDepth 100000 in
theorem number_is (B b : Nat) (l : List UInt8) (d : Nat) (words : ByteArray) (n : Int) (h0 : -1 ≤ n) (h1 : n ≤ 1048576) (w : World) (hT : Tab w) (h : IsWr B b (Lib.byteCells l) d w) (hz : l.length + d + (sayT [words, numT n]).size + 1 ≤ 1000000000) (hBw : B ≤ w.heap.size) :
    Calls Tryz.prog 252 #[.pointer (some ⟨b, 0, none⟩), .string words, .int .i64 n] w fun e w' => e = .returned (.tuple #[]) ∧ IsWr B b (Lib.byteCells (l ++ numB d words n)) d w' ∧ Below B w w' ∧ KeptB b w w' := by
  unfold numB
  by_cases hn : n = -1
  · rw [if_pos hn, List.append_nil]
    subst hn
    go_enter Tryz.func252, Tryz.ntmps252
    go_wp2_with fail
    go_end0
    exact ⟨rfl, h, Below.refl B w, KeptB.refl b w⟩
  · rw [if_neg hn]
    have CI := hide (itoa_is n h0 h1 w hT)
    have CS := hide (fun W hW hB => sayRow [words, numT n] B b l d W hW (by simp) hz hB)
    have H := hide h
    generalize lineB d (sayT [words, numT n]) = LB at *
    generalize numT n = t at *
    clear h hT hz
    go_enter Tryz.func252, Tryz.ntmps252
    go_wp2_with fail
    refine CI.out.mono ?_
    rintro e w1 ⟨rfl, hb1⟩
    have C2 := hide (CS.out w1 (H.out.below hb1) (Nat.le_trans hBw hb1.size))
    have B1 := hide (below_less hb1 hBw)
    have K1 := hide ((KeptB.refl b w).below hb1)
    clear hb1 CI CS
    go_wp2_with fail
    refine Calls.mono (P := Tryz.prog) (f := 131) C2.out ?_
    rintro e w2 ⟨rfl, h2, hb2, hk2⟩
    have B2 := hide (B1.out.trans hb2)
    have K2 := hide (K1.out.trans hk2)
    have W2 := hide h2
    clear h2 hb2 hk2 C2
    go_wp2_with fail
    go_end0
    exact ⟨rfl, W2.out, B2.out, K2.out⟩
end Go.Proofs.YtpmmhmgojjlniaaGreatDoor
namespace Go.Proofs.YtpmmhmgojjlniaaGreatDoor
open Go.RowKit Go.Sort
theorem infoS : (Tryz.prog.info? 9).map (fun i => (i.zero, i.size, i.bytes)) = some (some (.string ⟨#[]⟩), 1, 16) := by kernel_rfl
theorem info_partsS : ∃ i0 : TypeInfo, Tryz.prog.info? 9 = some i0 ∧ i0.zero = some (.string ⟨#[]⟩) ∧ i0.size = 1 ∧ i0.bytes = 16 := by
  have h := infoS
  cases hi : Tryz.prog.info? 9 with
  | none => rw [hi] at h; cases h
  | some i0 =>
    rw [hi] at h
    simp only [Option.map_some, Option.some.injEq, Prod.mk.injEq] at h
    exact ⟨i0, rfl, h.1, h.2.1, h.2.2⟩
theorem append_str1 {w w0 : World} {ops : Array Oper} {rest : List Oper} {o : Oper} {a : Act} {Q : Exit → Act → World → Prop} (hgd : o.guard = none) (s x : Operand)
    (ho : o.op = .call { callee := .builtin .append, args := #[s, x], argTypes := #[41, 41] }) (v : Value) (n : Nat) (xs : List Value) (hs : a.eval s = v) (hown : w.ownsRow w0.heap.size 9 1 v n xs)
    (g c : Nat) (t0 : ByteArray) (hx : a.eval x = .slice (some ⟨g, 0, none⟩) 1 c) (h0 : w.cell? ⟨g, 0, none⟩ = some (.string t0)) (hn : n ≤ 1000) (hb : Below w0.heap.size w0 w)
    (h : ∀ v' w', w'.ownsRow w0.heap.size 9 1 v' (n + 1) (xs ++ [.string t0]) → Below w0.heap.size w0 w' → wpList Tryz.prog ops Q rest (a.put o.dst v') w') : wpList Tryz.prog ops Q (o :: rest) a w := by
  obtain ⟨i0, hi, hz0, hz1, hz2⟩ := info_partsS
  refine wpList_append_own w hgd s x 41 ho w0.heap.size 9 i0 _ 1 16 Tryz.underlying41 hi hz0 hz1 hz2 rfl (by decide) v n xs hs hown ⟨g, 0, none⟩ 1 c [.string t0] hx rfl ?_ ?_ (by unfold maxLen; omega) (by omega) hb.size ?_
  · intro j u hu
    match j, hu with
    | 0, hu => simp at hu; subst hu; exact h0
    | j + 1, hu => simp at hu
  · intro u hu
    simp at hu
    rcases hu with rfl <;> rfl
  · intro v' w' ho' hg _
    exact h v' w' ho' (Below.grown hb hg hb.size fun k hk => (hown.lt k hk).1)
theorem append_str2 {w w0 : World} {ops : Array Oper} {rest : List Oper} {o : Oper} {a : Act} {Q : Exit → Act → World → Prop} (hgd : o.guard = none) (s x : Operand)
    (ho : o.op = .call { callee := .builtin .append, args := #[s, x], argTypes := #[41, 41] }) (v : Value) (n : Nat) (xs : List Value) (hs : a.eval s = v) (hown : w.ownsRow w0.heap.size 9 1 v n xs)
    (g c : Nat) (t0 t1 : ByteArray) (hx : a.eval x = .slice (some ⟨g, 0, none⟩) 2 c) (h0 : w.cell? ⟨g, 0, none⟩ = some (.string t0)) (h1 : w.cell? ⟨g, 1, none⟩ = some (.string t1)) (hn : n ≤ 1000) (hb : Below w0.heap.size w0 w)
    (h : ∀ v' w', w'.ownsRow w0.heap.size 9 1 v' (n + 2) (xs ++ [.string t0, .string t1]) → Below w0.heap.size w0 w' → wpList Tryz.prog ops Q rest (a.put o.dst v') w') : wpList Tryz.prog ops Q (o :: rest) a w := by
  obtain ⟨i0, hi, hz0, hz1, hz2⟩ := info_partsS
  refine wpList_append_own w hgd s x 41 ho w0.heap.size 9 i0 _ 1 16 Tryz.underlying41 hi hz0 hz1 hz2 rfl (by decide) v n xs hs hown ⟨g, 0, none⟩ 2 c [.string t0, .string t1] hx rfl ?_ ?_ (by unfold maxLen; omega) (by omega) hb.size ?_
  · intro j u hu
    match j, hu with
    | 0, hu => simp at hu; subst hu; exact h0
    | 1, hu => simp at hu; subst hu; exact h1
    | j + 2, hu => simp at hu
  · intro u hu
    simp at hu
    rcases hu with rfl | rfl <;> rfl
  · intro v' w' ho' hg _
    exact h v' w' ho' (Below.grown hb hg hb.size fun k hk => (hown.lt k hk).1)
/-- A row that was just made. -/
theorem owns_new (w : World) (xs : List Value) (B : Nat) (hB : B ≤ w.heap.size) (hn : xs.length ≤ 1000) : (w.alloc (.cells xs.toArray 9)).ownsRow B 9 1 (.slice (some ⟨w.heap.size, 0, none⟩) xs.length xs.length) xs.length xs :=
  ⟨by simp, .inr ⟨w.heap.size, xs.length, xs.toArray, rfl, hB, heap_new w _ _, Nat.le_refl _, by unfold maxLen; omega, by simp, by simp⟩⟩
/-- say of a row of one's own. -/
theorem sayOwn (xs : List ByteArray) (B b : Nat) (l : List UInt8) (d : Nat) (o : Option Addr) (c B0 : Nat) (w : World) (h : IsWr B b (Lib.byteCells l) d w) (h0 : 0 < xs.length) (hN : xs.length ≤ 1000) (hz : l.length + d + (sayT xs).size + 1 ≤ 1000000000) (hBw : B ≤ w.heap.size) (ho : w.ownsRow B0 9 1 (.slice o xs.length c) xs.length (xs.map Value.string)) :
    Calls Tryz.prog 131 #[.pointer (some ⟨b, 0, none⟩), .slice o xs.length c] w fun e w' => e = .returned (.tuple #[]) ∧ IsWr B b (Lib.byteCells (l ++ lineB d (sayT xs))) d w' ∧ Below B w w' ∧ KeptB b w w' := by
  obtain ⟨g, rfl, hgc⟩ : ∃ g, o = some ⟨g, 0, none⟩ ∧ xs.length ≤ c := by
    rcases ho.2 with ⟨hv, h1⟩ | ⟨g, cap, cur, hv, hbg, hg, hnc, _⟩
    · omega
    · simp only [Value.slice.injEq] at hv
      exact ⟨g, hv.1, by rw [hv.2.2]; exact hnc⟩
  refine say_is B b l d xs g 0 c w h (fun j x hx => ?_) (ho.lt g rfl).2 hN hgc hz hBw
  have hj : j < xs.length := (List.getElem?_eq_some_iff.1 hx).1
  rw [Nat.zero_add, ho.cellAt j (by omega), List.getElem?_map, hx]
  rfl
/-- A line with all of a list, if there are any. -/
def rowB {α : Type} (d : Nat) (words : ByteArray) (l : List α) (key : α → ByteArray) : List UInt8 := match l with
  | [] => []
  | a :: l => lineB d (sayT (words :: (a :: l).map key))
theorem rowB_pos {α : Type} (d : Nat) (words : ByteArray) (l : List α) (key : α → ByteArray) (h : l ≠ []) : rowB d words l key = lineB d (sayT (words :: l.map key)) := by
  cases l with
  | nil => exact absurd rfl h
  | cons a l => rfl
theorem row_snoc {α : Type} (words : ByteArray) (l : List α) (key : α → ByteArray) (k : Nat) (h : k < l.length) : (words :: (l.take (k + 1)).map key).map Value.string = (words :: (l.take k).map key).map Value.string ++ [.string (key l[k])] := by
  rw [List.take_succ_eq_append_getElem h]
  simp only [List.map_cons, List.map_append, List.map_nil, List.cons_append]
end Go.Proofs.YtpmmhmgojjlniaaGreatDoor
namespace Go.Proofs.YtpmmhmgojjlniaaGreatDoor
open Go.RowKit Go.Sort
set_option maxHeartbeats 2000000 in
set_option maxRecDepth 100000 in
theorem rowComm_is {f : Nat} {caps : Array Value} {G : Int × Int → Prop} {key : Int × Int → ByteArray} (B b : Nat) (l : List UInt8) (d : Nat) (words : ByteArray) (v : Value) (ns : List (Int × Int)) (w : World) (hk : FnKey w f caps 2 PrR G key) (h : IsWr B b (Lib.byteCells l) d w) (hv : Rd w 2 PrR v ns) (hg : ∀ a ∈ ns, G a) (hn : ns.length ≤ 900) (hz : l.length + d + (sayT (words :: ns.map key)).size + 1 ≤ 1000000000) (hBw : B ≤ w.heap.size) :
    Calls Tryz.prog 254 #[.pointer (some ⟨b, 0, none⟩), .string words, v, .func (.func f) #[] caps] w fun e w' => e = .returned (.tuple #[]) ∧ IsWr B b (Lib.byteCells (l ++ rowB d words ns key)) d w' ∧ Below B w w' ∧ KeptB b w w' := by
  obtain ⟨ao, ca, rfl⟩ := hv.slice
  by_cases h0 : ns = []
  · subst h0
    rw [show rowB d words [] key = [] from rfl, List.append_nil]
    clear hk hv
    go_enter Tryz.func254, Tryz.ntmps254
    go_wp2_with fail
    first | go_end0 | refine bodyPost_ret (results_none rfl _ _ _) rfl ?_
    exact ⟨rfl, h, Below.refl B w, KeptB.refl b w⟩
  · rw [rowB_pos d words ns key h0]
    have hl0 : ns.length ≠ 0 := fun e => h0 (List.length_eq_zero_iff.1 e)
    have hl0' : ¬ (ns.length : Int) = 0 := by omega
    have HV := hide hv
    have hcf := hk.enter
    have HF := hide hk.ok
    have HG := hide hg
    have H := hide h
    have HO1 := hide (owns_new w [.string words] w.heap.size (Nat.le_refl _) (by simp))
    have A1 := hide (balloc (brefl w) (.cells #[.string words] 9))
    have CS := hide (fun W hW o c ho (hB : B ≤ W.heap.size) => sayOwn (words :: ns.map key) B b l d o c w.heap.size W hW (by simp) (by simp; omega) hz hB ho)
    have HLB : Hid (∃ x, x = lineB d (sayT (words :: ns.map key))) := ⟨_, rfl⟩
    have hlen : (words :: ns.map key).length = ns.length + 1 := by simp
    clear hk hv hg h hz h0
    go_enter Tryz.func254, Tryz.ntmps254
    go_wp2_with fail
    rw [show ((ns.length : Int) == 0) = false from beq_eq_false_iff_ne.2 hl0']
    go_loopw [8, 18] (fun v8 v18 wr => ∃ (k : Nat) (o : Option Addr) (c : Nat), v18 = .int .i64 k ∧ v8 = .slice o (k + 1) c ∧ k ≤ ns.length ∧ Hid (wr.ownsRow w.heap.size 9 1 (.slice o (k + 1) c) (k + 1) ((words :: (ns.take k).map key).map Value.string)) ∧ Hid (Below w.heap.size w wr)) (fun _ v18 _ => ns.length - (intOf v18).toNat)
    case atStart => exact ⟨0, _, _, rfl, rfl, Nat.zero_le _, HO1, A1⟩
    case round =>
      clear HO1 A1
      obtain ⟨k, o, c, rfl, rfl, hk, HO, HBR⟩ := hrel
      by_cases hkl : k < ns.length
      · have hkl' : (k : Int) < (ns.length : Int) := by omega
        have HN := hide (row_snoc words ns key k hkl)
        obtain ⟨b2, off2, xs, rfl, hbw, hx, ha⟩ := (Rd.below PrR.mono HV.out HBR.out).at_ hkl
        have HX := hide hx
        obtain rfl : xs = [.int .i64 ns[k].1, .int .i64 ns[k].2] := hx
        have e0 := ha 0 _ rfl
        have e1 := ha 1 _ rfl
        simp only [Nat.add_zero] at e0
        clear ha
        have A2 := balloc (brefl wr) (.cells #[.int .i64 ns[k].1, .int .i64 ns[k].2] 53)
        have B2 := hide (bthen HBR.out A2)
        have O2 := hide (Ar.row_below HO.out A2)
        have C := hide (HF.out (wr.alloc (.cells #[.int .i64 ns[k].1, .int .i64 ns[k].2] 53)) ns[k] (.agg #[.int .i64 ns[k].1, .int .i64 ns[k].2]) B2.out ⟨_, PrR.mono _ _ _ _ A2 HX.out, rfl, rfl⟩ (HG.out _ (List.getElem_mem hkl)))
        clear A2
        clear HX
        generalize key ns[k] = t at *
        generalize (words :: (ns.take k).map key).map Value.string = XS at *
        generalize hXN : (words :: (ns.take (k + 1)).map key).map Value.string = XN at *
        have HXN := hide hXN
        clear hXN
        clear HO HBR
        go_wp2_with fail
        refine C.out.mono ?_
        rintro e w3 ⟨rfl, hb3⟩
        have B3 := hide (bthen B2.out hb3)
        have HO3 := hide (Ar.row_below O2.out hb3)
        clear hb3 B2 O2 C
        go_wp2_with (at_builtin; go_must (refine append_str1 (w0 := w) rfl _ _ rfl _ (k + 1) _ rfl (HO3.out.alloc _) w3.heap.size 1 t rfl ?c1 (by omega) (balloc B3.out _) ?_))
        case c1 => simp
        intro v' w4 hnew hb4
        obtain ⟨no, nc, rfl⟩ := Ar.row_slice hnew
        rw [← HN.out] at hnew
        have HNW := hide hnew
        have B4 := hide hb4
        clear hnew hb4
        go_wp2_with fail
        exact ⟨⟨k + 1, no, nc, by go_num, rfl, by omega, (by rw [HXN.out]; exact HNW), B4⟩, by simp [intOf] <;> omega⟩
      · have hkl' : ¬ (k : Int) < (ns.length : Int) := by omega
        obtain rfl : k = ns.length := by omega
        rw [List.take_length] at HO
        have C := hide (CS.out wr (H.out.below HBR.out) o c (by rw [hlen]; exact HO.out) (Nat.le_trans hBw HBR.out.size))
        rw [hlen] at C
        have B1 := hide (below_less HBR.out hBw)
        have K1 := hide ((KeptB.refl b w).below HBR.out)
        clear HO HBR CS
        go_wp2_with fail
        refine C.out.mono ?_
        rintro e w2 ⟨rfl, h2, hb2, hk2⟩
        have B2 := hide (B1.out.trans hb2)
        have K2 := hide (K1.out.trans hk2)
        have W2 := hide h2
        clear h2 hb2 hk2 C
        go_wp2_with fail
        first | go_end0 | refine bodyPost_ret (results_none rfl _ _ _) rfl ?_
        exact ⟨rfl, W2.out, B2.out, K2.out⟩
end Go.Proofs.YtpmmhmgojjlniaaGreatDoor
namespace Go.Proofs.YtpmmhmgojjlniaaGreatDoor
open Go.RowKit Go.Sort
set_option maxHeartbeats 2000000 in
set_option maxRecDepth 100000 in
theorem rowint_is {f : Nat} {caps : Array Value} {G : Int → Prop} {key : Int → ByteArray} (B b : Nat) (l : List UInt8) (d : Nat) (words : ByteArray) (v : Value) (ns : List (Int)) (w : World) (hk : FnKey w f caps 1 InR G key) (h : IsWr B b (Lib.byteCells l) d w) (hv : Rd w 1 InR v ns) (hg : ∀ a ∈ ns, G a) (hn : ns.length ≤ 900) (hz : l.length + d + (sayT (words :: ns.map key)).size + 1 ≤ 1000000000) (hBw : B ≤ w.heap.size) :
    Calls Tryz.prog 255 #[.pointer (some ⟨b, 0, none⟩), .string words, v, .func (.func f) #[] caps] w fun e w' => e = .returned (.tuple #[]) ∧ IsWr B b (Lib.byteCells (l ++ rowB d words ns key)) d w' ∧ Below B w w' ∧ KeptB b w w' := by
  obtain ⟨ao, ca, rfl⟩ := hv.slice
  by_cases h0 : ns = []
  · subst h0
    rw [show rowB d words [] key = [] from rfl, List.append_nil]
    clear hk hv
    go_enter Tryz.func255, Tryz.ntmps255
    go_wp2_with fail
    first | go_end0 | refine bodyPost_ret (results_none rfl _ _ _) rfl ?_
    exact ⟨rfl, h, Below.refl B w, KeptB.refl b w⟩
  · rw [rowB_pos d words ns key h0]
    have hl0 : ns.length ≠ 0 := fun e => h0 (List.length_eq_zero_iff.1 e)
    have hl0' : ¬ (ns.length : Int) = 0 := by omega
    have HV := hide hv
    have hcf := hk.enter
    have HF := hide hk.ok
    have HG := hide hg
    have H := hide h
    have HO1 := hide (owns_new w [.string words] w.heap.size (Nat.le_refl _) (by simp))
    have A1 := hide (balloc (brefl w) (.cells #[.string words] 9))
    have CS := hide (fun W hW o c ho (hB : B ≤ W.heap.size) => sayOwn (words :: ns.map key) B b l d o c w.heap.size W hW (by simp) (by simp; omega) hz hB ho)
    have HLB : Hid (∃ x, x = lineB d (sayT (words :: ns.map key))) := ⟨_, rfl⟩
    have hlen : (words :: ns.map key).length = ns.length + 1 := by simp
    clear hk hv hg h hz h0
    go_enter Tryz.func255, Tryz.ntmps255
    go_wp2_with fail
    rw [show ((ns.length : Int) == 0) = false from beq_eq_false_iff_ne.2 hl0']
    go_loopw [8, 18] (fun v8 v18 wr => ∃ (k : Nat) (o : Option Addr) (c : Nat), v18 = .int .i64 k ∧ v8 = .slice o (k + 1) c ∧ k ≤ ns.length ∧ Hid (wr.ownsRow w.heap.size 9 1 (.slice o (k + 1) c) (k + 1) ((words :: (ns.take k).map key).map Value.string)) ∧ Hid (Below w.heap.size w wr)) (fun _ v18 _ => ns.length - (intOf v18).toNat)
    case atStart => exact ⟨0, _, _, rfl, rfl, Nat.zero_le _, HO1, A1⟩
    case round =>
      clear HO1 A1
      obtain ⟨k, o, c, rfl, rfl, hk, HO, HBR⟩ := hrel
      by_cases hkl : k < ns.length
      · have hkl' : (k : Int) < (ns.length : Int) := by omega
        have HN := hide (row_snoc words ns key k hkl)
        obtain ⟨b2, off2, xs, rfl, hbw, hx, ha⟩ := (Rd.below InR.mono HV.out HBR.out).at_ hkl
        have HX := hide hx
        obtain rfl : xs = [.int .i64 ns[k]] := hx
        have e0 := ha 0 _ rfl
        simp only [Nat.add_zero, Nat.mul_one] at e0
        clear ha
        have C := hide (HF.out wr ns[k] (.int .i64 ns[k]) HBR.out ⟨_, HX.out, rfl, rfl⟩ (HG.out _ (List.getElem_mem hkl)))
        have B2 := HBR
        have O2 := HO
        clear HX
        generalize key ns[k] = t at *
        generalize (words :: (ns.take k).map key).map Value.string = XS at *
        generalize hXN : (words :: (ns.take (k + 1)).map key).map Value.string = XN at *
        have HXN := hide hXN
        clear hXN
        clear HO HBR
        go_wp2_with fail
        refine C.out.mono ?_
        rintro e w3 ⟨rfl, hb3⟩
        have B3 := hide (bthen B2.out hb3)
        have HO3 := hide (Ar.row_below O2.out hb3)
        clear hb3 B2 O2 C
        go_wp2_with (at_builtin; go_must (refine append_str1 (w0 := w) rfl _ _ rfl _ (k + 1) _ rfl (HO3.out.alloc _) w3.heap.size 1 t rfl ?c1 (by omega) (balloc B3.out _) ?_))
        case c1 => simp
        intro v' w4 hnew hb4
        obtain ⟨no, nc, rfl⟩ := Ar.row_slice hnew
        rw [← HN.out] at hnew
        have HNW := hide hnew
        have B4 := hide hb4
        clear hnew hb4
        go_wp2_with fail
        exact ⟨⟨k + 1, no, nc, by go_num, rfl, by omega, (by rw [HXN.out]; exact HNW), B4⟩, by simp [intOf] <;> omega⟩
      · have hkl' : ¬ (k : Int) < (ns.length : Int) := by omega
        obtain rfl : k = ns.length := by omega
        rw [List.take_length] at HO
        have C := hide (CS.out wr (H.out.below HBR.out) o c (by rw [hlen]; exact HO.out) (Nat.le_trans hBw HBR.out.size))
        rw [hlen] at C
        have B1 := hide (below_less HBR.out hBw)
        have K1 := hide ((KeptB.refl b w).below HBR.out)
        clear HO HBR CS
        go_wp2_with fail
        refine C.out.mono ?_
        rintro e w2 ⟨rfl, h2, hb2, hk2⟩
        have B2 := hide (B1.out.trans hb2)
        have K2 := hide (K1.out.trans hk2)
        have W2 := hide h2
        clear h2 hb2 hk2 C
        go_wp2_with fail
        first | go_end0 | refine bodyPost_ret (results_none rfl _ _ _) rfl ?_
        exact ⟨rfl, W2.out, B2.out, K2.out⟩
end Go.Proofs.YtpmmhmgojjlniaaGreatDoor
namespace Go.Proofs.YtpmmhmgojjlniaaGreatDoor.Cm
open Go.RowKit Go.Sort
/-- The library's table of powers of ten reads as it was laid. -/
def Tab (w : World) : Prop := Lib.TabIs Tryz.prog w "internal/strconv.uint64pow10" .u64 Lib.pow10Tab
theorem Tab.on {w w' : World} (h : Tab w) (hb : Below w.heap.size w w') : Tab w' := Lib.tabBelow_of_tabIs h w' hb

theorem itoa_is (n : Int) (t : ByteArray) (h0 : 0 ≤ n) (h1 : n ≤ 65535) (ht : t = ⟨(Lib.itoa n).toArray⟩) (w : World) (h : Tab w) :
    Calls Tryz.prog 136 #[.int .i64 n] w fun e w' => e = .returned (.string t) ∧ Below w.heap.size w w' := by
  subst ht
  refine (Tryz.strconv_Itoa n (by omega) (by omega) w h).mono ?_
  rintro e w' ⟨rfl, k, os, rfl⟩
  exact ⟨rfl, Lib.below_grow _ w (Nat.le_refl _) k os⟩

/-- Two texts joined make a third one. -/
def Adds (x y z : ByteArray) : Prop := ∀ W : World, (Op.stringOp .add x y).run Tryz.prog W = .ok (.string z) W
theorem adds_mk (x y z : ByteArray) (h : x.size + y.size ≤ maxLen) (hz : x ++ y = z) : Adds x y z := by
  intro W
  subst hz
  exact run_string_add_sum W x y h
theorem ba_app (a b : List UInt8) : (⟨a.toArray⟩ : ByteArray) ++ ⟨b.toArray⟩ = ⟨(a ++ b).toArray⟩ := by
  apply ByteArray.ext
  simp [ByteArray.data_append]
theorem adds_list (x y : List UInt8) (h1 : x.length ≤ 100000) (h2 : y.length ≤ 100000) : Adds ⟨x.toArray⟩ ⟨y.toArray⟩ ⟨(x ++ y).toArray⟩ :=
  adds_mk _ _ _ (by show x.toArray.size + y.toArray.size ≤ maxLen; simp; unfold maxLen; omega) (ba_app x y)

theorem one_byte (W : World) (d : Int) (h0 : 0 ≤ d) (h1 : d < 256) : (convert 72 9 (.slice (some ⟨W.heap.size, 0, none⟩) 1 1)).run Tryz.prog (W.alloc (.cells #[.int .u8 d] 5)) = .ok (.string ⟨[UInt8.ofNat d.toNat].toArray⟩) (W.alloc (.cells #[.int .u8 d] 5)) := by
  refine run_convert_bytes_back (W.alloc (.cells #[.int .u8 d] 5)) _ _ _ ⟨W.heap.size, 0, none⟩ 1 [UInt8.ofNat d.toNat] Tryz.underlying72 Tryz.underlying5 Tryz.underlying9 ?_
  intro j hj
  simp at hj
  subst hj
  have e : (((UInt8.ofNat d.toNat).toNat : Nat) : Int) = d := by
    rw [UInt8.toNat_ofNat']
    omega
  simp [Addr.add, go_sem]
  omega

theorem dec_step (u d : Nat) (hd : d < 10) (hu : 0 < u) : Lib.decDigits (10 * u + d) = Lib.decDigits u ++ [UInt8.ofNat (48 + d)] := by
  rw [Lib.decDigits, dif_neg (by omega)]
  have e1 : (10 * u + d) / 10 = u := by omega
  have e2 : (10 * u + d) % 10 = d := by omega
  rw [e1, e2]

end Go.Proofs.YtpmmhmgojjlniaaGreatDoor.Cm
namespace Go.Proofs.YtpmmhmgojjlniaaGreatDoor.Cm
open Go.RowKit Go.Sort
theorem two_regrown {W : World} {n : Nat} {a b : Int} (h : Two W n a b) : (∀ d os, (Sort.grow (redrawn W d) os).cell? ⟨n, 0, none⟩ = some (.int .i64 a)) ∧ (∀ d os, (Sort.grow (redrawn W d) os).cell? ⟨n, 1, none⟩ = some (.int .i64 b)) :=
  ⟨fun d os => cell_regrown h.1 d os, fun d os => cell_regrown h.2.1 d os⟩


def Co.nE : List UInt8 := [110, 111, 45, 101, 120, 112, 111, 114, 116]
def Co.nA : List UInt8 := [110, 111, 45, 97, 100, 118, 101, 114, 116, 105, 115, 101]
def Co.lo : List UInt8 := [108, 111, 99, 97, 108]
def Co.plain (a b : Int) : List UInt8 := Lib.itoa a ++ [58] ++ Lib.itoa b
def Co.text (a b : Int) : List UInt8 :=
  if Co.may (a, b) = true then (if a = 65535 ∧ b = 65281 then Co.nE else if a = 65535 ∧ b = 65282 then Co.nA else if a = 65535 ∧ b = 65283 then Co.lo else Co.plain a b) else []

theorem noExport_is (w : World) : Calls Tryz.prog 291 #[] w fun e w' => e = .returned (.agg #[.int .i64 65535, .int .i64 65281]) ∧ Below w.heap.size w w' := by
  go_enter Tryz.func291, Tryz.ntmps291
  go_wp2_with fail
  exact bodyPost_ret (v := .agg #[.int .i64 65535, .int .i64 65281]) (by simp [results, Tryz.results291, go_sem]) rfl ⟨rfl, balloc (brefl w) _⟩
theorem noAdv_is (w : World) : Calls Tryz.prog 292 #[] w fun e w' => e = .returned (.agg #[.int .i64 65535, .int .i64 65282]) ∧ Below w.heap.size w w' := by
  go_enter Tryz.func292, Tryz.ntmps292
  go_wp2_with fail
  exact bodyPost_ret (v := .agg #[.int .i64 65535, .int .i64 65282]) (by simp [results, Tryz.results292, go_sem]) rfl ⟨rfl, balloc (brefl w) _⟩
theorem local_is (w : World) : Calls Tryz.prog 293 #[] w fun e w' => e = .returned (.agg #[.int .i64 65535, .int .i64 65283]) ∧ Below w.heap.size w w' := by
  go_enter Tryz.func293, Tryz.ntmps293
  go_wp2_with fail
  exact bodyPost_ret (v := .agg #[.int .i64 65535, .int .i64 65283]) (by simp [results, Tryz.results293, go_sem]) rfl ⟨rfl, balloc (brefl w) _⟩

theorem Co.may_iff (a b : Int) : Co.may (a, b) = true ↔ 1 ≤ a ∧ a ≤ 65535 ∧ 0 ≤ b ∧ b ≤ 65535 := by simp [Co.may]

set_option maxHeartbeats 2000000 in
set_option maxRecDepth 100000 in
theorem text_plain (a b : Int) (t0 t1 u0 u1 : ByteArray) (w : World) (hT : Tab w) (M : Hid (Co.may (a, b) = true)) (h1 : (a == 65535 && b == 65281) = false) (h2 : (a == 65535 && b == 65282) = false) (h3 : (a == 65535 && b == 65283) = false)
    (K0 : Adds t0 ⟨#[58]⟩ u0) (K1 : Adds u0 t1 u1) (N0 : Hid (t0 = ⟨(Lib.itoa a).toArray⟩)) (N1 : Hid (t1 = ⟨(Lib.itoa b).toArray⟩)) :
    Calls Tryz.prog 251 #[.agg #[.int .i64 a, .int .i64 b]] w fun e w' => e = .returned (.string u1) ∧ Below w.heap.size w w' := by
  unfold Adds at *
  have hm := (Co.may_iff a b).1 M.out
  have HT := hide hT
  clear hT
  go_enter Tryz.func251, Tryz.ntmps251
  go_wp2_with fail
  have TB := hide (two_new w a b 53)
  have B0 := hide (balloc (brefl w) (.cells #[.int .i64 a, .int .i64 b] 53))
  generalize w.alloc (.cells #[.int .i64 a, .int .i64 b] 53) = W0 at *
  generalize w.heap.size = R at TB ⊢
  refine (may_is _ _ _ M.out _).mono ?_
  rintro e w1 ⟨rfl, hb1⟩
  obtain ⟨p0, p1, p2, p3⟩ := two_below hb1 TB.out
  have B1 := hide (bthen B0.out hb1)
  clear hb1
  go_wp2_with fail
  refine (noExport_is _).mono ?_
  rintro e w2 ⟨rfl, hb2⟩
  have T2 := hide (two_below hb2 (two_of p0 p1))
  have B2 := hide (bthen B1.out hb2)
  clear hb2 p0 p1 p2 p3
  have hq := eqC
  have hgd := guardC
  go_wp2_with fail
  refine (noAdv_is _).mono ?_
  rintro e w3 ⟨rfl, hb3⟩
  have T3 := hide (two_below hb3 T2.out)
  have B3 := hide (bthen B2.out hb3)
  clear hb3
  go_wp2_with fail
  refine (local_is _).mono ?_
  rintro e w4 ⟨rfl, hb4⟩
  have T4 := hide (two_below hb4 T3.out)
  have B4 := hide (bthen B3.out hb4)
  clear hb4
  go_wp2_with fail
  clear hq hgd
  obtain ⟨c0, c1⟩ := two_regrown T4.out
  have CT := hide fun (dd : Nat) (os : Array Obj) => HT.out.on (bthen B4.out (below_regrown w4 dd os))
  refine wp_region_quiet_below (by kernel_rfl) (by kernel_rfl) ?_
  iterate 3 (go_big_quiet_step ((go_at_call 136; exact Calls.regrown_of (itoa_is _ t0 (by omega) (by omega) N0.out _ (CT.out _ _)))))
  iterate 6 (go_big_quiet_step ((go_at_call 136; exact Calls.regrown_of (itoa_is _ t1 (by omega) (by omega) N1.out _ (CT.out _ _)))))
  refine wpQuiet_nil ?_
  rintro w8 ⟨⟨dd, os⟩, hw8⟩
  have hb8 : Below w4.heap.size w4 w8 := by rw [hw8]; exact below_regrown _ dd os
  have B8 := hide (bthen B4.out hb8)
  clear hb8 hw8 c0 c1
  go_wp2_with fail
  go_ret
  exact ⟨rfl, B8.out⟩
end Go.Proofs.YtpmmhmgojjlniaaGreatDoor.Cm
namespace Go.Proofs.YtpmmhmgojjlniaaGreatDoor.Cm
open Go.RowKit Go.Sort
set_option maxHeartbeats 1000000 in
theorem text_not (a b : Int) (w : World) (M : Hid (Co.may (a, b) = false)) : Calls Tryz.prog 251 #[.agg #[.int .i64 a, .int .i64 b]] w fun e w' => e = .returned (.string ⟨#[]⟩) ∧ Below w.heap.size w w' := by
  go_enter Tryz.func251, Tryz.ntmps251
  go_wp2_with fail
  refine (may_is _ _ _ M.out _).mono ?_
  rintro e w1 ⟨rfl, hb1⟩
  go_wp2_with fail
  go_ret
  exact ⟨rfl, bthen (balloc (brefl w) _) hb1⟩

theorem Co.may1 : Co.may (65535, 65281) = true := by decide
theorem Co.may2 : Co.may (65535, 65282) = true := by decide
theorem Co.may3 : Co.may (65535, 65283) = true := by decide

set_option maxHeartbeats 2000000 in
theorem text_nE (w : World) : Calls Tryz.prog 251 #[.agg #[.int .i64 65535, .int .i64 65281]] w fun e w' => e = .returned (.string ⟨#[110, 111, 45, 101, 120, 112, 111, 114, 116]⟩) ∧ Below w.heap.size w w' := by
  go_enter Tryz.func251, Tryz.ntmps251
  go_wp2_with fail
  have TB := hide (two_new w 65535 65281 53)
  have B0 := hide (balloc (brefl w) (.cells #[.int .i64 65535, .int .i64 65281] 53))
  generalize w.alloc (.cells #[.int .i64 65535, .int .i64 65281] 53) = W0 at *
  generalize w.heap.size = R at TB ⊢
  refine (may_is _ _ _ Co.may1 _).mono ?_
  rintro e w1 ⟨rfl, hb1⟩
  obtain ⟨p0, p1, p2, p3⟩ := two_below hb1 TB.out
  have B1 := hide (bthen B0.out hb1)
  clear hb1
  go_wp2_with fail
  refine (noExport_is _).mono ?_
  rintro e w2 ⟨rfl, hb2⟩
  have B2 := hide (bthen B1.out hb2)
  clear hb2 p0 p1 p2 p3
  have hq := eqC
  have hgd := guardC
  go_wp2_with fail
  go_ret
  exact ⟨rfl, B2.out⟩

set_option maxHeartbeats 2000000 in
theorem text_nA (w : World) : Calls Tryz.prog 251 #[.agg #[.int .i64 65535, .int .i64 65282]] w fun e w' => e = .returned (.string ⟨#[110, 111, 45, 97, 100, 118, 101, 114, 116, 105, 115, 101]⟩) ∧ Below w.heap.size w w' := by
  go_enter Tryz.func251, Tryz.ntmps251
  go_wp2_with fail
  have TB := hide (two_new w 65535 65282 53)
  have B0 := hide (balloc (brefl w) (.cells #[.int .i64 65535, .int .i64 65282] 53))
  generalize w.alloc (.cells #[.int .i64 65535, .int .i64 65282] 53) = W0 at *
  generalize w.heap.size = R at TB ⊢
  refine (may_is _ _ _ Co.may2 _).mono ?_
  rintro e w1 ⟨rfl, hb1⟩
  obtain ⟨p0, p1, p2, p3⟩ := two_below hb1 TB.out
  have B1 := hide (bthen B0.out hb1)
  clear hb1
  go_wp2_with fail
  refine (noExport_is _).mono ?_
  rintro e w2 ⟨rfl, hb2⟩
  have B2 := hide (bthen B1.out hb2)
  clear hb2 p0 p1 p2 p3
  have hq := eqC
  have hgd := guardC
  go_wp2_with fail
  refine (noAdv_is _).mono ?_
  rintro e w3 ⟨rfl, hb3⟩
  have B3 := hide (bthen B2.out hb3)
  clear hb3
  go_wp2_with fail
  go_ret
  exact ⟨rfl, B3.out⟩

set_option maxHeartbeats 2000000 in
theorem text_lo (w : World) : Calls Tryz.prog 251 #[.agg #[.int .i64 65535, .int .i64 65283]] w fun e w' => e = .returned (.string ⟨#[108, 111, 99, 97, 108]⟩) ∧ Below w.heap.size w w' := by
  go_enter Tryz.func251, Tryz.ntmps251
  go_wp2_with fail
  have TB := hide (two_new w 65535 65283 53)
  have B0 := hide (balloc (brefl w) (.cells #[.int .i64 65535, .int .i64 65283] 53))
  generalize w.alloc (.cells #[.int .i64 65535, .int .i64 65283] 53) = W0 at *
  generalize w.heap.size = R at TB ⊢
  refine (may_is _ _ _ Co.may3 _).mono ?_
  rintro e w1 ⟨rfl, hb1⟩
  obtain ⟨p0, p1, p2, p3⟩ := two_below hb1 TB.out
  have B1 := hide (bthen B0.out hb1)
  clear hb1
  go_wp2_with fail
  refine (noExport_is _).mono ?_
  rintro e w2 ⟨rfl, hb2⟩
  have B2 := hide (bthen B1.out hb2)
  clear hb2 p0 p1 p2 p3
  have hq := eqC
  have hgd := guardC
  go_wp2_with fail
  refine (noAdv_is _).mono ?_
  rintro e w3 ⟨rfl, hb3⟩
  have B3 := hide (bthen B2.out hb3)
  clear hb3
  go_wp2_with fail
  refine (local_is _).mono ?_
  rintro e w4 ⟨rfl, hb4⟩
  have B4 := hide (bthen B3.out hb4)
  clear hb4
  go_wp2_with fail
  go_ret
  exact ⟨rfl, B4.out⟩

theorem eq2_false {a b : Int} {c : Int} (h : ¬ (a = 65535 ∧ b = c)) : (a == 65535 && b == c) = false := by
  by_cases h1 : a = 65535
  · have : b ≠ c := fun e => h ⟨h1, e⟩
    simp [this]
  · simp [h1]
theorem itoa_len (n : Int) (h0 : 0 ≤ n) (h1 : n ≤ 65535) : (Lib.itoa n).length ≤ 21 := Lib.itoa_length_le n (by omega) (by omega)

theorem text_is (a b : Int) (t : ByteArray) (ht : t = ⟨(Co.text a b).toArray⟩) (w : World) (hT : Tab w) :
    Calls Tryz.prog 251 #[.agg #[.int .i64 a, .int .i64 b]] w fun e w' => e = .returned (.string t) ∧ Below w.heap.size w w' := by
  subst ht
  unfold Co.text
  cases hm : Co.may (a, b)
  · exact text_not a b w hm
  · rw [if_pos rfl]
    by_cases h1 : a = 65535 ∧ b = 65281
    · obtain ⟨rfl, rfl⟩ := h1
      exact text_nE w
    · rw [if_neg h1]
      by_cases h2 : a = 65535 ∧ b = 65282
      · obtain ⟨rfl, rfl⟩ := h2
        exact text_nA w
      · rw [if_neg h2]
        by_cases h3 : a = 65535 ∧ b = 65283
        · obtain ⟨rfl, rfl⟩ := h3
          exact text_lo w
        · rw [if_neg h3]
          have hr := (Co.may_iff a b).1 hm
          have l0 := itoa_len a (by omega) (by omega)
          have l1 := itoa_len b (by omega) (by omega)
          exact text_plain a b _ _ _ _ w hT hm (eq2_false h1) (eq2_false h2) (eq2_false h3) (adds_list _ [58] (by omega) (by decide)) (adds_list _ _ (by simp; omega) (by omega)) rfl rfl

end Go.Proofs.YtpmmhmgojjlniaaGreatDoor.Cm
namespace Go.Proofs.YtpmmhmgojjlniaaGreatDoor
open Go.RowKit Go.Sort
theorem itoa_key (W0 : World) (hT : Tab W0) : FnKey W0 136 #[] 1 InR (fun n => -1 ≤ n ∧ n ≤ 1048576) numT where
  enter := fun args w => by go_simp
  ok := fun W a x hW hx hg => by
    obtain ⟨xs, h1, _, rfl⟩ := hx
    obtain rfl : xs = [.int .i64 a] := h1
    exact itoa_is a hg.1 hg.2 W (hT.on hW)
/-- A community as it is written. -/
def commT (c : Int × Int) : ByteArray := ⟨(Cm.Co.text c.1 c.2).toArray⟩
theorem commText_key (W0 : World) (hT : Tab W0) (G : Int × Int → Prop) : FnKey W0 251 #[] 2 PrR G commT where
  enter := fun args w => by go_simp
  ok := fun W a x hW hx _ => by
    obtain ⟨xs, h1, _, rfl⟩ := hx
    obtain rfl : xs = [.int .i64 a.1, .int .i64 a.2] := h1
    exact Cm.text_is a.1 a.2 _ rfl W (hT.on hW)
end Go.Proofs.YtpmmhmgojjlniaaGreatDoor
