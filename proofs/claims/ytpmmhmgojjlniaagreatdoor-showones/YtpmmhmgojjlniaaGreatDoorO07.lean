/- The contract of addr's split. -/
import Derived.Test.YtpmmhmgojjlniaaGreatDoorO04
import Derived.Test.YtpmmhmgojjlniaaGreatDoorO05
import Derived.Test.YtpmmhmgojjlniaaGreatDoorO06
namespace Go.Proofs.YtpmmhmgojjlniaaGreatDoor.Ax
open Go.RowKit

theorem Ad.idx_nat (l : List UInt8) (c : UInt8) (h : ¬ Lib.indexByte l c < 0) : ∃ o : Nat, Lib.indexByte l c = (o : Int) ∧ o < l.length := by
  obtain ⟨o, ho⟩ := Int.eq_ofNat_of_zero_le (show 0 ≤ Lib.indexByte l c by omega)
  refine ⟨o, ho, ?_⟩
  have := (Lib.indexByte_some ho).1
  exact (List.getElem?_eq_some_iff.1 this).1

theorem index_at (s : ByteArray) (c : UInt8) (w : World) : Calls Tryz.prog 333 #[.string s, .int .u8 (c.toNat : Int)] w fun e w' => e = .returned (.int .i64 (Lib.indexByte s.data.toList c)) ∧ w' = w := by
  have := Tryz.strings_IndexByte s (c.toNat : Int) w
  have e : ((c.toNat : Nat) : Int).toNat.toUInt8 = c := by simp
  rw [e] at this
  exact this

/-- What split hands back where the text isn't of the form. -/
def Ad.noParts : Value := .tuple #[.agg #[.string ⟨#[]⟩, .string ⟨#[]⟩, .string ⟨#[]⟩, .string ⟨#[]⟩, .string ⟨#[]⟩], .bool false]
/-- What split hands back. -/
def Ad.splitOf (l : List UInt8) : Value :=
  match Ad.marks5 l with
  | none => Ad.noParts
  | some (a, b, c, d, e) => if (Ad.isNum a && Ad.isNum b && Ad.isNum c && Ad.isNum d && Ad.isNum e) = true then .tuple #[.agg #[.string ⟨a.toArray⟩, .string ⟨b.toArray⟩, .string ⟨c.toArray⟩, .string ⟨d.toArray⟩, .string ⟨e.toArray⟩], .bool true] else Ad.noParts

theorem Ad.ret_no {l : List UInt8} (h : Ad.marks5 l = none) : Ending.returned Ad.noParts = .returned (Ad.splitOf l) := by unfold Ad.splitOf; rw [h]

theorem Ad.ba (s : ByteArray) : (⟨s.data.toList.toArray⟩ : ByteArray) = s := by obtain ⟨⟨l⟩⟩ := s; rfl

theorem Ad.extract_size (s : ByteArray) (a b n : Nat) (h : s.size ≤ n) : (s.extract a b).size ≤ n := by
  have : (s.extract a b).data.toList.length ≤ s.data.toList.length := by rw [Lib.extract_data]; simp; omega
  rw [Ad.size_list, Ad.size_list] at this
  omega

set_option maxHeartbeats 4000000 in
set_option maxRecDepth 100000 in
theorem split_any (s : ByteArray) (w : World) (hs : s.size ≤ 4000) :
    Calls Tryz.prog 310 #[.string s] w fun e w' => e = .returned (Ad.splitOf s.data.toList) ∧ Below w.heap.size w w' := by
  go_enter Tryz.func310, Tryz.ntmps310
  go_wp2_with fail
  refine wp_loop_rounds 5 ?_
  rw [rounds_succ]
  go_wp2_with fail
  refine (index_at s _ _).mono ?_
  rintro e w1 ⟨rfl, rfl⟩
  rw [Ad.at0]
  by_cases i0 : Lib.indexByte s.data.toList 46 < 0
  · have hm : Hid (Ad.marks5 s.data.toList = none) := by
      show _ = _
      unfold Ad.marks5
      simp only [Ad.cutL_none _ _ i0, Option.bind]
    go_wp2_with fail
    exact bodyPost_ret (v := Ad.noParts) (by simp [results, Tryz.results310, go_sem, Ad.noParts]) rfl ⟨Ad.ret_no hm.out, balloc (balloc (brefl w) _) _⟩
  · obtain ⟨o0, ho0, hlt0⟩ := Ad.idx_nat _ _ i0
    rw [Ad.size_list] at hlt0
    have C0 := hide (Ad.cutL_at s 46 o0 ho0 hlt0)
    rw [ho0]
    have z0 := Ad.extract_size s 0 o0 4000 (by omega)
    have y0 := Ad.extract_size s (o0 + 1) s.size 4000 (by omega)
    clear i0 ho0
    have h1 : (o0 : Int) < (s.size : Int) := by omega
    have h2 : (o0 : Int) + 1 ≤ (s.size : Int) := by omega
    go_wp2_with fail
    go_region
    go_wp2_with fail
    generalize s.extract 0 o0 = t0 at *
    generalize s.extract (o0 + 1) s.size = s1 at *
    clear h1 h2 hlt0
    rw [rounds_succ]
    go_wp2_with fail
    refine (index_at s1 _ _).mono ?_
    rintro e w1 ⟨rfl, rfl⟩
    rw [Ad.at1]
    by_cases i1 : Lib.indexByte s1.data.toList 46 < 0
    · have hm : Hid (Ad.marks5 s.data.toList = none) := by
        show _ = _
        unfold Ad.marks5
        simp only [C0.out, Ad.cutL_none _ _ i1, Option.bind]
      go_wp2_with fail
      exact bodyPost_ret (v := Ad.noParts) (by simp [results, Tryz.results310, go_sem, Ad.noParts]) rfl ⟨Ad.ret_no hm.out, (balloc (balloc (brefl w) _) _).drew⟩
    · obtain ⟨o1, ho1, hlt1⟩ := Ad.idx_nat _ _ i1
      rw [Ad.size_list] at hlt1
      have C1 := hide (Ad.cutL_at s1 46 o1 ho1 hlt1)
      rw [ho1]
      have z1 := Ad.extract_size s1 0 o1 4000 (by omega)
      have y1 := Ad.extract_size s1 (o1 + 1) s1.size 4000 (by omega)
      clear i1 ho1
      have h1 : (o1 : Int) < (s1.size : Int) := by omega
      have h2 : (o1 : Int) + 1 ≤ (s1.size : Int) := by omega
      go_wp2_with fail
      go_region
      go_wp2_with fail
      generalize s1.extract 0 o1 = t1 at *
      generalize s1.extract (o1 + 1) s1.size = s2 at *
      clear h1 h2 hlt1
      rw [rounds_succ]
      go_wp2_with fail
      refine (index_at s2 _ _).mono ?_
      rintro e w1 ⟨rfl, rfl⟩
      rw [Ad.at2]
      by_cases i2 : Lib.indexByte s2.data.toList 46 < 0
      · have hm : Hid (Ad.marks5 s.data.toList = none) := by
          show _ = _
          unfold Ad.marks5
          simp only [C0.out, C1.out, Ad.cutL_none _ _ i2, Option.bind]
        go_wp2_with fail
        exact bodyPost_ret (v := Ad.noParts) (by simp [results, Tryz.results310, go_sem, Ad.noParts]) rfl ⟨Ad.ret_no hm.out, ((balloc (balloc (brefl w) _) _).drew).drew⟩
      · obtain ⟨o2, ho2, hlt2⟩ := Ad.idx_nat _ _ i2
        rw [Ad.size_list] at hlt2
        have C2 := hide (Ad.cutL_at s2 46 o2 ho2 hlt2)
        rw [ho2]
        have z2 := Ad.extract_size s2 0 o2 4000 (by omega)
        have y2 := Ad.extract_size s2 (o2 + 1) s2.size 4000 (by omega)
        clear i2 ho2
        have h1 : (o2 : Int) < (s2.size : Int) := by omega
        have h2 : (o2 : Int) + 1 ≤ (s2.size : Int) := by omega
        go_wp2_with fail
        go_region
        go_wp2_with fail
        generalize s2.extract 0 o2 = t2 at *
        generalize s2.extract (o2 + 1) s2.size = s3 at *
        clear h1 h2 hlt2
        rw [rounds_succ]
        go_wp2_with fail
        refine (index_at s3 _ _).mono ?_
        rintro e w1 ⟨rfl, rfl⟩
        rw [Ad.at3]
        by_cases i3 : Lib.indexByte s3.data.toList 47 < 0
        · have hm : Hid (Ad.marks5 s.data.toList = none) := by
            show _ = _
            unfold Ad.marks5
            simp only [C0.out, C1.out, C2.out, Ad.cutL_none _ _ i3, Option.bind]
          go_wp2_with fail
          exact bodyPost_ret (v := Ad.noParts) (by simp [results, Tryz.results310, go_sem, Ad.noParts]) rfl ⟨Ad.ret_no hm.out, (((balloc (balloc (brefl w) _) _).drew).drew).drew⟩
        · obtain ⟨o3, ho3, hlt3⟩ := Ad.idx_nat _ _ i3
          rw [Ad.size_list] at hlt3
          have C3 := hide (Ad.cutL_at s3 47 o3 ho3 hlt3)
          rw [ho3]
          have z3 := Ad.extract_size s3 0 o3 4000 (by omega)
          have y3 := Ad.extract_size s3 (o3 + 1) s3.size 4000 (by omega)
          clear i3 ho3
          have h1 : (o3 : Int) < (s3.size : Int) := by omega
          have h2 : (o3 : Int) + 1 ≤ (s3.size : Int) := by omega
          go_wp2_with fail
          go_region
          go_wp2_with fail
          generalize s3.extract 0 o3 = t3 at *
          generalize s3.extract (o3 + 1) s3.size = s4 at *
          clear h1 h2 hlt3
          rw [rounds_succ]
          go_wp2_with fail
          have hm : Hid (Ad.marks5 s.data.toList = some (t0.data.toList, t1.data.toList, t2.data.toList, t3.data.toList, s4.data.toList)) := by
            show _ = _
            unfold Ad.marks5
            simp only [C0.out, C1.out, C2.out, C3.out, Option.bind]
          clear C0 C1 C2 C3
          have ix0 : ∀ w, (Instr.index 334 (.agg #[.string t0, .string t1, .string t2, .string t3, .string s4]) (.int .i64 0)).run Tryz.prog w = .ok (.string t0) w := fun _ => by kernel_rfl
          have ix1 : ∀ w, (Instr.index 334 (.agg #[.string t0, .string t1, .string t2, .string t3, .string s4]) (.int .i64 1)).run Tryz.prog w = .ok (.string t1) w := fun _ => by kernel_rfl
          have ix2 : ∀ w, (Instr.index 334 (.agg #[.string t0, .string t1, .string t2, .string t3, .string s4]) (.int .i64 2)).run Tryz.prog w = .ok (.string t2) w := fun _ => by kernel_rfl
          have ix3 : ∀ w, (Instr.index 334 (.agg #[.string t0, .string t1, .string t2, .string t3, .string s4]) (.int .i64 3)).run Tryz.prog w = .ok (.string t3) w := fun _ => by kernel_rfl
          have ix4 : ∀ w, (Instr.index 334 (.agg #[.string t0, .string t1, .string t2, .string t3, .string s4]) (.int .i64 4)).run Tryz.prog w = .ok (.string s4) w := fun _ => by kernel_rfl
          refine wp_loop_rounds 6 ?_
          rw [rounds_succ]
          go_wp2_with fail
          refine (isNumber_any t0 _ (by unfold maxLen; omega)).mono ?_
          rintro e w1 ⟨rfl, rfl⟩
          cases n0 : Ad.isNum t0.data.toList
          · have hf : Hid (Ad.splitOf s.data.toList = Ad.noParts) := by
              show _ = _
              unfold Ad.splitOf
              rw [hm.out]
              simp only [n0, Bool.false_and, Bool.false_eq_true, if_false]
            clear hm ix0 ix1 ix2 ix3 ix4
            go_wp2_with fail
            exact bodyPost_ret (v := Ad.noParts) (by simp [results, Tryz.results310, go_sem, Ad.noParts]) rfl ⟨by rw [hf.out], ((((balloc (balloc (brefl w) _) _).drew).drew).drew).drew⟩
          · have N0 := hide n0
            clear n0
            go_wp2_with fail
            rw [rounds_succ]
            go_wp2_with fail
            refine (isNumber_any t1 _ (by unfold maxLen; omega)).mono ?_
            rintro e w1 ⟨rfl, rfl⟩
            cases n1 : Ad.isNum t1.data.toList
            · have hf : Hid (Ad.splitOf s.data.toList = Ad.noParts) := by
                show _ = _
                unfold Ad.splitOf
                rw [hm.out]
                simp only [n1, Bool.and_false, Bool.false_and, Bool.false_eq_true, if_false]
              clear hm ix0 ix1 ix2 ix3 ix4
              go_wp2_with fail
              exact bodyPost_ret (v := Ad.noParts) (by simp [results, Tryz.results310, go_sem, Ad.noParts]) rfl ⟨by rw [hf.out], ((((balloc (balloc (brefl w) _) _).drew).drew).drew).drew⟩
            · have N1 := hide n1
              clear n1
              go_wp2_with fail
              rw [rounds_succ]
              go_wp2_with fail
              refine (isNumber_any t2 _ (by unfold maxLen; omega)).mono ?_
              rintro e w1 ⟨rfl, rfl⟩
              cases n2 : Ad.isNum t2.data.toList
              · have hf : Hid (Ad.splitOf s.data.toList = Ad.noParts) := by
                  show _ = _
                  unfold Ad.splitOf
                  rw [hm.out]
                  simp only [n2, Bool.and_false, Bool.false_and, Bool.false_eq_true, if_false]
                clear hm ix0 ix1 ix2 ix3 ix4
                go_wp2_with fail
                exact bodyPost_ret (v := Ad.noParts) (by simp [results, Tryz.results310, go_sem, Ad.noParts]) rfl ⟨by rw [hf.out], ((((balloc (balloc (brefl w) _) _).drew).drew).drew).drew⟩
              · have N2 := hide n2
                clear n2
                go_wp2_with fail
                rw [rounds_succ]
                go_wp2_with fail
                refine (isNumber_any t3 _ (by unfold maxLen; omega)).mono ?_
                rintro e w1 ⟨rfl, rfl⟩
                cases n3 : Ad.isNum t3.data.toList
                · have hf : Hid (Ad.splitOf s.data.toList = Ad.noParts) := by
                    show _ = _
                    unfold Ad.splitOf
                    rw [hm.out]
                    simp only [n3, Bool.and_false, Bool.false_and, Bool.false_eq_true, if_false]
                  clear hm ix0 ix1 ix2 ix3 ix4
                  go_wp2_with fail
                  exact bodyPost_ret (v := Ad.noParts) (by simp [results, Tryz.results310, go_sem, Ad.noParts]) rfl ⟨by rw [hf.out], ((((balloc (balloc (brefl w) _) _).drew).drew).drew).drew⟩
                · have N3 := hide n3
                  clear n3
                  go_wp2_with fail
                  rw [rounds_succ]
                  go_wp2_with fail
                  refine (isNumber_any s4 _ (by unfold maxLen; omega)).mono ?_
                  rintro e w1 ⟨rfl, rfl⟩
                  cases n4 : Ad.isNum s4.data.toList
                  · have hf : Hid (Ad.splitOf s.data.toList = Ad.noParts) := by
                      show _ = _
                      unfold Ad.splitOf
                      rw [hm.out]
                      simp only [n4, Bool.and_false, Bool.false_eq_true, if_false]
                    clear hm ix0 ix1 ix2 ix3 ix4
                    go_wp2_with fail
                    exact bodyPost_ret (v := Ad.noParts) (by simp [results, Tryz.results310, go_sem, Ad.noParts]) rfl ⟨by rw [hf.out], ((((balloc (balloc (brefl w) _) _).drew).drew).drew).drew⟩
                  · have N4 := hide n4
                    clear n4
                    go_wp2_with fail
                    rw [rounds_succ]
                    go_wp2_with fail
                    have hf : Ad.splitOf s.data.toList = .tuple #[.agg #[.string t0, .string t1, .string t2, .string t3, .string s4], .bool true] := by
                      unfold Ad.splitOf
                      rw [hm.out]
                      simp only [N0.out, N1.out, N2.out, N3.out, N4.out, Bool.and_self, if_true, Ad.ba]
                    exact bodyPost_ret (v := .tuple #[.agg #[.string t0, .string t1, .string t2, .string t3, .string s4], .bool true]) (by simp [results, Tryz.results310, go_sem]) rfl ⟨by rw [hf], ((((balloc (balloc (brefl w) _) _).drew).drew).drew).drew⟩
end Go.Proofs.YtpmmhmgojjlniaaGreatDoor.Ax
namespace Go.Proofs.YtpmmhmgojjlniaaGreatDoor.Ax
open Go.RowKit

/-- A rule: its prefix, from, to, and whether it lets. -/
abbrev Ad.R : Type := Int × Int × Int × Int × Bool
def Ad.rmay (r : Ad.R) : Bool := Ad.may r.1 r.2.1 && decide (r.2.1 ≤ r.2.2.1) && decide (r.2.2.1 ≤ r.2.2.2.1) && decide (r.2.2.2.1 ≤ 32)
def Ad.met (r : Ad.R) (c d : Int) : Bool := Ad.rmay r && Ad.contains r.1 r.2.1 c d && decide (r.2.2.1 ≤ d) && decide (d ≤ r.2.2.2.1)
def Ad.rwhy (l : List Ad.R) : Int := if 16 < l.length then 2 else if l.all Ad.rmay = true then 0 else 1
/-- A rule's five cells. -/
def Ad.encR (r : Ad.R) : List Value := [.int .u32 r.1, .int .i64 r.2.1, .int .i64 r.2.2.1, .int .i64 r.2.2.2.1, .bool r.2.2.2.2]

set_option maxHeartbeats 1000000 in
theorem rmay_any (a b g l : Int) (p : Bool) (w : World) (ha : 0 ≤ a) (ha2 : a ≤ 4294967295) :
    Calls Tryz.prog 145 #[.agg #[.int .u32 a, .int .i64 b, .int .i64 g, .int .i64 l, .bool p]] w fun e w' => e = .returned (.bool (Ad.rmay (a, b, g, l, p))) ∧ Below w.heap.size w w' := by
  cases hm : Ad.may a b
  · go_enter Tryz.func145, Tryz.ntmps145
    go_wp2_with fail
    refine (may_is _ _ _ hm _ ha ha2).mono ?_
    rintro e w1 ⟨rfl, hb1⟩
    go_wp2_with fail
    go_ret
    exact ⟨ret_bool (by simp [Ad.rmay, hm]), bthen (balloc (brefl w) _) hb1⟩
  · by_cases h1 : b ≤ g
    · by_cases h2 : g ≤ l
      · go_enter Tryz.func145, Tryz.ntmps145
        go_wp2_with fail
        refine (may_is _ _ _ hm _ ha ha2).mono ?_
        rintro e w1 ⟨rfl, hb1⟩
        obtain ⟨hc1, hf1⟩ := bcell hb1
        go_wp2_with fail
        go_ret
        exact ⟨ret_bool (by simp [Ad.rmay, hm]; omega), bthen (balloc (brefl w) _) hb1⟩
      · have hd : decide (g ≤ l) = false := by simpa using h2
        go_enter Tryz.func145, Tryz.ntmps145
        go_wp2_with fail
        refine (may_is _ _ _ hm _ ha ha2).mono ?_
        rintro e w1 ⟨rfl, hb1⟩
        obtain ⟨hc1, hf1⟩ := bcell hb1
        go_wp2_with fail
        go_ret
        exact ⟨ret_bool (by simp [Ad.rmay, hm]; omega), bthen (balloc (brefl w) _) hb1⟩
    · have hd : decide (b ≤ g) = false := by simpa using h1
      go_enter Tryz.func145, Tryz.ntmps145
      go_wp2_with fail
      refine (may_is _ _ _ hm _ ha ha2).mono ?_
      rintro e w1 ⟨rfl, hb1⟩
      obtain ⟨hc1, hf1⟩ := bcell hb1
      go_wp2_with fail
      go_ret
      exact ⟨ret_bool (by simp [Ad.rmay, hm]; omega), bthen (balloc (brefl w) _) hb1⟩

theorem rmay_is (a b g l : Int) (p r : Bool) (h : Ad.rmay (a, b, g, l, p) = r) (w : World) (ha : 0 ≤ a) (ha2 : a ≤ 4294967295) :
    Calls Tryz.prog 145 #[.agg #[.int .u32 a, .int .i64 b, .int .i64 g, .int .i64 l, .bool p]] w fun e w' => e = .returned (.bool r) ∧ Below w.heap.size w w' := by
  rw [← h]; exact rmay_any a b g l p w ha ha2

def Ad.cellsR (l : List Ad.R) : List Value := l.flatMap Ad.encR
def Ad.fitsR (l : List Ad.R) : Prop := ∀ x ∈ l, 0 ≤ x.1 ∧ x.1 ≤ 4294967295
def Ad.readsR (w : World) (b off : Nat) (l : List Ad.R) : Prop := ∀ j u, (Ad.cellsR l)[j]? = some u → w.cell? ⟨b, off + j, none⟩ = some u

theorem Ad.cellsR_length (l : List Ad.R) : (Ad.cellsR l).length = l.length * 5 := by
  induction l with
  | nil => rfl
  | cons x l ih => simp only [Ad.cellsR, List.flatMap_cons, List.length_append, List.length_cons] at *; simp only [Ad.encR, List.length_cons, List.length_nil]; omega

theorem Ad.cellsR_get (l : List Ad.R) (i j : Nat) (h : i < l.length) (hj : j < 5) : (Ad.cellsR l)[i * 5 + j]? = (Ad.encR l[i])[j]? := by
  induction l generalizing i with
  | nil => simp at h
  | cons x l ih =>
    cases i with
    | zero =>
      simp only [Ad.cellsR, List.flatMap_cons, Nat.zero_mul, Nat.zero_add, List.getElem_cons_zero]
      rw [List.getElem?_append_left (by simp [Ad.encR]; omega)]
    | succ i =>
      have := ih i (by simpa using h)
      simp only [Ad.cellsR, List.flatMap_cons, List.getElem_cons_succ] at *
      rw [List.getElem?_append_right (by simp [Ad.encR]; omega)]
      rw [← this]
      congr 1
      simp [Ad.encR]; omega

theorem Ad.readsR_at {w : World} {b off : Nat} {l : List Ad.R} (h : Ad.readsR w b off l) (i : Nat) (hi : i < l.length) :
    w.cell? ⟨b, off + i * 5, none⟩ = some (.int .u32 l[i].1) ∧ w.cell? ⟨b, off + i * 5 + 1, none⟩ = some (.int .i64 l[i].2.1) ∧ w.cell? ⟨b, off + i * 5 + 2, none⟩ = some (.int .i64 l[i].2.2.1) ∧ w.cell? ⟨b, off + i * 5 + 3, none⟩ = some (.int .i64 l[i].2.2.2.1) ∧ w.cell? ⟨b, off + i * 5 + 4, none⟩ = some (.bool l[i].2.2.2.2) := by
  have g := fun j hj => Ad.cellsR_get l i j hi hj
  have k := fun j u hj (hu : (Ad.encR l[i])[j]? = some u) => h (i * 5 + j) u ((g j hj).trans hu)
  refine ⟨k 0 _ (by decide) rfl, ?_, ?_, ?_, ?_⟩
  · rw [Nat.add_assoc]; exact k 1 _ (by decide) rfl
  · rw [Nat.add_assoc]; exact k 2 _ (by decide) rfl
  · rw [Nat.add_assoc]; exact k 3 _ (by decide) rfl
  · rw [Nat.add_assoc]; exact k 4 _ (by decide) rfl

theorem Ad.readsR_below {w w' : World} {b off : Nat} {l : List Ad.R} (h : Ad.readsR w b off l) (hb : Below w.heap.size w w') : Ad.readsR w' b off l := by
  intro j u hu
  have := h j u hu
  rw [hb.cell (p := ⟨b, off + j, none⟩) (block_lt_of_cell this)]
  exact this

/-- A slice at which a list of rules lies: nil has none. -/
def Ad.slotR (w : World) (ao : Option Addr) (l : List Ad.R) : Prop := l = [] ∨ ∃ b off, ao = some ⟨b, off, none⟩ ∧ Ad.readsR w b off l

theorem Ad.slotR_below {w w' : World} {ao : Option Addr} {l : List Ad.R} (h : Ad.slotR w ao l) (hb : Below w.heap.size w w') : Ad.slotR w' ao l := by
  rcases h with h | ⟨b, off, h, hr⟩
  · exact .inl h
  · exact .inr ⟨b, off, h, Ad.readsR_below hr hb⟩

theorem Ad.slotR_at {w : World} {ao : Option Addr} {l : List Ad.R} (h : Ad.slotR w ao l) {k : Nat} (hk : k < l.length) : ∃ b off, ao = some ⟨b, off, none⟩ ∧ Ad.readsR w b off l := by
  rcases h with h | h
  · rw [h] at hk; simp at hk
  · exact h

theorem Ad.rwhy_ok (l : List Ad.R) (h : l.length ≤ 16) (ha : ∀ j (hj : j < l.length), Ad.rmay l[j] = true) : Ad.rwhy l = 0 := by
  have hn : l.all Ad.rmay = true := by
    rw [List.all_eq_true]
    intro x hx
    obtain ⟨j, hj, rfl⟩ := List.getElem_of_mem hx
    exact ha j hj
  rw [Ad.rwhy, if_neg (by omega), if_pos hn]

theorem Ad.rwhy_bad (l : List Ad.R) (h : l.length ≤ 16) (k : Nat) (hk : k < l.length) (ha : Ad.rmay l[k] = false) : Ad.rwhy l = 1 := by
  have hn : l.all Ad.rmay = false := by
    rw [List.all_eq_false]
    exact ⟨l[k], List.getElem_mem hk, by simp [ha]⟩
  rw [Ad.rwhy, if_neg (by omega), if_neg (by rw [hn]; decide)]

set_option maxHeartbeats 1000000 in
theorem pmay_row (ao : Option Addr) (cap : Nat) (l : List Ad.R) (w : World) (hR : Ad.slotR w ao l) (hf : Ad.fitsR l) (hlen : l.length ≤ 16) :
    Calls Tryz.prog 73 #[.slice ao l.length cap] w fun e w' => e = .returned (.int .i64 (Ad.rwhy l)) ∧ Below w.heap.size w w' := by
  have HR := hide hR
  have HF := hide hf
  clear hR hf
  have hgt : ¬ (16 : Int) < (l.length : Int) := by omega
  go_enter Tryz.func73, Tryz.ntmps73
  go_wp2_with fail
  go_loopw [10] (fun i wr => ∃ k : Nat, k ≤ l.length ∧ i = .int .i64 k ∧ (∀ j (hj : j < l.length), j < k → Ad.rmay l[j] = true) ∧ Below w.heap.size w wr) (fun i _ => l.length - (intOf i).toNat)
  case atStart => exact ⟨0, Nat.zero_le _, rfl, fun j _ hj => absurd hj (Nat.not_lt_zero _), brefl w⟩
  case round =>
    obtain ⟨k, hk, rfl, hall, hbr⟩ := hrel
    have HALL := hide hall
    clear hall
    by_cases hlt : k < l.length
    · obtain ⟨b, off, rfl, hrd⟩ := Ad.slotR_at HR.out hlt
      obtain ⟨e0, e1, e2, e3, e4⟩ := Ad.readsR_at (Ad.readsR_below hrd hbr) k hlt
      clear hrd
      have hx := hide (HF.out l[k] (List.getElem_mem hlt))
      generalize hxx : l[k] = x at *
      obtain ⟨a, d, g, t, p⟩ := x
      have HX := hide hxx
      clear hxx
      have hx0 : 0 ≤ a := hx.out.1
      have hx1 : a ≤ 4294967295 := hx.out.2
      cases hm : Ad.rmay (a, d, g, t, p)
      · go_wp2_with fail
        refine (rmay_is _ _ _ _ _ _ hm _ hx0 hx1).mono ?_
        rintro e w1 ⟨rfl, hb1⟩
        go_wp2_with fail
        go_ret
        exact ⟨ret_int (Ad.rwhy_bad l hlen k hlt (by rw [HX.out]; exact hm)).symm, bthen (balloc hbr _) hb1⟩
      · go_wp2_with fail
        refine (rmay_is _ _ _ _ _ _ hm _ hx0 hx1).mono ?_
        rintro e w1 ⟨rfl, hb1⟩
        go_wp2_with fail
        refine ⟨⟨k + 1, by omega, by go_num, fun j hj hjk => ?_, bthen (balloc hbr _) hb1⟩, by simp [intOf]; omega⟩
        rcases Nat.lt_succ_iff_lt_or_eq.1 hjk with h1 | rfl
        · exact HALL.out j hj h1
        · rw [HX.out]; exact hm
    · go_wp2_with fail
      go_ret
      exact ⟨ret_int (Ad.rwhy_ok l hlen fun j hj => HALL.out j hj (by omega)).symm, hbr⟩

set_option maxHeartbeats 1000000 in
theorem pmay_long (a : Option Addr) (n cap : Nat) (w : World) (h : 16 < n) :
    Calls Tryz.prog 73 #[.slice a n cap] w fun e w' => e = .returned (.int .i64 2) ∧ Below w.heap.size w w' := by
  have hgt : (16 : Int) < (n : Int) := by omega
  go_enter Tryz.func73, Tryz.ntmps73
  go_wp2_with fail
  go_ret
  exact ⟨rfl, brefl w⟩

theorem pmay_any (ao : Option Addr) (cap : Nat) (l : List Ad.R) (w : World) (hR : Ad.slotR w ao l) (hf : Ad.fitsR l) :
    Calls Tryz.prog 73 #[.slice ao l.length cap] w fun e w' => e = .returned (.int .i64 (Ad.rwhy l)) ∧ Below w.heap.size w w' := by
  by_cases h : l.length ≤ 16
  · exact pmay_row ao cap l w hR hf h
  · have e : Ad.rwhy l = 2 := by rw [Ad.rwhy, if_pos (by omega)]
    rw [e]
    exact pmay_long ao l.length cap w (by omega)
end Go.Proofs.YtpmmhmgojjlniaaGreatDoor.Ax
namespace Go.Proofs.YtpmmhmgojjlniaaGreatDoor.Ax
open Go.RowKit

def Ad.cutX (a b : Int) : Int := bits BinOp.andNot IntKind.u32 a (4294967295 / 2 ^ b.toNat)
def Ad.mayX (a b : Int) : Bool := decide (0 ≤ b) && decide (b ≤ 32) && decide (Ad.cutX a b = a)
def Ad.rmayX (r : Ad.R) : Bool := Ad.mayX r.1 r.2.1 && decide (r.2.1 ≤ r.2.2.1) && decide (r.2.2.1 ≤ r.2.2.2.1) && decide (r.2.2.2.1 ≤ 32)
def Ad.rwhyX (l : List Ad.R) : Int := if 16 < l.length then 2 else if l.all Ad.rmayX = true then 0 else 1
set_option maxHeartbeats 400000 in
theorem cutX_any (a b : Int) (w : World) (hb : 0 ≤ b) (hb2 : b ≤ 32) :
    Calls Tryz.prog 159 #[.int .u32 a, .int .i64 b] w fun e w' => e = .returned (.int .u32 (Ad.cutX a b)) ∧ w' = w := by
  go_enter Tryz.func159, Tryz.ntmps159
  go_wp2
  go_ret
  exact ⟨ret_int rfl, rfl⟩

set_option maxHeartbeats 400000 in
theorem mayX_any (a b : Int) (w : World) :
    Calls Tryz.prog 85 #[.agg #[.int .u32 a, .int .i64 b]] w fun e w' => e = .returned (.bool (Ad.mayX a b)) ∧ Below w.heap.size w w' := by
  by_cases h0 : 0 ≤ b
  · by_cases h1 : b ≤ 32
    · go_enter Tryz.func85, Tryz.ntmps85
      go_wp2
      go_quiet ((go_at_call 159; exact Calls.quiet_of_same (cutX_any _ _ _ (by omega) (by omega))))
      go_wp2
      go_ret
      exact ⟨ret_bool (by simp [Ad.mayX, h0, h1, Bool.beq_eq_decide_eq]), below_drewN ((Below.refl _ _).alloc (Nat.le_refl _) _) _⟩
    · have hd : decide (b ≤ 32) = false := by simpa using h1
      go_enter Tryz.func85, Tryz.ntmps85
      go_wp2
      go_quiet (fail)
      go_wp2
      go_ret
      exact ⟨ret_bool (by simp [Ad.mayX]; omega), below_drewN ((Below.refl _ _).alloc (Nat.le_refl _) _) _⟩
  · have hd : decide (0 ≤ b) = false := by simpa using h0
    go_enter Tryz.func85, Tryz.ntmps85
    go_wp2
    go_quiet (fail)
    go_wp2
    go_ret
    exact ⟨ret_bool (by simp [Ad.mayX]; omega), below_drewN ((Below.refl _ _).alloc (Nat.le_refl _) _) _⟩

theorem mayX_is (a b : Int) (r : Bool) (h : Ad.mayX a b = r) (w : World) :
    Calls Tryz.prog 85 #[.agg #[.int .u32 a, .int .i64 b]] w fun e w' => e = .returned (.bool r) ∧ Below w.heap.size w w' := by
  rw [← h]; exact mayX_any a b w

set_option maxHeartbeats 1000000 in
theorem rmayX_any (a b g l : Int) (p : Bool) (w : World) :
    Calls Tryz.prog 145 #[.agg #[.int .u32 a, .int .i64 b, .int .i64 g, .int .i64 l, .bool p]] w fun e w' => e = .returned (.bool (Ad.rmayX (a, b, g, l, p))) ∧ Below w.heap.size w w' := by
  cases hm : Ad.mayX a b
  · go_enter Tryz.func145, Tryz.ntmps145
    go_wp2_with fail
    refine (mayX_is _ _ _ hm _).mono ?_
    rintro e w1 ⟨rfl, hb1⟩
    go_wp2_with fail
    go_ret
    exact ⟨ret_bool (by simp [Ad.rmayX, hm]), bthen (balloc (brefl w) _) hb1⟩
  · by_cases h1 : b ≤ g
    · by_cases h2 : g ≤ l
      · go_enter Tryz.func145, Tryz.ntmps145
        go_wp2_with fail
        refine (mayX_is _ _ _ hm _).mono ?_
        rintro e w1 ⟨rfl, hb1⟩
        obtain ⟨hc1, hf1⟩ := bcell hb1
        go_wp2_with fail
        go_ret
        exact ⟨ret_bool (by simp [Ad.rmayX, hm]; omega), bthen (balloc (brefl w) _) hb1⟩
      · have hd : decide (g ≤ l) = false := by simpa using h2
        go_enter Tryz.func145, Tryz.ntmps145
        go_wp2_with fail
        refine (mayX_is _ _ _ hm _).mono ?_
        rintro e w1 ⟨rfl, hb1⟩
        obtain ⟨hc1, hf1⟩ := bcell hb1
        go_wp2_with fail
        go_ret
        exact ⟨ret_bool (by simp [Ad.rmayX, hm]; omega), bthen (balloc (brefl w) _) hb1⟩
    · have hd : decide (b ≤ g) = false := by simpa using h1
      go_enter Tryz.func145, Tryz.ntmps145
      go_wp2_with fail
      refine (mayX_is _ _ _ hm _).mono ?_
      rintro e w1 ⟨rfl, hb1⟩
      obtain ⟨hc1, hf1⟩ := bcell hb1
      go_wp2_with fail
      go_ret
      exact ⟨ret_bool (by simp [Ad.rmayX, hm]; omega), bthen (balloc (brefl w) _) hb1⟩

theorem rmayX_is (a b g l : Int) (p r : Bool) (h : Ad.rmayX (a, b, g, l, p) = r) (w : World) :
    Calls Tryz.prog 145 #[.agg #[.int .u32 a, .int .i64 b, .int .i64 g, .int .i64 l, .bool p]] w fun e w' => e = .returned (.bool r) ∧ Below w.heap.size w w' := by
  rw [← h]; exact rmayX_any a b g l p w

theorem Ad.rwhyX_ok (l : List Ad.R) (h : l.length ≤ 16) (ha : ∀ j (hj : j < l.length), Ad.rmayX l[j] = true) : Ad.rwhyX l = 0 := by
  have hn : l.all Ad.rmayX = true := by
    rw [List.all_eq_true]
    intro x hx
    obtain ⟨j, hj, rfl⟩ := List.getElem_of_mem hx
    exact ha j hj
  rw [Ad.rwhyX, if_neg (by omega), if_pos hn]

theorem Ad.rwhyX_bad (l : List Ad.R) (h : l.length ≤ 16) (k : Nat) (hk : k < l.length) (ha : Ad.rmayX l[k] = false) : Ad.rwhyX l = 1 := by
  have hn : l.all Ad.rmayX = false := by
    rw [List.all_eq_false]
    exact ⟨l[k], List.getElem_mem hk, by simp [ha]⟩
  rw [Ad.rwhyX, if_neg (by omega), if_neg (by rw [hn]; decide)]

set_option maxHeartbeats 1000000 in
theorem pmayX_row (ao : Option Addr) (cap : Nat) (l : List Ad.R) (w : World) (hR : Ad.slotR w ao l) (hlen : l.length ≤ 16) :
    Calls Tryz.prog 73 #[.slice ao l.length cap] w fun e w' => e = .returned (.int .i64 (Ad.rwhyX l)) ∧ Below w.heap.size w w' := by
  have HR := hide hR
  clear hR
  have hgt : ¬ (16 : Int) < (l.length : Int) := by omega
  go_enter Tryz.func73, Tryz.ntmps73
  go_wp2_with fail
  go_loopw [10] (fun i wr => ∃ k : Nat, k ≤ l.length ∧ i = .int .i64 k ∧ (∀ j (hj : j < l.length), j < k → Ad.rmayX l[j] = true) ∧ Below w.heap.size w wr) (fun i _ => l.length - (intOf i).toNat)
  case atStart => exact ⟨0, Nat.zero_le _, rfl, fun j _ hj => absurd hj (Nat.not_lt_zero _), brefl w⟩
  case round =>
    obtain ⟨k, hk, rfl, hall, hbr⟩ := hrel
    have HALL := hide hall
    clear hall
    by_cases hlt : k < l.length
    · obtain ⟨b, off, rfl, hrd⟩ := Ad.slotR_at HR.out hlt
      obtain ⟨e0, e1, e2, e3, e4⟩ := Ad.readsR_at (Ad.readsR_below hrd hbr) k hlt
      clear hrd
      generalize hxx : l[k] = x at *
      obtain ⟨a, d, g, t, p⟩ := x
      have HX := hide hxx
      clear hxx
      cases hm : Ad.rmayX (a, d, g, t, p)
      · go_wp2_with fail
        refine (rmayX_is _ _ _ _ _ _ hm _).mono ?_
        rintro e w1 ⟨rfl, hb1⟩
        go_wp2_with fail
        go_ret
        exact ⟨ret_int (Ad.rwhyX_bad l hlen k hlt (by rw [HX.out]; exact hm)).symm, bthen (balloc hbr _) hb1⟩
      · go_wp2_with fail
        refine (rmayX_is _ _ _ _ _ _ hm _).mono ?_
        rintro e w1 ⟨rfl, hb1⟩
        go_wp2_with fail
        refine ⟨⟨k + 1, by omega, by go_num, fun j hj hjk => ?_, bthen (balloc hbr _) hb1⟩, by simp [intOf]; omega⟩
        rcases Nat.lt_succ_iff_lt_or_eq.1 hjk with h1 | rfl
        · exact HALL.out j hj h1
        · rw [HX.out]; exact hm
    · go_wp2_with fail
      go_ret
      exact ⟨ret_int (Ad.rwhyX_ok l hlen fun j hj => HALL.out j hj (by omega)).symm, hbr⟩
end Go.Proofs.YtpmmhmgojjlniaaGreatDoor.Ax
