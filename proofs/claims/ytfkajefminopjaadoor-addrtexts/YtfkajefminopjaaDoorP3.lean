/- The contract of addr's split. -/
import Derived.Test.YtfkajefminopjaaDoorM7
import Derived.Test.YtfkajefminopjaaDoorS3
import Derived.Test.YtfkajefminopjaaDoorT1
namespace Go.Proofs.YtfkajefminopjaaDoor
open Go.RowKit

theorem Ad.idx_nat (l : List UInt8) (c : UInt8) (h : ¬ Lib.indexByte l c < 0) : ∃ o : Nat, Lib.indexByte l c = (o : Int) ∧ o < l.length := by
  obtain ⟨o, ho⟩ := Int.eq_ofNat_of_zero_le (show 0 ≤ Lib.indexByte l c by omega)
  refine ⟨o, ho, ?_⟩
  have := (Lib.indexByte_some ho).1
  exact (List.getElem?_eq_some_iff.1 this).1

theorem index_at (s : ByteArray) (c : UInt8) (w : World) : Calls Tryd.prog 47 #[.string s, .int .u8 (c.toNat : Int)] w fun e w' => e = .returned (.int .i64 (Lib.indexByte s.data.toList c)) ∧ w' = w := by
  have := Tryd.strings_IndexByte s (c.toNat : Int) w
  have e : ((c.toNat : Nat) : Int).toNat.toUInt8 = c := by simp
  rw [e] at this
  exact this

/-- What split hands back where the text isn't of the form. -/
def Ad.noParts : Value := .tuple #[.agg #[.string ⟨#[]⟩, .string ⟨#[]⟩, .string ⟨#[]⟩, .string ⟨#[]⟩, .string ⟨#[]⟩], .bool false]
/-- What split hands back. -/
def Ad.splitOf (l : List UInt8) : Value :=
  match Ad.marks5 l with
  | none => Ad.noParts
  | some (a, b, c, d, e) => if (Ad.isNum a && Ad.isNum b && Ad.isNum c && Ad.isNum d && Ad.isNum e) = true then .tuple #[.agg #[.string ⟨a.toArray⟩, .string ⟨b.toArray⟩, .string ⟨c.toArray⟩, .string ⟨d.toArray⟩, .string ⟨e.toArray⟩], .bool true] else Ad.noParts

theorem Ad.ret_no {l : List UInt8} (h : Ad.marks5 l = none) : Ending.returned Ad.noParts = .returned (Ad.splitOf l) := by unfold Ad.splitOf; rw [h]

theorem Ad.ba (s : ByteArray) : (⟨s.data.toList.toArray⟩ : ByteArray) = s := by obtain ⟨⟨l⟩⟩ := s; rfl

theorem Ad.extract_size (s : ByteArray) (a b n : Nat) (h : s.size ≤ n) : (s.extract a b).size ≤ n := by
  have : (s.extract a b).data.toList.length ≤ s.data.toList.length := by rw [Lib.extract_data]; simp; omega
  rw [Ad.size_list, Ad.size_list] at this
  omega

set_option maxHeartbeats 4000000 in
set_option maxRecDepth 100000 in
theorem split_any (s : ByteArray) (w : World) (hs : s.size ≤ 4000) :
    Calls Tryd.prog 33 #[.string s] w fun e w' => e = .returned (Ad.splitOf s.data.toList) ∧ Below w.heap.size w w' := by
  go_enter Tryd.func33, Tryd.ntmps33
  go_wp2_with fail
  refine wp_loop_rounds 5 ?_
  rw [rounds_succ]
  go_wp2_with fail
  refine (index_at s _ _).mono ?_
  rintro e w1 ⟨rfl, rfl⟩
  rw [Ad.at0]
  by_cases i0 : Lib.indexByte s.data.toList 46 < 0
  · have hm : Hid (Ad.marks5 s.data.toList = none) := by
      show _ = _
      unfold Ad.marks5
      simp only [Ad.cutL_none _ _ i0, Option.bind]
    go_wp2_with fail
    exact bodyPost_ret (v := Ad.noParts) (by simp [results, Tryd.results33, go_sem, Ad.noParts]) rfl ⟨Ad.ret_no hm.out, balloc (balloc (brefl w) _) _⟩
  · obtain ⟨o0, ho0, hlt0⟩ := Ad.idx_nat _ _ i0
    rw [Ad.size_list] at hlt0
    have C0 := hide (Ad.cutL_at s 46 o0 ho0 hlt0)
    rw [ho0]
    have z0 := Ad.extract_size s 0 o0 4000 (by omega)
    have y0 := Ad.extract_size s (o0 + 1) s.size 4000 (by omega)
    clear i0 ho0
    have h1 : (o0 : Int) < (s.size : Int) := by omega
    have h2 : (o0 : Int) + 1 ≤ (s.size : Int) := by omega
    go_wp2_with fail
    go_region
    go_wp2_with fail
    generalize s.extract 0 o0 = t0 at *
    generalize s.extract (o0 + 1) s.size = s1 at *
    clear h1 h2 hlt0
    rw [rounds_succ]
    go_wp2_with fail
    refine (index_at s1 _ _).mono ?_
    rintro e w1 ⟨rfl, rfl⟩
    rw [Ad.at1]
    by_cases i1 : Lib.indexByte s1.data.toList 46 < 0
    · have hm : Hid (Ad.marks5 s.data.toList = none) := by
        show _ = _
        unfold Ad.marks5
        simp only [C0.out, Ad.cutL_none _ _ i1, Option.bind]
      go_wp2_with fail
      exact bodyPost_ret (v := Ad.noParts) (by simp [results, Tryd.results33, go_sem, Ad.noParts]) rfl ⟨Ad.ret_no hm.out, (balloc (balloc (brefl w) _) _).drew⟩
    · obtain ⟨o1, ho1, hlt1⟩ := Ad.idx_nat _ _ i1
      rw [Ad.size_list] at hlt1
      have C1 := hide (Ad.cutL_at s1 46 o1 ho1 hlt1)
      rw [ho1]
      have z1 := Ad.extract_size s1 0 o1 4000 (by omega)
      have y1 := Ad.extract_size s1 (o1 + 1) s1.size 4000 (by omega)
      clear i1 ho1
      have h1 : (o1 : Int) < (s1.size : Int) := by omega
      have h2 : (o1 : Int) + 1 ≤ (s1.size : Int) := by omega
      go_wp2_with fail
      go_region
      go_wp2_with fail
      generalize s1.extract 0 o1 = t1 at *
      generalize s1.extract (o1 + 1) s1.size = s2 at *
      clear h1 h2 hlt1
      rw [rounds_succ]
      go_wp2_with fail
      refine (index_at s2 _ _).mono ?_
      rintro e w1 ⟨rfl, rfl⟩
      rw [Ad.at2]
      by_cases i2 : Lib.indexByte s2.data.toList 46 < 0
      · have hm : Hid (Ad.marks5 s.data.toList = none) := by
          show _ = _
          unfold Ad.marks5
          simp only [C0.out, C1.out, Ad.cutL_none _ _ i2, Option.bind]
        go_wp2_with fail
        exact bodyPost_ret (v := Ad.noParts) (by simp [results, Tryd.results33, go_sem, Ad.noParts]) rfl ⟨Ad.ret_no hm.out, ((balloc (balloc (brefl w) _) _).drew).drew⟩
      · obtain ⟨o2, ho2, hlt2⟩ := Ad.idx_nat _ _ i2
        rw [Ad.size_list] at hlt2
        have C2 := hide (Ad.cutL_at s2 46 o2 ho2 hlt2)
        rw [ho2]
        have z2 := Ad.extract_size s2 0 o2 4000 (by omega)
        have y2 := Ad.extract_size s2 (o2 + 1) s2.size 4000 (by omega)
        clear i2 ho2
        have h1 : (o2 : Int) < (s2.size : Int) := by omega
        have h2 : (o2 : Int) + 1 ≤ (s2.size : Int) := by omega
        go_wp2_with fail
        go_region
        go_wp2_with fail
        generalize s2.extract 0 o2 = t2 at *
        generalize s2.extract (o2 + 1) s2.size = s3 at *
        clear h1 h2 hlt2
        rw [rounds_succ]
        go_wp2_with fail
        refine (index_at s3 _ _).mono ?_
        rintro e w1 ⟨rfl, rfl⟩
        rw [Ad.at3]
        by_cases i3 : Lib.indexByte s3.data.toList 47 < 0
        · have hm : Hid (Ad.marks5 s.data.toList = none) := by
            show _ = _
            unfold Ad.marks5
            simp only [C0.out, C1.out, C2.out, Ad.cutL_none _ _ i3, Option.bind]
          go_wp2_with fail
          exact bodyPost_ret (v := Ad.noParts) (by simp [results, Tryd.results33, go_sem, Ad.noParts]) rfl ⟨Ad.ret_no hm.out, (((balloc (balloc (brefl w) _) _).drew).drew).drew⟩
        · obtain ⟨o3, ho3, hlt3⟩ := Ad.idx_nat _ _ i3
          rw [Ad.size_list] at hlt3
          have C3 := hide (Ad.cutL_at s3 47 o3 ho3 hlt3)
          rw [ho3]
          have z3 := Ad.extract_size s3 0 o3 4000 (by omega)
          have y3 := Ad.extract_size s3 (o3 + 1) s3.size 4000 (by omega)
          clear i3 ho3
          have h1 : (o3 : Int) < (s3.size : Int) := by omega
          have h2 : (o3 : Int) + 1 ≤ (s3.size : Int) := by omega
          go_wp2_with fail
          go_region
          go_wp2_with fail
          generalize s3.extract 0 o3 = t3 at *
          generalize s3.extract (o3 + 1) s3.size = s4 at *
          clear h1 h2 hlt3
          rw [rounds_succ]
          go_wp2_with fail
          have hm : Hid (Ad.marks5 s.data.toList = some (t0.data.toList, t1.data.toList, t2.data.toList, t3.data.toList, s4.data.toList)) := by
            show _ = _
            unfold Ad.marks5
            simp only [C0.out, C1.out, C2.out, C3.out, Option.bind]
          clear C0 C1 C2 C3
          have ix0 : ∀ w, (Instr.index 48 (.agg #[.string t0, .string t1, .string t2, .string t3, .string s4]) (.int .i64 0)).run Tryd.prog w = .ok (.string t0) w := fun _ => by kernel_rfl
          have ix1 : ∀ w, (Instr.index 48 (.agg #[.string t0, .string t1, .string t2, .string t3, .string s4]) (.int .i64 1)).run Tryd.prog w = .ok (.string t1) w := fun _ => by kernel_rfl
          have ix2 : ∀ w, (Instr.index 48 (.agg #[.string t0, .string t1, .string t2, .string t3, .string s4]) (.int .i64 2)).run Tryd.prog w = .ok (.string t2) w := fun _ => by kernel_rfl
          have ix3 : ∀ w, (Instr.index 48 (.agg #[.string t0, .string t1, .string t2, .string t3, .string s4]) (.int .i64 3)).run Tryd.prog w = .ok (.string t3) w := fun _ => by kernel_rfl
          have ix4 : ∀ w, (Instr.index 48 (.agg #[.string t0, .string t1, .string t2, .string t3, .string s4]) (.int .i64 4)).run Tryd.prog w = .ok (.string s4) w := fun _ => by kernel_rfl
          refine wp_loop_rounds 6 ?_
          rw [rounds_succ]
          go_wp2_with fail
          refine (isNumber_any t0 _ (by unfold maxLen; omega)).mono ?_
          rintro e w1 ⟨rfl, rfl⟩
          cases n0 : Ad.isNum t0.data.toList
          · have hf : Hid (Ad.splitOf s.data.toList = Ad.noParts) := by
              show _ = _
              unfold Ad.splitOf
              rw [hm.out]
              simp only [n0, Bool.false_and, Bool.false_eq_true, if_false]
            clear hm ix0 ix1 ix2 ix3 ix4
            go_wp2_with fail
            exact bodyPost_ret (v := Ad.noParts) (by simp [results, Tryd.results33, go_sem, Ad.noParts]) rfl ⟨by rw [hf.out], ((((balloc (balloc (brefl w) _) _).drew).drew).drew).drew⟩
          · have N0 := hide n0
            clear n0
            go_wp2_with fail
            rw [rounds_succ]
            go_wp2_with fail
            refine (isNumber_any t1 _ (by unfold maxLen; omega)).mono ?_
            rintro e w1 ⟨rfl, rfl⟩
            cases n1 : Ad.isNum t1.data.toList
            · have hf : Hid (Ad.splitOf s.data.toList = Ad.noParts) := by
                show _ = _
                unfold Ad.splitOf
                rw [hm.out]
                simp only [n1, Bool.and_false, Bool.false_and, Bool.false_eq_true, if_false]
              clear hm ix0 ix1 ix2 ix3 ix4
              go_wp2_with fail
              exact bodyPost_ret (v := Ad.noParts) (by simp [results, Tryd.results33, go_sem, Ad.noParts]) rfl ⟨by rw [hf.out], ((((balloc (balloc (brefl w) _) _).drew).drew).drew).drew⟩
            · have N1 := hide n1
              clear n1
              go_wp2_with fail
              rw [rounds_succ]
              go_wp2_with fail
              refine (isNumber_any t2 _ (by unfold maxLen; omega)).mono ?_
              rintro e w1 ⟨rfl, rfl⟩
              cases n2 : Ad.isNum t2.data.toList
              · have hf : Hid (Ad.splitOf s.data.toList = Ad.noParts) := by
                  show _ = _
                  unfold Ad.splitOf
                  rw [hm.out]
                  simp only [n2, Bool.and_false, Bool.false_and, Bool.false_eq_true, if_false]
                clear hm ix0 ix1 ix2 ix3 ix4
                go_wp2_with fail
                exact bodyPost_ret (v := Ad.noParts) (by simp [results, Tryd.results33, go_sem, Ad.noParts]) rfl ⟨by rw [hf.out], ((((balloc (balloc (brefl w) _) _).drew).drew).drew).drew⟩
              · have N2 := hide n2
                clear n2
                go_wp2_with fail
                rw [rounds_succ]
                go_wp2_with fail
                refine (isNumber_any t3 _ (by unfold maxLen; omega)).mono ?_
                rintro e w1 ⟨rfl, rfl⟩
                cases n3 : Ad.isNum t3.data.toList
                · have hf : Hid (Ad.splitOf s.data.toList = Ad.noParts) := by
                    show _ = _
                    unfold Ad.splitOf
                    rw [hm.out]
                    simp only [n3, Bool.and_false, Bool.false_and, Bool.false_eq_true, if_false]
                  clear hm ix0 ix1 ix2 ix3 ix4
                  go_wp2_with fail
                  exact bodyPost_ret (v := Ad.noParts) (by simp [results, Tryd.results33, go_sem, Ad.noParts]) rfl ⟨by rw [hf.out], ((((balloc (balloc (brefl w) _) _).drew).drew).drew).drew⟩
                · have N3 := hide n3
                  clear n3
                  go_wp2_with fail
                  rw [rounds_succ]
                  go_wp2_with fail
                  refine (isNumber_any s4 _ (by unfold maxLen; omega)).mono ?_
                  rintro e w1 ⟨rfl, rfl⟩
                  cases n4 : Ad.isNum s4.data.toList
                  · have hf : Hid (Ad.splitOf s.data.toList = Ad.noParts) := by
                      show _ = _
                      unfold Ad.splitOf
                      rw [hm.out]
                      simp only [n4, Bool.and_false, Bool.false_eq_true, if_false]
                    clear hm ix0 ix1 ix2 ix3 ix4
                    go_wp2_with fail
                    exact bodyPost_ret (v := Ad.noParts) (by simp [results, Tryd.results33, go_sem, Ad.noParts]) rfl ⟨by rw [hf.out], ((((balloc (balloc (brefl w) _) _).drew).drew).drew).drew⟩
                  · have N4 := hide n4
                    clear n4
                    go_wp2_with fail
                    rw [rounds_succ]
                    go_wp2_with fail
                    have hf : Ad.splitOf s.data.toList = .tuple #[.agg #[.string t0, .string t1, .string t2, .string t3, .string s4], .bool true] := by
                      unfold Ad.splitOf
                      rw [hm.out]
                      simp only [N0.out, N1.out, N2.out, N3.out, N4.out, Bool.and_self, if_true, Ad.ba]
                    exact bodyPost_ret (v := .tuple #[.agg #[.string t0, .string t1, .string t2, .string t3, .string s4], .bool true]) (by simp [results, Tryd.results33, go_sem]) rfl ⟨by rw [hf], ((((balloc (balloc (brefl w) _) _).drew).drew).drew).drew⟩
end Go.Proofs.YtfkajefminopjaaDoor
