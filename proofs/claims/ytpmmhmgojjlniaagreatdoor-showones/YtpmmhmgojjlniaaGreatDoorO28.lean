/- show.setMay, clauseMay. -/
import Derived.Test.YtpmmhmgojjlniaaGreatDoorO03
import Derived.Test.YtpmmhmgojjlniaaGreatDoorO27
namespace Go.Proofs.YtpmmhmgojjlniaaGreatDoor
open Go.RowKit Go.Sort

/-- May a clause set so? -/
def setOk (s : Se) : Bool := inR s.pref (-1) 1048576 && inR s.med (-1) 1048576 && inR s.org (-1) 2 && (decide ((s.add.length : Int) ≤ 8) && s.add.all fun c => Cm.Co.may c) && (decide ((s.del.length : Int) ≤ 8) && s.del.all fun c => Cm.Co.may c) && (decide ((s.prep.length : Int) ≤ 16) && s.prep.all fun n => inR n 1 65535)
set_option maxHeartbeats 2000000 in
set_option maxRecDepth 100000 in
theorem setMay_is (s : Se) (va vd vp : Value) (w : World) (h1 : Rd w 2 PrR va s.add) (h2 : Rd w 2 PrR vd s.del) (h3 : Rd w 1 InR vp s.prep) (hz : s.add.length ≤ 100000 ∧ s.del.length ≤ 100000 ∧ s.prep.length ≤ 100000) :
    Calls Tryz.prog 153 #[.agg #[.int .i64 s.pref, .int .i64 s.med, .int .i64 s.org, va, vd, .bool s.clr, vp]] w fun e w' => e = .returned (.bool (setOk s)) ∧ Below w.heap.size w w' := by
  obtain ⟨oa, ka, rfl⟩ := h1.slice
  obtain ⟨od, kd, rfl⟩ := h2.slice
  obtain ⟨op, kp, rfl⟩ := h3.slice
  obtain ⟨pref, med, org, add, del, clr, prep⟩ := s
  simp only at h1 h2 h3 hz ⊢
  have A1 := balloc (brefl w) (.cells #[.int .i64 pref, .int .i64 med, .int .i64 org, .slice oa add.length ka, .slice od del.length kd, .bool clr, .slice op prep.length kp] 59)
  have N1 := hide (heap_new w #[.int .i64 pref, .int .i64 med, .int .i64 org, .slice oa add.length ka, .slice od del.length kd, .bool clr, .slice op prep.length kp] 59)
  have C1 := hide (fun W => within_is pref (-1) 1048576 W)
  have C2 := hide (fun W => within_is med (-1) 1048576 W)
  have C3 := hide (fun W => within_is org (-1) 2 W)
  have C4 := hide (fun W (hb : Below w.heap.size w W) => fewComm_is (.slice oa add.length ka) add 8 W (commMay_fn W (fun _ => True)) (h1.below PrR.mono hb) (fun _ _ => trivial) hz.1)
  have C5 := hide (fun W (hb : Below w.heap.size w W) => fewComm_is (.slice od del.length kd) del 8 W (commMay_fn W (fun _ => True)) (h2.below PrR.mono hb) (fun _ _ => trivial) hz.2.1)
  have C6 := hide (fun W (hb : Below w.heap.size w W) => fewint_is (.slice op prep.length kp) prep 16 W (asMay_fn W (fun _ => True)) (h3.below InR.mono hb) (fun _ _ => trivial) hz.2.2)
  have HE : Hid (setOk ⟨pref, med, org, add, del, clr, prep⟩ = (inR pref (-1) 1048576 && inR med (-1) 1048576 && inR org (-1) 2 && (decide ((add.length : Int) ≤ 8) && add.all fun c => Cm.Co.may c) && (decide ((del.length : Int) ≤ 8) && del.all fun c => Cm.Co.may c) && (decide ((prep.length : Int) ≤ 16) && prep.all fun n => inR n 1 65535))) := rfl
  have B1 := hide A1
  clear A1 h1 h2 h3 hz
  generalize setOk ⟨pref, med, org, add, del, clr, prep⟩ = R at *
  generalize inR pref (-1) 1048576 = r1 at *
  generalize inR med (-1) 1048576 = r2 at *
  generalize inR org (-1) 2 = r3 at *
  generalize (decide ((add.length : Int) ≤ 8) && add.all fun c => Cm.Co.may c) = r4 at *
  generalize (decide ((del.length : Int) ≤ 8) && del.all fun c => Cm.Co.may c) = r5 at *
  generalize (decide ((prep.length : Int) ≤ 16) && prep.all fun n => inR n 1 65535) = r6 at *
  generalize add.length = na at *
  generalize del.length = nd at *
  generalize prep.length = np at *
  go_enter Tryz.func153, Tryz.ntmps153
  go_upto_region 1 with fail
  obtain ⟨bx, hbx⟩ : ∃ x, w.heap.size = x := ⟨_, rfl⟩
  rw [hbx] at N1 ⊢
  generalize w.alloc (.cells #[.int .i64 pref, .int .i64 med, .int .i64 org, .slice oa na ka, .slice od nd kd, .bool clr, .slice op np kp] 59) = W1 at *
  have n0 := cell_of N1.out 0 rfl
  have n1 := cell_of N1.out 1 rfl
  have n2 := cell_of N1.out 2 rfl
  have n3 := cell_of N1.out 3 rfl
  go_wp2_with fail
  refine (C1.out W1).mono ?_
  rintro e w2 ⟨rfl, rfl⟩
  cases r1 with
  | false =>
    go_wp2_with fail
    go_ret
    exact ⟨ret_bool HE.out.symm, by first | exact B1.out | (rw [← hbx]; exact B1.out) | (rw [hbx]; exact B1.out)⟩
  | true =>
    go_wp2_with fail
    refine (C2.out _).mono ?_
    rintro e w2 ⟨rfl, rfl⟩
    cases r2 with
    | false =>
      go_wp2_with fail
      go_ret
      exact ⟨ret_bool HE.out.symm, by first | exact B1.out | (rw [← hbx]; exact B1.out) | (rw [hbx]; exact B1.out)⟩
    | true =>
      go_wp2_with fail
      refine (C3.out _).mono ?_
      rintro e w2 ⟨rfl, rfl⟩
      cases r3 with
      | false =>
        go_wp2_with fail
        go_ret
        exact ⟨ret_bool HE.out.symm, by first | exact B1.out | (rw [← hbx]; exact B1.out) | (rw [hbx]; exact B1.out)⟩
      | true =>
        go_wp2_with fail
        refine (C4.out _ B1.out).mono ?_
        rintro e w3 ⟨rfl, hb3⟩
        have N3 := hide ((hb3.block bx (heap_lt N1.out)).trans N1.out)
        have B3 := hide (bthen B1.out hb3)
        clear hb3 C1 C2 C3 C4 n0 n1 n2 n3
        have n4 := cell_of N3.out 4 rfl
        cases r4 with
        | false =>
          go_wp2_with fail
          go_ret
          exact ⟨ret_bool HE.out.symm, by first | exact B3.out | (rw [← hbx]; exact B3.out) | (rw [hbx]; exact B3.out)⟩
        | true =>
          go_wp2_with fail
          refine (C5.out _ B3.out).mono ?_
          rintro e w4 ⟨rfl, hb4⟩
          have N4 := hide ((hb4.block bx (heap_lt N3.out)).trans N3.out)
          have B4 := hide (bthen B3.out hb4)
          clear hb4 C5 n4
          have n6 := cell_of N4.out 6 rfl
          cases r5 with
          | false =>
            go_wp2_with fail
            go_ret
            exact ⟨ret_bool HE.out.symm, by first | exact B4.out | (rw [← hbx]; exact B4.out) | (rw [hbx]; exact B4.out)⟩
          | true =>
            go_wp2_with fail
            refine (C6.out _ B4.out).mono ?_
            rintro e w5 ⟨rfl, hb5⟩
            have B5 := hide (bthen B4.out hb5)
            clear hb5 C6 n6
            have HR : Hid (R = r6) := by show _ = _; rw [HE.out]; cases r6 <;> rfl
            go_wp2_with fail
            go_ret
            exact ⟨ret_bool HR.out.symm, by first | exact B5.out | (rw [← hbx]; exact B5.out) | (rw [hbx]; exact B5.out)⟩
/-- May a clause be? -/
def clOk (c : Cl) : Bool := inR c.n 1 65535 && matchOk c.m && setOk c.s
/-- No text or list of a clause is too long to be asked. -/
def GCl (c : Cl) : Prop := c.m.list.size ≤ 1000 ∧ c.s.add.length ≤ 100000 ∧ c.s.del.length ≤ 100000 ∧ c.s.prep.length ≤ 100000
set_option maxHeartbeats 2000000 in
set_option maxRecDepth 100000 in
theorem clauseMay_fn (W0 : World) (hT : Ar.Y4.Pt W0) : FnIs W0 78 #[] 13 ClR GCl clOk where
  enter := fun args w => by go_simp
  ok := fun W a x hW hx hga => by
    obtain ⟨xs, h1, _, rfl⟩ := hx
    obtain ⟨va, vd, vp, rfl, hva, hvd, hvp⟩ := h1
    obtain ⟨oa, ka, rfl⟩ := hva.slice
    obtain ⟨od, kd, rfl⟩ := hvd.slice
    obtain ⟨op, kp, rfl⟩ := hvp.slice
    obtain ⟨n, ok, ⟨ml, mp, ca, cn⟩, ⟨pref, med, org, add, del, clr, prep⟩⟩ := a
    simp only at hva hvd hvp hga ⊢
    obtain ⟨z0, z1, z2, z3⟩ := hga
    simp only at z0 z1 z2 z3
    show Calls Tryz.prog 78 #[.agg #[.int .i64 n, .bool ok, .string ml, .string mp, .int .i64 ca, .int .i64 cn, .int .i64 pref, .int .i64 med, .int .i64 org, .slice oa add.length ka, .slice od del.length kd, .bool clr, .slice op prep.length kp]] W _
    have A1 := balloc (brefl W) (.cells #[.int .i64 n, .bool ok, .string ml, .string mp, .int .i64 ca, .int .i64 cn, .int .i64 pref, .int .i64 med, .int .i64 org, .slice oa add.length ka, .slice od del.length kd, .bool clr, .slice op prep.length kp] 61)
    have N1 := hide (heap_new W #[.int .i64 n, .bool ok, .string ml, .string mp, .int .i64 ca, .int .i64 cn, .int .i64 pref, .int .i64 med, .int .i64 org, .slice oa add.length ka, .slice od del.length kd, .bool clr, .slice op prep.length kp] 61)
    have C1 := hide (fun W => within_is n 1 65535 W)
    have C2 := hide (fun W2 (hb : Below W.heap.size W W2) => matchMay_is ⟨ml, mp, ca, cn⟩ z0 W2 (hT.on (bthen hW hb)))
    have C3 := hide (fun W2 (hb : Below W.heap.size W W2) => setMay_is ⟨pref, med, org, add, del, clr, prep⟩ (.slice oa add.length ka) (.slice od del.length kd) (.slice op prep.length kp) W2 (hva.below PrR.mono hb) (hvd.below PrR.mono hb) (hvp.below InR.mono hb) ⟨z1, z2, z3⟩)
    have HE : Hid (clOk ⟨n, ok, ⟨ml, mp, ca, cn⟩, ⟨pref, med, org, add, del, clr, prep⟩⟩ = (inR n 1 65535 && matchOk ⟨ml, mp, ca, cn⟩ && setOk ⟨pref, med, org, add, del, clr, prep⟩)) := rfl
    have B1 := hide A1
    clear A1 hva hvd hvp hT hW z0 z1 z2 z3
    generalize clOk ⟨n, ok, ⟨ml, mp, ca, cn⟩, ⟨pref, med, org, add, del, clr, prep⟩⟩ = R at *
    generalize inR n 1 65535 = r1 at *
    generalize matchOk ⟨ml, mp, ca, cn⟩ = r2 at *
    generalize setOk ⟨pref, med, org, add, del, clr, prep⟩ = r3 at *
    generalize add.length = na at *
    generalize del.length = nd at *
    generalize prep.length = np at *
    go_enter Tryz.func78, Tryz.ntmps78
    go_upto_region 1 with fail
    obtain ⟨bx, hbx⟩ : ∃ x, W.heap.size = x := ⟨_, rfl⟩
    rw [hbx] at N1 ⊢
    generalize W.alloc (.cells #[.int .i64 n, .bool ok, .string ml, .string mp, .int .i64 ca, .int .i64 cn, .int .i64 pref, .int .i64 med, .int .i64 org, .slice oa na ka, .slice od nd kd, .bool clr, .slice op np kp] 61) = W1 at *
    have n0 := cell_of N1.out 0 rfl
    have n1 := cell_of N1.out 1 rfl
    have n2 := cell_of N1.out 2 rfl
    have n3 := cell_of N1.out 3 rfl
    have n4 := cell_of N1.out 4 rfl
    have n5 := cell_of N1.out 5 rfl
    go_wp2_with fail
    refine (C1.out W1).mono ?_
    rintro e w2 ⟨rfl, rfl⟩
    cases r1 with
    | false =>
      go_wp2_with fail
      go_ret
      exact ⟨ret_bool HE.out.symm, by first | exact B1.out | (rw [← hbx]; exact B1.out) | (rw [hbx]; exact B1.out)⟩
    | true =>
      go_wp2_with fail
      refine (C2.out _ B1.out).mono ?_
      rintro e w3 ⟨rfl, hb3⟩
      have N3 := hide ((hb3.block bx (heap_lt N1.out)).trans N1.out)
      have B3 := hide (bthen B1.out hb3)
      clear hb3 C1 C2 n0 n1 n2 n3 n4 n5
      cases r2 with
      | false =>
        go_wp2_with fail
        go_ret
        exact ⟨ret_bool HE.out.symm, by first | exact B3.out | (rw [← hbx]; exact B3.out) | (rw [hbx]; exact B3.out)⟩
      | true =>
        have n6 := cell_of N3.out 6 rfl
        have n7 := cell_of N3.out 7 rfl
        have n8 := cell_of N3.out 8 rfl
        have n9 := cell_of N3.out 9 rfl
        have n10 := cell_of N3.out 10 rfl
        have n11 := cell_of N3.out 11 rfl
        have n12 := cell_of N3.out 12 rfl
        go_wp2_with fail
        refine (C3.out _ B3.out).mono ?_
        rintro e w4 ⟨rfl, hb4⟩
        have B4 := hide (bthen B3.out hb4)
        clear hb4 C3
        have HR : Hid (R = r3) := by show _ = _; rw [HE.out]; cases r3 <;> rfl
        go_wp2_with fail
        go_ret
        exact ⟨ret_bool HR.out.symm, by first | exact B4.out | (rw [← hbx]; exact B4.out) | (rw [hbx]; exact B4.out)⟩
end Go.Proofs.YtpmmhmgojjlniaaGreatDoor
namespace Go.Proofs.YtpmmhmgojjlniaaGreatDoor
open Go.RowKit Go.Sort

theorem matchB_len (d : Nat) (m : Mt) (h : MatchSz m) : (matchB d m).length ≤ 3 * (d + 100001) := by
  have l1 := lineB_len d
  obtain ⟨s1, s2, s3, _⟩ := h
  have a : (mlB d m.list).length ≤ d + 100001 := by
    unfold mlB; split
    · exact Nat.zero_le _
    · rw [l1]; omega
  have b : (mpB d m.path).length ≤ d + 100001 := by
    unfold mpB; split
    · exact Nat.zero_le _
    · rw [l1]; omega
  have c : (mcB d m.ca m.cn).length ≤ d + 100001 := by
    unfold mcB; split
    · exact Nat.zero_le _
    · rw [l1]; omega
  unfold matchB
  rw [List.length_append, List.length_append]
  omega
def clIn (d : Nat) (c : Cl) : List UInt8 := matchB d c.m ++ setB d c.s
set_option maxHeartbeats 8000000 in
set_option maxRecDepth 100000 in
theorem clauseIn_is (WB W0 : World) (b d bc bw : Nat) (c : Cl) (va vd vp : Value) (hW0 : Below WB.heap.size WB W0) (h1 : Rd WB 2 PrR va c.s.add) (h2 : Rd WB 2 PrR vd c.s.del) (h3 : Rd WB 1 InR vp c.s.prep) (ht : Tab WB) (hp : -1 ≤ c.s.pref ∧ c.s.pref ≤ 1048576) (hm : -1 ≤ c.s.med ∧ c.s.med ≤ 1048576) (hq : ∀ n ∈ c.s.prep, -1 ≤ n ∧ n ≤ 1048576) (hn : c.s.add.length ≤ 900 ∧ c.s.del.length ≤ 900 ∧ c.s.prep.length ≤ 900) (hs : SetSz c.s) (hsm : MatchSz c.m) (hd : d ≤ 10)
    (hbc : W0.heap[bc]? = some (.cells #[.int .i64 c.n, .bool c.ok, .string c.m.list, .string c.m.path, .int .i64 c.m.ca, .int .i64 c.m.cn, .int .i64 c.s.pref, .int .i64 c.s.med, .int .i64 c.s.org, va, vd, .bool c.s.clr, vp] 61 (0, 0))) (hbw : W0.heap[bw]? = some (.cells #[.pointer (some ⟨b, 0, none⟩)] 119 (0, 0))) (hnc : bc ≠ b) (hnw : bw ≠ b) :
    FnDoes W0 200 #[.pointer (some ⟨bw, 0, none⟩), .pointer (some ⟨bc, 0, none⟩)] WB.heap.size b d (clIn d c) 1000 where
  enter := fun args w => by go_simp
  ok := fun W x hW hK hwr hz => by
    have hB0 := hW0.trans hW
    have HC := hide (hK _ _ _ _ hbc (by decide) hnc)
    have HW := hide (hK _ _ _ _ hbw (by decide) hnw)
    have hml := matchB_len d c.m hsm
    have hl : (clIn d c).length = (matchB d c.m).length + (setB d c.s).length := by unfold clIn; rw [List.length_append]
    have CM := hide (match_is WB W b d x c.m hB0 ht hsm hd hwr (by omega))
    have CS := hide (fun W2 (h : Below WB.heap.size W W2) hI => set_is WB W2 b d (x ++ matchB d c.m) c.s va vd vp (hB0.trans h) h1 h2 h3 ht hp hm hq hn hs hd hI (by rw [List.length_append]; omega))
    have HE : Hid (x ++ clIn d c = x ++ matchB d c.m ++ setB d c.s) := by show _ = _; unfold clIn; rw [List.append_assoc]
    obtain ⟨oa, ka, rfl⟩ := h1.slice
    obtain ⟨od, kd, rfl⟩ := h2.slice
    obtain ⟨op, kp, rfl⟩ := h3.slice
    have n0 := cell_of HW.out 0 rfl
    have n2 := cell_of HC.out 2 rfl
    have n3 := cell_of HC.out 3 rfl
    have n4 := cell_of HC.out 4 rfl
    have n5 := cell_of HC.out 5 rfl
    generalize matchB d c.m = MB at *
    generalize setB d c.s = SB at *
    generalize clIn d c = CB at *
    clear hB0 hbc hbw hW0 h1 h2 h3 ht hq hs hsm hK hwr hW hz hml hl
    go_enter Tryz.func200, Tryz.ntmps200
    go_wp2_with fail
    refine CM.out.mono ?_
    rintro e w2 ⟨rfl, h6, hb6, hk6⟩
    have HC2 := hide (hk6 _ _ _ _ HC.out (by decide) hnc)
    have HW2 := hide (hk6 _ _ _ _ HW.out (by decide) hnw)
    have C2 := hide (CS.out w2 hb6 h6)
    have B2 := hide hb6
    have K2 := hide hk6
    clear h6 hb6 hk6 CM CS n0 n2 n3 n4 n5
    have n0 := cell_of HW2.out 0 rfl
    have n6 := cell_of HC2.out 6 rfl
    have n7 := cell_of HC2.out 7 rfl
    have n8 := cell_of HC2.out 8 rfl
    have n9 := cell_of HC2.out 9 rfl
    have n10 := cell_of HC2.out 10 rfl
    have n11 := cell_of HC2.out 11 rfl
    have n12 := cell_of HC2.out 12 rfl
    go_wp2_with fail
    refine C2.out.mono ?_
    rintro e w3 ⟨rfl, h7, hb7, hk7⟩
    have W3 : Hid (IsWr WB.heap.size b (Lib.byteCells (x ++ CB)) d w3) := by
      show IsWr _ _ _ _ _
      rw [HE.out]
      exact h7
    have B3 := hide (B2.out.trans hb7)
    have K3 := hide (K2.out.trans hk7)
    clear h7 hb7 hk7 C2 n0 n6 n7 n8 n9 n10 n11 n12
    go_wp2_with fail
    go_end0
    exact ⟨rfl, W3.out, B3.out, K3.out⟩
end Go.Proofs.YtpmmhmgojjlniaaGreatDoor
namespace Go.Proofs.YtpmmhmgojjlniaaGreatDoor
open Go.RowKit Go.Sort

def preC (ok : Bool) : ByteArray := if ok = true then ⟨#[112, 101, 114, 109, 105, 116, 32]⟩ else ⟨#[100, 101, 110, 121, 32]⟩
def clHead (c : Cl) : ByteArray := preC c.ok ++ numT c.n
/-- A clause as it is written. -/
def clauseB (d : Nat) (c : Cl) : List UInt8 := blockB d (clHead c) (clIn (d + 1) c)
theorem blockB_len (d : Nat) (head : ByteArray) (out : List UInt8) : (blockB d head out).length = 2 * d + head.size + out.length + 5 := by
  unfold blockB
  rw [List.length_append, List.length_append, lineB_len, lineB_len, ByteArray.size_append]
  show d + (_ + 2) + 1 + _ + (d + 1 + 1) = _
  omega
set_option maxHeartbeats 8000000 in
set_option maxRecDepth 100000 in
theorem clause_is (WB w : World) (b d : Nat) (x : List UInt8) (c : Cl) (va vd vp : Value) (hW : Below WB.heap.size WB w) (h1 : Rd WB 2 PrR va c.s.add) (h2 : Rd WB 2 PrR vd c.s.del) (h3 : Rd WB 1 InR vp c.s.prep) (ht : Tab WB) (hN : -1 ≤ c.n ∧ c.n ≤ 1048576) (hp : -1 ≤ c.s.pref ∧ c.s.pref ≤ 1048576) (hm : -1 ≤ c.s.med ∧ c.s.med ≤ 1048576) (hq : ∀ n ∈ c.s.prep, -1 ≤ n ∧ n ≤ 1048576) (hn : c.s.add.length ≤ 900 ∧ c.s.del.length ≤ 900 ∧ c.s.prep.length ≤ 900) (hs : SetSz c.s) (hsm : MatchSz c.m) (hnz : (numT c.n).size ≤ 100) (hd : d + 1 ≤ 10)
    (h : IsWr WB.heap.size b (Lib.byteCells x) d w) (hz : x.length + (clIn (d + 1) c).length + 2000 ≤ 100000000) :
    Calls Tryz.prog 134 #[.pointer (some ⟨b, 0, none⟩), clV c va vd vp] w fun e w' => e = .returned (.tuple #[]) ∧ IsWr WB.heap.size b (Lib.byteCells (x ++ clauseB d c)) d w' ∧ Below WB.heap.size w w' ∧ KeptB b w w' := by
  obtain ⟨oa, ka, rfl⟩ := h1.slice
  obtain ⟨od, kd, rfl⟩ := h2.slice
  obtain ⟨op, kp, rfl⟩ := h3.slice
  have hlt := h.depth.2.2.1
  have A1 := balloc (brefl w) (.cells #[.pointer (some ⟨b, 0, none⟩)] 119)
  have A2 := balloc (brefl (w.alloc (.cells #[.pointer (some ⟨b, 0, none⟩)] 119))) (.cells #[.int .i64 c.n, .bool c.ok, .string c.m.list, .string c.m.path, .int .i64 c.m.ca, .int .i64 c.m.cn, .int .i64 c.s.pref, .int .i64 c.s.med, .int .i64 c.s.org, .slice oa c.s.add.length ka, .slice od c.s.del.length kd, .bool c.s.clr, .slice op c.s.prep.length kp] 61)
  have A := bthen A1 A2
  have N1 := (A2.block w.heap.size (by rw [size_alloc]; omega)).trans (heap_new w #[.pointer (some ⟨b, 0, none⟩)] 119)
  have N2 := heap_new (w.alloc (.cells #[.pointer (some ⟨b, 0, none⟩)] 119)) #[.int .i64 c.n, .bool c.ok, .string c.m.list, .string c.m.path, .int .i64 c.m.ca, .int .i64 c.m.cn, .int .i64 c.s.pref, .int .i64 c.s.med, .int .i64 c.s.org, .slice oa c.s.add.length ka, .slice od c.s.del.length kd, .bool c.s.clr, .slice op c.s.prep.length kp] 61
  rw [size_alloc] at N2
  have AW := below_less A hW.size
  have hnw : w.heap.size ≠ b := by omega
  have hnc : w.heap.size + 1 ≠ b := by omega
  have HIS := hide (h.below A)
  have HA := hide A
  have HAW := hide AW
  have HK := hide ((KeptB.refl b w).below A)
  have HN1 := hide N1
  have HN2 := hide N2
  have hBW : WB.heap.size ≤ w.heap.size := hW.size
  unfold clV
  clear A1 A2
  go_enter Tryz.func134, Tryz.ntmps134
  go_upto_region 1 with fail
  obtain ⟨bw, hbw⟩ : ∃ q, w.heap.size = q := ⟨_, rfl⟩
  rw [hbw] at HN1 HN2 N1 N2 hnw hnc ⊢
  obtain ⟨bc, hbc⟩ : ∃ q, bw + 1 = q := ⟨_, rfl⟩
  rw [hbc] at HN2 N2 hnc ⊢
  clear hbc
  generalize (w.alloc (.cells #[.pointer (some ⟨b, 0, none⟩)] 119)).alloc (.cells #[.int .i64 c.n, .bool c.ok, .string c.m.list, .string c.m.path, .int .i64 c.m.ca, .int .i64 c.m.cn, .int .i64 c.s.pref, .int .i64 c.s.med, .int .i64 c.s.org, .slice oa c.s.add.length ka, .slice od c.s.del.length kd, .bool c.s.clr, .slice op c.s.prep.length kp] 61) = w0 at *
  have CI := hide (fun W2 (hb : Below w0.heap.size w0 W2) => itoa_is c.n hN.1 hN.2 W2 (Tab.on ht ((hW.trans AW).trans (below_less hb (Nat.le_trans hBW (by have := HA.out.size; omega))))))
  have HP : Hid (clHead c = preC c.ok ++ numT c.n) := rfl
  have HE : Hid (clauseB d c = blockB d (clHead c) (clIn (d + 1) c)) := rfl
  have hps : (clHead c).size ≤ 200 := by
    rw [HP.out, ByteArray.size_append]
    have : (preC c.ok).size ≤ 7 := by unfold preC; split <;> decide
    omega
  have CB := hide (fun W2 (hb : Below w0.heap.size w0 W2) => block_is WB.heap.size b x d (clHead c) (clIn (d + 1) c) W2 (clauseIn_is WB W2 b (d + 1) bc bw c _ _ _ ((hW.trans AW).trans (below_less hb (Nat.le_trans hBW (by have := HA.out.size; omega)))) h1 h2 h3 ht hp hm hq hn hs hsm hd ((hb.block bc (heap_lt HN2.out)).trans HN2.out) ((hb.block bw (heap_lt HN1.out)).trans HN1.out) hnc hnw) (HIS.out.below hb) (by omega) (by omega) (by omega) (Nat.le_trans hBW (Nat.le_trans (by have := HA.out.size; omega) hb.size)))
  have n1 := cell_of N2 1 rfl
  rw [← HE.out] at CB
  rw [HP.out] at CB
  have hBW0 : WB.heap.size ≤ w0.heap.size := Nat.le_trans hBW (by have := HA.out.size; omega)
  obtain ⟨LB, hLB⟩ : ∃ q, clauseB d c = q := ⟨_, rfl⟩
  rw [hLB] at CB
  have HLB := hide hLB
  clear hLB
  clear hW h1 h2 h3 ht hN hp hm hq hn hs hsm h hz HE hps HP A AW N1 N2 hlt
  generalize numT c.n = nt at *
  generalize c.n = cn at *
  generalize c.ok = ok at *
  cases ok
  · have HP : Hid (preC false = ⟨#[100, 101, 110, 121, 32]⟩) := rfl
    rw [HP.out] at CB
    clear HP
    have hov : ¬ 9223372036854775807 < 5 + nt.size := by omega
    go_upto_region 4 with fail
    clear n1
    have D := Below.drew (brefl w0)
    have HN1a := hide ((D.block bw (heap_lt HN1.out)).trans HN1.out)
    have HN2a := hide ((D.block bc (heap_lt HN2.out)).trans HN2.out)
    have HAa := hide D
    refine wp_region_held_drew (S := (fun w' => w'.cell? ⟨bw, 0, none⟩ = some (.pointer (some ⟨b, 0, none⟩)) ∧ w'.cell? ⟨bc, 0, none⟩ = some (.int .i64 cn))) (by kernel_rfl) (⟨cell_of HN1a.out 0 rfl, cell_of HN2a.out 0 rfl⟩) (fun hHeld => ?_)
    clear D
    obtain ⟨wa, hwa⟩ : ∃ wa, w0.drew = wa := ⟨_, rfl⟩
    rw [hwa] at HN1a HN2a HAa hHeld ⊢
    clear hwa
    refine wpAnyH_take (i := 0) (v := .pointer (some ⟨b, 0, none⟩)) rfl (by kernel_rfl) (by kernel_rfl) (by kernel_rfl) (fun _ _ _ h => h) (Or.inl ⟨by rfl, fun w hSw => by dsimp only at hSw; obtain ⟨s0, s1⟩ := hSw; go_simp⟩) hHeld ?_
    try simp only [Act.put, List.getElem_toArray, List.getElem_cons_zero, List.setIfInBounds_toArray, List.set_cons_zero, List.set_cons_succ]
    refine wpAnyH_take (i := 1) (v := .string ⟨#[100, 101, 110, 121, 32]⟩) rfl (by kernel_rfl) (by kernel_rfl) (by kernel_rfl) (fun _ _ _ h => h) (Or.inl ⟨by rfl, fun w hSw => by dsimp only at hSw; obtain ⟨s0, s1⟩ := hSw; go_simp⟩) hHeld ?_
    try simp only [Act.put, List.getElem_toArray, List.getElem_cons_zero, List.getElem_cons_succ, List.setIfInBounds_toArray, List.set_cons_zero, List.set_cons_succ]
    refine wpAnyH_take (i := 2) (v := .pointer (some ⟨bc, 0, none⟩)) rfl (by kernel_rfl) (by kernel_rfl) (by kernel_rfl) (fun _ _ _ h => h) (Or.inl ⟨by rfl, fun w hSw => by dsimp only at hSw; obtain ⟨s0, s1⟩ := hSw; go_simp⟩) hHeld ?_
    try simp only [Act.put, List.getElem_toArray, List.getElem_cons_zero, List.getElem_cons_succ, List.setIfInBounds_toArray, List.set_cons_zero, List.set_cons_succ]
    refine wpAnyH_take (i := 6) (v := .func (.func 200) #[] #[.pointer (some ⟨bw, 0, none⟩), .pointer (some ⟨bc, 0, none⟩)]) rfl (by kernel_rfl) (by kernel_rfl) (by kernel_rfl) (fun _ _ _ h => h) (Or.inl ⟨by rfl, fun w hSw => by dsimp only at hSw; obtain ⟨s0, s1⟩ := hSw; go_simp⟩) hHeld ?_
    try simp only [Act.put, List.getElem_toArray, List.getElem_cons_zero, List.getElem_cons_succ, List.setIfInBounds_toArray, List.set_cons_zero, List.set_cons_succ]
    refine wpAnyH_take (i := 3) (v := .int .i64 cn) rfl (by kernel_rfl) (by kernel_rfl) (by kernel_rfl) (fun _ _ _ h => h) (Or.inl ⟨by rfl, fun w hSw => by dsimp only at hSw; obtain ⟨s0, s1⟩ := hSw; go_simp⟩) hHeld ?_
    try simp only [Act.put, List.getElem_toArray, List.getElem_cons_zero, List.getElem_cons_succ, List.setIfInBounds_toArray, List.set_cons_zero, List.set_cons_succ]
    refine wpAnyH_ready (rs := [4]) (by kernel_rfl) (by simp) ?_
    refine AllReadyH.cons rfl (fun K hK => ?_) AllReadyH.nil
    go_simp
    go_wp2_with (refine (CI.out wa HAa.out).mono ?_; rintro e wb ⟨rfl, hb4⟩)
    have HN1b := hide ((hb4.block bw (heap_lt HN1a.out)).trans HN1a.out)
    have HN2b := hide ((hb4.block bc (heap_lt HN2a.out)).trans HN2a.out)
    have HAb := hide (bthen HAa.out hb4)
    clear hb4
    refine hK.out _ _ (⟨cell_of HN1b.out 0 rfl, cell_of HN2b.out 0 rfl⟩) (fun hHeld => ?_)
    clear hK K
    try simp only [Act.put, List.getElem_toArray, List.getElem_cons_zero, List.getElem_cons_succ, List.setIfInBounds_toArray, List.set_cons_zero, List.set_cons_succ]
    refine wpAnyH_ready (rs := [5]) (by kernel_rfl) (by simp) ?_
    refine AllReadyH.cons rfl (fun K hK => ?_) AllReadyH.nil
    go_simp
    refine hK.out _ _ (⟨cell_of HN1b.out 0 rfl, cell_of HN2b.out 0 rfl⟩) (fun hHeld => ?_)
    clear hK K
    try simp only [Act.put, List.getElem_toArray, List.getElem_cons_zero, List.getElem_cons_succ, List.setIfInBounds_toArray, List.set_cons_zero, List.set_cons_succ]
    have CS := hide (CB.out wb HAb.out)
    refine wpAnyH_ready (rs := [7]) (by kernel_rfl) (by simp) ?_
    refine AllReadyH.cons rfl (fun K hK => ?_) AllReadyH.nil
    go_simp
    go_wp2_with (refine CS.out.mono ?_; rintro e wd ⟨rfl, h6, hb6, hk6⟩)
    have HN1d := hide (hk6 _ _ _ _ HN1b.out (by decide) hnw)
    have HN2d := hide (hk6 _ _ _ _ HN2b.out (by decide) hnc)
    have ISd := hide h6
    have Bd := hide ((HAW.out.trans (below_less HAb.out hBW0)).trans hb6)
    have Kd := hide ((HK.out.below HAb.out).trans hk6)
    clear h6 hb6 hk6 CS
    refine hK.out _ _ (⟨cell_of HN1d.out 0 rfl, cell_of HN2d.out 0 rfl⟩) (fun hHeld => ?_)
    clear hK K
    try simp only [Act.put, List.getElem_toArray, List.getElem_cons_zero, List.getElem_cons_succ, List.setIfInBounds_toArray, List.set_cons_zero, List.set_cons_succ]
    refine wpAnyH_done (by kernel_rfl) ?_ _
    clear hHeld
    go_wp2_with fail
    go_end0
    exact ⟨rfl, by rw [HLB.out]; exact ISd.out, Bd.out, Kd.out⟩
  · have HP : Hid (preC true = ⟨#[112, 101, 114, 109, 105, 116, 32]⟩) := rfl
    rw [HP.out] at CB
    clear HP
    have hov : ¬ 9223372036854775807 < 7 + nt.size := by omega
    go_upto_region 4 with fail
    clear n1
    have D := Below.drew (brefl w0)
    have HN1a := hide ((D.block bw (heap_lt HN1.out)).trans HN1.out)
    have HN2a := hide ((D.block bc (heap_lt HN2.out)).trans HN2.out)
    have HAa := hide D
    refine wp_region_held_drew (S := (fun w' => w'.cell? ⟨bw, 0, none⟩ = some (.pointer (some ⟨b, 0, none⟩)) ∧ w'.cell? ⟨bc, 0, none⟩ = some (.int .i64 cn))) (by kernel_rfl) (⟨cell_of HN1a.out 0 rfl, cell_of HN2a.out 0 rfl⟩) (fun hHeld => ?_)
    clear D
    obtain ⟨wa, hwa⟩ : ∃ wa, w0.drew = wa := ⟨_, rfl⟩
    rw [hwa] at HN1a HN2a HAa hHeld ⊢
    clear hwa
    refine wpAnyH_take (i := 0) (v := .pointer (some ⟨b, 0, none⟩)) rfl (by kernel_rfl) (by kernel_rfl) (by kernel_rfl) (fun _ _ _ h => h) (Or.inl ⟨by rfl, fun w hSw => by dsimp only at hSw; obtain ⟨s0, s1⟩ := hSw; go_simp⟩) hHeld ?_
    try simp only [Act.put, List.getElem_toArray, List.getElem_cons_zero, List.setIfInBounds_toArray, List.set_cons_zero, List.set_cons_succ]
    refine wpAnyH_take (i := 1) (v := .string ⟨#[112, 101, 114, 109, 105, 116, 32]⟩) rfl (by kernel_rfl) (by kernel_rfl) (by kernel_rfl) (fun _ _ _ h => h) (Or.inl ⟨by rfl, fun w hSw => by dsimp only at hSw; obtain ⟨s0, s1⟩ := hSw; go_simp⟩) hHeld ?_
    try simp only [Act.put, List.getElem_toArray, List.getElem_cons_zero, List.getElem_cons_succ, List.setIfInBounds_toArray, List.set_cons_zero, List.set_cons_succ]
    refine wpAnyH_take (i := 2) (v := .pointer (some ⟨bc, 0, none⟩)) rfl (by kernel_rfl) (by kernel_rfl) (by kernel_rfl) (fun _ _ _ h => h) (Or.inl ⟨by rfl, fun w hSw => by dsimp only at hSw; obtain ⟨s0, s1⟩ := hSw; go_simp⟩) hHeld ?_
    try simp only [Act.put, List.getElem_toArray, List.getElem_cons_zero, List.getElem_cons_succ, List.setIfInBounds_toArray, List.set_cons_zero, List.set_cons_succ]
    refine wpAnyH_take (i := 6) (v := .func (.func 200) #[] #[.pointer (some ⟨bw, 0, none⟩), .pointer (some ⟨bc, 0, none⟩)]) rfl (by kernel_rfl) (by kernel_rfl) (by kernel_rfl) (fun _ _ _ h => h) (Or.inl ⟨by rfl, fun w hSw => by dsimp only at hSw; obtain ⟨s0, s1⟩ := hSw; go_simp⟩) hHeld ?_
    try simp only [Act.put, List.getElem_toArray, List.getElem_cons_zero, List.getElem_cons_succ, List.setIfInBounds_toArray, List.set_cons_zero, List.set_cons_succ]
    refine wpAnyH_take (i := 3) (v := .int .i64 cn) rfl (by kernel_rfl) (by kernel_rfl) (by kernel_rfl) (fun _ _ _ h => h) (Or.inl ⟨by rfl, fun w hSw => by dsimp only at hSw; obtain ⟨s0, s1⟩ := hSw; go_simp⟩) hHeld ?_
    try simp only [Act.put, List.getElem_toArray, List.getElem_cons_zero, List.getElem_cons_succ, List.setIfInBounds_toArray, List.set_cons_zero, List.set_cons_succ]
    refine wpAnyH_ready (rs := [4]) (by kernel_rfl) (by simp) ?_
    refine AllReadyH.cons rfl (fun K hK => ?_) AllReadyH.nil
    go_simp
    go_wp2_with (refine (CI.out wa HAa.out).mono ?_; rintro e wb ⟨rfl, hb4⟩)
    have HN1b := hide ((hb4.block bw (heap_lt HN1a.out)).trans HN1a.out)
    have HN2b := hide ((hb4.block bc (heap_lt HN2a.out)).trans HN2a.out)
    have HAb := hide (bthen HAa.out hb4)
    clear hb4
    refine hK.out _ _ (⟨cell_of HN1b.out 0 rfl, cell_of HN2b.out 0 rfl⟩) (fun hHeld => ?_)
    clear hK K
    try simp only [Act.put, List.getElem_toArray, List.getElem_cons_zero, List.getElem_cons_succ, List.setIfInBounds_toArray, List.set_cons_zero, List.set_cons_succ]
    refine wpAnyH_ready (rs := [5]) (by kernel_rfl) (by simp) ?_
    refine AllReadyH.cons rfl (fun K hK => ?_) AllReadyH.nil
    go_simp
    refine hK.out _ _ (⟨cell_of HN1b.out 0 rfl, cell_of HN2b.out 0 rfl⟩) (fun hHeld => ?_)
    clear hK K
    try simp only [Act.put, List.getElem_toArray, List.getElem_cons_zero, List.getElem_cons_succ, List.setIfInBounds_toArray, List.set_cons_zero, List.set_cons_succ]
    have CS := hide (CB.out wb HAb.out)
    refine wpAnyH_ready (rs := [7]) (by kernel_rfl) (by simp) ?_
    refine AllReadyH.cons rfl (fun K hK => ?_) AllReadyH.nil
    go_simp
    go_wp2_with (refine CS.out.mono ?_; rintro e wd ⟨rfl, h6, hb6, hk6⟩)
    have HN1d := hide (hk6 _ _ _ _ HN1b.out (by decide) hnw)
    have HN2d := hide (hk6 _ _ _ _ HN2b.out (by decide) hnc)
    have ISd := hide h6
    have Bd := hide ((HAW.out.trans (below_less HAb.out hBW0)).trans hb6)
    have Kd := hide ((HK.out.below HAb.out).trans hk6)
    clear h6 hb6 hk6 CS
    refine hK.out _ _ (⟨cell_of HN1d.out 0 rfl, cell_of HN2d.out 0 rfl⟩) (fun hHeld => ?_)
    clear hK K
    try simp only [Act.put, List.getElem_toArray, List.getElem_cons_zero, List.getElem_cons_succ, List.setIfInBounds_toArray, List.set_cons_zero, List.set_cons_succ]
    refine wpAnyH_done (by kernel_rfl) ?_ _
    clear hHeld
    go_wp2_with fail
    go_end0
    exact ⟨rfl, by rw [HLB.out]; exact ISd.out, Bd.out, Kd.out⟩
end Go.Proofs.YtpmmhmgojjlniaaGreatDoor
