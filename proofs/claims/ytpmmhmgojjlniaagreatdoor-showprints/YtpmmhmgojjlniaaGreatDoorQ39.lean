/- show's writer: routeMap's inner function. -/
import Derived.Test.YtpmmhmgojjlniaaGreatDoorQ37
import Derived.Test.YtpmmhmgojjlniaaGreatDoorQ38
namespace Go.Proofs.YtpmmhmgojjlniaaGreatDoor
open Go.RowKit Go.Sort
/-- Clauses as they are written. -/
def clausesB (d : Nat) (l : List Cl) : List UInt8 := l.flatMap (clauseB d)
/-- What the writer asks of a clause. -/
structure ClW (c : Cl) : Prop where
  n : -1 ≤ c.n ∧ c.n ≤ 1048576
  pref : -1 ≤ c.s.pref ∧ c.s.pref ≤ 1048576
  med : -1 ≤ c.s.med ∧ c.s.med ≤ 1048576
  prep : ∀ n ∈ c.s.prep, -1 ≤ n ∧ n ≤ 1048576
  lens : c.s.add.length ≤ 900 ∧ c.s.del.length ≤ 900 ∧ c.s.prep.length ≤ 900
  set : SetSz c.s
  mat : MatchSz c.m
  num : (numT c.n).size ≤ 100
set_option maxHeartbeats 8000000 in
set_option maxRecDepth 100000 in
theorem mapIn_is (WB W0 : World) (b d bm bw : Nat) (name : ByteArray) (v : Value) (l : List Cl) (hW0 : Below WB.heap.size WB W0) (hl : Rd WB 13 ClR v l) (ht : Tab WB) (hc : ∀ c ∈ l, ClW c) (hn : l.length ≤ 1000) (hd : d + 1 ≤ 10)
    (hbm : W0.heap[bm]? = some (.cells #[.string name, v] 51 (0, 0))) (hbw : W0.heap[bw]? = some (.cells #[.pointer (some ⟨b, 0, none⟩)] 119 (0, 0))) (hnm : bm ≠ b) (hnw : bw ≠ b) :
    FnDoes W0 133 #[.pointer (some ⟨bm, 0, none⟩), .pointer (some ⟨bw, 0, none⟩)] WB.heap.size b d (clausesB d l) 3000 where
  enter := fun args w => by go_simp
  ok := fun W x hW hK hwr hz => by
    obtain ⟨o, c, rfl⟩ := hl.slice
    have hB0 := hide (hW0.trans hW)
    have HL := hide (hK _ _ _ _ hbm (by decide) hnm)
    have HW := hide (hK _ _ _ _ hbw (by decide) hnw)
    have HRD := hide hl
    have HT := hide ht
    have HC := hide hc
    have HX := hide hwr
    have hBW : WB.heap.size ≤ W.heap.size := Nat.le_trans hW0.size hW.size
    have hz2 : x.length + (clausesB d l).length + 3000 ≤ 100000000 := hz
    clear hl hbm hbw hK hW hW0 ht hc hwr hz
    have n1 := cell_of HL.out 1 rfl
    go_enter Tryz.func133, Tryz.ntmps133
    go_wp2_with fail
    clear n1
    go_loopw [7] (fun v7 wr => ∃ k : Nat, v7 = .int .i64 k ∧ k ≤ l.length ∧ Hid (IsWr WB.heap.size b (Lib.byteCells (x ++ clausesB d (l.take k))) d wr) ∧ Hid (Below WB.heap.size W wr) ∧ Hid (KeptB b W wr)) (fun v7 _ => l.length - (intOf v7).toNat)
    case atStart => exact ⟨0, rfl, Nat.zero_le _, by show IsWr _ _ _ _ _; rw [show clausesB d (l.take 0) = [] from rfl, List.append_nil]; exact HX.out, Below.refl _ W, KeptB.refl b W⟩
    case round =>
      obtain ⟨k, rfl, hk, HIS, HBR, HK⟩ := hrel
      by_cases hkl : k < l.length
      · have hkl' : (k : Int) < (l.length : Int) := by omega
        obtain ⟨b2, off, xs, rfl, hbx, hx, ha0⟩ := HRD.out.at_ hkl
        have hBk := hB0.out.trans HBR.out
        have hbx2 : b2 < wr.heap.size := Nat.lt_of_lt_of_le hbx hBk.size
        have ha : ∀ i u, xs[i]? = some u → wr.cell? ⟨b2, off + k * 13 + i, none⟩ = some u := fun i u hu => (hBk.cell (p := ⟨b2, off + k * 13 + i, none⟩) hbx).trans (ha0 i u hu)
        have hcw := HC.out l[k] (List.getElem_mem hkl)
        have HN := hide (show clausesB d (l.take (k + 1)) = clausesB d (l.take k) ++ clauseB d l[k] from flat_snoc _ _ _ hkl)
        have hlen : (clausesB d (l.take k)).length + (clauseB d l[k]).length ≤ (clausesB d l).length := by rw [← List.length_append, ← HN.out]; exact flat_take _ _ _
        have hbl : (clIn (d + 1) l[k]).length ≤ (clauseB d l[k]).length := by unfold clauseB; rw [blockB_len]; omega
        obtain ⟨va, vd, vp, hxe, r1, r2, r3⟩ := hx
        have HCL : Hid (∀ W2, Below wr.heap.size wr W2 → IsWr WB.heap.size b (Lib.byteCells (x ++ clausesB d (l.take k))) d W2 → Calls Tryz.prog 134 #[.pointer (some ⟨b, 0, none⟩), clV l[k] va vd vp] W2 fun e w' => e = .returned (.tuple #[]) ∧ IsWr WB.heap.size b (Lib.byteCells (x ++ clausesB d (l.take k) ++ clauseB d l[k])) d w' ∧ Below WB.heap.size W2 w' ∧ KeptB b W2 w') := fun W2 h2 hI => clause_is WB W2 b d _ l[k] va vd vp (hBk.trans (below_less h2 hBk.size)) r1 r2 r3 HT.out hcw.n hcw.pref hcw.med hcw.prep hcw.lens hcw.set hcw.mat hcw.num hd hI (by rw [List.length_append]; omega)
        generalize clauseB d l[k] = RB at *
        generalize l[k] = q at *
        subst hxe
        obtain ⟨oa, ka, rfl⟩ := r1.slice
        obtain ⟨od, kd, rfl⟩ := r2.slice
        obtain ⟨op, kp, rfl⟩ := r3.slice
        unfold clV at HCL
        have e0 := ha 0 _ rfl
        have e1 := ha 1 _ rfl
        have e2 := ha 2 _ rfl
        have e3 := ha 3 _ rfl
        have e4 := ha 4 _ rfl
        have e5 := ha 5 _ rfl
        have e6 := ha 6 _ rfl
        have e7 := ha 7 _ rfl
        have e8 := ha 8 _ rfl
        have e9 := ha 9 _ rfl
        have e10 := ha 10 _ rfl
        have e11 := ha 11 _ rfl
        have e12 := ha 12 _ rfl
        simp only [Nat.add_zero] at e0
        clear ha ha0 r1 r2 r3 hcw hbx hBk hlen hbl
        have A2 := balloc (brefl wr) (.cells #[.int .i64 q.n, .bool q.ok, .string q.m.list, .string q.m.path, .int .i64 q.m.ca, .int .i64 q.m.cn, .int .i64 q.s.pref, .int .i64 q.s.med, .int .i64 q.s.org, .slice oa q.s.add.length ka, .slice od q.s.del.length kd, .bool q.s.clr, .slice op q.s.prep.length kp] 61)
        have N2 := hide (heap_new wr #[.int .i64 q.n, .bool q.ok, .string q.m.list, .string q.m.path, .int .i64 q.m.ca, .int .i64 q.m.cn, .int .i64 q.s.pref, .int .i64 q.s.med, .int .i64 q.s.org, .slice oa q.s.add.length ka, .slice od q.s.del.length kd, .bool q.s.clr, .slice op q.s.prep.length kp] 61)
        have HWr := hide (HK.out _ _ _ _ HW.out (by decide) hnw)
        have HW2 := hide ((A2.block bw (heap_lt HWr.out)).trans HWr.out)
        have HIS2 := hide (HIS.out.below A2)
        have HA2 := hide A2
        have CS := hide (HCL.out _ A2 HIS2.out)
        clear A2 HCL
        go_upto_region 3 with fail
        clear e0 e1 e2 e3 e4 e5 e6 e7 e8 e9 e10 e11 e12
        obtain ⟨bx, hbx2⟩ : ∃ y, wr.heap.size = y := ⟨_, rfl⟩
        rw [hbx2] at N2 ⊢
        generalize wr.alloc (.cells #[.int .i64 q.n, .bool q.ok, .string q.m.list, .string q.m.path, .int .i64 q.m.ca, .int .i64 q.m.cn, .int .i64 q.s.pref, .int .i64 q.s.med, .int .i64 q.s.org, .slice oa q.s.add.length ka, .slice od q.s.del.length kd, .bool q.s.clr, .slice op q.s.prep.length kp] 61) = w3 at *
        have m0 := cell_of HW2.out 0 rfl
        have n0 := cell_of N2.out 0 rfl
        have n1 := cell_of N2.out 1 rfl
        have n2 := cell_of N2.out 2 rfl
        have n3 := cell_of N2.out 3 rfl
        have n4 := cell_of N2.out 4 rfl
        have n5 := cell_of N2.out 5 rfl
        have n6 := cell_of N2.out 6 rfl
        have n7 := cell_of N2.out 7 rfl
        have n8 := cell_of N2.out 8 rfl
        have n9 := cell_of N2.out 9 rfl
        have n10 := cell_of N2.out 10 rfl
        have n11 := cell_of N2.out 11 rfl
        have n12 := cell_of N2.out 12 rfl
        go_wp2_with fail
        refine CS.out.mono ?_
        rintro e w6 ⟨rfl, h6, hb6, hk6⟩
        have W6 : Hid (IsWr WB.heap.size b (Lib.byteCells (x ++ clausesB d (l.take (k + 1)))) d w6) := by
          show IsWr _ _ _ _ _
          rw [HN.out, ← List.append_assoc]
          exact h6
        have B6 := hide ((HBR.out.trans (below_less HA2.out (Nat.le_trans hBW HBR.out.size))).trans hb6)
        have K6 := hide ((HK.out.below HA2.out).trans hk6)
        clear h6 hb6 hk6 CS m0 n0 n1 n2 n3 n4 n5 n6 n7 n8 n9 n10 n11 n12
        go_wp2_with fail
        exact ⟨⟨k + 1, by go_num, by omega, W6, B6, K6⟩, by simp [intOf] <;> omega⟩
      · have hkl' : ¬ (k : Int) < (l.length : Int) := by omega
        obtain rfl : k = l.length := by omega
        rw [List.take_length] at HIS
        go_wp2_with fail
        go_end0
        exact ⟨rfl, HIS.out, HBR.out, HK.out⟩
def mapT (name : ByteArray) : ByteArray := ⟨#[114, 111, 117, 116, 101, 45, 109, 97, 112, 32]⟩ ++ name
/-- A route map as it is written. -/
def mapB (d : Nat) (m : Mp) : List UInt8 := blockB d (mapT m.name) (clausesB (d + 1) m.cls)
set_option maxHeartbeats 4000000 in
set_option maxRecDepth 100000 in
theorem routeMap_is (WB w : World) (b d : Nat) (x : List UInt8) (a : Mp) (v : Value) (hW : Below WB.heap.size WB w) (hl : Rd WB 13 ClR v a.cls) (ht : Tab WB) (hc : ∀ c ∈ a.cls, ClW c) (hn : a.cls.length ≤ 1000) (hd : d + 2 ≤ 10) (hnm : a.name.size ≤ 400)
    (h : IsWr WB.heap.size b (Lib.byteCells x) d w) (hz : x.length + (clausesB (d + 1) a.cls).length + 4000 ≤ 100000000) :
    Calls Tryz.prog 58 #[.pointer (some ⟨b, 0, none⟩), .agg #[.string a.name, v]] w fun e w' => e = .returned (.tuple #[]) ∧ IsWr WB.heap.size b (Lib.byteCells (x ++ mapB d a)) d w' ∧ Below WB.heap.size w w' ∧ KeptB b w w' := by
  obtain ⟨o, c, rfl⟩ := hl.slice
  have hlt := h.depth.2.2.1
  have A1 := balloc (brefl w) (.cells #[.pointer (some ⟨b, 0, none⟩)] 119)
  have A2 := balloc (brefl (w.alloc (.cells #[.pointer (some ⟨b, 0, none⟩)] 119))) (.cells #[.string a.name, .slice o a.cls.length c] 51)
  have A := bthen A1 A2
  have N1 := (A2.block w.heap.size (by rw [size_alloc]; omega)).trans (heap_new w #[.pointer (some ⟨b, 0, none⟩)] 119)
  have N2 := heap_new (w.alloc (.cells #[.pointer (some ⟨b, 0, none⟩)] 119)) #[.string a.name, .slice o a.cls.length c] 51
  rw [size_alloc] at N2
  have HF := mapIn_is WB ((w.alloc (.cells #[.pointer (some ⟨b, 0, none⟩)] 119)).alloc (.cells #[.string a.name, .slice o a.cls.length c] 51)) b (d + 1) (w.heap.size + 1) w.heap.size a.name _ a.cls (hW.trans (below_less A hW.size)) hl ht hc hn hd N2 N1 (by omega) (by omega)
  have hpn : (mapT a.name).size = 10 + a.name.size := by unfold mapT; rw [ByteArray.size_append]; rfl
  have CB := hide (block_is WB.heap.size b x d (mapT a.name) (clausesB (d + 1) a.cls) _ HF (h.below A) (by omega) (by omega) (by omega) (Nat.le_trans hW.size A.size))
  have HA := hide (below_less A hW.size)
  have HK := hide ((KeptB.refl b w).below A)
  have HE : Hid (mapB d a = blockB d (mapT a.name) (clausesB (d + 1) a.cls)) := rfl
  have HP : Hid (mapT a.name = ⟨#[114, 111, 117, 116, 101, 45, 109, 97, 112, 32]⟩ ++ a.name) := rfl
  have m0 := cell_of N1 0 rfl
  have n0 := cell_of N2 0 rfl
  have hov : ¬ 9223372036854775807 < 10 + a.name.size := by omega
  rw [← HE.out] at CB
  rw [HP.out] at CB
  generalize mapB d a = LB at *
  clear HF h hW hl ht hc hn A1 A2 A N1 N2 HE HP
  generalize a.cls.length = n at *
  generalize a.name = nm at *
  go_enter Tryz.func58, Tryz.ntmps58
  go_wp2_with fail
  refine CB.out.mono ?_
  rintro e w2 ⟨rfl, h2, hb2, hk2⟩
  have B2 := hide (HA.out.trans hb2)
  have K2 := hide (HK.out.trans hk2)
  have W2 := hide h2
  clear h2 hb2 hk2 CB
  go_wp2_with fail
  go_end0
  exact ⟨rfl, W2.out, B2.out, K2.out⟩
end Go.Proofs.YtpmmhmgojjlniaaGreatDoor
