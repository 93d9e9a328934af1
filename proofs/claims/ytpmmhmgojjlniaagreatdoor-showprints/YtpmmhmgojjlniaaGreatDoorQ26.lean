/- The document's choice: the walk. -/
import Derived.Test.YtpmmhmgojjlniaaGreatDoorQ25
import Derived.Deep.DeepCutAuto
import Derived.Deep.CutBlock
namespace Go.Proofs.YtpmmhmgojjlniaaGreatDoor.Ar
open Go.RowKit Go.Sort
/-- Whether an item begins there. -/
def begins (r : Bs) : Bool := match Px.skip r with | [] => false | c :: _ => Px.starts c
def OutRel (s : ByteArray) (W : World) (d : Nat) (R : Except Int (List (List Nd) × Bs)) (at_ : Nat) (wr : World) : Prop :=
  ∃ (f : Nat) (r : Bs) (acc : List (List Nd)) (vC : Value), Pos s at_ r ∧ R = Px.rows (Px.choice d) f acc r ∧ r.length < f ∧ acc.length ≤ at_ ∧ Out6 W vC wr ∧ KidsT (W.heap.size + 2) wr (Nd.trRows acc) vC
def InRel (s : ByteArray) (w0 : World) (d : Nat) (R : Except Int (List Nd × Bs)) (at_ : Nat) (wr : World) : Prop :=
  ∃ (f : Nat) (r : Bs) (acc : List Nd) (vR : Value), Pos s at_ r ∧ R = Px.row (Px.choice d) f acc r ∧ r.length < f ∧ acc.length ≤ at_ ∧ In6 w0 vR wr ∧ KidsT (w0.heap.size + 1) wr (Nd.trRow acc) vR

theorem begins_yes {r : Bs} (h : begins r = true) : ∃ c t, Px.skip r = c :: t ∧ Px.starts c = true := by
  unfold begins at h
  split at h
  · cases h
  · rename_i c t hk
    exact ⟨c, t, hk, h⟩
theorem begins_no {r : Bs} (h : begins r = false) : ∀ c t, Px.skip r = c :: t → Px.starts c = false := by
  intro c t hk
  unfold begins at h
  rw [hk] at h
  exact h
def rowsR (ch : Rdr) (f : Nat) (acc : List (List Nd)) (X : Except Int (List Nd × Bs)) : Except Int (List (List Nd) × Bs) := match X with | .error e => .error e | .ok (row, k) => if Px.isAt k 124 = true then Px.rows ch f (acc ++ [row]) (Px.next k) else .ok (acc ++ [row], k)
theorem rows_step (ch : Rdr) (f : Nat) (acc : List (List Nd)) (r : Bs) : Px.rows ch (f + 1) acc r = rowsR ch f acc (Px.row ch (r.length + 1) [] r) := rfl

theorem atom_ne {d : Nat} {r : Bs} {q : Int} (h : Px.atom (Px.choice d) r = .error q) : q ≠ 0 := atom_err (fun r q h => choice_err d r q h) h

/-- An item that was read lies, its six cells in block N. -/
def ItOk (s : ByteArray) (wr : World) (N : Nat) (it : Nd) (k : Bs) (j : Nat) (y0 y1 y2 y3 y4 y5 : Value) (wx : World) : Prop :=
  Pos s j k ∧ Box wx N y0 y1 y2 y3 y4 y5 ∧ Below wr.heap.size wr wx ∧ wr.heap.size ≤ N ∧ N < wx.heap.size ∧ ∃ S : Nat → Prop, OwnT S wx (Nd.tr it) [y0, y1, y2, y3, y4, y5] ∧ ∀ k, S k → wr.heap.size ≤ k
theorem it_plain {s : ByteArray} {wr w1 : World} {nn : Nd} {k : Bs} {j : Nat} {x0 x1 x2 x3 x4 x5 : Value} (hj : Pos s j k) (hb : Below wr.heap.size wr w1) (ht : Tr.Own wr.heap.size w1 (Nd.tr nn) [x0, x1, x2, x3, x4, x5]) :
    ItOk s wr w1.heap.size nn k j x0 x1 x2 x3 x4 x5 (w1.alloc (.cells #[x0, x1, x2, x3, x4, x5] 200)) :=
  ⟨hj, box_new w1 _ _ _ _ _ _ 200, balloc hb _, hb.size, by rw [size_alloc]; exact Nat.lt_succ_self _, From wr.heap.size w1, (OwnT.of ht).keep (by rw [size_alloc]; omega) (fun k hk => heap_alloc_lt _ _ k hk.2), fun k hk => hk.1⟩
theorem it_hit {s : ByteArray} {wr w1 : World} {nn : Nd} {k : Bs} {j kd : Nat} {x0 x1 x2 x3 x4 x5 : Value} (hj : Pos s j k) (hb : Below wr.heap.size wr w1) (ht : Tr.Own wr.heap.size w1 (Nd.tr nn) [x0, x1, x2, x3, x4, x5]) :
    ItOk s wr w1.heap.size (.st kd nn) k j (.int .i64 (kd : Int)) (.bool false) (.bool false) (.slice none 0 0) (.slice none 0 0) (.slice (some ⟨w1.heap.size + 1, 0, none⟩) 1 1) ((w1.alloc (.cells #[.int .i64 (kd : Int), .bool false, .bool false, .slice none 0 0, .slice none 0 0, .slice (some ⟨w1.heap.size + 1, 0, none⟩) 1 1] 200)).alloc (.cells #[x0, x1, x2, x3, x4, x5] 200)) := by
  have hs := hb.size
  refine ⟨hj, box_below (box_new w1 _ _ _ _ _ _ 200) (balloc (brefl _) _), balloc (balloc hb _) _, hb.size, by simp only [size_alloc]; omega, fun i => From wr.heap.size w1 i ∨ i = w1.heap.size + 1, ?_, ?_⟩
  · refine sign_ownT (t := 200) (OwnT.of ht) (by simp only [size_alloc]; omega) (fun i hi => ?_) ?_
    · have := hi.2
      rw [heap_alloc_lt _ _ i (by rw [size_alloc]; omega), heap_alloc_lt _ _ i hi.2]
    · have h := heap_alloc_new (w1.alloc (.cells #[.int .i64 (kd : Int), .bool false, .bool false, .slice none 0 0, .slice none 0 0, .slice (some ⟨w1.heap.size + 1, 0, none⟩) 1 1] 200)) (.cells #[x0, x1, x2, x3, x4, x5] 200)
      rw [size_alloc] at h
      exact h
  · rintro i (hi | rfl)
    · exact hi.1
    · omega
def itemOf (nn : Nd) (k : Bs) : Nd := if Px.sign k = 0 then nn else .st (Px.sign k) nn
def restOf (k : Bs) : Bs := if Px.sign k = 0 then k else Px.next k
theorem restOf_len (k : Bs) : (restOf k).length ≤ k.length := by
  unfold restOf
  split
  · exact Nat.le_refl _
  · rename_i h
    exact Nat.le_of_lt (sign_next h)
theorem row_item2 {ch : Rdr} {f : Nat} {acc : List Nd} {r : Bs} {n : Nd} {k : Bs} (h : Px.row ch (f + 1) acc r = (match (Except.ok (n, k) : Except Int (Nd × Bs)) with | .error e => .error e | .ok (n, k) => if Px.sign k = 0 then Px.row ch f (acc ++ [n]) k else Px.row ch f (acc ++ [.st (Px.sign k) n]) (Px.next k))) : Px.row ch (f + 1) acc r = Px.row ch f (acc ++ [itemOf n k]) (restOf k) := by
  rw [h]
  simp only
  unfold itemOf restOf
  by_cases hs : Px.sign k = 0
  · simp only [hs, if_true]
  · simp only [hs, if_false]

set_option maxHeartbeats 3200000 in
set_option maxRecDepth 100000 in
theorem refChoice_walk (s : ByteArray) (hs : s.size ≤ 64) (d D n : Nat) (hD : D ≤ 8) (r0 : Bs) (hp : Pos s n r0) (hA : ∀ (n : Nat) (r : Bs), Pos s n r → ∀ W, Calls Tryz.prog 258 #[.string s, .int .i64 n, .int .i64 D] W (NodeGood s W (Px.atom (Px.choice d) r))) (R : Except Int (List (List Nd) × Bs)) (hR : R = Px.rows (Px.choice d) (r0.length + 1) [] r0) (W : World) :
    Calls Tryz.prog 208 #[.string s, .int .i64 n, .int .i64 D] W (NodeGood s W (chR R)) := by
  have HA := hide hA
  have HS : Hid (OutRel s W d R n ((W.alloc zNode).alloc cNode)) := ⟨_, r0, [], _, hp, hR, Nat.lt_succ_self _, Nat.zero_le _, out6_start W, KidsT.nil _ _⟩
  have hD3 : ¬ (8 : Int) < (D : Int) := by omega
  have hn := hp.2
  clear hA hp hR
  go_enter Tryz.func208, Tryz.ntmps208
  go_wp2_with fail
  generalize (W.alloc zNode).alloc cNode = W1 at *
  go_loopw [1, 10, 11, 12, 13, 14] (fun v1 _ _ _ _ _ wr => ∃ at_ : Nat, v1 = .int .i64 at_ ∧ at_ ≤ s.size ∧ Hid (OutRel s W d R at_ wr)) (fun v1 _ _ _ _ _ _ => s.size - (intOf v1).toNat)
  case atStart => exact ⟨n, rfl, hn, HS⟩
  case round =>
    obtain ⟨at_, rfl, hat, hrel⟩ := hrel
    obtain ⟨w0, hw0⟩ : ∃ w0, wr = w0 := ⟨_, rfl⟩
    subst wr
    obtain ⟨f, r, acc, vC, hp, hR, hf, hac, hO, hK⟩ := hrel.out
    obtain ⟨f, rfl⟩ : ∃ g, f = g + 1 := ⟨f - 1, by omega⟩
    obtain ⟨ROW, hROW⟩ : ∃ ROW, ROW = Px.row (Px.choice d) (r.length + 1) [] r := ⟨_, rfl⟩
    have HO := hide hO
    have HK := hide hK
    have HIN : Hid (InRel s w0 d ROW at_ (w0.alloc rNode)) := ⟨_, r, [], _, hp, hROW, Nat.lt_succ_self _, Nat.zero_le _, in6_start w0, KidsT.nil _ _⟩
    have HX : Hid (R = rowsR (Px.choice d) f acc ROW) := by show _ = _; rw [hR, rows_step, hROW]
    have HL : Hid (r.length < f + 1 ∧ acc.length ≤ at_ ∧ at_ + r.length = s.size) := ⟨hf, hac, hp.len⟩
    clear hp hR hf hac hO hK hrel hROW
    go_wp2_with fail
    generalize hw1 : w0.alloc rNode = w1 at *
    go_loopw [1, 11, 12, 13, 14] (fun v1 _ _ _ _ wq => ∃ an : Nat, v1 = .int .i64 an ∧ at_ ≤ an ∧ an ≤ s.size ∧ Hid (InRel s w0 d ROW an wq)) (fun v1 _ _ _ _ _ => s.size - (intOf v1).toNat)
    case atStart => exact ⟨at_, rfl, Nat.le_refl _, hat, HIN⟩
    case round =>
      obtain ⟨an, rfl, han, hans, hrel⟩ := hrel
      obtain ⟨fi, q, row, vR, hp, hR, hf, hac, hI, hK⟩ := hrel.out
      obtain ⟨fi, rfl⟩ : ∃ g, fi = g + 1 := ⟨fi - 1, by omega⟩
      have HI := hide hI
      have HKI := hide hK
      obtain ⟨m, hm⟩ : ∃ m, Pos s m (Px.skip q) := ⟨_, hp.skip⟩
      have CS := hide (fun w => skip_is s (by omega) an q hp m hm w)
      have hms := hm.2
      have HM := hide hm
      have HP := hide hp
      have HRI := hide hR
      have HLI : Hid (q.length < fi + 1 ∧ row.length ≤ an ∧ an + q.length = s.size) := ⟨hf, hac, hp.len⟩
      clear hp hR hf hac hI hK hrel hm
      go_wp2_with fail
      refine (CS.out _).mono ?_
      rintro e w2 ⟨rfl, hw⟩
      subst w2
      go_upto_region 6 with fail
      go_cut [57] (fun v57 wx => v57 = .bool (!begins q) ∧ wx = wr)
      case first =>
        cases hq : Px.skip q with
        | nil =>
          have hbeg : begins q = false := by unfold begins; rw [hq]
          have hm := HM.out
          rw [hq] at hm
          have hmm : m = s.size := hm.nil
          have hb : ((m : Int) == (s.size : Int)) = true := by rw [hmm]; simp
          clear hmm hm hq
          go_wp2_with fail
          go_meet
          exact ⟨by rw [hbeg]; rfl, rfl⟩
        | cons c t =>
          have hm := HM.out
          rw [hq] at hm
          obtain ⟨hlt, hc, _⟩ := hm.cons
          have hlt' : (m : Int) < (s.size : Int) := by omega
          have hb : ((m : Int) == (s.size : Int)) = false := by simp; omega
          have hbeg : begins q = Px.starts c := by unfold begins; rw [hq]
          have key : ∀ k : UInt8, ((s[m].toNat : Int) == (k.toNat : Int)) = (c == k) := by
            intro k
            rw [hc, Bool.eq_iff_iff]
            simp only [beq_iff_eq]
            constructor
            · intro e
              exact UInt8.toNat_inj.1 (by omega)
            · intro e
              rw [e]
          by_cases h46 : c = 46
          · have k1 : ((s[m].toNat : Int) != 46) = false := (congrArg (!·) ((key 46).trans (by simp [h46] : (c == 46) = true)))
            rw [h46] at hbeg
            clear key hc hm hq h46
            go_wp2_with fail
            go_meet
            exact ⟨by rw [hbeg]; rfl, rfl⟩
          have k1 : ((s[m].toNat : Int) != 46) = true := (congrArg (!·) ((key 46).trans (by simp [h46] : (c == 46) = false)))
          by_cases h91 : c = 91
          · have k2 : ((s[m].toNat : Int) != 91) = false := (congrArg (!·) ((key 91).trans (by simp [h91] : (c == 91) = true)))
            rw [h91] at hbeg
            clear key hc hm hq h46 h91
            go_wp2_with fail
            go_meet
            exact ⟨by rw [hbeg]; rfl, rfl⟩
          have k2 : ((s[m].toNat : Int) != 91) = true := (congrArg (!·) ((key 91).trans (by simp [h91] : (c == 91) = false)))
          by_cases h40 : c = 40
          · have k3 : ((s[m].toNat : Int) != 40) = false := (congrArg (!·) ((key 40).trans (by simp [h40] : (c == 40) = true)))
            rw [h40] at hbeg
            clear key hc hm hq h46 h91 h40
            go_wp2_with fail
            go_meet
            exact ⟨by rw [hbeg]; rfl, rfl⟩
          have k3 : ((s[m].toNat : Int) != 40) = true := (congrArg (!·) ((key 40).trans (by simp [h40] : (c == 40) = false)))
          have hbeg2 : begins q = Ad.dig c := by
            rw [hbeg]
            unfold Px.starts
            simp [h46, h91, h40]
          have hdig : Ad.dig c = (decide (48 ≤ c.toNat) && decide (c.toNat ≤ 57)) := by
            unfold Ad.dig
            simp
          by_cases h48 : (s[m].toNat : Int) < 48
          · have hb2 : begins q = false := by
              rw [hbeg2, hdig, ← hc]
              simp
              omega
            clear key hc hm hq h46 h91 h40 hbeg hbeg2 hdig
            go_wp2_with fail
            go_meet
            exact ⟨by rw [hb2]; rfl, rfl⟩
          by_cases h57 : (57 : Int) < (s[m].toNat : Int)
          · have hb2 : begins q = false := by
              rw [hbeg2, hdig, ← hc]
              simp
              omega
            clear key hc hm hq h46 h91 h40 hbeg hbeg2 hdig
            go_wp2_with fail
            go_meet
            exact ⟨by rw [hb2]; rfl, rfl⟩
          have hb2 : begins q = true := by
            rw [hbeg2, hdig, ← hc]
            simp
            omega
          clear key hc hm hq h46 h91 h40 hbeg hbeg2 hdig
          go_wp2_with fail
          go_meet
          exact ⟨by rw [hb2]; rfl, rfl⟩
      case rest =>
        obtain ⟨rfl, hwc⟩ := hcut
        subst wc
        have HOr := hide (HO.out.step HI.out.bel)
        have HKr := hide (HK.out.below HI.out.bel)
        have hIs := HI.out.sz
        have hOs := HO.out.sz
        obtain ⟨xs0, hxs0, hvC, co, cc, hvCe⟩ := HK.out.row
        obtain ⟨xr0, hxr0, hvR, ro, rc, hvRe⟩ := HKI.out.row
        rw [Nd.trRows_length] at hvCe
        rw [Nd.trRow_length] at hvRe
        clear hxs0 hxr0
        cases hbeg : begins q with
        | false =>
          have HW : Hid (ROW = .ok (row, Px.skip q)) := by show _ = _; rw [HRI.out, row_halt (begins_no hbeg)]
          have hL := HL.out
          have hLI := HLI.out
          have hal : acc.length ≤ 64 := by omega
          have hrl : (Nd.trRow row).length ≤ 10000 := by rw [Nd.trRow_length]; omega
          clear hL hLI
          obtain ⟨d0, d1, d2, d3, d4, d5⟩ := HOr.out.box1
          obtain ⟨e0, e1, e2, e3, e4, e5⟩ := HI.out.box
          have f5 := HOr.out.free1.2 5
          have hne1 : W.heap.size + 1 ≠ wr.heap.size := by omega
          have hne2 : wr.heap.size ≠ W.heap.size + 1 := by omega
          have hne3 : w0.heap.size ≠ wr.heap.size := by omega
          have hne4 : wr.heap.size ≠ w0.heap.size := by omega
          have hlt1 : W.heap.size + 1 < wr.heap.size := by omega
          have hlt2 : w0.heap.size < wr.heap.size := by omega
          subst hvCe
          subst hvRe
          obtain ⟨xs, hxs, _⟩ := (HKr.out.below (balloc (brefl wr) (.cells #[.int .i64 1, .bool false, .bool false, .slice none 0 0, .slice none 0 0, .slice ro row.length rc] 200))).row
          rw [Nd.trRows_length] at hxs
          have HXS := hide hxs
          clear hxs
          have hB0 : W.heap.size + 2 ≤ (wr.alloc (.cells #[.int .i64 1, .bool false, .bool false, .slice none 0 0, .slice none 0 0, .slice ro row.length rc] 200)).heap.size := by rw [size_alloc]; omega
          have HB0 := hide hB0
          clear hB0
          go_wp2_with (at_builtin; go_must (refine append_lies6 rfl _ _ rfl (W.heap.size + 2) (.slice co acc.length cc) acc.length xs rfl HXS.out wr.heap.size _ rfl _ _ _ _ _ _ (box_new wr _ _ _ _ _ _ 200) ⟨rfl, rfl, rfl, rfl, rfl, rfl⟩ (by omega) HB0.out _ rfl ?_))
          intro g cap w3 ho hg hloc
          have HO3 := hide ((HOr.out.step (balloc (brefl wr) (.cells #[.int .i64 1, .bool false, .bool false, .slice none 0 0, .slice none 0 0, .slice ro row.length rc] 200))).grown hg (fun k hk => (hvC k hk).1))
          have cc5 := HO3.out.box1.2.2.2.2.2
          have ff := HO3.out.free1.2 5
          have HO4 := hide (HO3.out.set (.slice (some ⟨g, 0, none⟩) (acc.length + 1) cap))
          have hT2 : OwnT (From (w0.heap.size + 1) (wr.alloc (.cells #[.int .i64 1, .bool false, .bool false, .slice none 0 0, .slice none 0 0, .slice ro row.length rc] 200))) (wr.alloc (.cells #[.int .i64 1, .bool false, .bool false, .slice none 0 0, .slice none 0 0, .slice ro row.length rc] 200)) (.mk 1 false false [] [] (Nd.trRow row)) [.int .i64 1, .bool false, .bool false, .slice none 0 0, .slice none 0 0, .slice ro row.length rc] := by
            have h := HKI.out
            rw [← Nd.trRow_length row] at h
            have h2 := KidsT.own (A := w0.heap.size + 1) (kd := 1) (w' := wr.alloc (.cells #[.int .i64 1, .bool false, .bool false, .slice none 0 0, .slice none 0 0, .slice ro row.length rc] 200)) h (Nat.le_refl _) hrl (by rw [size_alloc]; omega) (fun k _ hl => heap_alloc_lt _ _ k hl)
            rw [Nd.trRow_length] at h2
            exact h2
          have HK4 := hide ((KidsT.more (Nd.trRows_length acc).symm (HKr.out.below (balloc (brefl wr) (.cells #[.int .i64 1, .bool false, .bool false, .slice none 0 0, .slice none 0 0, .slice ro row.length rc] 200))) hT2 (fun k hk => ⟨by have := hk.1; omega, fun e => by have := hvC k e; have := hk.1; omega⟩) (by rw [Nd.trRows_length]; exact HXS.out) ho hg (by rw [size_alloc]; exact hloc)).set (N := W.heap.size + 1) (by omega) 5 (.slice (some ⟨g, 0, none⟩) (acc.length + 1) cap))
          rw [← Nd.trRows_app] at HK4
          go_wp2_with fail
          clear ho hg hloc cc5 ff HO3 hT2 d0 d1 d2 d3 d4 d5 e0 e1 e2 e3 e4 e5 f5
          generalize w3.setCell ⟨W.heap.size + 1, 5, none⟩ (.slice (some ⟨g, 0, none⟩) (acc.length + 1) cap) = w4 at *
          cases hb : Px.isAt (Px.skip q) 124 with
          | false =>
            have CI := hide (fun w => is_is s (by omega) m _ HM.out 124 124 rfl false hb w)
            have HRR : Hid (chR R = .ok (.ch (acc ++ [row]), Px.skip q)) := by show _ = _; rw [HX.out, HW.out, rowsR, hb]; rfl
            obtain ⟨c0, c1, c2, c3, c4, c5⟩ := HO4.out.box0
            obtain ⟨d0, d1, d2, d3, d4, d5⟩ := HO4.out.box1
            have f0 := HO4.out.free0.2 0
            have f1 := HO4.out.free0.2 1
            have f2 := HO4.out.free0.2 2
            have f3 := HO4.out.free0.2 3
            have f4 := HO4.out.free0.2 4
            have f5 := HO4.out.free0.2 5
            refine (CI.out _).mono ?_
            rintro e w5 ⟨rfl, hw⟩
            subst w5
            go_wp2_with fail
            change bodyPost Tryz.prog Tryz.f208 (NodeGood s W (chR R)) Exit.ret _ (put6 w4 W.heap.size (.int .i64 2) (.bool false) (.bool false) (.slice none 0 0) (.slice none 0 0) (.slice (some ⟨g, 0, none⟩) (acc.length + 1) cap))
            refine bodyPost_ret (v := .tuple #[.agg #[.int .i64 2, .bool false, .bool false, .slice none 0 0, .slice none 0 0, (.slice (some ⟨g, 0, none⟩) (acc.length + 1) cap)], .int .i64 (m : Int), .int .i64 0]) ?_ rfl (nodeGood_ok HRR.out (put6_below HO4.out.bel (Nat.le_refl _) _ _ _ _ _ _) HM.out ?_ rfl)
            · exact res_node Tryz.results208 _ _ W.heap.size rfl rfl rfl (put6_box HO4.out.box0 _ _ _ _ _ _)
            · have h := HK4.out
              have hlen : acc.length + 1 = (Nd.trRows (acc ++ [row])).length := by rw [Nd.trRows_length]; simp
              rw [hlen] at h ⊢
              rw [Nd.tr]
              exact (KidsT.own (A := W.heap.size) (kd := 2) h (by omega) (by rw [← hlen]; omega) (by rw [put6_size]; omega) (fun k hk _ => put6_other _ _ _ _ _ _ _ _ k (by omega))).own
          | true =>
            have CI := hide (fun w => is_is s (by omega) m _ HM.out 124 124 rfl true hb w)
            have HRR : Hid (R = Px.rows (Px.choice d) f (acc ++ [row]) (Px.next (Px.skip q))) := by show _ = _; rw [HX.out, HW.out, rowsR, hb]; rfl
            have CS2 := hide (fun w => skip_is s (by omega) m _ HM.out m (by rw [Px.skip_idem]; exact HM.out) w)
            have hnx := HM.out.nextAt hb
            have hml := HM.out.len
            rw [Px.skip_idem, show s.size - (Px.skip q).length + 1 = m + 1 by omega] at hnx
            have hqs := (Px.skip_suf q).length_le
            have hnl := Px.next_len hb
            have hL := HL.out
            have hLI := HLI.out
            have HNR : Hid (OutRel s W d R (m + 1) w4) := ⟨f, _, acc ++ [row], _, hnx, HRR.out, by omega, by simp only [List.length_append, List.length_cons, List.length_nil]; omega, HO4.out, HK4.out⟩
            have hm1 : m + 1 ≤ s.size := hnx.2
            have hatm : at_ ≤ m := by omega
            clear hb hnx hml hqs hnl hL hLI HRR
            refine (CI.out _).mono ?_
            rintro e w5 ⟨rfl, hw⟩
            subst w5
            go_wp2_with fail
            refine (CS2.out _).mono ?_
            rintro e w5 ⟨rfl, hw⟩
            subst w5
            have hwr1 : IntKind.i64.wrap ((m : Int) + 1) = ((m + 1 : Nat) : Int) := wrap_succ m (by omega)
            go_wp2_with fail
            go_roundw
            case rel =>
              exact ⟨m + 1, by first | rfl | exact congrArg (Value.int .i64) hwr1, hm1, HNR⟩
            case measure =>
              simp [intOf]
              omega
        | true =>
          obtain ⟨c1, t1, hk1, hs1⟩ := begins_yes hbeg
          have hri := row_item (ch := Px.choice d) (f := fi) (acc := row) hk1 hs1
          have CA := hide (HA.out m _ HM.out wr)
          rw [atom_cong (Px.skip_idem q)] at CA
          cases ha : Px.atom (Px.choice d) q with
          | error e =>
            rw [ha] at CA hri
            have HW : Hid (ROW = .error e) := by show _ = _; rw [HRI.out, hri]
            have HRR : Hid (chR R = .error e) := by show _ = _; rw [HX.out, HW.out]; rfl
            have he0 : e ≠ 0 := atom_ne ha
            have he1 : (e != 0) = true := by simpa using he0
            clear hri ha hk1 hs1
            go_wp2_with fail
            refine CA.out.mono ?_
            rintro e' w1' ⟨hb2, x0, x1, x2, x3, x4, x5, j, ⟨o0, o1, o2, o3, o4, o5⟩, rfl⟩
            have s0 := fun w a m => run_store Tryz.prog w a x0 m o0
            have s1 := fun w a m => run_store Tryz.prog w a x1 m o1
            have s2 := fun w a m => run_store Tryz.prog w a x2 m o2
            have s3 := fun w a m => run_store Tryz.prog w a x3 m o3
            have s4 := fun w a m => run_store Tryz.prog w a x4 m o4
            have s5 := fun w a m => run_store Tryz.prog w a x5 m o5
            have HO2 := hide (HOr.out.step hb2)
            have hsz := HO2.out.sz
            have hne : W.heap.size ≠ w1'.heap.size := by omega
            have hne2 : W.heap.size + 1 ≠ w1'.heap.size := by omega
            have hne3 : w1'.heap.size ≠ W.heap.size := by omega
            have hne4 : w1'.heap.size ≠ W.heap.size + 1 := by omega
            have hlt0 : W.heap.size < w1'.heap.size := by omega
            have hlt1 : W.heap.size + 1 < w1'.heap.size := by omega
            obtain ⟨c0, c1, c2, c3, c4, c5⟩ := HO2.out.box0
            obtain ⟨d0, d1, d2, d3, d4, d5⟩ := HO2.out.box1
            have f0 := HO2.out.free0.2 0
            have f1 := HO2.out.free0.2 1
            have f2 := HO2.out.free0.2 2
            have f3 := HO2.out.free0.2 3
            have f4 := HO2.out.free0.2 4
            have f5 := HO2.out.free0.2 5
            subst hvCe
            clear CA hb2
            go_wp2_with fail
            change bodyPost Tryz.prog Tryz.f208 (NodeGood s W (chR R)) Exit.ret _ ((put6 w1' W.heap.size (.int .i64 2) (.bool false) (.bool false) (.slice none 0 0) (.slice none 0 0) (.slice co acc.length cc)).alloc (.cells #[x0, x1, x2, x3, x4, x5] 200))
            refine bodyPost_ret (v := .tuple #[.agg #[.int .i64 2, .bool false, .bool false, .slice none 0 0, .slice none 0 0, .slice co acc.length cc], .int .i64 j, .int .i64 e]) ?_ rfl (nodeGood_err HRR.out (balloc (put6_below HO2.out.bel (Nat.le_refl _) _ _ _ _ _ _) _) ⟨rfl, rfl, rfl, rfl, rfl, rfl⟩)
            exact res_node Tryz.results208 _ _ W.heap.size rfl rfl rfl (box_below (put6_box HO2.out.box0 _ _ _ _ _ _) (balloc (brefl _) _))
          | ok z =>
            obtain ⟨nn, k⟩ := z
            have hkl := (Px.atom_suf (Px.choice_suf d) ha).2
            rw [ha] at CA hri
            have HW : Hid (ROW = Px.row (Px.choice d) fi (row ++ [itemOf nn k]) (restOf k)) := by show _ = _; rw [HRI.out]; exact row_item2 hri
            have hrs := restOf_len k
            have HKL : Hid ((restOf k).length < q.length) := Nat.lt_of_le_of_lt hrs hkl
            clear hri ha hk1 hs1 hkl hrs
            go_wp2_with fail
            refine CA.out.mono ?_
            rintro e' w1' ⟨hb2, hm2⟩
            obtain ⟨j, x0, x1, x2, x3, x4, x5, hj, ht, rfl⟩ := hm2
            have HT := hide ht
            have HJ := hide hj
            have HB2 := hide hb2
            obtain ⟨o0, o1, o2, o3, o4, o5⟩ := Tr.one ht.at
            have s0 := fun w a m => run_store Tryz.prog w a x0 m o0
            have s1 := fun w a m => run_store Tryz.prog w a x1 m o1
            have s2 := fun w a m => run_store Tryz.prog w a x2 m o2
            have s3 := fun w a m => run_store Tryz.prog w a x3 m o3
            have s4 := fun w a m => run_store Tryz.prog w a x4 m o4
            have s5 := fun w a m => run_store Tryz.prog w a x5 m o5
            have hjs := hj.2
            clear hb2 ht hj CA
            go_upto_block 4 with fail
            go_cut [12, 14] (fun v12 _ wx => ∃ (j' : Nat) (y0 y1 y2 y3 y4 y5 : Value), v12 = .int .i64 j' ∧ Hid (ItOk s wr w1'.heap.size (itemOf nn k) (restOf k) j' y0 y1 y2 y3 y4 y5 wx))
            case first =>
              go_wp2_with fail
              go_loopw [12, 14] (fun v12 v14 wx => ∃ jj : Nat, v12 = .int .i64 j ∧ v14 = .int .i64 jj ∧ 3 ≤ jj ∧ jj ≤ 6 ∧ wx = w1'.alloc (.cells #[x0, x1, x2, x3, x4, x5] 200) ∧ Hid (∀ i, 3 ≤ i → i < jj → Px.sign k ≠ i)) (fun _ v14 _ => 6 - (intOf v14).toNat)
              case atStart => exact ⟨3, rfl, rfl, by omega, by omega, rfl, fun i h1 h2 => absurd h2 (by omega)⟩
              case round =>
              obtain ⟨jj, rfl, rfl, hj3, hj6, rfl, hno⟩ := hrel
              obtain rfl | rfl | rfl | rfl : jj = 3 ∨ jj = 4 ∨ jj = 5 ∨ jj = 6 := by omega
              · cases hb : Px.isAt k 42 with
                | true =>
                  have hsg : Px.sign k = 3 := by
                    unfold Px.sign
                    
                    simp [hb]
                  have CI := hide (fun w => is_is s (by omega) j k HJ.out 42 42 rfl true hb w)
                  have hnx := HJ.out.nextAt hb
                  have hm2 := hnx.2
                  have CS2 := hide (fun w => skip_is s (by omega) j k HJ.out _ HJ.out.skip w)
                  have HIT := hide (it_hit (kd := 3) hnx HB2.out HT.out)
                  generalize s.size - (Px.skip k).length = m2 at *
                  have hwr1 : IntKind.i64.wrap ((m2 : Int) + 1) = ((m2 + 1 : Nat) : Int) := wrap_succ m2 (by omega)
                  have hio : itemOf nn k = .st 3 nn := by unfold itemOf; rw [hsg]; rfl
                  have hro : restOf k = Px.next k := by unfold restOf; rw [hsg]; rfl
                  clear hb hnx hno
                  go_wp2_with fail
                  refine (CI.out _).mono ?_
                  rintro e w5 ⟨rfl, hw⟩
                  subst w5
                  go_wp2_with fail
                  refine (CS2.out _).mono ?_
                  rintro e w5 ⟨rfl, hw⟩
                  subst w5
                  go_wp2_with fail
                  go_meet
                  exact ⟨m2 + 1, _, _, _, _, _, _, by first | rfl | exact congrArg (Value.int .i64) hwr1, by rw [hio, hro]; exact HIT⟩
                | false =>
                  have CI := hide (fun w => is_is s (by omega) j k HJ.out 42 42 rfl false hb w)
                  have hno2 : Hid (∀ i, 3 ≤ i → i < 3 + 1 → Px.sign k ≠ i) := by
                    intro i h1 h2 h3
                    by_cases h4 : i < 3
                    · exact hno.out i h1 h4 h3
                    · obtain rfl : i = 3 := by omega
                      revert h3
                      unfold Px.sign
                      simp only [hb]
                      (repeat' split) <;> simp_all
                  clear hb hno
                  go_wp2_with fail
                  refine (CI.out _).mono ?_
                  rintro e w5 ⟨rfl, hw⟩
                  subst w5
                  go_wp2_with fail
                  exact ⟨⟨4, rfl, rfl, by omega, by omega, trivial, hno2⟩, by first | decide | simp [intOf]⟩
              · cases hb : Px.isAt k 43 with
                | true =>
                  have hsg : Px.sign k = 4 := by
                    unfold Px.sign
                    have h3 : Px.isAt k 42 = false := by
                      cases h : Px.isAt k 42 with
                      | false => rfl
                      | true => exact absurd (by unfold Px.sign; simp [h]) (hno.out 3 (by omega) (by omega))
                    rw [h3]
                    simp [hb]
                  have CI := hide (fun w => is_is s (by omega) j k HJ.out 43 43 rfl true hb w)
                  have hnx := HJ.out.nextAt hb
                  have hm2 := hnx.2
                  have CS2 := hide (fun w => skip_is s (by omega) j k HJ.out _ HJ.out.skip w)
                  have HIT := hide (it_hit (kd := 4) hnx HB2.out HT.out)
                  generalize s.size - (Px.skip k).length = m2 at *
                  have hwr1 : IntKind.i64.wrap ((m2 : Int) + 1) = ((m2 + 1 : Nat) : Int) := wrap_succ m2 (by omega)
                  have hio : itemOf nn k = .st 4 nn := by unfold itemOf; rw [hsg]; rfl
                  have hro : restOf k = Px.next k := by unfold restOf; rw [hsg]; rfl
                  clear hb hnx hno
                  go_wp2_with fail
                  refine (CI.out _).mono ?_
                  rintro e w5 ⟨rfl, hw⟩
                  subst w5
                  go_wp2_with fail
                  refine (CS2.out _).mono ?_
                  rintro e w5 ⟨rfl, hw⟩
                  subst w5
                  go_wp2_with fail
                  go_meet
                  exact ⟨m2 + 1, _, _, _, _, _, _, by first | rfl | exact congrArg (Value.int .i64) hwr1, by rw [hio, hro]; exact HIT⟩
                | false =>
                  have CI := hide (fun w => is_is s (by omega) j k HJ.out 43 43 rfl false hb w)
                  have hno2 : Hid (∀ i, 3 ≤ i → i < 4 + 1 → Px.sign k ≠ i) := by
                    intro i h1 h2 h3
                    by_cases h4 : i < 4
                    · exact hno.out i h1 h4 h3
                    · obtain rfl : i = 4 := by omega
                      revert h3
                      unfold Px.sign
                      simp only [hb]
                      (repeat' split) <;> simp_all
                  clear hb hno
                  go_wp2_with fail
                  refine (CI.out _).mono ?_
                  rintro e w5 ⟨rfl, hw⟩
                  subst w5
                  go_wp2_with fail
                  exact ⟨⟨5, rfl, rfl, by omega, by omega, trivial, hno2⟩, by first | decide | simp [intOf]⟩
              · cases hb : Px.isAt k 63 with
                | true =>
                  have hsg : Px.sign k = 5 := by
                    unfold Px.sign
                    have h3 : Px.isAt k 42 = false := by
                      cases h : Px.isAt k 42 with
                      | false => rfl
                      | true => exact absurd (by unfold Px.sign; simp [h]) (hno.out 3 (by omega) (by omega))
                    have h4 : Px.isAt k 43 = false := by
                      cases h : Px.isAt k 43 with
                      | false => rfl
                      | true => exact absurd (by unfold Px.sign; simp [h, h3]) (hno.out 4 (by omega) (by omega))
                    rw [h3, h4]
                    simp [hb]
                  have CI := hide (fun w => is_is s (by omega) j k HJ.out 63 63 rfl true hb w)
                  have hnx := HJ.out.nextAt hb
                  have hm2 := hnx.2
                  have CS2 := hide (fun w => skip_is s (by omega) j k HJ.out _ HJ.out.skip w)
                  have HIT := hide (it_hit (kd := 5) hnx HB2.out HT.out)
                  generalize s.size - (Px.skip k).length = m2 at *
                  have hwr1 : IntKind.i64.wrap ((m2 : Int) + 1) = ((m2 + 1 : Nat) : Int) := wrap_succ m2 (by omega)
                  have hio : itemOf nn k = .st 5 nn := by unfold itemOf; rw [hsg]; rfl
                  have hro : restOf k = Px.next k := by unfold restOf; rw [hsg]; rfl
                  clear hb hnx hno
                  go_wp2_with fail
                  refine (CI.out _).mono ?_
                  rintro e w5 ⟨rfl, hw⟩
                  subst w5
                  go_wp2_with fail
                  refine (CS2.out _).mono ?_
                  rintro e w5 ⟨rfl, hw⟩
                  subst w5
                  go_wp2_with fail
                  go_meet
                  exact ⟨m2 + 1, _, _, _, _, _, _, by first | rfl | exact congrArg (Value.int .i64) hwr1, by rw [hio, hro]; exact HIT⟩
                | false =>
                  have CI := hide (fun w => is_is s (by omega) j k HJ.out 63 63 rfl false hb w)
                  have hno2 : Hid (∀ i, 3 ≤ i → i < 5 + 1 → Px.sign k ≠ i) := by
                    intro i h1 h2 h3
                    by_cases h4 : i < 5
                    · exact hno.out i h1 h4 h3
                    · obtain rfl : i = 5 := by omega
                      revert h3
                      unfold Px.sign
                      simp only [hb]
                      (repeat' split) <;> simp_all
                  clear hb hno
                  go_wp2_with fail
                  refine (CI.out _).mono ?_
                  rintro e w5 ⟨rfl, hw⟩
                  subst w5
                  go_wp2_with fail
                  exact ⟨⟨6, rfl, rfl, by omega, by omega, trivial, hno2⟩, by first | decide | simp [intOf]⟩
              · have hsg : Px.sign k = 0 := by
                  have a3 := hno.out 3 (by omega) (by omega)
                  have a4 := hno.out 4 (by omega) (by omega)
                  have a5 := hno.out 5 (by omega) (by omega)
                  revert a3 a4 a5
                  unfold Px.sign
                  (repeat' split) <;> simp
                have HIT := hide (it_plain HJ.out HB2.out HT.out)
                have hio : itemOf nn k = nn := by unfold itemOf; rw [hsg]; rfl
                have hro : restOf k = k := by unfold restOf; rw [hsg]; rfl
                clear hno
                go_wp2_with fail
                go_meet
                exact ⟨j, _, _, _, _, _, _, rfl, by rw [hio, hro]; exact HIT⟩
            case rest =>
              obtain ⟨j', y0, y1, y2, y3, y4, y5, rfl, HIT⟩ := hcut
              obtain ⟨hj2, hbx, hbw, hN1, hN2, S, hS, hSb⟩ := HIT.out
              have HI2 := hide (HI.out.step hbw)
              have HKI2 := hide (HKI.out.below hbw)
              have HS1 := hide (Tr.one hS.at)
              have HSS := hide hS
              have HSB := hide hSb
              have hL := HL.out
              have hLI := HLI.out
              have hjl := hj2.len
              have hkl := HKL.out
              have hrow : row.length ≤ 64 := by omega
              have hjan : an < j' := by omega
              have hj3 : j' ≤ s.size := hj2.2
              have HF : Hid ((restOf k).length < fi ∧ row.length + 1 ≤ j') := ⟨by omega, by omega⟩
              have HJ2 := hide hj2
              have hbws := hbw.size
              obtain ⟨e0, e1, e2, e3, e4, e5⟩ := HI2.out.box
              obtain ⟨b0, b1, b2, b3, b4, b5⟩ := hbx
              obtain ⟨o0', o1', o2', o3', o4', o5'⟩ := HS1.out
              have q0 := fun w a m => run_store Tryz.prog w a y0 m o0'
              have q1 := fun w a m => run_store Tryz.prog w a y1 m o1'
              have q2 := fun w a m => run_store Tryz.prog w a y2 m o2'
              have q3 := fun w a m => run_store Tryz.prog w a y3 m o3'
              have q4 := fun w a m => run_store Tryz.prog w a y4 m o4'
              have q5 := fun w a m => run_store Tryz.prog w a y5 m o5'
              have f5 := HI2.out.free.2 5
              have hne1 : w0.heap.size ≠ wc.heap.size := by omega
              have hne2 : wc.heap.size ≠ w0.heap.size := by omega
              have hne3 : w1'.heap.size ≠ wc.heap.size := by omega
              have hne4 : wc.heap.size ≠ w1'.heap.size := by omega
              have hlt1 : w0.heap.size < wc.heap.size := by omega
              subst hvRe
              obtain ⟨xs, hxs, _⟩ := (HKI2.out.below (balloc (brefl wc) (.cells #[y0, y1, y2, y3, y4, y5] 200))).row
              rw [Nd.trRow_length] at hxs
              have HXS := hide hxs
              have HB0 : Hid (w0.heap.size + 1 ≤ (wc.alloc (.cells #[y0, y1, y2, y3, y4, y5] 200)).heap.size) := by show _ ≤ _; rw [size_alloc]; omega
              clear hxs hL hLI hjl hkl hj2 hbw hS hSb s0 s1 s2 s3 s4 s5 o0 o1 o2 o3 o4 o5 HJ
              go_wp2_with (at_builtin; go_must (refine append_lies6 rfl _ _ rfl (w0.heap.size + 1) (.slice ro row.length rc) row.length xs rfl HXS.out wc.heap.size _ rfl _ _ _ _ _ _ (box_new wc _ _ _ _ _ _ 200) HS1.out (by omega) HB0.out _ rfl ?_))
              intro g cap w3 ho hg hloc
              have HI3 := hide ((HI2.out.step (balloc (brefl wc) (.cells #[y0, y1, y2, y3, y4, y5] 200))).grown hg (fun k hk => (hvR k hk).1))
              have cc5 := HI3.out.box.2.2.2.2.2
              have ff := HI3.out.free.2 5
              have HI4 := hide (HI3.out.set (.slice (some ⟨g, 0, none⟩) (row.length + 1) cap))
              have HK4 := hide ((KidsT.more (Nd.trRow_length row).symm (HKI2.out.below (balloc (brefl wc) (.cells #[y0, y1, y2, y3, y4, y5] 200))) (HSS.out.keep (w' := wc.alloc (.cells #[y0, y1, y2, y3, y4, y5] 200)) (by rw [size_alloc]; omega) (fun i hi => heap_alloc_lt _ _ i (HSS.out.1 i hi))) (fun i hi => ⟨by have := HSB.out i hi; omega, fun e => by have := hvR i e; have := HSB.out i hi; omega⟩) (by rw [Nd.trRow_length]; exact HXS.out) ho hg (by rw [size_alloc]; exact hloc)).set (N := w0.heap.size) (by omega) 5 (.slice (some ⟨g, 0, none⟩) (row.length + 1) cap))
              rw [← Nd.trRow_app] at HK4
              have HNR : Hid (InRel s w0 d ROW j' (w3.setCell ⟨w0.heap.size, 5, none⟩ (.slice (some ⟨g, 0, none⟩) (row.length + 1) cap))) := ⟨fi, _, row ++ [itemOf nn k], _, HJ2.out, HW.out, HF.out.1, by simp only [List.length_append, List.length_cons, List.length_nil]; exact HF.out.2, HI4.out, HK4.out⟩
              clear ho hg hloc HI3 HI4 HK4
              go_wp2_with fail
              go_roundw
              case rel =>
                first
                | exact ⟨j', rfl, by omega, hj3, HNR⟩
                | ((repeat apply Exists.intro); exact ⟨⟨_, rfl, by omega, hj3, HNR⟩, rfl⟩)
              case measure =>
                simp [intOf]
                omega
theorem refChoice_ok (s : ByteArray) (hs : s.size ≤ 64) (d D : Nat) (hD : D ≤ 8) (hc : ChoiceOk s d (D + 1)) : ChoiceOk s (d + 1) D :=
  fun n r hp W => refChoice_walk s hs d D n hD r hp (fun n r hp W => refAtom_is s hs n d D (by omega) hc r hp W) _ rfl W
/-- At every depth. -/
theorem refChoice_all (s : ByteArray) (hs : s.size ≤ 64) : ∀ d D : Nat, d + D = 9 → ChoiceOk s d D
  | 0, D, h => refChoice_deep s D (by omega) (by omega)
  | d + 1, D, h => refChoice_ok s hs d D (by omega) (refChoice_all s hs d (D + 1) (by omega))
theorem refChoice_is (s : ByteArray) (hs : s.size ≤ 64) : ChoiceOk s 8 1 := refChoice_all s hs 8 1 rfl
end Go.Proofs.YtpmmhmgojjlniaaGreatDoor.Ar
