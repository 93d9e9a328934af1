import Derived.Test.YtpkikfojiibdaaaGreatDoorCA7
/- The contracts of slices.Clone and slices.DeleteFunc at communities. -/
namespace Go.Proofs.YtpkikfojiibdaaaGreatDoor.Cm
open Go.RowKit Go.Sort Go.Lib

theorem idx_from (p : Co.C → Bool) (x : Co.C) : ∀ (l : List Co.C) (i : Nat), (Lib.idxByFrom (fun _ y => p y) x l i = -1 ∧ ∀ y ∈ l, p y = false) ∨ ∃ k, ∃ hk : k < l.length, Lib.idxByFrom (fun _ y => p y) x l i = ((i + k : Nat) : Int) ∧ p l[k] = true ∧ ∀ y ∈ l.take k, p y = false
  | [], i => .inl ⟨rfl, fun y hy => by cases hy⟩
  | y :: r, i => by
    cases hp : p y
    · rcases idx_from p x r (i + 1) with ⟨h1, h2⟩ | ⟨k, hk, h1, h2, h3⟩
      · refine .inl ⟨by simp only [Lib.idxByFrom, hp]; exact h1, fun z hz => ?_⟩
        rcases List.mem_cons.1 hz with rfl | h
        · exact hp
        · exact h2 z h
      · refine .inr ⟨k + 1, by simpa using hk, ?_, by simpa using h2, fun z hz => ?_⟩
        · simp only [Lib.idxByFrom, hp]
          rw [show i + (k + 1) = i + 1 + k by omega]
          exact h1
        · rw [List.take_succ_cons] at hz
          rcases List.mem_cons.1 hz with rfl | h
          · exact hp
          · exact h3 z h
    · exact .inr ⟨0, by simp, by simp [Lib.idxByFrom, hp], by simpa using hp, fun z hz => by simp at hz⟩

theorem infoPartsC2 : ∃ i0 : TypeInfo, Tryz.prog.info? 53 = some i0 ∧ i0.zero = some (.agg #[.int .i64 0, .int .i64 0]) ∧ i0.size = 2 ∧ i0.bytes = 16 := info_partsC

theorem clone_is (ao : Option Addr) (ca : Nat) (l : List Co.C) (w : World) (hA : Co.slot w ao l) (hC : Co.came ao ca) (hlen : l.length ≤ 1000000) :
    Calls Tryz.prog 46 #[.slice ao l.length ca] w fun e w' => ∃ o c, e = .returned (.slice o l.length c) ∧ w'.ownsRow w.heap.size 53 2 (.slice o l.length c) l.length (Co.cells l) ∧ Below w.heap.size w w' := by
  cases ao with
  | none =>
    have hl : l = [] := by
      rcases hA with h | ⟨b, off, h, _⟩
      · exact h
      · cases h
    subst hl
    refine Calls.mono (show Calls Tryz.prog 46 _ _ _ from AnyE.slices_Clone_nil Tryz.clone 0 ca w) ?_
    rintro e w' ⟨rfl, rfl⟩
    exact ⟨none, 0, rfl, World.ownsRow_nil _ _ _ _, brefl _⟩
  | some ad =>
    obtain ⟨b, off, sp⟩ := ad
    obtain rfl : sp = none := hC.2 _ rfl
    have hR : Co.reads w b off l := by
      rcases hA with h | ⟨b', off', h, hr⟩
      · rw [h]; intro j u hu; simp [Co.cells] at hu
      · simp only [Option.some.injEq, Addr.mk.injEq, and_true] at h
        rw [h.1, h.2]; exact hr
    obtain ⟨i0, hi, hz0, hz1, hz2⟩ := info_partsC
    have hcon := AnyE.slices_Clone Tryz.clone i0 (.agg #[.int .i64 0, .int .i64 0]) 2 16 hi hz0 hz1 hz2 rfl (by decide) Tryz.sizeOf53 b off l.length ca (Co.cells l) w (Co.cells_length l) (by unfold maxLen; omega) (by omega) hR (Co.cells_one l)
    refine Calls.mono (show Calls Tryz.prog 46 _ _ _ from hcon) ?_
    rintro e w' ⟨v', rfl, hown, hne, hb⟩
    have hown' : w'.ownsRow w.heap.size 53 2 v' l.length (Co.cells l) := hown
    obtain ⟨o, c, rfl⟩ := row_slice hown'
    exact ⟨o, c, rfl, hown', hb⟩

theorem delF_none (p : Option Addr) (cap : Nat) (fv : Value) (w : World) : Calls Tryz.prog 77 #[.slice p 0 cap, fv] w fun e w' => e = .returned (.slice p 0 cap) ∧ w' = w := by
  go_enter Tryz.func77, Tryz.ntmps77
  go_wp2_with fail
  refine (idxF_none _ _ _ _).mono ?_
  rintro e w1 ⟨rfl, rfl⟩
  go_wp2_with fail
  go_ret
  exact ⟨rfl, rfl⟩

/-- What is asked of the closure: in every world in which all that lay below B lies. -/
def Asks (f : Nat) (lb : Array Value) (p : Co.C → Bool) (B : Nat) (w : World) : Prop :=
  ∀ (W : World) (x : Co.C), Below B w W → Calls Tryz.prog f (#[.agg #[.int .i64 x.1, .int .i64 x.2]] ++ lb) W fun e w' => e = .returned (.bool (p x)) ∧ Below W.heap.size W w'

theorem idxF_is (f : Nat) (lb : Array Value) (eg : ∀ args w, (callFunc f args).run Tryz.prog w = .ok (.enter f args) w) (p : Co.C → Bool) (B g cap : Nat) (d : Array Co.C) (w : World) (hp : Asks f lb p B w) (hh : Co.holds w g d) (hB : B ≤ w.heap.size) (hsz : d.size ≤ 1000000) (h0 : 0 < d.size) :
    Calls Tryz.prog 83 #[.slice (some ⟨g, 0, none⟩) d.size cap, .func (.func f) #[] lb] w fun e w' => ((e = .returned (.int .i64 (-1)) ∧ ∀ y ∈ d.toList, p y = false) ∨ ∃ k, ∃ hk : k < d.size, e = .returned (.int .i64 k) ∧ p d[k] = true ∧ ∀ y ∈ d.toList.take k, p y = false) ∧ Below w.heap.size w w' := by
  have hcon := AnyQ.slices_IndexFunc { Tryz.hasF with } 2 Tryz.isAgg53 Tryz.sizeOf53 Co.enc (fun _ => rfl) p f lb eg g 0 d.size cap d.toList w
    (fun W x hb => (hp W x (hb.mono hB)).mono fun _ _ ⟨h1, h2⟩ => ⟨h1, hb.trans (h2.mono hb.size)⟩) (by simp) (by omega) (block_lt_of_cell (hh 0 h0).1) (by
      have hr := Co.holds_reads hh d.size (Nat.le_refl _)
      have e : d.toList.take d.size = d.toList := List.take_of_length_le (by simp)
      rw [e] at hr
      exact Co.cells_at hr)
  refine Calls.mono (show Calls Tryz.prog 83 _ _ _ from hcon) ?_
  rintro e w' ⟨rfl, hb⟩
  refine ⟨?_, hb⟩
  have e : d.toList.take d.size = d.toList := List.take_of_length_le (by simp)
  rw [e]
  rcases idx_from p default d.toList 0 with ⟨h1, h2⟩ | ⟨k, hk, h1, h2, h3⟩
  · exact .inl ⟨by rw [Lib.idxBy, h1], h2⟩
  · exact .inr ⟨k, by simpa using hk, by rw [Lib.idxBy, h1, Nat.zero_add], by simpa using h2, h3⟩
end Go.Proofs.YtpkikfojiibdaaaGreatDoor.Cm

/- The contract of slices.DeleteFunc at communities. -/
namespace Go.Proofs.YtpkikfojiibdaaaGreatDoor.Cm
open Go.RowKit Go.Sort Go.Lib

/-- What is kept of the first j. -/
def Co.keptTo (p : Co.C → Bool) (d : Array Co.C) (j : Nat) : List Co.C := (d.toList.take j).filter fun c => !p c
/-- The loop's relation: j have been looked at; what is kept of them lies at the row's head; from place j on the row is as it was. -/
structure DelInv (p : Co.C → Bool) (d : Array Co.C) (j i : Nat) (dk : Array Co.C) : Prop where
  size : dk.size = d.size
  lt : i < j
  low : dk.toList.take i = Co.keptTo p d j
  high : ∀ q, j ≤ q → dk[q]! = d[q]!

theorem Co.kept_succ (p : Co.C → Bool) (d : Array Co.C) (j : Nat) (hj : j < d.size) : Co.keptTo p d (j + 1) = Co.keptTo p d j ++ (if p d[j]! = true then [] else [d[j]!]) := by
  unfold Co.keptTo
  rw [List.take_succ_eq_append_getElem (by simpa using hj), List.filter_append]
  congr 1
  rw [getElem!_pos d j hj]
  cases h : p d[j] <;> simp [h]
theorem Co.kept_len (p : Co.C → Bool) (d : Array Co.C) (j : Nat) : (Co.keptTo p d j).length ≤ j := by
  unfold Co.keptTo
  refine Nat.le_trans (List.length_filter_le _ _) ?_
  rw [List.length_take]
  omega
theorem DelInv.start {p : Co.C → Bool} {d : Array Co.C} {k : Nat} (hk : k < d.size) (hp : p d[k] = true) (hall : ∀ y ∈ d.toList.take k, p y = false) : DelInv p d (k + 1) k d where
  size := rfl
  lt := Nat.lt_succ_self _
  low := by
    rw [Co.kept_succ p d k hk, getElem!_pos d k hk, if_pos hp, List.append_nil]
    unfold Co.keptTo
    rw [List.filter_eq_self.2 (fun y hy => by rw [hall y hy]; rfl)]
  high := fun _ _ => rfl
theorem DelInv.skip {p : Co.C → Bool} {d dk : Array Co.C} {j i : Nat} (h : DelInv p d j i dk) (hj : j < d.size) (hp : p d[j]! = true) : DelInv p d (j + 1) i dk where
  size := h.size
  lt := by have := h.lt; omega
  low := by rw [Co.kept_succ p d j hj, if_pos hp, List.append_nil]; exact h.low
  high := fun q hq => h.high q (by omega)
theorem DelInv.keep {p : Co.C → Bool} {d dk : Array Co.C} {j i : Nat} (h : DelInv p d j i dk) (hj : j < d.size) (hp : p d[j]! = false) : DelInv p d (j + 1) (i + 1) (dk.setIfInBounds i d[j]!) where
  size := by simp [h.size]
  lt := by have := h.lt; omega
  low := by
    have hi : i < dk.size := by have := h.lt; have := h.size; omega
    rw [Co.kept_succ p d j hj, if_neg (by rw [hp]; decide), ← h.low]
    rw [Array.toList_setIfInBounds, List.take_succ_eq_append_getElem (by simpa using hi)]
    congr 1
    · rw [List.take_set_of_le (Nat.le_refl _)]
    · simp
  high := fun q hq => by rw [getElem!_set_other dk i q _ (by have := h.lt; omega)]; exact h.high q (by omega)

set_option maxHeartbeats 8000000 in
set_option maxRecDepth 100000 in
theorem delF_row (f BX : Nat) (eg : ∀ args w, (callFunc f args).run Tryz.prog w = .ok (.enter f args) w) (p : Co.C → Bool) (B g cap : Nat) (d : Array Co.C) (w : World) (hp : Asks f #[.pointer (some ⟨BX, 0, none⟩)] p B w) (hh : Co.holds w g d) (hB : B ≤ g) (hsz : d.size ≤ 100000) (hcap : d.size ≤ cap) (h0 : 0 < d.size) :
    Calls Tryz.prog 77 #[.slice (some ⟨g, 0, none⟩) d.size cap, .func (.func f) #[] #[.pointer (some ⟨BX, 0, none⟩)]] w fun e w' => e = .returned (.slice (some ⟨g, 0, none⟩) (d.toList.filter fun c => !p c).length cap) ∧ Co.holds w' g (d.toList.filter fun c => !p c).toArray ∧ Below B w w' := by
  have hgl : Hid (g < w.heap.size) := block_lt_of_cell (hh 0 h0).1
  have CI := hide (idxF_is f #[.pointer (some ⟨BX, 0, none⟩)] eg p B g cap d w hp hh (by have := hgl.out; omega) (by omega) h0)
  have HP := hide hp
  have HH := hide hh
  clear hp hh
  go_enter Tryz.func77, Tryz.ntmps77
  go_wp2_with fail
  refine CI.out.mono ?_
  rintro e w1 ⟨hcase, hb1⟩
  have B1 := hide (hb1.mono (show B ≤ w.heap.size by have := hgl.out; omega))
  have HH1 := hide (Co.holds_below HH.out hb1)
  clear hb1 CI
  rcases hcase with ⟨rfl, hall⟩ | ⟨k, hk, rfl, hpk, hall⟩
  · have hf : Hid ((d.toList.filter fun c => !p c) = d.toList) := List.filter_eq_self.2 (fun y hy => by rw [hall y hy]; rfl)
    have HL : Hid (d.size = (d.toList.filter fun c => !p c).length) := by show _ = _; rw [hf.out]; simp
    clear hall
    go_wp2_with fail
    go_ret
    refine ⟨?_, ?_, B1.out⟩
    · rw [← HL.out]; rfl
    · rw [hf.out]; simpa using HH1.out
  · have hst := hide (DelInv.start hk hpk hall)
    have hkn : ((k : Int) == -1) = false := by simp
    clear hpk hall
    go_wp2_with fail
    go_loopw [5, 6] (fun v5 v6 wr => ∃ (i j : Nat) (dk : Array Co.C), v5 = .int .i64 i ∧ v6 = .int .i64 j ∧ j ≤ d.size ∧ DelInv p d j i dk ∧ Co.holds wr g dk ∧ Below B w wr) (fun _ v6 _ => d.size - (intOf v6).toNat)
    case atStart => exact ⟨k, k + 1, d, rfl, by go_num, by omega, hst.out, HH1.out, B1.out⟩
    case round =>
      clear hst HH1 B1 hkn
      obtain ⟨i, j, dk, rfl, rfl, hj, hI, hho, hbr⟩ := hrel
      have hij := hI.lt
      have hds := hI.size
      have HI := hide hI
      have HO := hide hho
      have HBB := hide hbr
      clear hbr
      by_cases hjl : j < d.size
      · have hjl' : (j : Int) < (d.size : Int) := by omega
        have hil' : (i : Int) < (d.size : Int) := by omega
        obtain ⟨e0, e1, _, _⟩ := hho j (by omega)
        rw [hI.high j (Nat.le_refl _)] at e0 e1
        clear hho hI
        have HSK := hide (HI.out.skip hjl)
        have HKE := hide (HI.out.keep hjl)
        generalize d[j]! = u at *
        obtain ⟨u0, u1⟩ := u
        have CP : Hid (∀ W, Below B w W → Calls Tryz.prog f #[.agg #[.int .i64 u0, .int .i64 u1], .pointer (some ⟨BX, 0, none⟩)] W fun e w' => e = .returned (.bool (p (u0, u1))) ∧ Below W.heap.size W w') := by
          show ∀ W, _
          intro W hW
          have := HP.out W (u0, u1) hW
          simpa using this
        have hBw : B ≤ wr.heap.size := by have := HBB.out.size; have := hgl.out; omega
        have TB := hide (two_new wr u0 u1 53)
        have BA := hide (HBB.out.alloc hBw (.cells #[.int .i64 u0, .int .i64 u1] 53))
        have HOA := hide (Co.holds_below HO.out (balloc (brefl wr) (.cells #[.int .i64 u0, .int .i64 u1] 53)))
        have hBA : B ≤ (wr.alloc (.cells #[.int .i64 u0, .int .i64 u1] 53)).heap.size := by simp; omega
        cases hpu : p (u0, u1)
        · have HKN := hide (HKE.out hpu)
          rw [hpu] at CP
          clear hpu HSK HKE
          go_wp2_with fail
          generalize wr.alloc (.cells #[.int .i64 u0, .int .i64 u1] 53) = W1 at *
          generalize wr.heap.size = R at *
          refine (CP.out _ BA.out).mono ?_
          rintro e w2 ⟨rfl, hb2⟩
          obtain ⟨p0, p1, p2, p3⟩ := two_below hb2 TB.out
          have HO2 := Co.holds_below HOA.out hb2
          obtain ⟨c0, c1, c2, c3⟩ := HO2 i (by omega)
          have HOS := hide (Co.holds_set HO2 i (by omega) (u0, u1))
          have B2 := hide (BA.out.trans (hb2.mono hBA))
          clear hb2 HO2 e0 e1
          generalize dk[i]! = old2 at c0 c1
          go_wp2_with fail
          exact ⟨⟨i + 1, j + 1, dk.setIfInBounds i (u0, u1), by go_num, by go_num, by omega, HKN.out, HOS.out, (B2.out.setCell (p := ⟨g, i * 2, none⟩) hB _).setCell (p := ⟨g, i * 2 + 1, none⟩) hB _⟩, by simp [intOf] <;> omega⟩
        · have HKN := hide (HSK.out hpu)
          rw [hpu] at CP
          clear hpu HSK HKE
          go_wp2_with fail
          generalize wr.alloc (.cells #[.int .i64 u0, .int .i64 u1] 53) = W1 at *
          generalize wr.heap.size = R at *
          refine (CP.out _ BA.out).mono ?_
          rintro e w2 ⟨rfl, hb2⟩
          have HO2 := hide (Co.holds_below HOA.out hb2)
          have B2 := hide (BA.out.trans (hb2.mono hBA))
          clear hb2 e0 e1
          go_wp2_with fail
          exact ⟨⟨i, j + 1, dk, rfl, by go_num, by omega, HKN.out, HO2.out, B2.out⟩, by simp [intOf] <;> omega⟩
      · have hjE : j = d.size := by omega
        subst hjE
        have hjl' : ¬ (d.size : Int) < (d.size : Int) := by omega
        have hkl' : ¬ (d.size : Int) < (i : Int) := by omega
        obtain ⟨vs, hcl⟩ := clear_run (k := i) (n := d.size - i) (c := cap - i) HO.out (by omega) (by omega)
        have HE : Hid (dk.toList.take i = (d.toList.filter fun c => !p c) ∧ (d.toList.filter fun c => !p c).length = i) := by
          have h1 := HI.out.low
          have e : Co.keptTo p d d.size = d.toList.filter fun c => !p c := by unfold Co.keptTo; rw [List.take_of_length_le (by simp)]
          rw [e] at h1
          refine ⟨h1, ?_⟩
          rw [← h1, List.length_take, Array.length_toList]
          omega
        have HS := hide (holds_sets (vs := vs) HO.out (show i ≤ dk.size by omega))
        have BS := hide (below_sets hB vs (i * 2) _ HBB.out)
        clear hho hI
        go_wp2_with fail
        go_ret
        refine ⟨?_, ?_, BS.out⟩
        · rw [HE.out.2]; rfl
        · rw [← HE.out.1]; exact HS.out
end Go.Proofs.YtpkikfojiibdaaaGreatDoor.Cm

/- The contracts of comm's Del and Both. -/
namespace Go.Proofs.YtpkikfojiibdaaaGreatDoor.Cm
open Go.RowKit Go.Sort Go.Lib

theorem clo52 (a b : Int) (BX cb : Nat) (bo : Option Addr) (m : List Co.C) (r : Bool) (hr : Co.inL m (a, b) = r) (W : World) (hX : W.cell? ⟨BX, 0, none⟩ = some (.slice bo m.length cb)) (hM : Co.slot W bo m) (hlen : m.length ≤ 10000) :
    Calls Tryz.prog 75 #[.agg #[.int .i64 a, .int .i64 b], .pointer (some ⟨BX, 0, none⟩)] W fun e w' => e = .returned (.bool r) ∧ Below W.heap.size W w' := by
  have HM := hide (Co.slot_below hM (balloc (brefl W) (.cells #[.int .i64 a, .int .i64 b] 53)))
  have HR := hide hr
  have hne : BX ≠ W.heap.size := Nat.ne_of_lt (block_lt_of_cell hX)
  have hlt : BX < W.heap.size := block_lt_of_cell hX
  clear hr hM
  go_enter Tryz.func75, Tryz.ntmps75
  go_wp2_with fail
  refine (contains_is bo cb m a b r HR.out _ HM.out (by omega)).mono ?_
  rintro e w1 ⟨rfl, hb1⟩
  go_wp2_with fail
  go_ret
  exact ⟨rfl, bthen (balloc (brefl W) _) hb1⟩
theorem asks52 (BX cb : Nat) (bo : Option Addr) (m : List Co.C) (w w' : World) (hb : Below w.heap.size w w') (hX : w.cell? ⟨BX, 0, none⟩ = some (.slice bo m.length cb)) (hM : Co.slot w bo m) (hlen : m.length ≤ 10000) :
    Asks 75 #[.pointer (some ⟨BX, 0, none⟩)] (fun c => Co.inL m c) w.heap.size w' := fun W x hW => by
  have h := hb.trans hW
  exact clo52 x.1 x.2 BX cb bo m _ rfl W ((h.cell (p := ⟨BX, 0, none⟩) (block_lt_of_cell hX)).trans hX) (Co.slot_below hM h) hlen
/-- What is handed back: a row of the call's own, with x. -/
def DelGood (w : World) (x : List Co.C) (e : Ending) (w' : World) : Prop :=
  ∃ (o : Option Addr) (c : Nat), e = .returned (.tuple #[.slice o x.length c, .int .i64 0]) ∧ Co.came o c ∧ Co.wrow w.heap.size w' o x ∧ Below w.heap.size w w'
/-- DeleteFunc on a clone. -/
def DelRow (B : Nat) (w : World) (x : List Co.C) (e : Ending) (w' : World) : Prop :=
  ∃ (o : Option Addr) (c : Nat), e = .returned (.slice o x.length c) ∧ Co.came o c ∧ Co.wrow B w' o x ∧ Below B w w'

theorem delF_own (f BX : Nat) (eg : ∀ args w, (callFunc f args).run Tryz.prog w = .ok (.enter f args) w) (p : Co.C → Bool) (B : Nat) (o : Option Addr) (c : Nat) (l x : List Co.C) (hx : x = l.filter fun c => !p c) (w : World) (hp : Asks f #[.pointer (some ⟨BX, 0, none⟩)] p B w)
    (hown : w.ownsRow B 53 2 (.slice o l.length c) l.length (Co.cells l)) (hlen : l.length ≤ 10000) :
    Calls Tryz.prog 77 #[.slice o l.length c, .func (.func f) #[] #[.pointer (some ⟨BX, 0, none⟩)]] w (DelRow B w x) := by
  subst hx
  have hC := own_came hown
  rcases Nat.eq_zero_or_pos l.length with h0 | h0
  · obtain rfl := List.length_eq_zero_iff.1 h0
    refine (delF_none o c _ w).mono ?_
    rintro e w' ⟨rfl, rfl⟩
    exact ⟨o, c, rfl, hC, .inl rfl, Below.refl _ _⟩
  · obtain ⟨g, rfl, hgB, hgc⟩ : ∃ g, o = some ⟨g, 0, none⟩ ∧ B ≤ g ∧ l.length ≤ c := by
      rcases hown.2 with ⟨hv, h1⟩ | ⟨g, cap, cur, hv, hbg, hg, hnc, _⟩
      · omega
      · simp only [Value.slice.injEq] at hv
        exact ⟨g, hv.1, hbg, by rw [hv.2.2]; exact hnc⟩
    have hd : l = l.toArray.toList := by simp
    have hs : l.length = l.toArray.size := by simp
    have hown2 : w.ownsRow B 53 2 (.slice (some ⟨g, 0, none⟩) l.toArray.size c) l.toArray.size (Co.cells l.toArray.toList) := by simpa using hown
    have hcon := delF_row f BX eg p B g c l.toArray w hp (Co.holds_K (Co.K_row hown2)) hgB (by simp; omega) (by simpa using hgc) (by simpa using h0)
    rw [← hs, ← hd] at hcon
    refine hcon.mono ?_
    rintro e w' ⟨rfl, hh, hb⟩
    exact ⟨some ⟨g, 0, none⟩, c, rfl, hC, .inr ⟨g, rfl, hgB, hh⟩, hb⟩

set_option maxHeartbeats 2000000 in
theorem del_bad (ao bo : Option Addr) (ca cb n : Nat) (l : List Co.C) (w : World) (hA : Co.slot w ao l) (hs : Co.set l = false) :
    Calls Tryz.prog 47 #[.slice ao l.length ca, .slice bo n cb] w fun e w' => e = .returned (.tuple #[.slice none 0 0, .int .i64 1]) ∧ Below w.heap.size w w' := by
  have HA := hide (Co.slot_below hA (balloc (brefl w) (.cells #[.slice bo n cb] 23)))
  have HS := hide hs
  clear hA hs
  go_enter Tryz.func47, Tryz.ntmps47
  go_wp2_with fail
  refine (set_is ao ca l false HS.out _ HA.out).mono ?_
  rintro e w1 ⟨rfl, hb1⟩
  go_wp2_with fail
  exact bodyPost_ret (v := .tuple #[.slice none 0 0, .int .i64 1]) (by simp [results, Tryz.results47, go_sem]) rfl ⟨rfl, bthen (balloc (brefl w) _) hb1⟩

set_option maxHeartbeats 4000000 in
theorem del_good (ao bo : Option Addr) (ca cb : Nat) (l m x : List Co.C) (hx : x = l.filter fun c => !Co.inL m c) (w : World) (hA : Co.slot w ao l) (hM : Co.slot w bo m) (hC : Co.came ao ca) (hs : Co.set l = true) (hlm : m.length ≤ 10000) :
    Calls Tryz.prog 47 #[.slice ao l.length ca, .slice bo m.length cb] w (DelGood w x) := by
  have hl8 : l.length ≤ 8 := ((Co.set_iff l).1 hs).1
  have B0 := hide (balloc (brefl w) (.cells #[.slice bo m.length cb] 23))
  have HA := hide (Co.slot_below hA B0.out)
  have HM := hide (Co.slot_below hM B0.out)
  have HS := hide hs
  have HC := hide hC
  have HX := hide hx
  have K0 := hide (show (w.alloc (.cells #[.slice bo m.length cb] 23)).cell? ⟨w.heap.size, 0, none⟩ = some (.slice bo m.length cb) by simp)
  clear hA hM hs hC hx
  go_enter Tryz.func47, Tryz.ntmps47
  go_wp2_with fail
  generalize w.alloc (.cells #[.slice bo m.length cb] 23) = W0 at *
  generalize hR : w.heap.size = R at K0 ⊢
  refine (set_is ao ca l true HS.out _ HA.out).mono ?_
  rintro e w1 ⟨rfl, hb1⟩
  have HA1 := hide (Co.slot_below HA.out hb1)
  have HM1 := hide (Co.slot_below HM.out hb1)
  have K1 := hide ((hb1.cell (p := ⟨R, 0, none⟩) (block_lt_of_cell K0.out)).trans K0.out)
  have B1 := hide (bthen B0.out hb1)
  have HR := hide hR
  clear hb1 HA HM K0 hR
  go_wp2_with fail
  refine (clone_is ao ca l _ HA1.out HC.out (by omega)).mono ?_
  rintro e w2 ⟨o, c, rfl, hown, hb2⟩
  have CD := hide (delF_own 75 R (enters_of Tryz.func75 (by kernel_rfl) rfl) (fun c => Co.inL m c) w1.heap.size o c l x HX.out w2 (asks52 R cb bo m w1 w2 hb2 K1.out HM1.out hlm) hown (by omega))
  have B2 := hide (bthen B1.out hb2)
  have HZ : Hid (w.heap.size ≤ w1.heap.size) := B1.out.size
  clear hown hb2
  go_wp2_with fail
  refine CD.out.mono ?_
  rintro e w3 ⟨xo, xc, rfl, hcx, hwr, hb3⟩
  have HCX := hide hcx
  have HW : Hid (Co.wrow w.heap.size w3 xo x) := by
    rcases hwr with h | ⟨g, h1, h2, h3⟩
    · exact .inl h
    · exact .inr ⟨g, h1, Nat.le_trans HZ.out h2, h3⟩
  have B3 := hide (B2.out.trans (hb3.mono HZ.out))
  clear hcx hwr hb3 CD
  go_wp2_with fail
  exact bodyPost_ret (v := .tuple #[.slice xo x.length xc, .int .i64 0]) (by simp [results, Tryz.results47, go_sem]) rfl ⟨xo, xc, rfl, HCX.out, HW.out, B3.out⟩
end Go.Proofs.YtpkikfojiibdaaaGreatDoor.Cm

