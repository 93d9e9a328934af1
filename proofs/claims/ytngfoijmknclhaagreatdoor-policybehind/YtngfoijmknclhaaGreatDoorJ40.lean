/- The contracts of comm's Del and Both. -/
import Derived.Test.YtngfoijmknclhaaGreatDoorJ39
namespace Go.Proofs.YtngfoijmknclhaaGreatDoor.Cm
open Go.RowKit Go.Sort Go.Lib
theorem clo52 (a b : Int) (BX cb : Nat) (bo : Option Addr) (m : List Co.C) (r : Bool) (hr : Co.inL m (a, b) = r) (W : World) (hX : W.cell? ⟨BX, 0, none⟩ = some (.slice bo m.length cb)) (hM : Co.slot W bo m) (hlen : m.length ≤ 10000) :
    Calls Tryz.prog 167 #[.agg #[.int .i64 a, .int .i64 b], .pointer (some ⟨BX, 0, none⟩)] W fun e w' => e = .returned (.bool r) ∧ Below W.heap.size W w' := by
  have HM := hide (Co.slot_below hM (balloc (brefl W) (.cells #[.int .i64 a, .int .i64 b] 39)))
  have HR := hide hr
  have hne : BX ≠ W.heap.size := Nat.ne_of_lt (block_lt_of_cell hX)
  have hlt : BX < W.heap.size := block_lt_of_cell hX
  clear hr hM
  go_enter Tryz.func167, Tryz.ntmps167
  go_wp2_with fail
  refine (contains_is bo cb m a b r HR.out _ HM.out (by omega)).mono ?_
  rintro e w1 ⟨rfl, hb1⟩
  go_wp2_with fail
  go_ret
  exact ⟨rfl, bthen (balloc (brefl W) _) hb1⟩
theorem asks52 (BX cb : Nat) (bo : Option Addr) (m : List Co.C) (w w' : World) (hb : Below w.heap.size w w') (hX : w.cell? ⟨BX, 0, none⟩ = some (.slice bo m.length cb)) (hM : Co.slot w bo m) (hlen : m.length ≤ 10000) :
    Asks 167 #[.pointer (some ⟨BX, 0, none⟩)] (fun c => Co.inL m c) w.heap.size w' := fun W x hW => by
  have h := hb.trans hW
  exact clo52 x.1 x.2 BX cb bo m _ rfl W ((h.cell (p := ⟨BX, 0, none⟩) (block_lt_of_cell hX)).trans hX) (Co.slot_below hM h) hlen
/-- What is handed back: a row of the call's own, with x. -/
def DelGood (w : World) (x : List Co.C) (e : Ending) (w' : World) : Prop :=
  ∃ (o : Option Addr) (c : Nat), e = .returned (.tuple #[.slice o x.length c, .int .i64 0]) ∧ Co.came o c ∧ Co.wrow w.heap.size w' o x ∧ Below w.heap.size w w'
/-- DeleteFunc on a clone. -/
def DelRow (B : Nat) (w : World) (x : List Co.C) (e : Ending) (w' : World) : Prop :=
  ∃ (o : Option Addr) (c : Nat), e = .returned (.slice o x.length c) ∧ Co.came o c ∧ Co.wrow B w' o x ∧ Below B w w'

theorem delF_own (f BX : Nat) (eg : ∀ args w, (callFunc f args).run Tryz.prog w = .ok (.enter f args) w) (p : Co.C → Bool) (B : Nat) (o : Option Addr) (c : Nat) (l x : List Co.C) (hx : x = l.filter fun c => !p c) (w : World) (hp : Asks f #[.pointer (some ⟨BX, 0, none⟩)] p B w)
    (hown : w.ownsRow B 39 2 (.slice o l.length c) l.length (Co.cells l)) (hlen : l.length ≤ 10000) :
    Calls Tryz.prog 168 #[.slice o l.length c, .func (.func f) #[] #[.pointer (some ⟨BX, 0, none⟩)]] w (DelRow B w x) := by
  subst hx
  have hC := own_came hown
  rcases Nat.eq_zero_or_pos l.length with h0 | h0
  · obtain rfl := List.length_eq_zero_iff.1 h0
    refine (delF_none o c _ w).mono ?_
    rintro e w' ⟨rfl, rfl⟩
    exact ⟨o, c, rfl, hC, .inl rfl, Below.refl _ _⟩
  · obtain ⟨g, rfl, hgB, hgc⟩ : ∃ g, o = some ⟨g, 0, none⟩ ∧ B ≤ g ∧ l.length ≤ c := by
      rcases hown.2 with ⟨hv, h1⟩ | ⟨g, cap, cur, hv, hbg, hg, hnc, _⟩
      · omega
      · simp only [Value.slice.injEq] at hv
        exact ⟨g, hv.1, hbg, by rw [hv.2.2]; exact hnc⟩
    have hd : l = l.toArray.toList := by simp
    have hs : l.length = l.toArray.size := by simp
    have hown2 : w.ownsRow B 39 2 (.slice (some ⟨g, 0, none⟩) l.toArray.size c) l.toArray.size (Co.cells l.toArray.toList) := by simpa using hown
    have hcon := delF_row f BX eg p B g c l.toArray w hp (Co.holds_K (Co.K_row hown2)) hgB (by simp; omega) (by simpa using hgc) (by simpa using h0)
    rw [← hs, ← hd] at hcon
    refine hcon.mono ?_
    rintro e w' ⟨rfl, hh, hb⟩
    exact ⟨some ⟨g, 0, none⟩, c, rfl, hC, .inr ⟨g, rfl, hgB, hh⟩, hb⟩

set_option maxHeartbeats 4000000 in
theorem del_good (ao bo : Option Addr) (ca cb : Nat) (l m x : List Co.C) (hx : x = l.filter fun c => !Co.inL m c) (w : World) (hA : Co.slot w ao l) (hM : Co.slot w bo m) (hC : Co.came ao ca) (hs : Co.set l = true) (hlm : m.length ≤ 10000) :
    Calls Tryz.prog 149 #[.slice ao l.length ca, .slice bo m.length cb] w (DelGood w x) := by
  have hl8 : l.length ≤ 8 := ((Co.set_iff l).1 hs).1
  have B0 := hide (balloc (brefl w) (.cells #[.slice bo m.length cb] 28))
  have HA := hide (Co.slot_below hA B0.out)
  have HM := hide (Co.slot_below hM B0.out)
  have HS := hide hs
  have HC := hide hC
  have HX := hide hx
  have K0 := hide (show (w.alloc (.cells #[.slice bo m.length cb] 28)).cell? ⟨w.heap.size, 0, none⟩ = some (.slice bo m.length cb) by simp)
  clear hA hM hs hC hx
  go_enter Tryz.func149, Tryz.ntmps149
  go_wp2_with fail
  generalize w.alloc (.cells #[.slice bo m.length cb] 28) = W0 at *
  generalize hR : w.heap.size = R at K0 ⊢
  refine (set_is ao ca l true HS.out _ HA.out).mono ?_
  rintro e w1 ⟨rfl, hb1⟩
  have HA1 := hide (Co.slot_below HA.out hb1)
  have HM1 := hide (Co.slot_below HM.out hb1)
  have K1 := hide ((hb1.cell (p := ⟨R, 0, none⟩) (block_lt_of_cell K0.out)).trans K0.out)
  have B1 := hide (bthen B0.out hb1)
  have HR := hide hR
  clear hb1 HA HM K0 hR
  go_wp2_with fail
  refine (clone_is ao ca l _ HA1.out HC.out (by omega)).mono ?_
  rintro e w2 ⟨o, c, rfl, hown, hb2⟩
  have CD := hide (delF_own 167 R (enters_of Tryz.func167 (by kernel_rfl) rfl) (fun c => Co.inL m c) w1.heap.size o c l x HX.out w2 (asks52 R cb bo m w1 w2 hb2 K1.out HM1.out hlm) hown (by omega))
  have B2 := hide (bthen B1.out hb2)
  have HZ : Hid (w.heap.size ≤ w1.heap.size) := B1.out.size
  clear hown hb2
  go_wp2_with fail
  refine CD.out.mono ?_
  rintro e w3 ⟨xo, xc, rfl, hcx, hwr, hb3⟩
  have HCX := hide hcx
  have HW : Hid (Co.wrow w.heap.size w3 xo x) := by
    rcases hwr with h | ⟨g, h1, h2, h3⟩
    · exact .inl h
    · exact .inr ⟨g, h1, Nat.le_trans HZ.out h2, h3⟩
  have B3 := hide (B2.out.trans (hb3.mono HZ.out))
  clear hcx hwr hb3 CD
  go_wp2_with fail
  exact bodyPost_ret (v := .tuple #[.slice xo x.length xc, .int .i64 0]) (by simp [results, Tryz.results149, go_sem]) rfl ⟨xo, xc, rfl, HCX.out, HW.out, B3.out⟩
end Go.Proofs.YtngfoijmknclhaaGreatDoor.Cm
