/- The contract of comm's Add. -/
import Derived.Test.YtgebfgjeckdngaaDoorA7
namespace Go.Proofs.YtgebfgjeckdngaaDoor
open Go.RowKit Go.Sort Go.Lib

/-- x has what l and m have, and rises. -/
def Co.uni (l m x : List Co.C) : Prop := Co.rises x ∧ ∀ c, c ∈ x ↔ c ∈ l ∨ c ∈ m
/-- A row of the call's own that may be written. -/
def Co.wrow (B : Nat) (w : World) (ao : Option Addr) (x : List Co.C) : Prop := x = [] ∨ ∃ g, ao = some ⟨g, 0, none⟩ ∧ B ≤ g ∧ Co.holds w g x.toArray
theorem Co.wrow_below {B : Nat} {w w' : World} {ao : Option Addr} {x : List Co.C} (h : Co.wrow B w ao x) (hb : Below w.heap.size w w') : Co.wrow B w' ao x := by
  rcases h with h | ⟨g, h1, h2, h3⟩
  · exact .inl h
  · exact .inr ⟨g, h1, h2, Co.holds_below h3 hb⟩
theorem Co.wrow_slot {B : Nat} {w : World} {ao : Option Addr} {x : List Co.C} (h : Co.wrow B w ao x) : Co.slot w ao x := by
  rcases h with h | ⟨g, h1, h2, h3⟩
  · exact .inl h
  · refine .inr ⟨g, 0, h1, ?_⟩
    have := Co.holds_reads h3 x.length (by simp)
    simpa using this

/-- What Add hands back where it can. -/
def AddGood (w : World) (l m : List Co.C) (e : Ending) (w' : World) : Prop :=
  ∃ (x : List Co.C) (xo : Option Addr) (xc : Nat), Co.uni l m x ∧ Co.came xo xc ∧ Co.wrow w.heap.size w' xo x ∧ Below w.heap.size w w' ∧
    ((x.length ≤ 8 ∧ e = .returned (.tuple #[.slice xo x.length xc, .int .i64 0])) ∨ (8 < x.length ∧ e = .returned (.tuple #[.slice none 0 0, .int .i64 2])))

theorem compact_none (p : Option Addr) (cap : Nat) (w : World) : Calls Tryd.prog 50 #[.slice p 0 cap] w fun e w' => e = .returned (.slice p 0 cap) ∧ w' = w := by
  go_enter Tryd.func50, Tryd.ntmps50
  go_wp2_with fail
  go_ret
  exact ⟨rfl, rfl⟩

theorem own_came {w : World} {B n cap : Nat} {ao : Option Addr} {xs : List Value} (h : w.ownsRow B 23 2 (.slice ao n cap) n xs) : Co.came ao cap := by
  rcases h.2 with ⟨hv, h0⟩ | ⟨g, cap', cur, hv, _⟩
  · simp only [Value.slice.injEq] at hv
    exact ⟨fun _ => hv.2.2, fun ad h => (by rw [hv.1] at h; cases h)⟩
  · simp only [Value.slice.injEq] at hv
    refine ⟨fun h => (by rw [hv.1] at h; cases h), fun ad h => ?_⟩
    rw [hv.1] at h
    cases h
    rfl

set_option maxHeartbeats 2000000 in
theorem add_bad1 (ao bo : Option Addr) (ca cb n : Nat) (l : List Co.C) (w : World) (hA : Co.slot w ao l) (hs : Co.set l = false) :
    Calls Tryd.prog 28 #[.slice ao l.length ca, .slice bo n cb] w fun e w' => e = .returned (.tuple #[.slice none 0 0, .int .i64 1]) ∧ Below w.heap.size w w' := by
  have HA := hide hA
  have HS := hide hs
  clear hA hs
  go_enter Tryd.func28, Tryd.ntmps28
  go_wp2_with fail
  refine (set_is ao ca l false HS.out _ HA.out).mono ?_
  rintro e w1 ⟨rfl, hb1⟩
  go_wp2_with fail
  exact bodyPost_ret (v := .tuple #[.slice none 0 0, .int .i64 1]) (by simp [results, Tryd.results28, go_sem]) rfl ⟨rfl, hb1⟩

set_option maxHeartbeats 2000000 in
theorem add_bad2 (ao bo : Option Addr) (ca cb : Nat) (l m : List Co.C) (w : World) (hA : Co.slot w ao l) (hB : Co.slot w bo m) (hs : Co.set l = true) (hm : (m.any fun x => !Co.may x) = true) (hlb : m.length ≤ 10000) :
    Calls Tryd.prog 28 #[.slice ao l.length ca, .slice bo m.length cb] w fun e w' => e = .returned (.tuple #[.slice none 0 0, .int .i64 1]) ∧ Below w.heap.size w w' := by
  have HA := hide hA
  have HB := hide hB
  have HS := hide hs
  have HM := hide hm
  clear hA hB hs hm
  go_enter Tryd.func28, Tryd.ntmps28
  go_wp2_with fail
  refine (set_is ao ca l true HS.out _ HA.out).mono ?_
  rintro e w1 ⟨rfl, hb1⟩
  have HB1 := hide (Co.slot_below HB.out hb1)
  have B1 := hide hb1
  clear hb1
  go_wp2_with fail
  refine (containsF_is bo cb m true HM.out _ HB1.out (by omega)).mono ?_
  rintro e w2 ⟨rfl, hb2⟩
  go_wp2_with fail
  exact bodyPost_ret (v := .tuple #[.slice none 0 0, .int .i64 1]) (by simp [results, Tryd.results28, go_sem]) rfl ⟨rfl, bthen B1.out hb2⟩

set_option maxHeartbeats 4000000 in
theorem add_good (ao bo : Option Addr) (ca cb : Nat) (l m : List Co.C) (w : World) (hA : Co.slot w ao l) (hB : Co.slot w bo m) (hCA : Co.came ao ca) (hCB : Co.came bo cb) (hs : Co.set l = true) (hm : (m.any fun x => !Co.may x) = false) (hlb : m.length ≤ 10000) :
    Calls Tryd.prog 28 #[.slice ao l.length ca, .slice bo m.length cb] w (AddGood w l m) := by
  have hla : l.length ≤ 8 := ((Co.set_iff l).1 hs).1
  have HA := hide hA
  have HB := hide hB
  have HS := hide hs
  have HM := hide hm
  have HCA := hide hCA
  have HCB := hide hCB
  clear hA hB hs hm hCA hCB
  go_enter Tryd.func28, Tryd.ntmps28
  go_wp2_with fail
  refine (set_is ao ca l true HS.out _ HA.out).mono ?_
  rintro e w1 ⟨rfl, hb1⟩
  have HB1 := hide (Co.slot_below HB.out hb1)
  have HA1 := hide (Co.slot_below HA.out hb1)
  have B1 := hide hb1
  clear hb1
  go_wp2_with fail
  refine (containsF_is bo cb m false HM.out _ HB1.out (by omega)).mono ?_
  rintro e w2 ⟨rfl, hb2⟩
  have HB2 := hide (Co.slot_below HB1.out hb2)
  have HA2 := hide (Co.slot_below HA1.out hb2)
  have B2 := hide (bthen B1.out hb2)
  clear hb2
  go_wp2_with fail
  have CC := hide (concat_is w2.heap.size 2 ao bo ca cb l m (w2.alloc (.cells #[.slice ao l.length ca, .slice bo m.length cb] 32)) (by simp) (by simp) (Co.slot_below HA2.out (balloc (brefl w2) _)) (Co.slot_below HB2.out (balloc (brefl w2) _)) HCA.out HCB.out (by omega) hlb)
  refine CC.out.mono ?_
  rintro e w3 ⟨v, rfl, hown, hb3⟩
  obtain ⟨no, nc, rfl⟩ := row_slice hown
  have HO := hide hown
  have HZ : Hid (w.heap.size ≤ (w2.alloc (.cells #[.slice ao l.length ca, .slice bo m.length cb] 32)).heap.size) := by
    show _ ≤ _
    have := B2.out.size
    simp
    omega
  have B3 := hide (bthen (balloc B2.out (.cells #[.slice ao l.length ca, .slice bo m.length cb] 32)) hb3)
  have B3' := hide hb3
  have HCN := hide (own_came hown)
  clear hown hb3 CC
  rcases Nat.eq_zero_or_pos (l.length + m.length) with h0 | h0
  · have hl0 : l = [] := List.length_eq_zero_iff.1 (by omega)
    have hm0 : m = [] := List.length_eq_zero_iff.1 (by omega)
    have HU : Hid (Co.uni l m []) := by subst hl0 hm0; exact ⟨List.Pairwise.nil, by simp⟩
    rw [h0]
    clear HO
    go_wp2_with fail
    refine (sort_none _ _ _ _).mono ?_
    rintro e w4 ⟨rfl, rfl⟩
    go_wp2_with fail
    refine (compact_none _ _ _).mono ?_
    rintro e w5 ⟨rfl, rfl⟩
    go_wp2_with fail
    exact bodyPost_ret (v := .tuple #[.slice no 0 nc, .int .i64 0]) (by simp [results, Tryd.results28, go_sem]) rfl ⟨[], no, nc, HU.out, HCN.out, .inl rfl, B3.out, .inl ⟨by decide, rfl⟩⟩
  · obtain ⟨g, hgo, hgB, hgl, hgc⟩ : ∃ g, no = some ⟨g, 0, none⟩ ∧ (w2.alloc (.cells #[.slice ao l.length ca, .slice bo m.length cb] 32)).heap.size ≤ g ∧ g < w3.heap.size ∧ l.length + m.length ≤ nc := by
      rcases HO.out.2 with ⟨hv, h1⟩ | ⟨g, cap, cur, hv, hbg, hg, hnc, _⟩
      · omega
      · simp only [Value.slice.injEq] at hv
        exact ⟨g, hv.1, hbg, heap_lt hg, by rw [hv.2.2]; exact hnc⟩
    subst hgo
    obtain ⟨base, hbase⟩ : ∃ base, base = (w2.alloc (.cells #[.slice ao l.length ca, .slice bo m.length cb] 32)).heap.size := ⟨_, rfl⟩
    rw [← hbase] at hgB HZ HO
    clear hbase B3'
    obtain ⟨d, hd⟩ : ∃ d : Array Co.C, d.toList = l ++ m := ⟨(l ++ m).toArray, by simp⟩
    have hds : l.length + m.length = d.size := by rw [← Array.length_toList, hd, List.length_append]
    rw [hds, ← hd] at HO
    rw [hds] at hgc ⊢
    have HD := hide hd
    have hd1000 : d.size ≤ 100000 := by omega
    clear hd h0 hds
    have CS := hide (sort_arr base g nc d w3 hgB hgl (by omega) HO.out)
    go_wp2_with fail
    refine CS.out.mono ?_
    rintro e w4 ⟨rfl, d', hsz, hperm, hsort, hho, hb4⟩
    have HSZ := hide hsz
    have CK := hide (compact_is g nc base d' w4 hho hgB (by omega) (by omega))
    rw [hsz] at CK
    have HU : Hid (Co.uni l m (compactUpTo d' d.size)) := by
      show Co.rises _ ∧ _
      rw [← hsz]
      refine ⟨Co.comp_rises d' hsort, fun c => ?_⟩
      rw [Co.comp_mem, hperm.mem_iff, HD.out, List.mem_append]
    have B4 := hide (B3.out.trans (hb4.mono HZ.out))
    clear hsz hperm hsort hho hb4 CS
    go_wp2_with fail
    refine CK.out.mono ?_
    rintro e w5 ⟨rfl, hho5, hb5⟩
    have HO5 := hide hho5
    have B5 := hide (B4.out.trans (hb5.mono HZ.out))
    have HGW : Hid (w.heap.size ≤ g) := Nat.le_trans HZ.out hgB
    clear hho5 hb5 CK
    generalize compactUpTo d' d.size = x at *
    by_cases hx8 : x.length ≤ 8
    · have hx8' : ¬ (8 : Int) < (x.length : Int) := by omega
      go_wp2_with fail
      exact bodyPost_ret (v := .tuple #[.slice (some ⟨g, 0, none⟩) x.length nc, .int .i64 0]) (by simp [results, Tryd.results28, go_sem]) rfl ⟨x, _, nc, HU.out, HCN.out, .inr ⟨g, rfl, HGW.out, HO5.out⟩, B5.out, .inl ⟨hx8, rfl⟩⟩
    · have hx8' : (8 : Int) < (x.length : Int) := by omega
      go_wp2_with fail
      exact bodyPost_ret (v := .tuple #[.slice none 0 0, .int .i64 2]) (by simp [results, Tryd.results28, go_sem]) rfl ⟨x, _, nc, HU.out, HCN.out, .inr ⟨g, rfl, HGW.out, HO5.out⟩, B5.out, .inr ⟨by omega, rfl⟩⟩
end Go.Proofs.YtgebfgjeckdngaaDoor
