import Derived.Test.YtpkikfojiibdaaaGreatDoorCA5
import Derived.Test.YtpkikfojiibdaaaGreatDoorCA1
import Derived.Test.YtpkikfojiibdaaaGreatDoorCS3
/- Rising lists; what a row sorted and made compact is; the contract of slices.SortFunc by order. -/
namespace Go.Proofs.YtpkikfojiibdaaaGreatDoor.Cm
open Go.RowKit Go.Sort Go.Lib

theorem Co.lt_ord : ltOf Co.ord = Co.bef := by
  funext x y
  rw [Co.bef_ord]
  rfl
theorem Co.swo : SWO (ltOf Co.ord) where
  irrefl := fun x => by rw [Co.lt_ord]; exact Co.bef_irr x
  trans := fun x y z h1 h2 => by rw [Co.lt_ord] at *; exact Co.bef_trans h1 h2
  ntrans := fun x y z h1 h2 => by
    rw [Co.lt_ord] at *
    cases h : Co.bef x z
    · rfl
    · rw [Co.bef_iff] at h
      have a : ¬ Co.bef x y = true := by rw [h1]; decide
      have b : ¬ Co.bef y z = true := by rw [h2]; decide
      rw [Co.bef_iff] at a b
      omega

theorem Co.comp_mem (d : Array Co.C) (c : Co.C) : c ∈ compactUpTo d d.size ↔ c ∈ d.toList := by
  constructor
  · intro h
    simp only [compactUpTo, List.mem_map, List.mem_filter, List.mem_range] at h
    obtain ⟨i, ⟨hi, _⟩, rfl⟩ := h
    rw [getElem!_pos d i hi]
    simp
  · intro h
    have key : ∀ i, i < d.size → d[i]! ∈ compactUpTo d d.size := by
      intro i
      induction i with
      | zero =>
        intro h0
        simp only [compactUpTo, List.mem_map, List.mem_filter, List.mem_range]
        exact ⟨0, ⟨h0, keeps_lt_one d 0 (by decide)⟩, rfl⟩
      | succ i ih =>
        intro h1
        by_cases e : d[i + 1]! = d[i]!
        · rw [e]
          exact ih (by omega)
        · simp only [compactUpTo, List.mem_map, List.mem_filter, List.mem_range]
          exact ⟨i + 1, ⟨h1, keeps_pos (by simpa using e)⟩, rfl⟩
    obtain ⟨i, hi, rfl⟩ := List.getElem_of_mem h
    have hi' : i < d.size := by simpa using hi
    have := key i hi'
    rw [getElem!_pos d i hi'] at this
    simpa using this

theorem Co.comp_rises (d : Array Co.C) (hs : ∀ i j, i < j → j < d.size → Co.bef d[j]! d[i]! = false) : Co.rises (compactUpTo d d.size) := by
  unfold Co.rises compactUpTo
  rw [List.pairwise_map]
  have h1 : ((List.range d.size).filter (keeps d)).Pairwise (fun i j => i < j ∧ (j < d.size ∧ keeps d j = true)) := by
    have h2 : ((List.range d.size).filter (keeps d)).Pairwise (· < ·) := (List.pairwise_lt_range).filter _
    refine h2.imp_of_mem ?_
    intro i j _ hj hij
    rw [List.mem_filter, List.mem_range] at hj
    exact ⟨hij, hj⟩
  refine h1.imp ?_
  rintro i j ⟨hij, hj, hk⟩
  obtain ⟨k, rfl⟩ : ∃ k, j = k + 1 := ⟨j - 1, by omega⟩
  have hne : d[k + 1]! ≠ d[k]! := by
    intro e
    rw [keeps_neg (by omega) (by simpa using e)] at hk
    cases hk
  have hlt : Co.bef d[k]! d[k + 1]! = true := by
    rcases Co.bef_total (hs k (k + 1) (by omega) hj) with e | e
    · exact absurd e.symm hne
    · exact e
  rcases Nat.lt_or_ge i k with h | h
  · rcases Co.bef_total (hs i k h (by omega)) with e | e
    · rw [e]; exact hlt
    · exact Co.bef_trans e hlt
  · obtain rfl : i = k := by omega
    exact hlt

theorem Co.holds_K {w : World} {g : Nat} {d : Array Co.C} (h : HoldsK Co.enc 2 w g 0 d) : Co.holds w g d := by
  intro i hi
  have a := h (i * 2) (by simp; omega)
  have b := h (i * 2 + 1) (by simp; omega)
  rw [get_flatK _ _ _ _ (by omega)] at a b
  rw [show i * 2 / 2 = i by omega, show i * 2 % 2 = 0 by omega, Nat.zero_add] at a
  rw [show (i * 2 + 1) / 2 = i by omega, show (i * 2 + 1) % 2 = 1 by omega, Nat.zero_add] at b
  exact ⟨a.1, b.1, a.2, b.2⟩

theorem Co.flat_cells (d : Array Co.C) (t : Nat) (h : t < d.size * 2) : (Co.cells d.toList)[t]? = some ((flatK Co.enc 2 d)[t]!) := by
  rw [get_flatK _ _ _ _ h]
  have hi : t / 2 < d.size := by omega
  have hg := Co.cells_get d.toList (t / 2) (by simpa using hi)
  have e : d.toList[t / 2]'(by simpa using hi) = d[t / 2]! := by simp [hi]
  rw [e] at hg
  rcases Nat.mod_two_eq_zero_or_one t with h2 | h2
  · have et : t / 2 * 2 = t := by omega
    rw [et] at hg
    rw [hg.1, h2]
    rfl
  · have et : t / 2 * 2 + 1 = t := by omega
    rw [et] at hg
    rw [hg.2, h2]
    rfl
theorem Co.K_row {w : World} {B g cap : Nat} {d : Array Co.C} (h : w.ownsRow B 53 2 (.slice (some ⟨g, 0, none⟩) d.size cap) d.size (Co.cells d.toList)) : HoldsK Co.enc 2 w g 0 d := by
  intro j hj
  have hj' : j < d.size * 2 := by simpa using hj
  rw [Nat.zero_add]
  exact ⟨(h.cellAt j hj').trans (Co.flat_cells d j hj'), h.frozenAt j⟩

theorem cmp_lays (blk off size : Nat) (w : World) : CmpLays Tryz.prog 64 #[] Co.enc 2 Co.ord blk off size w :=
  fun _ _ _ _ x y => order_any x.1 x.2 y.1 y.2 _ rfl _

theorem below_sortWorld (w : World) (B g n : Nat) (d : Array Co.C) (os : Array Obj) (hB : B ≤ g) (hg : g < w.heap.size) : Below B w (sortWorldK Co.enc 2 w g 0 n d os) := by
  refine ⟨rfl, rfl, rfl, by simp [sortWorldK, putRowK], fun k hk => ?_⟩
  unfold sortWorldK
  rw [heap_grow_old _ _ (by simp [putRowK]; omega)]
  show ((Sort.ahead w n).heap.modify g _)[k]? = _
  rw [Array.getElem?_modify, if_neg (by omega)]
  rfl

theorem sort_arr (B g cap : Nat) (d : Array Co.C) (w : World) (hB : B ≤ g) (hg : g < w.heap.size) (hsz : d.size ≤ 1000000)
    (hown : w.ownsRow B 53 2 (.slice (some ⟨g, 0, none⟩) d.size cap) d.size (Co.cells d.toList)) :
    Calls Tryz.prog 80 #[.slice (some ⟨g, 0, none⟩) d.size cap, .func (.func 64) #[] #[]] w fun e w' => e = .returned (.tuple #[]) ∧
      ∃ d' : Array Co.C, d'.size = d.size ∧ d'.toList.Perm d.toList ∧ (∀ i j, i < j → j < d'.size → Co.bef d'[j]! d'[i]! = false) ∧ Co.holds w' g d' ∧ Below B w w' := by
  have eg : ∀ args w, (callFunc 64 args).run Tryz.prog w = .ok (.enter 64 args) w := enters_of Tryz.func64 (by kernel_rfl) rfl
  have hH := Co.K_row hown
  have hcon := AnyQ.slices_SortFunc Tryz.sortF 2 Tryz.isAgg53 Tryz.sizeOf53 Co.enc (fun _ => rfl) (fun x v hv => by simp [Co.enc] at hv; rcases hv with rfl | rfl <;> rfl) Co.ord Co.swo 64 #[] g 0 cap d w eg (cmp_lays g 0 d.size w) hH hg (by omega)
  refine Calls.mono (show Calls Tryz.prog 80 _ _ _ from hcon) ?_
  rintro e w' ⟨he, d', n, os, hp, hs, rfl⟩
  refine ⟨he, d', hp.1, ?_, ?_, ?_, below_sortWorld w B g n d' os hB hg⟩
  · have := hp.2.2
    rwa [show d.extract 0 d.size = d from by simp, show d'.extract 0 d.size = d' from by rw [← hp.1]; simp] at this
  · intro i j hij hj
    have := hs i j (Nat.zero_le _) hij (by rw [← hp.1]; exact hj)
    rwa [Co.lt_ord] at this
  · refine Co.holds_K ?_
    unfold sortWorldK
    exact holdsK_grow _ _ _ _ _ _ _ (by simp [putRowK]; exact hg) (holdsK_putRowK _ _ _ _ _ d d' (holdsK_ahead _ _ _ _ _ _ _ hH) hp.1)

theorem sort_none (p : Option Addr) (cap : Nat) (fv : Value) (w : World) : Calls Tryz.prog 80 #[.slice p 0 cap, fv] w fun e w' => e = .returned (.tuple #[]) ∧ w' = w :=
  show Calls Tryz.prog 80 _ _ _ from AnyF.slices_SortFunc_none Tryz.sortF p cap fv w
end Go.Proofs.YtpkikfojiibdaaaGreatDoor.Cm

/- The contract of comm's Add. -/
namespace Go.Proofs.YtpkikfojiibdaaaGreatDoor.Cm
open Go.RowKit Go.Sort Go.Lib

/-- x has what l and m have, and rises. -/
def Co.uni (l m x : List Co.C) : Prop := Co.rises x ∧ ∀ c, c ∈ x ↔ c ∈ l ∨ c ∈ m
/-- A row of the call's own that may be written. -/
def Co.wrow (B : Nat) (w : World) (ao : Option Addr) (x : List Co.C) : Prop := x = [] ∨ ∃ g, ao = some ⟨g, 0, none⟩ ∧ B ≤ g ∧ Co.holds w g x.toArray
theorem Co.wrow_below {B : Nat} {w w' : World} {ao : Option Addr} {x : List Co.C} (h : Co.wrow B w ao x) (hb : Below w.heap.size w w') : Co.wrow B w' ao x := by
  rcases h with h | ⟨g, h1, h2, h3⟩
  · exact .inl h
  · exact .inr ⟨g, h1, h2, Co.holds_below h3 hb⟩
theorem Co.wrow_slot {B : Nat} {w : World} {ao : Option Addr} {x : List Co.C} (h : Co.wrow B w ao x) : Co.slot w ao x := by
  rcases h with h | ⟨g, h1, h2, h3⟩
  · exact .inl h
  · refine .inr ⟨g, 0, h1, ?_⟩
    have := Co.holds_reads h3 x.length (by simp)
    simpa using this

/-- What Add hands back where it can. -/
def AddGood (w : World) (l m : List Co.C) (e : Ending) (w' : World) : Prop :=
  ∃ (x : List Co.C) (xo : Option Addr) (xc : Nat), Co.uni l m x ∧ Co.came xo xc ∧ Co.wrow w.heap.size w' xo x ∧ Below w.heap.size w w' ∧
    ((x.length ≤ 8 ∧ e = .returned (.tuple #[.slice xo x.length xc, .int .i64 0])) ∨ (8 < x.length ∧ e = .returned (.tuple #[.slice none 0 0, .int .i64 2])))

theorem compact_none (p : Option Addr) (cap : Nat) (w : World) : Calls Tryz.prog 81 #[.slice p 0 cap] w fun e w' => e = .returned (.slice p 0 cap) ∧ w' = w := by
  go_enter Tryz.func81, Tryz.ntmps81
  go_wp2_with fail
  go_ret
  exact ⟨rfl, rfl⟩

theorem own_came {w : World} {B n cap : Nat} {ao : Option Addr} {xs : List Value} (h : w.ownsRow B 53 2 (.slice ao n cap) n xs) : Co.came ao cap := by
  rcases h.2 with ⟨hv, h0⟩ | ⟨g, cap', cur, hv, _⟩
  · simp only [Value.slice.injEq] at hv
    exact ⟨fun _ => hv.2.2, fun ad h => (by rw [hv.1] at h; cases h)⟩
  · simp only [Value.slice.injEq] at hv
    refine ⟨fun h => (by rw [hv.1] at h; cases h), fun ad h => ?_⟩
    rw [hv.1] at h
    cases h
    rfl

set_option maxHeartbeats 2000000 in
theorem add_bad1 (ao bo : Option Addr) (ca cb n : Nat) (l : List Co.C) (w : World) (hA : Co.slot w ao l) (hs : Co.set l = false) :
    Calls Tryz.prog 48 #[.slice ao l.length ca, .slice bo n cb] w fun e w' => e = .returned (.tuple #[.slice none 0 0, .int .i64 1]) ∧ Below w.heap.size w w' := by
  have HA := hide hA
  have HS := hide hs
  clear hA hs
  go_enter Tryz.func48, Tryz.ntmps48
  go_wp2_with fail
  refine (set_is ao ca l false HS.out _ HA.out).mono ?_
  rintro e w1 ⟨rfl, hb1⟩
  go_wp2_with fail
  exact bodyPost_ret (v := .tuple #[.slice none 0 0, .int .i64 1]) (by simp [results, Tryz.results48, go_sem]) rfl ⟨rfl, hb1⟩

set_option maxHeartbeats 2000000 in
theorem add_bad2 (ao bo : Option Addr) (ca cb : Nat) (l m : List Co.C) (w : World) (hA : Co.slot w ao l) (hB : Co.slot w bo m) (hs : Co.set l = true) (hm : (m.any fun x => !Co.may x) = true) (hlb : m.length ≤ 10000) :
    Calls Tryz.prog 48 #[.slice ao l.length ca, .slice bo m.length cb] w fun e w' => e = .returned (.tuple #[.slice none 0 0, .int .i64 1]) ∧ Below w.heap.size w w' := by
  have HA := hide hA
  have HB := hide hB
  have HS := hide hs
  have HM := hide hm
  clear hA hB hs hm
  go_enter Tryz.func48, Tryz.ntmps48
  go_wp2_with fail
  refine (set_is ao ca l true HS.out _ HA.out).mono ?_
  rintro e w1 ⟨rfl, hb1⟩
  have HB1 := hide (Co.slot_below HB.out hb1)
  have B1 := hide hb1
  clear hb1
  go_wp2_with fail
  refine (containsF_is bo cb m true HM.out _ HB1.out (by omega)).mono ?_
  rintro e w2 ⟨rfl, hb2⟩
  go_wp2_with fail
  exact bodyPost_ret (v := .tuple #[.slice none 0 0, .int .i64 1]) (by simp [results, Tryz.results48, go_sem]) rfl ⟨rfl, bthen B1.out hb2⟩

set_option maxHeartbeats 4000000 in
theorem add_good (ao bo : Option Addr) (ca cb : Nat) (l m : List Co.C) (w : World) (hA : Co.slot w ao l) (hB : Co.slot w bo m) (hCA : Co.came ao ca) (hCB : Co.came bo cb) (hs : Co.set l = true) (hm : (m.any fun x => !Co.may x) = false) (hlb : m.length ≤ 10000) :
    Calls Tryz.prog 48 #[.slice ao l.length ca, .slice bo m.length cb] w (AddGood w l m) := by
  have hla : l.length ≤ 8 := ((Co.set_iff l).1 hs).1
  have HA := hide hA
  have HB := hide hB
  have HS := hide hs
  have HM := hide hm
  have HCA := hide hCA
  have HCB := hide hCB
  clear hA hB hs hm hCA hCB
  go_enter Tryz.func48, Tryz.ntmps48
  go_wp2_with fail
  refine (set_is ao ca l true HS.out _ HA.out).mono ?_
  rintro e w1 ⟨rfl, hb1⟩
  have HB1 := hide (Co.slot_below HB.out hb1)
  have HA1 := hide (Co.slot_below HA.out hb1)
  have B1 := hide hb1
  clear hb1
  go_wp2_with fail
  refine (containsF_is bo cb m false HM.out _ HB1.out (by omega)).mono ?_
  rintro e w2 ⟨rfl, hb2⟩
  have HB2 := hide (Co.slot_below HB1.out hb2)
  have HA2 := hide (Co.slot_below HA1.out hb2)
  have B2 := hide (bthen B1.out hb2)
  clear hb2
  go_wp2_with fail
  have CC := hide (concat_is w2.heap.size 2 ao bo ca cb l m (w2.alloc (.cells #[.slice ao l.length ca, .slice bo m.length cb] 23)) (by simp) (by simp) (Co.slot_below HA2.out (balloc (brefl w2) _)) (Co.slot_below HB2.out (balloc (brefl w2) _)) HCA.out HCB.out (by omega) hlb)
  refine CC.out.mono ?_
  rintro e w3 ⟨v, rfl, hown, hb3⟩
  obtain ⟨no, nc, rfl⟩ := row_slice hown
  have HO := hide hown
  have HZ : Hid (w.heap.size ≤ (w2.alloc (.cells #[.slice ao l.length ca, .slice bo m.length cb] 23)).heap.size) := by
    show _ ≤ _
    have := B2.out.size
    simp
    omega
  have B3 := hide (bthen (balloc B2.out (.cells #[.slice ao l.length ca, .slice bo m.length cb] 23)) hb3)
  have B3' := hide hb3
  have HCN := hide (own_came hown)
  clear hown hb3 CC
  rcases Nat.eq_zero_or_pos (l.length + m.length) with h0 | h0
  · have hl0 : l = [] := List.length_eq_zero_iff.1 (by omega)
    have hm0 : m = [] := List.length_eq_zero_iff.1 (by omega)
    have HU : Hid (Co.uni l m []) := by subst hl0 hm0; exact ⟨List.Pairwise.nil, by simp⟩
    rw [h0]
    clear HO
    go_wp2_with fail
    refine (sort_none _ _ _ _).mono ?_
    rintro e w4 ⟨rfl, rfl⟩
    go_wp2_with fail
    refine (compact_none _ _ _).mono ?_
    rintro e w5 ⟨rfl, rfl⟩
    go_wp2_with fail
    exact bodyPost_ret (v := .tuple #[.slice no 0 nc, .int .i64 0]) (by simp [results, Tryz.results48, go_sem]) rfl ⟨[], no, nc, HU.out, HCN.out, .inl rfl, B3.out, .inl ⟨by decide, rfl⟩⟩
  · obtain ⟨g, hgo, hgB, hgl, hgc⟩ : ∃ g, no = some ⟨g, 0, none⟩ ∧ (w2.alloc (.cells #[.slice ao l.length ca, .slice bo m.length cb] 23)).heap.size ≤ g ∧ g < w3.heap.size ∧ l.length + m.length ≤ nc := by
      rcases HO.out.2 with ⟨hv, h1⟩ | ⟨g, cap, cur, hv, hbg, hg, hnc, _⟩
      · omega
      · simp only [Value.slice.injEq] at hv
        exact ⟨g, hv.1, hbg, heap_lt hg, by rw [hv.2.2]; exact hnc⟩
    subst hgo
    obtain ⟨base, hbase⟩ : ∃ base, base = (w2.alloc (.cells #[.slice ao l.length ca, .slice bo m.length cb] 23)).heap.size := ⟨_, rfl⟩
    rw [← hbase] at hgB HZ HO
    clear hbase B3'
    obtain ⟨d, hd⟩ : ∃ d : Array Co.C, d.toList = l ++ m := ⟨(l ++ m).toArray, by simp⟩
    have hds : l.length + m.length = d.size := by rw [← Array.length_toList, hd, List.length_append]
    rw [hds, ← hd] at HO
    rw [hds] at hgc ⊢
    have HD := hide hd
    have hd1000 : d.size ≤ 100000 := by omega
    clear hd h0 hds
    have CS := hide (sort_arr base g nc d w3 hgB hgl (by omega) HO.out)
    go_wp2_with fail
    refine CS.out.mono ?_
    rintro e w4 ⟨rfl, d', hsz, hperm, hsort, hho, hb4⟩
    have HSZ := hide hsz
    have CK := hide (compact_is g nc base d' w4 hho hgB (by omega) (by omega))
    rw [hsz] at CK
    have HU : Hid (Co.uni l m (compactUpTo d' d.size)) := by
      show Co.rises _ ∧ _
      rw [← hsz]
      refine ⟨Co.comp_rises d' hsort, fun c => ?_⟩
      rw [Co.comp_mem, hperm.mem_iff, HD.out, List.mem_append]
    have B4 := hide (B3.out.trans (hb4.mono HZ.out))
    clear hsz hperm hsort hho hb4 CS
    go_wp2_with fail
    refine CK.out.mono ?_
    rintro e w5 ⟨rfl, hho5, hb5⟩
    have HO5 := hide hho5
    have B5 := hide (B4.out.trans (hb5.mono HZ.out))
    have HGW : Hid (w.heap.size ≤ g) := Nat.le_trans HZ.out hgB
    clear hho5 hb5 CK
    generalize compactUpTo d' d.size = x at *
    by_cases hx8 : x.length ≤ 8
    · have hx8' : ¬ (8 : Int) < (x.length : Int) := by omega
      go_wp2_with fail
      exact bodyPost_ret (v := .tuple #[.slice (some ⟨g, 0, none⟩) x.length nc, .int .i64 0]) (by simp [results, Tryz.results48, go_sem]) rfl ⟨x, _, nc, HU.out, HCN.out, .inr ⟨g, rfl, HGW.out, HO5.out⟩, B5.out, .inl ⟨hx8, rfl⟩⟩
    · have hx8' : (8 : Int) < (x.length : Int) := by omega
      go_wp2_with fail
      exact bodyPost_ret (v := .tuple #[.slice none 0 0, .int .i64 2]) (by simp [results, Tryz.results48, go_sem]) rfl ⟨x, _, nc, HU.out, HCN.out, .inr ⟨g, rfl, HGW.out, HO5.out⟩, B5.out, .inr ⟨by omega, rfl⟩⟩
end Go.Proofs.YtpkikfojiibdaaaGreatDoor.Cm

