/- Rising lists; what a row sorted and made compact is; the contract of slices.SortFunc by order. -/
import Derived.Test.YtngfoijmknclhaaGreatDoorJ03
import Derived.Test.YtngfoijmknclhaaGreatDoorJ05
import Derived.Test.YtngfoijmknclhaaGreatDoorJ07
import Derived.Test.YtngfoijmknclhaaGreatDoorJ26
import Derived.Test.YtngfoijmknclhaaGreatDoorJ28
import Derived.Test.YtngfoijmknclhaaGreatDoorJ31
import Derived.Test.YtngfoijmknclhaaGreatDoorJ32
import Derived.Laws.Rows
import Derived.Laws.EntriesVeiled
namespace Go.Proofs.YtngfoijmknclhaaGreatDoor.Cm
open Go.RowKit Go.Sort Go.Lib
theorem Co.lt_ord : ltOf Co.ord = Co.bef := by
  funext x y
  rw [Co.bef_ord]
  rfl
theorem Co.swo : SWO (ltOf Co.ord) where
  irrefl := fun x => by rw [Co.lt_ord]; exact Co.bef_irr x
  trans := fun x y z h1 h2 => by rw [Co.lt_ord] at *; exact Co.bef_trans h1 h2
  ntrans := fun x y z h1 h2 => by
    rw [Co.lt_ord] at *
    cases h : Co.bef x z
    · rfl
    · rw [Co.bef_iff] at h
      have a : ¬ Co.bef x y = true := by rw [h1]; decide
      have b : ¬ Co.bef y z = true := by rw [h2]; decide
      rw [Co.bef_iff] at a b
      omega

theorem Co.comp_mem (d : Array Co.C) (c : Co.C) : c ∈ compactUpTo d d.size ↔ c ∈ d.toList := by
  constructor
  · intro h
    simp only [compactUpTo, List.mem_map, List.mem_filter, List.mem_range] at h
    obtain ⟨i, ⟨hi, _⟩, rfl⟩ := h
    rw [getElem!_pos d i hi]
    simp
  · intro h
    have key : ∀ i, i < d.size → d[i]! ∈ compactUpTo d d.size := by
      intro i
      induction i with
      | zero =>
        intro h0
        simp only [compactUpTo, List.mem_map, List.mem_filter, List.mem_range]
        exact ⟨0, ⟨h0, keeps_lt_one d 0 (by decide)⟩, rfl⟩
      | succ i ih =>
        intro h1
        by_cases e : d[i + 1]! = d[i]!
        · rw [e]
          exact ih (by omega)
        · simp only [compactUpTo, List.mem_map, List.mem_filter, List.mem_range]
          exact ⟨i + 1, ⟨h1, keeps_pos (by simpa using e)⟩, rfl⟩
    obtain ⟨i, hi, rfl⟩ := List.getElem_of_mem h
    have hi' : i < d.size := by simpa using hi
    have := key i hi'
    rw [getElem!_pos d i hi'] at this
    simpa using this

theorem Co.comp_rises (d : Array Co.C) (hs : ∀ i j, i < j → j < d.size → Co.bef d[j]! d[i]! = false) : Co.rises (compactUpTo d d.size) := by
  unfold Co.rises compactUpTo
  rw [List.pairwise_map]
  have h1 : ((List.range d.size).filter (keeps d)).Pairwise (fun i j => i < j ∧ (j < d.size ∧ keeps d j = true)) := by
    have h2 : ((List.range d.size).filter (keeps d)).Pairwise (· < ·) := (List.pairwise_lt_range).filter _
    refine h2.imp_of_mem ?_
    intro i j _ hj hij
    rw [List.mem_filter, List.mem_range] at hj
    exact ⟨hij, hj⟩
  refine h1.imp ?_
  rintro i j ⟨hij, hj, hk⟩
  obtain ⟨k, rfl⟩ : ∃ k, j = k + 1 := ⟨j - 1, by omega⟩
  have hne : d[k + 1]! ≠ d[k]! := by
    intro e
    rw [keeps_neg (by omega) (by simpa using e)] at hk
    cases hk
  have hlt : Co.bef d[k]! d[k + 1]! = true := by
    rcases Co.bef_total (hs k (k + 1) (by omega) hj) with e | e
    · exact absurd e.symm hne
    · exact e
  rcases Nat.lt_or_ge i k with h | h
  · rcases Co.bef_total (hs i k h (by omega)) with e | e
    · rw [e]; exact hlt
    · exact Co.bef_trans e hlt
  · obtain rfl : i = k := by omega
    exact hlt

theorem Co.holds_K {w : World} {g : Nat} {d : Array Co.C} (h : HoldsK Co.enc 2 w g 0 d) : Co.holds w g d := by
  intro i hi
  have a := h (i * 2) (by simp; omega)
  have b := h (i * 2 + 1) (by simp; omega)
  rw [get_flatK _ _ _ _ (by omega)] at a b
  rw [show i * 2 / 2 = i by omega, show i * 2 % 2 = 0 by omega, Nat.zero_add] at a
  rw [show (i * 2 + 1) / 2 = i by omega, show (i * 2 + 1) % 2 = 1 by omega, Nat.zero_add] at b
  exact ⟨a.1, b.1, a.2, b.2⟩

theorem Co.flat_cells (d : Array Co.C) (t : Nat) (h : t < d.size * 2) : (Co.cells d.toList)[t]? = some ((flatK Co.enc 2 d)[t]!) := by
  rw [get_flatK _ _ _ _ h]
  have hi : t / 2 < d.size := by omega
  have hg := Co.cells_get d.toList (t / 2) (by simpa using hi)
  have e : d.toList[t / 2]'(by simpa using hi) = d[t / 2]! := by simp [hi]
  rw [e] at hg
  rcases Nat.mod_two_eq_zero_or_one t with h2 | h2
  · have et : t / 2 * 2 = t := by omega
    rw [et] at hg
    rw [hg.1, h2]
    rfl
  · have et : t / 2 * 2 + 1 = t := by omega
    rw [et] at hg
    rw [hg.2, h2]
    rfl
theorem Co.K_row {w : World} {B g cap : Nat} {d : Array Co.C} (h : w.ownsRow B 39 2 (.slice (some ⟨g, 0, none⟩) d.size cap) d.size (Co.cells d.toList)) : HoldsK Co.enc 2 w g 0 d := by
  intro j hj
  have hj' : j < d.size * 2 := by simpa using hj
  rw [Nat.zero_add]
  exact ⟨(h.cellAt j hj').trans (Co.flat_cells d j hj'), h.frozenAt j⟩

theorem cmp_lays (blk off size : Nat) (w : World) : CmpLays Tryz.prog 124 #[] Co.enc 2 Co.ord blk off size w :=
  fun _ _ _ _ x y => order_any x.1 x.2 y.1 y.2 _ rfl _

theorem below_sortWorld (w : World) (B g n : Nat) (d : Array Co.C) (os : Array Obj) (hB : B ≤ g) (hg : g < w.heap.size) : Below B w (sortWorldK Co.enc 2 w g 0 n d os) := by
  refine ⟨rfl, rfl, rfl, by simp [sortWorldK, putRowK], fun k hk => ?_⟩
  unfold sortWorldK
  rw [Go.Sort.heap_grow_old _ _ (by simp [putRowK]; omega)]
  show ((Sort.ahead w n).heap.modify g _)[k]? = _
  rw [Array.getElem?_modify, if_neg (by omega)]
  rfl

theorem sort_arr (B g cap : Nat) (d : Array Co.C) (w : World) (hB : B ≤ g) (hg : g < w.heap.size) (hsz : d.size ≤ 1000000)
    (hown : w.ownsRow B 39 2 (.slice (some ⟨g, 0, none⟩) d.size cap) d.size (Co.cells d.toList)) :
    Calls Tryz.prog 171 #[.slice (some ⟨g, 0, none⟩) d.size cap, .func (.func 124) #[] #[]] w fun e w' => e = .returned (.tuple #[]) ∧
      ∃ d' : Array Co.C, d'.size = d.size ∧ d'.toList.Perm d.toList ∧ (∀ i j, i < j → j < d'.size → Co.bef d'[j]! d'[i]! = false) ∧ Co.holds w' g d' ∧ Below B w w' := by
  have eg : ∀ args w, (callFunc 124 args).run Tryz.prog w = .ok (.enter 124 args) w := enters_of Tryz.func124 (by kernel_rfl) rfl
  have hH := Co.K_row hown
  have hcon := AnyQ.slices_SortFunc Tryz.sortF 2 Tryz.isAgg39 Tryz.sizeOf39 Co.enc (fun _ => rfl) (fun x v hv => by simp [Co.enc] at hv; rcases hv with rfl | rfl <;> rfl) Co.ord Co.swo 124 #[] g 0 cap d w eg (cmp_lays g 0 d.size w) hH hg (by omega)
  refine Calls.mono (show Calls Tryz.prog 171 _ _ _ from hcon) ?_
  rintro e w' ⟨he, d', n, os, hp, hs, rfl⟩
  refine ⟨he, d', hp.1, ?_, ?_, ?_, below_sortWorld w B g n d' os hB hg⟩
  · have := hp.2.2
    rwa [show d.extract 0 d.size = d from by simp, show d'.extract 0 d.size = d' from by rw [← hp.1]; simp] at this
  · intro i j hij hj
    have := hs i j (Nat.zero_le _) hij (by rw [← hp.1]; exact hj)
    rwa [Co.lt_ord] at this
  · refine Co.holds_K ?_
    unfold sortWorldK
    exact holdsK_grow _ _ _ _ _ _ _ (by simp [putRowK]; exact hg) (holdsK_putRowK _ _ _ _ _ d d' (holdsK_ahead _ _ _ _ _ _ _ hH) hp.1)

theorem sort_none (p : Option Addr) (cap : Nat) (fv : Value) (w : World) : Calls Tryz.prog 171 #[.slice p 0 cap, fv] w fun e w' => e = .returned (.tuple #[]) ∧ w' = w :=
  show Calls Tryz.prog 171 _ _ _ from AnyF.slices_SortFunc_none Tryz.sortF p cap fv w
end Go.Proofs.YtngfoijmknclhaaGreatDoor.Cm
namespace Go.Proofs.YtngfoijmknclhaaGreatDoor.Cm
open Go.RowKit Go.Sort Go.Lib
/-- A row of the call's own that may be written. -/
def Co.wrow (B : Nat) (w : World) (ao : Option Addr) (x : List Co.C) : Prop := x = [] ∨ ∃ g, ao = some ⟨g, 0, none⟩ ∧ B ≤ g ∧ Co.holds w g x.toArray
theorem Co.wrow_below {B : Nat} {w w' : World} {ao : Option Addr} {x : List Co.C} (h : Co.wrow B w ao x) (hb : Below w.heap.size w w') : Co.wrow B w' ao x := by
  rcases h with h | ⟨g, h1, h2, h3⟩
  · exact .inl h
  · exact .inr ⟨g, h1, h2, Co.holds_below h3 hb⟩
theorem Co.wrow_slot {B : Nat} {w : World} {ao : Option Addr} {x : List Co.C} (h : Co.wrow B w ao x) : Co.slot w ao x := by
  rcases h with h | ⟨g, h1, h2, h3⟩
  · exact .inl h
  · refine .inr ⟨g, 0, h1, ?_⟩
    have := Co.holds_reads h3 x.length (by simp)
    simpa using this

/-- What Add hands back where it can. -/
def AddGood (w : World) (l m : List Co.C) (e : Ending) (w' : World) : Prop :=
  ∃ (x : List Co.C) (xo : Option Addr) (xc : Nat), Co.uni l m x ∧ Co.came xo xc ∧ Co.wrow w.heap.size w' xo x ∧ Below w.heap.size w w' ∧
    ((x.length ≤ 8 ∧ e = .returned (.tuple #[.slice xo x.length xc, .int .i64 0])) ∨ (8 < x.length ∧ e = .returned (.tuple #[.slice none 0 0, .int .i64 2])))

theorem compact_none (p : Option Addr) (cap : Nat) (w : World) : Calls Tryz.prog 172 #[.slice p 0 cap] w fun e w' => e = .returned (.slice p 0 cap) ∧ w' = w := by
  go_enter Tryz.func172, Tryz.ntmps172
  go_wp2_with fail
  go_ret
  exact ⟨rfl, rfl⟩

theorem own_came {w : World} {B n cap : Nat} {ao : Option Addr} {xs : List Value} (h : w.ownsRow B 39 2 (.slice ao n cap) n xs) : Co.came ao cap := by
  rcases h.2 with ⟨hv, h0⟩ | ⟨g, cap', cur, hv, _⟩
  · simp only [Value.slice.injEq] at hv
    exact ⟨fun _ => hv.2.2, fun ad h => (by rw [hv.1] at h; cases h)⟩
  · simp only [Value.slice.injEq] at hv
    refine ⟨fun h => (by rw [hv.1] at h; cases h), fun ad h => ?_⟩
    rw [hv.1] at h
    cases h
    rfl

set_option maxHeartbeats 4000000 in
theorem add_good (ao bo : Option Addr) (ca cb : Nat) (l m : List Co.C) (w : World) (hA : Co.slot w ao l) (hB : Co.slot w bo m) (hCA : Co.came ao ca) (hCB : Co.nilW bo cb) (hs : Co.set l = true) (hm : (m.any fun x => !Co.may x) = false) (hlb : m.length ≤ 10000) :
    Calls Tryz.prog 150 #[.slice ao l.length ca, .slice bo m.length cb] w (AddGood w l m) := by
  have hla : l.length ≤ 8 := ((Co.set_iff l).1 hs).1
  have HA := hide hA
  have HB := hide hB
  have HS := hide hs
  have HM := hide hm
  have HCA := hide hCA
  have HCB := hide hCB
  clear hA hB hs hm hCA hCB
  go_enter Tryz.func150, Tryz.ntmps150
  go_wp2_with fail
  refine (set_is ao ca l true HS.out _ HA.out).mono ?_
  rintro e w1 ⟨rfl, hb1⟩
  have HB1 := hide (Co.slot_below HB.out hb1)
  have HA1 := hide (Co.slot_below HA.out hb1)
  have B1 := hide hb1
  clear hb1
  go_wp2_with fail
  refine (containsF_is bo cb m false HM.out _ HB1.out (by omega)).mono ?_
  rintro e w2 ⟨rfl, hb2⟩
  have HB2 := hide (Co.slot_below HB1.out hb2)
  have HA2 := hide (Co.slot_below HA1.out hb2)
  have B2 := hide (bthen B1.out hb2)
  clear hb2
  go_wp2_with fail
  have CC := hide (concat_is w2.heap.size 2 ao bo ca cb l m (w2.alloc (.cells #[.slice ao l.length ca, .slice bo m.length cb] 28)) (by simp) (by simp) (Co.slot_below HA2.out (balloc (brefl w2) _)) (Co.slot_below HB2.out (balloc (brefl w2) _)) HCA.out.1 HCB.out (by omega) hlb)
  refine CC.out.mono ?_
  rintro e w3 ⟨v, rfl, hown, hb3⟩
  obtain ⟨no, nc, rfl⟩ := row_slice hown
  have HO := hide hown
  have HZ : Hid (w.heap.size ≤ (w2.alloc (.cells #[.slice ao l.length ca, .slice bo m.length cb] 28)).heap.size) := by
    show _ ≤ _
    have := B2.out.size
    simp
    omega
  have B3 := hide (bthen (balloc B2.out (.cells #[.slice ao l.length ca, .slice bo m.length cb] 28)) hb3)
  have B3' := hide hb3
  have HCN := hide (own_came hown)
  clear hown hb3 CC
  rcases Nat.eq_zero_or_pos (l.length + m.length) with h0 | h0
  · have hl0 : l = [] := List.length_eq_zero_iff.1 (by omega)
    have hm0 : m = [] := List.length_eq_zero_iff.1 (by omega)
    have HU : Hid (Co.uni l m []) := by subst hl0 hm0; exact ⟨List.Pairwise.nil, by simp⟩
    rw [h0]
    clear HO
    go_wp2_with fail
    refine (sort_none _ _ _ _).mono ?_
    rintro e w4 ⟨rfl, rfl⟩
    go_wp2_with fail
    refine (compact_none _ _ _).mono ?_
    rintro e w5 ⟨rfl, rfl⟩
    go_wp2_with fail
    exact bodyPost_ret (v := .tuple #[.slice no 0 nc, .int .i64 0]) (by simp [results, Tryz.results150, go_sem]) rfl ⟨[], no, nc, HU.out, HCN.out, .inl rfl, B3.out, .inl ⟨by decide, rfl⟩⟩
  · obtain ⟨g, hgo, hgB, hgl, hgc⟩ : ∃ g, no = some ⟨g, 0, none⟩ ∧ (w2.alloc (.cells #[.slice ao l.length ca, .slice bo m.length cb] 28)).heap.size ≤ g ∧ g < w3.heap.size ∧ l.length + m.length ≤ nc := by
      rcases HO.out.2 with ⟨hv, h1⟩ | ⟨g, cap, cur, hv, hbg, hg, hnc, _⟩
      · omega
      · simp only [Value.slice.injEq] at hv
        exact ⟨g, hv.1, hbg, heap_lt hg, by rw [hv.2.2]; exact hnc⟩
    subst hgo
    obtain ⟨base, hbase⟩ : ∃ base, base = (w2.alloc (.cells #[.slice ao l.length ca, .slice bo m.length cb] 28)).heap.size := ⟨_, rfl⟩
    rw [← hbase] at hgB HZ HO
    clear hbase B3'
    obtain ⟨d, hd⟩ : ∃ d : Array Co.C, d.toList = l ++ m := ⟨(l ++ m).toArray, by simp⟩
    have hds : l.length + m.length = d.size := by rw [← Array.length_toList, hd, List.length_append]
    rw [hds, ← hd] at HO
    rw [hds] at hgc ⊢
    have HD := hide hd
    have hd1000 : d.size ≤ 100000 := by omega
    clear hd h0 hds
    have CS := hide (sort_arr base g nc d w3 hgB hgl (by omega) HO.out)
    go_wp2_with fail
    refine CS.out.mono ?_
    rintro e w4 ⟨rfl, d', hsz, hperm, hsort, hho, hb4⟩
    have HSZ := hide hsz
    have CK := hide (compact_is g nc base d' w4 hho hgB (by omega) (by omega))
    rw [hsz] at CK
    have HU : Hid (Co.uni l m (compactUpTo d' d.size)) := by
      show Co.rises _ ∧ _
      rw [← hsz]
      refine ⟨Co.comp_rises d' hsort, fun c => ?_⟩
      rw [Co.comp_mem, hperm.mem_iff, HD.out, List.mem_append]
    have B4 := hide (B3.out.trans (hb4.mono HZ.out))
    clear hsz hperm hsort hho hb4 CS
    go_wp2_with fail
    refine CK.out.mono ?_
    rintro e w5 ⟨rfl, hho5, hb5⟩
    have HO5 := hide hho5
    have B5 := hide (B4.out.trans (hb5.mono HZ.out))
    have HGW : Hid (w.heap.size ≤ g) := Nat.le_trans HZ.out hgB
    clear hho5 hb5 CK
    generalize compactUpTo d' d.size = x at *
    by_cases hx8 : x.length ≤ 8
    · have hx8' : ¬ (8 : Int) < (x.length : Int) := by omega
      go_wp2_with fail
      exact bodyPost_ret (v := .tuple #[.slice (some ⟨g, 0, none⟩) x.length nc, .int .i64 0]) (by simp [results, Tryz.results150, go_sem]) rfl ⟨x, _, nc, HU.out, HCN.out, .inr ⟨g, rfl, HGW.out, HO5.out⟩, B5.out, .inl ⟨hx8, rfl⟩⟩
    · have hx8' : (8 : Int) < (x.length : Int) := by omega
      go_wp2_with fail
      exact bodyPost_ret (v := .tuple #[.slice none 0 0, .int .i64 2]) (by simp [results, Tryz.results150, go_sem]) rfl ⟨x, _, nc, HU.out, HCN.out, .inr ⟨g, rfl, HGW.out, HO5.out⟩, B5.out, .inr ⟨by omega, rfl⟩⟩
end Go.Proofs.YtngfoijmknclhaaGreatDoor.Cm
namespace Go.Proofs.YtngfoijmknclhaaGreatDoor
open Go.RowKit
def Plus (a b : Int) : Int × Int := if 0 ≤ a ∧ 0 ≤ b ∧ a + b ≤ 1099511627776 then (a + b, 0) else (0, 7)
end Go.Proofs.YtngfoijmknclhaaGreatDoor
namespace Go.Proofs.YtngfoijmknclhaaGreatDoor
open Go.RowKit
theorem rises_of_set {l : List Cm.Co.C} (h : Cm.Co.set l = true) : Cm.Co.rises l := by
  obtain ⟨_, hk⟩ := (Cm.Co.set_iff l).1 h
  unfold Cm.Co.rises
  have step : ∀ i (h1 : i + 1 < l.length), Cm.Co.bef l[i] l[i + 1] = true := by
    intro i h1
    have := hk (i + 1) h1
    rw [Cm.Co.ok_succ l i h1, Bool.and_eq_true] at this
    exact this.2
  rw [List.pairwise_iff_getElem]
  intro i j hi hj hij
  obtain ⟨d, rfl⟩ : ∃ d, j = i + 1 + d := ⟨j - i - 1, by omega⟩
  induction d with
  | zero => exact step i hj
  | succ d ih => exact Cm.Co.bef_trans (ih (by omega) (by omega)) (step (i + 1 + d) hj)
theorem set_of_rises {x : List Cm.Co.C} (hr : Cm.Co.rises x) (hm : ∀ c ∈ x, Cm.Co.may c = true) (h8 : x.length ≤ 8) : Cm.Co.set x = true := by
  refine Cm.Co.set_ok x h8 fun j hj => ?_
  cases j with
  | zero => rw [Cm.Co.ok_zero x hj]; exact hm _ (List.getElem_mem hj)
  | succ m =>
    rw [Cm.Co.ok_succ x m hj, Bool.and_eq_true]
    unfold Cm.Co.rises at hr
    rw [List.pairwise_iff_getElem] at hr
    exact ⟨hm _ (List.getElem_mem hj), hr m (m + 1) (by omega) hj (by omega)⟩
theorem inL_iff (l : List Cm.Co.C) (c : Cm.Co.C) : Cm.Co.inL l c = true ↔ c ∈ l := by
  unfold Cm.Co.inL
  rw [List.any_eq_true]
  constructor
  · rintro ⟨y, hy, h⟩
    simp only [Bool.and_eq_true, beq_iff_eq] at h
    have : y = c := Prod.ext h.1 h.2
    rwa [this] at hy
  · exact fun h => ⟨c, h, by simp⟩
theorem mem_left (a : At) (s : St) (c : Cm.Co.C) : c ∈ At.left a s ↔ (s.clr = false ∧ c ∈ a.comms) ∧ c ∉ s.del := by
  unfold At.left
  rw [List.mem_filter]
  have e : (!Cm.Co.inL s.del c) = true ↔ c ∉ s.del := by
    rw [Bool.not_eq_true', ← Bool.not_eq_true, inL_iff]
  rw [e]
  cases s.clr <;> simp
theorem may_parts {a : At} (h : At.may a = true) : (0 ≤ a.pf ∧ a.pf ≤ 1048576 ∧ 0 ≤ a.md ∧ a.md ≤ 1048576 ∧ 0 ≤ a.og ∧ a.og ≤ 2 ∧ 0 ≤ a.fr ∧ a.fr ≤ 65535) ∧ Is.may a.path = true ∧ Cm.Co.set a.comms = true ∧ Cl.ok a.cl = true := by
  unfold At.may at h
  simpa only [Bool.and_eq_true, decide_eq_true_eq] using h
theorem boxes2 (w : World) (x y : Array Value) (t u : TypeId) : ((w.alloc (.cells x t)).alloc (.cells y u)).heap[w.heap.size]? = some (.cells x t (0, 0)) ∧ ((w.alloc (.cells x t)).alloc (.cells y u)).heap[w.heap.size + 1]? = some (.cells y u (0, 0)) ∧ Below w.heap.size w ((w.alloc (.cells x t)).alloc (.cells y u)) := by
  have h1 := heap_new w x t
  have h2 := heap_new (w.alloc (.cells x t)) y u
  have hb := balloc (brefl (w.alloc (.cells x t))) (.cells y u)
  rw [show (w.alloc (.cells x t)).heap.size = w.heap.size + 1 by simp] at h2
  exact ⟨(hb.block _ (heap_lt h1)).trans h1, h2, balloc (balloc (brefl w) _) _⟩
end Go.Proofs.YtngfoijmknclhaaGreatDoor
namespace Go.Proofs.YtngfoijmknclhaaGreatDoor
open Go.RowKit
theorem frozen7 {w : World} {b y : Nat} {x : Array Value} (h : w.heap[b]? = some (.cells x y (0, 0))) (o : Nat) : w.frozen? ⟨b, o, none⟩ = false := by
  unfold World.frozen?
  rw [h]
  rfl
/-- Seven cells written over. -/
def put7 (w : World) (g : Nat) (v0 v1 v2 v3 v4 v5 v6 : Value) : World := ((((((w.setCell ⟨g, 0, none⟩ v0).setCell ⟨g, 1, none⟩ v1).setCell ⟨g, 2, none⟩ v2).setCell ⟨g, 3, none⟩ v3).setCell ⟨g, 4, none⟩ v4).setCell ⟨g, 5, none⟩ v5).setCell ⟨g, 6, none⟩ v6
theorem put7_same {w : World} {g t : Nat} {z0 z1 z2 z3 z4 z5 z6 : Value} (h : w.heap[g]? = some (.cells #[z0, z1, z2, z3, z4, z5, z6] t (0, 0))) (v0 v1 v2 v3 v4 v5 v6 : Value) : (put7 w g v0 v1 v2 v3 v4 v5 v6).heap[g]? = some (.cells #[v0, v1, v2, v3, v4, v5, v6] t (0, 0)) := by
  unfold put7
  have h0 := heap_setCell_same w g 0 _ t v0 h
  have h1 := heap_setCell_same _ g 1 _ t v1 h0
  have h2 := heap_setCell_same _ g 2 _ t v2 h1
  have h3 := heap_setCell_same _ g 3 _ t v3 h2
  have h4 := heap_setCell_same _ g 4 _ t v4 h3
  have h5 := heap_setCell_same _ g 5 _ t v5 h4
  have h6 := heap_setCell_same _ g 6 _ t v6 h5
  rw [h6]
  simp
theorem put7_below {B : Nat} {u w : World} (h : Below B u w) {g : Nat} (hg : B ≤ g) (v0 v1 v2 v3 v4 v5 v6 : Value) : Below B u (put7 w g v0 v1 v2 v3 v4 v5 v6) := by
  unfold put7
  exact ((((((h.setCell (p := ⟨g, 0, none⟩) hg v0).setCell (p := ⟨g, 1, none⟩) hg v1).setCell (p := ⟨g, 2, none⟩) hg v2).setCell (p := ⟨g, 3, none⟩) hg v3).setCell (p := ⟨g, 4, none⟩) hg v4).setCell (p := ⟨g, 5, none⟩) hg v5).setCell (p := ⟨g, 6, none⟩) hg v6
theorem put7_other (w : World) (g : Nat) (v0 v1 v2 v3 v4 v5 v6 : Value) (b : Nat) (hb : b ≠ g) : (put7 w g v0 v1 v2 v3 v4 v5 v6).heap[b]? = w.heap[b]? := by
  unfold put7
  rw [heap_setCell_other _ ⟨g, 6, none⟩ b _ hb, heap_setCell_other _ ⟨g, 5, none⟩ b _ hb, heap_setCell_other _ ⟨g, 4, none⟩ b _ hb, heap_setCell_other _ ⟨g, 3, none⟩ b _ hb, heap_setCell_other _ ⟨g, 2, none⟩ b _ hb, heap_setCell_other _ ⟨g, 1, none⟩ b _ hb, heap_setCell_other _ ⟨g, 0, none⟩ b _ hb]
theorem cell_block {w w' : World} {b : Nat} (h : w'.heap[b]? = w.heap[b]?) (o : Nat) : w'.cell? ⟨b, o, none⟩ = w.cell? ⟨b, o, none⟩ := by
  unfold World.cell?
  rw [h]
theorem is_keep {B : Nat} {w w' : World} {o : Option Addr} {l : List Int} (h : Is.slot w o l) (hw : Wr B w o l.length) (hk : ∀ b, B ≤ b → w'.heap[b]? = w.heap[b]?) : Is.slot w' o l := by
  rcases hw with h0 | ⟨g, off, rfl, hg, _⟩
  · exact .inl (List.length_eq_zero_iff.1 h0)
  · rcases h with h | ⟨b, off', e, hr⟩
    · exact .inl h
    · cases e
      exact .inr ⟨g, off, rfl, fun j hj => (cell_block (hk g hg) _).trans (hr j hj)⟩
theorem co_keep {B : Nat} {w w' : World} {o : Option Addr} {l : List Cm.Co.C} (h : Cm.Co.slot w o l) (hw : Wr B w o (l.length * 2)) (hk : ∀ b, B ≤ b → w'.heap[b]? = w.heap[b]?) : Cm.Co.slot w' o l := by
  rcases hw with h0 | ⟨g, off, rfl, hg, _⟩
  · exact .inl (List.length_eq_zero_iff.1 (by omega))
  · rcases h with h | ⟨b, off', e, hr⟩
    · exact .inl h
    · cases e
      exact .inr ⟨g, off, rfl, fun j u hu => (cell_block (hk g hg) _).trans (hr j u hu)⟩
theorem mine_keep {B : Nat} {w w' : World} {a : At} {p c k : Option Addr} (h : At.mine B w a p c k) (hk : ∀ b, B ≤ b → w'.heap[b]? = w.heap[b]?) : At.lies w' a p c k :=
  ⟨is_keep h.1.1 h.2.1 hk, co_keep h.1.2.1 h.2.2.1 hk, is_keep h.1.2.2 h.2.2.2 hk⟩
theorem frozenG {w : World} {b y : Nat} {x : Array Value} (h : w.heap[b]? = some (.cells x y (0, 0))) (o : Nat) : w.frozen? ⟨b, o, none⟩ = false := by
  unfold World.frozen?
  rw [h]
  rfl
theorem cellB {w w' : World} {b : Nat} (h : w'.heap[b]? = w.heap[b]?) (o : Nat) : w'.cell? ⟨b, o, none⟩ = w.cell? ⟨b, o, none⟩ := by
  unfold World.cell?
  rw [h]
end Go.Proofs.YtngfoijmknclhaaGreatDoor
namespace Go.Proofs.YtngfoijmknclhaaGreatDoor
open Go.RowKit Go.Sort
set_option maxHeartbeats 8000000 in
set_option maxRecDepth 100000 in
theorem metBy_is (v : Value) (ls : List Ll) (pa pb : Int) (a : At) (po co ko : Option Addr) (cp cc ck : Nat) (g : ByteArray → Bool) (w : World) (hT : Ar.Y4.Pt w) (h : Rd w 2 LlR v ls) (hz : ls.length ≤ 100000) (hp : 0 ≤ pa ∧ pa ≤ 4294967295) (hA : At.lies w a po co ko) (hm : Is.may a.path = true) (h2 : a.comms.length ≤ 100) (hg : ∀ s, g s = true ↔ GoesP s a.path) :
    Calls Tryz.prog 27 #[v, .agg #[.int .u32 pa, .int .i64 pb], AtV a po co ko cp cc ck] w fun e w' => ∃ c, e = .returned (.func (.func 65) #[] c) ∧ FnIs w' 65 c KlV (fun _ => True) (metP ls pa pb a g) ∧ Below w.heap.size w w' := by
  unfold AtV
  obtain ⟨bo, cb, rfl⟩ := h.slice
  obtain ⟨W1, hW1⟩ : ∃ W1, W1 = w.alloc (.cells #[.slice bo ls.length cb] 23) := ⟨_, rfl⟩
  obtain ⟨W2, hW2⟩ : ∃ W2, W2 = W1.alloc (.cells #[.int .u32 pa, .int .i64 pb] 26) := ⟨_, rfl⟩
  obtain ⟨W3, hW3⟩ : ∃ W3, W3 = W2.alloc (.cells #[.int .i64 a.pf, .int .i64 a.md, .int .i64 a.og, .slice po a.path.length cp, .slice co a.comms.length cc, .int .i64 a.fr, .slice ko a.cl.length ck] 30) := ⟨_, rfl⟩
  have s1 : W1.heap.size = w.heap.size + 1 := by rw [hW1]; exact sizeA _ _
  have s2 : W2.heap.size = w.heap.size + 1 + 1 := by rw [hW2, sizeA, s1]
  have b1 : Below w.heap.size w W1 := by rw [hW1]; exact balloc (brefl w) _
  have b12 : Below W1.heap.size W1 W2 := by rw [hW2]; exact balloc (brefl W1) _
  have b23 : Below W2.heap.size W2 W3 := by rw [hW3]; exact balloc (brefl W2) _
  have k1 : W1.heap[w.heap.size]? = some (.cells #[.slice bo ls.length cb] 23 (0, 0)) := by rw [hW1]; exact heap_new w _ _
  have k2 : W2.heap[w.heap.size + 1]? = some (.cells #[.int .u32 pa, .int .i64 pb] 26 (0, 0)) := by rw [hW2, ← s1]; exact heap_new W1 _ _
  have k3 : W3.heap[w.heap.size + 1 + 1]? = some (.cells #[.int .i64 a.pf, .int .i64 a.md, .int .i64 a.og, .slice po a.path.length cp, .slice co a.comms.length cc, .int .i64 a.fr, .slice ko a.cl.length ck] 30 (0, 0)) := by rw [hW3, ← s2]; exact heap_new W2 _ _
  have k13 := ((b12.trans (b23.mono b12.size)).block _ (heap_lt k1)).trans k1
  have k23 := (b23.block _ (heap_lt k2)).trans k2
  have B3 := hide (bthen (bthen b1 b12) b23)
  have F1 := lets_fn (W0 := W3) (cell_of k13 0 rfl) (h.below LlR.mono B3.out) hz (cell_of k23 0 rfl) (cell_of k23 1 rfl) hp
  have F2 := goes_fn (W0 := W3) (hT.on B3.out) hm hg (cell_of k3 3 rfl) (Is.slot_below hA.1 B3.out)
  have F3 := has_fn (W0 := W3) (cell_of k3 4 rfl) (Cm.Co.slot_below hA.2.1 B3.out) (by omega)
  clear k1 k2 k3 k13 k23 b1 b12 b23 hT h hz hp hA hm h2 hg
  obtain ⟨x7, hx7⟩ : ∃ x, x = Value.func (.func 57) #[] #[.pointer (some ⟨w.heap.size, 0, none⟩), .pointer (some ⟨w.heap.size + 1, 0, none⟩)] := ⟨_, rfl⟩
  obtain ⟨x8, hx8⟩ : ∃ x, x = Value.func (.func 60) #[] #[.pointer (some ⟨w.heap.size + 1 + 1, 0, none⟩)] := ⟨_, rfl⟩
  obtain ⟨x9, hx9⟩ : ∃ x, x = Value.func (.func 63) #[] #[.pointer (some ⟨w.heap.size + 1 + 1, 0, none⟩)] := ⟨_, rfl⟩
  obtain ⟨W4, hW4⟩ : ∃ W, W = W3.alloc (.cells #[x7] 95) := ⟨_, rfl⟩
  have k4 : W4.heap[W3.heap.size]? = some (.cells #[x7] 95 (0, 0)) := by rw [hW4]; exact heap_new _ _ _
  have b34 : Below W3.heap.size W3 W4 := by rw [hW4]; exact balloc (brefl W3) _
  obtain ⟨W5, hW5⟩ : ∃ W, W = W4.alloc (.cells #[x8] 95) := ⟨_, rfl⟩
  have k5 : W5.heap[W4.heap.size]? = some (.cells #[x8] 95 (0, 0)) := by rw [hW5]; exact heap_new _ _ _
  have b45 : Below W4.heap.size W4 W5 := by rw [hW5]; exact balloc (brefl W4) _
  obtain ⟨W6, hW6⟩ : ∃ W, W = W5.alloc (.cells #[x9] 93) := ⟨_, rfl⟩
  have k6 : W6.heap[W5.heap.size]? = some (.cells #[x9] 93 (0, 0)) := by rw [hW6]; exact heap_new _ _ _
  have b56 : Below W5.heap.size W5 W6 := by rw [hW6]; exact balloc (brefl W5) _
  have b36 := bthen (bthen b34 b45) b56
  have k46 := ((bthen b45 b56).block _ (heap_lt k4)).trans k4
  have k56 := (b56.block _ (heap_lt k5)).trans k5
  have FF : Hid (FnIs W6 65 #[.pointer (some ⟨W3.heap.size, 0, none⟩), .pointer (some ⟨W4.heap.size, 0, none⟩), .pointer (some ⟨W5.heap.size, 0, none⟩)] KlV (fun _ => True) (metP ls pa pb a g)) :=
    asked_fn (by rw [cell_of k46 0 rfl]; exact congrArg some hx7) (by rw [cell_of k56 0 rfl]; exact congrArg some hx8) (by rw [cell_of k6 0 rfl]; exact congrArg some hx9) (F1.from b36) (F2.from b36) (F3.from b36)
  have B6 := hide (bthen B3.out b36)
  have HW4 := hide hW4
  have HW5 := hide hW5
  have HW6 := hide hW6
  have HX7 := hide hx7
  have HX8 := hide hx8
  have HX9 := hide hx9
  have HW123 : Hid (((w.alloc (.cells #[.slice bo ls.length cb] 23)).alloc (.cells #[.int .u32 pa, .int .i64 pb] 26)).alloc (.cells #[.int .i64 a.pf, .int .i64 a.md, .int .i64 a.og, .slice po a.path.length cp, .slice co a.comms.length cc, .int .i64 a.fr, .slice ko a.cl.length ck] 30) = W3) := by show _ = _; rw [hW3, hW2, hW1]
  clear F1 F2 F3 k4 k5 k6 k46 k56 b34 b45 b56 b36 B3 s1 s2 hW1 hW2 hW3 hW4 hW5 hW6 hx7 hx8 hx9
  go_enter Tryz.func27, Tryz.ntmps27
  go_upto_region 1 with fail
  rw [HW123.out]
  clear HW123
  go_upto_region 2 with fail
  rw [← HX7.out, ← HW4.out]
  clear HX7 HW4
  go_upto_region 3 with fail
  rw [← HX8.out, ← HW5.out]
  clear HX8 HW5
  go_upto_region 4 with fail
  rw [← HX9.out, ← HW6.out]
  clear HX9 HW6
  go_wp2_with fail
  go_ret
  exact ⟨_, rfl, FF.out, B6.out⟩
end Go.Proofs.YtngfoijmknclhaaGreatDoor
