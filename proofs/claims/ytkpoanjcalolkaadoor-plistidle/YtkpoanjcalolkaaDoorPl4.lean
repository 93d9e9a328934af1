import Derived.Test.YtkpoanjcalolkaaDoorPl3
import Derived.Shelf.SlicesQ.IndexFunc
/- slices.IndexFunc at rules; the contracts of plist's meets, passes and Lets, and of the document's Lets. -/
namespace Go.Proofs
open Go.Shelf
def Tryd.idxF_ren : Go.Shelf.Ren := ⟨fun | 6 => 42 | n => n, fun | 22 => 22 | 23 => 32 | 25 => 36 | 3 => 3 | 4 => 4 | 0 => 0 | n => n, fun | n => n⟩
theorem Tryd.idxF : Go.Proofs.SlLaysH0.n6 Tryd.prog Tryd.idxF_ren := {
  mixed := by kernel_rfl
  f6 := ⟨Tryd.f42.name, by decide, Tryd.func42.trans (congrArg some (by kernel_rfl))⟩
  t0 := Tryd.underlying0
  a0 := Tryd.isAgg0
  z0 := Tryd.sizeOf0
  v0 := Tryd.zeroValue0
  t3 := Tryd.underlying3
  a3 := Tryd.isAgg3
  z3 := Tryd.sizeOf3
  v3 := Tryd.zeroValue3
  t4 := Tryd.underlying4
  a4 := Tryd.isAgg4
  z4 := Tryd.sizeOf4
  v4 := Tryd.zeroValue4
  t22 := Tryd.underlying22
  a22 := Tryd.isAgg22
  z22 := Tryd.sizeOf22
  v22 := Tryd.zeroValue22
  t25 := Tryd.underlying36
  a25 := Tryd.isAgg36
  z25 := Tryd.sizeOf36
  v25 := Tryd.zeroValue36 }
end Go.Proofs
namespace Go.Proofs.YtkpoanjcalolkaaDoor
open Go.RowKit

/-- A rule whose address is one. -/
def Ad.clR (r : Ad.R) : Ad.R := (if 0 ≤ r.1 ∧ r.1 ≤ 4294967295 then r.1 else 0, r.2)
theorem Ad.clR_bd (r : Ad.R) : 0 ≤ (Ad.clR r).1 ∧ (Ad.clR r).1 ≤ 4294967295 := by unfold Ad.clR; split <;> simp_all
theorem Ad.clR_id (r : Ad.R) (h : 0 ≤ r.1 ∧ r.1 ≤ 4294967295) : Ad.clR r = r := by unfold Ad.clR; rw [if_pos h]

theorem Ad.idx_congr (f g : Ad.R → Bool) (x : Ad.R) : ∀ (l : List Ad.R) (i : Nat), (∀ y ∈ l, f y = g y) → Lib.idxByFrom (fun _ y => f y) x l i = Lib.idxByFrom (fun _ y => g y) x l i
  | [], _, _ => rfl
  | y :: r, i, h => by
    have := Ad.idx_congr f g x r (i + 1) (fun z hz => h z (List.mem_cons_of_mem _ hz))
    simp only [Lib.idxByFrom, h y List.mem_cons_self, this]

/-- The first one that is met, or none. -/
theorem Ad.first_cases (l : List Ad.R) (c d : Int) : (Ad.first l c d = -1 ∧ ∀ j, j < l.length → Ad.met l[j]! c d = false) ∨ ∃ k : Nat, k < l.length ∧ Ad.first l c d = k ∧ Ad.met l[k]! c d = true ∧ ∀ j, j < k → Ad.met l[j]! c d = false := by
  have key : ∀ n, n ≤ l.length → (∀ j, j < n → Ad.met l[j]! c d = false) ∨ ∃ k, k < n ∧ Ad.met l[k]! c d = true ∧ ∀ j, j < k → Ad.met l[j]! c d = false := by
    intro n
    induction n with
    | zero => exact fun _ => .inl fun j hj => absurd hj (Nat.not_lt_zero _)
    | succ n ih =>
      intro hn
      rcases ih (by omega) with h | ⟨k, hk, h⟩
      · cases hm : Ad.met l[n]! c d
        · left
          intro j hj
          rcases Nat.lt_succ_iff_lt_or_eq.1 hj with h1 | rfl
          · exact h j h1
          · exact hm
        · exact .inr ⟨n, by omega, hm, h⟩
      · exact .inr ⟨k, by omega, h⟩
  rcases key l.length (Nat.le_refl _) with h | ⟨k, hk, h1, h2⟩
  · exact .inl ⟨Ad.first_miss l c d h, h⟩
  · exact .inr ⟨k, hk, Ad.first_hit l c d k hk h1 h2, h1, h2⟩

set_option maxHeartbeats 1000000 in
/-- The closure of meets: its prefix lies in block B. -/
theorem clo43 (a b g l c d : Int) (p : Bool) (B : Nat) (W : World) (ha : 0 ≤ a) (ha2 : a ≤ 4294967295) (hc : 0 ≤ c) (hc2 : c ≤ 4294967295) (hB : Two W B c d) :
    Calls Tryd.prog 43 #[.agg #[.int .u32 a, .int .i64 b, .int .i64 g, .int .i64 l, .bool p], .pointer (some ⟨B, 0, none⟩)] W fun e w' => e = .returned (.bool (Ad.met (a, b, g, l, p) c d)) ∧ Below W.heap.size W w' := by
  obtain ⟨h0, h1, hBW, _⟩ := hB
  have hne : B ≠ W.heap.size := by omega
  cases hm : Ad.met (a, b, g, l, p) c d
  all_goals
    go_enter Tryd.func43, Tryd.ntmps43
    go_wp2_with fail
    refine (met_is _ _ _ _ _ _ _ _ hm _ ha ha2 hc hc2).mono ?_
    rintro e w1 ⟨rfl, hb1⟩
    go_wp2_with fail
    go_ret
    exact ⟨rfl, bthen (balloc (brefl W) _) hb1⟩

theorem pred43 (c d : Int) (B : Nat) (w : World) (hc : 0 ≤ c) (hc2 : c ≤ 4294967295) (hB : Two w B c d) :
    PredBelow Tryd.prog 43 #[.pointer (some ⟨B, 0, none⟩)] (fun x => .agg (Ad.encR (Ad.clR x)).toArray) (fun x => Ad.met (Ad.clR x) c d) w := fun W x hb => by
  have hx := Ad.clR_bd x
  have hT : Two W B c d := two_of ((hb.cell (p := ⟨B, 0, none⟩) hB.2.2.1).trans hB.1) ((hb.cell (p := ⟨B, 1, none⟩) hB.2.2.1).trans hB.2.1)
  refine Calls.mono (clo43 (Ad.clR x).1 (Ad.clR x).2.1 (Ad.clR x).2.2.1 (Ad.clR x).2.2.2.1 c d (Ad.clR x).2.2.2.2 B W hx.1 hx.2 hc hc2 hT) ?_
  rintro e w1 ⟨rfl, hb1⟩
  exact ⟨rfl, hb.trans (hb1.mono hb.size)⟩

set_option maxHeartbeats 1000000 in
theorem idx_empty (a : Option Addr) (c : Nat) (fv : Value) (w : World) :
    Calls Tryd.prog 42 #[.slice a 0 c, fv] w fun e w' => e = .returned (.int .i64 (-1)) ∧ w' = w := by
  go_enter Tryd.func42, Tryd.ntmps42
  go_wp2_with fail
  go_loopw [8] (fun i wr => i = .int .i64 0 ∧ wr = w) (fun i _ => 0)
  case atStart => exact ⟨rfl, rfl⟩
  case round =>
    obtain ⟨rfl, rfl⟩ := hrel
    go_wp2_with fail
    go_ret
    exact ⟨rfl, rfl⟩

theorem idx_any (ao : Option Addr) (cap : Nat) (l : List Ad.R) (c d : Int) (B : Nat) (w : World) (hR : Ad.slotR w ao l) (hf : Ad.fitsR l) (hlen : l.length ≤ 1000000) (hc : 0 ≤ c) (hc2 : c ≤ 4294967295) (hB : Two w B c d) :
    Calls Tryd.prog 42 #[.slice ao l.length cap, .func (.func 43) #[] #[.pointer (some ⟨B, 0, none⟩)]] w fun e w' => e = .returned (.int .i64 (Ad.first l c d)) ∧ Below w.heap.size w w' := by
  rcases Nat.eq_zero_or_pos l.length with h0 | h0
  · obtain rfl := List.length_eq_zero_iff.1 h0
    refine (idx_empty ao cap _ w).mono ?_
    rintro e w' ⟨rfl, rfl⟩
    exact ⟨rfl, brefl _⟩
  · obtain ⟨b, off, rfl, hrd⟩ := Ad.slotR_at hR h0
    have hb : b < w.heap.size := block_lt_of_cell (Ad.readsR_at hrd 0 h0).1
    have eg : ∀ args w, (callFunc 43 args).run Tryd.prog w = .ok (.enter 43 args) w := enters_of Tryd.func43 (by kernel_rfl) rfl
    have hcl : ∀ x ∈ l, Ad.clR x = x := fun x hx => Ad.clR_id x (hf x hx)
    have hcon := AnyQ.slices_IndexFunc Tryd.idxF 5 Tryd.isAgg32 Tryd.sizeOf32 (fun x => Ad.encR (Ad.clR x)) (fun _ => rfl) (fun x => Ad.met (Ad.clR x) c d) 43 #[.pointer (some ⟨B, 0, none⟩)] eg b off l.length cap l w
      (pred43 c d B w hc hc2 hB) (Nat.le_refl _) (by omega) hb (fun j hj i v hi => by
        have e : l[j]! = l[j] := Ad.get_bang l j hj
        have e2 : Ad.clR l[j] = l[j] := hcl _ (List.getElem_mem hj)
        simp only [e, e2] at hi
        have hi5 : i < 5 := by have := (List.getElem?_eq_some_iff.1 hi).1; simpa [Ad.encR] using this
        rw [Nat.add_assoc]
        exact hrd _ _ ((Ad.cellsR_get l j i hj hi5).trans hi))
    refine Calls.mono (show Calls Tryd.prog 42 _ _ _ from hcon) ?_
    rintro e w' ⟨rfl, hb'⟩
    refine ⟨?_, hb'⟩
    rw [List.take_length]
    refine ret_int ?_
    exact Ad.idx_congr _ _ _ l 0 fun y hy => by rw [hcl y hy]

theorem idx_is (ao : Option Addr) (cap : Nat) (l : List Ad.R) (c d i : Int) (h : Ad.first l c d = i) (B : Nat) (w : World) (hR : Ad.slotR w ao l) (hf : Ad.fitsR l) (hlen : l.length ≤ 1000000) (hc : 0 ≤ c) (hc2 : c ≤ 4294967295) (hB : Two w B c d) :
    Calls Tryd.prog 42 #[.slice ao l.length cap, .func (.func 43) #[] #[.pointer (some ⟨B, 0, none⟩)]] w fun e w' => e = .returned (.int .i64 i) ∧ Below w.heap.size w w' := by
  rw [← h]; exact idx_any ao cap l c d B w hR hf hlen hc hc2 hB

set_option maxHeartbeats 1000000 in
theorem meets_any (ao : Option Addr) (cap : Nat) (l : List Ad.R) (c d : Int) (w : World) (hR : Ad.slotR w ao l) (hf : Ad.fitsR l) (hlen : l.length ≤ 1000000) (hc : 0 ≤ c) (hc2 : c ≤ 4294967295) :
    Calls Tryd.prog 27 #[.slice ao l.length cap, .agg #[.int .u32 c, .int .i64 d]] w fun e w' => e = .returned (.int .i64 (Ad.first l c d)) ∧ Below w.heap.size w w' := by
  have HR := hide (Ad.slotR_below hR (balloc (brefl w) (.cells #[.int .u32 c, .int .i64 d] 25)))
  have HF := hide hf
  clear hR hf
  generalize hi : Ad.first l c d = i
  have HI := hide hi
  clear hi
  go_enter Tryd.func27, Tryd.ntmps27
  go_wp2_with fail
  refine (idx_is ao cap l c d i HI.out _ _ HR.out HF.out hlen hc hc2 (two_of (by simp) (by simp))).mono ?_
  rintro e w1 ⟨rfl, hb1⟩
  go_wp2_with fail
  go_ret
  exact ⟨rfl, bthen (balloc (brefl w) _) hb1⟩

theorem meets_is (ao : Option Addr) (cap : Nat) (l : List Ad.R) (c d i : Int) (h : Ad.first l c d = i) (w : World) (hR : Ad.slotR w ao l) (hf : Ad.fitsR l) (hlen : l.length ≤ 1000000) (hc : 0 ≤ c) (hc2 : c ≤ 4294967295) :
    Calls Tryd.prog 27 #[.slice ao l.length cap, .agg #[.int .u32 c, .int .i64 d]] w fun e w' => e = .returned (.int .i64 i) ∧ Below w.heap.size w w' := by
  rw [← h]; exact meets_any ao cap l c d w hR hf hlen hc hc2

set_option maxHeartbeats 1000000 in
theorem passes_none (ao : Option Addr) (n cap : Nat) (w : World) :
    Calls Tryd.prog 28 #[.slice ao n cap, .int .i64 (-1)] w fun e w' => e = .returned (.bool false) ∧ Below w.heap.size w w' := by
  go_enter Tryd.func28, Tryd.ntmps28
  go_wp2_with fail
  go_ret
  exact ⟨rfl, brefl w⟩

set_option maxHeartbeats 1000000 in
theorem passes_some (ao : Option Addr) (cap : Nat) (l : List Ad.R) (k : Nat) (w : World) (hR : Ad.slotR w ao l) (hk : k < l.length) :
    Calls Tryd.prog 28 #[.slice ao l.length cap, .int .i64 k] w fun e w' => e = .returned (.bool (Ad.pass l k)) ∧ Below w.heap.size w w' := by
  obtain ⟨b, off, rfl, hrd⟩ := Ad.slotR_at hR hk
  obtain ⟨e0, e1, e2, e3, e4⟩ := Ad.readsR_at hrd k hk
  have HP : Hid (Ad.pass l k = l[k].2.2.2.2) := by
    show _ = _
    unfold Ad.pass
    rw [Int.toNat_natCast, Ad.get_bang l k hk]
    simp
  clear hrd hR
  generalize l[k] = x at *
  obtain ⟨a, bb, g, t, p⟩ := x
  have hk0 : (0 : Int) ≤ (k : Int) := by omega
  go_enter Tryd.func28, Tryd.ntmps28
  go_wp2_with fail
  go_ret
  exact ⟨ret_bool HP.out.symm, brefl w⟩
end Go.Proofs.YtkpoanjcalolkaaDoor
