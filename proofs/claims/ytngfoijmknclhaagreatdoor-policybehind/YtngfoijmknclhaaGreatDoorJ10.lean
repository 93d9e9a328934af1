/- Texts. -/
import Derived.Test.YtngfoijmknclhaaGreatDoorJ09
import Derived.Shelf.SlicesQ.IndexFunc
namespace Go.Proofs
open Go.Shelf
def Tryz.idxF_ren : Go.Shelf.Ren := ⟨fun | 6 => 137 | n => n, fun | 22 => 62 | 23 => 104 | 25 => 145 | 3 => 3 | 4 => 4 | 0 => 0 | n => n, fun | n => n⟩
theorem Tryz.idxF : Go.Proofs.SlLaysH0.n6 Tryz.prog Tryz.idxF_ren := {
  mixed := by kernel_rfl
  f6 := ⟨Tryz.f137.name, by decide, Tryz.func137.trans (congrArg some (by kernel_rfl))⟩
  t0 := Tryz.underlying0
  a0 := Tryz.isAgg0
  z0 := Tryz.sizeOf0
  v0 := Tryz.zeroValue0
  t3 := Tryz.underlying3
  a3 := Tryz.isAgg3
  z3 := Tryz.sizeOf3
  v3 := Tryz.zeroValue3
  t4 := Tryz.underlying4
  a4 := Tryz.isAgg4
  z4 := Tryz.sizeOf4
  v4 := Tryz.zeroValue4
  t22 := Tryz.underlying62
  a22 := Tryz.isAgg62
  z22 := Tryz.sizeOf62
  v22 := Tryz.zeroValue62
  t25 := Tryz.underlying145
  a25 := Tryz.isAgg145
  z25 := Tryz.sizeOf145
  v25 := Tryz.zeroValue145 }
end Go.Proofs
namespace Go.Proofs.YtngfoijmknclhaaGreatDoor.Pl
open Go.RowKit
/-- A rule whose address is one. -/
def Ad.clR (r : Ad.R) : Ad.R := (if 0 ≤ r.1 ∧ r.1 ≤ 4294967295 then r.1 else 0, r.2)
theorem Ad.clR_bd (r : Ad.R) : 0 ≤ (Ad.clR r).1 ∧ (Ad.clR r).1 ≤ 4294967295 := by unfold Ad.clR; split <;> simp_all
theorem Ad.clR_id (r : Ad.R) (h : 0 ≤ r.1 ∧ r.1 ≤ 4294967295) : Ad.clR r = r := by unfold Ad.clR; rw [if_pos h]

theorem Ad.idx_congr (f g : Ad.R → Bool) (x : Ad.R) : ∀ (l : List Ad.R) (i : Nat), (∀ y ∈ l, f y = g y) → Lib.idxByFrom (fun _ y => f y) x l i = Lib.idxByFrom (fun _ y => g y) x l i
  | [], _, _ => rfl
  | y :: r, i, h => by
    have := Ad.idx_congr f g x r (i + 1) (fun z hz => h z (List.mem_cons_of_mem _ hz))
    simp only [Lib.idxByFrom, h y List.mem_cons_self, this]

/-- The first one that is met, or none. -/
theorem Ad.first_cases (l : List Ad.R) (c d : Int) : (Ad.first l c d = -1 ∧ ∀ j, j < l.length → Ad.met l[j]! c d = false) ∨ ∃ k : Nat, k < l.length ∧ Ad.first l c d = k ∧ Ad.met l[k]! c d = true ∧ ∀ j, j < k → Ad.met l[j]! c d = false := by
  have key : ∀ n, n ≤ l.length → (∀ j, j < n → Ad.met l[j]! c d = false) ∨ ∃ k, k < n ∧ Ad.met l[k]! c d = true ∧ ∀ j, j < k → Ad.met l[j]! c d = false := by
    intro n
    induction n with
    | zero => exact fun _ => .inl fun j hj => absurd hj (Nat.not_lt_zero _)
    | succ n ih =>
      intro hn
      rcases ih (by omega) with h | ⟨k, hk, h⟩
      · cases hm : Ad.met l[n]! c d
        · left
          intro j hj
          rcases Nat.lt_succ_iff_lt_or_eq.1 hj with h1 | rfl
          · exact h j h1
          · exact hm
        · exact .inr ⟨n, by omega, hm, h⟩
      · exact .inr ⟨k, by omega, h⟩
  rcases key l.length (Nat.le_refl _) with h | ⟨k, hk, h1, h2⟩
  · exact .inl ⟨Ad.first_miss l c d h, h⟩
  · exact .inr ⟨k, hk, Ad.first_hit l c d k hk h1 h2, h1, h2⟩

set_option maxHeartbeats 1000000 in
/-- The closure of meets: its prefix lies in block B. -/
theorem clo43 (a b g l c d : Int) (p : Bool) (B : Nat) (W : World) (ha : 0 ≤ a) (ha2 : a ≤ 4294967295) (hc : 0 ≤ c) (hc2 : c ≤ 4294967295) (hB : Two W B c d) :
    Calls Tryz.prog 138 #[.agg #[.int .u32 a, .int .i64 b, .int .i64 g, .int .i64 l, .bool p], .pointer (some ⟨B, 0, none⟩)] W fun e w' => e = .returned (.bool (Ad.met (a, b, g, l, p) c d)) ∧ Below W.heap.size W w' := by
  obtain ⟨h0, h1, hBW, _⟩ := hB
  have hne : B ≠ W.heap.size := by omega
  cases hm : Ad.met (a, b, g, l, p) c d
  all_goals
    go_enter Tryz.func138, Tryz.ntmps138
    go_wp2_with fail
    refine (met_is _ _ _ _ _ _ _ _ hm _ ha ha2 hc hc2).mono ?_
    rintro e w1 ⟨rfl, hb1⟩
    go_wp2_with fail
    go_ret
    exact ⟨rfl, bthen (balloc (brefl W) _) hb1⟩

theorem pred43 (c d : Int) (B : Nat) (w : World) (hc : 0 ≤ c) (hc2 : c ≤ 4294967295) (hB : Two w B c d) :
    PredBelow Tryz.prog 138 #[.pointer (some ⟨B, 0, none⟩)] (fun x => .agg (Ad.encR (Ad.clR x)).toArray) (fun x => Ad.met (Ad.clR x) c d) w := fun W x hb => by
  have hx := Ad.clR_bd x
  have hT : Two W B c d := two_of ((hb.cell (p := ⟨B, 0, none⟩) hB.2.2.1).trans hB.1) ((hb.cell (p := ⟨B, 1, none⟩) hB.2.2.1).trans hB.2.1)
  refine Calls.mono (clo43 (Ad.clR x).1 (Ad.clR x).2.1 (Ad.clR x).2.2.1 (Ad.clR x).2.2.2.1 c d (Ad.clR x).2.2.2.2 B W hx.1 hx.2 hc hc2 hT) ?_
  rintro e w1 ⟨rfl, hb1⟩
  exact ⟨rfl, hb.trans (hb1.mono hb.size)⟩

set_option maxHeartbeats 1000000 in
theorem idx_empty (a : Option Addr) (c : Nat) (fv : Value) (w : World) :
    Calls Tryz.prog 137 #[.slice a 0 c, fv] w fun e w' => e = .returned (.int .i64 (-1)) ∧ w' = w := by
  go_enter Tryz.func137, Tryz.ntmps137
  go_wp2_with fail
  go_loopw [8] (fun i wr => i = .int .i64 0 ∧ wr = w) (fun i _ => 0)
  case atStart => exact ⟨rfl, rfl⟩
  case round =>
    obtain ⟨rfl, rfl⟩ := hrel
    go_wp2_with fail
    go_ret
    exact ⟨rfl, rfl⟩

theorem idx_any (ao : Option Addr) (cap : Nat) (l : List Ad.R) (c d : Int) (B : Nat) (w : World) (hR : Ad.slotR w ao l) (hf : Ad.fitsR l) (hlen : l.length ≤ 1000000) (hc : 0 ≤ c) (hc2 : c ≤ 4294967295) (hB : Two w B c d) :
    Calls Tryz.prog 137 #[.slice ao l.length cap, .func (.func 138) #[] #[.pointer (some ⟨B, 0, none⟩)]] w fun e w' => e = .returned (.int .i64 (Ad.first l c d)) ∧ Below w.heap.size w w' := by
  rcases Nat.eq_zero_or_pos l.length with h0 | h0
  · obtain rfl := List.length_eq_zero_iff.1 h0
    refine (idx_empty ao cap _ w).mono ?_
    rintro e w' ⟨rfl, rfl⟩
    exact ⟨rfl, brefl _⟩
  · obtain ⟨b, off, rfl, hrd⟩ := Ad.slotR_at hR h0
    have hb : b < w.heap.size := block_lt_of_cell (Ad.readsR_at hrd 0 h0).1
    have eg : ∀ args w, (callFunc 138 args).run Tryz.prog w = .ok (.enter 138 args) w := enters_of Tryz.func138 (by kernel_rfl) rfl
    have hcl : ∀ x ∈ l, Ad.clR x = x := fun x hx => Ad.clR_id x (hf x hx)
    have hcon := AnyQ.slices_IndexFunc Tryz.idxF 5 Tryz.isAgg104 Tryz.sizeOf104 (fun x => Ad.encR (Ad.clR x)) (fun _ => rfl) (fun x => Ad.met (Ad.clR x) c d) 138 #[.pointer (some ⟨B, 0, none⟩)] eg b off l.length cap l w
      (pred43 c d B w hc hc2 hB) (Nat.le_refl _) (by omega) hb (fun j hj i v hi => by
        have e : l[j]! = l[j] := Ad.get_bang l j hj
        have e2 : Ad.clR l[j] = l[j] := hcl _ (List.getElem_mem hj)
        simp only [e, e2] at hi
        have hi5 : i < 5 := by have := (List.getElem?_eq_some_iff.1 hi).1; simpa [Ad.encR] using this
        rw [Nat.add_assoc]
        exact hrd _ _ ((Ad.cellsR_get l j i hj hi5).trans hi))
    refine Calls.mono (show Calls Tryz.prog 137 _ _ _ from hcon) ?_
    rintro e w' ⟨rfl, hb'⟩
    refine ⟨?_, hb'⟩
    rw [List.take_length]
    refine ret_int ?_
    exact Ad.idx_congr _ _ _ l 0 fun y hy => by rw [hcl y hy]

theorem idx_is (ao : Option Addr) (cap : Nat) (l : List Ad.R) (c d i : Int) (h : Ad.first l c d = i) (B : Nat) (w : World) (hR : Ad.slotR w ao l) (hf : Ad.fitsR l) (hlen : l.length ≤ 1000000) (hc : 0 ≤ c) (hc2 : c ≤ 4294967295) (hB : Two w B c d) :
    Calls Tryz.prog 137 #[.slice ao l.length cap, .func (.func 138) #[] #[.pointer (some ⟨B, 0, none⟩)]] w fun e w' => e = .returned (.int .i64 i) ∧ Below w.heap.size w w' := by
  rw [← h]; exact idx_any ao cap l c d B w hR hf hlen hc hc2 hB

set_option maxHeartbeats 1000000 in
theorem meets_any (ao : Option Addr) (cap : Nat) (l : List Ad.R) (c d : Int) (w : World) (hR : Ad.slotR w ao l) (hf : Ad.fitsR l) (hlen : l.length ≤ 1000000) (hc : 0 ≤ c) (hc2 : c ≤ 4294967295) :
    Calls Tryz.prog 100 #[.slice ao l.length cap, .agg #[.int .u32 c, .int .i64 d]] w fun e w' => e = .returned (.int .i64 (Ad.first l c d)) ∧ Below w.heap.size w w' := by
  have HR := hide (Ad.slotR_below hR (balloc (brefl w) (.cells #[.int .u32 c, .int .i64 d] 26)))
  have HF := hide hf
  clear hR hf
  generalize hi : Ad.first l c d = i
  have HI := hide hi
  clear hi
  go_enter Tryz.func100, Tryz.ntmps100
  go_wp2_with fail
  refine (idx_is ao cap l c d i HI.out _ _ HR.out HF.out hlen hc hc2 (two_of (by simp) (by simp))).mono ?_
  rintro e w1 ⟨rfl, hb1⟩
  go_wp2_with fail
  go_ret
  exact ⟨rfl, bthen (balloc (brefl w) _) hb1⟩

theorem meets_is (ao : Option Addr) (cap : Nat) (l : List Ad.R) (c d i : Int) (h : Ad.first l c d = i) (w : World) (hR : Ad.slotR w ao l) (hf : Ad.fitsR l) (hlen : l.length ≤ 1000000) (hc : 0 ≤ c) (hc2 : c ≤ 4294967295) :
    Calls Tryz.prog 100 #[.slice ao l.length cap, .agg #[.int .u32 c, .int .i64 d]] w fun e w' => e = .returned (.int .i64 i) ∧ Below w.heap.size w w' := by
  rw [← h]; exact meets_any ao cap l c d w hR hf hlen hc hc2

set_option maxHeartbeats 1000000 in
theorem passes_none (ao : Option Addr) (n cap : Nat) (w : World) :
    Calls Tryz.prog 101 #[.slice ao n cap, .int .i64 (-1)] w fun e w' => e = .returned (.bool false) ∧ Below w.heap.size w w' := by
  go_enter Tryz.func101, Tryz.ntmps101
  go_wp2_with fail
  go_ret
  exact ⟨rfl, brefl w⟩

set_option maxHeartbeats 1000000 in
theorem passes_some (ao : Option Addr) (cap : Nat) (l : List Ad.R) (k : Nat) (w : World) (hR : Ad.slotR w ao l) (hk : k < l.length) :
    Calls Tryz.prog 101 #[.slice ao l.length cap, .int .i64 k] w fun e w' => e = .returned (.bool (Ad.pass l k)) ∧ Below w.heap.size w w' := by
  obtain ⟨b, off, rfl, hrd⟩ := Ad.slotR_at hR hk
  obtain ⟨e0, e1, e2, e3, e4⟩ := Ad.readsR_at hrd k hk
  have HP : Hid (Ad.pass l k = l[k].2.2.2.2) := by
    show _ = _
    unfold Ad.pass
    rw [Int.toNat_natCast, Ad.get_bang l k hk]
    simp
  clear hrd hR
  generalize l[k] = x at *
  obtain ⟨a, bb, g, t, p⟩ := x
  have hk0 : (0 : Int) ≤ (k : Int) := by omega
  go_enter Tryz.func101, Tryz.ntmps101
  go_wp2_with fail
  go_ret
  exact ⟨ret_bool HP.out.symm, brefl w⟩
end Go.Proofs.YtngfoijmknclhaaGreatDoor.Pl
namespace Go.Proofs.YtngfoijmknclhaaGreatDoor.Pl
open Go.RowKit
theorem pmay_is (ao : Option Addr) (cap : Nat) (l : List Ad.R) (x : Int) (h : Ad.rwhy l = x) (w : World) (hR : Ad.slotR w ao l) (hf : Ad.fitsR l) :
    Calls Tryz.prog 99 #[.slice ao l.length cap] w fun e w' => e = .returned (.int .i64 x) ∧ Below w.heap.size w w' := by
  rw [← h]; exact pmay_any ao cap l w hR hf
theorem Ad.rwhy_len (l : List Ad.R) (h : Ad.rwhy l = 0) : l.length ≤ 16 := by
  unfold Ad.rwhy at h
  split at h
  · cases h
  · omega

/-- What Lets hands back. -/
def Ad.letsV (b : Bool) (i : Int) : Value := .tuple #[.bool b, .int .i64 i]

set_option maxHeartbeats 1000000 in
theorem lets_bad (ao : Option Addr) (cap : Nat) (l : List Ad.R) (c d x : Int) (w : World) (hR : Ad.slotR w ao l) (hf : Ad.fitsR l) (hx : Hid (Ad.rwhy l = x)) (hx0 : (x != 0) = true) :
    Calls Tryz.prog 58 #[.slice ao l.length cap, .agg #[.int .u32 c, .int .i64 d]] w fun e w' => e = .returned (Ad.letsV false (-1)) ∧ Below w.heap.size w w' := by
  have HR := hide (Ad.slotR_below hR (balloc (brefl w) (.cells #[.int .u32 c, .int .i64 d] 26)))
  have HF := hide hf
  clear hR hf
  go_enter Tryz.func58, Tryz.ntmps58
  go_wp2_with fail
  refine (pmay_is ao cap l x hx.out _ HR.out HF.out).mono ?_
  rintro e w1 ⟨rfl, hb1⟩
  go_wp2_with fail
  exact bodyPost_ret (v := (Ad.letsV false (-1))) (by simp [results, Tryz.results58, go_sem, Ad.letsV]) rfl ⟨rfl, bthen (balloc (brefl w) _) hb1⟩

set_option maxHeartbeats 1000000 in
theorem lets_good (ao : Option Addr) (cap : Nat) (l : List Ad.R) (c d : Int) (w : World) (hR : Ad.slotR w ao l) (hf : Ad.fitsR l) (hx : Ad.rwhy l = 0) (hc : 0 ≤ c) (hc2 : c ≤ 4294967295) :
    Calls Tryz.prog 58 #[.slice ao l.length cap, .agg #[.int .u32 c, .int .i64 d]] w fun e w' => e = .returned (Ad.letsV (Ad.pass l (Ad.first l c d)) (Ad.first l c d)) ∧ Below w.heap.size w w' := by
  have hlen : l.length ≤ 1000000 := by have := Ad.rwhy_len l hx; omega
  have HR := hide (Ad.slotR_below hR (balloc (brefl w) (.cells #[.int .u32 c, .int .i64 d] 26)))
  have HF := hide hf
  have HX := hide hx
  clear hR hf hx
  rcases Ad.first_cases l c d with ⟨h1, _⟩ | ⟨k, hk, h1, _⟩
  · have H1 := hide h1
    rw [h1]
    have e2 : Ad.pass l (-1) = false := rfl
    rw [e2]
    clear h1 e2
    go_enter Tryz.func58, Tryz.ntmps58
    go_wp2_with fail
    refine (pmay_is ao cap l 0 HX.out _ HR.out HF.out).mono ?_
    rintro e w1 ⟨rfl, hb1⟩
    have HR1 := hide (Ad.slotR_below HR.out hb1)
    obtain ⟨hc1, hf1⟩ := bcell hb1
    go_wp2_with fail
    refine (meets_is ao cap l c d (-1) H1.out _ HR1.out HF.out hlen hc hc2).mono ?_
    rintro e w2 ⟨rfl, hb2⟩
    go_wp2_with fail
    refine (passes_none ao l.length cap _).mono ?_
    rintro e w3 ⟨rfl, hb3⟩
    go_wp2_with fail
    exact bodyPost_ret (v := (Ad.letsV false (-1))) (by simp [results, Tryz.results58, go_sem, Ad.letsV]) rfl ⟨rfl, bthen (bthen (bthen (balloc (brefl w) _) hb1) hb2) hb3⟩
  · have H1 := hide h1
    rw [h1]
    clear h1
    go_enter Tryz.func58, Tryz.ntmps58
    go_wp2_with fail
    refine (pmay_is ao cap l 0 HX.out _ HR.out HF.out).mono ?_
    rintro e w1 ⟨rfl, hb1⟩
    have HR1 := hide (Ad.slotR_below HR.out hb1)
    obtain ⟨hc1, hf1⟩ := bcell hb1
    go_wp2_with fail
    refine (meets_is ao cap l c d k H1.out _ HR1.out HF.out hlen hc hc2).mono ?_
    rintro e w2 ⟨rfl, hb2⟩
    have HR2 := hide (Ad.slotR_below HR1.out hb2)
    go_wp2_with fail
    refine (passes_some ao cap l k _ HR2.out hk).mono ?_
    rintro e w3 ⟨rfl, hb3⟩
    go_wp2_with fail
    exact bodyPost_ret (v := (Ad.letsV (Ad.pass l k) k)) (by simp [results, Tryz.results58, go_sem, Ad.letsV]) rfl ⟨rfl, bthen (bthen (bthen (balloc (brefl w) _) hb1) hb2) hb3⟩

theorem lets_any (ao : Option Addr) (cap : Nat) (l : List Ad.R) (c d : Int) (w : World) (hR : Ad.slotR w ao l) (hf : Ad.fitsR l) (hc : 0 ≤ c) (hc2 : c ≤ 4294967295) :
    Calls Tryz.prog 58 #[.slice ao l.length cap, .agg #[.int .u32 c, .int .i64 d]] w fun e w' => e = .returned (Ad.letsV (Ad.lets l c d).1 (Ad.lets l c d).2) ∧ Below w.heap.size w w' := by
  by_cases h : Ad.rwhy l = 0
  · rw [Ad.lets, if_pos h]
    exact lets_good ao cap l c d w hR hf h hc hc2
  · rw [Ad.lets, if_neg h]
    exact lets_bad ao cap l c d _ w hR hf rfl (by simpa using h)

end Go.Proofs.YtngfoijmknclhaaGreatDoor.Pl
namespace Go.Proofs.YtngfoijmknclhaaGreatDoor
open Go.RowKit Go.Sort
/-- The rules of the first list of a name. -/
def rulesOf (ls : List Ll) (n : ByteArray) : List Pl.Ad.R := match ls.find? (fun l => l.nm.toList == n.toList) with | some l => l.rs | none => []
def nmP (n : ByteArray) (l : Ll) : Bool := l.nm.toList == n.toList
theorem find_at (n : ByteArray) : ∀ (ls : List Ll) (k : Nat) (h : k < ls.length), nmP n ls[k] = true → (∀ j (hj : j < k), nmP n (ls[j]'(by omega)) = false) → ls.find? (fun l => l.nm.toList == n.toList) = some ls[k] := by
  intro ls k h hp ha
  rw [List.find?_eq_some_iff_getElem]
  refine ⟨hp, k, h, rfl, fun j hj => ?_⟩
  have := ha j hj
  unfold nmP at this
  simp [this]
theorem find_no (n : ByteArray) (ls : List Ll) (h : ∀ k (h : k < ls.length), nmP n ls[k] = false) : ls.find? (fun l => l.nm.toList == n.toList) = none := by
  rw [List.find?_eq_none]
  intro x hx
  obtain ⟨k, hk, rfl⟩ := List.getElem_of_mem hx
  have := h k hk
  unfold nmP at this
  simp [this]
set_option maxRecDepth 100000 in
theorem named_fn {W0 : World} {bm : Nat} {n : ByteArray} (hm : W0.cell? ⟨bm, 0, none⟩ = some (.string n)) : FnIs W0 103 #[.pointer (some ⟨bm, 0, none⟩)] LlV (fun _ => True) (nmP n) where
  enter := fun args w => by go_simp
  ok := fun W a x hW hx _ => by
    have hbm := World.block_lt_of_cell? W0 _ hm
    obtain ⟨xs, h1, rfl⟩ := hx
    obtain ⟨ao, ca, rfl, _, _⟩ := h1
    have A1 := balloc (brefl W) (.cells #[.string a.nm, .slice ao a.rs.length ca] 64)
    have hm1 := (A1.cell (p := ⟨bm, 0, none⟩) (Nat.lt_of_lt_of_le hbm hW.size)).trans ((hW.cell (p := ⟨bm, 0, none⟩) hbm).trans hm)
    have n0 := cell_of (heap_new W #[.string a.nm, .slice ao a.rs.length ca] 64) 0 rfl
    have B1 := hide A1
    show Calls Tryz.prog 103 #[.agg #[.string a.nm, .slice ao a.rs.length ca], .pointer (some ⟨bm, 0, none⟩)] W _
    clear hm hW A1
    unfold nmP
    generalize a.rs.length = m at *
    generalize a.nm = an at *
    go_enter Tryz.func103, Tryz.ntmps103
    go_wp2_with fail
    go_ret
    exact ⟨rfl, B1.out⟩
set_option maxHeartbeats 2000000 in
set_option maxRecDepth 100000 in
theorem rules_is (v : Value) (ls : List Ll) (n : ByteArray) (w : World) (h : Rd w 2 LlR v ls) (hz : ls.length ≤ 100000) :
    ∃ ao ca, Pl.Ad.slotR w ao (rulesOf ls n) ∧ Pl.Ad.fitsR (rulesOf ls n) ∧ ∀ W, Below w.heap.size w W → Calls Tryz.prog 59 #[v, .string n] W fun e w' => e = .returned (.slice ao (rulesOf ls n).length ca) ∧ Below W.heap.size W w' := by
  obtain ⟨bo, cb, rfl⟩ := h.slice
  by_cases hex : ∃ k, ∃ hk : k < ls.length, nmP n ls[k] = true ∧ ∀ j (hj : j < k), nmP n (ls[j]'(by omega)) = false
  · obtain ⟨k, hk, hp, ha⟩ := hex
    obtain ⟨b, off, xs, hbo, hbw, hx, hxl, hc⟩ := h.at_ hk
    obtain ⟨ao, ca, rfl, hs, hf⟩ := hx
    have hr : rulesOf ls n = ls[k].rs := by unfold rulesOf; rw [find_at n ls k hk hp ha]
    have c1 := hc 1 _ rfl
    refine ⟨ao, ca, by rw [hr]; exact hs, by rw [hr]; exact hf, fun W hW => ?_⟩
    rw [hr]
    have A1 := balloc (brefl W) (.cells #[.string n] 9)
    have n0 := cell_of (heap_new W #[.string n] 9) 0 rfl
    have C := hide (indexL_is (.slice bo ls.length cb) ls (W.alloc (.cells #[.string n] 9)) (named_fn n0) (h.below LlR.mono (bthen hW A1)) (fun _ _ => trivial) hz)
    have HW := hide hW
    have B1 := hide A1
    have HC : Hid (∀ W2, Below W.heap.size W W2 → W2.cell? ⟨b, off + k * 2 + 1, none⟩ = some (.slice ao ls[k].rs.length ca)) := fun W2 h2 => ((bthen hW h2).cell (p := ⟨b, off + k * 2 + 1, none⟩) hbw).trans c1
    have HK : Hid (∀ i, FirstAt (nmP n) ls i → i = (k : Int)) := fun i hi => by
      rcases hi with ⟨_, h1⟩ | ⟨k', hk', rfl, hp', ha'⟩
      · rw [h1 k hk] at hp; cases hp
      · rcases Nat.lt_trichotomy k k' with h2 | h2 | h2
        · rw [ha' k h2] at hp; cases hp
        · rw [h2]
        · rw [ha k' h2] at hp'; cases hp'
    have hkl : (k : Int) < (ls.length : Int) := by omega
    subst hbo
    clear h hp ha hs hf hr hc hxl c1 A1 hW
    generalize ls[k].rs.length = m at *
    go_enter Tryz.func59, Tryz.ntmps59
    go_wp2_with fail
    refine C.out.mono ?_
    rintro e w1 ⟨i, rfl, hi, hb⟩
    obtain rfl := HK.out i hi
    have B2 := hide (bthen B1.out hb)
    have c1 := HC.out w1 B2.out
    clear hi hb
    have hk0 : ¬ (k : Int) < 0 := by omega
    go_wp2_with fail
    go_ret
    exact ⟨rfl, B2.out⟩
  · have hno : ∀ k (hk : k < ls.length), nmP n ls[k] = false := by
      intro k
      induction k using Nat.strongRecOn with
      | _ k ih =>
        intro hk
        cases hq : nmP n ls[k] with
        | false => rfl
        | true => exact absurd ⟨k, hk, hq, fun j hj => ih j hj (by omega)⟩ hex
    have hr : rulesOf ls n = [] := by unfold rulesOf; rw [find_no n ls hno]
    refine ⟨none, 0, by rw [hr]; exact .inl rfl, by rw [hr]; exact fun x hx => absurd hx List.not_mem_nil, fun W hW => ?_⟩
    rw [hr]
    have A1 := balloc (brefl W) (.cells #[.string n] 9)
    have n0 := cell_of (heap_new W #[.string n] 9) 0 rfl
    have C := hide (indexL_is (.slice bo ls.length cb) ls (W.alloc (.cells #[.string n] 9)) (named_fn n0) (h.below LlR.mono (bthen hW A1)) (fun _ _ => trivial) hz)
    have B1 := hide A1
    have HK : Hid (∀ i, FirstAt (nmP n) ls i → i = -1) := fun i hi => by
      rcases hi with ⟨h1, _⟩ | ⟨k', hk', rfl, hp', ha'⟩
      · exact h1
      · rw [hno k' hk'] at hp'; cases hp'
    clear h hr A1 hW hno hex
    go_enter Tryz.func59, Tryz.ntmps59
    go_wp2_with fail
    refine C.out.mono ?_
    rintro e w1 ⟨i, rfl, hi, hb⟩
    obtain rfl := HK.out i hi
    have B2 := hide (bthen B1.out hb)
    clear hi hb
    go_wp2_with fail
    go_ret
    exact ⟨rfl, B2.out⟩
/-- A function value that answers p of texts. -/
structure FnS (W0 : World) (f : Nat) (caps : Array Value) (p : ByteArray → Bool) : Prop where
  enter : ∀ (args : Array Value) (w : World), (callFunc f args).run Tryz.prog w = .ok (.enter f args) w
  ok : ∀ (W : World) (s : ByteArray), Below W0.heap.size W0 W → Calls Tryz.prog f (#[.string s] ++ caps) W fun e w' => e = .returned (.bool (p s)) ∧ Below W.heap.size W w'
theorem FnS.from {W0 W1 : World} {f : Nat} {caps : Array Value} {p : ByteArray → Bool} (h : FnS W0 f caps p) (hb : Below W0.heap.size W0 W1) : FnS W1 f caps p := ⟨h.enter, fun W s hW => h.ok W s (bthen hb hW)⟩
/-- Does a list of a name let a prefix pass? -/
def letsP (ls : List Ll) (pa pb : Int) (n : ByteArray) : Bool := (Pl.Ad.lets (rulesOf ls n) pa pb).1
set_option maxHeartbeats 2000000 in
set_option maxRecDepth 100000 in
theorem lets_fn {W0 : World} {b3 b4 : Nat} {v : Value} {ls : List Ll} {pa pb : Int} (h3 : W0.cell? ⟨b3, 0, none⟩ = some v) (h : Rd W0 2 LlR v ls) (hz : ls.length ≤ 100000) (h40 : W0.cell? ⟨b4, 0, none⟩ = some (.int .u32 pa)) (h41 : W0.cell? ⟨b4, 1, none⟩ = some (.int .i64 pb)) (ha : 0 ≤ pa ∧ pa ≤ 4294967295) :
    FnS W0 57 #[.pointer (some ⟨b3, 0, none⟩), .pointer (some ⟨b4, 0, none⟩)] (letsP ls pa pb) where
  enter := fun args w => by go_simp
  ok := fun W n hW => by
    have q3 := (hW.cell (p := ⟨b3, 0, none⟩) (World.block_lt_of_cell? W0 _ h3)).trans h3
    have q40 := (hW.cell (p := ⟨b4, 0, none⟩) (World.block_lt_of_cell? W0 _ h40)).trans h40
    have q41 := (hW.cell (p := ⟨b4, 1, none⟩) (World.block_lt_of_cell? W0 _ h41)).trans h41
    have hR := h.below LlR.mono hW
    obtain ⟨ao, ca, hs, hf, hcall⟩ := rules_is v ls n W hR hz
    obtain ⟨bo, cb, rfl⟩ := hR.slice
    unfold letsP
    have CR := hide hcall
    have CL := hide (fun W2 (hb : Below W.heap.size W W2) => Pl.lets_any ao ca (rulesOf ls n) pa pb W2 (Pl.Ad.slotR_below hs hb) hf ha.1 ha.2)
    clear hcall hs hf hR h h3 h40 h41 hW
    unfold Pl.Ad.letsV at CL
    generalize (Pl.Ad.lets (rulesOf ls n) pa pb).1 = r1 at *
    generalize (Pl.Ad.lets (rulesOf ls n) pa pb).2 = r2 at *
    generalize (rulesOf ls n).length = m at *
    have r3 := fun dd os => cell_regrown q3 dd os
    have r40 := fun dd os => cell_regrown q40 dd os
    have r41 := fun dd os => cell_regrown q41 dd os
    show Calls Tryz.prog 57 #[.string n, .pointer (some ⟨b3, 0, none⟩), .pointer (some ⟨b4, 0, none⟩)] W _
    go_enter Tryz.func57, Tryz.ntmps57
    go_wp2_with fail
    refine wp_region_quiet_below (by kernel_rfl) (by kernel_rfl) ?_
    repeat (go_big_quiet_step (first
      | (go_at_call 59; exact Calls.regrown_of (CR.out _ (below_regrown _ _ _)))
      | (go_at_call 58; exact Calls.regrown_of (CL.out _ (below_regrown _ _ _)))))
    refine wpQuiet_nil ?_
    rintro _ ⟨⟨dd, os⟩, rfl⟩
    have hb4 := below_regrown W dd os
    generalize Sort.grow (redrawn W dd) os = W4 at hb4
    have B4 := hide hb4
    clear hb4
    go_wp2_with fail
    go_ret
    exact ⟨rfl, B4.out⟩
end Go.Proofs.YtngfoijmknclhaaGreatDoor
