/- slices.IndexFunc, ContainsFunc and few, over Comm. -/
import Derived.Test.YtpmmhmgojjlniaaGreatDoorQ01
import Derived.Test.YtpmmhmgojjlniaaGreatDoorQ14
namespace Go.Proofs.YtpmmhmgojjlniaaGreatDoor
open Go.RowKit Go.Sort
set_option maxHeartbeats 2000000 in
set_option maxRecDepth 100000 in
theorem indexComm_is {f : Nat} {caps : Array Value} {G : (Int × Int) → Prop} {p : (Int × Int) → Bool} (v : Value) (l : List (Int × Int)) (w : World) (hf : FnIs w f caps 2 PrR G p) (h : Rd w 2 PrR v l) (hg : ∀ a ∈ l, G a) (hz : l.length ≤ 100000) :
    Calls Tryz.prog 304 #[v, .func (.func f) #[] caps] w fun e w' => ∃ i : Int, e = .returned (.int .i64 i) ∧ AnyIs i (l.any p) ∧ Below w.heap.size w w' := by
  obtain ⟨ao, ca, rfl⟩ := h.slice
  have H := hide h
  have hcf := hf.enter
  have HF := hide (fun W a x hW hx hg => hf.ok W a x hW hx hg)
  have HG := hide hg
  clear h hf hg
  go_enter Tryz.func304, Tryz.ntmps304
  go_wp2_with fail
  go_loopw [8] (fun v8 wr => ∃ k : Nat, v8 = .int .i64 k ∧ k ≤ l.length ∧ Hid ((l.take k).any p = false) ∧ Hid (Below w.heap.size w wr)) (fun v8 _ => l.length - (intOf v8).toNat)
  case atStart => exact ⟨0, rfl, Nat.zero_le _, hide rfl, brefl w⟩
  case round =>
    obtain ⟨k, rfl, hk, HA, HBR⟩ := hrel
    by_cases hkl : k < l.length
    · have hkl' : (k : Int) < (l.length : Int) := by omega
      obtain ⟨b, off, xs, rfl, hbw, hx, ha⟩ := (Rd.below PrR.mono H.out HBR.out).at_ hkl
      obtain ⟨x0, x1, rfl⟩ := list2 hx.len
      have c0 := ha 0 _ rfl
      have c1 := ha 1 _ rfl
      simp only [Nat.add_zero] at c0
      clear ha
      have CP := hide (HF.out wr l[k] (.agg #[x0, x1]) HBR.out ⟨_, hx, rfl, rfl⟩ (HG.out _ (List.getElem_mem hkl)))
      have HT := hide (any_take (p := p) hkl)
      have HAT := hide (any_of_at (p := p) hkl)
      clear hx
      generalize p l[k] = r at *
      cases r with
      | true =>
        have HY := hide (HAT.out rfl)
        clear HT HAT HA
        go_wp2_with (refine CP.out.mono ?_; rintro e w1 ⟨rfl, hb1⟩)
        have B1 := hide (bthen HBR.out hb1)
        clear hb1
        go_ret
        exact ⟨_, rfl, ⟨fun _ => HY.out, fun _ => Int.natCast_nonneg _⟩, B1.out⟩
      | false =>
        have HN : Hid ((l.take (k + 1)).any p = false) := by show _ = _; rw [HT.out, HA.out]; rfl
        clear HT HAT HA
        go_wp2_with (refine CP.out.mono ?_; rintro e w1 ⟨rfl, hb1⟩)
        have B1 := hide (bthen HBR.out hb1)
        clear hb1
        exact ⟨⟨k + 1, by go_num, by omega, HN, B1⟩, by simp [intOf] <;> omega⟩
    · have hkl' : ¬ (k : Int) < (l.length : Int) := by omega
      have HN : Hid (l.any p = false) := by
        have h := HA.out
        rw [List.take_of_length_le (by omega)] at h
        exact h
      clear HA
      go_wp2_with fail
      go_ret
      exact ⟨-1, rfl, ⟨fun h => absurd h (by decide), fun h => by rw [HN.out] at h; cases h⟩, HBR.out⟩
theorem containsComm_is {f : Nat} {caps : Array Value} {G : (Int × Int) → Prop} {p : (Int × Int) → Bool} (v : Value) (l : List (Int × Int)) (w : World) (hf : FnIs w f caps 2 PrR G p) (h : Rd w 2 PrR v l) (hg : ∀ a ∈ l, G a) (hz : l.length ≤ 100000) :
    Calls Tryz.prog 264 #[v, .func (.func f) #[] caps] w fun e w' => e = .returned (.bool (l.any p)) ∧ Below w.heap.size w w' := by
  have C := hide (indexComm_is v l w hf h hg hz)
  obtain ⟨ao, ca, rfl⟩ := h.slice
  clear hf h hg
  go_enter Tryz.func264, Tryz.ntmps264
  go_wp2_with fail
  refine C.out.mono ?_
  rintro e w1 ⟨i, rfl, hi, hb⟩
  go_wp2_with fail
  go_ret
  refine ⟨ret_bool ?_, hb⟩
  by_cases h0 : 0 ≤ i
  · rw [hi.1 h0]; simpa using h0
  · have : l.any p = false := by
      cases ha : l.any p with
      | false => rfl
      | true => exact absurd (hi.2 ha) h0
    rw [this]
    simpa using h0
set_option maxRecDepth 100000 in
theorem notMayComm_is {f : Nat} {caps : Array Value} {G : (Int × Int) → Prop} {p : (Int × Int) → Bool} {W0 : World} {bm : Nat} (hf : FnIs W0 f caps 2 PrR G p) (hm : W0.cell? ⟨bm, 0, none⟩ = some (.func (.func f) #[] caps)) :
    FnIs W0 263 #[.pointer (some ⟨bm, 0, none⟩)] 2 PrR G (fun x => !p x) where
  enter := fun args w => by go_simp
  ok := fun W a x hW hx hga => by
    have hbm := World.block_lt_of_cell? W0 _ hm
    have hxw := hx
    obtain ⟨xs, h1, h2, rfl⟩ := hx
    obtain ⟨x0, x1, rfl⟩ := list2 h2
    have A1 := balloc (brefl W) (.cells #[x0, x1] 53)
    have hm1 := (A1.cell (p := ⟨bm, 0, none⟩) (Nat.lt_of_lt_of_le hbm hW.size)).trans ((hW.cell (p := ⟨bm, 0, none⟩) hbm).trans hm)
    have C := hide (hf.ok (W.alloc (.cells #[x0, x1] 53)) a _ (bthen hW A1) (VR.mono PrR.mono hxw A1) hga)
    have hcf := hf.enter
    have B1 := hide A1
    clear hf hm hW hga hxw h1 h2 A1
    go_enter Tryz.func263, Tryz.ntmps263
    go_wp2_with (refine C.out.mono ?_; rintro e w1 ⟨rfl, hb1⟩)
    have B2 := hide (bthen B1.out hb1)
    clear hb1
    go_ret
    exact ⟨rfl, B2.out⟩
set_option maxRecDepth 100000 in
theorem fewComm_is {f : Nat} {caps : Array Value} {G : (Int × Int) → Prop} {p : (Int × Int) → Bool} (v : Value) (l : List (Int × Int)) (most : Int) (w : World) (hf : FnIs w f caps 2 PrR G p) (h : Rd w 2 PrR v l) (hg : ∀ a ∈ l, G a) (hz : l.length ≤ 100000) :
    Calls Tryz.prog 216 #[v, .int .i64 most, .func (.func f) #[] caps] w fun e w' => e = .returned (.bool (decide ((l.length : Int) ≤ most) && l.all p)) ∧ Below w.heap.size w w' := by
  have A1 := balloc (brefl w) (.cells #[.func (.func f) #[] caps] 126)
  have hm : (w.alloc (.cells #[.func (.func f) #[] caps] 126)).cell? ⟨w.heap.size, 0, none⟩ = some (.func (.func f) #[] caps) := cell_of (heap_new w _ _) 0 rfl
  have C := hide (containsComm_is v l (w.alloc (.cells #[.func (.func f) #[] caps] 126)) (notMayComm_is (hf.from A1) hm) (h.below PrR.mono A1) hg hz)
  have B1 := hide A1
  obtain ⟨ao, ca, rfl⟩ := h.slice
  clear hf h hg A1 hm
  have HQ : Hid (l.all p = !(l.any fun x => !p x)) := by show _ = _; rw [List.not_any_eq_all_not]; simp
  by_cases hl : (l.length : Int) ≤ most
  · go_enter Tryz.func216, Tryz.ntmps216
    go_wp2_with (refine C.out.mono ?_; rintro e w1 ⟨rfl, hb1⟩)
    have B2 := hide (bthen B1.out hb1)
    clear hb1
    go_ret
    refine ⟨ret_bool ?_, B2.out⟩
    rw [decide_eq_true hl, HQ.out]
    rfl
  · have HL := hide hl
    go_enter Tryz.func216, Tryz.ntmps216
    go_wp2_with fail
    go_ret
    refine ⟨ret_bool ?_, B1.out⟩
    rw [decide_eq_false (Int.not_le.2 HL.out)]
    rfl
end Go.Proofs.YtpmmhmgojjlniaaGreatDoor
namespace Go.Proofs.YtpmmhmgojjlniaaGreatDoor
open Go.RowKit Go.Sort
set_option maxHeartbeats 2000000 in
set_option maxRecDepth 100000 in
theorem indexint_is {f : Nat} {caps : Array Value} {G : Int → Prop} {p : Int → Bool} (v : Value) (l : List Int) (w : World) (hf : FnIs w f caps 1 InR G p) (h : Rd w 1 InR v l) (hg : ∀ a ∈ l, G a) (hz : l.length ≤ 100000) :
    Calls Tryz.prog 305 #[v, .func (.func f) #[] caps] w fun e w' => ∃ i : Int, e = .returned (.int .i64 i) ∧ AnyIs i (l.any p) ∧ Below w.heap.size w w' := by
  obtain ⟨ao, ca, rfl⟩ := h.slice
  have H := hide h
  have hcf := hf.enter
  have HF := hide (fun W a x hW hx hg => hf.ok W a x hW hx hg)
  have HG := hide hg
  clear h hf hg
  go_enter Tryz.func305, Tryz.ntmps305
  go_wp2_with fail
  go_loopw [8] (fun v8 wr => ∃ k : Nat, v8 = .int .i64 k ∧ k ≤ l.length ∧ Hid ((l.take k).any p = false) ∧ Hid (Below w.heap.size w wr)) (fun v8 _ => l.length - (intOf v8).toNat)
  case atStart => exact ⟨0, rfl, Nat.zero_le _, hide rfl, brefl w⟩
  case round =>
    obtain ⟨k, rfl, hk, HA, HBR⟩ := hrel
    by_cases hkl : k < l.length
    · have hkl' : (k : Int) < (l.length : Int) := by omega
      obtain ⟨b, off, xs, rfl, hbw, hx, ha⟩ := (Rd.below InR.mono H.out HBR.out).at_ hkl
      obtain ⟨x0, rfl⟩ := list1 hx.len
      have c0 := ha 0 _ rfl
      simp only [Nat.add_zero, Nat.mul_one] at c0
      clear ha
      have CP := hide (HF.out wr l[k] (x0) HBR.out ⟨_, hx, rfl, rfl⟩ (HG.out _ (List.getElem_mem hkl)))
      have HT := hide (any_take (p := p) hkl)
      have HAT := hide (any_of_at (p := p) hkl)
      clear hx
      generalize p l[k] = r at *
      cases r with
      | true =>
        have HY := hide (HAT.out rfl)
        clear HT HAT HA
        go_wp2_with (refine CP.out.mono ?_; rintro e w1 ⟨rfl, hb1⟩)
        have B1 := hide (bthen HBR.out hb1)
        clear hb1
        go_ret
        exact ⟨_, rfl, ⟨fun _ => HY.out, fun _ => Int.natCast_nonneg _⟩, B1.out⟩
      | false =>
        have HN : Hid ((l.take (k + 1)).any p = false) := by show _ = _; rw [HT.out, HA.out]; rfl
        clear HT HAT HA
        go_wp2_with (refine CP.out.mono ?_; rintro e w1 ⟨rfl, hb1⟩)
        have B1 := hide (bthen HBR.out hb1)
        clear hb1
        exact ⟨⟨k + 1, by go_num, by omega, HN, B1⟩, by simp [intOf] <;> omega⟩
    · have hkl' : ¬ (k : Int) < (l.length : Int) := by omega
      have HN : Hid (l.any p = false) := by
        have h := HA.out
        rw [List.take_of_length_le (by omega)] at h
        exact h
      clear HA
      go_wp2_with fail
      go_ret
      exact ⟨-1, rfl, ⟨fun h => absurd h (by decide), fun h => by rw [HN.out] at h; cases h⟩, HBR.out⟩
theorem containsint_is {f : Nat} {caps : Array Value} {G : Int → Prop} {p : Int → Bool} (v : Value) (l : List Int) (w : World) (hf : FnIs w f caps 1 InR G p) (h : Rd w 1 InR v l) (hg : ∀ a ∈ l, G a) (hz : l.length ≤ 100000) :
    Calls Tryz.prog 266 #[v, .func (.func f) #[] caps] w fun e w' => e = .returned (.bool (l.any p)) ∧ Below w.heap.size w w' := by
  have C := hide (indexint_is v l w hf h hg hz)
  obtain ⟨ao, ca, rfl⟩ := h.slice
  clear hf h hg
  go_enter Tryz.func266, Tryz.ntmps266
  go_wp2_with fail
  refine C.out.mono ?_
  rintro e w1 ⟨i, rfl, hi, hb⟩
  go_wp2_with fail
  go_ret
  refine ⟨ret_bool ?_, hb⟩
  by_cases h0 : 0 ≤ i
  · rw [hi.1 h0]; simpa using h0
  · have : l.any p = false := by
      cases ha : l.any p with
      | false => rfl
      | true => exact absurd (hi.2 ha) h0
    rw [this]
    simpa using h0
set_option maxRecDepth 100000 in
theorem notMayint_is {f : Nat} {caps : Array Value} {G : Int → Prop} {p : Int → Bool} {W0 : World} {bm : Nat} (hf : FnIs W0 f caps 1 InR G p) (hm : W0.cell? ⟨bm, 0, none⟩ = some (.func (.func f) #[] caps)) :
    FnIs W0 265 #[.pointer (some ⟨bm, 0, none⟩)] 1 InR G (fun x => !p x) where
  enter := fun args w => by go_simp
  ok := fun W a x hW hx hga => by
    have hbm := World.block_lt_of_cell? W0 _ hm
    have A1 := brefl W
    have hm1 := (hW.cell (p := ⟨bm, 0, none⟩) hbm).trans hm
    have C := hide (hf.ok W a x hW hx hga)
    have hcf := hf.enter
    have B1 := hide A1
    clear hf hm hW hga hx A1
    go_enter Tryz.func265, Tryz.ntmps265
    go_wp2_with (refine C.out.mono ?_; rintro e w1 ⟨rfl, hb1⟩)
    have B2 := hide (bthen B1.out hb1)
    clear hb1
    go_ret
    exact ⟨rfl, B2.out⟩
set_option maxRecDepth 100000 in
theorem fewint_is {f : Nat} {caps : Array Value} {G : Int → Prop} {p : Int → Bool} (v : Value) (l : List Int) (most : Int) (w : World) (hf : FnIs w f caps 1 InR G p) (h : Rd w 1 InR v l) (hg : ∀ a ∈ l, G a) (hz : l.length ≤ 100000) :
    Calls Tryz.prog 217 #[v, .int .i64 most, .func (.func f) #[] caps] w fun e w' => e = .returned (.bool (decide ((l.length : Int) ≤ most) && l.all p)) ∧ Below w.heap.size w w' := by
  have A1 := balloc (brefl w) (.cells #[.func (.func f) #[] caps] 129)
  have hm : (w.alloc (.cells #[.func (.func f) #[] caps] 129)).cell? ⟨w.heap.size, 0, none⟩ = some (.func (.func f) #[] caps) := cell_of (heap_new w _ _) 0 rfl
  have C := hide (containsint_is v l (w.alloc (.cells #[.func (.func f) #[] caps] 129)) (notMayint_is (hf.from A1) hm) (h.below InR.mono A1) hg hz)
  have B1 := hide A1
  obtain ⟨ao, ca, rfl⟩ := h.slice
  clear hf h hg A1 hm
  have HQ : Hid (l.all p = !(l.any fun x => !p x)) := by show _ = _; rw [List.not_any_eq_all_not]; simp
  by_cases hl : (l.length : Int) ≤ most
  · go_enter Tryz.func217, Tryz.ntmps217
    go_wp2_with (refine C.out.mono ?_; rintro e w1 ⟨rfl, hb1⟩)
    have B2 := hide (bthen B1.out hb1)
    clear hb1
    go_ret
    refine ⟨ret_bool ?_, B2.out⟩
    rw [decide_eq_true hl, HQ.out]
    rfl
  · have HL := hide hl
    go_enter Tryz.func217, Tryz.ntmps217
    go_wp2_with fail
    go_ret
    refine ⟨ret_bool ?_, B1.out⟩
    rw [decide_eq_false (Int.not_le.2 HL.out)]
    rfl
end Go.Proofs.YtpmmhmgojjlniaaGreatDoor
namespace Go.Proofs.YtpmmhmgojjlniaaGreatDoor
open Go.RowKit Go.Sort
/-- A code that tells whether all is well. -/
def CodeIs (x : Int) (b : Bool) : Prop := x = 0 ↔ b = true
def rgT (r : Rg) : Ax.Ad.R := (r.ad, r.bits, r.ge, r.le, r.ok)
def rgOk (r : Rg) : Bool := Ax.Ad.rmayX (rgT r)
/-- May rules be a list? -/
def rulesOk (l : List Rg) : Bool := decide (l.length ≤ 16) && l.all rgOk
theorem rd_reads {w : World} {b : Nat} : ∀ (l : List Rg) (off : Nat), (∀ j (h : j < l.length), ∃ xs, RgR w l[j] xs ∧ xs ≠ [] ∧ ∀ i u, xs[i]? = some u → w.cell? ⟨b, off + j * 5 + i, none⟩ = some u) → Ax.Ad.readsR w b off (l.map rgT)
  | [], _, _ => fun j u hu => by simp [Ax.Ad.cellsR] at hu
  | r :: l, off, h => fun j u hu => by
    obtain ⟨x, h1, _, h3⟩ := h 0 (by simp)
    have h1 : x = [.int .u32 r.ad, .int .i64 r.bits, .int .i64 r.ge, .int .i64 r.le, .bool r.ok] := h1
    subst h1
    have ih := rd_reads l (off + 5) (fun j hj => by
      obtain ⟨y, k1, k2, k3⟩ := h (j + 1) (by simpa using hj)
      refine ⟨y, k1, k2, fun i u hu => ?_⟩
      have := k3 i u hu
      rw [show off + (j + 1) * 5 + i = off + 5 + j * 5 + i by omega] at this
      exact this)
    have hu' : ([.int .u32 r.ad, .int .i64 r.bits, .int .i64 r.ge, .int .i64 r.le, .bool r.ok] ++ Ax.Ad.cellsR (l.map rgT))[j]? = some u := hu
    rcases Nat.lt_or_ge j 5 with hj | hj
    · rw [List.getElem?_append_left hj] at hu'
      have := h3 j u hu'
      rw [Nat.zero_mul, Nat.add_zero] at this
      exact this
    · rw [List.getElem?_append_right hj] at hu'
      have := ih (j - 5) u hu'
      rw [show off + 5 + (j - 5) = off + j by omega] at this
      exact this
theorem rd_slotR {w : World} {ao : Option Addr} {n c : Nat} {l : List Rg} (h : Rd w 5 RgR (.slice ao n c) l) : Ax.Ad.slotR w ao (l.map rgT) := by
  obtain ⟨ao', c', hv, _, h⟩ := h
  cases hv
  rcases h with rfl | ⟨b, off, h, hr⟩
  · exact .inl rfl
  · exact .inr ⟨b, off, h, rd_reads l off hr⟩
set_option maxRecDepth 100000 in
theorem plistMay_is (v : Value) (l : List Rg) (w : World) (h : Rd w 5 RgR v l) : Calls Tryz.prog 73 #[v] w fun e w' => ∃ x, e = .returned (.int .i64 x) ∧ CodeIs x (rulesOk l) ∧ Below w.heap.size w w' := by
  obtain ⟨ao, ca, rfl⟩ := h.slice
  by_cases h16 : l.length ≤ 16
  · have hp := Ax.pmayX_row ao ca (l.map rgT) w (rd_slotR h) (by rw [List.length_map]; exact h16)
    rw [List.length_map] at hp
    refine hp.mono ?_
    rintro e w' ⟨rfl, hb⟩
    refine ⟨_, rfl, ?_, hb⟩
    unfold CodeIs Ax.Ad.rwhyX rulesOk
    rw [if_neg (by rw [List.length_map]; omega), decide_eq_true h16, Bool.true_and, List.all_map]
    show _ ↔ l.all rgOk = true
    have : (l.all (Ax.Ad.rmayX ∘ rgT)) = l.all rgOk := rfl
    rw [this]
    cases l.all rgOk <;> simp
  · have hgt : (16 : Int) < (l.length : Int) := by omega
    have HR : Hid (rulesOk l = false) := by unfold rulesOk; show _ = _; rw [decide_eq_false h16]; rfl
    clear h h16
    go_enter Tryz.func73, Tryz.ntmps73
    go_wp2_with fail
    go_ret
    refine ⟨_, rfl, ?_, brefl w⟩
    unfold CodeIs
    rw [HR.out]
    decide
set_option maxRecDepth 100000 in
theorem listMay_fn (W0 : World) (G : Ls → Prop) : FnIs W0 31 #[] 2 LsR G (fun l => rulesOk l.rules) where
  enter := fun args w => by go_simp
  ok := fun W a x _ hx _ => by
    obtain ⟨xs, h1, _, rfl⟩ := hx
    obtain ⟨v, rfl, hv⟩ := h1
    obtain ⟨o, c, rfl⟩ := hv.slice
    show Calls Tryz.prog 31 #[.agg #[.string a.name, .slice o a.rules.length c]] W _
    have A1 := balloc (brefl W) (.cells #[.string a.name, .slice o a.rules.length c] 48)
    have C := hide (plistMay_is _ a.rules _ (hv.below RgR.mono A1))
    have B1 := hide A1
    clear A1 hv
    generalize rulesOk a.rules = r at *
    generalize a.rules.length = n at *
    go_enter Tryz.func31, Tryz.ntmps31
    go_wp2_with fail
    refine C.out.mono ?_
    rintro e w1 ⟨x, rfl, hx, hb⟩
    have HX := hide hx
    have B2 := hide (bthen B1.out hb)
    clear hx hb
    go_wp2_with fail
    go_ret
    refine ⟨ret_bool ?_, B2.out⟩
    have h := HX.out
    unfold CodeIs at h
    rw [Bool.eq_iff_iff, ← h]
    simp
theorem guardCm : Tryz.prog.eqGuardType Tryz.prog.depth 53 = false := by kernel_rfl
theorem eqCm (a b c d : Int) (w : World) : (binOp .eql 53 (.agg #[.int .i64 a, .int .i64 b]) (.agg #[.int .i64 c, .int .i64 d])).run Tryz.prog w = .ok (.bool (a == c && b == d)) w := by
  have u3 := Tryz.underlying3
  have a3 := Tryz.isAgg3
  have z3 := Tryz.sizeOf3
  have hS : Tryz.prog.underlying 53 = some (.struct (Tryz.prog.fieldsOf 53)) := by kernel_rfl
  have hp : Tryz.prog.stoodInHeld 53 = false := by kernel_rfl
  rw [run_eql_struct, show (10000 : Nat) = 9999 + 1 from rfl, run_equalIn_agg w 9999 53 _ _ hS hp]
  simp only [Program.fieldsOf, Tryz.underlying53]
  go_simp
  by_cases h1 : a = c <;> by_cases h2 : b = d <;> simp [h1, h2]
/-- May a clause ask so? -/
def matchOk (m : Mt) : Bool := lackOk m.list && decide (Ar.asF m.path = 0) && ((m.ca == 0 && m.cn == 0) || Cm.Co.may (m.ca, m.cn))
set_option maxHeartbeats 2000000 in
set_option maxRecDepth 100000 in
theorem matchMay_is (m : Mt) (hs : m.list.size ≤ 1000) (w : World) (hT : Ar.Y4.Pt w) : Calls Tryz.prog 152 #[.agg #[.string m.list, .string m.path, .int .i64 m.ca, .int .i64 m.cn]] w fun e w' => e = .returned (.bool (matchOk m)) ∧ Below w.heap.size w w' := by
  obtain ⟨li, pa, ca, cn⟩ := m
  simp only at hs ⊢
  have A1 := balloc (brefl w) (.cells #[.string li, .string pa, .int .i64 ca, .int .i64 cn] 55)
  have N1 := hide (heap_new w #[.string li, .string pa, .int .i64 ca, .int .i64 cn] 55)
  have CA := hide (Ar.asF_is pa w _ hT A1)
  have CL := hide (fun W => mayLack_is li hs W)
  have CC := hide (fun W => Cm.may_is ca cn _ rfl W)
  have HE : Hid (matchOk ⟨li, pa, ca, cn⟩ = (lackOk li && decide (Ar.asF pa = 0) && ((ca == 0 && cn == 0) || Cm.Co.may (ca, cn)))) := rfl
  have B1 := hide A1
  have hq := eqCm
  have hgd := guardCm
  clear A1 hs hT
  generalize matchOk ⟨li, pa, ca, cn⟩ = R at *
  generalize lackOk li = r1 at *
  generalize Cm.Co.may (ca, cn) = r3 at *
  generalize Ar.asF pa = z at *
  go_enter Tryz.func152, Tryz.ntmps152
  go_upto_region 1 with fail
  obtain ⟨bx, hbx⟩ : ∃ x, w.heap.size = x := ⟨_, rfl⟩
  rw [hbx] at N1 ⊢
  generalize w.alloc (.cells #[.string li, .string pa, .int .i64 ca, .int .i64 cn] 55) = W1 at *
  have n1 := cell_of N1.out 1 rfl
  go_wp2_with fail
  refine CA.out.mono ?_
  rintro e w2 ⟨x, rfl, hb2⟩
  have N2 := hide ((hb2.block bx (heap_lt N1.out)).trans N1.out)
  have B2 := hide (bthen B1.out hb2)
  clear hb2 CA N1 B1 n1
  have n0 := cell_of N2.out 0 rfl
  go_upto_region 2 with fail
  go_wp2_with fail
  refine (CL.out w2).mono ?_
  rintro e w3 ⟨rfl, hb3⟩
  have N3 := hide ((hb3.block bx (heap_lt N2.out)).trans N2.out)
  have B3 := hide (bthen B2.out hb3)
  clear hb3 CL N2 B2 n0
  have n2 := cell_of N3.out 2 rfl
  have n3 := cell_of N3.out 3 rfl
  cases r1 with
  | false =>
    go_wp2_with fail
    go_ret
    exact ⟨ret_bool HE.out.symm, by first | exact B3.out | (rw [← hbx]; exact B3.out) | (rw [hbx]; exact B3.out)⟩
  | true =>
    by_cases hz : z = 0
    · subst hz
      cases h0 : (ca == 0 && cn == 0) with
      | true =>
        have HR : Hid (R = true) := by show _ = _; rw [HE.out, h0]; rfl
        clear HE
        go_wp2_with fail
        go_ret
        exact ⟨ret_bool HR.out.symm, by first | exact B3.out | (rw [← hbx]; exact B3.out) | (rw [hbx]; exact B3.out)⟩
      | false =>
        have HR : Hid (R = r3) := by show _ = _; rw [HE.out, h0]; cases r3 <;> rfl
        clear HE
        go_wp2_with fail
        refine (CC.out w3).mono ?_
        rintro e w4 ⟨rfl, hb4⟩
        have B4 := hide (bthen B3.out hb4)
        clear hb4
        go_wp2_with fail
        go_ret
        exact ⟨ret_bool HR.out.symm, by first | exact B4.out | (rw [← hbx]; exact B4.out) | (rw [hbx]; exact B4.out)⟩
    · have HR : Hid (R = false) := by show _ = _; rw [HE.out, decide_eq_false hz]; rfl
      clear HE
      go_wp2_with fail
      go_ret
      exact ⟨ret_bool HR.out.symm, by first | exact B3.out | (rw [← hbx]; exact B3.out) | (rw [hbx]; exact B3.out)⟩
end Go.Proofs.YtpmmhmgojjlniaaGreatDoor
namespace Go.Proofs.YtpmmhmgojjlniaaGreatDoor
open Go.RowKit Go.Sort
set_option maxHeartbeats 2000000 in
set_option maxRecDepth 100000 in
theorem indexClause_is {f : Nat} {caps : Array Value} {G : Cl → Prop} {p : Cl → Bool} (v : Value) (l : List Cl) (w : World) (hf : FnIs w f caps 13 ClR G p) (h : Rd w 13 ClR v l) (hg : ∀ a ∈ l, G a) (hz : l.length ≤ 100000) :
    Calls Tryz.prog 213 #[v, .func (.func f) #[] caps] w fun e w' => ∃ i : Int, e = .returned (.int .i64 i) ∧ AnyIs i (l.any p) ∧ Below w.heap.size w w' := by
  obtain ⟨ao, ca, rfl⟩ := h.slice
  have H := hide h
  have hcf := hf.enter
  have HF := hide (fun W a x hW hx hg => hf.ok W a x hW hx hg)
  have HG := hide hg
  clear h hf hg
  go_enter Tryz.func213, Tryz.ntmps213
  go_wp2_with fail
  go_loopw [8] (fun v8 wr => ∃ k : Nat, v8 = .int .i64 k ∧ k ≤ l.length ∧ Hid ((l.take k).any p = false) ∧ Hid (Below w.heap.size w wr)) (fun v8 _ => l.length - (intOf v8).toNat)
  case atStart => exact ⟨0, rfl, Nat.zero_le _, hide rfl, brefl w⟩
  case round =>
    obtain ⟨k, rfl, hk, HA, HBR⟩ := hrel
    by_cases hkl : k < l.length
    · have hkl' : (k : Int) < (l.length : Int) := by omega
      obtain ⟨b, off, xs, rfl, hbw, hx, ha⟩ := (Rd.below ClR.mono H.out HBR.out).at_ hkl
      obtain ⟨x0, x1, x2, x3, x4, x5, x6, x7, x8, x9, x10, x11, x12, rfl⟩ := list13 hx.len
      have c0 := ha 0 _ rfl
      have c1 := ha 1 _ rfl
      have c2 := ha 2 _ rfl
      have c3 := ha 3 _ rfl
      have c4 := ha 4 _ rfl
      have c5 := ha 5 _ rfl
      have c6 := ha 6 _ rfl
      have c7 := ha 7 _ rfl
      have c8 := ha 8 _ rfl
      have c9 := ha 9 _ rfl
      have c10 := ha 10 _ rfl
      have c11 := ha 11 _ rfl
      have c12 := ha 12 _ rfl
      simp only [Nat.add_zero] at c0
      clear ha
      have CP := hide (HF.out wr l[k] (.agg #[x0, x1, x2, x3, x4, x5, x6, x7, x8, x9, x10, x11, x12]) HBR.out ⟨_, hx, rfl, rfl⟩ (HG.out _ (List.getElem_mem hkl)))
      have HT := hide (any_take (p := p) hkl)
      have HAT := hide (any_of_at (p := p) hkl)
      clear hx
      generalize p l[k] = r at *
      cases r with
      | true =>
        have HY := hide (HAT.out rfl)
        clear HT HAT HA
        go_wp2_with (refine CP.out.mono ?_; rintro e w1 ⟨rfl, hb1⟩)
        have B1 := hide (bthen HBR.out hb1)
        clear hb1
        go_ret
        exact ⟨_, rfl, ⟨fun _ => HY.out, fun _ => Int.natCast_nonneg _⟩, B1.out⟩
      | false =>
        have HN : Hid ((l.take (k + 1)).any p = false) := by show _ = _; rw [HT.out, HA.out]; rfl
        clear HT HAT HA
        go_wp2_with (refine CP.out.mono ?_; rintro e w1 ⟨rfl, hb1⟩)
        have B1 := hide (bthen HBR.out hb1)
        clear hb1
        exact ⟨⟨k + 1, by go_num, by omega, HN, B1⟩, by simp [intOf] <;> omega⟩
    · have hkl' : ¬ (k : Int) < (l.length : Int) := by omega
      have HN : Hid (l.any p = false) := by
        have h := HA.out
        rw [List.take_of_length_le (by omega)] at h
        exact h
      clear HA
      go_wp2_with fail
      go_ret
      exact ⟨-1, rfl, ⟨fun h => absurd h (by decide), fun h => by rw [HN.out] at h; cases h⟩, HBR.out⟩
theorem containsClause_is {f : Nat} {caps : Array Value} {G : Cl → Prop} {p : Cl → Bool} (v : Value) (l : List Cl) (w : World) (hf : FnIs w f caps 13 ClR G p) (h : Rd w 13 ClR v l) (hg : ∀ a ∈ l, G a) (hz : l.length ≤ 100000) :
    Calls Tryz.prog 150 #[v, .func (.func f) #[] caps] w fun e w' => e = .returned (.bool (l.any p)) ∧ Below w.heap.size w w' := by
  have C := hide (indexClause_is v l w hf h hg hz)
  obtain ⟨ao, ca, rfl⟩ := h.slice
  clear hf h hg
  go_enter Tryz.func150, Tryz.ntmps150
  go_wp2_with fail
  refine C.out.mono ?_
  rintro e w1 ⟨i, rfl, hi, hb⟩
  go_wp2_with fail
  go_ret
  refine ⟨ret_bool ?_, hb⟩
  by_cases h0 : 0 ≤ i
  · rw [hi.1 h0]; simpa using h0
  · have : l.any p = false := by
      cases ha : l.any p with
      | false => rfl
      | true => exact absurd (hi.2 ha) h0
    rw [this]
    simpa using h0
set_option maxRecDepth 100000 in
theorem notMayClause_is {f : Nat} {caps : Array Value} {G : Cl → Prop} {p : Cl → Bool} {W0 : World} {bm : Nat} (hf : FnIs W0 f caps 13 ClR G p) (hm : W0.cell? ⟨bm, 0, none⟩ = some (.func (.func f) #[] caps)) :
    FnIs W0 149 #[.pointer (some ⟨bm, 0, none⟩)] 13 ClR G (fun x => !p x) where
  enter := fun args w => by go_simp
  ok := fun W a x hW hx hga => by
    have hbm := World.block_lt_of_cell? W0 _ hm
    have hxw := hx
    obtain ⟨xs, h1, h2, rfl⟩ := hx
    obtain ⟨x0, x1, x2, x3, x4, x5, x6, x7, x8, x9, x10, x11, x12, rfl⟩ := list13 h2
    have A1 := balloc (brefl W) (.cells #[x0, x1, x2, x3, x4, x5, x6, x7, x8, x9, x10, x11, x12] 61)
    have hm1 := (A1.cell (p := ⟨bm, 0, none⟩) (Nat.lt_of_lt_of_le hbm hW.size)).trans ((hW.cell (p := ⟨bm, 0, none⟩) hbm).trans hm)
    have C := hide (hf.ok (W.alloc (.cells #[x0, x1, x2, x3, x4, x5, x6, x7, x8, x9, x10, x11, x12] 61)) a _ (bthen hW A1) (VR.mono ClR.mono hxw A1) hga)
    have hcf := hf.enter
    have B1 := hide A1
    clear hf hm hW hga hxw h1 h2 A1
    go_enter Tryz.func149, Tryz.ntmps149
    go_wp2_with (refine C.out.mono ?_; rintro e w1 ⟨rfl, hb1⟩)
    have B2 := hide (bthen B1.out hb1)
    clear hb1
    go_ret
    exact ⟨rfl, B2.out⟩
set_option maxRecDepth 100000 in
theorem fewClause_is {f : Nat} {caps : Array Value} {G : Cl → Prop} {p : Cl → Bool} (v : Value) (l : List Cl) (most : Int) (w : World) (hf : FnIs w f caps 13 ClR G p) (h : Rd w 13 ClR v l) (hg : ∀ a ∈ l, G a) (hz : l.length ≤ 100000) :
    Calls Tryz.prog 77 #[v, .int .i64 most, .func (.func f) #[] caps] w fun e w' => e = .returned (.bool (decide ((l.length : Int) ≤ most) && l.all p)) ∧ Below w.heap.size w w' := by
  have A1 := balloc (brefl w) (.cells #[.func (.func f) #[] caps] 136)
  have hm : (w.alloc (.cells #[.func (.func f) #[] caps] 136)).cell? ⟨w.heap.size, 0, none⟩ = some (.func (.func f) #[] caps) := cell_of (heap_new w _ _) 0 rfl
  have C := hide (containsClause_is v l (w.alloc (.cells #[.func (.func f) #[] caps] 136)) (notMayClause_is (hf.from A1) hm) (h.below ClR.mono A1) hg hz)
  have B1 := hide A1
  obtain ⟨ao, ca, rfl⟩ := h.slice
  clear hf h hg A1 hm
  have HQ : Hid (l.all p = !(l.any fun x => !p x)) := by show _ = _; rw [List.not_any_eq_all_not]; simp
  by_cases hl : (l.length : Int) ≤ most
  · go_enter Tryz.func77, Tryz.ntmps77
    go_wp2_with (refine C.out.mono ?_; rintro e w1 ⟨rfl, hb1⟩)
    have B2 := hide (bthen B1.out hb1)
    clear hb1
    go_ret
    refine ⟨ret_bool ?_, B2.out⟩
    rw [decide_eq_true hl, HQ.out]
    rfl
  · have HL := hide hl
    go_enter Tryz.func77, Tryz.ntmps77
    go_wp2_with fail
    go_ret
    refine ⟨ret_bool ?_, B1.out⟩
    rw [decide_eq_false (Int.not_le.2 HL.out)]
    rfl
end Go.Proofs.YtpmmhmgojjlniaaGreatDoor
