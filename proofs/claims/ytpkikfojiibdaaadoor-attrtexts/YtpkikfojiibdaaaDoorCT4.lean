/- The text of a set: comm's and the document's. -/
import Derived.Test.YtpkikfojiibdaaaDoorCT3
import Derived.Test.YtpkikfojiibdaaaDoorCA2
import Derived.Test.YtpkikfojiibdaaaDoorCA4
import Derived.Laws.MakeOwn
namespace Go.Proofs.YtpkikfojiibdaaaDoor.Cm
open Go.RowKit Go.Sort

def Co.tx (c : Co.C) : List UInt8 := Co.text c.1 c.2
def Co.texts (l : List Co.C) : List UInt8 := if Co.set l = true then Lib.join (l.map Co.tx) [32] else []
def Co.txS (c : Co.C) : Value := .string ⟨(Co.tx c).toArray⟩

theorem Co.tx_len (c : Co.C) : (Co.tx c).length ≤ 50 := by
  unfold Co.tx Co.text
  split
  · rename_i hm
    split
    · decide
    · split
      · decide
      · split
        · decide
        · have hr := (Co.may_iff c.1 c.2).1 hm
          have l0 := itoa_len c.1 (by omega) (by omega)
          have l1 := itoa_len c.2 (by omega) (by omega)
          simp [Co.plain]
          omega
  · decide
theorem Co.tail_len : ∀ (r : List Co.C), (Lib.joinTail [32] (r.map Co.tx)).length ≤ 51 * r.length
  | [] => by simp [Lib.joinTail]
  | x :: r => by
    have h1 := Co.tail_len r
    have h2 := Co.tx_len x
    simp only [Lib.joinTail, List.map_cons, List.flatten_cons, List.length_append, List.length_cons, List.length_nil] at h1 ⊢
    omega
theorem Co.join_len (l : List Co.C) : (Lib.join (l.map Co.tx) [32]).length ≤ 51 * l.length := by
  cases l with
  | nil => simp [Lib.join_nil]
  | cons x r =>
    rw [List.map_cons, Lib.join_cons, List.length_append]
    have h1 := Co.tail_len r
    have h2 := Co.tx_len x
    rw [List.length_cons]
    omega

theorem infoS : (Tryd.prog.info? 9).map (fun i => (i.zero, i.size, i.bytes)) = some (some (.string ⟨#[]⟩), 1, 16) := by kernel_rfl
theorem info_partsS : ∃ i0 : TypeInfo, Tryd.prog.info? 9 = some i0 ∧ i0.zero = some (.string ⟨#[]⟩) ∧ i0.size = 1 ∧ i0.bytes = 16 := by
  have h := infoS
  cases hi : Tryd.prog.info? 9 with
  | none => rw [hi] at h; cases h
  | some i0 =>
    rw [hi] at h
    simp only [Option.map_some, Option.some.injEq, Prod.mk.injEq] at h
    exact ⟨i0, rfl, h.1, h.2.1, h.2.2⟩

theorem append_str {w w0 : World} {ops : Array Oper} {rest : List Oper} {o : Oper} {a : Act} {Q : Exit → Act → World → Prop} (hgd : o.guard = none) (s x : Operand)
    (ho : o.op = .call { callee := .builtin .append, args := #[s, x], argTypes := #[44, 44] }) (v : Value) (n : Nat) (xs : List Value) (hs : a.eval s = v) (hown : w.ownsRow w0.heap.size 9 1 v n xs)
    (g c : Nat) (t : ByteArray) (hx : a.eval x = .slice (some ⟨g, 0, none⟩) 1 c) (hR : w.cell? ⟨g, 0, none⟩ = some (.string t)) (hn : n ≤ 1000) (hb : Below w0.heap.size w0 w)
    (h : ∀ v' w', w'.ownsRow w0.heap.size 9 1 v' (n + 1) (xs ++ [.string t]) → Below w0.heap.size w0 w' → wpList Tryd.prog ops Q rest (a.put o.dst v') w') : wpList Tryd.prog ops Q (o :: rest) a w := by
  obtain ⟨i0, hi, hz0, hz1, hz2⟩ := info_partsS
  refine wpList_append_own w hgd s x 44 ho w0.heap.size 9 i0 _ 1 16 Tryd.underlying44 hi hz0 hz1 hz2 rfl (by decide) v n xs hs hown ⟨g, 0, none⟩ 1 c [.string t] hx rfl ?_ ?_ (by unfold maxLen; omega) (by omega) hb.size ?_
  · intro j u hu
    match j, hu with
    | 0, hu => simp at hu; subst hu; exact hR
    | j + 1, hu => simp at hu
  · intro u hu
    simp at hu
    subst hu
    rfl
  · intro v' w' ho' hg _
    exact h v' w' ho' (Below.grown hb hg hb.size fun k hk => (hown.lt k hk).1)

set_option maxHeartbeats 4000000 in
set_option maxRecDepth 100000 in
theorem texts_good (ao : Option Addr) (ca : Nat) (l : List Co.C) (r : ByteArray) (hr : Hid (r = ⟨(Lib.join (l.map Co.tx) [32]).toArray⟩)) (w : World) (hA : Co.slot w ao l) (hs : Co.set l = true) (hT : Tab w) :
    Calls Tryd.prog 21 #[.slice ao l.length ca] w fun e w' => e = .returned (.string r) ∧ Below w.heap.size w w' := by
  have hl8 : l.length ≤ 8 := ((Co.set_iff l).1 hs).1
  have HA := hide hA
  have HS := hide hs
  have HT := hide hT
  clear hA hs hT
  go_enter Tryd.func21, Tryd.ntmps21
  go_wp2_with fail
  refine (set_is ao ca l true HS.out _ HA.out).mono ?_
  rintro e w1 ⟨rfl, hb1⟩
  have HA1 := hide (Co.slot_below HA.out hb1)
  have B1 := hide hb1
  clear hb1
  obtain ⟨i0, hi, hz0, hz1, hz2⟩ := info_partsS
  obtain ⟨w2, hmk, hown, hgr⟩ := run_make_own w1 w.heap.size 44 9 i0 _ 1 Tryd.underlying44 hi hz0 hz1 .i64 .i64 l.length (by rw [hz2]; omega) (by unfold maxLen; omega) B1.out.size
  have B2 := hide (Below.grown B1.out hgr B1.out.size (fun k hk => by cases hk))
  have HO := hide hown
  clear hi hz0 hz1 hz2 hown hgr
  go_wp2_with fail
  go_loopw [3, 14] (fun v3 v14 wr => ∃ (k : Nat) (o : Option Addr) (c : Nat), v14 = .int .i64 k ∧ v3 = .slice o k c ∧ k ≤ l.length ∧ wr.ownsRow w.heap.size 9 1 (.slice o k c) k ((l.take k).map Co.txS) ∧ Below w.heap.size w wr) (fun _ v14 _ => l.length - (intOf v14).toNat)
  case atStart => exact ⟨0, _, _, rfl, rfl, Nat.zero_le _, HO.out, B2.out⟩
  case round =>
    clear HO B2
    obtain ⟨k, o, c, rfl, rfl, hk, hown, hbr⟩ := hrel
    have HO := hide hown
    have HBR := hide hbr
    clear hown hbr
    by_cases hkl : k < l.length
    · have hkl' : (k : Int) < (l.length : Int) := by omega
      obtain ⟨b, off, rfl, hrd⟩ := Co.slot_at HA.out hkl
      obtain ⟨e0, e1⟩ := Co.reads_at (Co.reads_below hrd HBR.out) k hkl
      clear hrd
      have HN : Hid ((l.take (k + 1)).map Co.txS = (l.take k).map Co.txS ++ [.string ⟨(Co.text l[k].1 l[k].2).toArray⟩]) := by
        show _ = _
        rw [List.take_succ_eq_append_getElem hkl, List.map_append]
        rfl
      generalize (l.take k).map Co.txS = XS at HO HN
      generalize hXN : (l.take (k + 1)).map Co.txS = XN at HN
      have HXN := hide hXN
      clear hXN
      generalize l[k] = y at *
      obtain ⟨y0, y1⟩ := y
      obtain ⟨t, ht⟩ : ∃ t : ByteArray, t = ⟨(Co.text y0 y1).toArray⟩ := ⟨_, rfl⟩
      simp only at HN
      rw [← ht] at HN
      have HTT := hide ht
      clear ht
      go_wp2_with fail
      refine (text_is y0 y1 t HTT.out _ (HT.out.on (balloc HBR.out _))).mono ?_
      rintro e w3 ⟨rfl, hb3⟩
      have B3 := hide (bthen (balloc HBR.out _) hb3)
      have HO3 := hide (row_below (HO.out.alloc _) hb3)
      clear hb3 HBR HO
      go_wp2_with (at_builtin; go_must (refine append_str (w0 := w) rfl _ _ rfl _ k _ rfl (HO3.out.alloc _) w3.heap.size 1 t rfl ?c1 (by omega) (balloc B3.out _) ?_))
      case c1 => simp
      intro v' w4 hnew hb4
      obtain ⟨no, nc, rfl⟩ := row_slice hnew
      rw [← HN.out] at hnew
      have HNW := hide hnew
      have B4 := hide hb4
      clear hnew hb4
      go_wp2_with fail
      refine ⟨⟨k + 1, no, nc, by go_num, rfl, by omega, ?_, B4.out⟩, by simp [intOf] <;> omega⟩
      rw [HXN.out]
      exact HNW.out
    · have hkl' : ¬ (k : Int) < (l.length : Int) := by omega
      obtain rfl : k = l.length := by omega
      rw [List.take_length] at HO
      have hj : Hid (((l.map fun c => (⟨(Co.tx c).toArray⟩ : ByteArray)).map (·.data.toList)) = l.map Co.tx) := by
        show _ = _
        rw [List.map_map]
        exact List.map_congr_left fun c _ => by simp
      have hjl := Co.join_len l
      rcases Nat.eq_zero_or_pos l.length with h0 | h0
      · have hl0 : l = [] := List.length_eq_zero_iff.1 h0
        subst hl0
        clear HO
        go_wp2_with fail
        refine (Tryd.strings_Join_none _ _ _ _).mono ?_
        rintro e w3 ⟨rfl, rfl⟩
        go_wp2_with fail
        go_ret
        exact ⟨by rw [hr.out]; rfl, HBR.out⟩
      · obtain ⟨g, hgo, hgc⟩ : ∃ g, o = some ⟨g, 0, none⟩ ∧ l.length ≤ c := by
          rcases HO.out.2 with ⟨hv, h1⟩ | ⟨g, cap, cur, hv, hbg, hg, hnc, _⟩
          · omega
          · simp only [Value.slice.injEq] at hv
            exact ⟨g, hv.1, by rw [hv.2.2]; exact hnc⟩
        subst hgo
        have hcl : ∀ (j : Nat) x, (l.map fun c => (⟨(Co.tx c).toArray⟩ : ByteArray))[j]? = some x → wr.cell? ⟨g, 0 + j, none⟩ = some (.string x) := by
          intro j x hx
          have hjl : j < l.length := by have := (List.getElem?_eq_some_iff.1 hx).1; simpa using this
          rw [Nat.zero_add, HO.out.cellAt j (by omega)]
          rw [List.getElem?_map] at hx ⊢
          cases hlj : l[j]? with
          | none => rw [hlj] at hx; cases hx
          | some y =>
            rw [hlj] at hx
            simp only [Option.map_some, Option.some.injEq] at hx ⊢
            rw [← hx]
            rfl
        have CJ := Tryd.strings_Join g 0 c (l.map fun c => (⟨(Co.tx c).toArray⟩ : ByteArray)) ⟨#[32]⟩ wr hcl (by have := HO.out.lt g rfl; omega) (by simp; omega) (by simpa using hgc) (by rw [hj.out]; show (Lib.join _ [32]).length ≤ _; omega)
        rw [hj.out, List.length_map, show (⟨#[32]⟩ : ByteArray).data.toList = [32] from rfl, ← hr.out] at CJ
        have CJH := hide CJ
        clear CJ hcl
        go_wp2_with fail
        refine CJH.out.mono ?_
        rintro e w3 ⟨rfl, hb3⟩
        have B3 := hide (bthen HBR.out hb3)
        clear hb3 CJH
        go_wp2_with fail
        go_ret
        exact ⟨rfl, B3.out⟩

theorem texts_bad (ao : Option Addr) (ca : Nat) (l : List Co.C) (w : World) (hA : Co.slot w ao l) (hs : Co.set l = false) :
    Calls Tryd.prog 21 #[.slice ao l.length ca] w fun e w' => e = .returned (.string ⟨#[]⟩) ∧ Below w.heap.size w w' := by
  have HA := hide hA
  have HS := hide hs
  clear hA hs
  go_enter Tryd.func21, Tryd.ntmps21
  go_wp2_with fail
  refine (set_is ao ca l false HS.out _ HA.out).mono ?_
  rintro e w1 ⟨rfl, hb1⟩
  go_wp2_with fail
  go_ret
  exact ⟨rfl, hb1⟩
theorem texts_is (ao : Option Addr) (ca : Nat) (l : List Co.C) (t : ByteArray) (ht : t = ⟨(Co.texts l).toArray⟩) (w : World) (hA : Co.slot w ao l) (hT : Tab w) :
    Calls Tryd.prog 21 #[.slice ao l.length ca] w fun e w' => e = .returned (.string t) ∧ Below w.heap.size w w' := by
  subst ht
  unfold Co.texts
  cases hs : Co.set l
  · exact texts_bad ao ca l w hA hs
  · rw [if_pos rfl]
    exact texts_good ao ca l _ rfl w hA hs hT

theorem refTexts_bad (ao : Option Addr) (ca : Nat) (l : List Co.C) (w : World) (hA : Co.slot w ao l) (hs : Co.set l = false) (h200 : l.length ≤ 200) :
    Calls Tryd.prog 35 #[.slice ao l.length ca] w fun e w' => e = .returned (.string ⟨#[]⟩) ∧ Below w.heap.size w w' := by
  have HA := hide hA
  have HS := hide hs
  clear hA hs
  go_enter Tryd.func35, Tryd.ntmps35
  go_wp2_with fail
  refine (refSet_is ao ca l false HS.out _ HA.out h200).mono ?_
  rintro e w1 ⟨rfl, hb1⟩
  go_wp2_with fail
  go_ret
  exact ⟨rfl, hb1⟩

/-- What stands behind the first k. -/
def Co.joinTo (l : List Co.C) (k : Nat) : List UInt8 := Lib.join ((l.take k).map Co.tx) [32]
theorem Co.joinTo_len (l : List Co.C) (k : Nat) (h : k ≤ 8) : (Co.joinTo l k).length ≤ 408 := by
  have := Co.join_len (l.take k)
  rw [List.length_take] at this
  unfold Co.joinTo
  omega
theorem Co.joinTo_one (l : List Co.C) (h : 0 < l.length) : Co.joinTo l 1 = Co.tx l[0] := by
  cases l with
  | nil => simp at h
  | cons x r => simp [Co.joinTo, Lib.join_one]
theorem Co.joinTo_succ (l : List Co.C) (m : Nat) (h : m + 1 < l.length) : Co.joinTo l (m + 1 + 1) = Co.joinTo l (m + 1) ++ [32] ++ Co.tx l[m + 1] := by
  cases l with
  | nil => simp at h
  | cons x r =>
    have h' : m < r.length := by simpa using h
    unfold Co.joinTo
    rw [List.take_succ_cons, List.map_cons, Lib.join_cons, List.take_succ_cons, List.map_cons, Lib.join_cons, List.map_take, List.map_take, Lib.joinTail_take_succ [32] (r.map Co.tx) m (Co.tx r[m]) (by simp [h'])]
    simp [List.append_assoc]

set_option maxHeartbeats 4000000 in
set_option maxRecDepth 100000 in
theorem refTexts_good (ao : Option Addr) (ca : Nat) (l : List Co.C) (q : ByteArray) (hq : Hid (q = ⟨(Lib.join (l.map Co.tx) [32]).toArray⟩)) (w : World) (hA : Co.slot w ao l) (hs : Co.set l = true) :
    Calls Tryd.prog 35 #[.slice ao l.length ca] w fun e w' => e = .returned (.string q) ∧ Below w.heap.size w w' := by
  have hl8 : l.length ≤ 8 := ((Co.set_iff l).1 hs).1
  have HA := hide hA
  have HS := hide hs
  clear hA hs
  have HEND : Hid (Co.joinTo l l.length = Lib.join (l.map Co.tx) [32]) := by show _ = _; unfold Co.joinTo; rw [List.take_length]
  go_enter Tryd.func35, Tryd.ntmps35
  go_wp2_with fail
  refine (refSet_is ao ca l true HS.out _ HA.out (by omega)).mono ?_
  rintro e w1 ⟨rfl, hb1⟩
  have B1 := hide hb1
  clear hb1
  go_wp2_with fail
  go_loopw [3, 4] (fun v3 v4 wr => ∃ (k : Nat) (t : ByteArray), v4 = .int .i64 k ∧ v3 = .string t ∧ k ≤ l.length ∧ Hid (t = ⟨(Co.joinTo l k).toArray⟩) ∧ Below w.heap.size w wr) (fun _ v4 _ => l.length - (intOf v4).toNat)
  case atStart => exact ⟨0, _, rfl, rfl, Nat.zero_le _, rfl, B1.out⟩
  case round =>
    obtain ⟨k, t, rfl, rfl, hk, ht, hbr⟩ := hrel
    have HBR := hide hbr
    clear hbr
    by_cases hkl : k < l.length
    · have hkl' : (k : Int) < (l.length : Int) := by omega
      obtain ⟨b, off, rfl, hrd⟩ := Co.slot_at HA.out hkl
      obtain ⟨e0, e1⟩ := Co.reads_at (Co.reads_below hrd HBR.out) k hkl
      clear hrd
      rcases Nat.eq_zero_or_pos k with hk0 | hk0
      · subst hk0
        have HN : Hid (Co.joinTo l (0 + 1) = Co.text l[0].1 l[0].2) := Co.joinTo_one l hkl
        simp only [Nat.zero_mul, Nat.add_zero] at e0 e1
        generalize l[0] = y at *
        obtain ⟨y0, y1⟩ := y
        obtain ⟨u, hu⟩ : ∃ u : ByteArray, u = ⟨(Co.text y0 y1).toArray⟩ := ⟨_, rfl⟩
        have hz : t = ⟨#[]⟩ := ht.out
        subst hz
        have HA2 : Adds ⟨#[]⟩ u u := by
          rw [hu]
          exact adds_list [] _ (by decide) (Nat.le_trans (Co.tx_len (y0, y1)) (by decide))
        have HU := hide hu
        clear hu ht
        unfold Adds at HA2
        go_wp2_with fail
        refine (refText_is y0 y1 u HU.out _).mono ?_
        rintro e w3 ⟨rfl, hb3⟩
        have B3 := hide (bthen HBR.out hb3)
        clear hb3 HBR
        go_wp2_with fail
        refine ⟨⟨1, u, by go_num, rfl, by omega, ?_, B3.out⟩, by simp [intOf] <;> omega⟩
        show _ = _
        rw [HU.out, HN.out]
      · obtain ⟨m, rfl⟩ : ∃ m, k = m + 1 := ⟨k - 1, by omega⟩
        have hpos : (0 : Int) < (m : Int) + 1 := by omega
        have hkl2 : (m : Int) + 1 < (l.length : Int) := by omega
        have HN : Hid (Co.joinTo l (m + 1 + 1) = Co.joinTo l (m + 1) ++ [32] ++ Co.text l[m + 1].1 l[m + 1].2) := Co.joinTo_succ l m hkl
        have hjl := Co.joinTo_len l (m + 1) (by omega)
        generalize l[m + 1] = y at *
        obtain ⟨y0, y1⟩ := y
        have htl := Co.tx_len (y0, y1)
        obtain ⟨u, hu⟩ : ∃ u : ByteArray, u = ⟨(Co.text y0 y1).toArray⟩ := ⟨_, rfl⟩
        obtain ⟨s, hs⟩ : ∃ s : ByteArray, s = ⟨(Co.joinTo l (m + 1) ++ [32]).toArray⟩ := ⟨_, rfl⟩
        obtain ⟨r, hr⟩ : ∃ r : ByteArray, r = ⟨(Co.joinTo l (m + 1) ++ [32] ++ Co.text y0 y1).toArray⟩ := ⟨_, rfl⟩
        have K0 : Adds t ⟨#[32]⟩ s := by
          rw [ht.out, hs]
          exact adds_list _ [32] (by omega) (by decide)
        have K1 : Adds s u r := by
          rw [hs, hu, hr]
          exact adds_list _ _ (by simp; omega) (Nat.le_trans htl (by decide))
        have HU := hide hu
        have HR := hide hr
        clear hu hs hr ht hjl htl
        unfold Adds at K0 K1
        go_wp2_with fail
        refine (refText_is y0 y1 u HU.out _).mono ?_
        rintro e w3 ⟨rfl, hb3⟩
        have B3 := hide (bthen HBR.out hb3)
        clear hb3 HBR
        go_wp2_with fail
        refine ⟨⟨m + 1 + 1, r, by go_num, rfl, by omega, ?_, B3.out⟩, by simp [intOf] <;> omega⟩
        show _ = _
        rw [HR.out, HN.out]
    · have hkl' : ¬ (k : Int) < (l.length : Int) := by omega
      obtain rfl : k = l.length := by omega
      have HE : Hid (t = q) := by show _ = _; rw [hq.out, ← HEND.out]; exact ht.out
      clear ht
      go_wp2_with fail
      go_ret
      exact ⟨by rw [← HE.out]; rfl, HBR.out⟩

theorem refTexts_is (ao : Option Addr) (ca : Nat) (l : List Co.C) (t : ByteArray) (ht : t = ⟨(Co.texts l).toArray⟩) (w : World) (hA : Co.slot w ao l) (h200 : l.length ≤ 200) :
    Calls Tryd.prog 35 #[.slice ao l.length ca] w fun e w' => e = .returned (.string t) ∧ Below w.heap.size w w' := by
  subst ht
  unfold Co.texts
  cases hs : Co.set l
  · exact refTexts_bad ao ca l w hA hs h200
  · rw [if_pos rfl]
    exact refTexts_good ao ca l _ rfl w hA hs
end Go.Proofs.YtpkikfojiibdaaaDoor.Cm