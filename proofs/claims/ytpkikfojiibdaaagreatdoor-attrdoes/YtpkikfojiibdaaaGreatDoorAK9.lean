import Derived.Test.YtpkikfojiibdaaaGreatDoorAS1
import Derived.Test.YtpkikfojiibdaaaGreatDoorCS2
import Derived.Laws.MakeOwn
/- The program's Text. -/
namespace Go.Proofs.YtpkikfojiibdaaaGreatDoor
open Go.RowKit Go.Sort

/-- The library's table of powers of ten reads as it was laid. -/
def Tab (w : World) : Prop := Lib.TabIs Tryz.prog w "internal/strconv.uint64pow10" .u64 Lib.pow10Tab
theorem Tab.on {w w' : World} (h : Tab w) (hb : Below w.heap.size w w') : Tab w' := Lib.tabBelow_of_tabIs h w' hb

theorem itoa_is (n : Int) (t : ByteArray) (h0 : 0 ≤ n) (h1 : n ≤ 65535) (ht : t = ⟨(Lib.itoa n).toArray⟩) (w : World) (h : Tab w) :
    Calls Tryz.prog 40 #[.int .i64 n] w fun e w' => e = .returned (.string t) ∧ Below w.heap.size w w' := by
  subst ht
  refine (Tryz.strconv_Itoa n (by omega) (by omega) w h).mono ?_
  rintro e w' ⟨rfl, k, os, rfl⟩
  exact ⟨rfl, (show Grows w _ from ⟨k, os, rfl⟩).below⟩

theorem infoS : (Tryz.prog.info? 9).map (fun i => (i.zero, i.size, i.bytes)) = some (some (.string ⟨#[]⟩), 1, 16) := by kernel_rfl
theorem info_partsS : ∃ i0 : TypeInfo, Tryz.prog.info? 9 = some i0 ∧ i0.zero = some (.string ⟨#[]⟩) ∧ i0.size = 1 ∧ i0.bytes = 16 := by
  have h := infoS
  cases hi : Tryz.prog.info? 9 with
  | none => rw [hi] at h; cases h
  | some i0 =>
    rw [hi] at h
    simp only [Option.map_some, Option.some.injEq, Prod.mk.injEq] at h
    exact ⟨i0, rfl, h.1, h.2.1, h.2.2⟩
theorem append_str {w w0 : World} {ops : Array Oper} {rest : List Oper} {o : Oper} {a : Act} {Q : Exit → Act → World → Prop} (hgd : o.guard = none) (s x : Operand)
    (ho : o.op = .call { callee := .builtin .append, args := #[s, x], argTypes := #[72, 72] }) (v : Value) (n : Nat) (xs : List Value) (hs : a.eval s = v) (hown : w.ownsRow w0.heap.size 9 1 v n xs)
    (g c : Nat) (t : ByteArray) (hx : a.eval x = .slice (some ⟨g, 0, none⟩) 1 c) (hR : w.cell? ⟨g, 0, none⟩ = some (.string t)) (hn : n ≤ 1000) (hb : Below w0.heap.size w0 w)
    (h : ∀ v' w', w'.ownsRow w0.heap.size 9 1 v' (n + 1) (xs ++ [.string t]) → Below w0.heap.size w0 w' → wpList Tryz.prog ops Q rest (a.put o.dst v') w') : wpList Tryz.prog ops Q (o :: rest) a w := by
  obtain ⟨i0, hi, hz0, hz1, hz2⟩ := info_partsS
  refine wpList_append_own w hgd s x 72 ho w0.heap.size 9 i0 _ 1 16 Tryz.underlying72 hi hz0 hz1 hz2 rfl (by decide) v n xs hs hown ⟨g, 0, none⟩ 1 c [.string t] hx rfl ?_ ?_ (by unfold maxLen; omega) (by omega) hb.size ?_
  · intro j u hu
    match j, hu with
    | 0, hu => simp at hu; subst hu; exact hR
    | j + 1, hu => simp at hu
  · intro u hu
    simp at hu
    subst hu
    rfl
  · intro v' w' ho' hg _
    exact h v' w' ho' (Below.grown hb hg hb.size fun k hk => (hown.lt k hk).1)
def Is.txS (n : Int) : Value := .string ⟨(Lib.itoa n).toArray⟩

set_option maxHeartbeats 4000000 in
set_option maxRecDepth 100000 in
theorem text_good (ao : Option Addr) (ca : Nat) (l : List Int) (r : ByteArray) (hr : Hid (r = ⟨(Lib.join (l.map Lib.itoa) [32]).toArray⟩)) (w : World) (hA : Is.slot w ao l) (hs : Is.may l = true) (hT : Tab w) :
    Calls Tryz.prog 42 #[.slice ao l.length ca] w fun e w' => e = .returned (.string r) ∧ Below w.heap.size w w' := by
  obtain ⟨hl16, hall⟩ := (Is.may_iff l).1 hs
  have HALL := hide hall
  have HJL : Hid ((Lib.join (l.map Lib.itoa) [32]).length ≤ 352) := by
    have h := Is.joinTo_len l hs l.length (Nat.le_refl _)
    unfold Is.joinTo at h
    rw [List.take_length] at h
    show _ ≤ _
    omega
  have CM := hide (may_is ao ca l true hs w hA (by omega))
  have HA := hide hA
  have HT := hide hT
  clear hA hs hT hall
  go_enter Tryz.func42, Tryz.ntmps42
  go_wp2_with fail
  refine CM.out.mono ?_
  rintro e w1 ⟨rfl, hb1⟩
  have B1 := hide hb1
  clear hb1 CM
  obtain ⟨i0, hi, hz0, hz1, hz2⟩ := info_partsS
  obtain ⟨w2, hmk, hown, hgr⟩ := run_make_own w1 w.heap.size 72 9 i0 _ 1 Tryz.underlying72 hi hz0 hz1 .i64 .i64 l.length (by rw [hz2]; omega) (by unfold maxLen; omega) B1.out.size
  have B2 := hide (Below.grown B1.out hgr B1.out.size (fun k hk => by cases hk))
  have HO := hide hown
  clear hi hz0 hz1 hz2 hown hgr
  go_wp2_with fail
  go_loopw [3, 14] (fun v3 v14 wr => ∃ (k : Nat) (o : Option Addr) (c : Nat), v14 = .int .i64 k ∧ v3 = .slice o k c ∧ k ≤ l.length ∧ wr.ownsRow w.heap.size 9 1 (.slice o k c) k ((l.take k).map Is.txS) ∧ Below w.heap.size w wr) (fun _ v14 _ => l.length - (intOf v14).toNat)
  case atStart => exact ⟨0, _, _, rfl, rfl, Nat.zero_le _, HO.out, B2.out⟩
  case round =>
    clear HO B2
    obtain ⟨k, o, c, rfl, rfl, hk, hown, hbr⟩ := hrel
    have HO := hide hown
    have HBR := hide hbr
    clear hown hbr
    by_cases hkl : k < l.length
    · have hkl' : (k : Int) < (l.length : Int) := by omega
      obtain ⟨b, off, rfl, hrd⟩ := Is.slot_at HA.out hkl
      have e0 := Is.reads_below hrd HBR.out k hkl
      clear hrd
      have HN : Hid ((l.take (k + 1)).map Is.txS = (l.take k).map Is.txS ++ [.string ⟨(Lib.itoa l[k]).toArray⟩]) := by
        show _ = _
        rw [List.take_succ_eq_append_getElem hkl, List.map_append]
        rfl
      have has := (Is.as_iff _).1 (HALL.out k hkl)
      generalize (l.take k).map Is.txS = XS at HO HN
      generalize hXN : (l.take (k + 1)).map Is.txS = XN at HN
      have HXN := hide hXN
      clear hXN
      generalize l[k] = y at *
      obtain ⟨t, ht⟩ : ∃ t : ByteArray, t = ⟨(Lib.itoa y).toArray⟩ := ⟨_, rfl⟩
      rw [← ht] at HN
      have CI := hide (fun W (hW : Below w.heap.size w W) => itoa_is y t (by omega) (by omega) ht W (HT.out.on hW))
      clear ht has
      go_wp2_with fail
      refine (CI.out _ HBR.out).mono ?_
      rintro e w3 ⟨rfl, hb3⟩
      have B3 := hide (bthen HBR.out hb3)
      have HO3 := hide (row_below HO.out hb3)
      clear hb3 HBR HO CI e0
      go_wp2_with (at_builtin; go_must (refine append_str (w0 := w) rfl _ _ rfl _ k _ rfl (HO3.out.alloc _) w3.heap.size 1 t rfl ?c1 (by omega) (balloc B3.out _) ?_))
      case c1 => simp
      intro v' w4 hnew hb4
      obtain ⟨no, nc, rfl⟩ := row_slice hnew
      rw [← HN.out] at hnew
      have HNW := hide hnew
      have B4 := hide hb4
      clear hnew hb4
      go_wp2_with fail
      refine ⟨⟨k + 1, no, nc, by go_num, rfl, by omega, ?_, B4.out⟩, by simp [intOf] <;> omega⟩
      rw [HXN.out]
      exact HNW.out
    · have hkl' : ¬ (k : Int) < (l.length : Int) := by omega
      obtain rfl : k = l.length := by omega
      rw [List.take_length] at HO
      have hj : Hid (((l.map fun c => (⟨(Lib.itoa c).toArray⟩ : ByteArray)).map (·.data.toList)) = l.map Lib.itoa) := by
        show _ = _
        rw [List.map_map]
        exact List.map_congr_left fun c _ => by simp
      have hjl := HJL.out
      rcases Nat.eq_zero_or_pos l.length with h0 | h0
      · have hl0 : l = [] := List.length_eq_zero_iff.1 h0
        subst hl0
        clear HO
        go_wp2_with fail
        refine (Tryz.strings_Join_none _ _ _ _).mono ?_
        rintro e w3 ⟨rfl, rfl⟩
        go_wp2_with fail
        go_ret
        exact ⟨by rw [hr.out]; rfl, HBR.out⟩
      · obtain ⟨g, hgo, hgc⟩ : ∃ g, o = some ⟨g, 0, none⟩ ∧ l.length ≤ c := by
          rcases HO.out.2 with ⟨hv, h1⟩ | ⟨g, cap, cur, hv, hbg, hg, hnc, _⟩
          · omega
          · simp only [Value.slice.injEq] at hv
            exact ⟨g, hv.1, by rw [hv.2.2]; exact hnc⟩
        subst hgo
        have hcl : ∀ (j : Nat) x, (l.map fun c => (⟨(Lib.itoa c).toArray⟩ : ByteArray))[j]? = some x → wr.cell? ⟨g, 0 + j, none⟩ = some (.string x) := by
          intro j x hx
          have hjl : j < l.length := by have := (List.getElem?_eq_some_iff.1 hx).1; simpa using this
          rw [Nat.zero_add, HO.out.cellAt j (by omega)]
          rw [List.getElem?_map] at hx ⊢
          cases hlj : l[j]? with
          | none => rw [hlj] at hx; cases hx
          | some y =>
            rw [hlj] at hx
            simp only [Option.map_some, Option.some.injEq] at hx ⊢
            rw [← hx]
            rfl
        have CJ := Tryz.strings_Join g 0 c (l.map fun c => (⟨(Lib.itoa c).toArray⟩ : ByteArray)) ⟨#[32]⟩ wr hcl (by have := HO.out.lt g rfl; omega) (by simp; omega) (by simpa using hgc) (by rw [hj.out]; show (Lib.join _ [32]).length ≤ _; omega)
        rw [hj.out, List.length_map, show (⟨#[32]⟩ : ByteArray).data.toList = [32] from rfl, ← hr.out] at CJ
        have CJH := hide CJ
        clear CJ hcl
        go_wp2_with fail
        refine CJH.out.mono ?_
        rintro e w3 ⟨rfl, hb3⟩
        have B3 := hide (bthen HBR.out hb3)
        clear hb3 CJH
        go_wp2_with fail
        go_ret
        exact ⟨rfl, B3.out⟩
theorem text_is (ao : Option Addr) (ca : Nat) (l : List Int) (t : ByteArray) (ht : t = ⟨(Is.text l).toArray⟩) (w : World) (hT : Tab w) (hA : Is.slot w ao l) (hl : l.length ≤ 320) :
    Calls Tryz.prog 42 #[.slice ao l.length ca] w fun e w' => e = .returned (.string t) ∧ Below w.heap.size w w' := by
  cases hm : Is.may l
  · have CM := hide (may_is ao ca l false hm w hA hl)
    have ht : t = ⟨#[]⟩ := by rw [ht, Is.text, hm]; rfl
    subst ht
    clear hA hm
    go_enter Tryz.func42, Tryz.ntmps42
    go_wp2_with fail
    refine CM.out.mono ?_
    rintro e w1 ⟨rfl, hb1⟩
    have B1 := hide hb1
    clear hb1 CM
    go_wp2_with fail
    go_ret
    exact ⟨rfl, B1.out⟩
  · refine text_good ao ca l t (hide ?_) w hA hm hT
    rw [ht, Is.text, if_pos hm]
end Go.Proofs.YtpkikfojiibdaaaGreatDoor
