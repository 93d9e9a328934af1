/- The contract of addr's Minus. -/
import Derived.Test.YtfkajefminopjabDoorY2
import Derived.Laws.AppendOwnNone
namespace Go.Proofs.YtfkajefminopjabDoor
open Go.RowKit

theorem check_slot (ao : Option Addr) (c : Nat) (l : List (Int × Int)) (w : World) (hS : Ad.slot w ao l) (hf : Ad.fits l) (hlen : l.length ≤ 1024) :
    Calls Tryd.prog 15 #[.slice ao l.length c] w fun e w' => e = .returned (.int .i64 (Ad.why l)) ∧ Below w.heap.size w w' := by
  rcases hS with ⟨rfl, rfl⟩ | ⟨b, off, rfl, hR⟩
  · refine (check_nil c w).mono ?_
    rintro e w1 ⟨rfl, rfl⟩
    exact ⟨rfl, brefl _⟩
  · exact check_row b off c l w hR hf hlen

theorem merge_slot (ao : Option Addr) (c : Nat) (l : List (Int × Int)) (w : World) (hS : Ad.slot w ao l) (hg : Ad.good l) (hlen : l.length ≤ 1000000) :
    Calls Tryd.prog 18 #[.slice ao l.length c] w fun e w' => ∃ x ao' c', Ad.made l x ∧ e = .returned (.slice ao' x.length c') ∧ Ad.slot w' ao' x ∧ Below w.heap.size w w' := by
  rcases hS with ⟨rfl, rfl⟩ | ⟨b, off, rfl, hR⟩
  · refine (merge_nil c w).mono ?_
    rintro e w1 ⟨rfl, hb⟩
    exact ⟨[], none, 0, ⟨[], .refl _, fun i j hi => by simp at hi, rfl⟩, rfl, .inl ⟨rfl, rfl⟩, hb⟩
  · refine (merge_row b off c l w hR hg hlen).mono ?_
    rintro e w1 ⟨l', v', hp, hr, rfl, ho, hb⟩
    obtain ⟨ao', c', rfl⟩ := row_slice ho
    exact ⟨(Ad.stack l').reverse, ao', c', ⟨l', hp, hr, rfl⟩, by simp, Ad.slot_own ho, hb⟩

set_option maxHeartbeats 1000000 in
theorem minus_long (a : Option Addr) (n cap : Nat) (qa qd : Int) (w : World) (h : 1024 < n) :
    Calls Tryd.prog 5 #[.slice a n cap, .agg #[.int .u32 qa, .int .i64 qd]] w fun e w' => e = .returned (.tuple #[.slice none 0 0, .int .i64 2]) ∧ Below w.heap.size w w' := by
  go_enter Tryd.func5, Tryd.ntmps5
  go_wp2_with fail
  refine (check_long a n cap _ h).mono ?_
  rintro e w1 ⟨rfl, hb1⟩
  have B1 := hide (bthen (balloc (brefl w) _) hb1)
  clear hb1
  go_wp2_with fail
  go_ret2
  exact ⟨rfl, B1.out⟩

set_option maxHeartbeats 1000000 in
theorem minus_bad (ao : Option Addr) (c : Nat) (l : List (Int × Int)) (qa qd : Int) (w : World) (hS : Ad.slot w ao l) (hf : Ad.fits l) (hlen : l.length ≤ 1024) (hw : Ad.why l ≠ 0) :
    Calls Tryd.prog 5 #[.slice ao l.length c, .agg #[.int .u32 qa, .int .i64 qd]] w fun e w' => e = .returned (.tuple #[.slice none 0 0, .int .i64 (Ad.why l)]) ∧ Below w.heap.size w w' := by
  have hne : (Ad.why l != 0) = true := by simpa using hw
  have HS := hide hS
  have HF := hide hf
  clear hS hf hw
  go_enter Tryd.func5, Tryd.ntmps5
  go_wp2_with fail
  refine (check_slot ao c l _ (Ad.slot_below HS.out (balloc (brefl w) _)) HF.out hlen).mono ?_
  rintro e w1 ⟨rfl, hb1⟩
  have B1 := hide (bthen (balloc (brefl w) _) hb1)
  clear hb1
  go_wp2_with fail
  go_ret2
  exact ⟨rfl, B1.out⟩

set_option maxHeartbeats 1000000 in
theorem minus_none (ao : Option Addr) (c : Nat) (l : List (Int × Int)) (qa qd : Int) (w : World) (hS : Ad.slot w ao l) (hg : Ad.good l) (hlen : l.length ≤ 1024) (h0 : 0 ≤ qa) (h1 : qa ≤ 4294967295) (hm : Ad.may qa qd = false) :
    Calls Tryd.prog 5 #[.slice ao l.length c, .agg #[.int .u32 qa, .int .i64 qd]] w fun e w' => e = .returned (.tuple #[.slice none 0 0, .int .i64 1]) ∧ Below w.heap.size w w' := by
  have HS := hide hS
  have HG := hide hg
  clear hS hg
  go_enter Tryd.func5, Tryd.ntmps5
  go_wp2_with fail
  refine (check_slot ao c l _ (Ad.slot_below HS.out (balloc (brefl w) _)) (fun y hy => ⟨(HG.out y hy).1, (HG.out y hy).2.1⟩) hlen).mono ?_
  rintro e w1 ⟨rfl, hb1⟩
  rw [Ad.why_good HG.out hlen]
  obtain ⟨q0, q1, q2, _⟩ := two_below hb1 (n := w.heap.size) (a := qa) (b := qd) (by simp [go_sem]) (by simp [go_sem])
  go_wp2_with fail
  refine (may_is _ _ _ hm _ h0 h1).mono ?_
  rintro e w2 ⟨rfl, hb2⟩
  have B2 := hide (bthen (bthen (balloc (brefl w) _) hb1) hb2)
  clear hb1 hb2
  go_wp2_with fail
  go_ret2
  exact ⟨rfl, B2.out⟩

theorem Ad.cov_append (x y : List (Int × Int)) (t : Int) : Ad.cov (x ++ y) t ↔ Ad.cov x t ∨ Ad.cov y t := by
  unfold Ad.cov
  constructor
  · rintro ⟨p, hp, h⟩
    rcases List.mem_append.1 hp with h1 | h1
    · exact .inl ⟨p, h1, h⟩
    · exact .inr ⟨p, h1, h⟩
  · rintro (⟨p, hp, h⟩ | ⟨p, hp, h⟩)
    · exact ⟨p, List.mem_append.2 (.inl hp), h⟩
    · exact ⟨p, List.mem_append.2 (.inr hp), h⟩

set_option maxHeartbeats 2000000 in
set_option maxRecDepth 100000 in
theorem minus_ok (ao : Option Addr) (c : Nat) (l : List (Int × Int)) (qa qd : Int) (w : World) (hS : Ad.slot w ao l) (hg : Ad.good l) (hlen : l.length ≤ 30) (h0 : 0 ≤ qa) (h1 : qa ≤ 4294967295) (hm : Ad.may qa qd = true) :
    Calls Tryd.prog 5 #[.slice ao l.length c, .agg #[.int .u32 qa, .int .i64 qd]] w fun e w' => ∃ x ao' c', e = .returned (.tuple #[.slice ao' x.length c', .int .i64 0]) ∧ Ad.plain x ∧ Ad.good x ∧ x.length ≤ 1000 ∧ (∀ t, Ad.cov x t ↔ Ad.cov l t ∧ ¬ Ad.inn (qa, qd) t) ∧ Ad.slot w' ao' x ∧ Below w.heap.size w w' := by
  obtain ⟨i0, hi, hz0, hz1, hz2⟩ := info_parts infoPrefix
  have HS := hide hS
  have HG := hide hg
  have HM := hide hm
  clear hS hg hm
  go_enter Tryd.func5, Tryd.ntmps5
  go_wp2_with fail
  refine (check_slot ao c l _ (Ad.slot_below HS.out (balloc (brefl w) _)) (fun y hy => ⟨(HG.out y hy).1, (HG.out y hy).2.1⟩) (by omega)).mono ?_
  rintro e w1 ⟨rfl, hb1⟩
  rw [Ad.why_good HG.out (by omega)]
  obtain ⟨q0, q1, q2, _⟩ := two_below hb1 (n := w.heap.size) (a := qa) (b := qd) (by simp [go_sem]) (by simp [go_sem])
  go_wp2_with fail
  refine (may_is _ _ _ HM.out _ h0 h1).mono ?_
  rintro e w2 ⟨rfl, hb2⟩
  obtain ⟨p0, p1, p2, _⟩ := two_below hb2 (n := w.heap.size) (a := qa) (b := qd) q0 q1
  have B2 := hide (bthen (bthen (balloc (brefl w) _) hb1) hb2)
  have HS2 := hide (Ad.slot_below (Ad.slot_below (Ad.slot_below HS.out (balloc (brefl w) _)) hb1) hb2)
  clear hb1 hb2 HS q0 q1 q2
  go_wp2_with fail
  go_loopw [7, 20] (fun v i wr => ∃ (k : Nat) (ls : List (Int × Int)) (al : Option Addr) (cp : Nat), k ≤ l.length ∧ i = .int .i64 k ∧ v = .slice al ls.length cp ∧ wr.ownsRow w2.heap.size 25 2 (.slice al ls.length cp) ls.length (Ad.cells ls) ∧ Ad.good ls ∧ ls.length ≤ 32 * k ∧ (∀ t, Ad.cov ls t ↔ Ad.cov (l.take k) t ∧ ¬ Ad.inn (qa, qd) t) ∧ Below w2.heap.size w2 wr) (fun _ i _ => l.length - (intOf i).toNat)
  case atStart =>
    exact ⟨0, [], none, 0, Nat.zero_le _, rfl, rfl, World.ownsRow_nil _ _ _ _, fun _ h => by (cases h), Nat.le_refl _, fun t => by simp [Ad.cov], Below.refl _ _⟩
  case round =>
    obtain ⟨k, ls, al, cp, hk, rfl, rfl, ho, hgl, hll, hcov, hbr⟩ := hrel
    have HO := hide ho
    have HGL := hide hgl
    have HC := hide hcov
    clear ho hgl hcov
    by_cases hlt : k < l.length
    · obtain ⟨b, off, rfl, hrd⟩ : ∃ b off, ao = some ⟨b, off, none⟩ ∧ Ad.reads w2 b off l := by
        rcases HS2.out with ⟨_, h⟩ | h
        · rw [h] at hlt; simp at hlt
        · exact h
      obtain ⟨e0, e1⟩ := Ad.reads_at (Ad.reads_below hrd hbr) k hlt
      have hgk := hide (HG.out l[k] (List.getElem_mem hlt))
      have HT := hide (List.take_succ_eq_append_getElem hlt)
      generalize l[k] = y at *
      obtain ⟨a, d⟩ := y
      have ha0 : 0 ≤ a := hgk.out.1
      have ha1 : a ≤ 4294967295 := hgk.out.2.1
      have t0 := (hbr.cell (p := ⟨w.heap.size, 0, none⟩) p2).trans p0
      have t1 := (hbr.cell (p := ⟨w.heap.size, 1, none⟩) p2).trans p1
      have hq1 : w.heap.size < wr.heap.size := Nat.lt_of_lt_of_le p2 hbr.size
      clear hrd
      go_wp2_with fail
      refine (without_any a d qa qd _ ha0 ha1 h0 h1 hgk.out.2.2 HM.out).mono ?_
      rintro e w3 ⟨fs, af, cf, rfl, hof, hgf, hlf, hcf, hb3⟩
      have HCN : Hid (∀ t, Ad.cov (ls ++ fs) t ↔ Ad.cov (l.take (k + 1)) t ∧ ¬ Ad.inn (qa, qd) t) := by
        intro t
        rw [HT.out, Ad.cov_append, HC.out t, hcf t, Ad.cov_snoc]
        constructor
        · rintro (⟨h, hn⟩ | ⟨h, hn⟩)
          · exact ⟨.inl h, hn⟩
          · exact ⟨.inr h, hn⟩
        · rintro ⟨h | h, hn⟩
          · exact .inl ⟨h, hn⟩
          · exact .inr ⟨h, hn⟩
      have HGN : Hid (Ad.good (ls ++ fs)) := fun y hy => by
        rcases List.mem_append.1 hy with h | h
        · exact HGL.out y h
        · exact hgf y h
      have HO3 := hide (row_below (HO.out.alloc _) hb3)
      have HB3 := hide ((hbr.alloc hbr.size _).trans (hb3.mono (by have := hbr.size; simp; omega)))
      have HOF := hide hof
      have hform := hof.2
      clear hb3 hof hgf hcf t0 t1 e0 e1
      rcases hform with ⟨hv, hz⟩ | ⟨g, cap', cur, hv, _⟩
      · obtain rfl : fs = [] := List.length_eq_zero_iff.1 hz
        simp only [Value.slice.injEq] at hv
        obtain ⟨rfl, _, rfl⟩ := hv
        rw [List.append_nil] at HCN HGN
        go_wp2_with (at_builtin; go_must (refine wpList_append_own_none rfl _ _ 22 rfl w2.heap.size 25 i0 2 Tryd.underlying22 hi _ ls.length (Ad.cells ls) rfl HO3.out rfl ?_))
        go_wp2_with fail
        exact ⟨⟨k + 1, ls, al, cp, by omega, by go_num, rfl, HO3.out, HGL.out, by omega, HCN.out, HB3.out⟩, by simp [intOf]; omega⟩
      · simp only [Value.slice.injEq] at hv
        obtain ⟨rfl, _, rfl⟩ := hv
        go_wp2_with (at_builtin; go_must (refine wpList_append_own _ rfl _ _ 22 rfl w2.heap.size 25 i0 (.agg #[.int .u32 0, .int .i64 0]) 2 16 Tryd.underlying22 hi hz0 hz1 hz2 rfl (by decide) _ ls.length (Ad.cells ls) rfl ?c0 ⟨g, 0, none⟩ fs.length cf (Ad.cells fs) rfl ?c00 ?c1 ?c2 ?c3 ?c4 ?c5 ?_))
        case c0 => exact HO3.out
        case c00 => exact Ad.cells_length fs
        case c1 =>
          intro j u hj
          have hjl : j < fs.length * 2 := by have := (List.getElem?_eq_some_iff.1 hj).1; rwa [Ad.cells_length] at this
          rw [show (⟨g, 0, none⟩ : Addr).add j = ⟨g, j, none⟩ by unfold Addr.add; split <;> simp_all, HOF.out.cellAt j hjl]
          exact hj
        case c2 => exact Ad.cells_one _
        case c3 => unfold maxLen; omega
        case c4 => omega
        case c5 => exact HB3.out.size
        intro v4 w4 hown4 hgrow4 _
        have B4 := hide (Below.grown (row := Value.ownBlock (.slice al ls.length cp)) HB3.out hgrow4 HB3.out.size (fun k hk => (HO3.out.lt k hk).1))
        obtain ⟨a4, c4, rfl⟩ := row_slice hown4
        have R4 : Hid (w4.ownsRow w2.heap.size 25 2 (.slice a4 (ls ++ fs).length c4) (ls ++ fs).length (Ad.cells (ls ++ fs))) := by
          show World.ownsRow _ _ _ _ _ _ _
          rw [Ad.cells_append, List.length_append]
          exact hown4
        clear hown4 hgrow4
        go_wp2_with fail
        refine ⟨⟨k + 1, ls ++ fs, a4, c4, by omega, by go_num, by rw [List.length_append], R4.out, HGN.out, by rw [List.length_append]; omega, HCN.out, B4.out⟩, by simp [intOf]; omega⟩
    · have hkl : k = l.length := by omega
      subst hkl
      have hll2 : ls.length ≤ 960 := by omega
      go_wp2_with fail
      refine (merge_slot al cp ls _ (Ad.slot_own HO.out) HGL.out (by omega)).mono ?_
      rintro e w3 ⟨x, ax, cx, hmade, rfl, hsx, hb3⟩
      obtain ⟨m1, m2, m3, m4⟩ := Ad.made_plain HGL.out hmade
      have hx : ¬ (1024 : Int) < (x.length : Int) := by omega
      have HX := hide hsx
      have B3 := hide (bthen (bthen B2.out hbr) hb3)
      have M1 := hide m1
      have M2 := hide m2
      have M3 : Hid (∀ t, Ad.cov x t ↔ Ad.cov l t ∧ ¬ Ad.inn (qa, qd) t) := fun t => by
        rw [m3 t, HC.out t, List.take_of_length_le (Nat.le_refl _)]
      clear hmade hsx hb3 m1 m2 m3
      go_wp2_with fail
      go_ret2
      exact ⟨x, ax, cx, rfl, M1.out, M2.out, by omega, M3.out, HX.out, B3.out⟩
end Go.Proofs.YtfkajefminopjabDoor
