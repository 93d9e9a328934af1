/- The contract of addr's merge: of prefixes that may be, however many. -/
import Derived.Test.YtfkajefminopjabDoorQ2
import Derived.Lib.QuietBelow
namespace Go.Proofs.YtfkajefminopjabDoor
open Go.RowKit

/-- One round of merge, on the stack, its top first. -/
def Ad.stepM (s : List (Int × Int)) (p : Int × Int) : List (Int × Int) :=
  match s with
  | [] => [p]
  | t :: r => if Ad.contains t.1 t.2 p.1 p.2 = true then t :: r else Ad.join (p :: t :: r)
def Ad.stackTo (l : List (Int × Int)) (k : Nat) : List (Int × Int) := (l.take k).foldl Ad.stepM []
def Ad.stack (l : List (Int × Int)) : List (Int × Int) := l.foldl Ad.stepM []

theorem Ad.stackTo_succ (l : List (Int × Int)) (k : Nat) (h : k < l.length) : Ad.stackTo l (k + 1) = Ad.stepM (Ad.stackTo l k) l[k] := by
  unfold Ad.stackTo
  rw [List.take_succ_eq_append_getElem h, List.foldl_append]
  rfl

theorem Ad.joinF_good : ∀ (f : Nat) (s : List (Int × Int)), Ad.good s → Ad.good (Ad.joinF f s) ∧ (Ad.joinF f s).length ≤ s.length
  | 0, s, h => ⟨h, Nat.le_refl _⟩
  | f + 1, [], h => ⟨h, Nat.le_refl _⟩
  | f + 1, [q], h => ⟨h, Nat.le_refl _⟩
  | f + 1, q :: p :: r, h => by
    unfold Ad.joinF
    by_cases hp : Ad.pair p q = true
    · simp only [hp, if_true]
      have hpp := h p (by simp)
      have := Ad.joinF_good f (Ad.up p :: r) (fun x hx => by
        rcases List.mem_cons.1 hx with rfl | hx
        · exact ⟨hpp.1, hpp.2.1, Ad.may_up p.1 p.2 q.1 q.2 hpp.2.2 hp⟩
        · exact h x (by simp [hx]))
      exact ⟨this.1, by have := this.2; simp at *; omega⟩
    · simp only [hp]
      exact ⟨h, Nat.le_refl _⟩
theorem Ad.join_good (s : List (Int × Int)) (h : Ad.good s) : Ad.good (Ad.join s) ∧ (Ad.join s).length ≤ s.length := Ad.joinF_good _ s h

theorem Ad.stepM_good (s : List (Int × Int)) (p : Int × Int) (h : Ad.good s) (hp : 0 ≤ p.1 ∧ p.1 ≤ 4294967295 ∧ Ad.may p.1 p.2 = true) : Ad.good (Ad.stepM s p) ∧ (Ad.stepM s p).length ≤ s.length + 1 := by
  have hg : Ad.good (p :: s) := fun x hx => by
    rcases List.mem_cons.1 hx with rfl | hx
    · exact hp
    · exact h x hx
  unfold Ad.stepM
  match s, h, hg with
  | [], h, hg => exact ⟨hg, by simp⟩
  | t :: r, h, hg =>
    dsimp only
    split
    · exact ⟨h, by simp⟩
    · have := Ad.join_good _ hg
      exact ⟨this.1, by have := this.2; simpa using this⟩

theorem Ad.perm_good {l l' : List (Int × Int)} (h : l'.Perm l) (hg : Ad.good l) : Ad.good l' := fun x hx => hg x (h.mem_iff.1 hx)

theorem row_base {w : World} {B B' e size n : Nat} {v : Value} {xs : List Value} (h : w.ownsRow B e size v n xs) (hb : B' ≤ B) : w.ownsRow B' e size v n xs := by
  obtain ⟨h1, h2⟩ := h
  refine ⟨h1, ?_⟩
  rcases h2 with h2 | ⟨g, cap, cur, hv, hB, r⟩
  · exact .inl h2
  · exact .inr ⟨g, cap, cur, hv, Nat.le_trans hb hB, r⟩

theorem row_slice {w : World} {B e size n : Nat} {v : Value} {xs : List Value} (h : w.ownsRow B e size v n xs) : ∃ ao cap, v = .slice ao n cap := by
  rcases h.2 with ⟨hv, h0⟩ | ⟨g, cap, cur, hv, _⟩
  · exact ⟨none, 0, by rw [hv, h0]⟩
  · exact ⟨_, _, hv⟩

set_option maxHeartbeats 2000000 in
set_option maxRecDepth 100000 in
theorem merge_row (b off c : Nat) (l : List (Int × Int)) (w : World) (hR : Ad.reads w b off l) (hgood : Ad.good l) (hlen : l.length ≤ 1000000) :
    Calls Tryd.prog 18 #[.slice (some ⟨b, off, none⟩) l.length c] w fun e w' => ∃ l' v', l'.Perm l ∧ Ad.rises l' ∧ e = .returned v' ∧ w'.ownsRow w.heap.size 25 2 v' (Ad.stack l').length (Ad.cells (Ad.stack l').reverse) ∧ Below w.heap.size w w' := by
  obtain ⟨i0, hi, hz0, hz1, hz2⟩ := info_parts infoPrefix
  go_enter Tryd.func18, Tryd.ntmps18
  go_wp2_with fail
  refine (clone_row b off c l _ hR hlen).mono ?_
  rintro e w1 ⟨g, cap, rfl, hown1, hb1⟩
  have hlt : w.heap.size ≤ g ∧ g < w1.heap.size := hown1.lt g rfl
  have HO1 := hide hown1
  clear hown1
  go_wp2_with fail
  refine (sort_row w.heap.size g cap l _ hgood hlt.1 hlt.2 (by omega) HO1.out).mono ?_
  rintro e w2 ⟨rfl, l', hperm, hrise, hreads, hb2⟩
  have hl' : l.length = l'.length := hperm.length_eq.symm
  have hg2 : g < w2.heap.size := Nat.lt_of_lt_of_le hlt.2 hb2.size
  have B2 := hide (hb1.trans hb2)
  have HP := hide hperm
  have HR := hide hrise
  have HRD := hide hreads
  have HG := hide (Ad.perm_good hperm hgood)
  rw [hl']
  have hlen' : l'.length ≤ 1000000 := by omega
  have HL := hide hl'
  clear hl' hperm hrise hreads hb1 hb2 hR hgood hlen
  go_wp2_with fail
  go_loopw [4, 14] (fun v i wr => ∃ k : Nat, k ≤ l'.length ∧ i = .int .i64 k ∧ (∃ ao cap, v = .slice ao (Ad.stackTo l' k).length cap) ∧ wr.ownsRow w2.heap.size 25 2 v (Ad.stackTo l' k).length (Ad.cells (Ad.stackTo l' k).reverse) ∧ Ad.good (Ad.stackTo l' k) ∧ (Ad.stackTo l' k).length ≤ k ∧ Below w2.heap.size w2 wr) (fun _ i _ => l'.length - (intOf i).toNat)
  case atStart =>
    exact ⟨0, Nat.zero_le _, rfl, ⟨none, 0, rfl⟩, World.ownsRow_nil _ _ _ _, by intro x hx; simp [Ad.stackTo] at hx, by simp [Ad.stackTo], Below.refl _ _⟩
  case round =>
    obtain ⟨k, hk, rfl, ⟨ao, cp, rfl⟩, ho, hgs, hsl, hbr⟩ := hrel
    by_cases hlt2 : k < l'.length
    · obtain ⟨e0, e1⟩ := Ad.reads_at HRD.out k hlt2
      have e0' := (hbr.cell (p := ⟨g, 0 + k * 2, none⟩) hg2).trans e0
      have e1' := (hbr.cell (p := ⟨g, 0 + k * 2 + 1, none⟩) hg2).trans e1
      have hx := HG.out l'[k] (List.getElem_mem hlt2)
      have hst := hide (Ad.stackTo_succ l' k hlt2)
      generalize hxx : l'[k] = x at *
      obtain ⟨a, d⟩ := x
      have ha : 0 ≤ a := hx.1
      have ha2 : a ≤ 4294967295 := hx.2.1
      have HX := hide hx
      clear hxx hx e0 e1
      rw [Nat.zero_add] at e0' e1'
      generalize hS : Ad.stackTo l' k = S at *
      have HSt := hide hS
      clear hS
      have HOr := hide ho
      have HGS := hide hgs
      clear ho hgs
      rcases S with _ | ⟨t, r⟩
      · go_wp2_with fail
        go_quiet (fail)
        go_wp2_with (at_builtin; go_must (refine wpList_append_own _ rfl _ _ 22 rfl w2.heap.size 25 i0 (.agg #[.int .u32 0, .int .i64 0]) 2 16 Tryd.underlying22 hi hz0 hz1 hz2 rfl (by decide) _ (0) ([]) rfl ?c0 ⟨wr.heap.size + 1, 0, none⟩ 1 1 (Ad.enc (a, d)) rfl rfl ?c1 ?c2 ?c3 ?c4 ?c5 ?_))
        case c0 => exact (HOr.out.alloc _).alloc _
        case c1 =>
          intro j u hj
          match j, hj with
          | 0, hj => simp [Ad.enc] at hj; subst hj; simp [Addr.add, go_sem]
          | 1, hj => simp [Ad.enc] at hj; subst hj; simp [Addr.add, go_sem]
        case c2 => intro u hu; simp [Ad.enc] at hu; rcases hu with rfl | rfl <;> rfl
        case c3 => unfold maxLen; omega
        case c4 => omega
        case c5 => have := hbr.size; simp; omega
        intro v3 w3 hown3 hgrow3 _
        have hb3 := hide (Below.grown (row := Value.ownBlock (.slice ao (0) cp)) ((below_drewN (hbr.alloc hbr.size _) nq).alloc (by have := hbr.size; simp; omega) _) hgrow3 (by have := hbr.size; simp; omega) (fun k hk => (HOr.out.lt k hk).1))
        have R3 : Hid (w3.ownsRow w2.heap.size 25 2 v3 ((a, d) :: []).length (Ad.cells ((a, d) :: []).reverse)) := by
          exact hown3
        clear hown3 hgrow3
        go_wp2_with fail
        refine (join_any w2.heap.size v3 ((a, d) :: []) w3 hb3.out.size R3.out ?_ ?_).mono ?_
        · intro y hy
          rcases List.mem_cons.1 hy with rfl | hy
          · exact HX.out
          · exact HGS.out y hy
        · simp only [List.length_cons] at hsl ⊢
          omega
        rintro e w4 ⟨v4, rfl, hown4, hb4⟩
        have hb24 := hide (hb3.out.trans hb4)
        have R4 := hide hown4
        clear hown4 hb4
        go_wp2_with fail
        have hst' : Ad.stackTo l' (k + 1) = Ad.join ((a, d) :: []) := by rw [hst.out]; rfl
        have hgg := Ad.stepM_good _ (a, d) HGS.out HX.out
        rw [← hst.out] at hgg
        refine ⟨⟨k + 1, by omega, by go_num, ?_, ?_, hgg.1, by have := hgg.2; omega, hb24.out⟩, by simp [intOf]; omega⟩
        · rw [hst']; exact row_slice R4.out
        · rw [hst']; exact R4.out
      · obtain ⟨m, hm⟩ : ∃ m, m = r.length := ⟨_, rfl⟩
        have hl : (t :: r).length = m + 1 := by simp [hm]
        have HOl : Hid (wr.ownsRow w2.heap.size 25 2 (.slice ao (m + 1) cp) (m + 1) (Ad.cells (t :: r).reverse)) := by
          have := HOr.out
          rw [hl] at this
          exact this
        rw [hl] at hsl ⊢
        obtain ⟨gp, rfl, hcp⟩ : ∃ gp, ao = some ⟨gp, 0, none⟩ ∧ (m : Int) + 1 ≤ (cp : Int) := by
          rcases HOl.out.2 with ⟨_, h0⟩ | ⟨gp, cap', cur, hv, _, _, hcc, _⟩
          · omega
          · simp only [Value.slice.injEq] at hv
            exact ⟨gp, hv.1, by omega⟩
        have htop := Ad.cells_get (t :: r).reverse m (by simp; omega)
        have et : (t :: r).reverse[m]'(by simp; omega) = t := by subst hm; simp
        rw [et] at htop
        have t0 : wr.cell? ⟨gp, m * 2, none⟩ = some (.int .u32 t.1) := (HOl.out.cellAt _ (by omega)).trans htop.1
        have t1 : wr.cell? ⟨gp, m * 2 + 1, none⟩ = some (.int .i64 t.2) := (HOl.out.cellAt _ (by omega)).trans htop.2
        have htg := HGS.out t (by simp)
        have HM := hide hm
        have HL2 := hide hl
        obtain ⟨ta, tb⟩ := t
        have hta : 0 ≤ ta := htg.1
        have hta2 : ta ≤ 4294967295 := htg.2.1
        have hgp : gp < wr.heap.size := block_lt_of_cell t0
        have c0 := fun dd os => cell_regrown (w := wr.alloc (.cells #[.int .u32 a, .int .i64 d] 25)) (a := ⟨wr.heap.size, 0, none⟩) (v := .int .u32 a) (by simp) dd os
        have c1 := fun dd os => cell_regrown (w := wr.alloc (.cells #[.int .u32 a, .int .i64 d] 25)) (a := ⟨wr.heap.size, 1, none⟩) (v := .int .i64 d) (by simp) dd os
        have c2 := fun dd os => cell_regrown (w := wr.alloc (.cells #[.int .u32 a, .int .i64 d] 25)) (a := ⟨gp, m * 2, none⟩) (v := .int .u32 ta) ((World.cell?_alloc_past _ _ _ hgp).trans t0) dd os
        have c3 := fun dd os => cell_regrown (w := wr.alloc (.cells #[.int .u32 a, .int .i64 d] 25)) (a := ⟨gp, m * 2 + 1, none⟩) (v := .int .i64 tb) ((World.cell?_alloc_past _ _ _ hgp).trans t1) dd os
        have hpos : (0 : Int) < (m : Int) + 1 := by omega
        clear htop et hm hl htg t0 t1
        cases hcon : Ad.contains ta tb a d
        · go_wp2_with fail
          refine wp_region_quiet_below (by kernel_rfl) (by kernel_rfl) ?_
          repeat (go_big_quiet_step ((go_at_call 31; exact Calls.regrown_of (contains_is _ _ _ _ _ hcon _ hta hta2 ha ha2))))
          refine wpQuiet_nil ?_
          rintro w5 ⟨⟨dd, os⟩, hw5⟩
          have hb5 : Below (wr.alloc (.cells #[.int .u32 a, .int .i64 d] 25)).heap.size (wr.alloc (.cells #[.int .u32 a, .int .i64 d] 25)) w5 := by rw [hw5]; exact below_regrown _ dd os
          have q0 : w5.cell? ⟨wr.heap.size, 0, none⟩ = some (.int .u32 a) := by rw [hw5]; exact c0 dd os
          have q1 : w5.cell? ⟨wr.heap.size, 1, none⟩ = some (.int .i64 d) := by rw [hw5]; exact c1 dd os
          have R5 := hide (row_below (HOl.out.alloc _) hb5)
          have hbr5 := hide ((hbr.alloc hbr.size _).trans (hb5.mono (by have := hbr.size; simp; omega)))
          clear hw5 c0 c1 c2 c3 hb5
          go_wp2_with (at_builtin; go_must (refine wpList_append_own _ rfl _ _ 22 rfl w2.heap.size 25 i0 (.agg #[.int .u32 0, .int .i64 0]) 2 16 Tryd.underlying22 hi hz0 hz1 hz2 rfl (by decide) _ (m + 1) (Ad.cells ((ta, tb) :: r).reverse) rfl ?c0 ⟨w5.heap.size, 0, none⟩ 1 1 (Ad.enc (a, d)) rfl rfl ?c1 ?c2 ?c3 ?c4 ?c5 ?_))
          case c0 => exact R5.out.alloc _
          case c1 =>
            intro j u hj
            match j, hj with
            | 0, hj => simp [Ad.enc] at hj; subst hj; simp [Addr.add]
            | 1, hj => simp [Ad.enc] at hj; subst hj; simp [Addr.add]
          case c2 => intro u hu; simp [Ad.enc] at hu; rcases hu with rfl | rfl <;> rfl
          case c3 => unfold maxLen; omega
          case c4 => omega
          case c5 => have := hbr5.out.size; simp; omega
          intro v3 w3 hown3 hgrow3 _
          have hb3 := hide (Below.grown (row := Value.ownBlock (.slice (some ⟨gp, 0, none⟩) (m + 1) cp)) (hbr5.out.alloc hbr5.out.size _) hgrow3 (by have := hbr5.out.size; simp; omega) (fun k hk => (R5.out.lt k hk).1))
          have R3 : Hid (w3.ownsRow w2.heap.size 25 2 v3 ((a, d) :: (ta, tb) :: r).length (Ad.cells ((a, d) :: (ta, tb) :: r).reverse)) := by
            rw [List.length_cons, HL2.out, List.reverse_cons, Ad.cells_append]
            have e : Ad.cells [(a, d)] = Ad.enc (a, d) := by simp [Ad.cells]
            rw [e, List.reverse_cons]
            exact hown3
          clear hown3 hgrow3
          go_wp2_with fail
          refine (join_any w2.heap.size v3 ((a, d) :: (ta, tb) :: r) w3 hb3.out.size R3.out ?_ ?_).mono ?_
          · intro y hy
            rcases List.mem_cons.1 hy with rfl | hy
            · exact HX.out
            · exact HGS.out y hy
          · rw [List.length_cons, HL2.out]; omega
          rintro e w4 ⟨v4, rfl, hown4, hb4⟩
          have hb24 := hide (hb3.out.trans hb4)
          have R4 := hide hown4
          clear hown4 hb4
          go_wp2_with fail
          have hst' : Ad.stackTo l' (k + 1) = Ad.join ((a, d) :: (ta, tb) :: r) := by rw [hst.out]; simp [Ad.stepM, hcon]
          have hgg := Ad.stepM_good _ (a, d) HGS.out HX.out
          rw [← hst.out, HL2.out] at hgg
          refine ⟨⟨k + 1, by omega, by go_num, ?_, ?_, hgg.1, by have := hgg.2; omega, hb24.out⟩, by simp [intOf]; omega⟩
          · rw [hst']; exact row_slice R4.out
          · rw [hst']; exact R4.out
        · go_wp2_with fail
          refine wp_region_quiet_below (by kernel_rfl) (by kernel_rfl) ?_
          repeat (go_big_quiet_step ((go_at_call 31; exact Calls.regrown_of (contains_is _ _ _ _ _ hcon _ hta hta2 ha ha2))))
          refine wpQuiet_nil ?_
          rintro w5 ⟨⟨dd, os⟩, hw5⟩
          have hb5 : Below (wr.alloc (.cells #[.int .u32 a, .int .i64 d] 25)).heap.size (wr.alloc (.cells #[.int .u32 a, .int .i64 d] 25)) w5 := by rw [hw5]; exact below_regrown _ dd os
          have R5 := hide (row_below (HOl.out.alloc _) hb5)
          have hbr5 := hide ((hbr.alloc hbr.size _).trans (hb5.mono (by have := hbr.size; simp; omega)))
          clear hw5 c0 c1 c2 c3 hb5
          go_wp2_with fail
          have hst' : Ad.stackTo l' (k + 1) = (ta, tb) :: r := by rw [hst.out]; simp [Ad.stepM, hcon]
          have hgg := Ad.stepM_good _ (a, d) HGS.out HX.out
          rw [← hst.out, HL2.out] at hgg
          refine ⟨⟨k + 1, by omega, by go_num, ?_, ?_, hgg.1, by have := hgg.2; omega, hbr5.out⟩, by simp [intOf]; omega⟩
          · rw [hst', HL2.out]; exact ⟨_, _, rfl⟩
          · rw [hst', HL2.out]; exact R5.out
    · go_wp2_with fail
      go_ret
      have hkl : k = l'.length := by omega
      subst hkl
      have e : Ad.stack l' = Ad.stackTo l' l'.length := by simp [Ad.stackTo, Ad.stack]
      exact ⟨l', _, HP.out, HR.out, rfl, by rw [e]; exact row_base ho (by have := B2.out.size; omega), bthen B2.out hbr⟩
end Go.Proofs.YtfkajefminopjabDoor
