/- The contract of addr's join: of a row that the caller has made. -/
import Derived.Test.YtfkajefminopjabDoorA5
import Derived.Test.YtfkajefminopjabDoorC1
import Derived.Test.YtfkajefminopjabDoorM3
namespace Go.Proofs.YtfkajefminopjabDoor
open Go.RowKit

/-- All of a list may be. -/
def Ad.good (s : List (Int × Int)) : Prop := ∀ x ∈ s, 0 ≤ x.1 ∧ x.1 ≤ 4294967295 ∧ Ad.may x.1 x.2 = true

theorem Ad.top (q p : Int × Int) (r : List (Int × Int)) (m : Nat) (hm : m = r.length) :
    (Ad.cells (q :: p :: r).reverse)[m * 2]? = some (.int .u32 p.1) ∧ (Ad.cells (q :: p :: r).reverse)[m * 2 + 1]? = some (.int .i64 p.2) ∧
    (Ad.cells (q :: p :: r).reverse)[(m + 1) * 2]? = some (.int .u32 q.1) ∧ (Ad.cells (q :: p :: r).reverse)[(m + 1) * 2 + 1]? = some (.int .i64 q.2) := by
  have e : (q :: p :: r).reverse = r.reverse ++ [p, q] := by simp
  rw [e]
  have h1 := Ad.cells_get (r.reverse ++ [p, q]) m (by simp; omega)
  have h2 := Ad.cells_get (r.reverse ++ [p, q]) (m + 1) (by simp; omega)
  have e1 : (r.reverse ++ [p, q])[m]'(by simp; omega) = p := by subst hm; simp
  have e2 : (r.reverse ++ [p, q])[m + 1]'(by simp; omega) = q := by subst hm; simp
  rw [e1] at h1
  rw [e2] at h2
  exact ⟨h1.1, h1.2, h2.1, h2.2⟩

theorem Ad.cells_append (l r : List (Int × Int)) : Ad.cells (l ++ r) = Ad.cells l ++ Ad.cells r := by simp [Ad.cells]

/-- The last two of a row are put as one. -/
theorem row_joined {w : World} {B g cap m : Nat} {q p : Int × Int} {r : List (Int × Int)} (x : Int × Int) (hm : m = r.length)
    (h : w.ownsRow B 25 2 (.slice (some ⟨g, 0, none⟩) (m + 2) cap) (m + 2) (Ad.cells (q :: p :: r).reverse)) :
    ((w.setCell ⟨g, m * 2, none⟩ (.int .u32 x.1)).setCell ⟨g, m * 2 + 1, none⟩ (.int .i64 x.2)).ownsRow B 25 2 (.slice (some ⟨g, 0, none⟩) (m + 1) cap) (m + 1) (Ad.cells (x :: r).reverse) := by
  have h1 := (h.stored (m * 2) (.int .u32 x.1)).1
  have h2 := (h1.stored (m * 2 + 1) (.int .i64 x.2)).1
  have hl : (Ad.cells r.reverse).length = m * 2 := by rw [Ad.cells_length, List.length_reverse, hm]
  have e : ((Ad.cells (q :: p :: r).reverse).set (m * 2) (.int .u32 x.1)).set (m * 2 + 1) (.int .i64 x.2) = Ad.cells (x :: r).reverse ++ Ad.enc q := by
    have e1 : (q :: p :: r).reverse = r.reverse ++ [p, q] := by simp
    have e2 : (x :: r).reverse = r.reverse ++ [x] := by simp
    rw [e1, e2, Ad.cells_append, Ad.cells_append, List.set_append_right _ _ (by omega), List.set_append_right _ _ (by omega), hl]
    simp [Ad.cells, Ad.enc]
  rw [e] at h2
  exact ownsRow_pop (by rw [Ad.cells_length]; simp; omega) h2

set_option maxHeartbeats 1000000 in
set_option maxRecDepth 100000 in
theorem join_any (B : Nat) (v : Value) (s : List (Int × Int)) (w : World) (hB : B ≤ w.heap.size) (hown : w.ownsRow B 25 2 v s.length (Ad.cells s.reverse)) (hg : Ad.good s) (hlen : s.length ≤ 1000000) :
    Calls Tryd.prog 35 #[v] w fun e w' => ∃ v', e = .returned v' ∧ w'.ownsRow B 25 2 v' (Ad.join s).length (Ad.cells (Ad.join s).reverse) ∧ Below B w w' := by
  obtain ⟨ao, cap, rfl⟩ : ∃ ao cap, v = .slice ao s.length cap := by
    rcases hown.2 with ⟨hv, h0⟩ | ⟨g, cap, cur, hv, _⟩
    · exact ⟨none, 0, by rw [hv, h0]⟩
    · exact ⟨_, _, hv⟩
  go_enter Tryd.func35, Tryd.ntmps35
  go_wp2_with fail
  go_loopw [0, 3] (fun l n wr => ∃ t ao cap, l = .slice ao t.length cap ∧ n = .int .i64 t.length ∧ wr.ownsRow B 25 2 l t.length (Ad.cells t.reverse) ∧ Ad.good t ∧ t.length ≤ 1000000 ∧ Ad.join t = Ad.join s ∧ Below B w wr) (fun _ n _ => (intOf n).toNat)
  case atStart => exact ⟨s, ao, cap, rfl, rfl, hown, hg, hlen, rfl, Below.refl _ _⟩
  case round =>
    obtain ⟨t, ao, cap, rfl, rfl, ho, hgt, htl, hj, hbr⟩ := hrel
    rcases t with _ | ⟨q, _ | ⟨p, r⟩⟩
    · go_wp2_with fail
      go_ret
      exact ⟨_, rfl, by rw [← hj]; exact ho, hbr⟩
    · go_wp2_with fail
      go_ret
      exact ⟨_, rfl, by rw [← hj]; exact ho, hbr⟩
    · obtain ⟨m, hm⟩ : ∃ m, m = r.length := ⟨_, rfl⟩
      have hl : (q :: p :: r).length = m + 2 := by simp [hm]
      rw [hl] at ho htl ⊢
      obtain ⟨g, rfl, hcap, hBg⟩ : ∃ g, ao = some ⟨g, 0, none⟩ ∧ (m : Int) + 2 ≤ (cap : Int) ∧ B ≤ g := by
        rcases ho.2 with ⟨_, h0⟩ | ⟨g, cap', cur, hv, hb, _, hc, _⟩
        · omega
        · simp only [Value.slice.injEq] at hv
          exact ⟨g, hv.1, by omega, hb⟩
      obtain ⟨t0, t1, t2, t3⟩ := Ad.top q p r m hm
      have c0 : wr.cell? ⟨g, m * 2, none⟩ = some (.int .u32 p.1) := (ho.cellAt _ (by omega)).trans t0
      have c1 : wr.cell? ⟨g, m * 2 + 1, none⟩ = some (.int .i64 p.2) := (ho.cellAt _ (by omega)).trans t1
      have c2 : wr.cell? ⟨g, (m + 1) * 2, none⟩ = some (.int .u32 q.1) := (ho.cellAt _ (by omega)).trans t2
      have c3 : wr.cell? ⟨g, (m + 1) * 2 + 1, none⟩ = some (.int .i64 q.2) := (ho.cellAt _ (by omega)).trans t3
      have c2' : wr.cell? ⟨g, (m + 2 - 1) * 2, none⟩ = some (.int .u32 q.1) := c2
      have c3' : wr.cell? ⟨g, (m + 2 - 1) * 2 + 1, none⟩ = some (.int .i64 q.2) := c3
      have hgl : g < wr.heap.size := block_lt_of_cell c0
      have f0 : wr.frozen? ⟨g, m * 2, none⟩ = false := ho.frozenAt _
      have f1 : wr.frozen? ⟨g, m * 2 + 1, none⟩ = false := ho.frozenAt _
      have hgl1 : g < wr.heap.size + 1 := by omega
      have hgl2 : g < wr.heap.size + 1 + 1 := by omega
      have HO := hide ho
      have HJ := hide hj
      have HM := hide hm
      have HL := hide hl
      have hgp := hide (hgt p (by simp))
      have hgq := hide (hgt q (by simp))
      have HG := hide hgt
      clear t0 t1 t2 t3 ho hj hm hl hgt hg hown
      obtain ⟨a, b⟩ := p
      obtain ⟨c, d⟩ := q
      have ha : 0 ≤ a := hgp.out.1
      have ha2 : a ≤ 4294967295 := hgp.out.2.1
      have hc : 0 ≤ c := hgq.out.1
      have hc2 : c ≤ 4294967295 := hgq.out.2.1
      go_wp2_with fail
      obtain ⟨hb0, hb2, hca⟩ := (Ad.may_iff a b).1 hgp.out.2.2
      obtain ⟨hd0, hd2, hcc⟩ := (Ad.may_iff c d).1 hgq.out.2.2
      have HCA := hide hca
      have HCC := hide hcc
      clear hca hcc
      go_region
      all_goals
        go_wp2_with fail
        refine (above_yes a b c d _ ha ha2 hc hc2 hgp.out.2.2 hgq.out.2.2 hb0 hb2 hd0 hd2).mono ?_
        rintro e w1 ⟨k, rfl, hkb, hkd, hke, hks, hb1⟩
        obtain ⟨hc1, hf1⟩ := bcell hb1
        have hz1 : wr.heap.size + 1 < w1.heap.size := by have := hb1.size; simp at this; omega
        have hz0 : wr.heap.size < w1.heap.size := by omega
        have hgz : g < w1.heap.size := by omega
        have HKE := hide hke
        have HKS := hide hks
        have hu0 : 0 ≤ Ad.cut a k := Ad.cut_nonneg a k ha
        have hu1 : Ad.cut a k ≤ 4294967295 := by have := Ad.cut_le a k; omega
        have hum : Hid (Ad.may (Ad.cut a k) k = true) := (Ad.may_iff _ _).2 ⟨by omega, by omega, Ad.cut_idem a k⟩
        clear hke hks
        cases hp : Ad.pair (a, b) (c, d)
        · have HP := hide hp
          clear hp
          have hgd := guardP
          by_cases hk31 : (k : Int) ≤ 31
          · cases e1 : (a == Ad.cut a k && b == (k : Int) + 1)
            · have hq1 : ∀ w, (binOp .neq 25 (.agg #[.int .u32 a, .int .i64 b]) (.agg #[.int .u32 (Ad.cut a k), .int .i64 ((k : Int) + 1)])).run Tryd.prog w = .ok (.bool true) w := by
                intro w; rw [neqP, e1]; rfl
              clear e1
              go_wp2_with fail
              refine (halves_yes _ _ _ hu0 hu1 hum.out (by omega) hk31).mono ?_
              rintro e w2 ⟨rfl, hb2'⟩
              obtain ⟨hc2', hf2⟩ := bcell hb2'
              have hw1 := bthen ((balloc (balloc (brefl wr) _) _).drew) hb1
              have hw2 := hide (bthen (balloc hw1 _) hb2')
              have R2 := hide (row_below HO.out hw2.out)
              have hy1 : wr.heap.size + 1 < w2.heap.size := by have := hb2'.size; simp at this; omega
              have hy0 : wr.heap.size < w2.heap.size := by omega
              have hyw : w1.heap.size < w2.heap.size := by have := hb2'.size; simp at this; omega
              clear hw1
              go_wp2_with fail
              go_ret
              refine ⟨_, rfl, ?_, ?_⟩
              · rw [← HJ.out, Ad.join_stop _ _ _ HP.out, HL.out]
                exact (R2.out.alloc _).alloc _
              · have := hbr.trans ((hw2.out).mono (Nat.le_trans hB hbr.size))
                have hBw : B ≤ w2.heap.size := Nat.le_trans hB this.size
                exact (this.alloc hBw _).alloc (by simp; omega) _
            · have hq1 : ∀ w, (binOp .neq 25 (.agg #[.int .u32 a, .int .i64 b]) (.agg #[.int .u32 (Ad.cut a k), .int .i64 ((k : Int) + 1)])).run Tryd.prog w = .ok (.bool false) w := by
                intro w; rw [neqP, e1]; rfl
              have hq2 : ∀ w, (binOp .neq 25 (.agg #[.int .u32 c, .int .i64 d]) (.agg #[.int .u32 (Ad.cut a k + Ad.sz ((k : Int) + 1)), .int .i64 ((k : Int) + 1)])).run Tryd.prog w = .ok (.bool true) w := by
                intro w
                have e2 : (c == Ad.cut a k + Ad.sz ((k : Int) + 1) && d == (k : Int) + 1) = false := by
                  cases e3 : (c == Ad.cut a k + Ad.sz ((k : Int) + 1) && d == (k : Int) + 1)
                  · rfl
                  · rw [Bool.and_eq_true, beq_iff_eq, beq_iff_eq] at e1 e3
                    exact absurd (Ad.pair_not a b c d k HP.out e1.1 e1.2 e3.1 e3.2) id
                rw [neqP, e2]; rfl
              clear e1
              go_wp2_with fail
              refine (halves_yes _ _ _ hu0 hu1 hum.out (by omega) hk31).mono ?_
              rintro e w2 ⟨rfl, hb2'⟩
              obtain ⟨hc2', hf2⟩ := bcell hb2'
              have hw1 := bthen ((balloc (balloc (brefl wr) _) _).drew) hb1
              have hw2 := hide (bthen (balloc hw1 _) hb2')
              have R2 := hide (row_below HO.out hw2.out)
              have hy1 : wr.heap.size + 1 < w2.heap.size := by have := hb2'.size; simp at this; omega
              have hy0 : wr.heap.size < w2.heap.size := by omega
              have hyw : w1.heap.size < w2.heap.size := by have := hb2'.size; simp at this; omega
              clear hw1
              go_wp2_with fail
              go_ret
              refine ⟨_, rfl, ?_, ?_⟩
              · rw [← HJ.out, Ad.join_stop _ _ _ HP.out, HL.out]
                exact (R2.out.alloc _).alloc _
              · have := hbr.trans ((hw2.out).mono (Nat.le_trans hB hbr.size))
                have hBw : B ≤ w2.heap.size := Nat.le_trans hB this.size
                exact (this.alloc hBw _).alloc (by simp; omega) _
          · obtain rfl : k = 32 := by omega
            have hq1 : ∀ w, (binOp .neq 25 (.agg #[.int .u32 a, .int .i64 b]) (.agg #[.int .u32 0, .int .i64 0])).run Tryd.prog w = .ok (.bool true) w := by
              intro w
              have e2 : (b == 0) = false := by simp; omega
              rw [neqP, e2, Bool.and_false]; rfl
            go_wp2_with fail
            refine (halves_all _ _ hu0 hu1 hum.out).mono ?_
            rintro e w2 ⟨rfl, hb2'⟩
            obtain ⟨hc2', hf2⟩ := bcell hb2'
            have hw1 := bthen ((balloc (balloc (brefl wr) _) _).drew) hb1
            have hw2 := hide (bthen (balloc hw1 _) hb2')
            have R2 := hide (row_below HO.out hw2.out)
            have hy1 : wr.heap.size + 1 < w2.heap.size := by have := hb2'.size; simp at this; omega
            have hy0 : wr.heap.size < w2.heap.size := by omega
            have hyw : w1.heap.size < w2.heap.size := by have := hb2'.size; simp at this; omega
            clear hw1
            go_wp2_with fail
            go_ret
            refine ⟨_, rfl, ?_, ?_⟩
            · rw [← HJ.out, Ad.join_stop _ _ _ HP.out, HL.out]
              exact (R2.out.alloc _).alloc _
            · have := hbr.trans ((hw2.out).mono (Nat.le_trans hB hbr.size))
              have hBw : B ≤ w2.heap.size := Nat.le_trans hB this.size
              exact (this.alloc hBw _).alloc (by simp; omega) _
        · have hk1 := Ad.pair_above a b c d k hb0 hb2 HCA.out HCC.out hkb HKE.out HKS.out hp
          have hp' := hp
          simp only [Ad.pair, decide_eq_true_eq] at hp'
          obtain ⟨g1, g2, g3, g4⟩ := hp'
          have hcu : Ad.cut a k = a := by rw [hk1]; exact g3
          have hq1 : ∀ w, (binOp .neq 25 (.agg #[.int .u32 a, .int .i64 b]) (.agg #[.int .u32 (Ad.cut a k), .int .i64 ((k : Int) + 1)])).run Tryd.prog w = .ok (.bool false) w := by
            intro w
            have e1 : (a == Ad.cut a k) = true := by rw [hcu]; simp
            have e2 : (b == (k : Int) + 1) = true := by simp; omega
            rw [neqP, e1, e2]; rfl
          have hq2 : ∀ w, (binOp .neq 25 (.agg #[.int .u32 c, .int .i64 d]) (.agg #[.int .u32 (Ad.cut a k + Ad.sz ((k : Int) + 1)), .int .i64 ((k : Int) + 1)])).run Tryd.prog w = .ok (.bool false) w := by
            intro w
            have e0 : (k : Int) + 1 = b := by omega
            have e1 : (c == Ad.cut a k + Ad.sz ((k : Int) + 1)) = true := by rw [hcu, e0]; simpa using g4
            have e2 : (d == (k : Int) + 1) = true := by simp; omega
            rw [neqP, e1, e2]; rfl
          have hgd := guardP
          have hk31 : (k : Int) ≤ 31 := by omega
          have HK1 := hide hk1
          have HCU := hide hcu
          have HG4 := hide g4
          have HP := hide hp
          clear hk1 g1 g2 g3 g4 hcu hp
          go_wp2_with fail
          refine (halves_yes _ _ _ hu0 hu1 hum.out (by omega) hk31).mono ?_
          rintro e w2 ⟨rfl, hb2'⟩
          obtain ⟨hc2', hf2⟩ := bcell hb2'
          have hy1 : wr.heap.size + 1 < w2.heap.size := by have := hb2'.size; simp at this; omega
          have hy0 : wr.heap.size < w2.heap.size := by omega
          have hyw : w1.heap.size < w2.heap.size := by have := hb2'.size; simp at this; omega
          have hw1 := bthen ((balloc (balloc (brefl wr) _) _).drew) hb1
          have hw2 := hide (bthen (balloc hw1 _) hb2')
          have R2 := hide (row_below HO.out hw2.out)
          clear hw1
          have hgz1 : g < w1.heap.size + 1 := by omega
          have hgy : g < w2.heap.size := by omega
          have hgy1 : g < w2.heap.size + 1 := by omega
          go_wp2_with fail
          have hx : ((Ad.cut a k, (k : Int)) : Int × Int) = Ad.up (a, b) := by simp only [Ad.up, Prod.mk.injEq]; exact ⟨HCU.out, HK1.out⟩
          refine ⟨⟨(Ad.cut a k, (k : Int)) :: r, some ⟨g, 0, none⟩, cap, by rw [List.length_cons, ← HM.out]; rfl, by rw [List.length_cons, ← HM.out]; go_num, ?_, ?_, by rw [List.length_cons, ← HM.out]; omega, ?_, ?_⟩, by simp [intOf]⟩
          · rw [List.length_cons, ← HM.out]
            exact ((row_joined (Ad.cut a k, (k : Int)) HM.out R2.out).alloc _).alloc _
          · intro y hy
            rcases List.mem_cons.1 hy with rfl | hy
            · exact ⟨hu0, hu1, hum.out⟩
            · exact HG.out y (by simp [hy])
          · rw [← HJ.out, Ad.join_step _ _ _ HP.out, hx]
          · have := hbr.trans ((hw2.out).mono (Nat.le_trans hB hbr.size))
            have hBw : B ≤ w2.heap.size := Nat.le_trans hB this.size
            exact (((this.setCell (p := ⟨g, m * 2, none⟩) hBg _).setCell (p := ⟨g, m * 2 + 1, none⟩) hBg _).alloc (by simp [World.setCell]; omega) _).alloc (by simp [World.setCell]; omega) _
end Go.Proofs.YtfkajefminopjabDoor
