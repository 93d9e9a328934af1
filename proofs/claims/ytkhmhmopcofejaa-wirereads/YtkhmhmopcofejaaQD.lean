import Derived.Test.YtkhmhmopcofejaaQA
import Derived.Test.YtkhmhmopcofejaaPA
/- The contract of wire's Take. -/
namespace Go.Proofs.Ytkhmhmopcofejaa
open Go.RowKit Go.Sort

/-- The prefix whose bytes begin at a place. -/
def Takes (l : List UInt8) (k : Nat) (e : Ending) : Prop :=
  (∃ p r, takeP (l.drop k) = some (p, r) ∧ e = .returned (.tuple #[.agg #[.int .u32 p.1, .int .i64 p.2], .int .i64 ((l.length - r.length : Nat) : Int), .int .i64 0])) ∨
    (takeP (l.drop k) = none ∧ ∃ q : Int, (q != 0) = true ∧ e = .returned (.tuple #[.agg #[.int .u32 0, .int .i64 0], .int .i64 0, .int .i64 q]))
set_option maxHeartbeats 1000000 in
set_option maxRecDepth 100000 in
theorem take_is (b off c : Nat) (l : List UInt8) (k : Nat) (hk : k < l.length) (hl : l.length ≤ 100000) (hc : l.length ≤ c) (w : World) (hR : Bs.reads w b off l) :
    Calls Try.prog 86 #[.slice (some ⟨b, off, none⟩) l.length c, .int .i64 k] w fun e w' => Takes l k e ∧ Below w.heap.size w w' := by
  have hcell := hR k hk
  have HR := hide hR
  have hdr : l.drop k = l[k] :: l.drop (k + 1) := List.drop_eq_getElem_cons hk
  have hb : l[k].toNat < 256 := l[k].toNat_lt
  have HT := hide (takeP_cons l[k] (l.drop (k + 1)))
  rw [← hdr] at HT
  have hlr : (l.drop (k + 1)).length = l.length - (k + 1) := by rw [List.length_drop]
  rw [hlr] at HT
  generalize l[k].toNat = x at *
  have h1 : (k : Int) < (l.length : Int) := by omega
  have hn1 : w.heap.size ≠ b := by have := block_lt_of_cell hcell; simp only at this; omega
  have CN := hide (fun W => need_is (x : Int) (by omega) (by omega) W)
  have B0 := hide (balloc (brefl w) (.cells #[.int .u32 0, .int .i64 0] 56))
  have hcA : (w.alloc (.cells #[.int .u32 0, .int .i64 0] 56)).cell? ⟨b, off + k, none⟩ = some (.int .u8 (x : Int)) := (B0.out.cell (p := ⟨b, off + k, none⟩) (block_lt_of_cell hcell)).trans hcell
  clear hR hdr hlr
  by_cases hm : l.length - (k + 1) < (x + 7) / 8
  · have hm' : (l.length : Int) - ((k : Int) + 1) < ((x : Int) + 7) / 8 := by omega
    have HE : Hid (takeP (l.drop k) = none) := by
      show _ = _
      rw [HT.out]
      split
      · rfl
      · rfl
    clear hm
    go_enter Try.func86, Try.ntmps86
    go_wp2_with (go_at_call 67; refine (CN.out _).mono ?_; rintro e w1 ⟨rfl, rfl⟩)
    refine bodyPost_ret (v := .tuple #[.agg #[.int .u32 0, .int .i64 0], .int .i64 0, .int .i64 3]) ?_ rfl ⟨.inr ⟨HE.out, 3, by decide, rfl⟩, B0.out⟩
    simp [results, Try.results86, go_sem]
  · have hm' : ¬ (l.length : Int) - ((k : Int) + 1) < ((x : Int) + 7) / 8 := by omega
    by_cases hx : 32 < x
    · have hx' : (32 : Int) < (x : Int) := by omega
      have HE : Hid (takeP (l.drop k) = none) := by
        show _ = _
        rw [HT.out, if_pos hx]
      clear hm hx
      go_enter Try.func86, Try.ntmps86
      go_wp2_with (go_at_call 67; refine (CN.out _).mono ?_; rintro e w1 ⟨rfl, rfl⟩)
      refine bodyPost_ret (v := .tuple #[.agg #[.int .u32 0, .int .i64 0], .int .i64 0, .int .i64 4]) ?_ rfl ⟨.inr ⟨HE.out, 4, by decide, rfl⟩, B0.out⟩
      simp [results, Try.results86, go_sem]
    · have hx' : ¬ (32 : Int) < (x : Int) := by omega
      rw [if_neg hx, if_neg hm] at HT
      obtain ⟨y, hy⟩ : ∃ y, (x + 7) / 8 = y := ⟨_, rfl⟩
      have hyi : ((x : Int) + 7) / 8 = (y : Int) := by omega
      have hy4 : y ≤ 4 := by omega
      rw [hy] at HT hm
      rw [hyi] at hm' CN
      have CV := hide (number_is b off c l (k + 1) y hy4 (by omega) hl hc (w.alloc (.cells #[.int .u32 0, .int .i64 0] 56)) (fun j hj => (B0.out.cell (p := ⟨b, off + j, none⟩) (block_lt_of_cell (HR.out j hj))).trans (HR.out j hj)))
      push_cast at CV
      have hvl : val ((l.drop (k + 1)).take y) < 256 ^ y := by
        have h1 := val_lt ((l.drop (k + 1)).take y)
        have h2 : ((l.drop (k + 1)).take y).length = y := by rw [List.length_take, List.length_drop]; omega
        rw [h2] at h1
        exact h1
      have hwd : wide ((l.drop (k + 1)).take y) = val ((l.drop (k + 1)).take y) * 256 ^ (4 - y) := by
        have h2 : ((l.drop (k + 1)).take y).length = y := by rw [List.length_take, List.length_drop]; omega
        unfold wide
        rw [h2]
      rw [hwd] at HT
      generalize val ((l.drop (k + 1)).take y) = vv at *
      clear hy hwd
      go_enter Try.func86, Try.ntmps86
      go_wp2_with (first | (go_at_call 67; refine (CN.out _).mono ?_; rintro e w1 ⟨rfl, rfl⟩) | (go_at_call 65; refine CV.out.mono ?_; rintro e w1 ⟨rfl, rfl⟩))
      have hz : (vv : Int) % 4294967296 * 2 ^ (32 - 8 * y) % 4294967296 = ((vv * 256 ^ (4 - y) : Nat) : Int) := by
        have e1 : (2 : Int) ^ (32 - 8 * y) = ((256 ^ (4 - y) : Nat) : Int) := by
          rw [show 32 - 8 * y = 8 * (4 - y) by omega, Int.pow_mul]
          push_cast
          rfl
        have e2 : 256 ^ y * 256 ^ (4 - y) = 4294967296 := by rw [← Nat.pow_add, show y + (4 - y) = 4 by omega]
        have e3 : vv * 256 ^ (4 - y) < 4294967296 := by
          rw [← e2]
          exact Nat.mul_lt_mul_of_pos_right hvl (Nat.pow_pos (by decide))
        have e4 : vv < 4294967296 := Nat.lt_of_lt_of_le hvl (by rw [show (4294967296 : Nat) = 256 ^ 4 from rfl]; exact Nat.pow_le_pow_right (by decide) hy4)
        have e5 : (vv : Int) % 4294967296 = (vv : Int) := by omega
        rw [e5, e1, ← Int.natCast_mul]
        exact Int.emod_eq_of_lt (by omega) (by omega)
      rw [hz]
      have hz1 : vv * 256 ^ (4 - y) ≤ 4294967295 := by
        have := Int.emod_lt_of_pos ((vv : Int) % 4294967296 * 2 ^ (32 - 8 * y)) (by decide : (0 : Int) < 4294967296)
        rw [hz] at this
        omega
      have HLR : Hid (l.length - ((l.drop (k + 1)).drop y).length = k + 1 + y) := by show _ = _; rw [List.length_drop, List.length_drop]; omega
      have HGM := hide (gp_may (b := (x : Int)) (Int.natCast_nonneg (vv * 256 ^ (4 - y))) (by omega))
      clear hz CN CV hvl
      generalize vv * 256 ^ (4 - y) = zz at *
      have B1 := hide (balloc B0.out (.cells #[.int .u32 (zz : Int), .int .i64 (x : Int)] 56))
      by_cases hg : Gp ((zz : Int), (x : Int))
      · have CM := hide (Ax.may_is (zz : Int) (x : Int) true (by rw [HGM.out]; exact decide_eq_true hg) ((w.alloc (.cells #[.int .u32 0, .int .i64 0] 56)).alloc (.cells #[.int .u32 (zz : Int), .int .i64 (x : Int)] 56)) (by omega) (by omega))
        rw [if_pos hg] at HT
        refine CM.out.mono ?_
        rintro e w2 ⟨rfl, b2⟩
        have hlt : w.heap.size + 1 < ((w.alloc (.cells #[.int .u32 0, .int .i64 0] 56)).alloc (.cells #[.int .u32 (zz : Int), .int .i64 (x : Int)] 56)).heap.size := by simp
        have d0 : w2.cell? ⟨w.heap.size + 1, 0, none⟩ = some (.int .u32 (zz : Int)) := (b2.cell (p := ⟨w.heap.size + 1, 0, none⟩) hlt).trans (by simp)
        have d1 : w2.cell? ⟨w.heap.size + 1, 1, none⟩ = some (.int .i64 (x : Int)) := (b2.cell (p := ⟨w.heap.size + 1, 1, none⟩) hlt).trans (by simp)
        have hlt0 : w.heap.size < ((w.alloc (.cells #[.int .u32 0, .int .i64 0] 56)).alloc (.cells #[.int .u32 (zz : Int), .int .i64 (x : Int)] 56)).heap.size := by simp; omega
        have e0 : w2.cell? ⟨w.heap.size, 0, none⟩ = some (.int .u32 0) := (b2.cell (p := ⟨w.heap.size, 0, none⟩) hlt0).trans (by simp)
        have e1 : w2.cell? ⟨w.heap.size, 1, none⟩ = some (.int .i64 0) := (b2.cell (p := ⟨w.heap.size, 1, none⟩) hlt0).trans (by simp)
        have f0 : w2.frozen? ⟨w.heap.size, 0, none⟩ = false := (b2.frozen (p := ⟨w.heap.size, 0, none⟩) hlt0).trans (by simp)
        have f1 : w2.frozen? ⟨w.heap.size, 1, none⟩ = false := (b2.frozen (p := ⟨w.heap.size, 1, none⟩) hlt0).trans (by simp)
        have B2 := hide (bthen B1.out b2)
        clear b2 hlt hlt0 CM hcA hcell
        go_wp2_with fail
        refine bodyPost_ret (v := .tuple #[.agg #[.int .u32 (zz : Int), .int .i64 (x : Int)], .int .i64 ((k : Int) + 1 + (y : Int)), .int .i64 0]) ?_ rfl ⟨.inl ⟨_, _, HT.out, by rw [HLR.out]; push_cast; rfl⟩, ?_⟩
        · simp [results, Try.results86, go_sem, e0, e1]
        · exact (B2.out.setCell (p := ⟨w.heap.size, 0, none⟩) (Nat.le_refl _) _).setCell (p := ⟨w.heap.size, 1, none⟩) (Nat.le_refl _) _
      · have CM := hide (Ax.may_is (zz : Int) (x : Int) false (by rw [HGM.out]; exact decide_eq_false hg) ((w.alloc (.cells #[.int .u32 0, .int .i64 0] 56)).alloc (.cells #[.int .u32 (zz : Int), .int .i64 (x : Int)] 56)) (by omega) (by omega))
        rw [if_neg hg] at HT
        refine CM.out.mono ?_
        rintro e w2 ⟨rfl, b2⟩
        have hlt0 : w.heap.size < ((w.alloc (.cells #[.int .u32 0, .int .i64 0] 56)).alloc (.cells #[.int .u32 (zz : Int), .int .i64 (x : Int)] 56)).heap.size := by simp; omega
        have e0 : w2.cell? ⟨w.heap.size, 0, none⟩ = some (.int .u32 0) := (b2.cell (p := ⟨w.heap.size, 0, none⟩) hlt0).trans (by simp)
        have e1 : w2.cell? ⟨w.heap.size, 1, none⟩ = some (.int .i64 0) := (b2.cell (p := ⟨w.heap.size, 1, none⟩) hlt0).trans (by simp)
        have f0 : w2.frozen? ⟨w.heap.size, 0, none⟩ = false := (b2.frozen (p := ⟨w.heap.size, 0, none⟩) hlt0).trans (by simp)
        have f1 : w2.frozen? ⟨w.heap.size, 1, none⟩ = false := (b2.frozen (p := ⟨w.heap.size, 1, none⟩) hlt0).trans (by simp)
        have B2 := hide (bthen B1.out b2)
        clear b2 hlt0 CM hcA hcell
        go_wp2_with fail
        refine bodyPost_ret (v := .tuple #[.agg #[.int .u32 0, .int .i64 0], .int .i64 0, .int .i64 4]) ?_ rfl ⟨.inr ⟨HT.out, 4, by decide, rfl⟩, ?_⟩
        · simp [results, Try.results86, go_sem, e0, e1]
        · first | exact B2.out | exact (B2.out.setCell (p := ⟨w.heap.size, 0, none⟩) (Nat.le_refl _) _).setCell (p := ⟨w.heap.size, 1, none⟩) (Nat.le_refl _) _
end Go.Proofs.Ytkhmhmopcofejaa
