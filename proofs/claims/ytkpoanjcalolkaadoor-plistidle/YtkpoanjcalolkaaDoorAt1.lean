/- The contract of the document's At: the prefix of so many bits that has an address. -/
import Derived.Test.YtkpoanjcalolkaaDoorF1
import Derived.Test.YtkpoanjcalolkaaDoorH1
import Derived.Deep.RegionWith
namespace Go.Proofs.YtkpoanjcalolkaaDoor
open Go.RowKit

/-- What At has so far. -/
def Ad.preN (a : Int) (B : Nat) : Nat → Int
  | 0 => 0
  | i + 1 => Ad.preN a B i * 2 + (if i < B then Ad.bit a i else 0)

theorem Ad.preN_bd (a : Int) (B : Nat) : ∀ i, 0 ≤ Ad.preN a B i ∧ Ad.preN a B i ≤ ((2 ^ i : Nat) : Int) - 1
  | 0 => by simp [Ad.preN]
  | i + 1 => by
    have h := Ad.preN_bd a B i
    have hb := Ad.bit_le a i
    have hp : (2 : Nat) ^ (i + 1) = 2 ^ i * 2 := Nat.pow_succ 2 i
    rw [hp]
    unfold Ad.preN
    split <;> omega

theorem Ad.preN_top (a : Int) (B i : Nat) (hi : i ≤ 32) : 0 ≤ Ad.preN a B i ∧ Ad.preN a B i ≤ 4294967295 := by
  have h := Ad.preN_bd a B i
  have hp : (2 : Nat) ^ i ≤ 2 ^ 32 := Nat.pow_le_pow_right (by decide) hi
  have e : (2 : Nat) ^ 32 = 4294967296 := by decide
  omega

theorem Ad.preN_lo (a : Int) (B : Nat) (h0 : 0 ≤ a) (h1 : a ≤ 4294967295) (hB : B ≤ 32) : ∀ i, i ≤ B → Ad.preN a B i = a / 2 ^ (32 - i)
  | 0, _ => by
    show 0 = _
    rw [show (2 : Int) ^ (32 - 0) = 4294967296 by decide]
    omega
  | i + 1, hi => by
    unfold Ad.preN
    rw [Ad.preN_lo a B h0 h1 hB i (by omega), if_pos (by omega)]
    unfold Ad.bit
    rw [show 32 - i = (31 - i) + 1 by omega, Int.pow_succ, ← Int.ediv_ediv_of_nonneg (Int.le_of_lt (Int.pow_pos (by decide))), show 32 - (i + 1) = 31 - i by omega]
    omega

theorem Ad.preN_hi (a : Int) (B : Nat) (h0 : 0 ≤ a) (h1 : a ≤ 4294967295) (hB : B ≤ 32) : ∀ i, Ad.preN a B (B + i) = a / 2 ^ (32 - B) * 2 ^ i
  | 0 => by rw [Nat.add_zero, Ad.preN_lo a B h0 h1 hB B (Nat.le_refl _)]; simp
  | i + 1 => by
    rw [← Nat.add_assoc]
    unfold Ad.preN
    rw [Ad.preN_hi a B h0 h1 hB i, if_neg (by omega), Int.pow_succ, Int.add_zero]
    generalize a / 2 ^ (32 - B) = z
    generalize (2 : Int) ^ i = y
    rw [Int.mul_assoc]

theorem Ad.preN_cut (a : Int) (B : Nat) (h0 : 0 ≤ a) (h1 : a ≤ 4294967295) (hB : B ≤ 32) : Ad.preN a B 32 = Ad.cut a B := by
  have h := Ad.preN_hi a B h0 h1 hB (32 - B)
  rw [show B + (32 - B) = 32 by omega] at h
  rw [h]
  unfold Ad.cut Ad.sz
  rw [Int.toNat_natCast]
  simp

/-- At's two blocks at a round. -/
def AtW (w : World) (B v : Int) (X : World) : Prop :=
  (X.cell? ⟨w.heap.size, 0, none⟩ = some (.int .u32 0) ∧ X.cell? ⟨w.heap.size, 1, none⟩ = some (.int .i64 0) ∧ X.cell? ⟨w.heap.size + 1, 0, none⟩ = some (.int .u32 v) ∧ X.cell? ⟨w.heap.size + 1, 1, none⟩ = some (.int .i64 B)) ∧
  (X.frozen? ⟨w.heap.size, 0, none⟩ = false ∧ X.frozen? ⟨w.heap.size, 1, none⟩ = false ∧ X.frozen? ⟨w.heap.size + 1, 0, none⟩ = false) ∧ Below w.heap.size w X

theorem atw_set {w X : World} {B v : Int} (h : AtW w B v X) (u : Int) : AtW w B u (X.setCell ⟨w.heap.size + 1, 0, none⟩ (.int .u32 u)) := by
  obtain ⟨⟨r0, r1, p0, p1⟩, ⟨f0, f1, f2⟩, hb⟩ := h
  refine ⟨⟨?_, ?_, ?_, ?_⟩, ⟨by simpa using f0, by simpa using f1, by simpa using f2⟩, hb.setCell (by simp) _⟩
  · rw [World.cell?_setCell_other _ _ _ _ (by simp)]; exact r0
  · rw [World.cell?_setCell_other _ _ _ _ (by simp)]; exact r1
  · exact World.cell?_setCell_same _ _ _ p0
  · rw [World.cell?_setCell_other _ _ _ _ (by simp)]; exact p1
theorem atw_drew {w X : World} {B v : Int} (h : AtW w B v X) : AtW w B v X.drew := ⟨h.1, h.2.1, h.2.2.drew⟩

set_option maxHeartbeats 2000000 in
theorem refAt_any (a : Int) (B : Nat) (w : World) (h0 : 0 ≤ a) (h1 : a ≤ 4294967295) (hB : B ≤ 32) :
    Calls Tryd.prog 23 #[.int .u32 a, .int .i64 (B : Int)] w fun e w' => e = .returned (.agg #[.int .u32 (Ad.cut a B), .int .i64 (B : Int)]) ∧ Below w.heap.size w w' := by
  have HCUT := hide (Ad.preN_cut a B h0 h1 hB)
  go_enter Tryd.func23, Tryd.ntmps23
  go_wp2_with fail
  go_loopw [6] (fun t wr => ∃ i : Nat, i ≤ 32 ∧ t = .int .i64 i ∧ AtW w B (Ad.preN a B i) wr) (fun t _ => 32 - (intOf t).toNat)
  case atStart =>
    refine ⟨0, Nat.zero_le _, rfl, ⟨?_, ?_, ?_, ?_⟩, ⟨?_, ?_, ?_⟩, ?_⟩
    · rw [World.cell?_alloc_past _ _ _ (by simp)]; simp
    · rw [World.cell?_alloc_past _ _ _ (by simp)]; simp
    · simp [Ad.preN]
    · simp
    · rw [World.frozen?_alloc_old _ _ _ (by simp)]; exact World.frozen?_alloc_new (w := w) #[.int .u32 0, .int .i64 0] 25 0
    · rw [World.frozen?_alloc_old _ _ _ (by simp)]; exact World.frozen?_alloc_new (w := w) #[.int .u32 0, .int .i64 0] 25 1
    · simp
    · exact balloc (balloc (brefl w) _) _
  case round =>
    obtain ⟨i, hi, rfl, hat⟩ := hrel
    have HAT := hide hat
    obtain ⟨⟨r0, r1, p0, p1⟩, ⟨f0, f1, f2⟩, hbr⟩ := hat
    have HB := hide hbr
    clear hbr
    by_cases hlt : i < 32
    · have hlt' : (i : Int) < 32 := by omega
      obtain ⟨hv0, hv1⟩ := Ad.preN_top a B i hi
      have hst : Hid (Ad.preN a B (i + 1) = Ad.preN a B i * 2 + (if i < B then Ad.bit a i else 0)) := rfl
      have hbd := hide (Ad.preN_top a B (i + 1) hlt)
      have hbit := hide (Ad.bit_le a i)
      have hmod : Ad.preN a B i * 2 % 4294967296 = Ad.preN a B i * 2 := by
        have h2 := hbd.out
        have h3 := hst.out
        have h4 := hbit.out
        rw [h3] at h2
        split at h2 <;> omega
      by_cases hiB : i < B
      · have hiB' : (i : Int) < (B : Int) := by omega
        go_wp2_with fail
        have A2 := hide (atw_set HAT.out (Ad.preN a B i * 2))
        clear HAT r0 r1 p0 p1 f0 f1 f2 HB
        generalize wr.setCell ⟨w.heap.size + 1, 0, none⟩ (.int .u32 (Ad.preN a B i * 2)) = W2 at A2 ⊢
        have hst2 : Hid (Ad.preN a B (i + 1) = Ad.preN a B i * 2 + Ad.bit a i) := by show _ = _; rw [hst.out, if_pos hiB]
        have hs0 : 0 ≤ Ad.preN a B i * 2 + Ad.bit a i := by have := hbd.out; rw [hst2.out] at this; omega
        have hs1 : Ad.preN a B i * 2 + Ad.bit a i ≤ 4294967295 := by have := hbd.out; rw [hst2.out] at this; omega
        have hw : (Ad.preN a B i * 2 + Ad.bit a i) % 4294967296 = Ad.preN a B i * 2 + Ad.bit a i := by omega
        have c0 := A2.out.1.2.2.1
        have g0 := A2.out.2.1.2.2
        have hi31 : i ≤ 31 := by omega
        have HBIT := hide fun W => bit_any a i W h0 h1 hi31
        generalize Ad.preN a B i * 2 = v2 at *
        generalize Ad.bit a i = bt at *
        clear hmod hst
        have hwr : IntKind.u32.wrap (v2 + bt) = v2 + bt := by rw [IntKind.wrap_u32']; exact hw
        go_region_with (go_at_call 36; refine (HBIT.out _).mono ?_; rintro e w' ⟨rfl, rfl⟩)
        all_goals
          have A3 := hide (atw_drew (atw_set A2.out (v2 + bt)))
          generalize (W2.setCell ⟨w.heap.size + 1, 0, none⟩ (.int .u32 (v2 + bt))).drew = W3 at A3 ⊢
          go_wp2_with fail
          refine ⟨⟨i + 1, by omega, by go_num, ?_⟩, by simp [intOf] <;> omega⟩
          rw [hst2.out]
          exact A3.out
      · have hiB' : ¬ (i : Int) < (B : Int) := by omega
        go_wp2_with fail
        refine ⟨⟨i + 1, by omega, by go_num, ?_⟩, by simp [intOf] <;> omega⟩
        rw [hst.out, if_neg hiB, Int.add_zero]
        exact atw_set HAT.out _
    · have hlt' : ¬ (i : Int) < 32 := by omega
      have hiE : i = 32 := by omega
      subst hiE
      rw [HCUT.out] at p0
      go_wp2_with fail
      exact bodyPost_ret (v := .agg #[.int .u32 (Ad.cut a B), .int .i64 B]) (by simp [results, Tryd.results23, go_sem, r0, r1]) rfl ⟨rfl, (HB.out.setCell (by simp) _).setCell (by simp) _⟩
end Go.Proofs.YtkpoanjcalolkaaDoor
