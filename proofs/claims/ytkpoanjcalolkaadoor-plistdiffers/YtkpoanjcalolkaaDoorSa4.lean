import Derived.Test.YtkpoanjcalolkaaDoorSa1
import Derived.Deep.CutBlock
/- The library's sort at uint32: partitionEqualOrdered. -/
namespace Go.Proofs.YtkpoanjcalolkaaDoor
open Go.RowKit Go.Sort

theorem up_go (p : Int → Bool) (d : Array Int) (j i : Nat) (h : i ≤ j) (hp : p d[i]! = true) : scanUp p d j i = scanUp p d j (i + 1) := by
  rw [scanUp]; simp [h, hp]
theorem up_stop (p : Int → Bool) (d : Array Int) (j i : Nat) (h : ¬ i ≤ j ∨ p d[i]! = false) : scanUp p d j i = i := by
  rw [scanUp]
  rcases h with h | h <;> simp [h]
theorem down_go (p : Int → Bool) (d : Array Int) (i j : Nat) (h : i ≤ j) (hj : 1 ≤ j) (hp : p d[j]! = true) : scanDown p d i j = scanDown p d i (j - 1) := by
  obtain ⟨k, rfl⟩ : ∃ k, j = k + 1 := ⟨j - 1, by omega⟩
  rw [scanDown]; simp [h, hp]
theorem down_stop (p : Int → Bool) (d : Array Int) (i j : Nat) (h : ¬ i ≤ j ∨ p d[j]! = false) : scanDown p d i j = j := by
  cases j with
  | zero => rw [scanDown]
  | succ k =>
    rw [scanDown]
    rcases h with h | h <;> simp [h]

theorem pe_stop (a i j : Nat) (d : Array Int) (i2 j2 : Nat) (h1 : i2 = scanUp (fun x => !ltInt d[a]! x) d j i) (h2 : j2 = scanDown (fun x => ltInt d[a]! x) d i2 j) (h : i2 > j2) : partEqLoop ltInt a i j d = (i2, d) := by
  subst h2; subst h1
  rw [partEqLoop]
  simp only [if_pos h]
theorem pe_go (a i j : Nat) (d : Array Int) (i2 j2 : Nat) (h1 : i2 = scanUp (fun x => !ltInt d[a]! x) d j i) (h2 : j2 = scanDown (fun x => ltInt d[a]! x) d i2 j) (h : ¬ i2 > j2) (hi : i ≤ i2) (hj : j2 ≤ j) (h0 : 1 ≤ i2) :
    partEqLoop ltInt a i j d = partEqLoop ltInt a (i2 + 1) (j2 - 1) (swp d i2 j2) := by
  subst h2; subst h1
  rw [partEqLoop]
  simp only [if_neg h]
  rw [dif_pos (by omega)]

set_option maxHeartbeats 4000000 in
set_option maxRecDepth 100000 in
theorem partEq_u (blk off cap a b pivot : Nat) (d : Array Int) (w : World) (hH : Holds (Value.int .u32) w blk off d) (hblk : blk < w.heap.size) (hap : a ≤ pivot) (hpb : pivot < b) (hb : b ≤ d.size) (hsz : d.size ≤ 1000000) :
    Calls Tryd.prog 71 #[.slice (some ⟨blk, off, none⟩) d.size cap, .int .i64 a, .int .i64 b, .int .i64 pivot] w fun e w' => e = .returned (.int .i64 (partitionEqual ltInt d a b pivot).1) ∧ SW w blk off d (partitionEqual ltInt d a b pivot).2 w' := by
  have HH := hide hH
  have hfw : ∀ t, t < d.size → w.frozen? ⟨blk, off + t, none⟩ = false := fun t ht => (hH t ht).2
  obtain ⟨G, hG⟩ : ∃ G : Nat → Int, ∀ t, G t = d[t]! := ⟨fun t => d[t]!, fun _ => rfl⟩
  have hcw : ∀ t, t < d.size → w.cell? ⟨blk, off + t, none⟩ = some (.int .u32 (G t)) := fun t ht => by rw [hG]; exact (hH t ht).1
  have HG := hide hG
  clear hH hG
  go_enter Tryd.func71, Tryd.ntmps71
  go_wp2_with fail
  go_cut [] from 11 (fun W => SW w blk off d (swp d a pivot) W)
  case first =>
    rcases Nat.eq_or_lt_of_le hap with rfl | hlt
    · go_region
      go_wp2_with fail
      go_meet
      case rel =>
        simp only [HG.out]
        exact sw_swap hblk (sw_refl HH.out) a a (by omega) (by omega) _
    · go_region
      go_wp2_with fail
      go_meet
      case rel =>
        simp only [HG.out]
        exact sw_swap hblk (sw_refl HH.out) a pivot (by omega) (by omega) _
  case rest =>
    have HC := hide hcut
    clear hcut hcw hfw HG
    go_wp2_with fail
    go_loopw [9, 10] (fun vi vj wr => ∃ (i j : Nat) (dk : Array Int), vi = .int .i64 i ∧ vj = .int .i64 j ∧ a < i ∧ i ≤ j + 1 ∧ j < b ∧ SW w blk off d dk wr ∧ partEqLoop ltInt a i j dk = partEqLoop ltInt a (a + 1) (b - 1) (swp d a pivot)) (fun vi vj _ => (intOf vj + 1 - intOf vi).toNat)
    case atStart => exact ⟨a + 1, b - 1, swp d a pivot, by go_num, by go_num, by omega, by omega, by omega, HC.out, rfl⟩
    case round =>
      obtain ⟨i, j, dk, rfl, rfl, hai, hij, hjb, hsk, hP⟩ := hrel
      have HSK := hide hsk
      have HP := hide hP
      clear hsk hP HC
      go_upto_block 2 with fail
      go_cut [9] from 29 to 82 (fun vi W => ∃ i2 : Nat, vi = .int .i64 i2 ∧ i2 = scanUp (fun x => !ltInt dk[a]! x) dk j i ∧ i ≤ i2 ∧ i2 ≤ j + 1 ∧ SW w blk off d dk W ∧ (i2 ≤ j → ltInt dk[a]! dk[i2]! = true))
      case first =>
        go_wp2_with fail
        go_loopw [9] (fun vi wr => ∃ p : Nat, vi = .int .i64 p ∧ i ≤ p ∧ p ≤ j + 1 ∧ SW w blk off d dk wr ∧ scanUp (fun x => !ltInt dk[a]! x) dk j p = scanUp (fun x => !ltInt dk[a]! x) dk j i) (fun vi _ => j + 1 - (intOf vi).toNat)
        case atStart => exact ⟨i, rfl, Nat.le_refl _, hij, HSK.out, rfl⟩
        case round =>
          obtain ⟨p, rfl, hip, hpj, hsp, hsc⟩ := hrel
          have HSP := hide hsp
          have HSC := hide hsc
          clear hsp hsc HSK
          have hho := sw_holds HH.out hblk HSP.out
          have hsize : dk.size = d.size := HSP.out.1
          obtain ⟨G, hG⟩ : ∃ G : Nat → Int, ∀ t, G t = dk[t]! := ⟨fun t => dk[t]!, fun _ => rfl⟩
          have hcw : ∀ t, t < d.size → wr.cell? ⟨blk, off + t, none⟩ = some (.int .u32 (G t)) := fun t ht => by rw [hG]; exact (hho.1 t (by omega)).1
          have hfw : ∀ t, t < d.size → wr.frozen? ⟨blk, off + t, none⟩ = false := fun t ht => (hho.1 t (by omega)).2
          have HG := hide hG
          clear hG hho hsize
          by_cases hle : p ≤ j
          · have hle' : (p : Int) ≤ (j : Int) := by omega
            go_wp2_with fail
            go_big_quiet ((go_at_call 70; refine Calls.quiet_of_same (less_u _ _ _)))
            go_wp2_with fail
            · have hl : ltInt (G a) (G p) = false := by
                have : (!ltInt (G a) (G p)) = true := by assumption
                simpa using this
              exact ⟨⟨p + 1, by go_num, by omega, by omega, sw_drew HSP.out _, by rw [← HSC.out, up_go _ _ _ _ hle (by simp only [← HG.out]; simpa using hl)]⟩, by simp [intOf] <;> omega⟩
            · have hl : ltInt (G a) (G p) = true := by
                have : (!ltInt (G a) (G p)) = false := by assumption
                simpa using this
              go_meet
              case rel => exact ⟨p, rfl, by rw [← HSC.out, up_stop _ _ _ _ (.inr (by simp only [← HG.out]; simpa using hl))], hip, hpj, sw_drew HSP.out _, fun _ => by simp only [← HG.out]; exact hl⟩
          · have hle' : decide ((p : Int) ≤ (j : Int)) = false := decide_eq_false (by omega)
            go_wp2_with fail
            go_big_quiet (fail)
            go_wp2_with fail
            go_meet
            case rel => exact ⟨p, rfl, by rw [← HSC.out, up_stop _ _ _ _ (.inl hle)], hip, hpj, sw_drew HSP.out _, fun h => absurd h hle⟩
      case rest =>
        obtain ⟨i2, rfl, hi2, hii, hi2j, hs2, hf2⟩ := hcut
        have HF2 := hide hf2
        have HI2 := hide hi2
        have HS2 := hide hs2
        clear hi2 hs2 HSK hf2
        go_upto_block 4 with fail
        go_cut [10] from 29 to 82 (fun vj W => ∃ j2 : Nat, vj = .int .i64 j2 ∧ j2 = scanDown (fun x => ltInt dk[a]! x) dk i2 j ∧ j2 ≤ j ∧ i2 ≤ j2 + 1 ∧ SW w blk off d dk W ∧ (i2 ≤ j2 → ltInt dk[a]! dk[j2]! = false))
        case first =>
          go_wp2_with fail
          go_loopw [10] (fun vj wr => ∃ q : Nat, vj = .int .i64 q ∧ q ≤ j ∧ i2 ≤ q + 1 ∧ SW w blk off d dk wr ∧ scanDown (fun x => ltInt dk[a]! x) dk i2 q = scanDown (fun x => ltInt dk[a]! x) dk i2 j) (fun vj _ => (intOf vj).toNat)
          case atStart => exact ⟨j, rfl, Nat.le_refl _, hi2j, HS2.out, rfl⟩
          case round =>
            obtain ⟨q, rfl, hqj, hiq, hsp, hsc⟩ := hrel
            have HSP := hide hsp
            have HSC := hide hsc
            clear hsp hsc HS2
            have hho := sw_holds HH.out hblk HSP.out
            have hsize : dk.size = d.size := HSP.out.1
            obtain ⟨G, hG⟩ : ∃ G : Nat → Int, ∀ t, G t = dk[t]! := ⟨fun t => dk[t]!, fun _ => rfl⟩
            have hcw : ∀ t, t < d.size → wr.cell? ⟨blk, off + t, none⟩ = some (.int .u32 (G t)) := fun t ht => by rw [hG]; exact (hho.1 t (by omega)).1
            have hfw : ∀ t, t < d.size → wr.frozen? ⟨blk, off + t, none⟩ = false := fun t ht => (hho.1 t (by omega)).2
            have HG := hide hG
            clear hG hho hsize
            by_cases hle : i2 ≤ q
            · have hle' : (i2 : Int) ≤ (q : Int) := by omega
              go_wp2_with fail
              go_big_quiet ((go_at_call 70; refine Calls.quiet_of_same (less_u _ _ _)))
              go_wp2_with fail
              · have hl : ltInt (G a) (G q) = true := by assumption
                exact ⟨⟨q - 1, by go_num, by omega, by omega, sw_drew HSP.out _, by rw [← HSC.out, down_go _ _ _ _ hle (by omega) (by simp only [← HG.out]; exact hl)]⟩, by simp [intOf] <;> omega⟩
              · have hl : ltInt (G a) (G q) = false := by assumption
                go_meet
                case rel => exact ⟨q, rfl, by rw [← HSC.out, down_stop _ _ _ _ (.inr (by simp only [← HG.out]; exact hl))], hqj, hiq, sw_drew HSP.out _, fun _ => by simp only [← HG.out]; exact hl⟩
            · have hle' : decide ((i2 : Int) ≤ (q : Int)) = false := decide_eq_false (by omega)
              go_wp2_with fail
              go_big_quiet (fail)
              go_wp2_with fail
              go_meet
              case rel => exact ⟨q, rfl, by rw [← HSC.out, down_stop _ _ _ _ (.inl hle)], hqj, hiq, sw_drew HSP.out _, fun h => absurd h hle⟩
        case rest =>
          obtain ⟨j2, rfl, hj2, hjj, hi2j2, hs3, hf3⟩ := hcut
          have HF3 := hide hf3
          have HJ2 := hide hj2
          have HS3 := hide hs3
          clear hj2 hs3 HS2 hf3
          by_cases hgt : i2 > j2
          · have hgt' : (j2 : Int) < (i2 : Int) := by omega
            go_wp2_with fail
            go_ret
            have e := pe_stop a i j dk i2 j2 HI2.out HJ2.out hgt
            refine ⟨?_, ?_⟩
            · unfold partitionEqual; rw [← HP.out, e]; rfl
            · unfold partitionEqual; rw [← HP.out, e]; exact HS3.out
          · have hgt' : ¬ (j2 : Int) < (i2 : Int) := by omega
            have e := hide (pe_go a i j dk i2 j2 HI2.out HJ2.out hgt hii hjj (by omega))
            have hho := sw_holds HH.out hblk HS3.out
            have hsize : dk.size = d.size := HS3.out.1
            obtain ⟨G, hG⟩ : ∃ G : Nat → Int, ∀ t, G t = dk[t]! := ⟨fun t => dk[t]!, fun _ => rfl⟩
            have hcw : ∀ t, t < d.size → wc.cell? ⟨blk, off + t, none⟩ = some (.int .u32 (G t)) := fun t ht => by rw [hG]; exact (hho.1 t (by omega)).1
            have hfw : ∀ t, t < d.size → wc.frozen? ⟨blk, off + t, none⟩ = false := fun t ht => (hho.1 t (by omega)).2
            have HG := hide hG
            clear hG hho hsize
            have hlt : i2 < j2 := by
              rcases Nat.eq_or_lt_of_le (Nat.le_of_not_gt hgt) with heq | hlt
              · have h1 := HF2.out (by omega)
                have h2 := HF3.out (by omega)
                rw [← heq, h1] at h2
                cases h2
              · exact hlt
            go_wp2_with fail
            go_region
            go_wp2_with fail
            refine ⟨⟨i2 + 1, j2 - 1, swp dk i2 j2, by go_num, by go_num, by omega, by omega, by omega, ?_, by rw [← HP.out, e.out]⟩, by simp [intOf] <;> omega⟩
            simp only [HG.out]
            exact sw_swap hblk HS3.out i2 j2 (by omega) (by omega) _
end Go.Proofs.YtkpoanjcalolkaaDoor
