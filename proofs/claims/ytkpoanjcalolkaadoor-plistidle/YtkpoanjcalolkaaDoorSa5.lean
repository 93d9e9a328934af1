import Derived.Test.YtkpoanjcalolkaaDoorSa4
/- The library's sort at uint32: partitionOrdered. -/
namespace Go.Proofs.YtkpoanjcalolkaaDoor
open Go.RowKit Go.Sort

theorem pl_stop (a i j : Nat) (d : Array Int) (i2 j2 : Nat) (h1 : i2 = scanUp (fun x => ltInt x d[a]!) d j i) (h2 : j2 = scanDown (fun x => !ltInt x d[a]!) d i2 j) (h : i2 > j2) : partLoop ltInt a i j d = (j2, d) := by
  subst h2; subst h1
  rw [partLoop]
  simp only [if_pos h]
theorem pl_go (a i j : Nat) (d : Array Int) (i2 j2 : Nat) (h1 : i2 = scanUp (fun x => ltInt x d[a]!) d j i) (h2 : j2 = scanDown (fun x => !ltInt x d[a]!) d i2 j) (h : ¬ i2 > j2) (hi : i ≤ i2) (hj : j2 ≤ j) (h0 : 1 ≤ i2) :
    partLoop ltInt a i j d = partLoop ltInt a (i2 + 1) (j2 - 1) (swp d i2 j2) := by
  subst h2; subst h1
  rw [partLoop]
  simp only [if_neg h]
  rw [dif_pos (by omega)]
theorem pt_stop (d : Array Int) (a b pivot : Nat) (D : Array Int) (hD : D = swp d a pivot) (i2 j2 : Nat) (h1 : i2 = scanUp (fun x => ltInt x D[a]!) D (b - 1) (a + 1)) (h2 : j2 = scanDown (fun x => !ltInt x D[a]!) D i2 (b - 1)) (h : i2 > j2) :
    partition ltInt d a b pivot = (j2, true, swp D j2 a) := by
  subst h2; subst h1; subst hD
  unfold partition
  simp only [if_pos h]
theorem pt_go (d : Array Int) (a b pivot : Nat) (D : Array Int) (hD : D = swp d a pivot) (i2 j2 : Nat) (h1 : i2 = scanUp (fun x => ltInt x D[a]!) D (b - 1) (a + 1)) (h2 : j2 = scanDown (fun x => !ltInt x D[a]!) D i2 (b - 1)) (h : ¬ i2 > j2) :
    partition ltInt d a b pivot = ((partLoop ltInt a (i2 + 1) (j2 - 1) (swp D i2 j2)).1, false, swp (partLoop ltInt a (i2 + 1) (j2 - 1) (swp D i2 j2)).2 (partLoop ltInt a (i2 + 1) (j2 - 1) (swp D i2 j2)).1 a) := by
  subst h2; subst h1; subst hD
  unfold partition
  simp only [if_neg h]

set_option maxHeartbeats 8000000 in
set_option maxRecDepth 100000 in
theorem part_u (blk off cap a b pivot : Nat) (d : Array Int) (w : World) (hH : Holds (Value.int .u32) w blk off d) (hblk : blk < w.heap.size) (hap : a ≤ pivot) (hpb : pivot < b) (hb : b ≤ d.size) (hsz : d.size ≤ 1000000) :
    Calls Tryd.prog 72 #[.slice (some ⟨blk, off, none⟩) d.size cap, .int .i64 a, .int .i64 b, .int .i64 pivot] w fun e w' => e = .returned (.tuple #[.int .i64 (partition ltInt d a b pivot).1, .bool (partition ltInt d a b pivot).2.1]) ∧ SW w blk off d (partition ltInt d a b pivot).2.2 w' := by
  have HH := hide hH
  have hfw : ∀ t, t < d.size → w.frozen? ⟨blk, off + t, none⟩ = false := fun t ht => (hH t ht).2
  obtain ⟨G, hG⟩ : ∃ G : Nat → Int, ∀ t, G t = d[t]! := ⟨fun t => d[t]!, fun _ => rfl⟩
  have hcw : ∀ t, t < d.size → w.cell? ⟨blk, off + t, none⟩ = some (.int .u32 (G t)) := fun t ht => by rw [hG]; exact (hH t ht).1
  have HG := hide hG
  clear hH hG
  go_enter Tryd.func72, Tryd.ntmps72
  go_wp2_with fail
  go_cut [] from 12 (fun W => SW w blk off d (swp d a pivot) W)
  case first =>
    rcases Nat.eq_or_lt_of_le hap with rfl | hlt
    · go_region
      go_wp2_with fail
      go_meet
      case rel =>
        simp only [HG.out]
        exact sw_swap hblk (sw_refl HH.out) a a (by omega) (by omega) _
    · go_region
      go_wp2_with fail
      go_meet
      case rel =>
        simp only [HG.out]
        exact sw_swap hblk (sw_refl HH.out) a pivot (by omega) (by omega) _
  case rest =>
    have HC := hide hcut
    obtain ⟨D, hD⟩ : ∃ D, D = swp d a pivot := ⟨_, rfl⟩
    rw [← hD] at HC
    have HD := hide hD
    clear hcut hcw hfw HG hD
    go_upto_block 0 with fail
    go_cut [10] from 12 (fun vi W => ∃ i2 : Nat, vi = .int .i64 i2 ∧ i2 = scanUp (fun x => ltInt x D[a]!) D (b - 1) (a + 1) ∧ a + 1 ≤ i2 ∧ i2 ≤ b - 1 + 1 ∧ SW w blk off d D W ∧ (i2 ≤ b - 1 → ltInt D[i2]! D[a]! = false))
    case first =>
      go_wp2_with fail
      go_loopw [10] (fun vi wr => ∃ p : Nat, vi = .int .i64 p ∧ a + 1 ≤ p ∧ p ≤ b - 1 + 1 ∧ SW w blk off d D wr ∧ scanUp (fun x => ltInt x D[a]!) D (b - 1) p = scanUp (fun x => ltInt x D[a]!) D (b - 1) (a + 1)) (fun vi _ => b - 1 + 1 - (intOf vi).toNat)
      case atStart => exact ⟨a + 1, by go_num, Nat.le_refl _, by omega, HC.out, rfl⟩
      case round =>
        obtain ⟨p, rfl, hip, hpj, hsp, hsc⟩ := hrel
        have HSP := hide hsp
        have HSC := hide hsc
        clear hsp hsc HC
        have hho := sw_holds HH.out hblk HSP.out
        have hsize : D.size = d.size := HSP.out.1
        obtain ⟨G, hG⟩ : ∃ G : Nat → Int, ∀ t, G t = D[t]! := ⟨fun t => D[t]!, fun _ => rfl⟩
        have hcw : ∀ t, t < d.size → wr.cell? ⟨blk, off + t, none⟩ = some (.int .u32 (G t)) := fun t ht => by rw [hG]; exact (hho.1 t (by omega)).1
        have hfw : ∀ t, t < d.size → wr.frozen? ⟨blk, off + t, none⟩ = false := fun t ht => (hho.1 t (by omega)).2
        have HG := hide hG
        clear hG hho hsize
        by_cases hle : p ≤ b - 1
        · have hle' : (p : Int) ≤ (b : Int) - 1 := by omega
          go_wp2_with fail
          go_big_quiet ((go_at_call 70; refine Calls.quiet_of_same (less_u _ _ _)))
          go_wp2_with fail
          · have hl : ltInt (G p) (G a) = true := by assumption
            exact ⟨⟨p + 1, by go_num, by omega, by omega, sw_drew HSP.out _, by rw [← HSC.out, up_go _ _ _ _ hle (by simp only [← HG.out]; exact hl)]⟩, by simp [intOf] <;> omega⟩
          · have hl : ltInt (G p) (G a) = false := by assumption
            go_meet
            case rel => exact ⟨p, rfl, by rw [← HSC.out, up_stop _ _ _ _ (.inr (by simp only [← HG.out]; exact hl))], hip, hpj, sw_drew HSP.out _, fun _ => by simp only [← HG.out]; exact hl⟩
        · have hle' : decide ((p : Int) ≤ (b : Int) - 1) = false := decide_eq_false (by omega)
          go_wp2_with fail
          go_big_quiet (fail)
          go_wp2_with fail
          go_meet
          case rel => exact ⟨p, rfl, by rw [← HSC.out, up_stop _ _ _ _ (.inl hle)], hip, hpj, sw_drew HSP.out _, fun h => absurd h hle⟩
    case rest =>
      obtain ⟨ui, rfl, hi2, huii, huij, hs2, hf2⟩ := hcut
      have HIu := hide hi2
      have HSu := hide hs2
      have HFu := hide hf2
      clear hi2 hs2 hf2 HC
      go_upto_block 2 with fail
      go_cut [11] from 12 (fun vj W => ∃ j2 : Nat, vj = .int .i64 j2 ∧ j2 = scanDown (fun x => !ltInt x D[a]!) D ui (b - 1) ∧ j2 ≤ b - 1 ∧ ui ≤ j2 + 1 ∧ SW w blk off d D W ∧ (ui ≤ j2 → ltInt D[j2]! D[a]! = true))
      case first =>
        go_wp2_with fail
        go_loopw [11] (fun vj wr => ∃ q : Nat, vj = .int .i64 q ∧ q ≤ b - 1 ∧ ui ≤ q + 1 ∧ SW w blk off d D wr ∧ scanDown (fun x => !ltInt x D[a]!) D ui q = scanDown (fun x => !ltInt x D[a]!) D ui (b - 1)) (fun vj _ => (intOf vj).toNat)
        case atStart => exact ⟨b - 1, by go_num, Nat.le_refl _, by omega, HSu.out, rfl⟩
        case round =>
          obtain ⟨q, rfl, hqj, hiq, hsp, hsc⟩ := hrel
          have HSP := hide hsp
          have HSC := hide hsc
          clear hsp hsc HSu
          have hho := sw_holds HH.out hblk HSP.out
          have hsize : D.size = d.size := HSP.out.1
          obtain ⟨G, hG⟩ : ∃ G : Nat → Int, ∀ t, G t = D[t]! := ⟨fun t => D[t]!, fun _ => rfl⟩
          have hcw : ∀ t, t < d.size → wr.cell? ⟨blk, off + t, none⟩ = some (.int .u32 (G t)) := fun t ht => by rw [hG]; exact (hho.1 t (by omega)).1
          have hfw : ∀ t, t < d.size → wr.frozen? ⟨blk, off + t, none⟩ = false := fun t ht => (hho.1 t (by omega)).2
          have HG := hide hG
          clear hG hho hsize
          by_cases hle : ui ≤ q
          · have hle' : (ui : Int) ≤ (q : Int) := by omega
            go_wp2_with fail
            go_big_quiet ((go_at_call 70; refine Calls.quiet_of_same (less_u _ _ _)))
            go_wp2_with fail
            · have hl : ltInt (G q) (G a) = false := by
                have : (!ltInt (G q) (G a)) = true := by assumption
                simpa using this
              exact ⟨⟨q - 1, by go_num, by omega, by omega, sw_drew HSP.out _, by rw [← HSC.out, down_go _ _ _ _ hle (by omega) (by simp only [← HG.out]; simpa using hl)]⟩, by simp [intOf] <;> omega⟩
            · have hl : ltInt (G q) (G a) = true := by
                have : (!ltInt (G q) (G a)) = false := by assumption
                simpa using this
              go_meet
              case rel => exact ⟨q, rfl, by rw [← HSC.out, down_stop _ _ _ _ (.inr (by simp only [← HG.out]; simpa using hl))], hqj, hiq, sw_drew HSP.out _, fun _ => by simp only [← HG.out]; exact hl⟩
          · have hle' : decide ((ui : Int) ≤ (q : Int)) = false := decide_eq_false (by omega)
            go_wp2_with fail
            go_big_quiet (fail)
            go_wp2_with fail
            go_meet
            case rel => exact ⟨q, rfl, by rw [← HSC.out, down_stop _ _ _ _ (.inl hle)], hqj, hiq, sw_drew HSP.out _, fun h => absurd h hle⟩
      case rest =>
        obtain ⟨uj, rfl, hj2, hujj, huji, hs3, hf3⟩ := hcut
        have HJu := hide hj2
        have HTu := hide hs3
        have HEu := hide hf3
        clear hj2 hs3 hf3 HSu
        by_cases hgt : ui > uj
        · have hgt' : (uj : Int) < (ui : Int) := by omega
          have e := hide (pt_stop d a b pivot D HD.out ui uj HIu.out HJu.out hgt)
          have hho := sw_holds HH.out hblk HTu.out
          have hsize : D.size = d.size := HTu.out.1
          obtain ⟨G, hG⟩ : ∃ G : Nat → Int, ∀ t, G t = D[t]! := ⟨fun t => D[t]!, fun _ => rfl⟩
          have hcw : ∀ t, t < d.size → wc.cell? ⟨blk, off + t, none⟩ = some (.int .u32 (G t)) := fun t ht => by rw [hG]; exact (hho.1 t (by omega)).1
          have hfw : ∀ t, t < d.size → wc.frozen? ⟨blk, off + t, none⟩ = false := fun t ht => (hho.1 t (by omega)).2
          have HG := hide hG
          clear hG hho hsize
          rcases Nat.eq_or_lt_of_le (show a ≤ uj by omega) with heq | hlt
          · subst heq
            go_wp2_with fail
            go_region
            go_wp2_with fail
            exact bodyPost_ret (v := .tuple #[.int .i64 a, .bool true]) (by simp [results, Tryd.results72, go_sem]) rfl ⟨by rw [e.out], by rw [e.out]; simp only [HG.out]; exact sw_swap hblk HTu.out a a (by omega) (by omega) _⟩
          · go_wp2_with fail
            go_region
            go_wp2_with fail
            exact bodyPost_ret (v := .tuple #[.int .i64 uj, .bool true]) (by simp [results, Tryd.results72, go_sem]) rfl ⟨by rw [e.out], by rw [e.out]; simp only [HG.out]; exact sw_swap hblk HTu.out uj a (by omega) (by omega) _⟩
        · have hgt' : ¬ (uj : Int) < (ui : Int) := by omega
          have E := hide (pt_go d a b pivot D HD.out ui uj HIu.out HJu.out hgt)
          have hlt : ui < uj := by
            rcases Nat.eq_or_lt_of_le (Nat.le_of_not_gt hgt) with heq | hlt
            · have h1 := HFu.out (by omega)
              have h2 := HEu.out (by omega)
              rw [← heq, h1] at h2
              cases h2
            · exact hlt
          have hho := sw_holds HH.out hblk HTu.out
          have hsize : D.size = d.size := HTu.out.1
          obtain ⟨G, hG⟩ : ∃ G : Nat → Int, ∀ t, G t = D[t]! := ⟨fun t => D[t]!, fun _ => rfl⟩
          have hcw : ∀ t, t < d.size → wc.cell? ⟨blk, off + t, none⟩ = some (.int .u32 (G t)) := fun t ht => by rw [hG]; exact (hho.1 t (by omega)).1
          have hfw : ∀ t, t < d.size → wc.frozen? ⟨blk, off + t, none⟩ = false := fun t ht => (hho.1 t (by omega)).2
          have HG := hide hG
          clear hG hho hsize
          go_wp2_with fail
          go_region
          go_wp2_with fail
          go_loopw [10, 11] (fun vi vj wr => ∃ (i j : Nat) (dk : Array Int), vi = .int .i64 i ∧ vj = .int .i64 j ∧ a < i ∧ i ≤ j + 1 ∧ j < b ∧ SW w blk off d dk wr ∧ partLoop ltInt a i j dk = partLoop ltInt a (ui + 1) (uj - 1) (swp D ui uj)) (fun vi vj _ => (intOf vj + 1 - intOf vi).toNat)
          case atStart =>
            refine ⟨ui + 1, uj - 1, swp D ui uj, by go_num, by go_num, by omega, by omega, by omega, ?_, rfl⟩
            simp only [HG.out]
            exact sw_swap hblk HTu.out ui uj (by omega) (by omega) _
          case round =>
            obtain ⟨i, j, dk, rfl, rfl, hai, hij, hjb, hsk, hP⟩ := hrel
            have HSK := hide hsk
            have HP := hide hP
            clear hsk hP HTu hcw hfw HG
            go_upto_block 6 with fail
            go_cut [10] from 99 to 152 (fun vi W => ∃ i2 : Nat, vi = .int .i64 i2 ∧ i2 = scanUp (fun x => ltInt x dk[a]!) dk (j) (i) ∧ i ≤ i2 ∧ i2 ≤ j + 1 ∧ SW w blk off d dk W ∧ (i2 ≤ j → ltInt dk[i2]! dk[a]! = false))
            case first =>
              go_wp2_with fail
              go_loopw [10] (fun vi wr => ∃ p : Nat, vi = .int .i64 p ∧ i ≤ p ∧ p ≤ j + 1 ∧ SW w blk off d dk wr ∧ scanUp (fun x => ltInt x dk[a]!) dk (j) p = scanUp (fun x => ltInt x dk[a]!) dk (j) (i)) (fun vi _ => j + 1 - (intOf vi).toNat)
              case atStart => exact ⟨i, by go_num, Nat.le_refl _, by omega, HSK.out, rfl⟩
              case round =>
                obtain ⟨p, rfl, hip, hpj, hsp, hsc⟩ := hrel
                have HSP := hide hsp
                have HSC := hide hsc
                clear hsp hsc HSK
                have hho := sw_holds HH.out hblk HSP.out
                have hsize : dk.size = d.size := HSP.out.1
                obtain ⟨G, hG⟩ : ∃ G : Nat → Int, ∀ t, G t = dk[t]! := ⟨fun t => dk[t]!, fun _ => rfl⟩
                have hcw : ∀ t, t < d.size → wr.cell? ⟨blk, off + t, none⟩ = some (.int .u32 (G t)) := fun t ht => by rw [hG]; exact (hho.1 t (by omega)).1
                have hfw : ∀ t, t < d.size → wr.frozen? ⟨blk, off + t, none⟩ = false := fun t ht => (hho.1 t (by omega)).2
                have HG := hide hG
                clear hG hho hsize
                by_cases hle : p ≤ j
                · have hle' : (p : Int) ≤ (j : Int) := by omega
                  go_wp2_with fail
                  go_big_quiet ((go_at_call 70; refine Calls.quiet_of_same (less_u _ _ _)))
                  go_wp2_with fail
                  · have hl : ltInt (G p) (G a) = true := by assumption
                    exact ⟨⟨p + 1, by go_num, by omega, by omega, sw_drew HSP.out _, by rw [← HSC.out, up_go _ _ _ _ hle (by simp only [← HG.out]; exact hl)]⟩, by simp [intOf] <;> omega⟩
                  · have hl : ltInt (G p) (G a) = false := by assumption
                    go_meet
                    case rel => exact ⟨p, rfl, by rw [← HSC.out, up_stop _ _ _ _ (.inr (by simp only [← HG.out]; exact hl))], hip, hpj, sw_drew HSP.out _, fun _ => by simp only [← HG.out]; exact hl⟩
                · have hle' : decide ((p : Int) ≤ (j : Int)) = false := decide_eq_false (by omega)
                  go_wp2_with fail
                  go_big_quiet (fail)
                  go_wp2_with fail
                  go_meet
                  case rel => exact ⟨p, rfl, by rw [← HSC.out, up_stop _ _ _ _ (.inl hle)], hip, hpj, sw_drew HSP.out _, fun h => absurd h hle⟩
            case rest =>
              obtain ⟨vi, rfl, hi2, hvii, hvij, hs2, hf2⟩ := hcut
              have HIv := hide hi2
              have HSv := hide hs2
              have HFv := hide hf2
              clear hi2 hs2 hf2 HSK
              go_upto_block 8 with fail
              go_cut [11] from 99 to 152 (fun vj W => ∃ j2 : Nat, vj = .int .i64 j2 ∧ j2 = scanDown (fun x => !ltInt x dk[a]!) dk vi (j) ∧ j2 ≤ j ∧ vi ≤ j2 + 1 ∧ SW w blk off d dk W ∧ (vi ≤ j2 → ltInt dk[j2]! dk[a]! = true))
              case first =>
                go_wp2_with fail
                go_loopw [11] (fun vj wr => ∃ q : Nat, vj = .int .i64 q ∧ q ≤ j ∧ vi ≤ q + 1 ∧ SW w blk off d dk wr ∧ scanDown (fun x => !ltInt x dk[a]!) dk vi q = scanDown (fun x => !ltInt x dk[a]!) dk vi (j)) (fun vj _ => (intOf vj).toNat)
                case atStart => exact ⟨j, by go_num, Nat.le_refl _, by omega, HSv.out, rfl⟩
                case round =>
                  obtain ⟨q, rfl, hqj, hiq, hsp, hsc⟩ := hrel
                  have HSP := hide hsp
                  have HSC := hide hsc
                  clear hsp hsc HSv
                  have hho := sw_holds HH.out hblk HSP.out
                  have hsize : dk.size = d.size := HSP.out.1
                  obtain ⟨G, hG⟩ : ∃ G : Nat → Int, ∀ t, G t = dk[t]! := ⟨fun t => dk[t]!, fun _ => rfl⟩
                  have hcw : ∀ t, t < d.size → wr.cell? ⟨blk, off + t, none⟩ = some (.int .u32 (G t)) := fun t ht => by rw [hG]; exact (hho.1 t (by omega)).1
                  have hfw : ∀ t, t < d.size → wr.frozen? ⟨blk, off + t, none⟩ = false := fun t ht => (hho.1 t (by omega)).2
                  have HG := hide hG
                  clear hG hho hsize
                  by_cases hle : vi ≤ q
                  · have hle' : (vi : Int) ≤ (q : Int) := by omega
                    go_wp2_with fail
                    go_big_quiet ((go_at_call 70; refine Calls.quiet_of_same (less_u _ _ _)))
                    go_wp2_with fail
                    · have hl : ltInt (G q) (G a) = false := by
                        have : (!ltInt (G q) (G a)) = true := by assumption
                        simpa using this
                      exact ⟨⟨q - 1, by go_num, by omega, by omega, sw_drew HSP.out _, by rw [← HSC.out, down_go _ _ _ _ hle (by omega) (by simp only [← HG.out]; simpa using hl)]⟩, by simp [intOf] <;> omega⟩
                    · have hl : ltInt (G q) (G a) = true := by
                        have : (!ltInt (G q) (G a)) = false := by assumption
                        simpa using this
                      go_meet
                      case rel => exact ⟨q, rfl, by rw [← HSC.out, down_stop _ _ _ _ (.inr (by simp only [← HG.out]; simpa using hl))], hqj, hiq, sw_drew HSP.out _, fun _ => by simp only [← HG.out]; exact hl⟩
                  · have hle' : decide ((vi : Int) ≤ (q : Int)) = false := decide_eq_false (by omega)
                    go_wp2_with fail
                    go_big_quiet (fail)
                    go_wp2_with fail
                    go_meet
                    case rel => exact ⟨q, rfl, by rw [← HSC.out, down_stop _ _ _ _ (.inl hle)], hqj, hiq, sw_drew HSP.out _, fun h => absurd h hle⟩
              case rest =>
                obtain ⟨vj, rfl, hj2, hvjj, hvji, hs3, hf3⟩ := hcut
                have HJv := hide hj2
                have HTv := hide hs3
                have HEv := hide hf3
                clear hj2 hs3 hf3 HSv
                by_cases hgt : vi > vj
                · have hgt' : (vj : Int) < (vi : Int) := by omega
                  have e : Hid (partition ltInt d a b pivot = (vj, false, swp dk vj a)) := by
                    show _ = _
                    rw [E.out, ← HP.out, pl_stop a i j dk vi vj HIv.out HJv.out hgt]
                  have hho := sw_holds HH.out hblk HTv.out
                  have hsize : dk.size = d.size := HTv.out.1
                  obtain ⟨G, hG⟩ : ∃ G : Nat → Int, ∀ t, G t = dk[t]! := ⟨fun t => dk[t]!, fun _ => rfl⟩
                  have hcw : ∀ t, t < d.size → wc.cell? ⟨blk, off + t, none⟩ = some (.int .u32 (G t)) := fun t ht => by rw [hG]; exact (hho.1 t (by omega)).1
                  have hfw : ∀ t, t < d.size → wc.frozen? ⟨blk, off + t, none⟩ = false := fun t ht => (hho.1 t (by omega)).2
                  have HG := hide hG
                  clear hG hho hsize
                  rcases Nat.eq_or_lt_of_le (show a ≤ vj by omega) with heq | hlt
                  · subst heq
                    go_wp2_with fail
                    go_region
                    go_wp2_with fail
                    exact bodyPost_ret (v := .tuple #[.int .i64 a, .bool false]) (by simp [results, Tryd.results72, go_sem]) rfl ⟨by rw [e.out], by rw [e.out]; simp only [HG.out]; exact sw_swap hblk HTv.out a a (by omega) (by omega) _⟩
                  · go_wp2_with fail
                    go_region
                    go_wp2_with fail
                    exact bodyPost_ret (v := .tuple #[.int .i64 vj, .bool false]) (by simp [results, Tryd.results72, go_sem]) rfl ⟨by rw [e.out], by rw [e.out]; simp only [HG.out]; exact sw_swap hblk HTv.out vj a (by omega) (by omega) _⟩
                · have hgt' : ¬ (vj : Int) < (vi : Int) := by omega
                  have e := hide (pl_go a i j dk vi vj HIv.out HJv.out hgt hvii hvjj (by omega))
                  have hlt : vi < vj := by
                    rcases Nat.eq_or_lt_of_le (Nat.le_of_not_gt hgt) with heq | hlt
                    · have h1 := HFv.out (by omega)
                      have h2 := HEv.out (by omega)
                      rw [← heq, h1] at h2
                      cases h2
                    · exact hlt
                  have hho := sw_holds HH.out hblk HTv.out
                  have hsize : dk.size = d.size := HTv.out.1
                  obtain ⟨G, hG⟩ : ∃ G : Nat → Int, ∀ t, G t = dk[t]! := ⟨fun t => dk[t]!, fun _ => rfl⟩
                  have hcw : ∀ t, t < d.size → wc.cell? ⟨blk, off + t, none⟩ = some (.int .u32 (G t)) := fun t ht => by rw [hG]; exact (hho.1 t (by omega)).1
                  have hfw : ∀ t, t < d.size → wc.frozen? ⟨blk, off + t, none⟩ = false := fun t ht => (hho.1 t (by omega)).2
                  have HG := hide hG
                  clear hG hho hsize
                  go_wp2_with fail
                  go_region
                  go_wp2_with fail
                  refine ⟨⟨vi + 1, vj - 1, swp dk vi vj, by go_num, by go_num, by omega, by omega, by omega, ?_, by rw [← HP.out, e.out]⟩, by simp [intOf] <;> omega⟩
                  simp only [HG.out]
                  exact sw_swap hblk HTv.out vi vj (by omega) (by omega) _
end Go.Proofs.YtkpoanjcalolkaaDoor

/- The library's sort at uint32: partialInsertionSortOrdered. -/
namespace Go.Proofs.YtkpoanjcalolkaaDoor
open Go.RowKit Go.Sort

theorem ss_go (d : Array Int) (b i : Nat) (h : i < b) (hp : ltInt d[i]! d[i - 1]! = false) : scanSorted ltInt d b i = scanSorted ltInt d b (i + 1) := by
  rw [scanSorted]; simp [h, hp]
theorem ss_stop (d : Array Int) (b i : Nat) (h : ¬ i < b ∨ ltInt d[i]! d[i - 1]! = true) : scanSorted ltInt d b i = i := by
  rw [scanSorted]
  rcases h with h | h <;> simp [h]
theorem sd_go (d : Array Int) (j : Nat) (h1 : 1 ≤ j) (h : ltInt d[j]! d[j - 1]! = true) : shiftDown ltInt j d = shiftDown ltInt (j - 1) (swp d j (j - 1)) := by
  obtain ⟨k, rfl⟩ : ∃ k, j = k + 1 := ⟨j - 1, by omega⟩
  simp only [Nat.add_sub_cancel] at h ⊢
  rw [shiftDown]; simp [h]
theorem sd_stop (d : Array Int) (j : Nat) (h : j = 0 ∨ ltInt d[j]! d[j - 1]! = false) : shiftDown ltInt j d = d := by
  cases j with
  | zero => rw [shiftDown]
  | succ k =>
    simp only [Nat.add_sub_cancel] at h
    rw [shiftDown]
    rcases h with h | h
    · cases h
    · simp [h]
theorem su_go (d : Array Int) (b j : Nat) (hj : j < b) (h : ltInt d[j]! d[j - 1]! = true) : shiftUp ltInt b j d = shiftUp ltInt b (j + 1) (swp d j (j - 1)) := by
  rw [shiftUp]; simp [hj, h]
theorem su_stop (d : Array Int) (b j : Nat) (h : ¬ j < b ∨ ltInt d[j]! d[j - 1]! = false) : shiftUp ltInt b j d = d := by
  rw [shiftUp]
  rcases h with h | h <;> simp [h]

theorem pi_yes (a b s i : Nat) (d : Array Int) (i2 : Nat) (h : i2 = scanSorted ltInt d b i) (he : i2 = b) : partialIns ltInt a b (s + 1) i d = (d, true) := by
  subst h
  rw [partialIns]; simp [he]
theorem pi_no (a b s i : Nat) (d : Array Int) (i2 : Nat) (h : i2 = scanSorted ltInt d b i) (he : ¬ i2 = b) (h50 : b - a < 50) : partialIns ltInt a b (s + 1) i d = (d, false) := by
  subst h
  rw [partialIns]; simp [he, h50]
theorem pi_on (a b s i : Nat) (d : Array Int) (i2 : Nat) (h : i2 = scanSorted ltInt d b i) (he : ¬ i2 = b) (h50 : ¬ b - a < 50) (D1 D2 D3 : Array Int) (e1 : D1 = swp d i2 (i2 - 1)) (e2 : D2 = if i2 - a ≥ 2 then shiftDown ltInt (i2 - 1) D1 else D1) (e3 : D3 = if b - i2 ≥ 2 then shiftUp ltInt b (i2 + 1) D2 else D2) :
    partialIns ltInt a b (s + 1) i d = partialIns ltInt a b s i2 D3 := by
  subst e3; subst e2; subst e1; subst h
  rw [partialIns]; simp only [if_neg he, if_neg h50]

set_option maxHeartbeats 8000000 in
set_option maxRecDepth 100000 in
theorem partialIns_u (blk off cap a b : Nat) (d : Array Int) (w : World) (hH : Holds (Value.int .u32) w blk off d) (hblk : blk < w.heap.size) (hab : a < b) (hb : b ≤ d.size) (hsz : d.size ≤ 1000000) :
    Calls Tryd.prog 69 #[.slice (some ⟨blk, off, none⟩) d.size cap, .int .i64 a, .int .i64 b] w fun e w' => e = .returned (.bool (partialInsertionSort ltInt d a b).2) ∧ SW w blk off d (partialInsertionSort ltInt d a b).1 w' := by
  have HH := hide hH
  clear hH
  go_enter Tryd.func69, Tryd.ntmps69
  go_wp2_with fail
  go_loopw [7, 8] (fun vi vj wr => ∃ (i s : Nat) (dk : Array Int), vi = .int .i64 i ∧ s ≤ 5 ∧ vj = .int .i64 (5 - (s : Int)) ∧ a < i ∧ i ≤ b ∧ SW w blk off d dk wr ∧ partialIns ltInt a b s i dk = partialIns ltInt a b 5 (a + 1) d) (fun _ vj _ => (5 - intOf vj).toNat)
  case atStart => exact ⟨a + 1, 5, d, by go_num, Nat.le_refl _, rfl, by omega, by omega, sw_refl HH.out, rfl⟩
  case round =>
    obtain ⟨i, s, dk, rfl, hs5, rfl, hai, hib, hsk, hP⟩ := hrel
    have HSK := hide hsk
    have HP := hide hP
    clear hsk hP
    cases s with
    | zero =>
      have hz : decide ((5 : Int) - ((0 : Nat) : Int) < 5) = false := by decide
      have hz' : ¬ ((5 : Int) - ((0 : Nat) : Int) < 5) := by decide
      go_wp2_with fail
      go_ret
      refine ⟨?_, ?_⟩
      · unfold partialInsertionSort; rw [← HP.out]; rfl
      · unfold partialInsertionSort; rw [← HP.out]; exact HSK.out
    | succ s =>
      have hz : (5 : Int) - ((s + 1 : Nat) : Int) < 5 := by omega
      go_upto_block 2 with fail
      go_cut [7] from 13 to 132 (fun vi W => ∃ i2 : Nat, vi = .int .i64 i2 ∧ i2 = scanSorted ltInt dk b i ∧ i ≤ i2 ∧ i2 ≤ b ∧ SW w blk off d dk W)
      case first =>
        go_wp2_with fail
        go_loopw [7] (fun vi wr => ∃ p : Nat, vi = .int .i64 p ∧ i ≤ p ∧ p ≤ b ∧ SW w blk off d dk wr ∧ scanSorted ltInt dk b p = scanSorted ltInt dk b i) (fun vi _ => b - (intOf vi).toNat)
        case atStart => exact ⟨i, rfl, Nat.le_refl _, hib, HSK.out, rfl⟩
        case round =>
          obtain ⟨p, rfl, hip, hpb, hsp, hsc⟩ := hrel
          have HSP := hide hsp
          have HSC := hide hsc
          clear hsp hsc HSK
          have hho := sw_holds HH.out hblk HSP.out
          have hsize : dk.size = d.size := HSP.out.1
          obtain ⟨G, hG⟩ : ∃ G : Nat → Int, ∀ t, G t = dk[t]! := ⟨fun t => dk[t]!, fun _ => rfl⟩
          have hcw : ∀ t, t < d.size → wr.cell? ⟨blk, off + t, none⟩ = some (.int .u32 (G t)) := fun t ht => by rw [hG]; exact (hho.1 t (by omega)).1
          have hfw : ∀ t, t < d.size → wr.frozen? ⟨blk, off + t, none⟩ = false := fun t ht => (hho.1 t (by omega)).2
          have HG := hide hG
          clear hG hho hsize
          by_cases hle : p < b
          · have hle' : (p : Int) < (b : Int) := by omega
            go_wp2_with fail
            go_big_quiet ((go_at_call 70; refine Calls.quiet_of_same (less_u _ _ _)))
            go_wp2_with fail
            · have hl : ltInt (G p) (G (p - 1)) = false := by
                have : (!ltInt (G p) (G (p - 1))) = true := by assumption
                simpa using this
              exact ⟨⟨p + 1, by go_num, by omega, by omega, sw_drew HSP.out _, by rw [← HSC.out, ss_go _ _ _ hle (by simp only [← HG.out]; exact hl)]⟩, by simp [intOf] <;> omega⟩
            · have hl : ltInt (G p) (G (p - 1)) = true := by
                have : (!ltInt (G p) (G (p - 1))) = false := by assumption
                simpa using this
              go_meet
              case rel => exact ⟨p, rfl, by rw [← HSC.out, ss_stop _ _ _ (.inr (by simp only [← HG.out]; exact hl))], hip, hpb, sw_drew HSP.out _⟩
          · have hle' : decide ((p : Int) < (b : Int)) = false := decide_eq_false (by omega)
            go_wp2_with fail
            go_big_quiet (fail)
            go_wp2_with fail
            go_meet
            case rel => exact ⟨p, rfl, by rw [← HSC.out, ss_stop _ _ _ (.inl hle)], hip, hpb, sw_drew HSP.out _⟩
      case rest =>
        obtain ⟨i2, rfl, hi2, hii, hi2b, hs2⟩ := hcut
        have HI2 := hide hi2
        have HS2 := hide hs2
        clear hi2 hs2 HSK
        by_cases heq : i2 = b
        · have heq' : (i2 : Int) = (b : Int) := by omega
          have hbe : ((i2 : Int) == (b : Int)) = true := by simpa using heq'
          have e := hide (pi_yes a b s i dk i2 HI2.out heq)
          go_wp2_with fail
          go_ret
          refine ⟨?_, ?_⟩
          · unfold partialInsertionSort; rw [← HP.out, e.out]; rfl
          · unfold partialInsertionSort; rw [← HP.out, e.out]; exact HS2.out
        · have hbe : ((i2 : Int) == (b : Int)) = false := by simp; omega
          by_cases h50 : b - a < 50
          · have h50' : (b : Int) - (a : Int) < 50 := by omega
            have e := hide (pi_no a b s i dk i2 HI2.out heq h50)
            go_wp2_with fail
            go_ret
            refine ⟨?_, ?_⟩
            · unfold partialInsertionSort; rw [← HP.out, e.out]; rfl
            · unfold partialInsertionSort; rw [← HP.out, e.out]; exact HS2.out
          · have h50' : ¬ (b : Int) - (a : Int) < 50 := by omega
            obtain ⟨D1, hD1⟩ : ∃ D1, D1 = swp dk i2 (i2 - 1) := ⟨_, rfl⟩
            obtain ⟨D2, hD2⟩ : ∃ D2, D2 = if i2 - a ≥ 2 then shiftDown ltInt (i2 - 1) D1 else D1 := ⟨_, rfl⟩
            obtain ⟨D3, hD3⟩ : ∃ D3, D3 = if b - i2 ≥ 2 then shiftUp ltInt b (i2 + 1) D2 else D2 := ⟨_, rfl⟩
            have e := hide (pi_on a b s i dk i2 HI2.out heq h50 D1 D2 D3 hD1 hD2 hD3)
            have HD1 := hide hD1
            have HD2 := hide hD2
            have HD3 := hide hD3
            clear hD1 hD2 hD3
            have hho := sw_holds HH.out hblk HS2.out
            have hsize : dk.size = d.size := HS2.out.1
            obtain ⟨G, hG⟩ : ∃ G : Nat → Int, ∀ t, G t = dk[t]! := ⟨fun t => dk[t]!, fun _ => rfl⟩
            have hcw : ∀ t, t < d.size → wc.cell? ⟨blk, off + t, none⟩ = some (.int .u32 (G t)) := fun t ht => by rw [hG]; exact (hho.1 t (by omega)).1
            have hfw : ∀ t, t < d.size → wc.frozen? ⟨blk, off + t, none⟩ = false := fun t ht => (hho.1 t (by omega)).2
            have HG := hide hG
            clear hG hho hsize
            go_wp2_with fail
            go_cut [] from 13 to 132 (fun W => SW w blk off d D1 W)
            case first =>
              go_region
              go_wp2_with fail
              go_meet
              case rel =>
                rw [HD1.out]
                simp only [HG.out]
                exact sw_swap hblk HS2.out i2 (i2 - 1) (by omega) (by omega) _
            case rest =>
              have HS3 := hide hcut
              clear hcut HS2 hcw hfw HG
              go_upto_if 61 with fail
              go_cut [] from 13 to 132 (fun W => SW w blk off d D2 W)
              case first =>
                by_cases h2a : i2 - a ≥ 2
                · have h2a' : (2 : Int) ≤ (i2 : Int) - (a : Int) := by omega
                  have E2 : Hid (D2 = shiftDown ltInt (i2 - 1) D1) := by show _ = _; rw [HD2.out, if_pos h2a]
                  go_wp2_with fail
                  go_loopw [9] (fun vj wr => ∃ (j : Nat) (D : Array Int), vj = .int .i64 j ∧ j ≤ i2 - 1 ∧ SW w blk off d D wr ∧ shiftDown ltInt j D = shiftDown ltInt (i2 - 1) D1) (fun vj _ => (intOf vj).toNat)
                  case atStart => exact ⟨i2 - 1, D1, by go_num, Nat.le_refl _, HS3.out, rfl⟩
                  case round =>
                    obtain ⟨j, D, rfl, hji, hsj, hJ⟩ := hrel
                    have HSJ := hide hsj
                    have HJ := hide hJ
                    clear hsj hJ HS3
                    have hho := sw_holds HH.out hblk HSJ.out
                    have hsize : D.size = d.size := HSJ.out.1
                    obtain ⟨G, hG⟩ : ∃ G : Nat → Int, ∀ t, G t = D[t]! := ⟨fun t => D[t]!, fun _ => rfl⟩
                    have hcw : ∀ t, t < d.size → wr.cell? ⟨blk, off + t, none⟩ = some (.int .u32 (G t)) := fun t ht => by rw [hG]; exact (hho.1 t (by omega)).1
                    have hfw : ∀ t, t < d.size → wr.frozen? ⟨blk, off + t, none⟩ = false := fun t ht => (hho.1 t (by omega)).2
                    have HG := hide hG
                    clear hG hho hsize
                    by_cases hj1 : 1 ≤ j
                    · have hj1' : (1 : Int) ≤ (j : Int) := by omega
                      go_wp2_with fail
                      go_big_quiet ((go_at_call 70; refine Calls.quiet_of_same (less_u _ _ _)))
                      go_wp2_with fail
                      · have hl : ltInt (G j) (G (j - 1)) = false := by
                          have : (!ltInt (G j) (G (j - 1))) = true := by assumption
                          simpa using this
                        go_meet
                        case rel => rw [E2.out, ← HJ.out, sd_stop D j (.inr (by simp only [← HG.out]; exact hl))]; exact sw_drew HSJ.out _
                      · have hl : ltInt (G j) (G (j - 1)) = true := by
                          have : (!ltInt (G j) (G (j - 1))) = false := by assumption
                          simpa using this
                        have hcw3 : ∀ t, t < d.size → (wr.drewN nq).cell? ⟨blk, off + t, none⟩ = some (.int .u32 (G t)) := hcw
                        have hfw3 : ∀ t, t < d.size → (wr.drewN nq).frozen? ⟨blk, off + t, none⟩ = false := hfw
                        have HS4 := hide (sw_drew HSJ.out nq)
                        generalize wr.drewN nq = wr3 at hcw3 hfw3 HS4 ⊢
                        clear hcw hfw HSJ
                        go_region
                        go_wp2_with fail
                        refine ⟨⟨j - 1, swp D j (j - 1), by go_num, by omega, ?_, by rw [← HJ.out, sd_go D j hj1 (by simp only [← HG.out]; exact hl)]⟩, by simp [intOf] <;> omega⟩
                        simp only [HG.out]
                        exact sw_swap hblk HS4.out j (j - 1) (by omega) (by omega) _
                    · have hj0 : j = 0 := by omega
                      subst hj0
                      go_wp2_with fail
                      go_meet
                      case rel => rw [E2.out, ← HJ.out, sd_stop D 0 (.inl rfl)]; exact HSJ.out
                · have h2a' : ¬ (2 : Int) ≤ (i2 : Int) - (a : Int) := by omega
                  have E2 : Hid (D2 = D1) := by show _ = _; rw [HD2.out, if_neg h2a]
                  go_wp2_with fail
                  go_meet
                  case rel => rw [E2.out]; exact HS3.out
              case rest =>
                have HS5 := hide hcut
                clear hcut HS3
                go_upto_if 98 with fail
                by_cases h2b : b - i2 ≥ 2
                · have h2b' : (2 : Int) ≤ (b : Int) - (i2 : Int) := by omega
                  have E3 : Hid (D3 = shiftUp ltInt b (i2 + 1) D2) := by show _ = _; rw [HD3.out, if_pos h2b]
                  go_wp2_with fail
                  go_loopw [10] (fun vj wr => ∃ (j : Nat) (D : Array Int), vj = .int .i64 j ∧ i2 < j ∧ j ≤ b ∧ SW w blk off d D wr ∧ shiftUp ltInt b j D = shiftUp ltInt b (i2 + 1) D2) (fun vj _ => b - (intOf vj).toNat)
                  case atStart => exact ⟨i2 + 1, D2, by go_num, by omega, by omega, HS5.out, rfl⟩
                  case round =>
                    obtain ⟨j, D, rfl, hji, hjb, hsj, hJ⟩ := hrel
                    have HSJ := hide hsj
                    have HJ := hide hJ
                    clear hsj hJ HS5
                    have hho := sw_holds HH.out hblk HSJ.out
                    have hsize : D.size = d.size := HSJ.out.1
                    obtain ⟨G, hG⟩ : ∃ G : Nat → Int, ∀ t, G t = D[t]! := ⟨fun t => D[t]!, fun _ => rfl⟩
                    have hcw : ∀ t, t < d.size → wr.cell? ⟨blk, off + t, none⟩ = some (.int .u32 (G t)) := fun t ht => by rw [hG]; exact (hho.1 t (by omega)).1
                    have hfw : ∀ t, t < d.size → wr.frozen? ⟨blk, off + t, none⟩ = false := fun t ht => (hho.1 t (by omega)).2
                    have HG := hide hG
                    clear hG hho hsize
                    by_cases hj1 : j < b
                    · have hj1' : (j : Int) < (b : Int) := by omega
                      go_wp2_with fail
                      go_big_quiet ((go_at_call 70; refine Calls.quiet_of_same (less_u _ _ _)))
                      go_wp2_with fail
                      · have hl : ltInt (G j) (G (j - 1)) = false := by
                          have : (!ltInt (G j) (G (j - 1))) = true := by assumption
                          simpa using this
                        exact ⟨⟨i2, s, D3, rfl, by omega, by go_num, by omega, by omega, by rw [E3.out, ← HJ.out, su_stop D b j (.inr (by simp only [← HG.out]; exact hl))]; exact sw_drew HSJ.out _, by rw [← HP.out, e.out]⟩, by simp [intOf] <;> omega⟩
                      · have hl : ltInt (G j) (G (j - 1)) = true := by
                          have : (!ltInt (G j) (G (j - 1))) = false := by assumption
                          simpa using this
                        have hcw3 : ∀ t, t < d.size → (wr.drewN nq).cell? ⟨blk, off + t, none⟩ = some (.int .u32 (G t)) := hcw
                        have hfw3 : ∀ t, t < d.size → (wr.drewN nq).frozen? ⟨blk, off + t, none⟩ = false := hfw
                        have HS4 := hide (sw_drew HSJ.out nq)
                        generalize wr.drewN nq = wr3 at hcw3 hfw3 HS4 ⊢
                        clear hcw hfw HSJ
                        go_region
                        go_wp2_with fail
                        refine ⟨⟨j + 1, swp D j (j - 1), by go_num, by omega, by omega, ?_, by rw [← HJ.out, su_go D b j hj1 (by simp only [← HG.out]; exact hl)]⟩, by simp [intOf] <;> omega⟩
                        simp only [HG.out]
                        exact sw_swap hblk HS4.out j (j - 1) (by omega) (by omega) _
                    · have hj1' : ¬ (j : Int) < (b : Int) := by omega
                      go_wp2_with fail
                      exact ⟨⟨i2, s, D3, rfl, by omega, by go_num, by omega, by omega, by rw [E3.out, ← HJ.out, su_stop D b j (.inl hj1)]; exact HSJ.out, by rw [← HP.out, e.out]⟩, by simp [intOf] <;> omega⟩
                · have h2b' : ¬ (2 : Int) ≤ (b : Int) - (i2 : Int) := by omega
                  have E3 : Hid (D3 = D2) := by show _ = _; rw [HD3.out, if_neg h2b]
                  go_wp2_with fail
                  exact ⟨⟨i2, s, D3, rfl, by omega, by go_num, by omega, by omega, by rw [E3.out]; exact HS5.out, by rw [← HP.out, e.out]⟩, by simp [intOf] <;> omega⟩
end Go.Proofs.YtkpoanjcalolkaaDoor

/- The library's sort at uint32: order2Ordered, medianOrdered, medianAdjacentOrdered, choosePivotOrdered. -/
namespace Go.Proofs.YtkpoanjcalolkaaDoor
open Go.RowKit Go.Sort

/-- The row is as it was; the swaps are counted in a new block B. -/
def Sp (w : World) (blk off : Nat) (d : Array Int) (B s : Nat) (W : World) : Prop := SW w blk off d d W ∧ W.cell? ⟨B, 0, none⟩ = some (.int .i64 s) ∧ W.frozen? ⟨B, 0, none⟩ = false ∧ w.heap.size ≤ B

theorem sp_drew {w W : World} {blk off : Nat} {d : Array Int} {B s : Nat} (h : Sp w blk off d B s W) (q : Nat) : Sp w blk off d B s (W.drewN q) := ⟨sw_drew h.1 q, h.2.1, h.2.2.1, h.2.2.2⟩

theorem sp_set {w W : World} {blk off : Nat} {d : Array Int} {B s : Nat} (h : Sp w blk off d B s W) (s' : Nat) : Sp w blk off d B s' (W.setCell ⟨B, 0, none⟩ (.int .i64 s')) := by
  obtain ⟨⟨hs, n, os, rfl⟩, h1, h2, h3⟩ := h
  refine ⟨⟨hs, n, os.modify (B - w.heap.size) (onCells (·.setIfInBounds 0 (.int .i64 s'))), ?_⟩, ?_, ?_, h3⟩
  · rw [setCell_eq, mapBlock_grow_new _ _ _ _ (by simpa using h3)]
    simp
  · exact World.cell?_setCell_same _ _ _ h1
  · simpa using h2

set_option maxHeartbeats 1000000 in
theorem order2_u (blk off cap a b B s : Nat) (d : Array Int) (w W : World) (hH : Holds (Value.int .u32) w blk off d) (hblk : blk < w.heap.size) (hS : Sp w blk off d B s W) (ha : a < d.size) (hb : b < d.size) (_hsz : d.size ≤ 1000000) (hs : s ≤ 1000) :
    Calls Tryd.prog 87 #[.slice (some ⟨blk, off, none⟩) d.size cap, .int .i64 a, .int .i64 b, .pointer (some ⟨B, 0, none⟩)] W fun e w' => e = .returned (.tuple #[.int .i64 (order2 ltInt d a b s).1, .int .i64 (order2 ltInt d a b s).2.1]) ∧ Sp w blk off d B (order2 ltInt d a b s).2.2 w' := by
  have hho := sw_holds hH hblk hS.1
  obtain ⟨G, hG⟩ : ∃ G : Nat → Int, ∀ t, G t = d[t]! := ⟨fun t => d[t]!, fun _ => rfl⟩
  have hcw : ∀ t, t < d.size → W.cell? ⟨blk, off + t, none⟩ = some (.int .u32 (G t)) := fun t ht => by rw [hG]; exact (hho.1 t (by omega)).1
  have hcs := hS.2.1
  have hfs := hS.2.2.1
  have HG := hide hG
  have HS := hide hS
  clear hG hho hS hH
  go_enter Tryd.func87, Tryd.ntmps87
  go_wp2_with fail
  go_big_quiet ((go_at_call 70; refine Calls.quiet_of_same (less_u _ _ _)))
  go_wp2_with fail
  · have hl : ltInt (G b) (G a) = true := by assumption
    have e : order2 ltInt d a b s = (b, a, s + 1) := by unfold order2; rw [← HG.out, ← HG.out, if_pos hl]
    exact bodyPost_ret (v := .tuple #[.int .i64 b, .int .i64 a]) (by simp [results, Tryd.results87, go_sem]) rfl ⟨by rw [e], by rw [e]; exact sp_set (sp_drew HS.out _) (s + 1)⟩
  · have hl : ltInt (G b) (G a) = false := by assumption
    have e : order2 ltInt d a b s = (a, b, s) := by unfold order2; rw [← HG.out, ← HG.out, if_neg (by rw [hl]; decide)]
    exact bodyPost_ret (v := .tuple #[.int .i64 a, .int .i64 b]) (by simp [results, Tryd.results87, go_sem]) rfl ⟨by rw [e], by rw [e]; exact sp_drew HS.out _⟩

theorem order2_is (blk off cap a b B s x y s' : Nat) (d : Array Int) (w W : World) (e : order2 ltInt d a b s = (x, y, s')) (hH : Holds (Value.int .u32) w blk off d) (hblk : blk < w.heap.size) (hS : Sp w blk off d B s W) (ha : a < d.size) (hb : b < d.size) (hsz : d.size ≤ 1000000) (hs : s ≤ 1000) :
    Calls Tryd.prog 87 #[.slice (some ⟨blk, off, none⟩) d.size cap, .int .i64 a, .int .i64 b, .pointer (some ⟨B, 0, none⟩)] W fun e w' => e = .returned (.tuple #[.int .i64 x, .int .i64 y]) ∧ Sp w blk off d B s' w' := by
  have := order2_u blk off cap a b B s d w W hH hblk hS ha hb hsz hs
  rw [e] at this
  exact this

theorem order2_bd (d : Array Int) (a b s : Nat) : ((order2 ltInt d a b s).1 = a ∧ (order2 ltInt d a b s).2.1 = b ∨ (order2 ltInt d a b s).1 = b ∧ (order2 ltInt d a b s).2.1 = a) ∧ (order2 ltInt d a b s).2.2 ≤ s + 1 := by
  unfold order2
  split
  · exact ⟨.inr ⟨rfl, rfl⟩, Nat.le_refl _⟩
  · exact ⟨.inl ⟨rfl, rfl⟩, Nat.le_succ _⟩

set_option maxHeartbeats 1000000 in
theorem median_u (blk off cap a b c B s : Nat) (d : Array Int) (w W : World) (hH : Holds (Value.int .u32) w blk off d) (hblk : blk < w.heap.size) (hS : Sp w blk off d B s W) (ha : a < d.size) (hb : b < d.size) (hc : c < d.size) (hsz : d.size ≤ 1000000) (hs : s ≤ 900) :
    Calls Tryd.prog 83 #[.slice (some ⟨blk, off, none⟩) d.size cap, .int .i64 a, .int .i64 b, .int .i64 c, .pointer (some ⟨B, 0, none⟩)] W fun e w' => e = .returned (.int .i64 (median ltInt d a b c s).1) ∧ Sp w blk off d B (median ltInt d a b c s).2 w' := by
  obtain ⟨⟨x1, y1, s1⟩, h1⟩ : ∃ r, order2 ltInt d a b s = r := ⟨_, rfl⟩
  obtain ⟨⟨x2, y2, s2⟩, h2⟩ : ∃ r, order2 ltInt d y1 c s1 = r := ⟨_, rfl⟩
  obtain ⟨⟨x3, y3, s3⟩, h3⟩ : ∃ r, order2 ltInt d x1 x2 s2 = r := ⟨_, rfl⟩
  have e : median ltInt d a b c s = (y3, s3) := by
    unfold median
    simp only [h1, h2, h3]
  have b1 := order2_bd d a b s
  have b2 := order2_bd d y1 c s1
  have b3 := order2_bd d x1 x2 s2
  rw [h1] at b1
  rw [h2] at b2
  rw [h3] at b3
  simp only at b1 b2 b3
  rw [e]
  have HH := hide hH
  have HS := hide hS
  have H1 := hide h1
  have H2 := hide h2
  have H3 := hide h3
  have z1 : x1 < d.size := by omega
  have z2 : y1 < d.size := by omega
  have z3 : x2 < d.size := by omega
  have z4 : s1 ≤ 1000 := by omega
  have z5 : s2 ≤ 1000 := by omega
  clear hH hS h1 h2 h3 e b1 b2 b3
  go_enter Tryd.func83, Tryd.ntmps83
  go_wp2_with fail
  refine (order2_is blk off cap a b B s x1 y1 s1 d w _ H1.out HH.out hblk HS.out ha hb hsz (by omega)).mono ?_
  rintro e w1 ⟨rfl, hs1⟩
  have S1 := hide hs1
  clear hs1 HS
  go_wp2_with fail
  refine (order2_is blk off cap y1 c B s1 x2 y2 s2 d w _ H2.out HH.out hblk S1.out z2 hc hsz z4).mono ?_
  rintro e w2 ⟨rfl, hs2⟩
  have S2 := hide hs2
  clear hs2 S1
  go_wp2_with fail
  refine (order2_is blk off cap x1 x2 B s2 x3 y3 s3 d w _ H3.out HH.out hblk S2.out z1 z3 hsz z5).mono ?_
  rintro e w3 ⟨rfl, hs3⟩
  have S3 := hide hs3
  clear hs3 S2
  go_wp2_with fail
  go_ret
  exact ⟨rfl, S3.out⟩

theorem median_bd (d : Array Int) (a b c s : Nat) : ((median ltInt d a b c s).1 = a ∨ (median ltInt d a b c s).1 = b ∨ (median ltInt d a b c s).1 = c) ∧ (median ltInt d a b c s).2 ≤ s + 3 := by
  have b1 := order2_bd d a b s
  have b2 := order2_bd d (order2 ltInt d a b s).2.1 c (order2 ltInt d a b s).2.2
  have b3 := order2_bd d (order2 ltInt d a b s).1 (order2 ltInt d (order2 ltInt d a b s).2.1 c (order2 ltInt d a b s).2.2).1 (order2 ltInt d (order2 ltInt d a b s).2.1 c (order2 ltInt d a b s).2.2).2.2
  unfold median
  simp only
  omega

theorem median_is (blk off cap a b c B s x s' : Nat) (d : Array Int) (w W : World) (e : median ltInt d a b c s = (x, s')) (hH : Holds (Value.int .u32) w blk off d) (hblk : blk < w.heap.size) (hS : Sp w blk off d B s W) (ha : a < d.size) (hb : b < d.size) (hc : c < d.size) (hsz : d.size ≤ 1000000) (hs : s ≤ 900) :
    Calls Tryd.prog 83 #[.slice (some ⟨blk, off, none⟩) d.size cap, .int .i64 a, .int .i64 b, .int .i64 c, .pointer (some ⟨B, 0, none⟩)] W fun e w' => e = .returned (.int .i64 x) ∧ Sp w blk off d B s' w' := by
  have := median_u blk off cap a b c B s d w W hH hblk hS ha hb hc hsz hs
  rw [e] at this
  exact this

set_option maxHeartbeats 1000000 in
theorem medadj_is (blk off cap a B s x s' : Nat) (d : Array Int) (w W : World) (e : medianAdjacent ltInt d a s = (x, s')) (hH : Holds (Value.int .u32) w blk off d) (hblk : blk < w.heap.size) (hS : Sp w blk off d B s W) (ha : 1 ≤ a) (hb : a + 1 < d.size) (hsz : d.size ≤ 1000000) (hs : s ≤ 900) :
    Calls Tryd.prog 82 #[.slice (some ⟨blk, off, none⟩) d.size cap, .int .i64 a, .pointer (some ⟨B, 0, none⟩)] W fun e w' => e = .returned (.int .i64 x) ∧ Sp w blk off d B s' w' := by
  have HH := hide hH
  have HS := hide hS
  have HE := hide e
  clear hH hS e
  go_enter Tryd.func82, Tryd.ntmps82
  go_wp2_with fail
  have CM := median_is blk off cap (a - 1) a (a + 1) B s x s' d w W HE.out HH.out hblk HS.out (by omega) (by omega) (by omega) hsz hs
  rw [show ((a - 1 : Nat) : Int) = (a : Int) - 1 by omega, show ((a + 1 : Nat) : Int) = (a : Int) + 1 by omega] at CM
  refine CM.mono ?_
  rintro e w1 ⟨rfl, hs1⟩
  go_wp2_with fail
  go_ret
  exact ⟨rfl, hs1⟩

theorem sp_new {w W : World} {blk off : Nat} {d : Array Int} (h : SW w blk off d d W) (hw : w.heap.size ≤ W.heap.size) : Sp w blk off d W.heap.size 0 (W.alloc (.cells #[.int .i64 0] 3)) :=
  ⟨sw_alloc h _, by simp, by simp, hw⟩

/-- A hint, as the program writes it. -/
def hintZ (h : Hint) : Int := match h with | .unknown => 0 | .increasing => 1 | .decreasing => 2

/-- What choosePivot takes the hint from. -/
def hintOf (s : Nat) : Hint := if s = 0 then .increasing else if s = 12 then .decreasing else .unknown

theorem cp_mid (d : Array Int) (a m : Nat) (h8 : 8 ≤ m) (h50 : ¬ 50 ≤ m) : choosePivot ltInt d a (a + m) = ((median ltInt d (a + m / 4) (a + m / 4 * 2) (a + m / 4 * 3) 0).1, hintOf (median ltInt d (a + m / 4) (a + m / 4 * 2) (a + m / 4 * 3) 0).2) := by
  unfold choosePivot hintOf
  simp only [Nat.add_sub_cancel_left, Nat.mul_one, ge_iff_le, if_pos h8, if_neg h50]

theorem cp_big (d : Array Int) (a m : Nat) (h50 : 50 ≤ m) (x1 s1 x2 s2 x3 s3 x4 s4 : Nat) (e1 : medianAdjacent ltInt d (a + m / 4) 0 = (x1, s1)) (e2 : medianAdjacent ltInt d (a + m / 4 * 2) s1 = (x2, s2)) (e3 : medianAdjacent ltInt d (a + m / 4 * 3) s2 = (x3, s3)) (e4 : median ltInt d x1 x2 x3 s3 = (x4, s4)) :
    choosePivot ltInt d a (a + m) = (x4, hintOf s4) := by
  unfold choosePivot hintOf
  simp only [Nat.add_sub_cancel_left, Nat.mul_one, ge_iff_le, if_pos (show 8 ≤ m by omega), if_pos h50, e1, e2, e3, e4]

theorem median_z (blk off cap a b c B s x s' : Nat) (A Bz C : Int) (hA : A = (a : Int)) (hB : Bz = (b : Int)) (hC : C = (c : Int)) (d : Array Int) (w W : World) (e : median ltInt d a b c s = (x, s')) (hH : Holds (Value.int .u32) w blk off d) (hblk : blk < w.heap.size) (hS : Sp w blk off d B s W) (ha : a < d.size) (hb : b < d.size) (hc : c < d.size) (hsz : d.size ≤ 1000000) (hs : s ≤ 900) :
    Calls Tryd.prog 83 #[.slice (some ⟨blk, off, none⟩) d.size cap, .int .i64 A, .int .i64 Bz, .int .i64 C, .pointer (some ⟨B, 0, none⟩)] W fun e w' => e = .returned (.int .i64 x) ∧ Sp w blk off d B s' w' := by
  subst hA; subst hB; subst hC
  exact median_is blk off cap a b c B s x s' d w W e hH hblk hS ha hb hc hsz hs
theorem medadj_z (blk off cap a B s x s' : Nat) (A : Int) (hA : A = (a : Int)) (d : Array Int) (w W : World) (e : medianAdjacent ltInt d a s = (x, s')) (hH : Holds (Value.int .u32) w blk off d) (hblk : blk < w.heap.size) (hS : Sp w blk off d B s W) (ha : 1 ≤ a) (hb : a + 1 < d.size) (hsz : d.size ≤ 1000000) (hs : s ≤ 900) :
    Calls Tryd.prog 82 #[.slice (some ⟨blk, off, none⟩) d.size cap, .int .i64 A, .pointer (some ⟨B, 0, none⟩)] W fun e w' => e = .returned (.int .i64 x) ∧ Sp w blk off d B s' w' := by
  subst hA
  exact medadj_is blk off cap a B s x s' d w W e hH hblk hS ha hb hsz hs
theorem medadj_bd (d : Array Int) (a s x s' : Nat) (e : medianAdjacent ltInt d a s = (x, s')) (ha : 1 ≤ a) : a - 1 ≤ x ∧ x ≤ a + 1 ∧ s' ≤ s + 3 := by
  unfold medianAdjacent at e
  have := median_bd d (a - 1) a (a + 1) s
  rw [e] at this
  simp only at this
  omega

set_option maxHeartbeats 4000000 in
set_option maxRecDepth 100000 in
theorem pivot_u (blk off cap a m : Nat) (d : Array Int) (w : World) (hH : Holds (Value.int .u32) w blk off d) (hblk : blk < w.heap.size) (h12 : 12 < m) (hb : a + m ≤ d.size) (hsz : d.size ≤ 1000000) :
    Calls Tryd.prog 67 #[.slice (some ⟨blk, off, none⟩) d.size cap, .int .i64 a, .int .i64 ((a : Int) + (m : Int))] w fun e w' => e = .returned (.tuple #[.int .i64 (choosePivot ltInt d a (a + m)).1, .int .i64 (hintZ (choosePivot ltInt d a (a + m)).2)]) ∧ SW w blk off d d w' := by
  have S0 := hide (sp_new (sw_refl hH) (Nat.le_refl _))
  have HH := hide hH
  clear hH
  have hm2 : (a : Int) + (m : Int) - (a : Int) = (m : Int) := by omega
  have hm8 : (8 : Int) ≤ (m : Int) := by omega
  by_cases h50 : 50 ≤ m
  · have h50' : (50 : Int) ≤ (m : Int) := by omega
    obtain ⟨⟨x1, s1⟩, e1⟩ : ∃ r, medianAdjacent ltInt d (a + m / 4) 0 = r := ⟨_, rfl⟩
    obtain ⟨⟨x2, s2⟩, e2⟩ : ∃ r, medianAdjacent ltInt d (a + m / 4 * 2) s1 = r := ⟨_, rfl⟩
    obtain ⟨⟨x3, s3⟩, e3⟩ : ∃ r, medianAdjacent ltInt d (a + m / 4 * 3) s2 = r := ⟨_, rfl⟩
    obtain ⟨⟨x4, s4⟩, e4⟩ : ∃ r, median ltInt d x1 x2 x3 s3 = r := ⟨_, rfl⟩
    rw [cp_big d a m h50 x1 s1 x2 s2 x3 s3 x4 s4 e1 e2 e3 e4]
    have z1 := medadj_bd _ _ _ _ _ e1 (by omega)
    have z2 := medadj_bd _ _ _ _ _ e2 (by omega)
    have z3 := medadj_bd _ _ _ _ _ e3 (by omega)
    have E1 := hide e1
    have E2 := hide e2
    have E3 := hide e3
    have E4 := hide e4
    have Z1 := hide z1
    have Z2 := hide z2
    have Z3 := hide z3
    clear e1 e2 e3 e4 z1 z2 z3
    go_enter Tryd.func67, Tryd.ntmps67
    go_wp2_with fail
    refine (medadj_z blk off cap (a + m / 4) _ 0 x1 s1 _ (by omega) d w _ E1.out HH.out hblk S0.out (by omega) (by omega) hsz (by omega)).mono ?_
    rintro e w1 ⟨rfl, hs1⟩
    have S1 := hide hs1
    clear hs1 S0
    go_wp2_with fail
    refine (medadj_z blk off cap (a + m / 4 * 2) _ s1 x2 s2 _ (by omega) d w _ E2.out HH.out hblk S1.out (by omega) (by omega) hsz (by have := Z1.out; omega)).mono ?_
    rintro e w2 ⟨rfl, hs2⟩
    have S2 := hide hs2
    clear hs2 S1
    go_wp2_with fail
    refine (medadj_z blk off cap (a + m / 4 * 3) _ s2 x3 s3 _ (by omega) d w _ E3.out HH.out hblk S2.out (by omega) (by omega) hsz (by have := Z1.out; have := Z2.out; omega)).mono ?_
    rintro e w3 ⟨rfl, hs3⟩
    have S3 := hide hs3
    clear hs3 S2
    go_wp2_with fail
    refine (median_z blk off cap x1 x2 x3 _ s3 x4 s4 _ _ _ rfl rfl rfl d w _ E4.out HH.out hblk S3.out (by have := Z1.out; omega) (by have := Z2.out; omega) (by have := Z3.out; omega) hsz (by have := Z1.out; have := Z2.out; have := Z3.out; omega)).mono ?_
    rintro e w4 ⟨rfl, hs4⟩
    have S4 := hide hs4
    have hc4 := hs4.2.1
    clear hs4 S3
    rcases Nat.eq_zero_or_pos s4 with h0 | h0
    · have b0 : ((s4 : Int) == 0) = true := by simp; omega
      have eh : hintOf s4 = .increasing := by unfold hintOf; rw [if_pos h0]
      go_wp2_with fail
      exact bodyPost_ret (v := .tuple #[.int .i64 x4, .int .i64 1]) (by simp [results, Tryd.results67, go_sem]) rfl ⟨by rw [eh]; rfl, S4.out.1⟩
    · have b0 : ((s4 : Int) == 0) = false := by simp; omega
      by_cases h12 : s4 = 12
      · have b1 : ((s4 : Int) == 12) = true := by simp; omega
        have eh : hintOf s4 = .decreasing := by unfold hintOf; rw [if_neg (by omega), if_pos h12]
        go_wp2_with fail
        exact bodyPost_ret (v := .tuple #[.int .i64 x4, .int .i64 2]) (by simp [results, Tryd.results67, go_sem]) rfl ⟨by rw [eh]; rfl, S4.out.1⟩
      · have b1 : ((s4 : Int) == 12) = false := by simp; omega
        have eh : hintOf s4 = .unknown := by unfold hintOf; rw [if_neg (by omega), if_neg h12]
        go_wp2_with fail
        exact bodyPost_ret (v := .tuple #[.int .i64 x4, .int .i64 0]) (by simp [results, Tryd.results67, go_sem]) rfl ⟨by rw [eh]; rfl, S4.out.1⟩
  · have h50' : ¬ (50 : Int) ≤ (m : Int) := by omega
    obtain ⟨⟨x4, s4⟩, e4⟩ : ∃ r, median ltInt d (a + m / 4) (a + m / 4 * 2) (a + m / 4 * 3) 0 = r := ⟨_, rfl⟩
    rw [cp_mid d a m (by omega) h50, e4]
    have E4 := hide e4
    clear e4
    go_enter Tryd.func67, Tryd.ntmps67
    go_wp2_with fail
    refine (median_z blk off cap (a + m / 4) (a + m / 4 * 2) (a + m / 4 * 3) _ 0 x4 s4 _ _ _ (by omega) (by omega) (by omega) d w _ E4.out HH.out hblk S0.out (by omega) (by omega) (by omega) hsz (by omega)).mono ?_
    rintro e w4 ⟨rfl, hs4⟩
    have S4 := hide hs4
    have hc4 := hs4.2.1
    clear hs4 S0
    rcases Nat.eq_zero_or_pos s4 with h0 | h0
    · have b0 : ((s4 : Int) == 0) = true := by simp; omega
      have eh : hintOf s4 = .increasing := by unfold hintOf; rw [if_pos h0]
      go_wp2_with fail
      exact bodyPost_ret (v := .tuple #[.int .i64 x4, .int .i64 1]) (by simp [results, Tryd.results67, go_sem]) rfl ⟨by rw [eh]; rfl, S4.out.1⟩
    · have b0 : ((s4 : Int) == 0) = false := by simp; omega
      by_cases h12 : s4 = 12
      · have b1 : ((s4 : Int) == 12) = true := by simp; omega
        have eh : hintOf s4 = .decreasing := by unfold hintOf; rw [if_neg (by omega), if_pos h12]
        go_wp2_with fail
        exact bodyPost_ret (v := .tuple #[.int .i64 x4, .int .i64 2]) (by simp [results, Tryd.results67, go_sem]) rfl ⟨by rw [eh]; rfl, S4.out.1⟩
      · have b1 : ((s4 : Int) == 12) = false := by simp; omega
        have eh : hintOf s4 = .unknown := by unfold hintOf; rw [if_neg (by omega), if_neg h12]
        go_wp2_with fail
        exact bodyPost_ret (v := .tuple #[.int .i64 x4, .int .i64 0]) (by simp [results, Tryd.results67, go_sem]) rfl ⟨by rw [eh]; rfl, S4.out.1⟩
end Go.Proofs.YtkpoanjcalolkaaDoor

