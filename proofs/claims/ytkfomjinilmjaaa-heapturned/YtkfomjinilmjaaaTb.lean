/- The law HeapTurned. -/
import Derived.Test.YtkfomjinilmjaaaTa
namespace Go.Proofs.Ytkfomjinilmjaaa
open Go.RowKit Go.Maps

theorem HT.made {w w1 w2 : World} {h m : Nat} {e : Ending} (S : HS gtI w w1 h 27 [] 0 none m) (hm : Made noI w1 35 e w2) : ∃ (h2 m2 : Nat), e = .returned (.pointer (some ⟨h2, 0, none⟩)) ∧ HT w w2 h m none [] 0 h2 m2 none [] 0 none 0 [] none 0 [] := by
  obtain ⟨h2, m2, he, S2, g3, g4⟩ := HS.made hm S.below
  have hb3 : Below w1.heap.size w1 w2 := by
    obtain ⟨_, _, _, _, hb3, _⟩ := hm
    exact hb3
  refine ⟨h2, m2, he, ⟨S.next hb3, S2, good_nil _, good_nil _, fun g hO hO2 => ?_, fun a e => ?_, fun a e => ?_, fun a e => ?_, fun a e => ?_⟩⟩
  · have := S.hp.old g hO
    rcases hO2 with e | e | ⟨_, e, _⟩
    · omega
    · omega
    · cases e
  all_goals cases e
/-- While the first heap is popped. -/
structure Tu (w0 w : World) (h m : Nat) (ao : Option Addr) (L' : List RwS) (h2 m2 : Nat) (ao2 : Option Addr) (L : List RwS) (T : Int) (al : Option Addr) (cl : Nat) (am : Option Addr) (cm : Nat) (M : List RwS) : Prop where
  ht : HT w0 w h m ao L' T h2 m2 ao2 L T al cl L' am cm M
  once : Once M
  no : ∀ x ∈ M, ∀ y ∈ L', x.k ≠ y.k
  len : M.length + L'.length = L.length
set_option maxHeartbeats 8000000 in
set_option maxRecDepth 100000 in
theorem law_turned (ao : Option Addr) (cap : Nat) (os : List Opn) (w : World) (hR : Opn.rowAt w ao os) :
    Calls Try.prog 6 #[.slice ao os.length cap] w fun e w' => e = .returned (.bool true) ∧ Below w.heap.size w w' := by
  have CN := hide (new_is gtI 27 w)
  have CV := hide (fun W => lives_is W)
  have HRW := hide hR
  clear hR
  go_enter Try.func6, Try.ntmps6
  go_wp2_with fail
  refine CN.out.mono ?_
  intro e w1 hm
  obtain ⟨h, m, rfl, S1, g1, g2⟩ := HS.made hm (brefl w)
  have CN := hide (new_nil noI w1)
  have HS1 := hide S1
  clear hm S1
  go_wp2_with fail
  refine CN.out.mono ?_
  intro e w2 hm
  obtain ⟨h2, m2, rfl, S0⟩ := HT.made HS1.out hm
  have HS0 := hide S0
  clear S0 CN HS1 hm g1 g2
  go_wp2_with fail
  go_loopw [5, 7] (fun v5 v7 wr => ∃ (k : Nat) (al : Option Addr) (cl : Nat) (ah ah2 : Option Addr), v7 = .int .i64 k ∧ k ≤ os.length ∧ k ≤ 40 ∧ v5 = .slice al (opl id os k).length cl ∧ Hid (HT w wr h m ah (opl id os k) k h2 m2 ah2 (opl id os k) k al cl (opl id os k) none 0 [])) (fun _ v7 _ => os.length - (intOf v7).toNat)
  case atStart => exact ⟨0, none, 0, none, none, rfl, Nat.zero_le _, Nat.zero_le _, rfl, HS0⟩
  case round =>
    obtain ⟨k, al, cl, ah, ah2, rfl, hk, hk4, rfl, S2⟩ := hrel
    clear HS0
    have hlg := (opl_ok id os k).len
    have HON := hide (opl_ok id os k).once
    have HTU := hide (opl_ok id os k).turn
    by_cases hlt : k < os.length
    · by_cases h40 : k < 40
      · have hlt' : (k : Int) < (os.length : Int) := by omega
        have h40' : (k : Int) < 40 := by omega
        obtain ⟨b, off, rfl, hbl, hr⟩ : ∃ b off, ao = some ⟨b, off, none⟩ ∧ b < w.heap.size ∧ Opn.reads w b off os := by
          rcases HRW.out with h | h
          · rw [h] at hlt; simp at hlt
          · exact h
        have HR : Hid (∀ W, Below w.heap.size w W → W.cell? ⟨b, off + k * 3 + 1, none⟩ = some (.int .i64 os[k].2.1) ∧ W.cell? ⟨b, off + k * 3 + 2, none⟩ = some (.string os[k].2.2)) := fun W hW => (Opn.reads_below hr hbl hW k hlt).2
        have HR0 : Hid (∀ W, Below w.heap.size w W → W.cell? ⟨b, off + k * 3, none⟩ = some (.int .i64 os[k].1)) := fun W hW => (Opn.reads_below hr hbl hW k hlt).1
        have HS1 : Hid (opl id os (k + 1) = without (opl id os k) os[k].2.2 ++ [⟨os[k].2.2, os[k].2.1, (k : Int) + 1⟩]) := by
          show _ = _
          rw [← stp_at hlt]
          rfl
        clear hr
        generalize os[k] = x at *
        obtain ⟨x0, x1, x2⟩ := x
        simp only at HR HR0 HS1
        generalize opl id os k = L at *
        have e0 := HR0.out wr S2.out.a.below
        obtain ⟨e1, e2⟩ := HR.out wr S2.out.a.below
        have CLt := hide (light_is x0 x1 x2 wr)
        by_cases hx2 : x2.size ≤ 200
        · rw [decide_eq_true hx2] at CLt
          go_wp2_with fail
          refine CLt.out.mono ?_
          rintro e wb ⟨rfl, hb2⟩
          have S2d := hide ((S2.out.next hb2).next (brefl wb).drew)
          obtain ⟨e1, e2⟩ := HR.out wb (S2.out.next hb2).a.below
          have CS := hide (set_is ordsG lessG S2d.out.a.hp (by omega) hx2 x1 S2d.out.a.t0 (by omega) S2d.out.a.top)
          clear hb2 CLt S2
          go_wp2_with fail
          refine wp_region_held_drew (S := fun w' => w'.cell? ⟨b, off + k * 3 + 1, none⟩ = some (.int .i64 x1) ∧ w'.cell? ⟨b, off + k * 3 + 2, none⟩ = some (.string x2)) (by kernel_rfl) ⟨e1, e2⟩ (fun hHeld => ?_)
          refine wpAnyH_take (i := 0) (v := .pointer (some ⟨h, 0, none⟩)) rfl (by kernel_rfl) (by kernel_rfl) (by kernel_rfl) (fun _ _ _ h => h) (Or.inl ⟨by rfl, fun w hSw => by dsimp only at hSw; go_simp⟩) hHeld ?_
          simp only [Act.put, List.getElem_toArray, List.getElem_cons_zero, List.setIfInBounds_toArray, List.set_cons_zero, List.set_cons_succ]
          refine wpAnyH_take (i := 1) (v := .slice (some ⟨b, off, none⟩) os.length cap) rfl (by kernel_rfl) (by kernel_rfl) (by kernel_rfl) (fun _ _ _ h => h) (Or.inl ⟨by rfl, fun w hSw => by dsimp only at hSw; go_simp⟩) hHeld ?_
          simp only [Act.put, List.getElem_toArray, List.getElem_cons_zero, List.getElem_cons_succ, List.setIfInBounds_toArray, List.set_cons_zero, List.set_cons_succ]
          refine wpAnyH_take (i := 2) (v := .int .i64 k) rfl (by kernel_rfl) (by kernel_rfl) (by kernel_rfl) (fun _ _ _ h => h) (Or.inl ⟨by rfl, fun w hSw => by dsimp only at hSw; go_simp⟩) hHeld ?_
          simp only [Act.put, List.getElem_toArray, List.getElem_cons_zero, List.getElem_cons_succ, List.setIfInBounds_toArray, List.set_cons_zero, List.set_cons_succ]
          refine wpAnyH_take (i := 3) (v := .pointer (some ⟨b, off + k * 3, none⟩)) rfl (by kernel_rfl) (by kernel_rfl) (by kernel_rfl) (fun _ _ _ h => h) (Or.inl ⟨by rfl, fun w hSw => by dsimp only at hSw; go_simp⟩) hHeld ?_
          simp only [Act.put, List.getElem_toArray, List.getElem_cons_zero, List.getElem_cons_succ, List.setIfInBounds_toArray, List.set_cons_zero, List.set_cons_succ]
          refine wpAnyH_take (i := 4) (v := .pointer (some ⟨b, off + k * 3 + 2, none⟩)) rfl (by kernel_rfl) (by kernel_rfl) (by kernel_rfl) (fun _ _ _ h => h) (Or.inl ⟨by rfl, fun w hSw => by dsimp only at hSw; go_simp⟩) hHeld ?_
          simp only [Act.put, List.getElem_toArray, List.getElem_cons_zero, List.getElem_cons_succ, List.setIfInBounds_toArray, List.set_cons_zero, List.set_cons_succ]
          refine wpAnyH_take (i := 5) (v := .string x2) rfl (by kernel_rfl) (by kernel_rfl) (by kernel_rfl) (fun _ _ _ h => h) (Or.inl ⟨by rfl, fun w hSw => by dsimp only at hSw; go_simp⟩) hHeld ?_
          simp only [Act.put, List.getElem_toArray, List.getElem_cons_zero, List.getElem_cons_succ, List.setIfInBounds_toArray, List.set_cons_zero, List.set_cons_succ]
          refine wpAnyH_take (i := 6) (v := .slice (some ⟨b, off, none⟩) os.length cap) rfl (by kernel_rfl) (by kernel_rfl) (by kernel_rfl) (fun _ _ _ h => h) (Or.inl ⟨by rfl, fun w hSw => by dsimp only at hSw; go_simp⟩) hHeld ?_
          simp only [Act.put, List.getElem_toArray, List.getElem_cons_zero, List.getElem_cons_succ, List.setIfInBounds_toArray, List.set_cons_zero, List.set_cons_succ]
          refine wpAnyH_take (i := 7) (v := .int .i64 k) rfl (by kernel_rfl) (by kernel_rfl) (by kernel_rfl) (fun _ _ _ h => h) (Or.inl ⟨by rfl, fun w hSw => by dsimp only at hSw; go_simp⟩) hHeld ?_
          simp only [Act.put, List.getElem_toArray, List.getElem_cons_zero, List.getElem_cons_succ, List.setIfInBounds_toArray, List.set_cons_zero, List.set_cons_succ]
          refine wpAnyH_take (i := 8) (v := .pointer (some ⟨b, off + k * 3, none⟩)) rfl (by kernel_rfl) (by kernel_rfl) (by kernel_rfl) (fun _ _ _ h => h) (Or.inl ⟨by rfl, fun w hSw => by dsimp only at hSw; go_simp⟩) hHeld ?_
          simp only [Act.put, List.getElem_toArray, List.getElem_cons_zero, List.getElem_cons_succ, List.setIfInBounds_toArray, List.set_cons_zero, List.set_cons_succ]
          refine wpAnyH_take (i := 9) (v := .pointer (some ⟨b, off + k * 3 + 1, none⟩)) rfl (by kernel_rfl) (by kernel_rfl) (by kernel_rfl) (fun _ _ _ h => h) (Or.inl ⟨by rfl, fun w hSw => by dsimp only at hSw; go_simp⟩) hHeld ?_
          simp only [Act.put, List.getElem_toArray, List.getElem_cons_zero, List.getElem_cons_succ, List.setIfInBounds_toArray, List.set_cons_zero, List.set_cons_succ]
          refine wpAnyH_take (i := 10) (v := .int .i64 x1) rfl (by kernel_rfl) (by kernel_rfl) (by kernel_rfl) (fun _ _ _ h => h) (Or.inl ⟨by rfl, fun w hSw => by dsimp only at hSw; go_simp⟩) hHeld ?_
          simp only [Act.put, List.getElem_toArray, List.getElem_cons_zero, List.getElem_cons_succ, List.setIfInBounds_toArray, List.set_cons_zero, List.set_cons_succ]
          refine wpAnyH_ready (rs := [11]) (by kernel_rfl) (by simp) ?_
          refine AllReadyH.cons rfl (fun K hK => ?_) AllReadyH.nil
          go_simp
          go_wp2_with (refine CS.out.mono ?_; intro e w3 hs; obtain ⟨rfl, ao3, S3⟩ := S2d.out.seta hs; have S3 := hide S3; clear hs)
          refine hK.out _ _ ⟨(HR.out w3 S3.out.a.below).1, (HR.out w3 S3.out.a.below).2⟩ (fun hHeld => ?_)
          clear hK K
          try simp only [Act.put, List.getElem_toArray, List.getElem_cons_zero, List.getElem_cons_succ, List.setIfInBounds_toArray, List.set_cons_zero, List.set_cons_succ]
          refine wpAnyH_done (by kernel_rfl) ?_ _
          clear CS S2d
          obtain ⟨e1, e2⟩ := HR.out w3 S3.out.a.below
          have S3d := hide (S3.out.next (brefl w3).drew)
          have CS := hide (set_is ordsN lessN S3d.out.b.hp (by omega) hx2 x1 S3d.out.b.t0 (by omega) S3d.out.b.top)
          clear S3
          go_wp2_with fail
          refine wp_region_held_drew (S := fun w' => w'.cell? ⟨b, off + k * 3 + 1, none⟩ = some (.int .i64 x1) ∧ w'.cell? ⟨b, off + k * 3 + 2, none⟩ = some (.string x2)) (by kernel_rfl) ⟨e1, e2⟩ (fun hHeld => ?_)
          refine wpAnyH_take (i := 0) (v := .pointer (some ⟨h2, 0, none⟩)) rfl (by kernel_rfl) (by kernel_rfl) (by kernel_rfl) (fun _ _ _ h => h) (Or.inl ⟨by rfl, fun w hSw => by dsimp only at hSw; go_simp⟩) hHeld ?_
          simp only [Act.put, List.getElem_toArray, List.getElem_cons_zero, List.setIfInBounds_toArray, List.set_cons_zero, List.set_cons_succ]
          refine wpAnyH_take (i := 1) (v := .slice (some ⟨b, off, none⟩) os.length cap) rfl (by kernel_rfl) (by kernel_rfl) (by kernel_rfl) (fun _ _ _ h => h) (Or.inl ⟨by rfl, fun w hSw => by dsimp only at hSw; go_simp⟩) hHeld ?_
          simp only [Act.put, List.getElem_toArray, List.getElem_cons_zero, List.getElem_cons_succ, List.setIfInBounds_toArray, List.set_cons_zero, List.set_cons_succ]
          refine wpAnyH_take (i := 2) (v := .int .i64 k) rfl (by kernel_rfl) (by kernel_rfl) (by kernel_rfl) (fun _ _ _ h => h) (Or.inl ⟨by rfl, fun w hSw => by dsimp only at hSw; go_simp⟩) hHeld ?_
          simp only [Act.put, List.getElem_toArray, List.getElem_cons_zero, List.getElem_cons_succ, List.setIfInBounds_toArray, List.set_cons_zero, List.set_cons_succ]
          refine wpAnyH_take (i := 3) (v := .pointer (some ⟨b, off + k * 3, none⟩)) rfl (by kernel_rfl) (by kernel_rfl) (by kernel_rfl) (fun _ _ _ h => h) (Or.inl ⟨by rfl, fun w hSw => by dsimp only at hSw; go_simp⟩) hHeld ?_
          simp only [Act.put, List.getElem_toArray, List.getElem_cons_zero, List.getElem_cons_succ, List.setIfInBounds_toArray, List.set_cons_zero, List.set_cons_succ]
          refine wpAnyH_take (i := 4) (v := .pointer (some ⟨b, off + k * 3 + 2, none⟩)) rfl (by kernel_rfl) (by kernel_rfl) (by kernel_rfl) (fun _ _ _ h => h) (Or.inl ⟨by rfl, fun w hSw => by dsimp only at hSw; go_simp⟩) hHeld ?_
          simp only [Act.put, List.getElem_toArray, List.getElem_cons_zero, List.getElem_cons_succ, List.setIfInBounds_toArray, List.set_cons_zero, List.set_cons_succ]
          refine wpAnyH_take (i := 5) (v := .string x2) rfl (by kernel_rfl) (by kernel_rfl) (by kernel_rfl) (fun _ _ _ h => h) (Or.inl ⟨by rfl, fun w hSw => by dsimp only at hSw; go_simp⟩) hHeld ?_
          simp only [Act.put, List.getElem_toArray, List.getElem_cons_zero, List.getElem_cons_succ, List.setIfInBounds_toArray, List.set_cons_zero, List.set_cons_succ]
          refine wpAnyH_take (i := 6) (v := .slice (some ⟨b, off, none⟩) os.length cap) rfl (by kernel_rfl) (by kernel_rfl) (by kernel_rfl) (fun _ _ _ h => h) (Or.inl ⟨by rfl, fun w hSw => by dsimp only at hSw; go_simp⟩) hHeld ?_
          simp only [Act.put, List.getElem_toArray, List.getElem_cons_zero, List.getElem_cons_succ, List.setIfInBounds_toArray, List.set_cons_zero, List.set_cons_succ]
          refine wpAnyH_take (i := 7) (v := .int .i64 k) rfl (by kernel_rfl) (by kernel_rfl) (by kernel_rfl) (fun _ _ _ h => h) (Or.inl ⟨by rfl, fun w hSw => by dsimp only at hSw; go_simp⟩) hHeld ?_
          simp only [Act.put, List.getElem_toArray, List.getElem_cons_zero, List.getElem_cons_succ, List.setIfInBounds_toArray, List.set_cons_zero, List.set_cons_succ]
          refine wpAnyH_take (i := 8) (v := .pointer (some ⟨b, off + k * 3, none⟩)) rfl (by kernel_rfl) (by kernel_rfl) (by kernel_rfl) (fun _ _ _ h => h) (Or.inl ⟨by rfl, fun w hSw => by dsimp only at hSw; go_simp⟩) hHeld ?_
          simp only [Act.put, List.getElem_toArray, List.getElem_cons_zero, List.getElem_cons_succ, List.setIfInBounds_toArray, List.set_cons_zero, List.set_cons_succ]
          refine wpAnyH_take (i := 9) (v := .pointer (some ⟨b, off + k * 3 + 1, none⟩)) rfl (by kernel_rfl) (by kernel_rfl) (by kernel_rfl) (fun _ _ _ h => h) (Or.inl ⟨by rfl, fun w hSw => by dsimp only at hSw; go_simp⟩) hHeld ?_
          simp only [Act.put, List.getElem_toArray, List.getElem_cons_zero, List.getElem_cons_succ, List.setIfInBounds_toArray, List.set_cons_zero, List.set_cons_succ]
          refine wpAnyH_take (i := 10) (v := .int .i64 x1) rfl (by kernel_rfl) (by kernel_rfl) (by kernel_rfl) (fun _ _ _ h => h) (Or.inl ⟨by rfl, fun w hSw => by dsimp only at hSw; go_simp⟩) hHeld ?_
          simp only [Act.put, List.getElem_toArray, List.getElem_cons_zero, List.getElem_cons_succ, List.setIfInBounds_toArray, List.set_cons_zero, List.set_cons_succ]
          refine wpAnyH_ready (rs := [11]) (by kernel_rfl) (by simp) ?_
          refine AllReadyH.cons rfl (fun K hK => ?_) AllReadyH.nil
          go_simp
          go_wp2_with (refine CS.out.mono ?_; intro e w4 hs; obtain ⟨rfl, ao4, S4⟩ := S3d.out.setb hs; have S4 := hide S4; clear hs)
          refine hK.out _ _ ⟨(HR.out w4 S4.out.a.below).1, (HR.out w4 S4.out.a.below).2⟩ (fun hHeld => ?_)
          clear hK K
          try simp only [Act.put, List.getElem_toArray, List.getElem_cons_zero, List.getElem_cons_succ, List.setIfInBounds_toArray, List.set_cons_zero, List.set_cons_succ]
          refine wpAnyH_done (by kernel_rfl) ?_ _
          clear CS S3d
          obtain ⟨e1, e2⟩ := HR.out w4 S4.out.a.below
          have S4d := hide (S4.out.next (brefl w4).drew)
          have CS := hide (refSet_is S4d.out.gl HON.out (by omega) x2 x1 ((k : Int) + 1))
          clear S4
          go_wp2_with fail
          refine wp_region_held_drew (S := fun w' => w'.cell? ⟨b, off + k * 3 + 1, none⟩ = some (.int .i64 x1) ∧ w'.cell? ⟨b, off + k * 3 + 2, none⟩ = some (.string x2)) (by kernel_rfl) ⟨e1, e2⟩ (fun hHeld => ?_)
          refine wpAnyH_take (i := 0) (v := .slice al L.length cl) rfl (by kernel_rfl) (by kernel_rfl) (by kernel_rfl) (fun _ _ _ h => h) (Or.inl ⟨by rfl, fun w hSw => by dsimp only at hSw; go_simp⟩) hHeld ?_
          simp only [Act.put, List.getElem_toArray, List.getElem_cons_zero, List.setIfInBounds_toArray, List.set_cons_zero, List.set_cons_succ]
          refine wpAnyH_take (i := 1) (v := .slice (some ⟨b, off, none⟩) os.length cap) rfl (by kernel_rfl) (by kernel_rfl) (by kernel_rfl) (fun _ _ _ h => h) (Or.inl ⟨by rfl, fun w hSw => by dsimp only at hSw; go_simp⟩) hHeld ?_
          simp only [Act.put, List.getElem_toArray, List.getElem_cons_zero, List.getElem_cons_succ, List.setIfInBounds_toArray, List.set_cons_zero, List.set_cons_succ]
          refine wpAnyH_take (i := 2) (v := .int .i64 k) rfl (by kernel_rfl) (by kernel_rfl) (by kernel_rfl) (fun _ _ _ h => h) (Or.inl ⟨by rfl, fun w hSw => by dsimp only at hSw; go_simp⟩) hHeld ?_
          simp only [Act.put, List.getElem_toArray, List.getElem_cons_zero, List.getElem_cons_succ, List.setIfInBounds_toArray, List.set_cons_zero, List.set_cons_succ]
          refine wpAnyH_take (i := 3) (v := .pointer (some ⟨b, off + k * 3, none⟩)) rfl (by kernel_rfl) (by kernel_rfl) (by kernel_rfl) (fun _ _ _ h => h) (Or.inl ⟨by rfl, fun w hSw => by dsimp only at hSw; go_simp⟩) hHeld ?_
          simp only [Act.put, List.getElem_toArray, List.getElem_cons_zero, List.getElem_cons_succ, List.setIfInBounds_toArray, List.set_cons_zero, List.set_cons_succ]
          refine wpAnyH_take (i := 4) (v := .pointer (some ⟨b, off + k * 3 + 2, none⟩)) rfl (by kernel_rfl) (by kernel_rfl) (by kernel_rfl) (fun _ _ _ h => h) (Or.inl ⟨by rfl, fun w hSw => by dsimp only at hSw; go_simp⟩) hHeld ?_
          simp only [Act.put, List.getElem_toArray, List.getElem_cons_zero, List.getElem_cons_succ, List.setIfInBounds_toArray, List.set_cons_zero, List.set_cons_succ]
          refine wpAnyH_take (i := 5) (v := .string x2) rfl (by kernel_rfl) (by kernel_rfl) (by kernel_rfl) (fun _ _ _ h => h) (Or.inl ⟨by rfl, fun w hSw => by dsimp only at hSw; go_simp⟩) hHeld ?_
          simp only [Act.put, List.getElem_toArray, List.getElem_cons_zero, List.getElem_cons_succ, List.setIfInBounds_toArray, List.set_cons_zero, List.set_cons_succ]
          refine wpAnyH_take (i := 6) (v := .slice (some ⟨b, off, none⟩) os.length cap) rfl (by kernel_rfl) (by kernel_rfl) (by kernel_rfl) (fun _ _ _ h => h) (Or.inl ⟨by rfl, fun w hSw => by dsimp only at hSw; go_simp⟩) hHeld ?_
          simp only [Act.put, List.getElem_toArray, List.getElem_cons_zero, List.getElem_cons_succ, List.setIfInBounds_toArray, List.set_cons_zero, List.set_cons_succ]
          refine wpAnyH_take (i := 7) (v := .int .i64 k) rfl (by kernel_rfl) (by kernel_rfl) (by kernel_rfl) (fun _ _ _ h => h) (Or.inl ⟨by rfl, fun w hSw => by dsimp only at hSw; go_simp⟩) hHeld ?_
          simp only [Act.put, List.getElem_toArray, List.getElem_cons_zero, List.getElem_cons_succ, List.setIfInBounds_toArray, List.set_cons_zero, List.set_cons_succ]
          refine wpAnyH_take (i := 8) (v := .pointer (some ⟨b, off + k * 3, none⟩)) rfl (by kernel_rfl) (by kernel_rfl) (by kernel_rfl) (fun _ _ _ h => h) (Or.inl ⟨by rfl, fun w hSw => by dsimp only at hSw; go_simp⟩) hHeld ?_
          simp only [Act.put, List.getElem_toArray, List.getElem_cons_zero, List.getElem_cons_succ, List.setIfInBounds_toArray, List.set_cons_zero, List.set_cons_succ]
          refine wpAnyH_take (i := 9) (v := .pointer (some ⟨b, off + k * 3 + 1, none⟩)) rfl (by kernel_rfl) (by kernel_rfl) (by kernel_rfl) (fun _ _ _ h => h) (Or.inl ⟨by rfl, fun w hSw => by dsimp only at hSw; go_simp⟩) hHeld ?_
          simp only [Act.put, List.getElem_toArray, List.getElem_cons_zero, List.getElem_cons_succ, List.setIfInBounds_toArray, List.set_cons_zero, List.set_cons_succ]
          refine wpAnyH_take (i := 10) (v := .int .i64 x1) rfl (by kernel_rfl) (by kernel_rfl) (by kernel_rfl) (fun _ _ _ h => h) (Or.inl ⟨by rfl, fun w hSw => by dsimp only at hSw; go_simp⟩) hHeld ?_
          simp only [Act.put, List.getElem_toArray, List.getElem_cons_zero, List.getElem_cons_succ, List.setIfInBounds_toArray, List.set_cons_zero, List.set_cons_succ]
          refine wpAnyH_ready (rs := [11]) (by kernel_rfl) (by simp) ?_
          refine AllReadyH.cons rfl (fun K hK => ?_) AllReadyH.nil
          go_simp
          go_wp2_with (refine CS.out.mono ?_; intro e w5 hs; obtain ⟨al5, cl5, he, S5⟩ := S4d.out.setl hs; rw [← HS1.out] at he; obtain ⟨n5, hl5⟩ : ∃ n, (opl id os (k + 1)).length = n := ⟨_, rfl⟩; obtain ⟨bb, hbb⟩ : ∃ b, (rowOf L x2).isSome = b := ⟨_, rfl⟩; rw [hl5, hbb] at he; subst he; rw [← HS1.out] at S5; replace S5 := hide S5; have HL5 := hide hl5; clear hs hl5 hbb)
          refine hK.out _ _ ⟨(HR.out w5 S5.out.a.below).1, (HR.out w5 S5.out.a.below).2⟩ (fun hHeld => ?_)
          clear hK K
          try simp only [Act.put, List.getElem_toArray, List.getElem_cons_zero, List.getElem_cons_succ, List.setIfInBounds_toArray, List.set_cons_zero, List.set_cons_succ]
          refine wpAnyH_take (i := 12) (v := .tuple #[.slice al5 n5 cl5, .bool bb]) rfl (by kernel_rfl) (by kernel_rfl) (by kernel_rfl) (fun _ _ _ h => h) (Or.inl ⟨by rfl, fun w hSw => by dsimp only at hSw; go_simp⟩) hHeld ?_
          simp only [Act.put, List.getElem_toArray, List.getElem_cons_zero, List.getElem_cons_succ, List.setIfInBounds_toArray, List.set_cons_zero, List.set_cons_succ]
          refine wpAnyH_take (i := 13) (v := .slice al5 n5 cl5) rfl (by kernel_rfl) (by kernel_rfl) (by kernel_rfl) (fun _ _ _ h => h) (Or.inl ⟨by rfl, fun w hSw => by dsimp only at hSw; go_simp⟩) hHeld ?_
          simp only [Act.put, List.getElem_toArray, List.getElem_cons_zero, List.getElem_cons_succ, List.setIfInBounds_toArray, List.set_cons_zero, List.set_cons_succ]
          refine wpAnyH_take (i := 14) (v := .bool bb) rfl (by kernel_rfl) (by kernel_rfl) (by kernel_rfl) (fun _ _ _ h => h) (Or.inl ⟨by rfl, fun w hSw => by dsimp only at hSw; go_simp⟩) hHeld ?_
          simp only [Act.put, List.getElem_toArray, List.getElem_cons_zero, List.getElem_cons_succ, List.setIfInBounds_toArray, List.set_cons_zero, List.set_cons_succ]
          refine wpAnyH_take (i := 15) (v := .slice al5 n5 cl5) rfl (by kernel_rfl) (by kernel_rfl) (by kernel_rfl) (fun _ _ _ h => h) (Or.inl ⟨by rfl, fun w hSw => by dsimp only at hSw; go_simp⟩) hHeld ?_
          simp only [Act.put, List.getElem_toArray, List.getElem_cons_zero, List.getElem_cons_succ, List.setIfInBounds_toArray, List.set_cons_zero, List.set_cons_succ]
          refine wpAnyH_done (by kernel_rfl) ?_ _
          clear CS S4d
          have S6 : Hid (HT w w5 h m ao3 (opl id os (k + 1)) ((k + 1 : Nat) : Int) h2 m2 ao4 (opl id os (k + 1)) ((k + 1 : Nat) : Int) al5 cl5 (opl id os (k + 1)) none 0 []) := by
            have e : ((k + 1 : Nat) : Int) = (k : Int) + 1 := by omega
            rw [e]
            exact S5.out
          clear S5
          go_wp2_with fail
          exact ⟨⟨k + 1, al5, cl5, ao3, ao4, by go_num, by omega, by omega, by rw [HL5.out], S6⟩, by simp [intOf]; omega⟩
        · rw [decide_eq_false hx2] at CLt
          go_wp2_with fail
          refine CLt.out.mono ?_
          rintro e w2 ⟨rfl, hb2⟩
          have B2 := hide (bthen S2.out.a.below hb2)
          clear hb2 CLt S2
          go_wp2_with fail
          refine (CV.out _).mono ?_
          rintro e w3 ⟨rfl, hb3⟩
          have B3 := hide (bthen B2.out hb3)
          clear hb3
          go_wp2_with fail
          go_ret
          exact ⟨rfl, B3.out⟩
      · have hlt' : (k : Int) < (os.length : Int) := by omega
        have h40' : ¬ (k : Int) < 40 := by omega
        have HK4 : Hid (k = min os.length 40) := by show _ = _; omega
        have HZ := hide (opl_zero os k)
        generalize opl id os k = L at *
        have U0 : Hid (Tu w wr h m ah L h2 m2 ah2 L k al cl none 0 []) := ⟨S2.out, fun i j a b h => (by simp at h), fun x hx => (by simp at hx), by simp⟩
        clear S2
        go_wp2_with fail
        go_loopw [5, 6] (fun v5 v6 wr => ∃ (L' M : List RwS) (al am : Option Addr) (cl cm : Nat), v5 = .slice al L'.length cl ∧ v6 = .slice am M.length cm ∧ Hid (Tu w wr h m ah L' h2 m2 ah2 L k al cl am cm M)) (fun v5 _ _ => sliceLen v5)
        case atStart => exact ⟨L, [], al, none, cl, 0, rfl, rfl, U0⟩
        case round =>
          clear U0
          obtain ⟨L', M, al, am, cl, cm, rfl, rfl, U1⟩ := hrel
          have hln : L'.length ≤ 40 ∧ M.length ≤ 40 := by have := U1.out.len; omega
          obtain ⟨wA, hwA⟩ : ∃ x, x = wr := ⟨_, rfl⟩
          subst hwA
          by_cases hL : L' = []
          · subst hL
            have hML : M.length = L.length := by have := U1.out.len; simpa using this
            have CLn : Hid (∀ W, Below wA.heap.size wA W → Calls Try.prog 20 #[.pointer (some ⟨h2, 0, none⟩)] W fun e w' => e = .returned (.int .i64 (L.length : Nat)) ∧ w' = W) := fun W hW => len_is (U1.out.ht.b.hp.below hW) (by omega)
            have CAl : Hid (∀ W, Below wA.heap.size wA W → Calls Try.prog 19 #[.pointer (some ⟨h2, 0, none⟩)] W (AllTo noI W L)) := fun W hW => all_is ordsN lessN (U1.out.ht.b.hp.below hW) (by omega)
            have CFi : Hid (∀ W, Below wA.heap.size wA W → Calls Try.prog 28 #[.pointer (some ⟨h2, 0, none⟩)] W (Firsts noI W L)) := fun W hW => first_is ordsN (U1.out.ht.b.hp.below hW) (by omega)
            have CIo : Hid (∀ (W : World) (asl : Option Addr) (cs : Nat) (ks : List ByteArray), Below w.heap.size w W → Ks.slot W asl ks → Alls noI L ks → Calls Try.prog 29 #[.slice asl ks.length cs, .slice ao os.length cap] W fun e w' => e = .returned (.bool true) ∧ Below W.heap.size W w') := fun W asl cs ks hW hs ha => inOrder_is hs (HRW.out.imp id fun ⟨b, off, e, hl, h⟩ => ⟨b, off, e, Nat.lt_of_lt_of_le hl hW.size, Opn.reads_below h hl hW⟩) k HK4.out (by rw [HZ.out]; exact alls_zero ha)
            have BE := hide U1.out.ht.a.below
            have HALen : Hid (∀ ks, Alls noI L ks → ks.length = L.length) := fun ks h => alls_len h HON.out HTU.out
            by_cases hL0 : L = []
            · subst hL0
              obtain rfl : M = [] := List.length_eq_zero_iff.1 hML
              clear hML U1 HZ
              go_wp2_with fail
              refine (CLn.out wA (brefl _)).mono ?_
              rintro e w2 ⟨rfl, hw⟩
              have hw' := hw.symm
              clear hw
              subst hw'
              go_wp2_with fail
              refine (CAl.out wA (brefl _)).mono ?_
              rintro e w3 ⟨ar, cr, ks, rfl, hsl, _, hall, hb3⟩
              have HSL := hide hsl
              have HAL := hide hall
              have B3 := hide hb3
              obtain rfl : ks = [] := List.length_eq_zero_iff.1 (by rw [HALen.out ks hall]; rfl)
              clear hsl hall hb3
              go_wp2_with fail
              refine (CFi.out w3 B3.out).mono ?_
              rintro e w4 ⟨hF, hb4⟩
              have B4 := hide (bthen B3.out hb4)
              have HSL4 := hide (Ks.below HSL.out hb4)
              obtain rfl : e = .returned (.tuple #[.string ⟨#[]⟩, .int .i64 0, .bool false]) := by
                rcases hF with ⟨_, h⟩ | ⟨x, hF, _⟩
                · exact h
                · exact absurd hF.1 (by simp)
              clear hF
              have CI := hide (CIo.out w4 ar cr [] (bthen BE.out B4.out) HSL4.out HAL.out)
              clear hb4
              go_wp2_with fail
              refine CI.out.mono ?_
              rintro e w5 ⟨rfl, hb5⟩
              have B5 := hide (bthen (bthen BE.out B4.out) hb5)
              clear hb5
              go_wp2_with fail
              refine (CV.out _).mono ?_
              rintro e w6 ⟨rfl, hb6⟩
              have B6 := hide (bthen B5.out hb6)
              clear hb6
              go_wp2_with fail
              go_ret
              exact ⟨rfl, B6.out⟩
            · have hpL : (0 : Int) < (L.length : Int) := by have := List.length_pos_iff.2 hL0; omega
              have hpL0 : ((L.length : Int) == 0) = false := by simp; omega
              have hpL1 : ((L.length : Int) == (M.length : Int)) = true := by simp; omega
              clear hML U1 HZ
              go_wp2_with fail
              refine (CLn.out wA (brefl _)).mono ?_
              rintro e w2 ⟨rfl, hw⟩
              have hw' := hw.symm
              clear hw
              subst hw'
              go_wp2_with fail
              refine (CAl.out wA (brefl _)).mono ?_
              rintro e w3 ⟨ar, cr, ks, rfl, hsl, _, hall, hb3⟩
              have HSL := hide hsl
              have HAL := hide hall
              have B3 := hide hb3
              have hks : ((ks.length : Int) == (L.length : Int)) = true := by have := HALen.out ks hall; simp; omega
              have hks0 : (0 : Int) < (ks.length : Int) := by have := HALen.out ks hall; omega
              clear hsl hall hb3
              go_wp2_with fail
              refine (CFi.out w3 B3.out).mono ?_
              rintro e w4 ⟨hF, hb4⟩
              have B4 := hide (bthen B3.out hb4)
              have HSL4 := hide (Ks.below HSL.out hb4)
              rcases hF with ⟨h0, _⟩ | ⟨x, hF, rfl⟩
              · exact absurd h0 hL0
              have CI := hide (CIo.out w4 ar cr ks (bthen BE.out B4.out) HSL4.out HAL.out)
              obtain ⟨rs, hrs, _⟩ := alls_inv HAL.out HTU.out hF
              obtain ⟨bs, os', rfl, hbs, hcs⟩ : ∃ b off, ar = some ⟨b, off, none⟩ ∧ b < w4.heap.size ∧ ∀ j (h : j < ks.length), w4.cell? ⟨b, off + j, none⟩ = some (.string ks[j]) := by
                rcases HSL4.out with h | h
                · rw [h] at hks0; simp at hks0
                · exact h
              have d0 : w4.cell? ⟨bs, os', none⟩ = some (.string x.k) := by
                have := hcs 0 (by omega)
                simp only [hrs, List.getElem_cons_zero, Nat.add_zero] at this
                exact this
              obtain ⟨xk, xr, xt⟩ := x
              simp only at d0
              have hbeq : (xk == xk) = true := (Go.MapKept.bytes_beq xk xk).2 rfl
              clear hb4 hcs hrs hF HSL HSL4
              go_wp2_with fail
              refine CI.out.mono ?_
              rintro e w5 ⟨rfl, hb5⟩
              have B5 := hide (bthen (bthen BE.out B4.out) hb5)
              clear hb5
              go_wp2_with fail
              refine (CV.out _).mono ?_
              rintro e w6 ⟨rfl, hb6⟩
              have B6 := hide (bthen B5.out hb6)
              clear hb6
              go_wp2_with fail
              go_ret
              exact ⟨rfl, B6.out⟩
          · have hpos : 0 < L'.length := List.length_pos_iff.2 hL
            have hpos' : (0 : Int) < (L'.length : Int) := by omega
            have HNL := hide hL
            clear hL
            have GL0 : Hid (Gst L' 0 0) := ⟨hpos, fun p x y h => absurd h (Nat.not_lt_zero _), fun p x y h => absurd h (Nat.not_lt_zero _)⟩
            obtain ⟨b, off, rfl, hr⟩ : ∃ b off, al = some ⟨b, off, none⟩ ∧ Th.reads wA b off L' := by
              rcases U1.out.ht.gl.row with h | h
              · exact absurd h HNL.out
              · exact h
            clear hr
            have HRD : Hid (∀ W, Th.Good W (some ⟨b, off, none⟩) cl L' → Th.reads W b off L') := fun W hG => by
              rcases hG.row with h | ⟨b', off', e, h⟩
              · exact absurd h HNL.out
              · simp only [Option.some.injEq, Addr.mk.injEq] at e
                obtain ⟨rfl, rfl, _⟩ := e
                exact h
            go_wp2_with fail
            go_loopw [8, 9] (fun v8 v9 wi => ∃ i j : Nat, v8 = .int .i64 j ∧ v9 = .int .i64 i ∧ i ≤ L'.length ∧ Hid (Gst L' i j) ∧ Hid (Below wA.heap.size wA wi)) (fun _ v9 _ => L'.length - (intOf v9).toNat)
            case atStart => exact ⟨0, 0, rfl, rfl, Nat.zero_le _, GL0, brefl wA⟩
            case round =>
              obtain ⟨i, j, rfl, rfl, hi, GG, BI⟩ := hrel
              clear GL0
              have hj := GG.out.lt
              have hj' : (j : Int) < (L'.length : Int) := by omega
              have HY := hide (List.getElem?_eq_getElem hj)
              by_cases hil : i < L'.length
              · have hil' : (i : Int) < (L'.length : Int) := by omega
                have hr := HRD.out wr (U1.out.ht.gl.below BI.out)
                obtain ⟨_, e1⟩ := Th.reads_at hr i hil
                obtain ⟨_, d1⟩ := Th.reads_at hr j hj
                have HX := hide (List.getElem?_eq_getElem hil)
                clear hr
                generalize L'[i] = x at *
                generalize L'[j] = y at *
                obtain ⟨xk, xr, xt⟩ := x
                obtain ⟨yk, yr, yt⟩ := y
                simp only at e1 d1
                by_cases hxy : yr < xr
                · have HB1 : Hid (Gst L' (i + 1) i) := ⟨hil, fun p x y hp hx hy => by
                    rw [HX.out, Option.some.injEq] at hy
                    subst hy
                    by_cases e : p = i
                    · subst e
                      rw [HX.out, Option.some.injEq] at hx
                      subst hx
                      exact Int.le_refl _
                    · have := GG.out.low p x _ (by omega) hx HY.out
                      simp only at this ⊢
                      omega, fun p x y hp hx hy => by
                    rw [HX.out, Option.some.injEq] at hy
                    subst hy
                    have := GG.out.low p x _ hp hx HY.out
                    simp only at this ⊢
                    omega⟩
                  clear GG
                  go_wp2_with fail
                  go_quiet (fail)
                  have HB2 := hide (below_drewN BI.out nq)
                  generalize wr.drewN nq = W2 at *
                  go_wp2_with fail
                  exact ⟨⟨i + 1, i, rfl, by go_num, by omega, HB1, HB2⟩, by simp [intOf]; omega⟩
                · have HB1 : Hid (Gst L' (i + 1) j) := ⟨hj, fun p x y hp hx hy => by
                    by_cases e : p = i
                    · subst e
                      rw [HX.out, Option.some.injEq] at hx
                      rw [HY.out, Option.some.injEq] at hy
                      subst hx hy
                      simp only
                      omega
                    · exact GG.out.low p x y (by omega) hx hy, GG.out.first⟩
                  clear GG
                  go_wp2_with fail
                  go_quiet (fail)
                  have HB2 := hide (below_drewN BI.out nq)
                  generalize wr.drewN nq = W2 at *
                  go_wp2_with fail
                  exact ⟨⟨i + 1, j, rfl, by go_num, by omega, HB1, HB2⟩, by simp [intOf]; omega⟩
              · have hil' : ¬ (i : Int) < (L'.length : Int) := by omega
                obtain rfl : i = L'.length := by omega
                have HF := hide (GG.out.fst U1.out.ht.a.hp.turn HY.out)
                have S2 := hide (U1.out.ht.next BI.out)
                have CP := hide (pop_is ordsG lessG S2.out.a.hp (by omega))
                clear GG BI
                go_wp2_with fail
                refine CP.out.mono ?_
                rintro e w4 hp
                rcases hp with ⟨e2, _⟩ | ⟨x, hF, rfl, h4, k4⟩
                · exact absurd e2 HNL.out
                have hxy := hF.one S2.out.a.hp.turn HF.out
                have S4 := hide (S2.out.popa h4 k4)
                have hlw := fst_len S2.out.a.hp hF
                have HNX : Hid (∀ y ∈ M, y.k ≠ x.k) := fun y hy => U1.out.no y hy x hF.1
                have HLW := hide hlw
                obtain ⟨d0, d1⟩ := Th.reads_at (HRD.out w4 S4.out.gl) j hj
                rw [← hxy] at d0 d1
                have CS := hide (refSet_is S4.out.gm U1.out.once (by omega) x.k 0 0)
                have HOL := hide S2.out.a.hp.once
                have hlw2 : (without L' x.k).length < L'.length := by omega
                clear h4 k4 hF hxy CP hlw HF HY S2
                obtain ⟨xk, xr, xt⟩ := x
                simp only at d0 d1 CS S4 HNX HLW hlw2
                have hbeq : (xk != xk) = false := by rw [bne, (Go.MapKept.bytes_beq xk xk).2 rfl]; rfl
                go_wp2_with fail
                refine CS.out.mono ?_
                intro e w5 hs
                obtain ⟨am5, cm5, he, S5⟩ := S4.out.setm hs
                have hM1 : without M xk ++ [(⟨xk, 0, 0⟩ : RwS)] = M ++ [⟨xk, 0, 0⟩] := by rw [without_no HNX.out]
                rw [hM1] at he S5
                subst he
                have U5 : Hid (Once (M ++ [(⟨xk, 0, 0⟩ : RwS)]) ∧ (∀ x ∈ M ++ [(⟨xk, 0, 0⟩ : RwS)], ∀ y ∈ without L' xk, x.k ≠ y.k) ∧ (M ++ [(⟨xk, 0, 0⟩ : RwS)]).length + (without L' xk).length = L.length) := by
                  refine ⟨once_snoc U1.out.once HNX.out, fun x hx y hy => ?_, ?_⟩
                  · rcases List.mem_append.1 hx with hx | hx
                    · exact U1.out.no x hx y (mem_without.1 hy).1
                    · rw [List.mem_singleton] at hx
                      subst hx
                      exact fun e => (mem_without.1 hy).2 e.symm
                  · have h1 := U1.out.len
                    have h2 := HLW.out
                    rw [List.length_append, List.length_singleton]
                    omega
                replace S5 := hide S5
                clear hs hM1 CS S4 U1
                obtain ⟨M5, hM5⟩ : ∃ M5, M ++ [(⟨xk, 0, 0⟩ : RwS)] = M5 := ⟨_, rfl⟩
                rw [hM5] at S5 U5 ⊢
                obtain ⟨bb, hbb⟩ : ∃ b, (rowOf M xk).isSome = b := ⟨_, rfl⟩
                rw [hbb]
                clear hM5 hbb
                have CD := hide (refDrop_is S5.out.gl HOL.out (by omega) xk)
                go_wp2_with fail
                refine CD.out.mono ?_
                rintro e w6 ⟨al6, cl6, rfl, hg6, hb6, hnr⟩
                have U6 : Hid (Tu w w6 h m ah (without L' xk) h2 m2 ah2 L k al6 cl6 am5 cm5 M5) := ⟨S5.out.dropl hg6 hb6 hnr, U5.out.1, U5.out.2.1, U5.out.2.2⟩
                clear hg6 hb6 hnr CD S5 U5
                go_wp2_with fail
                exact ⟨⟨_, M5, al6, am5, cl6, cm5, rfl, rfl, U6⟩, by simp [sliceLen]; omega⟩
    · have hlt' : ¬ (k : Int) < (os.length : Int) := by omega
      have HK4 : Hid (k = min os.length 40) := by show _ = _; omega
      have HZ := hide (opl_zero os k)
      generalize opl id os k = L at *
      have U0 : Hid (Tu w wr h m ah L h2 m2 ah2 L k al cl none 0 []) := ⟨S2.out, fun i j a b h => (by simp at h), fun x hx => (by simp at hx), by simp⟩
      clear S2
      go_wp2_with fail
      go_loopw [5, 6] (fun v5 v6 wr => ∃ (L' M : List RwS) (al am : Option Addr) (cl cm : Nat), v5 = .slice al L'.length cl ∧ v6 = .slice am M.length cm ∧ Hid (Tu w wr h m ah L' h2 m2 ah2 L k al cl am cm M)) (fun v5 _ _ => sliceLen v5)
      case atStart => exact ⟨L, [], al, none, cl, 0, rfl, rfl, U0⟩
      case round =>
        clear U0
        obtain ⟨L', M, al, am, cl, cm, rfl, rfl, U1⟩ := hrel
        have hln : L'.length ≤ 40 ∧ M.length ≤ 40 := by have := U1.out.len; omega
        obtain ⟨wA, hwA⟩ : ∃ x, x = wr := ⟨_, rfl⟩
        subst hwA
        by_cases hL : L' = []
        · subst hL
          have hML : M.length = L.length := by have := U1.out.len; simpa using this
          have CLn : Hid (∀ W, Below wA.heap.size wA W → Calls Try.prog 20 #[.pointer (some ⟨h2, 0, none⟩)] W fun e w' => e = .returned (.int .i64 (L.length : Nat)) ∧ w' = W) := fun W hW => len_is (U1.out.ht.b.hp.below hW) (by omega)
          have CAl : Hid (∀ W, Below wA.heap.size wA W → Calls Try.prog 19 #[.pointer (some ⟨h2, 0, none⟩)] W (AllTo noI W L)) := fun W hW => all_is ordsN lessN (U1.out.ht.b.hp.below hW) (by omega)
          have CFi : Hid (∀ W, Below wA.heap.size wA W → Calls Try.prog 28 #[.pointer (some ⟨h2, 0, none⟩)] W (Firsts noI W L)) := fun W hW => first_is ordsN (U1.out.ht.b.hp.below hW) (by omega)
          have CIo : Hid (∀ (W : World) (asl : Option Addr) (cs : Nat) (ks : List ByteArray), Below w.heap.size w W → Ks.slot W asl ks → Alls noI L ks → Calls Try.prog 29 #[.slice asl ks.length cs, .slice ao os.length cap] W fun e w' => e = .returned (.bool true) ∧ Below W.heap.size W w') := fun W asl cs ks hW hs ha => inOrder_is hs (HRW.out.imp id fun ⟨b, off, e, hl, h⟩ => ⟨b, off, e, Nat.lt_of_lt_of_le hl hW.size, Opn.reads_below h hl hW⟩) k HK4.out (by rw [HZ.out]; exact alls_zero ha)
          have BE := hide U1.out.ht.a.below
          have HALen : Hid (∀ ks, Alls noI L ks → ks.length = L.length) := fun ks h => alls_len h HON.out HTU.out
          by_cases hL0 : L = []
          · subst hL0
            obtain rfl : M = [] := List.length_eq_zero_iff.1 hML
            clear hML U1 HZ
            go_wp2_with fail
            refine (CLn.out wA (brefl _)).mono ?_
            rintro e w2 ⟨rfl, hw⟩
            have hw' := hw.symm
            clear hw
            subst hw'
            go_wp2_with fail
            refine (CAl.out wA (brefl _)).mono ?_
            rintro e w3 ⟨ar, cr, ks, rfl, hsl, _, hall, hb3⟩
            have HSL := hide hsl
            have HAL := hide hall
            have B3 := hide hb3
            obtain rfl : ks = [] := List.length_eq_zero_iff.1 (by rw [HALen.out ks hall]; rfl)
            clear hsl hall hb3
            go_wp2_with fail
            refine (CFi.out w3 B3.out).mono ?_
            rintro e w4 ⟨hF, hb4⟩
            have B4 := hide (bthen B3.out hb4)
            have HSL4 := hide (Ks.below HSL.out hb4)
            obtain rfl : e = .returned (.tuple #[.string ⟨#[]⟩, .int .i64 0, .bool false]) := by
              rcases hF with ⟨_, h⟩ | ⟨x, hF, _⟩
              · exact h
              · exact absurd hF.1 (by simp)
            clear hF
            have CI := hide (CIo.out w4 ar cr [] (bthen BE.out B4.out) HSL4.out HAL.out)
            clear hb4
            go_wp2_with fail
            refine CI.out.mono ?_
            rintro e w5 ⟨rfl, hb5⟩
            have B5 := hide (bthen (bthen BE.out B4.out) hb5)
            clear hb5
            go_wp2_with fail
            refine (CV.out _).mono ?_
            rintro e w6 ⟨rfl, hb6⟩
            have B6 := hide (bthen B5.out hb6)
            clear hb6
            go_wp2_with fail
            go_ret
            exact ⟨rfl, B6.out⟩
          · have hpL : (0 : Int) < (L.length : Int) := by have := List.length_pos_iff.2 hL0; omega
            have hpL0 : ((L.length : Int) == 0) = false := by simp; omega
            have hpL1 : ((L.length : Int) == (M.length : Int)) = true := by simp; omega
            clear hML U1 HZ
            go_wp2_with fail
            refine (CLn.out wA (brefl _)).mono ?_
            rintro e w2 ⟨rfl, hw⟩
            have hw' := hw.symm
            clear hw
            subst hw'
            go_wp2_with fail
            refine (CAl.out wA (brefl _)).mono ?_
            rintro e w3 ⟨ar, cr, ks, rfl, hsl, _, hall, hb3⟩
            have HSL := hide hsl
            have HAL := hide hall
            have B3 := hide hb3
            have hks : ((ks.length : Int) == (L.length : Int)) = true := by have := HALen.out ks hall; simp; omega
            have hks0 : (0 : Int) < (ks.length : Int) := by have := HALen.out ks hall; omega
            clear hsl hall hb3
            go_wp2_with fail
            refine (CFi.out w3 B3.out).mono ?_
            rintro e w4 ⟨hF, hb4⟩
            have B4 := hide (bthen B3.out hb4)
            have HSL4 := hide (Ks.below HSL.out hb4)
            rcases hF with ⟨h0, _⟩ | ⟨x, hF, rfl⟩
            · exact absurd h0 hL0
            have CI := hide (CIo.out w4 ar cr ks (bthen BE.out B4.out) HSL4.out HAL.out)
            obtain ⟨rs, hrs, _⟩ := alls_inv HAL.out HTU.out hF
            obtain ⟨bs, os', rfl, hbs, hcs⟩ : ∃ b off, ar = some ⟨b, off, none⟩ ∧ b < w4.heap.size ∧ ∀ j (h : j < ks.length), w4.cell? ⟨b, off + j, none⟩ = some (.string ks[j]) := by
              rcases HSL4.out with h | h
              · rw [h] at hks0; simp at hks0
              · exact h
            have d0 : w4.cell? ⟨bs, os', none⟩ = some (.string x.k) := by
              have := hcs 0 (by omega)
              simp only [hrs, List.getElem_cons_zero, Nat.add_zero] at this
              exact this
            obtain ⟨xk, xr, xt⟩ := x
            simp only at d0
            have hbeq : (xk == xk) = true := (Go.MapKept.bytes_beq xk xk).2 rfl
            clear hb4 hcs hrs hF HSL HSL4
            go_wp2_with fail
            refine CI.out.mono ?_
            rintro e w5 ⟨rfl, hb5⟩
            have B5 := hide (bthen (bthen BE.out B4.out) hb5)
            clear hb5
            go_wp2_with fail
            refine (CV.out _).mono ?_
            rintro e w6 ⟨rfl, hb6⟩
            have B6 := hide (bthen B5.out hb6)
            clear hb6
            go_wp2_with fail
            go_ret
            exact ⟨rfl, B6.out⟩
        · have hpos : 0 < L'.length := List.length_pos_iff.2 hL
          have hpos' : (0 : Int) < (L'.length : Int) := by omega
          have HNL := hide hL
          clear hL
          have GL0 : Hid (Gst L' 0 0) := ⟨hpos, fun p x y h => absurd h (Nat.not_lt_zero _), fun p x y h => absurd h (Nat.not_lt_zero _)⟩
          obtain ⟨b, off, rfl, hr⟩ : ∃ b off, al = some ⟨b, off, none⟩ ∧ Th.reads wA b off L' := by
            rcases U1.out.ht.gl.row with h | h
            · exact absurd h HNL.out
            · exact h
          clear hr
          have HRD : Hid (∀ W, Th.Good W (some ⟨b, off, none⟩) cl L' → Th.reads W b off L') := fun W hG => by
            rcases hG.row with h | ⟨b', off', e, h⟩
            · exact absurd h HNL.out
            · simp only [Option.some.injEq, Addr.mk.injEq] at e
              obtain ⟨rfl, rfl, _⟩ := e
              exact h
          go_wp2_with fail
          go_loopw [8, 9] (fun v8 v9 wi => ∃ i j : Nat, v8 = .int .i64 j ∧ v9 = .int .i64 i ∧ i ≤ L'.length ∧ Hid (Gst L' i j) ∧ Hid (Below wA.heap.size wA wi)) (fun _ v9 _ => L'.length - (intOf v9).toNat)
          case atStart => exact ⟨0, 0, rfl, rfl, Nat.zero_le _, GL0, brefl wA⟩
          case round =>
            obtain ⟨i, j, rfl, rfl, hi, GG, BI⟩ := hrel
            clear GL0
            have hj := GG.out.lt
            have hj' : (j : Int) < (L'.length : Int) := by omega
            have HY := hide (List.getElem?_eq_getElem hj)
            by_cases hil : i < L'.length
            · have hil' : (i : Int) < (L'.length : Int) := by omega
              have hr := HRD.out wr (U1.out.ht.gl.below BI.out)
              obtain ⟨_, e1⟩ := Th.reads_at hr i hil
              obtain ⟨_, d1⟩ := Th.reads_at hr j hj
              have HX := hide (List.getElem?_eq_getElem hil)
              clear hr
              generalize L'[i] = x at *
              generalize L'[j] = y at *
              obtain ⟨xk, xr, xt⟩ := x
              obtain ⟨yk, yr, yt⟩ := y
              simp only at e1 d1
              by_cases hxy : yr < xr
              · have HB1 : Hid (Gst L' (i + 1) i) := ⟨hil, fun p x y hp hx hy => by
                  rw [HX.out, Option.some.injEq] at hy
                  subst hy
                  by_cases e : p = i
                  · subst e
                    rw [HX.out, Option.some.injEq] at hx
                    subst hx
                    exact Int.le_refl _
                  · have := GG.out.low p x _ (by omega) hx HY.out
                    simp only at this ⊢
                    omega, fun p x y hp hx hy => by
                  rw [HX.out, Option.some.injEq] at hy
                  subst hy
                  have := GG.out.low p x _ hp hx HY.out
                  simp only at this ⊢
                  omega⟩
                clear GG
                go_wp2_with fail
                go_quiet (fail)
                have HB2 := hide (below_drewN BI.out nq)
                generalize wr.drewN nq = W2 at *
                go_wp2_with fail
                exact ⟨⟨i + 1, i, rfl, by go_num, by omega, HB1, HB2⟩, by simp [intOf]; omega⟩
              · have HB1 : Hid (Gst L' (i + 1) j) := ⟨hj, fun p x y hp hx hy => by
                  by_cases e : p = i
                  · subst e
                    rw [HX.out, Option.some.injEq] at hx
                    rw [HY.out, Option.some.injEq] at hy
                    subst hx hy
                    simp only
                    omega
                  · exact GG.out.low p x y (by omega) hx hy, GG.out.first⟩
                clear GG
                go_wp2_with fail
                go_quiet (fail)
                have HB2 := hide (below_drewN BI.out nq)
                generalize wr.drewN nq = W2 at *
                go_wp2_with fail
                exact ⟨⟨i + 1, j, rfl, by go_num, by omega, HB1, HB2⟩, by simp [intOf]; omega⟩
            · have hil' : ¬ (i : Int) < (L'.length : Int) := by omega
              obtain rfl : i = L'.length := by omega
              have HF := hide (GG.out.fst U1.out.ht.a.hp.turn HY.out)
              have S2 := hide (U1.out.ht.next BI.out)
              have CP := hide (pop_is ordsG lessG S2.out.a.hp (by omega))
              clear GG BI
              go_wp2_with fail
              refine CP.out.mono ?_
              rintro e w4 hp
              rcases hp with ⟨e2, _⟩ | ⟨x, hF, rfl, h4, k4⟩
              · exact absurd e2 HNL.out
              have hxy := hF.one S2.out.a.hp.turn HF.out
              have S4 := hide (S2.out.popa h4 k4)
              have hlw := fst_len S2.out.a.hp hF
              have HNX : Hid (∀ y ∈ M, y.k ≠ x.k) := fun y hy => U1.out.no y hy x hF.1
              have HLW := hide hlw
              obtain ⟨d0, d1⟩ := Th.reads_at (HRD.out w4 S4.out.gl) j hj
              rw [← hxy] at d0 d1
              have CS := hide (refSet_is S4.out.gm U1.out.once (by omega) x.k 0 0)
              have HOL := hide S2.out.a.hp.once
              have hlw2 : (without L' x.k).length < L'.length := by omega
              clear h4 k4 hF hxy CP hlw HF HY S2
              obtain ⟨xk, xr, xt⟩ := x
              simp only at d0 d1 CS S4 HNX HLW hlw2
              have hbeq : (xk != xk) = false := by rw [bne, (Go.MapKept.bytes_beq xk xk).2 rfl]; rfl
              go_wp2_with fail
              refine CS.out.mono ?_
              intro e w5 hs
              obtain ⟨am5, cm5, he, S5⟩ := S4.out.setm hs
              have hM1 : without M xk ++ [(⟨xk, 0, 0⟩ : RwS)] = M ++ [⟨xk, 0, 0⟩] := by rw [without_no HNX.out]
              rw [hM1] at he S5
              subst he
              have U5 : Hid (Once (M ++ [(⟨xk, 0, 0⟩ : RwS)]) ∧ (∀ x ∈ M ++ [(⟨xk, 0, 0⟩ : RwS)], ∀ y ∈ without L' xk, x.k ≠ y.k) ∧ (M ++ [(⟨xk, 0, 0⟩ : RwS)]).length + (without L' xk).length = L.length) := by
                refine ⟨once_snoc U1.out.once HNX.out, fun x hx y hy => ?_, ?_⟩
                · rcases List.mem_append.1 hx with hx | hx
                  · exact U1.out.no x hx y (mem_without.1 hy).1
                  · rw [List.mem_singleton] at hx
                    subst hx
                    exact fun e => (mem_without.1 hy).2 e.symm
                · have h1 := U1.out.len
                  have h2 := HLW.out
                  rw [List.length_append, List.length_singleton]
                  omega
              replace S5 := hide S5
              clear hs hM1 CS S4 U1
              obtain ⟨M5, hM5⟩ : ∃ M5, M ++ [(⟨xk, 0, 0⟩ : RwS)] = M5 := ⟨_, rfl⟩
              rw [hM5] at S5 U5 ⊢
              obtain ⟨bb, hbb⟩ : ∃ b, (rowOf M xk).isSome = b := ⟨_, rfl⟩
              rw [hbb]
              clear hM5 hbb
              have CD := hide (refDrop_is S5.out.gl HOL.out (by omega) xk)
              go_wp2_with fail
              refine CD.out.mono ?_
              rintro e w6 ⟨al6, cl6, rfl, hg6, hb6, hnr⟩
              have U6 : Hid (Tu w w6 h m ah (without L' xk) h2 m2 ah2 L k al6 cl6 am5 cm5 M5) := ⟨S5.out.dropl hg6 hb6 hnr, U5.out.1, U5.out.2.1, U5.out.2.2⟩
              clear hg6 hb6 hnr CD S5 U5
              go_wp2_with fail
              exact ⟨⟨_, M5, al6, am5, cl6, cm5, rfl, rfl, U6⟩, by simp [sliceLen]; omega⟩
end Go.Proofs.Ytkfomjinilmjaaa
