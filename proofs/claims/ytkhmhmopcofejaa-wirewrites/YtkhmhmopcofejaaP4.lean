import Derived.Test.YtkhmhmopcofejaaAS1
import Derived.Test.YtkhmhmopcofejaaE4
/- The program's Compare and Same. -/
namespace Go.Proofs.Ytkhmhmopcofejaa
open Go.RowKit Go.Sort

theorem fz_step (l : List Int) (k : Nat) (h : k < l.length) : fz (l.drop k) = if l[k] ≠ 0 then l[k] else fz (l.drop (k + 1)) := by
  rw [List.drop_eq_getElem_cons h]
  rfl
theorem orN_is (g c : Nat) (l : List Int) (r : Int) (hr : fz l = r) (W : World) (h : Is.reads W g 0 l) (hl : l.length ≤ 1000) :
    Calls Try.prog 92 #[.slice (some ⟨g, 0, none⟩) l.length c] W fun e w' => e = .returned (.int .i64 r) ∧ w' = W := by
  have HR := hide hr
  have HD := hide h
  clear hr h
  go_enter Try.func92, Try.ntmps92
  go_wp2_with fail
  go_loop [8] (fun t => ∃ k : Nat, k ≤ l.length ∧ t = .int .i64 k ∧ Hid (fz (l.drop k) = r)) (fun t => l.length - (intOf t).toNat)
  case atStart => exact ⟨0, Nat.zero_le _, rfl, HR.out⟩
  case round =>
    obtain ⟨k, hk, rfl, HK⟩ := hrel
    by_cases hkl : k < l.length
    · have hkl' : (k : Int) < (l.length : Int) := by omega
      have e0 := HD.out k hkl
      rw [Nat.zero_add] at e0
      have hd := fz_step l k hkl
      generalize l[k] = y at e0 hd
      by_cases hy : y = 0
      · have HK' : Hid (fz (l.drop (k + 1)) = r) := by show _ = _; rw [← HK.out, hd, if_neg (by simp [hy])]
        subst hy
        clear hd
        go_wp2_with fail
        exact ⟨⟨k + 1, hkl, by go_num, HK'.out⟩, by simp [intOf]; omega⟩
      · have HK' : Hid (y = r) := by show _ = _; rw [← HK.out, hd, if_pos hy]
        have hy' : (y != 0) = true := by simpa using hy
        clear hd
        go_wp2_with fail
        go_ret
        exact ⟨ret_int HK'.out, rfl⟩
    · have hkl' : ¬ (k : Int) < (l.length : Int) := by omega
      have HK' : Hid (r = 0) := by show _ = _; rw [← HK.out, List.drop_eq_nil_of_le (by omega)]; rfl
      go_wp2_with fail
      go_ret
      exact ⟨ret_int HK'.out.symm, rfl⟩
theorem fz_last (a b : List Int) : fz [Is.compare a b] = fz [Cm.Co.ci a.length b.length, Is.scmp a b] := by
  rcases Nat.lt_trichotomy a.length b.length with h | h | h
  · have e1 : Is.compare a b = -1 := if_pos h
    have e2 : Cm.Co.ci (a.length : Int) (b.length : Int) = -1 := if_pos (by omega)
    rw [e1, e2]
    rfl
  · have e1 : Is.compare a b = Is.scmp a b := by rw [Is.scmp_lex a b h, Is.compare, if_neg (by omega), if_neg (by omega)]
    have e2 : Cm.Co.ci (a.length : Int) (b.length : Int) = 0 := by rw [Cm.Co.ci, if_neg (by omega), if_neg (by omega)]
    rw [e1, e2]
    rfl
  · have e1 : Is.compare a b = 1 := by rw [Is.compare, if_neg (by omega), if_pos h]
    have e2 : Cm.Co.ci (a.length : Int) (b.length : Int) = 1 := by rw [Cm.Co.ci, if_neg (by omega), if_pos (by omega)]
    rw [e1, e2]
    rfl
theorem fz_cons (x : Int) {l m : List Int} (h : fz l = fz m) : fz (x :: l) = fz (x :: m) := by
  unfold fz
  rw [h]
theorem parts8 (x0 x1 x2 x5 y0 y1 y2 y5 : Int) (pa kl pb kb : List Int) (cm cb : List Cm.Co.C) : At.cmp ⟨x0, x1, x2, pa, cm, x5, kl⟩ ⟨y0, y1, y2, pb, cb, y5, kb⟩ = fz [Cm.Co.ci x0 y0, Cm.Co.ci x1 y1, Cm.Co.ci x2 y2, Is.compare pa pb, Cm.Co.compare cm cb, Cm.Co.ci x5 y5, Cm.Co.ci kl.length kb.length, Is.scmp kl kb] := by
  show fz [Cm.Co.ci x0 y0, Cm.Co.ci x1 y1, Cm.Co.ci x2 y2, Is.compare pa pb, Cm.Co.compare cm cb, Cm.Co.ci x5 y5, Is.compare kl kb] = _
  exact fz_cons _ (fz_cons _ (fz_cons _ (fz_cons _ (fz_cons _ (fz_cons _ (fz_last kl kb))))))
theorem reads8 {W : World} {g t : Nat} {v0 v1 v2 v3 v4 v5 v6 v7 : Int} (h : W.heap[g]? = some (.cells #[.int .i64 v0, .int .i64 v1, .int .i64 v2, .int .i64 v3, .int .i64 v4, .int .i64 v5, .int .i64 v6, .int .i64 v7] t (0, 0))) : Is.reads W g 0 [v0, v1, v2, v3, v4, v5, v6, v7] := by
  intro j hj
  rw [Nat.zero_add]
  match j, hj with
  | 0, _ | 1, _ | 2, _ | 3, _ | 4, _ | 5, _ | 6, _ | 7, _ => unfold World.cell?; rw [h]; rfl
set_option maxHeartbeats 8000000 in
set_option maxRecDepth 100000 in
theorem cmpA_is (a b : At) (po co ko po' co' ko' : Option Addr) (cp cc ck cp' cc' ck' : Nat) (r : Int) (hr : At.cmp a b = r) (w : World) (hA : At.lies w a po co ko) (hB : At.lies w b po' co' ko') (h1 : a.path.length ≤ 200) (h2 : a.comms.length ≤ 200) (h3 : a.cl.length ≤ 200) (h1' : b.path.length ≤ 200) (h2' : b.comms.length ≤ 200) (h3' : b.cl.length ≤ 200) :
    Calls Try.prog 77 #[.agg #[.int .i64 a.pf, .int .i64 a.md, .int .i64 a.og, .slice po a.path.length cp, .slice co a.comms.length cc, .int .i64 a.fr, .slice ko a.cl.length ck], .agg #[.int .i64 b.pf, .int .i64 b.md, .int .i64 b.og, .slice po' b.path.length cp', .slice co' b.comms.length cc', .int .i64 b.fr, .slice ko' b.cl.length ck']] w fun e w' => e = .returned (.int .i64 r) ∧ Below w.heap.size w w' := by
  obtain ⟨x0, x1, x2, pa, cm, x5, kl⟩ := a
  obtain ⟨y0, y1, y2, pb, cb, y5, kb⟩ := b
  simp only at *
  have HR := hide ((parts8 x0 x1 x2 x5 y0 y1 y2 y5 pa kl pb kb cm cb).symm.trans hr)
  have HB := hide (balloc (balloc (brefl w) (.cells #[.int .i64 x0, .int .i64 x1, .int .i64 x2, .slice po pa.length cp, .slice co cm.length cc, .int .i64 x5, .slice ko kl.length ck] 26)) (.cells #[.int .i64 y0, .int .i64 y1, .int .i64 y2, .slice po' pb.length cp', .slice co' cb.length cc', .int .i64 y5, .slice ko' kb.length ck'] 26))
  have N0 := hide (heap_new w #[.int .i64 x0, .int .i64 x1, .int .i64 x2, .slice po pa.length cp, .slice co cm.length cc, .int .i64 x5, .slice ko kl.length ck] 26)
  have N1 := hide (heap_new (w.alloc (.cells #[.int .i64 x0, .int .i64 x1, .int .i64 x2, .slice po pa.length cp, .slice co cm.length cc, .int .i64 x5, .slice ko kl.length ck] 26)) #[.int .i64 y0, .int .i64 y1, .int .i64 y2, .slice po' pb.length cp', .slice co' cb.length cc', .int .i64 y5, .slice ko' kb.length ck'] 26)
  have N0' := hide (((balloc (brefl (w.alloc (.cells #[.int .i64 x0, .int .i64 x1, .int .i64 x2, .slice po pa.length cp, .slice co cm.length cc, .int .i64 x5, .slice ko kl.length ck] 26))) (.cells #[.int .i64 y0, .int .i64 y1, .int .i64 y2, .slice po' pb.length cp', .slice co' cb.length cc', .int .i64 y5, .slice ko' kb.length ck'] 26)).block w.heap.size (heap_lt N0.out)).trans N0.out)
  have LA := hide (At.lies_below hA HB.out)
  have LB := hide (At.lies_below hB HB.out)
  clear hA hB hr N0
  go_enter Try.func77, Try.ntmps77
  go_wp2_with fail
  rw [show (w.alloc (.cells #[.int .i64 x0, .int .i64 x1, .int .i64 x2, .slice po pa.length cp, .slice co cm.length cc, .int .i64 x5, .slice ko kl.length ck] 26)).heap.size = w.heap.size + 1 by simp] at N1
  generalize (w.alloc (.cells #[.int .i64 x0, .int .i64 x1, .int .i64 x2, .slice po pa.length cp, .slice co cm.length cc, .int .i64 x5, .slice ko kl.length ck] 26)).alloc (.cells #[.int .i64 y0, .int .i64 y1, .int .i64 y2, .slice po' pb.length cp', .slice co' cb.length cc', .int .i64 y5, .slice ko' kb.length ck'] 26) = W at *
  obtain ⟨p, hp⟩ : ∃ p, w.heap.size = p := ⟨_, rfl⟩
  rw [hp] at N0' N1
  rw [hp]
  clear hp
  generalize p + 1 = q at *
  have CS : Hid (∀ (x y : Int) (W : World), Calls Try.prog 93 #[.int .i64 x, .int .i64 y] W fun e w' => e = .returned (.int .i64 (Cm.Co.ci x y)) ∧ Below W.heap.size W w') := fun x y W => (Cm.cmpI_any x y W).mono fun _ _ ⟨h, k⟩ => ⟨h, by rw [k]; exact brefl W⟩
  have CP : Hid (∀ W', Below W.heap.size W W' → Calls Try.prog 94 #[.slice po pa.length cp, .slice po' pb.length cp'] W' fun e w' => e = .returned (.int .i64 (Is.compare pa pb)) ∧ Below W'.heap.size W' w') := fun W' hb => compare_is po po' cp cp' pa pb _ rfl W' (Is.slot_below LA.out.1 hb) (Is.slot_below LB.out.1 hb) (by omega) (by omega)
  have CC : Hid (∀ W', Below W.heap.size W W' → Calls Try.prog 95 #[.slice co cm.length cc, .slice co' cb.length cc'] W' fun e w' => e = .returned (.int .i64 (Cm.Co.compare cm cb)) ∧ Below W'.heap.size W' w') := fun W' hb => Cm.compare_is co co' cc cc' cm cb _ rfl W' (Cm.Co.slot_below LA.out.2.1 hb) (Cm.Co.slot_below LB.out.2.1 hb) (by omega) (by omega)
  have CK : Hid (∀ W', Below W.heap.size W W' → Calls Try.prog 96 #[.slice ko kl.length ck, .slice ko' kb.length ck'] W' fun e w' => e = .returned (.int .i64 (Is.scmp kl kb)) ∧ Below W'.heap.size W' w') := fun W' hb => (scompare_is ko ko' ck ck' kl kb _ rfl W' (Is.slot_below LA.out.2.2 hb) (Is.slot_below LB.out.2.2 hb) (by omega) (by omega)).mono fun _ _ ⟨h, k⟩ => ⟨h, by rw [k]; exact brefl W'⟩
  have SH : Hid (∀ W', Below W.heap.size W W' → (fun w' => w'.cell? ⟨p, 0, none⟩ = some (.int .i64 x0) ∧ w'.cell? ⟨p, 1, none⟩ = some (.int .i64 x1) ∧ w'.cell? ⟨p, 2, none⟩ = some (.int .i64 x2) ∧ w'.cell? ⟨p, 3, none⟩ = some (.slice po pa.length cp) ∧ w'.cell? ⟨p, 4, none⟩ = some (.slice co cm.length cc) ∧ w'.cell? ⟨p, 5, none⟩ = some (.int .i64 x5) ∧ w'.cell? ⟨p, 6, none⟩ = some (.slice ko kl.length ck) ∧ w'.cell? ⟨q, 0, none⟩ = some (.int .i64 y0) ∧ w'.cell? ⟨q, 1, none⟩ = some (.int .i64 y1) ∧ w'.cell? ⟨q, 2, none⟩ = some (.int .i64 y2) ∧ w'.cell? ⟨q, 3, none⟩ = some (.slice po' pb.length cp') ∧ w'.cell? ⟨q, 4, none⟩ = some (.slice co' cb.length cc') ∧ w'.cell? ⟨q, 5, none⟩ = some (.int .i64 y5) ∧ w'.cell? ⟨q, 6, none⟩ = some (.slice ko' kb.length ck')) W') := fun W' hb => by
    obtain ⟨c0, c1, c2, c3, c4, c5, c6⟩ := seven_cells ((hb.block p (heap_lt N0'.out)).trans N0'.out)
    obtain ⟨d0, d1, d2, d3, d4, d5, d6⟩ := seven_cells ((hb.block q (heap_lt N1.out)).trans N1.out)
    exact ⟨c0, c1, c2, c3, c4, c5, c6, d0, d1, d2, d3, d4, d5, d6⟩
  have B0 : Hid (Below W.heap.size W W.drew) := (brefl W).drew
  clear h1 h2 h3 h1' h2' h3' LA LB N0' N1
  refine wp_region_held_drew (S := fun w' => w'.cell? ⟨p, 0, none⟩ = some (.int .i64 x0) ∧ w'.cell? ⟨p, 1, none⟩ = some (.int .i64 x1) ∧ w'.cell? ⟨p, 2, none⟩ = some (.int .i64 x2) ∧ w'.cell? ⟨p, 3, none⟩ = some (.slice po pa.length cp) ∧ w'.cell? ⟨p, 4, none⟩ = some (.slice co cm.length cc) ∧ w'.cell? ⟨p, 5, none⟩ = some (.int .i64 x5) ∧ w'.cell? ⟨p, 6, none⟩ = some (.slice ko kl.length ck) ∧ w'.cell? ⟨q, 0, none⟩ = some (.int .i64 y0) ∧ w'.cell? ⟨q, 1, none⟩ = some (.int .i64 y1) ∧ w'.cell? ⟨q, 2, none⟩ = some (.int .i64 y2) ∧ w'.cell? ⟨q, 3, none⟩ = some (.slice po' pb.length cp') ∧ w'.cell? ⟨q, 4, none⟩ = some (.slice co' cb.length cc') ∧ w'.cell? ⟨q, 5, none⟩ = some (.int .i64 y5) ∧ w'.cell? ⟨q, 6, none⟩ = some (.slice ko' kb.length ck')) (by kernel_rfl) (SH.out _ B0.out) (fun hHeld => ?_)
  refine wpAnyH_take (i := 0) (v := .pointer (some ⟨p, 0, none⟩)) rfl (by kernel_rfl) (by kernel_rfl) (by kernel_rfl) (fun _ _ _ h => h) (Or.inl ⟨by rfl, fun w hSw => by dsimp only at hSw; go_simp⟩) hHeld ?_
  simp only [Act.put, List.getElem_toArray, List.getElem_cons_zero, List.setIfInBounds_toArray, List.set_cons_zero, List.set_cons_succ]
  refine wpAnyH_take (i := 1) (v := .int .i64 x0) rfl (by kernel_rfl) (by kernel_rfl) (by kernel_rfl) (fun _ _ _ h => h) (Or.inl ⟨by rfl, fun w hSw => by dsimp only at hSw; go_simp⟩) hHeld ?_
  simp only [Act.put, List.getElem_toArray, List.getElem_cons_zero, List.getElem_cons_succ, List.setIfInBounds_toArray, List.set_cons_zero, List.set_cons_succ]
  refine wpAnyH_take (i := 2) (v := .pointer (some ⟨q, 0, none⟩)) rfl (by kernel_rfl) (by kernel_rfl) (by kernel_rfl) (fun _ _ _ h => h) (Or.inl ⟨by rfl, fun w hSw => by dsimp only at hSw; go_simp⟩) hHeld ?_
  simp only [Act.put, List.getElem_toArray, List.getElem_cons_zero, List.getElem_cons_succ, List.setIfInBounds_toArray, List.set_cons_zero, List.set_cons_succ]
  refine wpAnyH_take (i := 3) (v := .int .i64 y0) rfl (by kernel_rfl) (by kernel_rfl) (by kernel_rfl) (fun _ _ _ h => h) (Or.inl ⟨by rfl, fun w hSw => by dsimp only at hSw; go_simp⟩) hHeld ?_
  simp only [Act.put, List.getElem_toArray, List.getElem_cons_zero, List.getElem_cons_succ, List.setIfInBounds_toArray, List.set_cons_zero, List.set_cons_succ]
  refine wpAnyH_take (i := 5) (v := .pointer (some ⟨p, 1, none⟩)) rfl (by kernel_rfl) (by kernel_rfl) (by kernel_rfl) (fun _ _ _ h => h) (Or.inl ⟨by rfl, fun w hSw => by dsimp only at hSw; go_simp⟩) hHeld ?_
  simp only [Act.put, List.getElem_toArray, List.getElem_cons_zero, List.getElem_cons_succ, List.setIfInBounds_toArray, List.set_cons_zero, List.set_cons_succ]
  refine wpAnyH_take (i := 6) (v := .int .i64 x1) rfl (by kernel_rfl) (by kernel_rfl) (by kernel_rfl) (fun _ _ _ h => h) (Or.inl ⟨by rfl, fun w hSw => by dsimp only at hSw; go_simp⟩) hHeld ?_
  simp only [Act.put, List.getElem_toArray, List.getElem_cons_zero, List.getElem_cons_succ, List.setIfInBounds_toArray, List.set_cons_zero, List.set_cons_succ]
  refine wpAnyH_take (i := 7) (v := .pointer (some ⟨q, 1, none⟩)) rfl (by kernel_rfl) (by kernel_rfl) (by kernel_rfl) (fun _ _ _ h => h) (Or.inl ⟨by rfl, fun w hSw => by dsimp only at hSw; go_simp⟩) hHeld ?_
  simp only [Act.put, List.getElem_toArray, List.getElem_cons_zero, List.getElem_cons_succ, List.setIfInBounds_toArray, List.set_cons_zero, List.set_cons_succ]
  refine wpAnyH_take (i := 8) (v := .int .i64 y1) rfl (by kernel_rfl) (by kernel_rfl) (by kernel_rfl) (fun _ _ _ h => h) (Or.inl ⟨by rfl, fun w hSw => by dsimp only at hSw; go_simp⟩) hHeld ?_
  simp only [Act.put, List.getElem_toArray, List.getElem_cons_zero, List.getElem_cons_succ, List.setIfInBounds_toArray, List.set_cons_zero, List.set_cons_succ]
  refine wpAnyH_take (i := 10) (v := .pointer (some ⟨p, 2, none⟩)) rfl (by kernel_rfl) (by kernel_rfl) (by kernel_rfl) (fun _ _ _ h => h) (Or.inl ⟨by rfl, fun w hSw => by dsimp only at hSw; go_simp⟩) hHeld ?_
  simp only [Act.put, List.getElem_toArray, List.getElem_cons_zero, List.getElem_cons_succ, List.setIfInBounds_toArray, List.set_cons_zero, List.set_cons_succ]
  refine wpAnyH_take (i := 11) (v := .int .i64 x2) rfl (by kernel_rfl) (by kernel_rfl) (by kernel_rfl) (fun _ _ _ h => h) (Or.inl ⟨by rfl, fun w hSw => by dsimp only at hSw; go_simp⟩) hHeld ?_
  simp only [Act.put, List.getElem_toArray, List.getElem_cons_zero, List.getElem_cons_succ, List.setIfInBounds_toArray, List.set_cons_zero, List.set_cons_succ]
  refine wpAnyH_take (i := 12) (v := .pointer (some ⟨q, 2, none⟩)) rfl (by kernel_rfl) (by kernel_rfl) (by kernel_rfl) (fun _ _ _ h => h) (Or.inl ⟨by rfl, fun w hSw => by dsimp only at hSw; go_simp⟩) hHeld ?_
  simp only [Act.put, List.getElem_toArray, List.getElem_cons_zero, List.getElem_cons_succ, List.setIfInBounds_toArray, List.set_cons_zero, List.set_cons_succ]
  refine wpAnyH_take (i := 13) (v := .int .i64 y2) rfl (by kernel_rfl) (by kernel_rfl) (by kernel_rfl) (fun _ _ _ h => h) (Or.inl ⟨by rfl, fun w hSw => by dsimp only at hSw; go_simp⟩) hHeld ?_
  simp only [Act.put, List.getElem_toArray, List.getElem_cons_zero, List.getElem_cons_succ, List.setIfInBounds_toArray, List.set_cons_zero, List.set_cons_succ]
  refine wpAnyH_take (i := 15) (v := .pointer (some ⟨p, 3, none⟩)) rfl (by kernel_rfl) (by kernel_rfl) (by kernel_rfl) (fun _ _ _ h => h) (Or.inl ⟨by rfl, fun w hSw => by dsimp only at hSw; go_simp⟩) hHeld ?_
  simp only [Act.put, List.getElem_toArray, List.getElem_cons_zero, List.getElem_cons_succ, List.setIfInBounds_toArray, List.set_cons_zero, List.set_cons_succ]
  refine wpAnyH_take (i := 16) (v := .slice po pa.length cp) rfl (by kernel_rfl) (by kernel_rfl) (by kernel_rfl) (fun _ _ _ h => h) (Or.inl ⟨by rfl, fun w hSw => by dsimp only at hSw; go_simp⟩) hHeld ?_
  simp only [Act.put, List.getElem_toArray, List.getElem_cons_zero, List.getElem_cons_succ, List.setIfInBounds_toArray, List.set_cons_zero, List.set_cons_succ]
  refine wpAnyH_take (i := 17) (v := .pointer (some ⟨q, 3, none⟩)) rfl (by kernel_rfl) (by kernel_rfl) (by kernel_rfl) (fun _ _ _ h => h) (Or.inl ⟨by rfl, fun w hSw => by dsimp only at hSw; go_simp⟩) hHeld ?_
  simp only [Act.put, List.getElem_toArray, List.getElem_cons_zero, List.getElem_cons_succ, List.setIfInBounds_toArray, List.set_cons_zero, List.set_cons_succ]
  refine wpAnyH_take (i := 18) (v := .slice po' pb.length cp') rfl (by kernel_rfl) (by kernel_rfl) (by kernel_rfl) (fun _ _ _ h => h) (Or.inl ⟨by rfl, fun w hSw => by dsimp only at hSw; go_simp⟩) hHeld ?_
  simp only [Act.put, List.getElem_toArray, List.getElem_cons_zero, List.getElem_cons_succ, List.setIfInBounds_toArray, List.set_cons_zero, List.set_cons_succ]
  refine wpAnyH_take (i := 20) (v := .pointer (some ⟨p, 4, none⟩)) rfl (by kernel_rfl) (by kernel_rfl) (by kernel_rfl) (fun _ _ _ h => h) (Or.inl ⟨by rfl, fun w hSw => by dsimp only at hSw; go_simp⟩) hHeld ?_
  simp only [Act.put, List.getElem_toArray, List.getElem_cons_zero, List.getElem_cons_succ, List.setIfInBounds_toArray, List.set_cons_zero, List.set_cons_succ]
  refine wpAnyH_take (i := 21) (v := .slice co cm.length cc) rfl (by kernel_rfl) (by kernel_rfl) (by kernel_rfl) (fun _ _ _ h => h) (Or.inl ⟨by rfl, fun w hSw => by dsimp only at hSw; go_simp⟩) hHeld ?_
  simp only [Act.put, List.getElem_toArray, List.getElem_cons_zero, List.getElem_cons_succ, List.setIfInBounds_toArray, List.set_cons_zero, List.set_cons_succ]
  refine wpAnyH_take (i := 22) (v := .pointer (some ⟨q, 4, none⟩)) rfl (by kernel_rfl) (by kernel_rfl) (by kernel_rfl) (fun _ _ _ h => h) (Or.inl ⟨by rfl, fun w hSw => by dsimp only at hSw; go_simp⟩) hHeld ?_
  simp only [Act.put, List.getElem_toArray, List.getElem_cons_zero, List.getElem_cons_succ, List.setIfInBounds_toArray, List.set_cons_zero, List.set_cons_succ]
  refine wpAnyH_take (i := 23) (v := .slice co' cb.length cc') rfl (by kernel_rfl) (by kernel_rfl) (by kernel_rfl) (fun _ _ _ h => h) (Or.inl ⟨by rfl, fun w hSw => by dsimp only at hSw; go_simp⟩) hHeld ?_
  simp only [Act.put, List.getElem_toArray, List.getElem_cons_zero, List.getElem_cons_succ, List.setIfInBounds_toArray, List.set_cons_zero, List.set_cons_succ]
  refine wpAnyH_take (i := 25) (v := .pointer (some ⟨p, 5, none⟩)) rfl (by kernel_rfl) (by kernel_rfl) (by kernel_rfl) (fun _ _ _ h => h) (Or.inl ⟨by rfl, fun w hSw => by dsimp only at hSw; go_simp⟩) hHeld ?_
  simp only [Act.put, List.getElem_toArray, List.getElem_cons_zero, List.getElem_cons_succ, List.setIfInBounds_toArray, List.set_cons_zero, List.set_cons_succ]
  refine wpAnyH_take (i := 26) (v := .int .i64 x5) rfl (by kernel_rfl) (by kernel_rfl) (by kernel_rfl) (fun _ _ _ h => h) (Or.inl ⟨by rfl, fun w hSw => by dsimp only at hSw; go_simp⟩) hHeld ?_
  simp only [Act.put, List.getElem_toArray, List.getElem_cons_zero, List.getElem_cons_succ, List.setIfInBounds_toArray, List.set_cons_zero, List.set_cons_succ]
  refine wpAnyH_take (i := 27) (v := .pointer (some ⟨q, 5, none⟩)) rfl (by kernel_rfl) (by kernel_rfl) (by kernel_rfl) (fun _ _ _ h => h) (Or.inl ⟨by rfl, fun w hSw => by dsimp only at hSw; go_simp⟩) hHeld ?_
  simp only [Act.put, List.getElem_toArray, List.getElem_cons_zero, List.getElem_cons_succ, List.setIfInBounds_toArray, List.set_cons_zero, List.set_cons_succ]
  refine wpAnyH_take (i := 28) (v := .int .i64 y5) rfl (by kernel_rfl) (by kernel_rfl) (by kernel_rfl) (fun _ _ _ h => h) (Or.inl ⟨by rfl, fun w hSw => by dsimp only at hSw; go_simp⟩) hHeld ?_
  simp only [Act.put, List.getElem_toArray, List.getElem_cons_zero, List.getElem_cons_succ, List.setIfInBounds_toArray, List.set_cons_zero, List.set_cons_succ]
  refine wpAnyH_take (i := 30) (v := .pointer (some ⟨p, 6, none⟩)) rfl (by kernel_rfl) (by kernel_rfl) (by kernel_rfl) (fun _ _ _ h => h) (Or.inl ⟨by rfl, fun w hSw => by dsimp only at hSw; go_simp⟩) hHeld ?_
  simp only [Act.put, List.getElem_toArray, List.getElem_cons_zero, List.getElem_cons_succ, List.setIfInBounds_toArray, List.set_cons_zero, List.set_cons_succ]
  refine wpAnyH_take (i := 31) (v := .slice ko kl.length ck) rfl (by kernel_rfl) (by kernel_rfl) (by kernel_rfl) (fun _ _ _ h => h) (Or.inl ⟨by rfl, fun w hSw => by dsimp only at hSw; go_simp⟩) hHeld ?_
  simp only [Act.put, List.getElem_toArray, List.getElem_cons_zero, List.getElem_cons_succ, List.setIfInBounds_toArray, List.set_cons_zero, List.set_cons_succ]
  refine wpAnyH_take (i := 32) (v := .int .i64 kl.length) rfl (by kernel_rfl) (by kernel_rfl) (by kernel_rfl) (fun _ _ _ h => h) (Or.inl ⟨by rfl, fun w hSw => by dsimp only at hSw; go_simp⟩) hHeld ?_
  simp only [Act.put, List.getElem_toArray, List.getElem_cons_zero, List.getElem_cons_succ, List.setIfInBounds_toArray, List.set_cons_zero, List.set_cons_succ]
  refine wpAnyH_take (i := 33) (v := .pointer (some ⟨q, 6, none⟩)) rfl (by kernel_rfl) (by kernel_rfl) (by kernel_rfl) (fun _ _ _ h => h) (Or.inl ⟨by rfl, fun w hSw => by dsimp only at hSw; go_simp⟩) hHeld ?_
  simp only [Act.put, List.getElem_toArray, List.getElem_cons_zero, List.getElem_cons_succ, List.setIfInBounds_toArray, List.set_cons_zero, List.set_cons_succ]
  refine wpAnyH_take (i := 34) (v := .slice ko' kb.length ck') rfl (by kernel_rfl) (by kernel_rfl) (by kernel_rfl) (fun _ _ _ h => h) (Or.inl ⟨by rfl, fun w hSw => by dsimp only at hSw; go_simp⟩) hHeld ?_
  simp only [Act.put, List.getElem_toArray, List.getElem_cons_zero, List.getElem_cons_succ, List.setIfInBounds_toArray, List.set_cons_zero, List.set_cons_succ]
  refine wpAnyH_take (i := 35) (v := .int .i64 kb.length) rfl (by kernel_rfl) (by kernel_rfl) (by kernel_rfl) (fun _ _ _ h => h) (Or.inl ⟨by rfl, fun w hSw => by dsimp only at hSw; go_simp⟩) hHeld ?_
  simp only [Act.put, List.getElem_toArray, List.getElem_cons_zero, List.getElem_cons_succ, List.setIfInBounds_toArray, List.set_cons_zero, List.set_cons_succ]
  refine wpAnyH_take (i := 37) (v := .pointer (some ⟨p, 6, none⟩)) rfl (by kernel_rfl) (by kernel_rfl) (by kernel_rfl) (fun _ _ _ h => h) (Or.inl ⟨by rfl, fun w hSw => by dsimp only at hSw; go_simp⟩) hHeld ?_
  simp only [Act.put, List.getElem_toArray, List.getElem_cons_zero, List.getElem_cons_succ, List.setIfInBounds_toArray, List.set_cons_zero, List.set_cons_succ]
  refine wpAnyH_take (i := 38) (v := .slice ko kl.length ck) rfl (by kernel_rfl) (by kernel_rfl) (by kernel_rfl) (fun _ _ _ h => h) (Or.inl ⟨by rfl, fun w hSw => by dsimp only at hSw; go_simp⟩) hHeld ?_
  simp only [Act.put, List.getElem_toArray, List.getElem_cons_zero, List.getElem_cons_succ, List.setIfInBounds_toArray, List.set_cons_zero, List.set_cons_succ]
  refine wpAnyH_take (i := 39) (v := .pointer (some ⟨q, 6, none⟩)) rfl (by kernel_rfl) (by kernel_rfl) (by kernel_rfl) (fun _ _ _ h => h) (Or.inl ⟨by rfl, fun w hSw => by dsimp only at hSw; go_simp⟩) hHeld ?_
  simp only [Act.put, List.getElem_toArray, List.getElem_cons_zero, List.getElem_cons_succ, List.setIfInBounds_toArray, List.set_cons_zero, List.set_cons_succ]
  refine wpAnyH_take (i := 40) (v := .slice ko' kb.length ck') rfl (by kernel_rfl) (by kernel_rfl) (by kernel_rfl) (fun _ _ _ h => h) (Or.inl ⟨by rfl, fun w hSw => by dsimp only at hSw; go_simp⟩) hHeld ?_
  simp only [Act.put, List.getElem_toArray, List.getElem_cons_zero, List.getElem_cons_succ, List.setIfInBounds_toArray, List.set_cons_zero, List.set_cons_succ]
  refine wpAnyH_ready (rs := [4]) (by kernel_rfl) (by simp) ?_
  refine AllReadyH.cons rfl (fun K hK => ?_) AllReadyH.nil
  go_simp
  go_wp2_with (refine (CS.out x0 y0 _).mono ?_; rintro e w1 ⟨rfl, hb⟩; have B1 := hide (bthen B0.out hb); clear hb)
  refine hK.out _ _ (SH.out _ B1.out) (fun hHeld => ?_)
  clear hK K
  try simp only [Act.put, List.getElem_toArray, List.getElem_cons_zero, List.getElem_cons_succ, List.setIfInBounds_toArray, List.set_cons_zero, List.set_cons_succ]
  refine wpAnyH_ready (rs := [9]) (by kernel_rfl) (by simp) ?_
  refine AllReadyH.cons rfl (fun K hK => ?_) AllReadyH.nil
  go_simp
  go_wp2_with (refine (CS.out x1 y1 _).mono ?_; rintro e w2 ⟨rfl, hb⟩; have B2 := hide (bthen B1.out hb); clear hb)
  refine hK.out _ _ (SH.out _ B2.out) (fun hHeld => ?_)
  clear hK K
  try simp only [Act.put, List.getElem_toArray, List.getElem_cons_zero, List.getElem_cons_succ, List.setIfInBounds_toArray, List.set_cons_zero, List.set_cons_succ]
  refine wpAnyH_ready (rs := [14]) (by kernel_rfl) (by simp) ?_
  refine AllReadyH.cons rfl (fun K hK => ?_) AllReadyH.nil
  go_simp
  go_wp2_with (refine (CS.out x2 y2 _).mono ?_; rintro e w3 ⟨rfl, hb⟩; have B3 := hide (bthen B2.out hb); clear hb)
  refine hK.out _ _ (SH.out _ B3.out) (fun hHeld => ?_)
  clear hK K
  try simp only [Act.put, List.getElem_toArray, List.getElem_cons_zero, List.getElem_cons_succ, List.setIfInBounds_toArray, List.set_cons_zero, List.set_cons_succ]
  refine wpAnyH_ready (rs := [19]) (by kernel_rfl) (by simp) ?_
  refine AllReadyH.cons rfl (fun K hK => ?_) AllReadyH.nil
  go_simp
  go_wp2_with (refine (CP.out _ B3.out).mono ?_; rintro e w4 ⟨rfl, hb⟩; have B4 := hide (bthen B3.out hb); clear hb)
  refine hK.out _ _ (SH.out _ B4.out) (fun hHeld => ?_)
  clear hK K
  try simp only [Act.put, List.getElem_toArray, List.getElem_cons_zero, List.getElem_cons_succ, List.setIfInBounds_toArray, List.set_cons_zero, List.set_cons_succ]
  refine wpAnyH_ready (rs := [24]) (by kernel_rfl) (by simp) ?_
  refine AllReadyH.cons rfl (fun K hK => ?_) AllReadyH.nil
  go_simp
  go_wp2_with (refine (CC.out _ B4.out).mono ?_; rintro e w5 ⟨rfl, hb⟩; have B5 := hide (bthen B4.out hb); clear hb)
  refine hK.out _ _ (SH.out _ B5.out) (fun hHeld => ?_)
  clear hK K
  try simp only [Act.put, List.getElem_toArray, List.getElem_cons_zero, List.getElem_cons_succ, List.setIfInBounds_toArray, List.set_cons_zero, List.set_cons_succ]
  refine wpAnyH_ready (rs := [29]) (by kernel_rfl) (by simp) ?_
  refine AllReadyH.cons rfl (fun K hK => ?_) AllReadyH.nil
  go_simp
  go_wp2_with (refine (CS.out x5 y5 _).mono ?_; rintro e w6 ⟨rfl, hb⟩; have B6 := hide (bthen B5.out hb); clear hb)
  refine hK.out _ _ (SH.out _ B6.out) (fun hHeld => ?_)
  clear hK K
  try simp only [Act.put, List.getElem_toArray, List.getElem_cons_zero, List.getElem_cons_succ, List.setIfInBounds_toArray, List.set_cons_zero, List.set_cons_succ]
  refine wpAnyH_ready (rs := [36]) (by kernel_rfl) (by simp) ?_
  refine AllReadyH.cons rfl (fun K hK => ?_) AllReadyH.nil
  go_simp
  go_wp2_with (refine (CS.out kl.length kb.length _).mono ?_; rintro e w7 ⟨rfl, hb⟩; have B7 := hide (bthen B6.out hb); clear hb)
  refine hK.out _ _ (SH.out _ B7.out) (fun hHeld => ?_)
  clear hK K
  try simp only [Act.put, List.getElem_toArray, List.getElem_cons_zero, List.getElem_cons_succ, List.setIfInBounds_toArray, List.set_cons_zero, List.set_cons_succ]
  refine wpAnyH_ready (rs := [41]) (by kernel_rfl) (by simp) ?_
  refine AllReadyH.cons rfl (fun K hK => ?_) AllReadyH.nil
  go_simp
  go_wp2_with (refine (CK.out _ B7.out).mono ?_; rintro e w8 ⟨rfl, hb⟩; have B8 := hide (bthen B7.out hb); clear hb)
  refine hK.out _ _ (SH.out _ B8.out) (fun hHeld => ?_)
  clear hK K
  try simp only [Act.put, List.getElem_toArray, List.getElem_cons_zero, List.getElem_cons_succ, List.setIfInBounds_toArray, List.set_cons_zero, List.set_cons_succ]
  generalize Cm.Co.ci x0 y0 = v0 at *
  generalize Cm.Co.ci x1 y1 = v1 at *
  generalize Cm.Co.ci x2 y2 = v2 at *
  generalize Is.compare pa pb = v3 at *
  generalize Cm.Co.compare cm cb = v4 at *
  generalize Cm.Co.ci x5 y5 = v5 at *
  generalize Cm.Co.ci kl.length kb.length = v6 at *
  generalize Is.scmp kl kb = v7 at *
  have B9 := hide (bthen B8.out (balloc (brefl w8) (.cells #[.int .i64 v0, .int .i64 v1, .int .i64 v2, .int .i64 v3, .int .i64 v4, .int .i64 v5, .int .i64 v6, .int .i64 v7] 3)))
  have N9 := hide (heap_new w8 #[.int .i64 v0, .int .i64 v1, .int .i64 v2, .int .i64 v3, .int .i64 v4, .int .i64 v5, .int .i64 v6, .int .i64 v7] 3)
  refine wpAnyH_ready (rs := [42]) (by kernel_rfl) (by simp) ?_
  refine AllReadyH.cons rfl (fun K hK => ?_) AllReadyH.nil
  go_simp
  refine hK.out _ _ (SH.out _ B9.out) (fun hHeld => ?_)
  clear hK K
  try simp only [Act.put, List.getElem_toArray, List.getElem_cons_zero, List.getElem_cons_succ, List.setIfInBounds_toArray, List.set_cons_zero, List.set_cons_succ]
  have CO : Hid (Calls Try.prog 92 #[.slice (some ⟨w8.heap.size, 0, none⟩) 8 8] (w8.alloc (.cells #[.int .i64 v0, .int .i64 v1, .int .i64 v2, .int .i64 v3, .int .i64 v4, .int .i64 v5, .int .i64 v6, .int .i64 v7] 3)) fun e w' => e = .returned (.int .i64 r) ∧ Below (w8.alloc (.cells #[.int .i64 v0, .int .i64 v1, .int .i64 v2, .int .i64 v3, .int .i64 v4, .int .i64 v5, .int .i64 v6, .int .i64 v7] 3)).heap.size (w8.alloc (.cells #[.int .i64 v0, .int .i64 v1, .int .i64 v2, .int .i64 v3, .int .i64 v4, .int .i64 v5, .int .i64 v6, .int .i64 v7] 3)) w') := (orN_is w8.heap.size 8 [v0, v1, v2, v3, v4, v5, v6, v7] r HR.out _ (reads8 N9.out) (by simp)).mono fun _ _ ⟨h, k⟩ => ⟨h, by rw [k]; exact brefl _⟩
  generalize w8.alloc (.cells #[.int .i64 v0, .int .i64 v1, .int .i64 v2, .int .i64 v3, .int .i64 v4, .int .i64 v5, .int .i64 v6, .int .i64 v7] 3) = W9 at *
  generalize w8.heap.size = g at *
  refine wpAnyH_ready (rs := [43]) (by kernel_rfl) (by simp) ?_
  refine AllReadyH.cons rfl (fun K hK => ?_) AllReadyH.nil
  go_simp
  go_wp2_with (refine CO.out.mono ?_; rintro e w10 ⟨rfl, hb⟩; have B10 := hide (bthen B9.out hb); clear hb)
  refine hK.out _ _ (SH.out _ B10.out) (fun hHeld => ?_)
  clear hK K
  try simp only [Act.put, List.getElem_toArray, List.getElem_cons_zero, List.getElem_cons_succ, List.setIfInBounds_toArray, List.set_cons_zero, List.set_cons_succ]
  refine wpAnyH_take (i := 44) (v := .int .i64 r) rfl (by kernel_rfl) (by kernel_rfl) (by kernel_rfl) (fun _ _ _ h => h) (Or.inl ⟨by rfl, fun w hSw => by dsimp only at hSw; go_simp⟩) hHeld ?_
  simp only [Act.put, List.getElem_toArray, List.getElem_cons_zero, List.getElem_cons_succ, List.setIfInBounds_toArray, List.set_cons_zero, List.set_cons_succ]
  refine wpAnyH_done (by kernel_rfl) ?_ _
  go_wp2_with fail
  go_ret
  exact ⟨rfl, bthen HB.out B10.out⟩
set_option maxRecDepth 100000 in
theorem sameA_is (a b : At) (po co ko po' co' ko' : Option Addr) (cp cc ck cp' cc' ck' : Nat) (r : Bool) (hr : decide (At.cmp a b = 0) = r) (w : World) (hA : At.lies w a po co ko) (hB : At.lies w b po' co' ko') (h1 : a.path.length ≤ 200) (h2 : a.comms.length ≤ 200) (h3 : a.cl.length ≤ 200) (h1' : b.path.length ≤ 200) (h2' : b.comms.length ≤ 200) (h3' : b.cl.length ≤ 200) :
    Calls Try.prog 57 #[.agg #[.int .i64 a.pf, .int .i64 a.md, .int .i64 a.og, .slice po a.path.length cp, .slice co a.comms.length cc, .int .i64 a.fr, .slice ko a.cl.length ck], .agg #[.int .i64 b.pf, .int .i64 b.md, .int .i64 b.og, .slice po' b.path.length cp', .slice co' b.comms.length cc', .int .i64 b.fr, .slice ko' b.cl.length ck']] w fun e w' => e = .returned (.bool r) ∧ Below w.heap.size w w' := by
  have HB := hide (balloc (balloc (brefl w) (.cells #[.int .i64 a.pf, .int .i64 a.md, .int .i64 a.og, .slice po a.path.length cp, .slice co a.comms.length cc, .int .i64 a.fr, .slice ko a.cl.length ck] 26)) (.cells #[.int .i64 b.pf, .int .i64 b.md, .int .i64 b.og, .slice po' b.path.length cp', .slice co' b.comms.length cc', .int .i64 b.fr, .slice ko' b.cl.length ck'] 26))
  obtain ⟨z, hz⟩ : ∃ z, At.cmp a b = z := ⟨_, rfl⟩
  have CC := hide (cmpA_is a b po co ko po' co' ko' cp cc ck cp' cc' ck' z hz _ (At.lies_below hA HB.out) (At.lies_below hB HB.out) h1 h2 h3 h1' h2' h3')
  have HZ : Hid ((z == 0) = r) := by show _ = _; rw [← hr, hz]; rfl
  obtain ⟨x0, x1, x2, pa, cm, x5, kl⟩ := a
  obtain ⟨y0, y1, y2, pb, cb, y5, kb⟩ := b
  simp only at *
  clear hA hB hr hz h1 h2 h3 h1' h2' h3'
  go_enter Try.func57, Try.ntmps57
  go_wp2_with fail
  refine CC.out.mono ?_
  rintro e w2 ⟨rfl, hb2⟩
  have HB2 := hide (bthen HB.out hb2)
  clear hb2 CC HB
  go_wp2_with fail
  go_ret
  exact ⟨ret_bool HZ.out, HB2.out⟩
end Go.Proofs.Ytkhmhmopcofejaa
