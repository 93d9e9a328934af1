import Derived.Test.YtkhmhmopcofejaaQB
import Derived.Test.YtkhmhmopcofejaaQD
import Derived.Test.YtkhmhmopcofejaaRA
/- Rows that grow beside a reader; the contract of wire's prefixes. -/
namespace Go.Proofs.Ytkhmhmopcofejaa
open Go.RowKit Go.Sort

theorem infoX : (Try.prog.info? 56).map (fun i => (i.zero, i.size, i.bytes)) = some (some (.agg #[.int .u32 0, .int .i64 0]), 2, 16) := by kernel_rfl
theorem info_partsX : ∃ i0 : TypeInfo, Try.prog.info? 56 = some i0 ∧ i0.zero = some (.agg #[.int .u32 0, .int .i64 0]) ∧ i0.size = 2 ∧ i0.bytes = 16 := by
  have h := infoX
  cases hi : Try.prog.info? 56 with
  | none => rw [hi] at h; cases h
  | some i0 =>
    rw [hi] at h
    simp only [Option.map_some, Option.some.injEq, Prod.mk.injEq] at h
    exact ⟨i0, rfl, h.1, h.2.1, h.2.2⟩
/-- A prefix behind prefixes. -/
theorem app_pfx {w : World} {ops : Array Oper} {rest : List Oper} {o : Oper} {a : Act} {Q : Exit → Act → World → Prop} (hgd : o.guard = none) (s x : Operand)
    (ho : o.op = .call { callee := .builtin .append, args := #[s, x], argTypes := #[22, 22] }) (B : Nat) (v : Value) (xs : List (Int × Int)) (hs : a.eval s = v) (hown : w.ownsRow B 56 2 v xs.length (Ax.Ad.cells xs))
    (p : Int × Int) (g c : Nat) (hx : a.eval x = .slice (some ⟨g, 0, none⟩) 1 c) (h0 : w.cell? ⟨g, 0, none⟩ = some (.int .u32 p.1)) (h1 : w.cell? ⟨g, 1, none⟩ = some (.int .i64 p.2)) (hn : xs.length ≤ 100000) (hB : B ≤ w.heap.size)
    (h : ∀ v' w', w'.ownsRow B 56 2 v' (xs ++ [p]).length (Ax.Ad.cells (xs ++ [p])) → w.grownBy w' v.ownBlock → wpList Try.prog ops Q rest (a.put o.dst v') w') : wpList Try.prog ops Q (o :: rest) a w := by
  obtain ⟨i0, hi, hz0, hz1, hz2⟩ := info_partsX
  refine wpList_append_own w hgd s x 22 ho B 56 i0 _ 2 16 Try.underlying22 hi hz0 hz1 hz2 rfl (by decide) v xs.length (Ax.Ad.cells xs) hs hown ⟨g, 0, none⟩ 1 c (Ax.Ad.enc p) hx rfl ?_ ?_ (by unfold maxLen; omega) (by omega) hB ?_
  · intro j u hu
    match j, hu with
    | 0, hu => simp [Ax.Ad.enc] at hu; subst hu; simpa [Addr.add] using h0
    | 1, hu => simp [Ax.Ad.enc] at hu; subst hu; simpa [Addr.add] using h1
    | j + 2, hu => simp [Ax.Ad.enc] at hu
  · intro u hu
    simp [Ax.Ad.enc] at hu
    rcases hu with rfl | rfl <;> rfl
  · intro v' w' ho' hg _
    refine h v' w' ?_ hg
    rw [List.length_append, show Ax.Ad.cells (xs ++ [p]) = Ax.Ad.cells xs ++ Ax.Ad.enc p by simp [Ax.Ad.cells]]
    exact ho'
theorem own2_below {w w' : World} {B e s n : Nat} {v : Value} {xs : List Value} (h : w.ownsRow B e s v n xs) (hb : Below w.heap.size w w') : w'.ownsRow B e s v n xs := row_below h hb
theorem grown_own {w0 w w' : World} {rb : Nat} {row : Option Nat} (h : w0.grownBy w (some rb)) (hg : w.grownBy w' row) (hr : ∀ k, row = some k → w0.heap.size ≤ k) : w0.grownBy w' (some rb) :=
  ⟨hg.os.trans h.os, hg.tape.trans h.tape, hg.output.trans h.output, Nat.le_trans h.size hg.size, fun k hk hne => (hg.block k (Nat.lt_of_lt_of_le hk h.size) (fun e => by have := hr k e.symm; omega)).trans (h.block k hk hne)⟩
theorem Rdr.kept {w w1 : World} {rb b off c : Nat} {l : List UInt8} {k : Nat} {row : Option Nat} (h : Rdr w rb b off c l k) (hg : w.grownBy w1 row) (h1 : some rb ≠ row) (h2 : some b ≠ row) : Rdr w1 rb b off c l k :=
  ⟨(hg.block rb (heap_lt h.cell) h1).trans h.cell, fun j hj => hg.cell (a := ⟨b, off + j, none⟩) (h.reads j hj) h2, h.le, h.cap, h.ne, Nat.lt_of_lt_of_le h.lt hg.size, h.len⟩
theorem takes_form {l : List UInt8} {k : Nat} {e : Ending} (h : Takes l k e) : ∃ px py nx q, e = .returned (.tuple #[.agg #[.int .u32 px, .int .i64 py], .int .i64 nx, .int .i64 q]) ∧ ((∃ r, takeP (l.drop k) = some ((px, py), r) ∧ nx = ((l.length - r.length : Nat) : Int) ∧ q = 0) ∨ (takeP (l.drop k) = none ∧ (q != 0) = true)) := by
  rcases h with ⟨⟨px, py⟩, r, h1, rfl⟩ | ⟨h1, q, h2, rfl⟩
  · exact ⟨px, py, _, 0, rfl, .inl ⟨r, h1, rfl, rfl⟩⟩
  · exact ⟨0, 0, 0, q, rfl, .inr ⟨h1, h2⟩⟩
theorem pfxs_cons (p : Int × Int) (m : List (Int × Int)) : pfxs (p :: m) = pfx p ++ pfxs m := rfl
/-- Where no prefix comes next there is no list. -/
theorem no_pfxs : ∀ {acc m : List (Int × Int)} {r : List UInt8}, (∀ p ∈ acc, Gp p) → (∀ p ∈ m, Gp p) → pfxs acc ++ r = pfxs m → r ≠ [] → takeP r = none → False
  | [], m, r, _, hm, he, hr, ht => by
    rw [show pfxs [] = [] from rfl, List.nil_append] at he
    cases m with
    | nil => exact hr he
    | cons q m =>
      rw [he, pfxs_cons, takeP_pfx (hm q (List.mem_cons_self ..))] at ht
      cases ht
  | p :: acc, m, r, ha, hm, he, hr, ht => by
    cases m with
    | nil =>
      have := congrArg List.length he
      rw [pfxs_cons, List.length_append, List.length_append, pfx_length p (ha p (List.mem_cons_self ..))] at this
      simp [pfxs] at this
    | cons q m =>
      rw [pfxs_cons, pfxs_cons, List.append_assoc] at he
      have h1 := takeP_pfx (ha p (List.mem_cons_self ..)) (pfxs acc ++ r)
      rw [he, takeP_pfx (hm q (List.mem_cons_self ..))] at h1
      simp only [Option.some.injEq, Prod.mk.injEq] at h1
      exact no_pfxs (fun x hx => ha x (List.mem_cons_of_mem _ hx)) (fun x hx => hm x (List.mem_cons_of_mem _ hx)) h1.2.symm hr ht
/-- All prefixes that are left are read, or there are none such. -/
def Prefs (w : World) (rb b off c : Nat) (l : List UInt8) (k : Nat) (e : Ending) (w' : World) : Prop :=
  (∃ v acc, e = .returned v ∧ w'.ownsRow w.heap.size 56 2 v acc.length (Ax.Ad.cells acc) ∧ Rdr w' rb b off c l l.length ∧ (∀ p ∈ acc, Gp p) ∧ pfxs acc = l.drop k ∧ acc.length ≤ l.length ∧ w.grownBy w' (some rb)) ∨ (e = pan ∧ (¬ ∃ m, (∀ p ∈ m, Gp p) ∧ pfxs m = l.drop k) ∧ w.grownBy w' (some rb))
set_option maxHeartbeats 8000000 in
set_option maxRecDepth 100000 in
theorem prefixes_is (rb b off c : Nat) (l : List UInt8) (k : Nat) (w : World) (hR : Rdr w rb b off c l k) :
    Calls Try.prog 61 #[.pointer (some ⟨rb, 0, none⟩)] w (Prefs w rb b off c l k) := by
  have HR := hide hR
  have CG := hide (fun W => giveUp_is W)
  have HRB : Hid (rb < w.heap.size ∧ b < w.heap.size ∧ rb ≠ b) := ⟨heap_lt hR.cell, hR.lt, hR.ne⟩
  have hln := hR.len
  clear hR
  go_enter Try.func61, Try.ntmps61
  go_wp2_with fail
  go_loopw [3] (fun v3 wr => ∃ (acc : List (Int × Int)) (k' : Nat), Hid (wr.ownsRow w.heap.size 56 2 v3 acc.length (Ax.Ad.cells acc)) ∧ Hid (Rdr wr rb b off c l k') ∧ w.grownBy wr (some rb) ∧ Hid ((∀ p ∈ acc, Gp p) ∧ pfxs acc ++ l.drop k' = l.drop k ∧ acc.length ≤ k')) (fun _ wr => l.length - (intOf ((wr.cell? ⟨rb, 1, none⟩).getD undef)).toNat)
  case atStart => exact ⟨[], k, World.ownsRow_nil w _ 56 2, HR, grown_refl w _, ⟨fun p hp => (by cases hp), by simp [pfxs], Nat.zero_le _⟩⟩
  case round =>
    obtain ⟨acc, k', HOW, HRD, hgr, HAC⟩ := hrel
    have HGR := hide hgr
    clear hgr
    have CL := hide (left_is rb b off c l k' wr HRD.out)
    have hk1 := HRD.out.le
    obtain ⟨x0, c1', _, _⟩ := two_cells HRD.out.cell
    clear x0
    go_wp2_with fail
    refine CL.out.mono ?_
    rintro e W0 ⟨rfl, b0⟩
    by_cases hlt : k' < l.length
    · have hlt' : (0 : Int) < (l.length : Int) - (k' : Int) := by omega
      have hrest : l.drop k' ≠ [] := fun e => by have := congrArg List.length e; rw [List.length_drop] at this; simp at this; omega
      have HRD' := hide (HRD.out.below b0)
      have HGR' := hide (grown_below HGR.out b0)
      have HOW' := hide (own2_below HOW.out b0)
      clear HRD HGR HOW CL b0
      have HRD := HRD'
      have HGR := HGR'
      have HOW := HOW'
      clear HRD' HGR' HOW'
      obtain ⟨W, hW⟩ : ∃ W, W0 = W := ⟨_, rfl⟩
      subst hW
      obtain ⟨c0, c1, _, _⟩ := two_cells HRD.out.cell
      have CT : Hid (∀ W', Below W0.heap.size W0 W' → Calls Try.prog 86 #[.slice (some ⟨b, off, none⟩) l.length c, .int .i64 (k' : Int)] W' fun e w' => Takes l k' e ∧ Below W'.heap.size W' w') := fun W' hb => take_is b off c l k' hlt (by have := HRD.out.len; omega) HRD.out.cap W' (HRD.out.below hb).reads
      have SH : Hid (∀ W', Below W0.heap.size W0 W' → W'.cell? ⟨rb, 0, none⟩ = some (.slice (some ⟨b, off, none⟩) l.length c) ∧ W'.cell? ⟨rb, 1, none⟩ = some (.int .i64 (k' : Int))) := fun W' hb => ⟨(two_cells (HRD.out.below hb).cell).1, (two_cells (HRD.out.below hb).cell).2.1⟩
      have B0 : Hid (Below W0.heap.size W0 W0.drew) := (brefl W0).drew
      go_upto_region 3 with fail
      refine wp_region_held_drew (S := fun w' => w'.cell? ⟨rb, 0, none⟩ = some (.slice (some ⟨b, off, none⟩) l.length c) ∧ w'.cell? ⟨rb, 1, none⟩ = some (.int .i64 (k' : Int))) (by kernel_rfl) ⟨c0, c1⟩ (fun hHeld => ?_)
      refine wpAnyH_take (i := 0) (v := .pointer (some ⟨rb, 0, none⟩)) rfl (by kernel_rfl) (by kernel_rfl) (by kernel_rfl) (fun _ _ _ h => h) (Or.inl ⟨by rfl, fun w hSw => by dsimp only at hSw; go_simp⟩) hHeld ?_
      simp only [Act.put, List.getElem_toArray, List.getElem_cons_zero, List.setIfInBounds_toArray, List.set_cons_zero, List.set_cons_succ]
      refine wpAnyH_take (i := 1) (v := .pointer (some ⟨rb, 0, none⟩)) rfl (by kernel_rfl) (by kernel_rfl) (by kernel_rfl) (fun _ _ _ h => h) (Or.inl ⟨by rfl, fun w hSw => by dsimp only at hSw; go_simp⟩) hHeld ?_
      simp only [Act.put, List.getElem_toArray, List.getElem_cons_zero, List.getElem_cons_succ, List.setIfInBounds_toArray, List.set_cons_zero, List.set_cons_succ]
      refine wpAnyH_take (i := 2) (v := .pointer (some ⟨rb, 0, none⟩)) rfl (by kernel_rfl) (by kernel_rfl) (by kernel_rfl) (fun _ _ _ h => h) (Or.inl ⟨by rfl, fun w hSw => by dsimp only at hSw; go_simp⟩) hHeld ?_
      simp only [Act.put, List.getElem_toArray, List.getElem_cons_zero, List.getElem_cons_succ, List.setIfInBounds_toArray, List.set_cons_zero, List.set_cons_succ]
      refine wpAnyH_take (i := 3) (v := .slice (some ⟨b, off, none⟩) l.length c) rfl (by kernel_rfl) (by kernel_rfl) (by kernel_rfl) (fun _ _ _ h => h) (Or.inl ⟨by rfl, fun w hSw => by dsimp only at hSw; go_simp⟩) hHeld ?_
      simp only [Act.put, List.getElem_toArray, List.getElem_cons_zero, List.getElem_cons_succ, List.setIfInBounds_toArray, List.set_cons_zero, List.set_cons_succ]
      refine wpAnyH_take (i := 4) (v := .pointer (some ⟨rb, 0, none⟩)) rfl (by kernel_rfl) (by kernel_rfl) (by kernel_rfl) (fun _ _ _ h => h) (Or.inl ⟨by rfl, fun w hSw => by dsimp only at hSw; go_simp⟩) hHeld ?_
      simp only [Act.put, List.getElem_toArray, List.getElem_cons_zero, List.getElem_cons_succ, List.setIfInBounds_toArray, List.set_cons_zero, List.set_cons_succ]
      refine wpAnyH_take (i := 5) (v := .pointer (some ⟨rb, 0, none⟩)) rfl (by kernel_rfl) (by kernel_rfl) (by kernel_rfl) (fun _ _ _ h => h) (Or.inl ⟨by rfl, fun w hSw => by dsimp only at hSw; go_simp⟩) hHeld ?_
      simp only [Act.put, List.getElem_toArray, List.getElem_cons_zero, List.getElem_cons_succ, List.setIfInBounds_toArray, List.set_cons_zero, List.set_cons_succ]
      refine wpAnyH_take (i := 6) (v := .pointer (some ⟨rb, 1, none⟩)) rfl (by kernel_rfl) (by kernel_rfl) (by kernel_rfl) (fun _ _ _ h => h) (Or.inl ⟨by rfl, fun w hSw => by dsimp only at hSw; go_simp⟩) hHeld ?_
      simp only [Act.put, List.getElem_toArray, List.getElem_cons_zero, List.getElem_cons_succ, List.setIfInBounds_toArray, List.set_cons_zero, List.set_cons_succ]
      refine wpAnyH_take (i := 7) (v := .int .i64 (k' : Int)) rfl (by kernel_rfl) (by kernel_rfl) (by kernel_rfl) (fun _ _ _ h => h) (Or.inl ⟨by rfl, fun w hSw => by dsimp only at hSw; go_simp⟩) hHeld ?_
      simp only [Act.put, List.getElem_toArray, List.getElem_cons_zero, List.getElem_cons_succ, List.setIfInBounds_toArray, List.set_cons_zero, List.set_cons_succ]
      refine wpAnyH_ready (rs := [8, 13]) (by kernel_rfl) (by simp) ?_
      refine AllReadyH.cons rfl (fun K hK => ?_) (AllReadyH.cons rfl (fun K hK => ?_) AllReadyH.nil)
      · go_simp
        go_wp2_with (refine (CT.out _ B0.out).mono ?_; rintro e w1 ⟨ht, b1⟩; obtain ⟨px, py, nx, q, rfl, hq⟩ := takes_form ht; have B1 := hide (bthen B0.out b1); have HQ := hide hq; clear ht hq b1)
        refine hK.out _ _ (SH.out _ B1.out) (fun hHeld => ?_)
        clear hK K
        try simp only [Act.put, List.getElem_toArray, List.getElem_cons_zero, List.getElem_cons_succ, List.setIfInBounds_toArray, List.set_cons_zero, List.set_cons_succ]
        refine wpAnyH_take (i := 9) (v := .tuple #[.agg #[.int .u32 px, .int .i64 py], .int .i64 nx, .int .i64 q]) rfl (by kernel_rfl) (by kernel_rfl) (by kernel_rfl) (fun _ _ _ h => h) (Or.inl ⟨by rfl, fun w hSw => by dsimp only at hSw; go_simp⟩) hHeld ?_
        simp only [Act.put, List.getElem_toArray, List.getElem_cons_zero, List.getElem_cons_succ, List.setIfInBounds_toArray, List.set_cons_zero, List.set_cons_succ]
        refine wpAnyH_take (i := 10) (v := .agg #[.int .u32 px, .int .i64 py]) rfl (by kernel_rfl) (by kernel_rfl) (by kernel_rfl) (fun _ _ _ h => h) (Or.inl ⟨by rfl, fun w hSw => by dsimp only at hSw; go_simp⟩) hHeld ?_
        simp only [Act.put, List.getElem_toArray, List.getElem_cons_zero, List.getElem_cons_succ, List.setIfInBounds_toArray, List.set_cons_zero, List.set_cons_succ]
        refine wpAnyH_take (i := 11) (v := .int .i64 nx) rfl (by kernel_rfl) (by kernel_rfl) (by kernel_rfl) (fun _ _ _ h => h) (Or.inl ⟨by rfl, fun w hSw => by dsimp only at hSw; go_simp⟩) hHeld ?_
        simp only [Act.put, List.getElem_toArray, List.getElem_cons_zero, List.getElem_cons_succ, List.setIfInBounds_toArray, List.set_cons_zero, List.set_cons_succ]
        refine wpAnyH_take (i := 12) (v := .int .i64 q) rfl (by kernel_rfl) (by kernel_rfl) (by kernel_rfl) (fun _ _ _ h => h) (Or.inl ⟨by rfl, fun w hSw => by dsimp only at hSw; go_simp⟩) hHeld ?_
        simp only [Act.put, List.getElem_toArray, List.getElem_cons_zero, List.getElem_cons_succ, List.setIfInBounds_toArray, List.set_cons_zero, List.set_cons_succ]
        refine wpAnyH_ready (rs := [13]) (by kernel_rfl) (by simp) ?_
        refine AllReadyH.cons rfl (fun K hK => ?_) AllReadyH.nil
        go_simp
        have B2 := hide (balloc B1.out (.cells #[.int .u32 0, .int .i64 0] 56))
        refine hK.out _ _ (SH.out _ B2.out) (fun hHeld => ?_)
        clear hK K
        try simp only [Act.put, List.getElem_toArray, List.getElem_cons_zero, List.getElem_cons_succ, List.setIfInBounds_toArray, List.set_cons_zero, List.set_cons_succ]
        obtain ⟨X, hX⟩ : ∃ X, w1.heap.size = X := ⟨_, rfl⟩
        have N2 : Hid ((w1.alloc (.cells #[.int .u32 0, .int .i64 0] 56)).heap[X]? = some (.cells #[.int .u32 0, .int .i64 0] 56 (0, 0))) := by rw [← hX]; exact heap_new w1 _ 56
        have HX : Hid (W0.heap.size ≤ X) := by rw [← hX]; exact B1.out.size
        rw [hX]
        generalize w1.alloc (.cells #[.int .u32 0, .int .i64 0] 56) = w2 at *
        clear hX B1
        obtain ⟨n0, n1, n2, n3⟩ := two_cells N2.out
        refine wpAnyH_ready (rs := [14]) (by kernel_rfl) (by simp) ?_
        refine AllReadyH.cons rfl (fun K hK => ?_) AllReadyH.nil
        go_simp
        have N3 : Hid (((w2.setCell ⟨X, 0, none⟩ (.int .u32 px)).setCell ⟨X, 1, none⟩ (.int .i64 py)).heap[X]? = some (.cells #[.int .u32 px, .int .i64 py] 56 (0, 0))) := heap_setCell_same _ X 1 _ 56 _ (heap_setCell_same w2 X 0 _ 56 _ N2.out)
        have B3 : Hid (Below W0.heap.size W0 ((w2.setCell ⟨X, 0, none⟩ (.int .u32 px)).setCell ⟨X, 1, none⟩ (.int .i64 py))) := (B2.out.setCell (p := ⟨X, 0, none⟩) HX.out _).setCell (p := ⟨X, 1, none⟩) HX.out _
        refine hK.out _ _ (SH.out _ B3.out) (fun hHeld => ?_)
        clear hK K n0 n1 n2 n3
        try simp only [Act.put, List.getElem_toArray, List.getElem_cons_zero, List.getElem_cons_succ, List.setIfInBounds_toArray, List.set_cons_zero, List.set_cons_succ]
        refine wpAnyH_take (i := 15) (v := .int .i64 nx) rfl (by kernel_rfl) (by kernel_rfl) (by kernel_rfl) (fun _ _ _ h => h) (Or.inl ⟨by rfl, fun w hSw => by dsimp only at hSw; go_simp⟩) hHeld ?_
        simp only [Act.put, List.getElem_toArray, List.getElem_cons_zero, List.getElem_cons_succ, List.setIfInBounds_toArray, List.set_cons_zero, List.set_cons_succ]
        refine wpAnyH_take (i := 16) (v := .int .i64 q) rfl (by kernel_rfl) (by kernel_rfl) (by kernel_rfl) (fun _ _ _ h => h) (Or.inl ⟨by rfl, fun w hSw => by dsimp only at hSw; go_simp⟩) hHeld ?_
        simp only [Act.put, List.getElem_toArray, List.getElem_cons_zero, List.getElem_cons_succ, List.setIfInBounds_toArray, List.set_cons_zero, List.set_cons_succ]
        refine wpAnyH_done (by kernel_rfl) ?_ _
        generalize (w2.setCell ⟨X, 0, none⟩ (.int .u32 px)).setCell ⟨X, 1, none⟩ (.int .i64 py) = w3 at *
        clear N2 B2 hHeld
        rcases HQ.out with ⟨r, hr, hnx, hq0⟩ | ⟨hr, hq0⟩
        · subst hq0
          have hg0 := takeP_some hr
          have RW := hide (HRD.out.below B3.out)
          have GW := hide (grown_below HGR.out B3.out)
          have OW := hide (own2_below HOW.out B3.out)
          obtain ⟨d0, d1, _, _⟩ := two_cells N3.out
          have A4 := hide (balloc (brefl w3) (.cells #[.int .u32 px, .int .i64 py] 56))
          have OW4 := hide (own2_below OW.out A4.out)
          have L4 := hide (And.intro HAC.out.2.2 hk1)
          have hB4 : w.heap.size ≤ (w3.alloc (.cells #[.int .u32 px, .int .i64 py] 56)).heap.size := Nat.le_trans GW.out.size A4.out.size
          clear hr
          go_wp2_with (at_builtin; go_must (refine app_pfx rfl _ _ rfl w.heap.size u3 acc rfl OW4.out (px, py) w3.heap.size 1 rfl (by simp) (by simp) (by have := L4.out; omega) hB4 ?_))
          intro v5 w5 o5 g5
          have hdr : pfx (px, py) ++ r = l.drop k' := hg0.2.symm
          have hlr : (l.drop k').length = (pfx (px, py)).length + r.length := by rw [← hdr, List.length_append]
          rw [List.length_drop] at hlr
          have hpl := pfx_length _ hg0.1
          have G5 := hide (grown_own (grown_alloc GW.out (.cells #[.int .u32 px, .int .i64 py] 56)) g5 (fun j hj => (OW4.out.lt j hj).1))
          have R5 := hide (RW.out.kept (grown_trans (grown_of_below (r := u3.ownBlock) A4.out) (nx_refl _ _) g5) (fun e => by have := (OW.out.lt rb e.symm).1; have := HRB.out; omega) (fun e => by have := (OW.out.lt b e.symm).1; have := HRB.out; omega))
          have hn' : nx = ((l.length - r.length : Nat) : Int) := hnx
          have O5 := hide o5
          have AC5 : Hid ((∀ p ∈ acc ++ [(px, py)], Gp p) ∧ pfxs (acc ++ [(px, py)]) ++ l.drop (l.length - r.length) = l.drop k ∧ (acc ++ [(px, py)]).length ≤ l.length - r.length) := by
            refine ⟨fun p hp => ?_, ?_, ?_⟩
            · rcases List.mem_append.1 hp with h | h
              · exact HAC.out.1 p h
              · rw [List.mem_singleton.1 h]; exact hg0.1
            · have e1 : l.drop (l.length - r.length) = r := by
                have e2 : l.drop (l.length - r.length) = (l.drop k').drop (pfx (px, py)).length := by rw [List.drop_drop]; congr 1; omega
                rw [e2, ← hdr, List.drop_left]
              rw [e1, ← HAC.out.2.1, ← hdr]
              simp [pfxs]
            · rw [List.length_append]; have := HAC.out.2.2; simp; omega
          have hlt5 : k' < l.length - r.length ∧ l.length - r.length ≤ l.length := ⟨by omega, by omega⟩
          subst hn'
          generalize l.length - r.length = k5 at *
          obtain ⟨W5, hW5⟩ : ∃ W5, w5.setCell ⟨rb, 1, none⟩ (.int .i64 (k5 : Int)) = W5 := ⟨_, rfl⟩
          have GW5 : Hid (w5.grownBy W5 (some rb)) := by rw [← hW5]; exact grown_set (grown_refl w5 _) 1 _
          have RW5 : Hid (Rdr W5 rb b off c l k5) := R5.out.moved GW5.out (by rw [← hW5]; exact set_at R5.out.cell _) hlt5.2
          have OW5 : Hid (W5.ownsRow w.heap.size 56 2 v5 (acc ++ [(px, py)]).length (Ax.Ad.cells (acc ++ [(px, py)]))) := by show World.ownsRow _ _ _ _ _ _ _; rw [List.length_append]; exact O5.out.kept GW5.out (.inr (fun e => by have := (O5.out.lt rb e).1; have := HRB.out; omega))
          have GF := hide (grown_trans G5.out (nx_refl _ _) GW5.out)
          obtain ⟨e0, e1, e2, e3⟩ := two_cells R5.out.cell
          obtain ⟨y0, y1, _, _⟩ := two_cells RW5.out.cell
          clear o5 g5 hg0 hdr hlr hpl G5 R5 O5 GW5 RW GW OW OW4 A4 d0 d1 HQ B3 N3
          go_wp2_with fail
          refine ⟨⟨acc ++ [(px, py)], k5, OW5, RW5, GF.out, AC5⟩, ?_⟩
          rw [y1, c1']
          simp [intOf]
          omega
        · have HN : Hid (¬ ∃ m, (∀ p ∈ m, Gp p) ∧ pfxs m = l.drop k) := by
            rintro ⟨m, hm, he⟩
            exact no_pfxs HAC.out.1 hm (HAC.out.2.1.trans he.symm) hrest hr
          have hq0' : (q != 0) = true := hq0
          have GW := hide (grown_below HGR.out B3.out)
          clear hr hq0 HQ N3 B3
          go_wp2_with fail
          refine (CG.out _).mono ?_
          rintro e w4 ⟨rfl, rfl⟩
          exact ⟨rfl, .inr ⟨rfl, HN.out, GW.out⟩⟩
      · go_simp
        have A0 := hide (balloc B0.out (.cells #[.int .u32 0, .int .i64 0] 56))
        refine hK.out _ _ (SH.out _ A0.out) (fun hHeld => ?_)
        clear hK K
        try simp only [Act.put, List.getElem_toArray, List.getElem_cons_zero, List.getElem_cons_succ, List.setIfInBounds_toArray, List.set_cons_zero, List.set_cons_succ]
        refine wpAnyH_ready (rs := [8]) (by kernel_rfl) (by simp) ?_
        refine AllReadyH.cons rfl (fun K hK => ?_) AllReadyH.nil
        go_simp
        have NA := hide (heap_new W0.drew #[.int .u32 0, .int .i64 0] 56)
        go_wp2_with (refine (CT.out _ A0.out).mono ?_; rintro e w2 ⟨ht, b1⟩; obtain ⟨px, py, nx, q, rfl, hq⟩ := takes_form ht; have N2 := hide ((b1.block _ (heap_lt NA.out)).trans NA.out); have B2 := hide (bthen A0.out b1); have HQ := hide hq; clear ht hq b1)
        refine hK.out _ _ (SH.out _ B2.out) (fun hHeld => ?_)
        clear hK K
        try simp only [Act.put, List.getElem_toArray, List.getElem_cons_zero, List.getElem_cons_succ, List.setIfInBounds_toArray, List.set_cons_zero, List.set_cons_succ]
        refine wpAnyH_take (i := 9) (v := .tuple #[.agg #[.int .u32 px, .int .i64 py], .int .i64 nx, .int .i64 q]) rfl (by kernel_rfl) (by kernel_rfl) (by kernel_rfl) (fun _ _ _ h => h) (Or.inl ⟨by rfl, fun w hSw => by dsimp only at hSw; go_simp⟩) hHeld ?_
        simp only [Act.put, List.getElem_toArray, List.getElem_cons_zero, List.getElem_cons_succ, List.setIfInBounds_toArray, List.set_cons_zero, List.set_cons_succ]
        refine wpAnyH_take (i := 10) (v := .agg #[.int .u32 px, .int .i64 py]) rfl (by kernel_rfl) (by kernel_rfl) (by kernel_rfl) (fun _ _ _ h => h) (Or.inl ⟨by rfl, fun w hSw => by dsimp only at hSw; go_simp⟩) hHeld ?_
        simp only [Act.put, List.getElem_toArray, List.getElem_cons_zero, List.getElem_cons_succ, List.setIfInBounds_toArray, List.set_cons_zero, List.set_cons_succ]
        refine wpAnyH_take (i := 11) (v := .int .i64 nx) rfl (by kernel_rfl) (by kernel_rfl) (by kernel_rfl) (fun _ _ _ h => h) (Or.inl ⟨by rfl, fun w hSw => by dsimp only at hSw; go_simp⟩) hHeld ?_
        simp only [Act.put, List.getElem_toArray, List.getElem_cons_zero, List.getElem_cons_succ, List.setIfInBounds_toArray, List.set_cons_zero, List.set_cons_succ]
        refine wpAnyH_take (i := 12) (v := .int .i64 q) rfl (by kernel_rfl) (by kernel_rfl) (by kernel_rfl) (fun _ _ _ h => h) (Or.inl ⟨by rfl, fun w hSw => by dsimp only at hSw; go_simp⟩) hHeld ?_
        simp only [Act.put, List.getElem_toArray, List.getElem_cons_zero, List.getElem_cons_succ, List.setIfInBounds_toArray, List.set_cons_zero, List.set_cons_succ]
        obtain ⟨X, hX⟩ : ∃ X, W0.drew.heap.size = X := ⟨_, rfl⟩
        have HX : Hid (W0.heap.size ≤ X) := by rw [← hX]; exact Nat.le_refl _
        rw [hX] at N2
        rw [show W0.heap.size = X from hX]
        clear hX A0 NA
        obtain ⟨n0, n1, n2, n3⟩ := two_cells N2.out
        refine wpAnyH_ready (rs := [14]) (by kernel_rfl) (by simp) ?_
        refine AllReadyH.cons rfl (fun K hK => ?_) AllReadyH.nil
        go_simp
        have N3 : Hid (((w2.setCell ⟨X, 0, none⟩ (.int .u32 px)).setCell ⟨X, 1, none⟩ (.int .i64 py)).heap[X]? = some (.cells #[.int .u32 px, .int .i64 py] 56 (0, 0))) := heap_setCell_same _ X 1 _ 56 _ (heap_setCell_same w2 X 0 _ 56 _ N2.out)
        have B3 : Hid (Below W0.heap.size W0 ((w2.setCell ⟨X, 0, none⟩ (.int .u32 px)).setCell ⟨X, 1, none⟩ (.int .i64 py))) := (B2.out.setCell (p := ⟨X, 0, none⟩) HX.out _).setCell (p := ⟨X, 1, none⟩) HX.out _
        refine hK.out _ _ (SH.out _ B3.out) (fun hHeld => ?_)
        clear hK K n0 n1 n2 n3
        try simp only [Act.put, List.getElem_toArray, List.getElem_cons_zero, List.getElem_cons_succ, List.setIfInBounds_toArray, List.set_cons_zero, List.set_cons_succ]
        refine wpAnyH_take (i := 15) (v := .int .i64 nx) rfl (by kernel_rfl) (by kernel_rfl) (by kernel_rfl) (fun _ _ _ h => h) (Or.inl ⟨by rfl, fun w hSw => by dsimp only at hSw; go_simp⟩) hHeld ?_
        simp only [Act.put, List.getElem_toArray, List.getElem_cons_zero, List.getElem_cons_succ, List.setIfInBounds_toArray, List.set_cons_zero, List.set_cons_succ]
        refine wpAnyH_take (i := 16) (v := .int .i64 q) rfl (by kernel_rfl) (by kernel_rfl) (by kernel_rfl) (fun _ _ _ h => h) (Or.inl ⟨by rfl, fun w hSw => by dsimp only at hSw; go_simp⟩) hHeld ?_
        simp only [Act.put, List.getElem_toArray, List.getElem_cons_zero, List.getElem_cons_succ, List.setIfInBounds_toArray, List.set_cons_zero, List.set_cons_succ]
        refine wpAnyH_done (by kernel_rfl) ?_ _
        generalize (w2.setCell ⟨X, 0, none⟩ (.int .u32 px)).setCell ⟨X, 1, none⟩ (.int .i64 py) = w3 at *
        clear N2 B2 hHeld
        rcases HQ.out with ⟨r, hr, hnx, hq0⟩ | ⟨hr, hq0⟩
        · subst hq0
          have hg0 := takeP_some hr
          have RW := hide (HRD.out.below B3.out)
          have GW := hide (grown_below HGR.out B3.out)
          have OW := hide (own2_below HOW.out B3.out)
          obtain ⟨d0, d1, _, _⟩ := two_cells N3.out
          have A4 := hide (balloc (brefl w3) (.cells #[.int .u32 px, .int .i64 py] 56))
          have OW4 := hide (own2_below OW.out A4.out)
          have L4 := hide (And.intro HAC.out.2.2 hk1)
          have hB4 : w.heap.size ≤ (w3.alloc (.cells #[.int .u32 px, .int .i64 py] 56)).heap.size := Nat.le_trans GW.out.size A4.out.size
          clear hr
          go_wp2_with (at_builtin; go_must (refine app_pfx rfl _ _ rfl w.heap.size u3 acc rfl OW4.out (px, py) w3.heap.size 1 rfl (by simp) (by simp) (by have := L4.out; omega) hB4 ?_))
          intro v5 w5 o5 g5
          have hdr : pfx (px, py) ++ r = l.drop k' := hg0.2.symm
          have hlr : (l.drop k').length = (pfx (px, py)).length + r.length := by rw [← hdr, List.length_append]
          rw [List.length_drop] at hlr
          have hpl := pfx_length _ hg0.1
          have G5 := hide (grown_own (grown_alloc GW.out (.cells #[.int .u32 px, .int .i64 py] 56)) g5 (fun j hj => (OW4.out.lt j hj).1))
          have R5 := hide (RW.out.kept (grown_trans (grown_of_below (r := u3.ownBlock) A4.out) (nx_refl _ _) g5) (fun e => by have := (OW.out.lt rb e.symm).1; have := HRB.out; omega) (fun e => by have := (OW.out.lt b e.symm).1; have := HRB.out; omega))
          have hn' : nx = ((l.length - r.length : Nat) : Int) := hnx
          have O5 := hide o5
          have AC5 : Hid ((∀ p ∈ acc ++ [(px, py)], Gp p) ∧ pfxs (acc ++ [(px, py)]) ++ l.drop (l.length - r.length) = l.drop k ∧ (acc ++ [(px, py)]).length ≤ l.length - r.length) := by
            refine ⟨fun p hp => ?_, ?_, ?_⟩
            · rcases List.mem_append.1 hp with h | h
              · exact HAC.out.1 p h
              · rw [List.mem_singleton.1 h]; exact hg0.1
            · have e1 : l.drop (l.length - r.length) = r := by
                have e2 : l.drop (l.length - r.length) = (l.drop k').drop (pfx (px, py)).length := by rw [List.drop_drop]; congr 1; omega
                rw [e2, ← hdr, List.drop_left]
              rw [e1, ← HAC.out.2.1, ← hdr]
              simp [pfxs]
            · rw [List.length_append]; have := HAC.out.2.2; simp; omega
          have hlt5 : k' < l.length - r.length ∧ l.length - r.length ≤ l.length := ⟨by omega, by omega⟩
          subst hn'
          generalize l.length - r.length = k5 at *
          obtain ⟨W5, hW5⟩ : ∃ W5, w5.setCell ⟨rb, 1, none⟩ (.int .i64 (k5 : Int)) = W5 := ⟨_, rfl⟩
          have GW5 : Hid (w5.grownBy W5 (some rb)) := by rw [← hW5]; exact grown_set (grown_refl w5 _) 1 _
          have RW5 : Hid (Rdr W5 rb b off c l k5) := R5.out.moved GW5.out (by rw [← hW5]; exact set_at R5.out.cell _) hlt5.2
          have OW5 : Hid (W5.ownsRow w.heap.size 56 2 v5 (acc ++ [(px, py)]).length (Ax.Ad.cells (acc ++ [(px, py)]))) := by show World.ownsRow _ _ _ _ _ _ _; rw [List.length_append]; exact O5.out.kept GW5.out (.inr (fun e => by have := (O5.out.lt rb e).1; have := HRB.out; omega))
          have GF := hide (grown_trans G5.out (nx_refl _ _) GW5.out)
          obtain ⟨e0, e1, e2, e3⟩ := two_cells R5.out.cell
          obtain ⟨y0, y1, _, _⟩ := two_cells RW5.out.cell
          clear o5 g5 hg0 hdr hlr hpl G5 R5 O5 GW5 RW GW OW OW4 A4 d0 d1 HQ B3 N3
          go_wp2_with fail
          refine ⟨⟨acc ++ [(px, py)], k5, OW5, RW5, GF.out, AC5⟩, ?_⟩
          rw [y1, c1']
          simp [intOf]
          omega
        · have HN : Hid (¬ ∃ m, (∀ p ∈ m, Gp p) ∧ pfxs m = l.drop k) := by
            rintro ⟨m, hm, he⟩
            exact no_pfxs HAC.out.1 hm (HAC.out.2.1.trans he.symm) hrest hr
          have hq0' : (q != 0) = true := hq0
          have GW := hide (grown_below HGR.out B3.out)
          clear hr hq0 HQ N3 B3
          go_wp2_with fail
          refine (CG.out _).mono ?_
          rintro e w4 ⟨rfl, rfl⟩
          exact ⟨rfl, .inr ⟨rfl, HN.out, GW.out⟩⟩
    · obtain rfl : k' = l.length := by omega
      have hlt' : ¬ (0 : Int) < (l.length : Int) - (l.length : Int) := by omega
      have R1 := hide (HRD.out.below b0)
      have O1 := hide (own2_below HOW.out b0)
      have G1 := hide (grown_below HGR.out b0)
      have HP : Hid (pfxs acc = l.drop k) := by
        have := HAC.out.2.1
        rw [List.drop_length, List.append_nil] at this
        exact this
      clear b0 CL
      go_wp2_with fail
      go_ret
      exact .inl ⟨_, acc, rfl, O1.out, R1.out, HAC.out.1, HP.out, HAC.out.2.2, G1.out⟩
end Go.Proofs.Ytkhmhmopcofejaa
