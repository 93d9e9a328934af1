/- The law HeapSorts. -/
import Derived.Test.YtkfomjinilmjaaaSb
import Derived.Test.YtkfomjinilmjaaaRc
import Derived.Test.YtkfomjinilmjaaaPb
namespace Go.Proofs.Ytkfomjinilmjaaa
open Go.RowKit Go.Maps

/-- While keys are gone through. -/
structure Go5 (w wr : World) (keys : List ByteArray) (rs : List Int) (i : Nat) (al : Option Addr) (cap3 : Nat) (v6 : Value) : Prop where
  good : Th.Good wr al cap3 (grw (rkOf rs) (keys.take i))
  row : wr.ownsRow w.heap.size 9 1 v6 i (Ks.cells (keys.take i))
  below : Below w.heap.size w wr
  apart : ∀ a k, al = some a → v6.ownBlock = some k → a.block ≠ k
  sm : ∀ x ∈ keys.take i, x.size ≤ 200
set_option maxHeartbeats 8000000 in
set_option maxRecDepth 100000 in
theorem law_sorts {w0 : World} {ak : Option Addr} {cl : Nat} {keys : List ByteArray} {ar : Option Addr} {cr : Nat} {rs : List Int} (hK0 : Ks.slot w0 ak keys) (hR0 : rs = [] ∨ ∃ b off, ar = some ⟨b, off, none⟩ ∧ b < w0.heap.size ∧ ∀ j (h : j < rs.length), w0.cell? ⟨b, off + j, none⟩ = some (.int .i64 rs[j])) (hrs : (rs.length : Int) ≤ 9223372036854775807) :
    Calls Try.prog 5 #[.slice ak keys.length cl, .slice ar rs.length cr] w0 fun e w' => e = .returned (.bool true) ∧ Below w0.heap.size w0 w' := by
  have CV := hide (fun W => lives_is W)
  have B0 := hide (balloc (brefl w0) (.cells #[.slice ar rs.length cr] 48))
  have HK := hide (Ks.below hK0 B0.out)
  have HS : Hid (Rk.slot (w0.alloc (.cells #[.slice ar rs.length cr] 48)) w0.heap.size rs) := ⟨ar, cr, heap_alloc_new w0 _, hR0.imp id fun ⟨b, off, e, hl, h⟩ => ⟨b, off, e, Nat.lt_of_lt_of_le hl B0.out.size, fun j hj => (B0.out.cell (p := ⟨b, off + j, none⟩) hl).trans (h j hj)⟩⟩
  have hmf : ∀ (fn : Fn) (first cap : Array Value) (w : World), (Instr.makeFunc fn first cap).run Try.prog w = .ok (.func fn first cap) w := fun _ _ _ _ => rfl
  clear hK0 hR0
  go_enter Try.func5, Try.ntmps5
  by_cases hn : keys.length ≤ 60
  · have hn' : ¬ (60 : Int) < (keys.length : Int) := by omega
    go_wp2_with fail
    have hPw := B0.out.size
    generalize w0.alloc (.cells #[.slice ar rs.length cr] 48) = w at *
    generalize w0.heap.size = P at HS ⊢
    have CR : Hid (∀ W, Below w.heap.size w W → ∀ k : ByteArray, k.size ≤ 200 → Calls Try.prog 22 #[.string k, .pointer (some ⟨P, 0, none⟩)] W fun e w' => e = .returned (.int .i64 (rkOf rs k)) ∧ Below W.heap.size W w') := fun W hW k hk => rankFn_is (Rk.below HS.out hW) hk hrs
    go_loopw [5, 6, 8] (fun v5 v6 v8 wr => ∃ (i : Nat) (al3 : Option Addr) (cap3 : Nat), v8 = .int .i64 i ∧ i ≤ keys.length ∧ v5 = .slice al3 (grw (rkOf rs) (keys.take i)).length cap3 ∧ Hid (Go5 w wr keys rs i al3 cap3 v6)) (fun _ _ v8 _ => keys.length - (intOf v8).toNat)
    case atStart => exact ⟨0, none, 0, rfl, Nat.zero_le _, rfl, ⟨good_nil _, ⟨rfl, .inl ⟨rfl, rfl⟩⟩, brefl w, fun a k e => (by cases e), fun x hx => (by simp at hx)⟩⟩
    case round =>
      obtain ⟨i, al, cap3, rfl, hi, rfl, A1⟩ := hrel
      have hG := grw_ok (rkOf rs) keys i hi
      have hlg := hG.len
      have GD := hide A1.out.good
      have ROW := hide A1.out.row
      have BEL := hide A1.out.below
      have AP := hide A1.out.apart
      have SM := hide A1.out.sm
      have HON := hide hG.once
      have HTU := hide hG.turn
      clear A1 hG
      by_cases hlt : i < keys.length
      · have hlt' : (i : Int) < (keys.length : Int) := by omega
        obtain ⟨b, off, rfl, hbl, hr⟩ : ∃ b off, ak = some ⟨b, off, none⟩ ∧ b < w.heap.size ∧ ∀ j (h : j < keys.length), w.cell? ⟨b, off + j, none⟩ = some (.string keys[j]) := by
          rcases HK.out with h | h
          · rw [h] at hlt; simp at hlt
          · exact h
        have HR : Hid (∀ W, Below w.heap.size w W → W.cell? ⟨b, off + i, none⟩ = some (.string keys[i])) := fun W hW => (hW.cell (p := ⟨b, off + i, none⟩) hbl).trans (hr i hlt)
        have e0 := HR.out wr BEL.out
        have HG := hide (grw_succ (rkOf rs) keys i hlt)
        have HT := hide (List.take_succ_eq_append_getElem hlt)
        have hbw := Nat.lt_of_lt_of_le hbl BEL.out.size
        clear hr
        generalize keys[i] = k at *
        generalize grw (rkOf rs) (keys.take i) = L at *
        by_cases hks : k.size ≤ 200
        · have hks' : ¬ (200 : Int) < (k.size : Int) := by omega
          have SM2 : Hid (∀ x ∈ keys.take (i + 1), x.size ≤ 200) := by
            intro x hx
            rw [HT.out] at hx
            rcases List.mem_append.1 hx with hx | hx
            · exact SM.out x hx
            · rw [List.mem_singleton] at hx; subst hx; exact hks
          have hi6 : i ≤ 60 := by omega
          clear SM
          go_wp2_with (at_builtin; go_must (refine append_key2 (B := w.heap.size) rfl _ _ rfl _ i (keys.take i) rfl (ROW.out.alloc _) k _ _ rfl (by simp) (by omega) (by rw [size_alloc]; have := BEL.out.size; omega) ?_))
          intro vA wA hoA hgA hloc
          have GA : Hid (Th.Good wA al cap3 L) := GD.out.kept (S := fun k => u6.ownBlock = some k) ⟨hgA.os, hgA.tape, hgA.output, by have := hgA.size; rw [size_alloc] at this; omega, fun k hk hl => by
            rw [hgA.block k (by rw [size_alloc]; omega) (fun e => hk e.symm), heap_alloc_lt _ _ _ hl]⟩ (fun a e hS => AP.out a _ e hS rfl)
          have BA := hide (Below.grown (balloc BEL.out _) hgA (balloc BEL.out _).size (fun k hk => (ROW.out.lt k hk).1))
          have OA : Hid (wA.ownsRow w.heap.size 9 1 vA (i + 1) (Ks.cells (keys.take (i + 1)))) := by rw [HT.out]; exact hoA
          have AA : Hid (∀ a k, al = some a → vA.ownBlock = some k → a.block ≠ k) := fun a k ha hk => by
            rcases hloc with e | e
            · exact AP.out a k ha (by rw [← e]; exact hk)
            · rw [e] at hk
              simp only [Option.some.injEq] at hk
              try rw [size_alloc] at hk
              have := GD.out.old a ha
              omega
          have CA := hide (refAt_is (cap := cap3) GA.out.row (by omega) k)
          have e1 := HR.out wA BA.out
          have hbA := Nat.lt_of_lt_of_le hbl BA.out.size
          clear hoA hgA hloc AP ROW GD BEL e0 HT hbw
          cases hx : ix L k with
          | some j =>
            rw [atI_some hx] at CA
            rw [rowOf_ix, hx] at HG
            simp only [Option.isSome_some, if_true] at HG
            clear hx
            have hj : ¬ (j : Int) < 0 := by omega
            go_wp2_with fail
            refine CA.out.mono ?_
            rintro e wB ⟨rfl, hw⟩
            have hw' := hw.symm
            clear hw
            subst hw'
            have A2 : Hid (Go5 w wA keys rs (i + 1) al cap3 vA) := ⟨by rw [HG.out]; exact GA.out, OA.out, BA.out, AA.out, SM2.out⟩
            go_wp2_with fail
            exact ⟨⟨i + 1, al, cap3, by go_num, by omega, by rw [HG.out], A2⟩, by simp [intOf]; omega⟩
          | none =>
            rw [atI_none hx] at CA
            rw [rowOf_ix, hx] at HG
            simp only [Option.isSome_none, Bool.false_eq_true, if_false] at HG
            have HW : Hid (without L k = L) := without_no (rowOf_none.1 (ix_none.1 hx))
            clear hx
            go_wp2_with fail
            refine CA.out.mono ?_
            rintro e wB ⟨rfl, hw⟩
            have hw' := hw.symm
            clear hw
            subst hw'
            clear CA
            have hneg : (-1 : Int) < 0 := by decide
            have e3 : wA.drew.cell? ⟨b, off + i, none⟩ = some (.string k) := e1
            have CF := hide (CR.out wA.drew BA.out.drew k hks)
            have CS : Hid (∀ W, Below wA.drew.heap.size wA.drew W → Calls Try.prog 12 #[.slice al L.length cap3, .string k, .int .i64 (rkOf rs k)] W (RefSet W L k (rkOf rs k) ((L.length : Int) + 1))) := fun W hW => refSet_is (GA.out.below (bthen (brefl wA).drew hW)) HON.out (by omega) k _ _
            obtain ⟨r, hr⟩ : ∃ r, rkOf rs k = r := ⟨_, rfl⟩
            rw [hr] at CF CS HG
            clear hr
            go_wp2_with fail
            refine wp_region_held_drew (S := fun w' => w'.cell? ⟨b, off + i, none⟩ = some (.string k)) (by kernel_rfl) e3 (fun hHeld => ?_)
            refine wpAnyH_take (i := 0) (v := .slice al L.length cap3) rfl (by kernel_rfl) (by kernel_rfl) (by kernel_rfl) (fun _ _ _ h => h) (Or.inl ⟨by rfl, fun w hSw => by dsimp only at hSw; go_simp⟩) hHeld ?_
            simp only [Act.put, List.getElem_toArray, List.getElem_cons_zero, List.setIfInBounds_toArray, List.set_cons_zero, List.set_cons_succ]
            refine wpAnyH_take (i := 1) (v := .slice (some ⟨b, off, none⟩) keys.length cl) rfl (by kernel_rfl) (by kernel_rfl) (by kernel_rfl) (fun _ _ _ h => h) (Or.inl ⟨by rfl, fun w hSw => by dsimp only at hSw; go_simp⟩) hHeld ?_
            simp only [Act.put, List.getElem_toArray, List.getElem_cons_zero, List.getElem_cons_succ, List.setIfInBounds_toArray, List.set_cons_zero, List.set_cons_succ]
            refine wpAnyH_take (i := 2) (v := .int .i64 i) rfl (by kernel_rfl) (by kernel_rfl) (by kernel_rfl) (fun _ _ _ h => h) (Or.inl ⟨by rfl, fun w hSw => by dsimp only at hSw; go_simp⟩) hHeld ?_
            simp only [Act.put, List.getElem_toArray, List.getElem_cons_zero, List.getElem_cons_succ, List.setIfInBounds_toArray, List.set_cons_zero, List.set_cons_succ]
            refine wpAnyH_take (i := 3) (v := .pointer (some ⟨b, off + i, none⟩)) rfl (by kernel_rfl) (by kernel_rfl) (by kernel_rfl) (fun _ _ _ h => h) (Or.inl ⟨by rfl, fun w hSw => by dsimp only at hSw; go_simp⟩) hHeld ?_
            simp only [Act.put, List.getElem_toArray, List.getElem_cons_zero, List.getElem_cons_succ, List.setIfInBounds_toArray, List.set_cons_zero, List.set_cons_succ]
            refine wpAnyH_take (i := 4) (v := .string k) rfl (by kernel_rfl) (by kernel_rfl) (by kernel_rfl) (fun _ _ _ h => h) (Or.inl ⟨by rfl, fun w hSw => by dsimp only at hSw; go_simp⟩) hHeld ?_
            simp only [Act.put, List.getElem_toArray, List.getElem_cons_zero, List.getElem_cons_succ, List.setIfInBounds_toArray, List.set_cons_zero, List.set_cons_succ]
            refine wpAnyH_take (i := 5) (v := .func (.func 22) #[] #[.pointer (some ⟨P, 0, none⟩)]) rfl (by kernel_rfl) (by kernel_rfl) (by kernel_rfl) (fun _ _ _ h => h) (Or.inl ⟨by rfl, fun w hSw => by dsimp only at hSw; go_simp⟩) hHeld ?_
            simp only [Act.put, List.getElem_toArray, List.getElem_cons_zero, List.getElem_cons_succ, List.setIfInBounds_toArray, List.set_cons_zero, List.set_cons_succ]
            refine wpAnyH_take (i := 6) (v := .slice (some ⟨b, off, none⟩) keys.length cl) rfl (by kernel_rfl) (by kernel_rfl) (by kernel_rfl) (fun _ _ _ h => h) (Or.inl ⟨by rfl, fun w hSw => by dsimp only at hSw; go_simp⟩) hHeld ?_
            simp only [Act.put, List.getElem_toArray, List.getElem_cons_zero, List.getElem_cons_succ, List.setIfInBounds_toArray, List.set_cons_zero, List.set_cons_succ]
            refine wpAnyH_take (i := 7) (v := .int .i64 i) rfl (by kernel_rfl) (by kernel_rfl) (by kernel_rfl) (fun _ _ _ h => h) (Or.inl ⟨by rfl, fun w hSw => by dsimp only at hSw; go_simp⟩) hHeld ?_
            simp only [Act.put, List.getElem_toArray, List.getElem_cons_zero, List.getElem_cons_succ, List.setIfInBounds_toArray, List.set_cons_zero, List.set_cons_succ]
            refine wpAnyH_take (i := 8) (v := .pointer (some ⟨b, off + i, none⟩)) rfl (by kernel_rfl) (by kernel_rfl) (by kernel_rfl) (fun _ _ _ h => h) (Or.inl ⟨by rfl, fun w hSw => by dsimp only at hSw; go_simp⟩) hHeld ?_
            simp only [Act.put, List.getElem_toArray, List.getElem_cons_zero, List.getElem_cons_succ, List.setIfInBounds_toArray, List.set_cons_zero, List.set_cons_succ]
            refine wpAnyH_take (i := 9) (v := .string k) rfl (by kernel_rfl) (by kernel_rfl) (by kernel_rfl) (fun _ _ _ h => h) (Or.inl ⟨by rfl, fun w hSw => by dsimp only at hSw; go_simp⟩) hHeld ?_
            simp only [Act.put, List.getElem_toArray, List.getElem_cons_zero, List.getElem_cons_succ, List.setIfInBounds_toArray, List.set_cons_zero, List.set_cons_succ]
            refine wpAnyH_ready (rs := [10]) (by kernel_rfl) (by simp) ?_
            refine AllReadyH.cons rfl (fun K hK => ?_) AllReadyH.nil
            go_simp
            go_wp2_with (refine CF.out.mono ?_; rintro e w4 ⟨rfl, hb4⟩; have B4 := hide hb4; clear hb4)
            refine hK.out _ _ ((B4.out.cell (p := ⟨b, off + i, none⟩) hbA).trans e3) (fun hHeld => ?_)
            clear hK K
            try simp only [Act.put, List.getElem_toArray, List.getElem_cons_zero, List.getElem_cons_succ, List.setIfInBounds_toArray, List.set_cons_zero, List.set_cons_succ]
            refine wpAnyH_ready (rs := [11]) (by kernel_rfl) (by simp) ?_
            refine AllReadyH.cons rfl (fun K hK => ?_) AllReadyH.nil
            go_simp
            go_wp2_with (refine (CS.out w4 B4.out).mono ?_; rintro e w5 ⟨al5, cl5, he, hg5, hb5, hn5⟩; rw [HW.out] at he hg5; obtain ⟨n5, hl5⟩ : ∃ n, (L ++ [(⟨k, r, (L.length : Int) + 1⟩ : RwS)]).length = n := ⟨_, rfl⟩; obtain ⟨bb, hbb⟩ : ∃ b, (rowOf L k).isSome = b := ⟨_, rfl⟩; rw [hl5, hbb] at he; subst he; have G5 := hide hg5; have B5 := hide hb5; have N5 := hide hn5; have HL5 := hide hl5; clear hg5 hb5 hn5 hl5 hbb)
            refine hK.out _ _ (((bthen B4.out B5.out).cell (p := ⟨b, off + i, none⟩) hbA).trans e3) (fun hHeld => ?_)
            clear hK K
            try simp only [Act.put, List.getElem_toArray, List.getElem_cons_zero, List.getElem_cons_succ, List.setIfInBounds_toArray, List.set_cons_zero, List.set_cons_succ]
            refine wpAnyH_take (i := 12) (v := .tuple #[.slice al5 n5 cl5, .bool bb]) rfl (by kernel_rfl) (by kernel_rfl) (by kernel_rfl) (fun _ _ _ h => h) (Or.inl ⟨by rfl, fun w hSw => by dsimp only at hSw; go_simp⟩) hHeld ?_
            simp only [Act.put, List.getElem_toArray, List.getElem_cons_zero, List.getElem_cons_succ, List.setIfInBounds_toArray, List.set_cons_zero, List.set_cons_succ]
            refine wpAnyH_take (i := 13) (v := .slice al5 n5 cl5) rfl (by kernel_rfl) (by kernel_rfl) (by kernel_rfl) (fun _ _ _ h => h) (Or.inl ⟨by rfl, fun w hSw => by dsimp only at hSw; go_simp⟩) hHeld ?_
            simp only [Act.put, List.getElem_toArray, List.getElem_cons_zero, List.getElem_cons_succ, List.setIfInBounds_toArray, List.set_cons_zero, List.set_cons_succ]
            refine wpAnyH_take (i := 14) (v := .bool bb) rfl (by kernel_rfl) (by kernel_rfl) (by kernel_rfl) (fun _ _ _ h => h) (Or.inl ⟨by rfl, fun w hSw => by dsimp only at hSw; go_simp⟩) hHeld ?_
            simp only [Act.put, List.getElem_toArray, List.getElem_cons_zero, List.getElem_cons_succ, List.setIfInBounds_toArray, List.set_cons_zero, List.set_cons_succ]
            refine wpAnyH_take (i := 15) (v := .slice al5 n5 cl5) rfl (by kernel_rfl) (by kernel_rfl) (by kernel_rfl) (fun _ _ _ h => h) (Or.inl ⟨by rfl, fun w hSw => by dsimp only at hSw; go_simp⟩) hHeld ?_
            simp only [Act.put, List.getElem_toArray, List.getElem_cons_zero, List.getElem_cons_succ, List.setIfInBounds_toArray, List.set_cons_zero, List.set_cons_succ]
            refine wpAnyH_done (by kernel_rfl) ?_ _
            have R5 := hide (row_keep OA.out (Keep.of (S := fun _ => False) (bthen (bthen (brefl wA).drew B4.out) B5.out)) (fun _ _ _ h => h))
            have A2 : Hid (Go5 w w5 keys rs (i + 1) al5 cl5 vA) := ⟨by rw [HG.out]; exact G5.out, R5.out, bthen (bthen BA.out.drew B4.out) B5.out, fun a k ha hk => by have := (OA.out.lt k hk).2; have := N5.out a ha; have h2 : wA.heap.size ≤ w4.heap.size := B4.out.size; omega, SM2.out⟩
            clear CS CF G5 R5
            go_wp2_with fail
            exact ⟨⟨i + 1, al5, cl5, by go_num, by omega, by rw [HG.out, HL5.out], A2⟩, by simp [intOf]; omega⟩
        · have hks' : (200 : Int) < (k.size : Int) := by omega
          go_wp2_with fail
          refine (CV.out _).mono ?_
          rintro e w2 ⟨rfl, hb2⟩
          have B2 := hide (B0.out.trans ((bthen BEL.out hb2).mono hPw))
          clear hb2
          go_wp2_with fail
          go_ret
          exact ⟨rfl, B2.out⟩
      · have hlt' : ¬ (i : Int) < (keys.length : Int) := by omega
        obtain rfl : i = keys.length := by omega
        rw [List.take_length] at GD ROW SM HON HTU hlg ⊢
        have CS := hide (sort_is (cl := cl) (Ks.below HK.out BEL.out) (Rk.below HS.out BEL.out) hn SM.out hrs)
        go_wp2_with fail
        refine CS.out.mono ?_
        rintro e w2 ⟨ar2, cr2, ks, rfl, hsl, hall, hb2⟩
        have HSL := hide hsl
        have HAL := hide hall
        have B2 := hide (bthen BEL.out hb2)
        have G2 := hide (GD.out.below hb2)
        have R2 := hide (row_keep ROW.out (Keep.of (S := fun _ => False) hb2) (fun _ _ _ h => h))
        have CA := hide (refAll_is G2.out HON.out HTU.out (by omega))
        have hks : ks.length ≤ 60 := by have := alls_len hall HON.out HTU.out; omega
        clear hsl hall hb2 GD ROW CS BEL SM
        go_wp2_with fail
        refine CA.out.mono ?_
        rintro e w3 ⟨ar3, cr3, ks3, rfl, hsl, hall, hb3⟩
        have HSL3 := hide hsl
        have HEQ := hide (HAL.out.one HTU.out hall)
        have B3 := hide (bthen B2.out hb3)
        have CE := hide (refSame_is (c1 := cr2) (c2 := cr3) (Ks.below HSL.out hb3) hsl (by omega) HEQ.out)
        have R3 := hide (row_keep R2.out (Keep.of (S := fun _ => False) hb3) (fun _ _ _ h => h))
        have hks3 : ks3.length ≤ 60 := by have := alls_len hall HON.out HTU.out; omega
        clear hsl hall hb3 G2 R2 B2 CA
        go_wp2_with fail
        refine CE.out.mono ?_
        rintro e w4 ⟨rfl, hb4⟩
        have B4 := hide (bthen B3.out hb4)
        have R4 := hide (row_keep R3.out (Keep.of (S := fun _ => False) hb4) (fun _ _ _ h => h))
        clear hb4 R3 CE B3
        obtain ⟨arw, crw, rfl, hslw, _⟩ := ks_shape R4.out rfl
        have CE := hide (refSame_is (c1 := cl) (c2 := crw) (Ks.below HK.out B4.out) hslw (by omega) rfl)
        clear hslw R4
        go_wp2_with fail
        refine CE.out.mono ?_
        rintro e w5 ⟨rfl, hb5⟩
        have B5 := hide (bthen B4.out hb5)
        clear hb5 CE B4
        go_wp2_with fail
        refine (CV.out _).mono ?_
        rintro e w6 ⟨rfl, hb6⟩
        have B6 := hide (B0.out.trans ((bthen B5.out hb6).mono hPw))
        clear hb6
        go_wp2_with fail
        go_ret
        exact ⟨rfl, B6.out⟩
  · have hn' : (60 : Int) < (keys.length : Int) := by omega
    go_wp2_with fail
    refine (CV.out _).mono ?_
    rintro e w2 ⟨rfl, hb2⟩
    have B2 := hide (bthen B0.out hb2)
    clear hb2
    go_wp2_with fail
    go_ret
    exact ⟨rfl, B2.out⟩
end Go.Proofs.Ytkfomjinilmjaaa
