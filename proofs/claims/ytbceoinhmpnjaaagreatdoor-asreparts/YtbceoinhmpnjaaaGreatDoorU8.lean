import Derived.Test.YtbceoinhmpnjaaaGreatDoorU4
/- The reader's sets: the walk. -/
namespace Go.Proofs.YtbceoinhmpnjaaaGreatDoor
open Go.RowKit Go.Sort

/-- The set's loop: parts are read, or a fault was found. -/
def SetRel (b : Nat) (W : World) (d : Nat) (R : Except Int (List Prt × Bs)) (wr : World) : Prop :=
  (∃ (f : Nat) (r : Bs) (acc : List Prt) (po : Option Addr) (pc : Nat), R = Px.set f acc r ∧ r.length < f ∧ (acc = [] ∨ Px.isAt r 93 = false) ∧ acc.length + r.length ≤ 1000 ∧ Rd wr b r d 0 ∧ SetWay b W acc (.slice po acc.length pc) wr) ∨
  (∃ (v : Int) (vP : Value), v ≠ 0 ∧ vP.oneCell' = true ∧ R = .error v ∧ Rd wr b [] d v ∧ Way b W (.int .i64 2) vP (.slice none 0 0) wr)
theorem partRes_ne {r : Bs} {v : Int} (h : partRes r = .error v) : v ≠ 0 := by
  have hn : ∀ {u : Bs} {e : Int}, Px.number u = .error e → e ≠ 0 := fun h => number_err h
  unfold partRes at h
  split at h
  · rename_i e he
    cases h
    exact hn he
  · split at h
    · split at h
      · rename_i e he
        cases h
        exact hn he
      · split at h
        · cases h; decide
        · cases h
    · cases h
theorem nodePost_err {b : Nat} {W : World} {d : Nat} {R : Except Int (Nd × Bs)} {v : Int} {x0 x1 x2 : Value} {w' : World} (hR : R = .error v) (hB : But b W w') (hr : Rd w' b [] d v) (h1 : One3 x0 x1 x2) : NodePost b W d R (.returned (.agg #[x0, x1, x2])) w' := by
  rw [hR]
  exact ⟨hB, x0, x1, x2, hr, h1, rfl⟩
theorem nodePost_ok {b : Nat} {W : World} {d : Nat} {R : Except Int (Nd × Bs)} {n : Nd} {k k' : Bs} {x0 x1 x2 : Value} {w' : World} (hR : R = .ok (n, k)) (hB : But b W w') (hk : Px.skip k' = Px.skip k) (hl : k'.length ≤ k.length) (hr : Rd w' b k' d 0) (h1 : Own3 (From W.heap.size w') w' (Nd.pn n) [x0, x1, x2]) : NodePost b W d R (.returned (.agg #[x0, x1, x2])) w' := by
  rw [hR]
  exact ⟨hB, k', x0, x1, x2, hk, hl, hr, h1, rfl⟩
theorem way_lt {b : Nat} {W : World} {x0 v1 v2 : Value} {wr : World} (h : Way b W x0 v1 v2 wr) : W.heap.size + 1 < wr.heap.size := by have := h.big; omega

theorem Way.alloc {b : Nat} {W : World} {x0 v1 v2 : Value} {wr : World} (h : Way b W x0 v1 v2 wr) (o : Obj) : Way b W x0 v1 v2 (wr.alloc o) := h.step (But.of (balloc (brefl _) o))
theorem Way.drew {b : Nat} {W : World} {x0 v1 v2 : Value} {wr : World} (h : Way b W x0 v1 v2 wr) : Way b W x0 v1 v2 wr.drew := h.step (But.of (Below.drew (brefl _)))
theorem row_but {w w' : World} {b B e size n : Nat} {v : Value} {xs : List Value} (h : w.ownsRow B e size v n xs) (hB : But b w w') (hb : b < B) : w'.ownsRow B e size v n xs :=
  row_same h fun g hg => hB.block g (by have := (h.lt g hg).1; omega) (h.lt g hg).2
theorem Rd.grown {w w' : World} {b : Nat} {r : Bs} {d : Nat} {q : Int} {row : Option Nat} (h : Rd w b r d q) (hg : w.grownBy w' row) (hr : ∀ k, row = some k → b < k) : Rd w' b r d q :=
  h.of hg.size (hg.block b h.lt (fun e => by have := hr b e.symm; omega))
theorem row_from {w : World} {B e size n : Nat} {v : Value} {xs : List Value} (h : w.ownsRow B e size v n xs) : ∀ k, v.ownBlock = some k → B ≤ k := fun k hk => (h.lt k hk).1

set_option maxHeartbeats 16000000 in
set_option maxRecDepth 100000 in
theorem set_is {T : World → Prop} (K : ReadKit T) {W : World} {b : Nat} {r0 : Bs} {d : Nat} (h : Rd W b r0 d 0) (hT : Ty T b W) (hl : r0.length ≤ 100) (f0 : Nat) (hf : r0.length < f0) :
    Calls Tryz.prog 71 #[.pointer (some ⟨b, 0, none⟩)] W (NodePost b W d (setR (Px.set f0 [] r0))) := by
  obtain ⟨R, hR⟩ : ∃ R, R = Px.set f0 [] r0 := ⟨_, rfl⟩
  have HS : Hid (SetRel b W d R ((W.alloc zN).alloc (.cells #[.int .i64 2, .slice none 0 0, .slice none 0 0] 59))) :=
    .inl ⟨f0, r0, [], none, 0, hR, hf, .inl rfl, by simp; omega, (h.alloc _).alloc _, way_start h.lt _ _ _, ⟨rfl, .inl ⟨rfl, rfl⟩⟩⟩
  have HT := hide hT
  have hbW := h.lt
  rw [← hR]
  clear h hT hl hf hR
  go_enter Tryz.func71, Tryz.ntmps71
  go_wp2_with fail
  generalize (W.alloc zN).alloc (.cells #[.int .i64 2, .slice none 0 0, .slice none 0 0] 59) = W1 at *
  go_loopw [] (fun wr => Hid (SetRel b W d R wr)) (fun wr => mes wr b)
  case atStart => exact HS
  case round =>
    rcases hrel.out with ⟨f, r, acc, po, pc, hR, hf, h93, hal, hrd, hw⟩ | ⟨v, vP, hv, hvP, hR, hrd, hw⟩
    · have HM := hide (show mes wr b = r.length + 1 by rw [hrd.mes]; simp)
      obtain ⟨f, rfl⟩ : ∃ g, f = g + 1 := ⟨f - 1, by omega⟩
      have hsp : Px.set (f + 1) acc r = _ := set_part (f := f) (acc := acc) (r := r) (by rintro ⟨h1, h2⟩; rcases h93 with h | h; exact h1 h; rw [h] at h2; cases h2)
      have HWY := hide hw.way
      have HOW := hide hw.row
      have HTy := hide (HT.out.but hw.way.but)
      have CP := hide (part_is K hrd.drew (HTy.out.but (But.of (Below.drew (brefl _)))) (by omega))
      have hacc : acc.length ≤ 1000 := by omega
      obtain ⟨c0, c1, c2, _⟩ := hrd
      obtain ⟨d0, d1, d2⟩ := hw.way.box1
      have hb2 : b < W.heap.size + 2 := by omega
      have hlt1 := way_lt hw.way
      have hne1 := hw.way.ne1
      cases hp : partRes r with
      | error v =>
        have hv := partRes_ne hp
        have HR : Hid (R = .error v) := by show _ = _; rw [hR, hsp, hp]
        rw [hp] at CP
        clear hR hf h93 hal hsp hp hw hrel
        go_wp2_with fail
        go_region_law (first
            | (go_simp
               go_at_call 87
               refine CP.out.mono ?_
               rintro e w1 ⟨hB, x, y, z, rfl, hR1⟩
               have hl1 : W.heap.size + 1 < w1.heap.size := way_lt (HWY.out.drew.step hB)
               have hn1 : W.heap.size + 1 ≠ w1.heap.size := by omega
               have cw1 := (HWY.out.drew.step hB).box1.2.1)
            | (refine step_part rfl (.tmp 11) (.tmp 14) rfl (W.heap.size + 2) (.slice po acc.length pc) acc.length (Pa.cells acc) (by simp [Act.eval]) ((row_but (row_but HOW.out (But.of (b := b) (Below.drew (brefl _))) hb2) hB hb2).alloc _) w1.heap.size 1 (by simp [Act.eval]) _ _ _ (box3_new w1 _ _ _ 84) ⟨rfl, rfl, rfl⟩ (by omega) (by have := (HWY.out.drew.step hB).big; rw [size_alloc]; omega) _ rfl ?_
               intro g cap w2 ho hg hloc
               have HW2 := hide (((HWY.out.drew.step hB).alloc (.cells #[.int .i64 x, .int .i64 y, .bool z] 84)).grown hg (row_from HOW.out))
               have cc := HW2.out.box1.2.1
               have ff := HW2.out.free1.2 1))
        all_goals
          have HW3 := hide (HW2.out.set1 (.slice (some ⟨g, 0, none⟩) (acc.length + 1) cap))
          have HR3 := hide (((hR1.alloc (.cells #[.int .i64 x, .int .i64 y, .bool z] 84)).grown hg (fun k hk => by have := row_from HOW.out k hk; omega)).other (p := ⟨W.heap.size + 1, 1, none⟩) hne1 (.slice (some ⟨g, 0, none⟩) (acc.length + 1) cap))
          have CT := hide (take_is K.trims HR3.out 93 93 rfl false rfl [] rfl)
          clear ho hg hloc cc ff HW2 hR1 cw1 c0 c1 c2 d0 d1 d2 hB
          go_wp2_with fail
          refine CT.out.mono ?_
          rintro e w4 ⟨rfl, hB4, hR4⟩
          have HB4 := hide hB4
          have HR4 := hide hR4
          clear hB4 hR4 CT
          go_wp2_with fail
          refine ⟨.inr ⟨v, _, hv, rfl, HR.out, HR4.out, HW3.out.step HB4.out⟩, ?_⟩
          rw [HM.out, HR4.out.mes, if_neg hv]
          simp
      | ok pk =>
        obtain ⟨p, k⟩ := pk
        have hkl := partRes_suf hp
        have HR : Hid (R = Px.set f (acc ++ [p]) k) := by show _ = _; rw [hR, hsp, hp]
        have HF : Hid (k.length < f) := by show _ < _; omega
        have HAL : Hid (acc.length + 1 + k.length ≤ 1000) := by show _ ≤ _; omega
        have HKL := hide hkl
        rw [hp] at CP
        clear hR hf h93 hal hsp hp hw hrel hkl
        go_wp2_with fail
        go_region_law (first
            | (go_simp
               go_at_call 87
               refine CP.out.mono ?_
               rintro e w1 ⟨hB, k', hk1, hk2, rfl, hR1⟩
               have hl1 : W.heap.size + 1 < w1.heap.size := way_lt (HWY.out.drew.step hB)
               have hn1 : W.heap.size + 1 ≠ w1.heap.size := by omega
               have cw1 := (HWY.out.drew.step hB).box1.2.1)
            | (refine step_part rfl (.tmp 11) (.tmp 14) rfl (W.heap.size + 2) (.slice po acc.length pc) acc.length (Pa.cells acc) (by simp [Act.eval]) ((row_but (row_but HOW.out (But.of (b := b) (Below.drew (brefl _))) hb2) hB hb2).alloc _) w1.heap.size 1 (by simp [Act.eval]) _ _ _ (box3_new w1 _ _ _ 84) ⟨rfl, rfl, rfl⟩ (by omega) (by have := (HWY.out.drew.step hB).big; rw [size_alloc]; omega) _ rfl ?_
               intro g cap w2 ho hg hloc
               have HW1 := hide ((HWY.out.drew.step hB).alloc (.cells #[.int .i64 p.1, .int .i64 p.2.1, .bool p.2.2] 84))
               have HW2 := hide (HW1.out.grown hg (row_from HOW.out))
               have cc := HW2.out.box1.2.1
               have ff := HW2.out.free1.2 1))
        all_goals
          have HW3 := hide (SetWay.more HW1.out (row_from HOW.out) ho hg)
          have HR3 := hide (((hR1.alloc (.cells #[.int .i64 p.1, .int .i64 p.2.1, .bool p.2.2] 84)).grown hg (fun k hk => by have := row_from HOW.out k hk; omega)).other (p := ⟨W.heap.size + 1, 1, none⟩) hne1 (.slice (some ⟨g, 0, none⟩) (acc.length + 1) cap))
          have HK1 := hide hk1
          have HK2 := hide hk2
          clear ho hg hloc cc ff HW2 HW1 hR1 cw1 c0 c1 c2 d0 d1 d2 hB hk1 hk2
          cases h93 : Px.isAt k' 93 with
          | false =>
            have CT := hide (take_is K.trims HR3.out 93 93 rfl false h93 (Px.skip k') (by simp))
            have H93 : Hid (Px.isAt (Px.skip k') 93 = false) := by show _ = _; rw [Px.skip_skip_isAt]; exact h93
            clear h93
            go_wp2_with fail
            refine CT.out.mono ?_
            rintro e w4 ⟨rfl, hB4, hR4⟩
            have HB4 := hide hB4
            have HR4 := hide hR4
            clear hB4 hR4 CT
            go_wp2_with fail
            have hsl := (Px.skip_suf k').length_le
            have hk2 := HK2.out
            have hkl := HKL.out
            have hal := HAL.out
            have hff := HF.out
            refine ⟨.inl ⟨f, Px.skip k', acc ++ [p], some ⟨g, 0, none⟩, cap, ?_, by omega, .inr H93.out, by simp only [List.length_append, List.length_cons, List.length_nil]; omega, HR4.out, ?_⟩, ?_⟩
            · rw [HR.out, ← set_cong HK1.out, set_cong (Px.skip_idem k')]
            · have hs := HW3.out
              have := hs.way.step HB4.out
              rw [List.length_append]
              exact ⟨this, row_but (by simpa using hs.row) HB4.out hb2⟩
            · rw [HM.out, HR4.out.mes, if_pos rfl]
              omega
          | true =>
            have CT := hide (take_is K.trims HR3.out 93 93 rfl true h93 (Px.next k') (by simp))
            have HR2 : Hid (R = .ok (acc ++ [p], Px.next k)) := by
              show _ = _
              obtain ⟨f, rfl⟩ : ∃ g, f = g + 1 := ⟨f - 1, by have := HF.out; omega⟩
              rw [HR.out, Px.set, if_pos ⟨by simp, by rw [← isAt_cong HK1.out]; exact h93⟩]
            have HNX := hide (next_cong HK1.out)
            clear h93
            go_wp2_with fail
            refine CT.out.mono ?_
            rintro e w4 ⟨rfl, hB4, hR4⟩
            have HW4 := hide (HW3.out.way.step hB4)
            have HO4 := hide (row_but HW3.out.row hB4 hb2)
            have HR4 := hide hR4
            obtain ⟨d0, d1, d2⟩ := HW4.out.box1
            obtain ⟨e0, e1, e2⟩ := HW4.out.box0
            have fr := HW4.out.free0.2
            have f0 := fr 0
            have f1 := fr 1
            have f2 := fr 2
            clear hB4 hR4 CT fr
            go_wp2_with fail
            have hal := HAL.out
            change bodyPost Tryz.prog Tryz.f71 (NodePost b W d (setR R)) Exit.ret _ (put3 w4 W.heap.size (.int .i64 2) (.slice (some ⟨g, 0, none⟩) (acc.length + 1) cap) (.slice none 0 0))
            refine bodyPost_ret (v := .agg #[.int .i64 2, .slice (some ⟨g, 0, none⟩) (acc.length + 1) cap, .slice none 0 0]) (res_n Tryz.results71 _ _ W.heap.size rfl (put3_box HW4.out.box0 _ _ _)) rfl ?_
            have hown := set_own (W := W) (acc := acc ++ [p]) (po := some ⟨g, 0, none⟩) (pc := cap) (w' := put3 w4 W.heap.size (.int .i64 2) (.slice (some ⟨g, 0, none⟩) (acc.length + 1) cap) (.slice none 0 0)) ⟨by simpa using HW4.out, by simpa using HO4.out⟩ (by simp only [List.length_append, List.length_cons, List.length_nil]; omega) (by rw [put3_size]; omega) (fun k hk _ => put3_other _ _ _ _ _ k (by omega))
            refine nodePost_ok (n := .num false true (acc ++ [p])) (k := Px.next k) (k' := Px.next k') (by rw [HR2.out]; rfl) (put3_but HW4.out.but (.inr (Nat.le_refl _)) _ _ _) (by rw [HNX.out]) (by rw [HNX.out]; exact Nat.le_refl _) (put3_rd HR4.out HW4.out.ne0 _ _ _) ?_
            simpa using hown
    · have hv' : (v == 0) = false := by simpa using hv
      have HR := hide hR
      have HRd := hide hrd
      have HWY := hide hw
      obtain ⟨c0, c1, c2, _⟩ := hrd
      obtain ⟨d0, d1, d2⟩ := hw.box1
      obtain ⟨e0, e1, e2⟩ := hw.box0
      have fr := hw.free0.2
      have f0 := fr 0
      have f1 := fr 1
      have f2 := fr 2
      have s1 := fun w a m => run_store Tryz.prog w a vP m hvP
      clear hR hw fr hrel
      go_wp2_with fail
      change bodyPost Tryz.prog Tryz.f71 (NodePost b W d (setR R)) Exit.ret _ (put3 wr W.heap.size (.int .i64 2) vP (.slice none 0 0))
      refine bodyPost_ret (v := .agg #[.int .i64 2, vP, .slice none 0 0]) (res_n Tryz.results71 _ _ W.heap.size rfl (put3_box HWY.out.box0 _ _ _)) rfl ?_
      exact nodePost_err (by rw [HR.out]; rfl) (put3_but HWY.out.but (.inr (Nat.le_refl _)) _ _ _) (put3_rd HRd.out HWY.out.ne0 _ _ _) ⟨rfl, hvP, rfl⟩
end Go.Proofs.YtbceoinhmpnjaaaGreatDoor
