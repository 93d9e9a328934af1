import Derived.Test.YtpkikfojiibdaaaGreatDoorL6
import Derived.Test.YtpkikfojiibdaaaGreatDoorH1
/- The law AttrOwn. -/
namespace Go.Proofs.YtpkikfojiibdaaaGreatDoor
open Go.RowKit

/-- The blocks of attributes' lists. -/
def At.blk (a : At) (p c k : Option Addr) (b : Nat) : Prop := Blk p a.path.length b ∨ Blk c a.comms.length b ∨ Blk k a.cl.length b
theorem wr_blk {B : Nat} {w : World} {o : Option Addr} {n m : Nat} (h : Wr B w o m) (hnm : n ≠ 0 → m ≠ 0) {b : Nat} (hb : Blk o n b) : B ≤ b ∧ b < w.heap.size := by
  obtain ⟨hn, ad, rfl, rfl⟩ := hb
  rcases h with h | ⟨g, off, e, hg, hr⟩
  · exact absurd h (hnm hn)
  · cases e
    obtain ⟨v, hv⟩ := Option.isSome_iff_exists.1 (hr 0 (Nat.pos_of_ne_zero (hnm hn))).1
    exact ⟨hg, block_lt_of_cell hv⟩
theorem mine_blk {B : Nat} {w : World} {a : At} {p c k : Option Addr} (h : At.mine B w a p c k) {b : Nat} (hb : At.blk a p c k b) : B ≤ b ∧ b < w.heap.size := by
  rcases hb with hb | hb | hb
  · exact wr_blk h.2.1 id hb
  · exact wr_blk h.2.2.1 (by omega) hb
  · exact wr_blk h.2.2.2 id hb
theorem Wr'.keep {w w' : World} {o : Option Addr} {n m : Nat} (h : Wr' w o n) (hmn : n ≠ 0 → m ≠ 0) (hk : ∀ b, Blk o m b → w'.heap[b]? = w.heap[b]?) : Wr' w' o n := by
  rcases h with h | ⟨g, off, rfl, hr⟩
  · exact .inl h
  · by_cases h0 : n = 0
    · exact .inl h0
    · refine .inr ⟨g, off, rfl, fun j hj => ?_⟩
      have e := hk g ⟨hmn h0, _, rfl, rfl⟩
      obtain ⟨h1, h2⟩ := hr j hj
      refine ⟨by rw [cell_block e]; exact h1, ?_⟩
      unfold World.frozen? at h2 ⊢
      rw [e]
      exact h2
/-- Attributes that can be written over. -/
def At.open_ (w : World) (a : At) (p c k : Option Addr) : Prop := Wr' w p a.path.length ∧ Wr' w c (a.comms.length * 2) ∧ Wr' w k a.cl.length
theorem At.open_keep {w w' : World} {a : At} {p c k : Option Addr} (h : At.open_ w a p c k) (hk : ∀ b, At.blk a p c k b → w'.heap[b]? = w.heap[b]?) : At.open_ w' a p c k :=
  ⟨h.1.keep id fun b hb => hk b (.inl hb), h.2.1.keep (m := a.comms.length) (by omega) fun b hb => hk b (.inr (.inl hb)), h.2.2.keep id fun b hb => hk b (.inr (.inr hb))⟩
theorem mine_open {B : Nat} {w : World} {a : At} {p c k : Option Addr} (h : At.mine B w a p c k) : At.open_ w a p c k := ⟨h.2.1.out, h.2.2.1.out, h.2.2.2.out⟩
theorem is_kept {w w' : World} {o : Option Addr} {l : List Int} (h : Is.slot w o l) (hk : ∀ b, Blk o l.length b → w'.heap[b]? = w.heap[b]?) : Is.slot w' o l := by
  rcases h with h | ⟨b, off, rfl, hr⟩
  · exact .inl h
  · by_cases h0 : l.length = 0
    · exact .inl (List.length_eq_zero_iff.1 h0)
    · exact .inr ⟨b, off, rfl, fun j hj => (cell_block (hk b ⟨h0, _, rfl, rfl⟩) _).trans (hr j hj)⟩
theorem few_zero : At.zero.path.length ≤ 100 ∧ At.zero.comms.length ≤ 100 ∧ At.zero.cl.length ≤ 100 := by decide
theorem do_few {a r : At} {s : St} {q : Int} (h : At.DoTo a s r q) : r.path.length ≤ 100 ∧ r.comms.length ≤ 100 ∧ r.cl.length ≤ 100 := by
  rcases do_err h with ⟨h0, _, _⟩ | ⟨_, rfl⟩
  · subst h0
    exact may_few (do_may h)
  · exact few_zero
set_option maxHeartbeats 8000000 in
set_option maxRecDepth 100000 in
theorem law_own {T : World → Prop} (K : Kit T) (a : At) (po co ko : Option Addr) (cp cc ck : Nat) (s : St) (ao dl pr : Option Addr) (ca cd cr : Nat) (w : World) (hT : T w) (hA : At.lies w a po co ko) (hCA : At.came a po co ko cp cc ck) (hS : St.lies w s ao dl pr) (hCS : Cm.Co.came ao ca ∧ Cm.Co.came dl cd ∧ Cm.Co.came pr cr) :
    Calls Tryz.prog 5 #[.agg #[.int .i64 a.pf, .int .i64 a.md, .int .i64 a.og, .slice po a.path.length cp, .slice co a.comms.length cc, .int .i64 a.fr, .slice ko a.cl.length ck], .agg #[.int .i64 s.pf, .int .i64 s.md, .int .i64 s.og, .slice ao s.add.length ca, .slice dl s.del.length cd, .bool s.clr, .slice pr s.pre.length cr]] w fun e w' => e = .returned (.bool true) ∧ Below w.heap.size w w' := by
  obtain ⟨h1, h2, hbb⟩ := boxes2 w #[.int .i64 a.pf, .int .i64 a.md, .int .i64 a.og, .slice po a.path.length cp, .slice co a.comms.length cc, .int .i64 a.fr, .slice ko a.cl.length ck] #[.int .i64 s.pf, .int .i64 s.md, .int .i64 s.og, .slice ao s.add.length ca, .slice dl s.del.length cd, .bool s.clr, .slice pr s.pre.length cr] 25 27
  have N1 := hide h1
  have N2 := hide h2
  have HB := hide hbb
  clear h1 h2 hbb
  have CL := hide (fun W (hb : Below w.heap.size w W) => lives_is K W (K.on hT hb))
  have LA := hide hA
  have LS := hide hS
  have HCA := hide hCA
  have HCS := hide hCS
  have HT := hide hT
  have HK := hide K
  obtain ⟨fa, hfa⟩ : ∃ r, few3 a.path.length a.comms.length a.cl.length = r := ⟨_, rfl⟩
  obtain ⟨fs, hfs⟩ : ∃ r, few3 s.add.length s.del.length s.pre.length = r := ⟨_, rfl⟩
  have Fa := hide (fun W => few_is a.pf a.md a.og a.fr po co ko _ _ _ cp cc ck fa hfa W)
  have Fs := hide (fun W => fewSet_is s.pf s.md s.og ao dl pr _ _ _ ca cd cr s.clr fs hfs W)
  have HFa := hide hfa
  have HFs := hide hfs
  clear hfa hfs hA hS hCA hCS hT K
  go_enter Tryz.func5, Tryz.ntmps5
  go_wp2_with fail
  generalize (w.alloc (.cells #[.int .i64 a.pf, .int .i64 a.md, .int .i64 a.og, .slice po a.path.length cp, .slice co a.comms.length cc, .int .i64 a.fr, .slice ko a.cl.length ck] 25)).alloc (.cells #[.int .i64 s.pf, .int .i64 s.md, .int .i64 s.og, .slice ao s.add.length ca, .slice dl s.del.length cd, .bool s.clr, .slice pr s.pre.length cr] 27) = W at *
  obtain ⟨p, hp⟩ : ∃ p, w.heap.size = p := ⟨_, rfl⟩
  rw [hp] at N1 N2
  have HP := hide hp
  rw [hp]
  clear hp
  obtain ⟨q, hq⟩ : ∃ q, p + 1 = q := ⟨_, rfl⟩
  rw [hq] at N2
  have HPQ : Hid (p ≠ q ∧ p ≤ q) := ⟨by omega, by omega⟩
  rw [hq]
  clear hq
  cases fa
  · refine (Fa.out _).mono ?_
    rintro e w1 ⟨rfl, hb1⟩
    have B1 := hide (bthen HB.out hb1)
    have CL1 := hide (CL.out w1 B1.out)
    clear hb1
    go_wp2_with fail
    refine CL1.out.mono ?_
    rintro e w2 ⟨rfl, hb2⟩
    have B2 := hide (bthen B1.out hb2)
    clear hb2
    go_wp2_with fail
    go_ret
    exact ⟨rfl, B2.out⟩
  refine (Fa.out _).mono ?_
  rintro e w1 ⟨rfl, hb1⟩
  have B1 := hide hb1
  obtain ⟨d0, d1, d2, d3, d4, d5, d6⟩ := seven_cells ((hb1.block q (heap_lt N2.out)).trans N2.out)
  clear hb1
  go_wp2_with fail
  cases fs
  · refine (Fs.out _).mono ?_
    rintro e w2 ⟨rfl, hb2⟩
    have B2 := hide (bthen HB.out (bthen B1.out hb2))
    have CL1 := hide (CL.out w2 B2.out)
    clear hb2
    go_wp2_with fail
    refine CL1.out.mono ?_
    rintro e w3 ⟨rfl, hb3⟩
    have B3 := hide (bthen B2.out hb3)
    clear hb3
    go_wp2_with fail
    go_ret
    exact ⟨rfl, B3.out⟩
  refine (Fs.out _).mono ?_
  rintro e w3 ⟨rfl, hb3⟩
  have B3 := hide (bthen B1.out hb3)
  clear hb3 d0 d1 d2 d3 d4 d5 d6 Fa Fs B1
  obtain ⟨ma1, ma2, ma3⟩ := (few3_iff _ _ _).1 HFa.out
  obtain ⟨ms1, ms2, ms3⟩ := (few3_iff _ _ _).1 HFs.out
  have M1 := hide ma1
  have M2 := hide ma2
  have M3 := hide ma3
  have S1 := hide ms1
  have S2 := hide ms2
  have S3 := hide ms3
  clear ma1 ma2 ma3 ms1 ms2 ms3 HFa HFs
  have NP0 := hide ((B3.out.block p (heap_lt N1.out)).trans N1.out)
  have NQ0 := hide ((B3.out.block q (heap_lt N2.out)).trans N2.out)
  have BW := hide (bthen HB.out B3.out)
  have HPL : Hid (p < w3.heap.size ∧ q < w3.heap.size) := ⟨heap_lt NP0.out, heap_lt NQ0.out⟩
  clear N1 N2 B3 HB
  obtain ⟨ta, hta⟩ : ∃ x : ByteArray, x = ⟨(At.text a).toArray⟩ := ⟨_, rfl⟩
  have CT := hide (fun W' (hb : Below w.heap.size w W') => HK.out.text a po co ko cp cc ck ta hta W' (HK.out.on HT.out hb) (At.lies_below LA.out hb) M1.out M2.out M3.out HCA.out.2.2.2)
  have CC := hide (fun W' (hb : Below w.heap.size w W') => HK.out.copy a po co ko cp cc ck W' (HK.out.on HT.out hb) (At.lies_below LA.out hb) HCA.out M1.out M2.out M3.out)
  have SH : Hid (∀ W', Below w3.heap.size w3 W' → (fun w' => w'.cell? ⟨p, 0, none⟩ = some (.int .i64 a.pf) ∧ w'.cell? ⟨p, 1, none⟩ = some (.int .i64 a.md) ∧ w'.cell? ⟨p, 2, none⟩ = some (.int .i64 a.og) ∧ w'.cell? ⟨p, 3, none⟩ = some (.slice po a.path.length cp) ∧ w'.cell? ⟨p, 4, none⟩ = some (.slice co a.comms.length cc) ∧ w'.cell? ⟨p, 5, none⟩ = some (.int .i64 a.fr) ∧ w'.cell? ⟨p, 6, none⟩ = some (.slice ko a.cl.length ck)) W') := fun W' hb => by
    obtain ⟨c0, c1, c2, c3, c4, c5, c6⟩ := seven_cells ((hb.block p (heap_lt NP0.out)).trans NP0.out)
    exact ⟨c0, c1, c2, c3, c4, c5, c6⟩
  have B0 : Hid (Below w3.heap.size w3 w3.drew) := (brefl w3).drew
  clear hta
  go_wp2_with fail
  refine wp_region_held_drew (S := fun w' => w'.cell? ⟨p, 0, none⟩ = some (.int .i64 a.pf) ∧ w'.cell? ⟨p, 1, none⟩ = some (.int .i64 a.md) ∧ w'.cell? ⟨p, 2, none⟩ = some (.int .i64 a.og) ∧ w'.cell? ⟨p, 3, none⟩ = some (.slice po a.path.length cp) ∧ w'.cell? ⟨p, 4, none⟩ = some (.slice co a.comms.length cc) ∧ w'.cell? ⟨p, 5, none⟩ = some (.int .i64 a.fr) ∧ w'.cell? ⟨p, 6, none⟩ = some (.slice ko a.cl.length ck)) (by kernel_rfl) (SH.out _ B0.out) (fun hHeld => ?_)
  refine wpAnyH_take (i := 0) (v := .agg #[.int .i64 a.pf, .int .i64 a.md, .int .i64 a.og, .slice po a.path.length cp, .slice co a.comms.length cc, .int .i64 a.fr, .slice ko a.cl.length ck]) rfl (by kernel_rfl) (by kernel_rfl) (by kernel_rfl) (fun _ _ _ h => h) (Or.inl ⟨by rfl, fun w hSw => by dsimp only at hSw; go_simp⟩) hHeld ?_
  simp only [Act.put, List.getElem_toArray, List.getElem_cons_zero, List.setIfInBounds_toArray, List.set_cons_zero, List.set_cons_succ]
  refine wpAnyH_take (i := 2) (v := .agg #[.int .i64 a.pf, .int .i64 a.md, .int .i64 a.og, .slice po a.path.length cp, .slice co a.comms.length cc, .int .i64 a.fr, .slice ko a.cl.length ck]) rfl (by kernel_rfl) (by kernel_rfl) (by kernel_rfl) (fun _ _ _ h => h) (Or.inl ⟨by rfl, fun w hSw => by dsimp only at hSw; go_simp⟩) hHeld ?_
  simp only [Act.put, List.getElem_toArray, List.getElem_cons_zero, List.getElem_cons_succ, List.setIfInBounds_toArray, List.set_cons_zero, List.set_cons_succ]
  refine wpAnyH_ready (rs := [1, 4]) (by kernel_rfl) (by simp) ?_
  refine AllReadyH.cons rfl (fun K hK => ?_) ?_
  · go_simp
    go_wp2_with (refine (CT.out _ (bthen BW.out B0.out)).mono ?_; rintro e w1' ⟨rfl, hb⟩; have B1 := hide (bthen B0.out hb); clear hb)
    refine hK.out _ _ (SH.out _ B1.out) (fun hHeld => ?_)
    clear hK K
    try simp only [Act.put, List.getElem_toArray, List.getElem_cons_zero, List.getElem_cons_succ, List.setIfInBounds_toArray, List.set_cons_zero, List.set_cons_succ]
    refine wpAnyH_ready (rs := [3, 4]) (by kernel_rfl) (by simp) ?_
    refine AllReadyH.cons rfl (fun K hK => ?_) ?_
    · go_simp
      go_wp2_with (refine (CC.out _ (bthen BW.out B1.out)).mono ?_; rintro e w2' ⟨pc, qc, kc, npc, nqc, nkc, rfl, hm, hc, hb⟩; have HM := hide hm; have B2 := hide (bthen B1.out hb); have HLO := hide hb.size; clear hb hm hc)
      refine hK.out _ _ (SH.out _ B2.out) (fun hHeld => ?_)
      clear hK K
      try simp only [Act.put, List.getElem_toArray, List.getElem_cons_zero, List.getElem_cons_succ, List.setIfInBounds_toArray, List.set_cons_zero, List.set_cons_succ]
      refine wpAnyH_ready (rs := [4]) (by kernel_rfl) (by simp) ?_
      refine AllReadyH.cons rfl (fun K hK => ?_) AllReadyH.nil
      have NZ := hide (heap_new w2' #[.int .i64 0, .int .i64 0, .int .i64 0, .slice none 0 0, .slice none 0 0, .int .i64 0, .slice none 0 0] 25)
      have B3 := hide (bthen B2.out (balloc (brefl w2') (.cells #[.int .i64 0, .int .i64 0, .int .i64 0, .slice none 0 0, .slice none 0 0, .int .i64 0, .slice none 0 0] 25)))
      have HG : Hid (w3.heap.size ≤ w2'.heap.size) := B2.out.size
      go_simp
      refine hK.out _ _ (SH.out _ B3.out) (fun hHeld => ?_)
      clear hK K
      try simp only [Act.put, List.getElem_toArray, List.getElem_cons_zero, List.getElem_cons_succ, List.setIfInBounds_toArray, List.set_cons_zero, List.set_cons_succ]
      have LN := hide (At.lies_below HM.out.1 (put7_below (balloc (brefl w2') (.cells #[.int .i64 0, .int .i64 0, .int .i64 0, .slice none 0 0, .slice none 0 0, .int .i64 0, .slice none 0 0] 25)) (Nat.le_refl _) (.int .i64 a.pf) (.int .i64 a.md) (.int .i64 a.og) (.slice pc a.path.length npc) (.slice qc a.comms.length nqc) (.int .i64 a.fr) (.slice kc a.cl.length nkc)))
      have HO := hide (At.open_keep (w' := put7 (w2'.alloc (.cells #[.int .i64 0, .int .i64 0, .int .i64 0, .slice none 0 0, .slice none 0 0, .int .i64 0, .slice none 0 0] 25)) w2'.heap.size (.int .i64 a.pf) (.int .i64 a.md) (.int .i64 a.og) (.slice pc a.path.length npc) (.slice qc a.comms.length nqc) (.int .i64 a.fr) (.slice kc a.cl.length nkc)) (mine_open HM.out) (fun b hb => (put7_below (balloc (brefl w2') (.cells #[.int .i64 0, .int .i64 0, .int .i64 0, .slice none 0 0, .slice none 0 0, .int .i64 0, .slice none 0 0] 25)) (Nat.le_refl _) (.int .i64 a.pf) (.int .i64 a.md) (.int .i64 a.og) (.slice pc a.path.length npc) (.slice qc a.comms.length nqc) (.int .i64 a.fr) (.slice kc a.cl.length nkc)).block b (mine_blk HM.out hb).2))
      have HC0 : Hid (∀ b, At.blk a pc qc kc b → w3.heap.size ≤ b ∧ b < (w2'.alloc (.cells #[.int .i64 0, .int .i64 0, .int .i64 0, .slice none 0 0, .slice none 0 0, .int .i64 0, .slice none 0 0] 25)).heap.size ∧ b ≠ w2'.heap.size) := fun b hb => by have h1 := mine_blk HM.out hb; have h2 := B1.out.size; have h3 := (balloc (brefl w2') (.cells #[.int .i64 0, .int .i64 0, .int .i64 0, .slice none 0 0, .slice none 0 0, .int .i64 0, .slice none 0 0] 25)).size; exact ⟨by omega, by omega, by omega⟩
      generalize w2'.alloc (.cells #[.int .i64 0, .int .i64 0, .int .i64 0, .slice none 0 0, .slice none 0 0, .int .i64 0, .slice none 0 0] 25) = w3' at *
      generalize w2'.heap.size = g6 at *
      obtain ⟨z0, z1, z2, z3, z4, z5, z6⟩ := seven_cells NZ.out
      have f0 := frozen7 NZ.out 0
      have f1 := frozen7 NZ.out 1
      have f2 := frozen7 NZ.out 2
      have f3 := frozen7 NZ.out 3
      have f4 := frozen7 NZ.out 4
      have f5 := frozen7 NZ.out 5
      have f6 := frozen7 NZ.out 6
      have N6 := hide (put7_same NZ.out (.int .i64 a.pf) (.int .i64 a.md) (.int .i64 a.og) (.slice pc a.path.length npc) (.slice qc a.comms.length nqc) (.int .i64 a.fr) (.slice kc a.cl.length nkc))
      have B9 := hide (put7_below B3.out HG.out (.int .i64 a.pf) (.int .i64 a.md) (.int .i64 a.og) (.slice pc a.path.length npc) (.slice qc a.comms.length nqc) (.int .i64 a.fr) (.slice kc a.cl.length nkc))
      refine wpAnyH_take (i := 5) (v := .string ta) rfl (by kernel_rfl) (by kernel_rfl) (by kernel_rfl) (fun _ _ _ h => h) (Or.inl ⟨by rfl, fun w hSw => by dsimp only at hSw; go_simp⟩) hHeld ?_
      simp only [Act.put, List.getElem_toArray, List.getElem_cons_zero, List.getElem_cons_succ, List.setIfInBounds_toArray, List.set_cons_zero, List.set_cons_succ]
      refine wpAnyH_ready (rs := [6]) (by kernel_rfl) (by simp) ?_
      refine AllReadyH.cons rfl (fun K hK => ?_) AllReadyH.nil
      go_simp
      change K _ (put7 w3' g6 (.int .i64 a.pf) (.int .i64 a.md) (.int .i64 a.og) (.slice pc a.path.length npc) (.slice qc a.comms.length nqc) (.int .i64 a.fr) (.slice kc a.cl.length nkc))
      have SZ : Hid ((put7 w3' g6 (.int .i64 a.pf) (.int .i64 a.md) (.int .i64 a.og) (.slice pc a.path.length npc) (.slice qc a.comms.length nqc) (.int .i64 a.fr) (.slice kc a.cl.length nkc)).heap.size = w3'.heap.size) := by show _ = _; unfold put7; simp only [size_setCell]
      have HCB : Hid (∀ b, At.blk a pc qc kc b → w3.heap.size ≤ b ∧ b < (put7 w3' g6 (.int .i64 a.pf) (.int .i64 a.md) (.int .i64 a.og) (.slice pc a.path.length npc) (.slice qc a.comms.length nqc) (.int .i64 a.fr) (.slice kc a.cl.length nkc)).heap.size ∧ b ≠ g6) := fun b hb => by rw [SZ.out]; exact HC0.out b hb
      clear z0 z1 z2 z3 z4 z5 z6 f0 f1 f2 f3 f4 f5 f6 NZ SZ HC0
      generalize put7 w3' g6 (.int .i64 a.pf) (.int .i64 a.md) (.int .i64 a.og) (.slice pc a.path.length npc) (.slice qc a.comms.length nqc) (.int .i64 a.fr) (.slice kc a.cl.length nkc) = w9 at *
      refine hK.out _ _ (SH.out _ B9.out) (fun hHeld => ?_)
      clear hK K
      try simp only [Act.put, List.getElem_toArray, List.getElem_cons_zero, List.getElem_cons_succ, List.setIfInBounds_toArray, List.set_cons_zero, List.set_cons_succ]
      refine wpAnyH_done (by kernel_rfl) ?_ _
      clear hHeld SH CC B0 HM HLO
      have CS := hide (HK.out.same a a pc qc kc npc nqc nkc po co ko cp cc ck true (decide_eq_true ((At.cmp_zero a a).2 rfl)) w9 (HK.out.on HT.out (bthen BW.out B9.out)) LN.out (At.lies_below LA.out (bthen BW.out B9.out)) M1.out M2.out M3.out M1.out M2.out M3.out)
      obtain ⟨d0, d1, d2, d3, d4, d5, d6⟩ := seven_cells ((B9.out.block p (heap_lt NP0.out)).trans NP0.out)
      obtain ⟨e0, e1, e2, e3, e4, e5, e6⟩ := seven_cells N6.out
      go_wp2_with fail
      refine CS.out.mono ?_
      rintro e w10 ⟨rfl, hb10⟩
      have B10 := hide (bthen B9.out hb10)
      have BC := hide hb10
      clear hb10 CS
      clear d0 d1 d2 d3 d4 d5 d6 e0 e1 e2 e3 e4 e5 e6
      obtain ⟨d0, d1, d2, d3, d4, d5, d6⟩ := seven_cells ((B10.out.block q (heap_lt NQ0.out)).trans NQ0.out)
      have SP := hide (Is.slot_below LS.out.2.2 (bthen BW.out B10.out))
      have S3' := S3.out
      go_wp2_with (at_builtin; go_must (refine append_ints (w0 := w10) rfl _ _ rfl _ 0 [] rfl (World.ownsRow_nil _ _ _ _) pr s.pre.length cr s.pre rfl rfl SP.out HCS.out.2.2 (by omega) (brefl w10) ?_))
      intro v' w11 hown hb11
      obtain ⟨hoA, hcA, rfl⟩ := row_slice hown
      have HB11 := hide hb11.size
      have HS := hide (Is.slot_own hown)
      have HBH : Hid (∀ b, Blk hoA s.pre.length b → w10.heap.size ≤ b ∧ b < w11.heap.size) := fun b hb => by obtain ⟨hn, ad, e1, e2⟩ := hb; rcases hown.2 with ⟨_, h0⟩ | ⟨g, cap, cur, hv, hB, hg, _⟩; exact absurd h0 hn; simp only [Value.slice.injEq] at hv; rw [hv.1] at e1; cases e1; subst e2; exact ⟨hB, heap_lt hg⟩
      have B11 := hide (bthen B10.out hb11)
      have BC11 := hide (bthen BC.out hb11)
      clear hown hb11 SP
      clear d0 d1 d2 d3 d4 d5 d6
      obtain ⟨d0, d1, d2, d3, d4, d5, d6⟩ := seven_cells ((B11.out.block p (heap_lt NP0.out)).trans NP0.out)
      obtain ⟨e0, e1, e2, e3, e4, e5, e6⟩ := seven_cells ((B11.out.block q (heap_lt NQ0.out)).trans NQ0.out)
      have CD := hide (HK.out.do_ a po co ko cp cc ck s ao dl pr ca cd cr w11 (HK.out.on HT.out (bthen BW.out B11.out)) (At.lies_below LA.out (bthen BW.out B11.out)) HCA.out M1.out M2.out M3.out (St.lies_below LS.out (bthen BW.out B11.out)) HCS.out S1.out S2.out S3.out)
      go_wp2_with fail
      refine CD.out.mono ?_
      rintro e w12 ⟨r, rq, px, qx, kx, npx, nqx, nkx, rfl, hd, hm, hc, hb12⟩
      obtain ⟨f1, f2, f3⟩ := do_few hd
      have F1 := hide f1
      have F2 := hide f2
      have F3 := hide f3
      have HMX := hide hm
      have B12 := hide (bthen B11.out hb12)
      have BC12 := hide (bthen BC11.out hb12)
      have HS12 := hide (Is.slot_below HS.out hb12)
      have HSZ := hide hb12.size
      clear hd hm hc hb12 CD f1 f2 f3 HS
      clear d0 d1 d2 d3 d4 d5 d6 e0 e1 e2 e3 e4 e5 e6
      have BA := hide (balloc (brefl w12) (.cells #[.int .i64 r.pf, .int .i64 r.md, .int .i64 r.og, .slice px r.path.length npx, .slice qx r.comms.length nqx, .int .i64 r.fr, .slice kx r.cl.length nkx] 25))
      have HXL : Hid (w12.heap.size < (w12.alloc (.cells #[.int .i64 r.pf, .int .i64 r.md, .int .i64 r.og, .slice px r.path.length npx, .slice qx r.comms.length nqx, .int .i64 r.fr, .slice kx r.cl.length nkx] 25)).heap.size) := heap_lt (heap_new w12 #[.int .i64 r.pf, .int .i64 r.md, .int .i64 r.og, .slice px r.path.length npx, .slice qx r.comms.length nqx, .int .i64 r.fr, .slice kx r.cl.length nkx] 25)
      have N8 := hide (heap_new w12 #[.int .i64 r.pf, .int .i64 r.md, .int .i64 r.og, .slice px r.path.length npx, .slice qx r.comms.length nqx, .int .i64 r.fr, .slice kx r.cl.length nkx] 25)
      have B13 := hide (bthen B12.out BA.out)
      have BC13 := hide (bthen BC12.out BA.out)
      have HS13 := hide (Is.slot_below HS12.out BA.out)
      have OX13 := hide (At.open_keep (mine_open HMX.out) (fun b hb => BA.out.block b (mine_blk HMX.out hb).2))
      have HXB : Hid (∀ b, At.blk r px qx kx b → w11.heap.size ≤ b ∧ b < w12.heap.size) := fun b hb => mine_blk HMX.out hb
      have OC13 := hide (At.open_keep HO.out (fun b hb => BC13.out.block b (HCB.out b hb).2.1))
      have NC13 := hide ((BC13.out.block g6 (heap_lt N6.out)).trans N6.out)
      have CP1 := hide (spoil_is a.pf a.md a.og a.fr pc qc kc _ _ _ npc nqc nkc _ OC13.out.1 OC13.out.2.1 OC13.out.2.2 M1.out M2.out M3.out)
      have HG8 : Hid (w9.heap.size ≤ w12.heap.size) := BC12.out.size
      obtain ⟨d0, d1, d2, d3, d4, d5, d6⟩ := seven_cells NC13.out
      clear BA HMX
      go_wp2_with fail
      generalize w12.alloc (.cells #[.int .i64 r.pf, .int .i64 r.md, .int .i64 r.og, .slice px r.path.length npx, .slice qx r.comms.length nqx, .int .i64 r.fr, .slice kx r.cl.length nkx] 25) = w13 at *
      obtain ⟨g8, hg8⟩ : ∃ x, w12.heap.size = x := ⟨_, rfl⟩
      rw [hg8] at N8 HXB HG8 HXL HSZ
      rw [hg8]
      clear hg8
      refine CP1.out.mono ?_
      rintro e w14 ⟨rfl, hk1⟩
      have K14 := hide hk1
      clear hk1 CP1
      clear d0 d1 d2 d3 d4 d5 d6
      have HC9 : Hid (∀ b, At.blk a pc qc kc b → w3.heap.size ≤ b ∧ b < w9.heap.size) := fun b hb => ⟨(HCB.out b hb).1, (HCB.out b hb).2.1⟩
      have SZ := hide (show w3.heap.size ≤ w9.heap.size ∧ w9.heap.size ≤ w10.heap.size ∧ w9.heap.size ≤ w13.heap.size from ⟨B9.out.size, BC.out.size, BC13.out.size⟩)
      have NP13 := hide ((B13.out.block p (heap_lt NP0.out)).trans NP0.out)
      have NQ13 := hide ((B13.out.block q (heap_lt NQ0.out)).trans NQ0.out)
      have NP14 := hide ((K14.out.block p (fun e => by have := HC9.out p e; have := HPL.out; omega) (heap_lt NP13.out)).trans NP13.out)
      have NQ14 := hide ((K14.out.block q (fun e => by have := HC9.out q e; have := HPL.out; omega) (heap_lt NQ13.out)).trans NQ13.out)
      have N814 := hide ((K14.out.block g8 (fun e => by have := HC9.out g8 e; have := HG8.out; omega) (heap_lt N8.out)).trans N8.out)
      have HX13 : Hid (g8 < w13.heap.size) := heap_lt N8.out
      have OX14 := hide (At.open_keep (w' := w14) OX13.out (fun b hb => K14.out.block b (fun e => by have := HC9.out b e; have := HXB.out b hb; have := HB11.out; have := SZ.out; omega) (by have := HXB.out b hb; have := HX13.out; omega)))
      have HW13 : Hid (w11.heap.size ≤ w13.heap.size) := by show _ ≤ _; have := HSZ.out; have := HX13.out; have := HXL.out; omega
      have HS14 := hide (is_kept (w' := w14) HS13.out (fun b hb => K14.out.block b (fun e => by have := HC9.out b e; have := HBH.out b hb; have := SZ.out; omega) (by have := HBH.out b hb; have := HW13.out; omega)))
      have BW13 := hide (bthen BW.out B13.out)
      have HWS : Hid (w.heap.size ≤ w3.heap.size) := BW.out.size
      have BW14 := hide (K14.out.below' BW13.out (fun b e => by have := HC9.out b e; have := HWS.out; omega) BW13.out.size)
      have CP2 := hide (spoil_is r.pf r.md r.og r.fr px qx kx _ _ _ npx nqx nkx _ OX14.out.1 OX14.out.2.1 OX14.out.2.2 F1.out F2.out F3.out)
      obtain ⟨d0, d1, d2, d3, d4, d5, d6⟩ := seven_cells N814.out
      go_wp2_with fail
      refine CP2.out.mono ?_
      rintro e w15 ⟨rfl, hk2⟩
      have K15 := hide hk2
      clear hk2 CP2
      clear d0 d1 d2 d3 d4 d5 d6
      have HX9 : Hid (∀ b, At.blk r px qx kx b → w11.heap.size ≤ b) := fun b hb => (HXB.out b hb).1
      have HQ11 : Hid (p < w11.heap.size ∧ q < w11.heap.size) := by have := HPL.out; have := SZ.out; have := HB11.out; exact ⟨by omega, by omega⟩
      have NP15 := hide ((K15.out.block p (fun e => by have := HX9.out p e; have := HQ11.out; omega) (heap_lt NP14.out)).trans NP14.out)
      have NQ15 := hide ((K15.out.block q (fun e => by have := HX9.out q e; have := HQ11.out; omega) (heap_lt NQ14.out)).trans NQ14.out)
      have HW14 : Hid (w11.heap.size ≤ w14.heap.size) := Nat.le_trans HW13.out K14.out.size
      have HS15 := hide (is_kept (w' := w15) HS14.out (fun b hb => K15.out.block b (fun e => by have := HX9.out b e; have := HBH.out b hb; omega) (by have := HBH.out b hb; have := HW14.out; omega)))
      have HW11 : Hid (w.heap.size ≤ w11.heap.size) := by show _ ≤ _; have := HWS.out; have := SZ.out; have := HB11.out; omega
      have BW15 := hide (K15.out.below' BW14.out (fun b e => by have := HX9.out b e; have := HW11.out; omega) BW14.out.size)
      have PS15 := hide (Is.slot_below LS.out.2.2 BW15.out)
      clear OX14 OX13 OC13 HS14 HS13 HS12 N814 NP14 NQ14 NP13 NQ13 N8 K14 K15 BW14 BW13 HC9 HXB HX9 NC13 BC13 BC12 BC11 BC B13 B12 B11 B10 B9 HCB HBH HO LN N6 HW13 HW14 HWS HX13 SZ HSZ
      go_wp2_with fail
      go_loopw [10] (fun v wr => ∃ k : Nat, v = .int .i64 k ∧ k ≤ s.pre.length ∧ Below w15.heap.size w15 wr) (fun v _ => s.pre.length - (intOf v).toNat)
      case atStart => exact ⟨0, rfl, Nat.zero_le _, brefl _⟩
      case round =>
        obtain ⟨k, rfl, hk, hbr⟩ := hrel
        have BR := hide hbr
        clear hbr
        by_cases hlt : k < s.pre.length
        · have hlt' : (k : Int) < (s.pre.length : Int) := by omega
          obtain ⟨b1, o1, e1, hr1⟩ := Is.slot_at (Is.slot_below PS15.out BR.out) hlt
          obtain ⟨b2, o2, e2, hr2⟩ := Is.slot_at (Is.slot_below HS15.out BR.out) hlt
          have i1 := hr1 k hlt
          have i2 := hr2 k hlt
          clear hr1 hr2
          generalize s.pre[k] = y at i1 i2
          subst e1 e2
          obtain ⟨d0, d1, d2, d3, d4, d5, d6⟩ := seven_cells ((BR.out.block q (heap_lt NQ15.out)).trans NQ15.out)
          have r6 := fun dd os => cell_regrown d6 dd os
          have j1 := fun dd os => cell_regrown i1 dd os
          have j2 := fun dd os => cell_regrown i2 dd os
          have hyy : (y != y) = false := by simp
          clear d0 d1 d2 d3 d4 d5 d6
          clear i1 i2
          go_wp2_with fail
          refine wp_region_quiet_below (by kernel_rfl) (by kernel_rfl) ?_
          repeat (go_big_quiet_step (fail))
          refine wpQuiet_nil ?_
          rintro _ ⟨⟨dd, os⟩, rfl⟩
          have hbq := below_regrown wr dd os
          generalize Sort.grow (redrawn wr dd) os = wq at hbq
          have BQ := hide (bthen BR.out hbq)
          clear hbq r6 j1 j2
          go_wp2_with fail
          exact ⟨⟨k + 1, by go_num, hlt, BQ.out⟩, by simp [intOf]; omega⟩
        · have e : s.pre.length = k := by omega
          have hnl : ¬ (k : Int) < (s.pre.length : Int) := by omega
          clear e
          obtain ⟨d0, d1, d2, d3, d4, d5, d6⟩ := seven_cells ((BR.out.block p (heap_lt NP15.out)).trans NP15.out)
          have CT1 := hide (CT.out wr (bthen BW15.out BR.out))
          have htt : (ta.toList == ta.toList) = true := by simp
          go_wp2_with fail
          refine CT1.out.mono ?_
          rintro e wy ⟨rfl, hby⟩
          have BY := hide (bthen (bthen BW15.out BR.out) hby)
          have CL1 := hide (CL.out wy BY.out)
          clear hby CT1
          go_wp2_with fail
          refine CL1.out.mono ?_
          rintro e wz ⟨rfl, hbz⟩
          have BZ := hide (bthen BY.out hbz)
          clear hbz
          go_wp2_with fail
          go_ret
          exact ⟨rfl, BZ.out⟩
    · refine AllReadyH.cons rfl (fun K hK => ?_) AllReadyH.nil
      have NZ := hide (heap_new w1' #[.int .i64 0, .int .i64 0, .int .i64 0, .slice none 0 0, .slice none 0 0, .int .i64 0, .slice none 0 0] 25)
      have B2 := hide (bthen B1.out (balloc (brefl w1') (.cells #[.int .i64 0, .int .i64 0, .int .i64 0, .slice none 0 0, .slice none 0 0, .int .i64 0, .slice none 0 0] 25)))
      have HG : Hid (w3.heap.size ≤ w1'.heap.size) := B1.out.size
      go_simp
      refine hK.out _ _ (SH.out _ B2.out) (fun hHeld => ?_)
      clear hK K
      try simp only [Act.put, List.getElem_toArray, List.getElem_cons_zero, List.getElem_cons_succ, List.setIfInBounds_toArray, List.set_cons_zero, List.set_cons_succ]
      generalize w1'.alloc (.cells #[.int .i64 0, .int .i64 0, .int .i64 0, .slice none 0 0, .slice none 0 0, .int .i64 0, .slice none 0 0] 25) = w2' at *
      generalize w1'.heap.size = g6 at *
      refine wpAnyH_ready (rs := [3]) (by kernel_rfl) (by simp) ?_
      refine AllReadyH.cons rfl (fun K hK => ?_) AllReadyH.nil
      go_simp
      go_wp2_with (refine (CC.out _ (bthen BW.out B2.out)).mono ?_; rintro e w3' ⟨pc, qc, kc, npc, nqc, nkc, rfl, hm, hc, hb⟩; have HM := hide hm; have B3 := hide (bthen B2.out hb); have HLO := hide hb.size; have NZ3 := hide ((hb.block g6 (heap_lt NZ.out)).trans NZ.out); have HGL := hide (heap_lt NZ.out); clear hb hm hc)
      refine hK.out _ _ (SH.out _ B3.out) (fun hHeld => ?_)
      clear hK K
      try simp only [Act.put, List.getElem_toArray, List.getElem_cons_zero, List.getElem_cons_succ, List.setIfInBounds_toArray, List.set_cons_zero, List.set_cons_succ]
      clear NZ
      have NZ := NZ3
      clear NZ3
      have LN := hide (mine_keep (w' := put7 w3' g6 (.int .i64 a.pf) (.int .i64 a.md) (.int .i64 a.og) (.slice pc a.path.length npc) (.slice qc a.comms.length nqc) (.int .i64 a.fr) (.slice kc a.cl.length nkc)) HM.out (fun b hb => put7_other _ _ _ _ _ _ _ _ _ b (by have := HGL.out; omega)))
      have HO := hide (At.open_keep (w' := put7 w3' g6 (.int .i64 a.pf) (.int .i64 a.md) (.int .i64 a.og) (.slice pc a.path.length npc) (.slice qc a.comms.length nqc) (.int .i64 a.fr) (.slice kc a.cl.length nkc)) (mine_open HM.out) (fun b hb => put7_other _ _ _ _ _ _ _ _ _ b (by have h1 := mine_blk HM.out hb; have := HGL.out; omega)))
      have HC0 : Hid (∀ b, At.blk a pc qc kc b → w3.heap.size ≤ b ∧ b < w3'.heap.size ∧ b ≠ g6) := fun b hb => by have h1 := mine_blk HM.out hb; have h2 := B2.out.size; have := HGL.out; exact ⟨by omega, by omega, by omega⟩
      obtain ⟨z0, z1, z2, z3, z4, z5, z6⟩ := seven_cells NZ.out
      have f0 := frozen7 NZ.out 0
      have f1 := frozen7 NZ.out 1
      have f2 := frozen7 NZ.out 2
      have f3 := frozen7 NZ.out 3
      have f4 := frozen7 NZ.out 4
      have f5 := frozen7 NZ.out 5
      have f6 := frozen7 NZ.out 6
      have N6 := hide (put7_same NZ.out (.int .i64 a.pf) (.int .i64 a.md) (.int .i64 a.og) (.slice pc a.path.length npc) (.slice qc a.comms.length nqc) (.int .i64 a.fr) (.slice kc a.cl.length nkc))
      have B9 := hide (put7_below B3.out HG.out (.int .i64 a.pf) (.int .i64 a.md) (.int .i64 a.og) (.slice pc a.path.length npc) (.slice qc a.comms.length nqc) (.int .i64 a.fr) (.slice kc a.cl.length nkc))
      refine wpAnyH_take (i := 5) (v := .string ta) rfl (by kernel_rfl) (by kernel_rfl) (by kernel_rfl) (fun _ _ _ h => h) (Or.inl ⟨by rfl, fun w hSw => by dsimp only at hSw; go_simp⟩) hHeld ?_
      simp only [Act.put, List.getElem_toArray, List.getElem_cons_zero, List.getElem_cons_succ, List.setIfInBounds_toArray, List.set_cons_zero, List.set_cons_succ]
      refine wpAnyH_ready (rs := [6]) (by kernel_rfl) (by simp) ?_
      refine AllReadyH.cons rfl (fun K hK => ?_) AllReadyH.nil
      go_simp
      change K _ (put7 w3' g6 (.int .i64 a.pf) (.int .i64 a.md) (.int .i64 a.og) (.slice pc a.path.length npc) (.slice qc a.comms.length nqc) (.int .i64 a.fr) (.slice kc a.cl.length nkc))
      have SZ : Hid ((put7 w3' g6 (.int .i64 a.pf) (.int .i64 a.md) (.int .i64 a.og) (.slice pc a.path.length npc) (.slice qc a.comms.length nqc) (.int .i64 a.fr) (.slice kc a.cl.length nkc)).heap.size = w3'.heap.size) := by show _ = _; unfold put7; simp only [size_setCell]
      have HCB : Hid (∀ b, At.blk a pc qc kc b → w3.heap.size ≤ b ∧ b < (put7 w3' g6 (.int .i64 a.pf) (.int .i64 a.md) (.int .i64 a.og) (.slice pc a.path.length npc) (.slice qc a.comms.length nqc) (.int .i64 a.fr) (.slice kc a.cl.length nkc)).heap.size ∧ b ≠ g6) := fun b hb => by rw [SZ.out]; exact HC0.out b hb
      clear z0 z1 z2 z3 z4 z5 z6 f0 f1 f2 f3 f4 f5 f6 NZ SZ HC0
      generalize put7 w3' g6 (.int .i64 a.pf) (.int .i64 a.md) (.int .i64 a.og) (.slice pc a.path.length npc) (.slice qc a.comms.length nqc) (.int .i64 a.fr) (.slice kc a.cl.length nkc) = w9 at *
      refine hK.out _ _ (SH.out _ B9.out) (fun hHeld => ?_)
      clear hK K
      try simp only [Act.put, List.getElem_toArray, List.getElem_cons_zero, List.getElem_cons_succ, List.setIfInBounds_toArray, List.set_cons_zero, List.set_cons_succ]
      refine wpAnyH_done (by kernel_rfl) ?_ _
      clear hHeld SH CC B0 HM HLO
      have CS := hide (HK.out.same a a pc qc kc npc nqc nkc po co ko cp cc ck true (decide_eq_true ((At.cmp_zero a a).2 rfl)) w9 (HK.out.on HT.out (bthen BW.out B9.out)) LN.out (At.lies_below LA.out (bthen BW.out B9.out)) M1.out M2.out M3.out M1.out M2.out M3.out)
      obtain ⟨d0, d1, d2, d3, d4, d5, d6⟩ := seven_cells ((B9.out.block p (heap_lt NP0.out)).trans NP0.out)
      obtain ⟨e0, e1, e2, e3, e4, e5, e6⟩ := seven_cells N6.out
      go_wp2_with fail
      refine CS.out.mono ?_
      rintro e w10 ⟨rfl, hb10⟩
      have B10 := hide (bthen B9.out hb10)
      have BC := hide hb10
      clear hb10 CS
      clear d0 d1 d2 d3 d4 d5 d6 e0 e1 e2 e3 e4 e5 e6
      obtain ⟨d0, d1, d2, d3, d4, d5, d6⟩ := seven_cells ((B10.out.block q (heap_lt NQ0.out)).trans NQ0.out)
      have SP := hide (Is.slot_below LS.out.2.2 (bthen BW.out B10.out))
      have S3' := S3.out
      go_wp2_with (at_builtin; go_must (refine append_ints (w0 := w10) rfl _ _ rfl _ 0 [] rfl (World.ownsRow_nil _ _ _ _) pr s.pre.length cr s.pre rfl rfl SP.out HCS.out.2.2 (by omega) (brefl w10) ?_))
      intro v' w11 hown hb11
      obtain ⟨hoA, hcA, rfl⟩ := row_slice hown
      have HB11 := hide hb11.size
      have HS := hide (Is.slot_own hown)
      have HBH : Hid (∀ b, Blk hoA s.pre.length b → w10.heap.size ≤ b ∧ b < w11.heap.size) := fun b hb => by obtain ⟨hn, ad, e1, e2⟩ := hb; rcases hown.2 with ⟨_, h0⟩ | ⟨g, cap, cur, hv, hB, hg, _⟩; exact absurd h0 hn; simp only [Value.slice.injEq] at hv; rw [hv.1] at e1; cases e1; subst e2; exact ⟨hB, heap_lt hg⟩
      have B11 := hide (bthen B10.out hb11)
      have BC11 := hide (bthen BC.out hb11)
      clear hown hb11 SP
      clear d0 d1 d2 d3 d4 d5 d6
      obtain ⟨d0, d1, d2, d3, d4, d5, d6⟩ := seven_cells ((B11.out.block p (heap_lt NP0.out)).trans NP0.out)
      obtain ⟨e0, e1, e2, e3, e4, e5, e6⟩ := seven_cells ((B11.out.block q (heap_lt NQ0.out)).trans NQ0.out)
      have CD := hide (HK.out.do_ a po co ko cp cc ck s ao dl pr ca cd cr w11 (HK.out.on HT.out (bthen BW.out B11.out)) (At.lies_below LA.out (bthen BW.out B11.out)) HCA.out M1.out M2.out M3.out (St.lies_below LS.out (bthen BW.out B11.out)) HCS.out S1.out S2.out S3.out)
      go_wp2_with fail
      refine CD.out.mono ?_
      rintro e w12 ⟨r, rq, px, qx, kx, npx, nqx, nkx, rfl, hd, hm, hc, hb12⟩
      obtain ⟨f1, f2, f3⟩ := do_few hd
      have F1 := hide f1
      have F2 := hide f2
      have F3 := hide f3
      have HMX := hide hm
      have B12 := hide (bthen B11.out hb12)
      have BC12 := hide (bthen BC11.out hb12)
      have HS12 := hide (Is.slot_below HS.out hb12)
      have HSZ := hide hb12.size
      clear hd hm hc hb12 CD f1 f2 f3 HS
      clear d0 d1 d2 d3 d4 d5 d6 e0 e1 e2 e3 e4 e5 e6
      have BA := hide (balloc (brefl w12) (.cells #[.int .i64 r.pf, .int .i64 r.md, .int .i64 r.og, .slice px r.path.length npx, .slice qx r.comms.length nqx, .int .i64 r.fr, .slice kx r.cl.length nkx] 25))
      have HXL : Hid (w12.heap.size < (w12.alloc (.cells #[.int .i64 r.pf, .int .i64 r.md, .int .i64 r.og, .slice px r.path.length npx, .slice qx r.comms.length nqx, .int .i64 r.fr, .slice kx r.cl.length nkx] 25)).heap.size) := heap_lt (heap_new w12 #[.int .i64 r.pf, .int .i64 r.md, .int .i64 r.og, .slice px r.path.length npx, .slice qx r.comms.length nqx, .int .i64 r.fr, .slice kx r.cl.length nkx] 25)
      have N8 := hide (heap_new w12 #[.int .i64 r.pf, .int .i64 r.md, .int .i64 r.og, .slice px r.path.length npx, .slice qx r.comms.length nqx, .int .i64 r.fr, .slice kx r.cl.length nkx] 25)
      have B13 := hide (bthen B12.out BA.out)
      have BC13 := hide (bthen BC12.out BA.out)
      have HS13 := hide (Is.slot_below HS12.out BA.out)
      have OX13 := hide (At.open_keep (mine_open HMX.out) (fun b hb => BA.out.block b (mine_blk HMX.out hb).2))
      have HXB : Hid (∀ b, At.blk r px qx kx b → w11.heap.size ≤ b ∧ b < w12.heap.size) := fun b hb => mine_blk HMX.out hb
      have OC13 := hide (At.open_keep HO.out (fun b hb => BC13.out.block b (HCB.out b hb).2.1))
      have NC13 := hide ((BC13.out.block g6 (heap_lt N6.out)).trans N6.out)
      have CP1 := hide (spoil_is a.pf a.md a.og a.fr pc qc kc _ _ _ npc nqc nkc _ OC13.out.1 OC13.out.2.1 OC13.out.2.2 M1.out M2.out M3.out)
      have HG8 : Hid (w9.heap.size ≤ w12.heap.size) := BC12.out.size
      obtain ⟨d0, d1, d2, d3, d4, d5, d6⟩ := seven_cells NC13.out
      clear BA HMX
      go_wp2_with fail
      generalize w12.alloc (.cells #[.int .i64 r.pf, .int .i64 r.md, .int .i64 r.og, .slice px r.path.length npx, .slice qx r.comms.length nqx, .int .i64 r.fr, .slice kx r.cl.length nkx] 25) = w13 at *
      obtain ⟨g8, hg8⟩ : ∃ x, w12.heap.size = x := ⟨_, rfl⟩
      rw [hg8] at N8 HXB HG8 HXL HSZ
      rw [hg8]
      clear hg8
      refine CP1.out.mono ?_
      rintro e w14 ⟨rfl, hk1⟩
      have K14 := hide hk1
      clear hk1 CP1
      clear d0 d1 d2 d3 d4 d5 d6
      have HC9 : Hid (∀ b, At.blk a pc qc kc b → w3.heap.size ≤ b ∧ b < w9.heap.size) := fun b hb => ⟨(HCB.out b hb).1, (HCB.out b hb).2.1⟩
      have SZ := hide (show w3.heap.size ≤ w9.heap.size ∧ w9.heap.size ≤ w10.heap.size ∧ w9.heap.size ≤ w13.heap.size from ⟨B9.out.size, BC.out.size, BC13.out.size⟩)
      have NP13 := hide ((B13.out.block p (heap_lt NP0.out)).trans NP0.out)
      have NQ13 := hide ((B13.out.block q (heap_lt NQ0.out)).trans NQ0.out)
      have NP14 := hide ((K14.out.block p (fun e => by have := HC9.out p e; have := HPL.out; omega) (heap_lt NP13.out)).trans NP13.out)
      have NQ14 := hide ((K14.out.block q (fun e => by have := HC9.out q e; have := HPL.out; omega) (heap_lt NQ13.out)).trans NQ13.out)
      have N814 := hide ((K14.out.block g8 (fun e => by have := HC9.out g8 e; have := HG8.out; omega) (heap_lt N8.out)).trans N8.out)
      have HX13 : Hid (g8 < w13.heap.size) := heap_lt N8.out
      have OX14 := hide (At.open_keep (w' := w14) OX13.out (fun b hb => K14.out.block b (fun e => by have := HC9.out b e; have := HXB.out b hb; have := HB11.out; have := SZ.out; omega) (by have := HXB.out b hb; have := HX13.out; omega)))
      have HW13 : Hid (w11.heap.size ≤ w13.heap.size) := by show _ ≤ _; have := HSZ.out; have := HX13.out; have := HXL.out; omega
      have HS14 := hide (is_kept (w' := w14) HS13.out (fun b hb => K14.out.block b (fun e => by have := HC9.out b e; have := HBH.out b hb; have := SZ.out; omega) (by have := HBH.out b hb; have := HW13.out; omega)))
      have BW13 := hide (bthen BW.out B13.out)
      have HWS : Hid (w.heap.size ≤ w3.heap.size) := BW.out.size
      have BW14 := hide (K14.out.below' BW13.out (fun b e => by have := HC9.out b e; have := HWS.out; omega) BW13.out.size)
      have CP2 := hide (spoil_is r.pf r.md r.og r.fr px qx kx _ _ _ npx nqx nkx _ OX14.out.1 OX14.out.2.1 OX14.out.2.2 F1.out F2.out F3.out)
      obtain ⟨d0, d1, d2, d3, d4, d5, d6⟩ := seven_cells N814.out
      go_wp2_with fail
      refine CP2.out.mono ?_
      rintro e w15 ⟨rfl, hk2⟩
      have K15 := hide hk2
      clear hk2 CP2
      clear d0 d1 d2 d3 d4 d5 d6
      have HX9 : Hid (∀ b, At.blk r px qx kx b → w11.heap.size ≤ b) := fun b hb => (HXB.out b hb).1
      have HQ11 : Hid (p < w11.heap.size ∧ q < w11.heap.size) := by have := HPL.out; have := SZ.out; have := HB11.out; exact ⟨by omega, by omega⟩
      have NP15 := hide ((K15.out.block p (fun e => by have := HX9.out p e; have := HQ11.out; omega) (heap_lt NP14.out)).trans NP14.out)
      have NQ15 := hide ((K15.out.block q (fun e => by have := HX9.out q e; have := HQ11.out; omega) (heap_lt NQ14.out)).trans NQ14.out)
      have HW14 : Hid (w11.heap.size ≤ w14.heap.size) := Nat.le_trans HW13.out K14.out.size
      have HS15 := hide (is_kept (w' := w15) HS14.out (fun b hb => K15.out.block b (fun e => by have := HX9.out b e; have := HBH.out b hb; omega) (by have := HBH.out b hb; have := HW14.out; omega)))
      have HW11 : Hid (w.heap.size ≤ w11.heap.size) := by show _ ≤ _; have := HWS.out; have := SZ.out; have := HB11.out; omega
      have BW15 := hide (K15.out.below' BW14.out (fun b e => by have := HX9.out b e; have := HW11.out; omega) BW14.out.size)
      have PS15 := hide (Is.slot_below LS.out.2.2 BW15.out)
      clear OX14 OX13 OC13 HS14 HS13 HS12 N814 NP14 NQ14 NP13 NQ13 N8 K14 K15 BW14 BW13 HC9 HXB HX9 NC13 BC13 BC12 BC11 BC B13 B12 B11 B10 B9 HCB HBH HO LN N6 HW13 HW14 HWS HX13 SZ HSZ
      go_wp2_with fail
      go_loopw [10] (fun v wr => ∃ k : Nat, v = .int .i64 k ∧ k ≤ s.pre.length ∧ Below w15.heap.size w15 wr) (fun v _ => s.pre.length - (intOf v).toNat)
      case atStart => exact ⟨0, rfl, Nat.zero_le _, brefl _⟩
      case round =>
        obtain ⟨k, rfl, hk, hbr⟩ := hrel
        have BR := hide hbr
        clear hbr
        by_cases hlt : k < s.pre.length
        · have hlt' : (k : Int) < (s.pre.length : Int) := by omega
          obtain ⟨b1, o1, e1, hr1⟩ := Is.slot_at (Is.slot_below PS15.out BR.out) hlt
          obtain ⟨b2, o2, e2, hr2⟩ := Is.slot_at (Is.slot_below HS15.out BR.out) hlt
          have i1 := hr1 k hlt
          have i2 := hr2 k hlt
          clear hr1 hr2
          generalize s.pre[k] = y at i1 i2
          subst e1 e2
          obtain ⟨d0, d1, d2, d3, d4, d5, d6⟩ := seven_cells ((BR.out.block q (heap_lt NQ15.out)).trans NQ15.out)
          have r6 := fun dd os => cell_regrown d6 dd os
          have j1 := fun dd os => cell_regrown i1 dd os
          have j2 := fun dd os => cell_regrown i2 dd os
          have hyy : (y != y) = false := by simp
          clear d0 d1 d2 d3 d4 d5 d6
          clear i1 i2
          go_wp2_with fail
          refine wp_region_quiet_below (by kernel_rfl) (by kernel_rfl) ?_
          repeat (go_big_quiet_step (fail))
          refine wpQuiet_nil ?_
          rintro _ ⟨⟨dd, os⟩, rfl⟩
          have hbq := below_regrown wr dd os
          generalize Sort.grow (redrawn wr dd) os = wq at hbq
          have BQ := hide (bthen BR.out hbq)
          clear hbq r6 j1 j2
          go_wp2_with fail
          exact ⟨⟨k + 1, by go_num, hlt, BQ.out⟩, by simp [intOf]; omega⟩
        · have e : s.pre.length = k := by omega
          have hnl : ¬ (k : Int) < (s.pre.length : Int) := by omega
          clear e
          obtain ⟨d0, d1, d2, d3, d4, d5, d6⟩ := seven_cells ((BR.out.block p (heap_lt NP15.out)).trans NP15.out)
          have CT1 := hide (CT.out wr (bthen BW15.out BR.out))
          have htt : (ta.toList == ta.toList) = true := by simp
          go_wp2_with fail
          refine CT1.out.mono ?_
          rintro e wy ⟨rfl, hby⟩
          have BY := hide (bthen (bthen BW15.out BR.out) hby)
          have CL1 := hide (CL.out wy BY.out)
          clear hby CT1
          go_wp2_with fail
          refine CL1.out.mono ?_
          rintro e wz ⟨rfl, hbz⟩
          have BZ := hide (bthen BY.out hbz)
          clear hbz
          go_wp2_with fail
          go_ret
          exact ⟨rfl, BZ.out⟩
  · refine AllReadyH.cons rfl (fun K hK => ?_) AllReadyH.nil
    have NZ : Hid ((w3.alloc (.cells #[.int .i64 0, .int .i64 0, .int .i64 0, .slice none 0 0, .slice none 0 0, .int .i64 0, .slice none 0 0] 25)).drew.heap[w3.heap.size]? = some (.cells #[.int .i64 0, .int .i64 0, .int .i64 0, .slice none 0 0, .slice none 0 0, .int .i64 0, .slice none 0 0] 25 (0, 0))) := heap_new w3 #[.int .i64 0, .int .i64 0, .int .i64 0, .slice none 0 0, .slice none 0 0, .int .i64 0, .slice none 0 0] 25
    have B1 : Hid (Below w3.heap.size w3 (w3.alloc (.cells #[.int .i64 0, .int .i64 0, .int .i64 0, .slice none 0 0, .slice none 0 0, .int .i64 0, .slice none 0 0] 25)).drew) := (balloc (brefl w3) (.cells #[.int .i64 0, .int .i64 0, .int .i64 0, .slice none 0 0, .slice none 0 0, .int .i64 0, .slice none 0 0] 25)).drew
    obtain ⟨g6, hg6⟩ : ∃ x, w3.heap.size = x := ⟨_, rfl⟩
    have HG : Hid (w3.heap.size ≤ g6) := Nat.le_of_eq hg6
    rw [hg6] at NZ
    go_simp
    try rw [hg6]
    clear hg6
    refine hK.out _ _ (SH.out _ B1.out) (fun hHeld => ?_)
    clear hK K
    try simp only [Act.put, List.getElem_toArray, List.getElem_cons_zero, List.getElem_cons_succ, List.setIfInBounds_toArray, List.set_cons_zero, List.set_cons_succ]
    generalize (w3.alloc (.cells #[.int .i64 0, .int .i64 0, .int .i64 0, .slice none 0 0, .slice none 0 0, .int .i64 0, .slice none 0 0] 25)).drew = w1' at *
    refine wpAnyH_ready (rs := [1]) (by kernel_rfl) (by simp) ?_
    refine AllReadyH.cons rfl (fun K hK => ?_) AllReadyH.nil
    go_simp
    go_wp2_with (refine (CT.out _ (bthen BW.out B1.out)).mono ?_; rintro e w2' ⟨rfl, hb⟩; have B2 := hide (bthen B1.out hb); have NZ2 := hide ((hb.block g6 (heap_lt NZ.out)).trans NZ.out); clear hb)
    refine hK.out _ _ (SH.out _ B2.out) (fun hHeld => ?_)
    clear hK K
    try simp only [Act.put, List.getElem_toArray, List.getElem_cons_zero, List.getElem_cons_succ, List.setIfInBounds_toArray, List.set_cons_zero, List.set_cons_succ]
    refine wpAnyH_ready (rs := [3]) (by kernel_rfl) (by simp) ?_
    refine AllReadyH.cons rfl (fun K hK => ?_) AllReadyH.nil
    go_simp
    go_wp2_with (refine (CC.out _ (bthen BW.out B2.out)).mono ?_; rintro e w3' ⟨pc, qc, kc, npc, nqc, nkc, rfl, hm, hc, hb⟩; have HM := hide hm; have B3 := hide (bthen B2.out hb); have HLO := hide hb.size; have NZ3 := hide ((hb.block g6 (heap_lt NZ2.out)).trans NZ2.out); have HGL := hide (heap_lt NZ2.out); clear hb hm hc)
    refine hK.out _ _ (SH.out _ B3.out) (fun hHeld => ?_)
    clear hK K
    try simp only [Act.put, List.getElem_toArray, List.getElem_cons_zero, List.getElem_cons_succ, List.setIfInBounds_toArray, List.set_cons_zero, List.set_cons_succ]
    clear NZ2
    clear NZ
    have NZ := NZ3
    clear NZ3
    have LN := hide (mine_keep (w' := put7 w3' g6 (.int .i64 a.pf) (.int .i64 a.md) (.int .i64 a.og) (.slice pc a.path.length npc) (.slice qc a.comms.length nqc) (.int .i64 a.fr) (.slice kc a.cl.length nkc)) HM.out (fun b hb => put7_other _ _ _ _ _ _ _ _ _ b (by have := HGL.out; omega)))
    have HO := hide (At.open_keep (w' := put7 w3' g6 (.int .i64 a.pf) (.int .i64 a.md) (.int .i64 a.og) (.slice pc a.path.length npc) (.slice qc a.comms.length nqc) (.int .i64 a.fr) (.slice kc a.cl.length nkc)) (mine_open HM.out) (fun b hb => put7_other _ _ _ _ _ _ _ _ _ b (by have h1 := mine_blk HM.out hb; have := HGL.out; omega)))
    have HC0 : Hid (∀ b, At.blk a pc qc kc b → w3.heap.size ≤ b ∧ b < w3'.heap.size ∧ b ≠ g6) := fun b hb => by have h1 := mine_blk HM.out hb; have h2 := B2.out.size; have := HGL.out; exact ⟨by omega, by omega, by omega⟩
    obtain ⟨z0, z1, z2, z3, z4, z5, z6⟩ := seven_cells NZ.out
    have f0 := frozen7 NZ.out 0
    have f1 := frozen7 NZ.out 1
    have f2 := frozen7 NZ.out 2
    have f3 := frozen7 NZ.out 3
    have f4 := frozen7 NZ.out 4
    have f5 := frozen7 NZ.out 5
    have f6 := frozen7 NZ.out 6
    have N6 := hide (put7_same NZ.out (.int .i64 a.pf) (.int .i64 a.md) (.int .i64 a.og) (.slice pc a.path.length npc) (.slice qc a.comms.length nqc) (.int .i64 a.fr) (.slice kc a.cl.length nkc))
    have B9 := hide (put7_below B3.out HG.out (.int .i64 a.pf) (.int .i64 a.md) (.int .i64 a.og) (.slice pc a.path.length npc) (.slice qc a.comms.length nqc) (.int .i64 a.fr) (.slice kc a.cl.length nkc))
    refine wpAnyH_take (i := 5) (v := .string ta) rfl (by kernel_rfl) (by kernel_rfl) (by kernel_rfl) (fun _ _ _ h => h) (Or.inl ⟨by rfl, fun w hSw => by dsimp only at hSw; go_simp⟩) hHeld ?_
    simp only [Act.put, List.getElem_toArray, List.getElem_cons_zero, List.getElem_cons_succ, List.setIfInBounds_toArray, List.set_cons_zero, List.set_cons_succ]
    refine wpAnyH_ready (rs := [6]) (by kernel_rfl) (by simp) ?_
    refine AllReadyH.cons rfl (fun K hK => ?_) AllReadyH.nil
    go_simp
    change K _ (put7 w3' g6 (.int .i64 a.pf) (.int .i64 a.md) (.int .i64 a.og) (.slice pc a.path.length npc) (.slice qc a.comms.length nqc) (.int .i64 a.fr) (.slice kc a.cl.length nkc))
    have SZ : Hid ((put7 w3' g6 (.int .i64 a.pf) (.int .i64 a.md) (.int .i64 a.og) (.slice pc a.path.length npc) (.slice qc a.comms.length nqc) (.int .i64 a.fr) (.slice kc a.cl.length nkc)).heap.size = w3'.heap.size) := by show _ = _; unfold put7; simp only [size_setCell]
    have HCB : Hid (∀ b, At.blk a pc qc kc b → w3.heap.size ≤ b ∧ b < (put7 w3' g6 (.int .i64 a.pf) (.int .i64 a.md) (.int .i64 a.og) (.slice pc a.path.length npc) (.slice qc a.comms.length nqc) (.int .i64 a.fr) (.slice kc a.cl.length nkc)).heap.size ∧ b ≠ g6) := fun b hb => by rw [SZ.out]; exact HC0.out b hb
    clear z0 z1 z2 z3 z4 z5 z6 f0 f1 f2 f3 f4 f5 f6 NZ SZ HC0
    generalize put7 w3' g6 (.int .i64 a.pf) (.int .i64 a.md) (.int .i64 a.og) (.slice pc a.path.length npc) (.slice qc a.comms.length nqc) (.int .i64 a.fr) (.slice kc a.cl.length nkc) = w9 at *
    refine hK.out _ _ (SH.out _ B9.out) (fun hHeld => ?_)
    clear hK K
    try simp only [Act.put, List.getElem_toArray, List.getElem_cons_zero, List.getElem_cons_succ, List.setIfInBounds_toArray, List.set_cons_zero, List.set_cons_succ]
    refine wpAnyH_done (by kernel_rfl) ?_ _
    clear hHeld SH CC B0 HM HLO
    have CS := hide (HK.out.same a a pc qc kc npc nqc nkc po co ko cp cc ck true (decide_eq_true ((At.cmp_zero a a).2 rfl)) w9 (HK.out.on HT.out (bthen BW.out B9.out)) LN.out (At.lies_below LA.out (bthen BW.out B9.out)) M1.out M2.out M3.out M1.out M2.out M3.out)
    obtain ⟨d0, d1, d2, d3, d4, d5, d6⟩ := seven_cells ((B9.out.block p (heap_lt NP0.out)).trans NP0.out)
    obtain ⟨e0, e1, e2, e3, e4, e5, e6⟩ := seven_cells N6.out
    go_wp2_with fail
    refine CS.out.mono ?_
    rintro e w10 ⟨rfl, hb10⟩
    have B10 := hide (bthen B9.out hb10)
    have BC := hide hb10
    clear hb10 CS
    clear d0 d1 d2 d3 d4 d5 d6 e0 e1 e2 e3 e4 e5 e6
    obtain ⟨d0, d1, d2, d3, d4, d5, d6⟩ := seven_cells ((B10.out.block q (heap_lt NQ0.out)).trans NQ0.out)
    have SP := hide (Is.slot_below LS.out.2.2 (bthen BW.out B10.out))
    have S3' := S3.out
    go_wp2_with (at_builtin; go_must (refine append_ints (w0 := w10) rfl _ _ rfl _ 0 [] rfl (World.ownsRow_nil _ _ _ _) pr s.pre.length cr s.pre rfl rfl SP.out HCS.out.2.2 (by omega) (brefl w10) ?_))
    intro v' w11 hown hb11
    obtain ⟨hoA, hcA, rfl⟩ := row_slice hown
    have HB11 := hide hb11.size
    have HS := hide (Is.slot_own hown)
    have HBH : Hid (∀ b, Blk hoA s.pre.length b → w10.heap.size ≤ b ∧ b < w11.heap.size) := fun b hb => by obtain ⟨hn, ad, e1, e2⟩ := hb; rcases hown.2 with ⟨_, h0⟩ | ⟨g, cap, cur, hv, hB, hg, _⟩; exact absurd h0 hn; simp only [Value.slice.injEq] at hv; rw [hv.1] at e1; cases e1; subst e2; exact ⟨hB, heap_lt hg⟩
    have B11 := hide (bthen B10.out hb11)
    have BC11 := hide (bthen BC.out hb11)
    clear hown hb11 SP
    clear d0 d1 d2 d3 d4 d5 d6
    obtain ⟨d0, d1, d2, d3, d4, d5, d6⟩ := seven_cells ((B11.out.block p (heap_lt NP0.out)).trans NP0.out)
    obtain ⟨e0, e1, e2, e3, e4, e5, e6⟩ := seven_cells ((B11.out.block q (heap_lt NQ0.out)).trans NQ0.out)
    have CD := hide (HK.out.do_ a po co ko cp cc ck s ao dl pr ca cd cr w11 (HK.out.on HT.out (bthen BW.out B11.out)) (At.lies_below LA.out (bthen BW.out B11.out)) HCA.out M1.out M2.out M3.out (St.lies_below LS.out (bthen BW.out B11.out)) HCS.out S1.out S2.out S3.out)
    go_wp2_with fail
    refine CD.out.mono ?_
    rintro e w12 ⟨r, rq, px, qx, kx, npx, nqx, nkx, rfl, hd, hm, hc, hb12⟩
    obtain ⟨f1, f2, f3⟩ := do_few hd
    have F1 := hide f1
    have F2 := hide f2
    have F3 := hide f3
    have HMX := hide hm
    have B12 := hide (bthen B11.out hb12)
    have BC12 := hide (bthen BC11.out hb12)
    have HS12 := hide (Is.slot_below HS.out hb12)
    have HSZ := hide hb12.size
    clear hd hm hc hb12 CD f1 f2 f3 HS
    clear d0 d1 d2 d3 d4 d5 d6 e0 e1 e2 e3 e4 e5 e6
    have BA := hide (balloc (brefl w12) (.cells #[.int .i64 r.pf, .int .i64 r.md, .int .i64 r.og, .slice px r.path.length npx, .slice qx r.comms.length nqx, .int .i64 r.fr, .slice kx r.cl.length nkx] 25))
    have HXL : Hid (w12.heap.size < (w12.alloc (.cells #[.int .i64 r.pf, .int .i64 r.md, .int .i64 r.og, .slice px r.path.length npx, .slice qx r.comms.length nqx, .int .i64 r.fr, .slice kx r.cl.length nkx] 25)).heap.size) := heap_lt (heap_new w12 #[.int .i64 r.pf, .int .i64 r.md, .int .i64 r.og, .slice px r.path.length npx, .slice qx r.comms.length nqx, .int .i64 r.fr, .slice kx r.cl.length nkx] 25)
    have N8 := hide (heap_new w12 #[.int .i64 r.pf, .int .i64 r.md, .int .i64 r.og, .slice px r.path.length npx, .slice qx r.comms.length nqx, .int .i64 r.fr, .slice kx r.cl.length nkx] 25)
    have B13 := hide (bthen B12.out BA.out)
    have BC13 := hide (bthen BC12.out BA.out)
    have HS13 := hide (Is.slot_below HS12.out BA.out)
    have OX13 := hide (At.open_keep (mine_open HMX.out) (fun b hb => BA.out.block b (mine_blk HMX.out hb).2))
    have HXB : Hid (∀ b, At.blk r px qx kx b → w11.heap.size ≤ b ∧ b < w12.heap.size) := fun b hb => mine_blk HMX.out hb
    have OC13 := hide (At.open_keep HO.out (fun b hb => BC13.out.block b (HCB.out b hb).2.1))
    have NC13 := hide ((BC13.out.block g6 (heap_lt N6.out)).trans N6.out)
    have CP1 := hide (spoil_is a.pf a.md a.og a.fr pc qc kc _ _ _ npc nqc nkc _ OC13.out.1 OC13.out.2.1 OC13.out.2.2 M1.out M2.out M3.out)
    have HG8 : Hid (w9.heap.size ≤ w12.heap.size) := BC12.out.size
    obtain ⟨d0, d1, d2, d3, d4, d5, d6⟩ := seven_cells NC13.out
    clear BA HMX
    go_wp2_with fail
    generalize w12.alloc (.cells #[.int .i64 r.pf, .int .i64 r.md, .int .i64 r.og, .slice px r.path.length npx, .slice qx r.comms.length nqx, .int .i64 r.fr, .slice kx r.cl.length nkx] 25) = w13 at *
    obtain ⟨g8, hg8⟩ : ∃ x, w12.heap.size = x := ⟨_, rfl⟩
    rw [hg8] at N8 HXB HG8 HXL HSZ
    rw [hg8]
    clear hg8
    refine CP1.out.mono ?_
    rintro e w14 ⟨rfl, hk1⟩
    have K14 := hide hk1
    clear hk1 CP1
    clear d0 d1 d2 d3 d4 d5 d6
    have HC9 : Hid (∀ b, At.blk a pc qc kc b → w3.heap.size ≤ b ∧ b < w9.heap.size) := fun b hb => ⟨(HCB.out b hb).1, (HCB.out b hb).2.1⟩
    have SZ := hide (show w3.heap.size ≤ w9.heap.size ∧ w9.heap.size ≤ w10.heap.size ∧ w9.heap.size ≤ w13.heap.size from ⟨B9.out.size, BC.out.size, BC13.out.size⟩)
    have NP13 := hide ((B13.out.block p (heap_lt NP0.out)).trans NP0.out)
    have NQ13 := hide ((B13.out.block q (heap_lt NQ0.out)).trans NQ0.out)
    have NP14 := hide ((K14.out.block p (fun e => by have := HC9.out p e; have := HPL.out; omega) (heap_lt NP13.out)).trans NP13.out)
    have NQ14 := hide ((K14.out.block q (fun e => by have := HC9.out q e; have := HPL.out; omega) (heap_lt NQ13.out)).trans NQ13.out)
    have N814 := hide ((K14.out.block g8 (fun e => by have := HC9.out g8 e; have := HG8.out; omega) (heap_lt N8.out)).trans N8.out)
    have HX13 : Hid (g8 < w13.heap.size) := heap_lt N8.out
    have OX14 := hide (At.open_keep (w' := w14) OX13.out (fun b hb => K14.out.block b (fun e => by have := HC9.out b e; have := HXB.out b hb; have := HB11.out; have := SZ.out; omega) (by have := HXB.out b hb; have := HX13.out; omega)))
    have HW13 : Hid (w11.heap.size ≤ w13.heap.size) := by show _ ≤ _; have := HSZ.out; have := HX13.out; have := HXL.out; omega
    have HS14 := hide (is_kept (w' := w14) HS13.out (fun b hb => K14.out.block b (fun e => by have := HC9.out b e; have := HBH.out b hb; have := SZ.out; omega) (by have := HBH.out b hb; have := HW13.out; omega)))
    have BW13 := hide (bthen BW.out B13.out)
    have HWS : Hid (w.heap.size ≤ w3.heap.size) := BW.out.size
    have BW14 := hide (K14.out.below' BW13.out (fun b e => by have := HC9.out b e; have := HWS.out; omega) BW13.out.size)
    have CP2 := hide (spoil_is r.pf r.md r.og r.fr px qx kx _ _ _ npx nqx nkx _ OX14.out.1 OX14.out.2.1 OX14.out.2.2 F1.out F2.out F3.out)
    obtain ⟨d0, d1, d2, d3, d4, d5, d6⟩ := seven_cells N814.out
    go_wp2_with fail
    refine CP2.out.mono ?_
    rintro e w15 ⟨rfl, hk2⟩
    have K15 := hide hk2
    clear hk2 CP2
    clear d0 d1 d2 d3 d4 d5 d6
    have HX9 : Hid (∀ b, At.blk r px qx kx b → w11.heap.size ≤ b) := fun b hb => (HXB.out b hb).1
    have HQ11 : Hid (p < w11.heap.size ∧ q < w11.heap.size) := by have := HPL.out; have := SZ.out; have := HB11.out; exact ⟨by omega, by omega⟩
    have NP15 := hide ((K15.out.block p (fun e => by have := HX9.out p e; have := HQ11.out; omega) (heap_lt NP14.out)).trans NP14.out)
    have NQ15 := hide ((K15.out.block q (fun e => by have := HX9.out q e; have := HQ11.out; omega) (heap_lt NQ14.out)).trans NQ14.out)
    have HW14 : Hid (w11.heap.size ≤ w14.heap.size) := Nat.le_trans HW13.out K14.out.size
    have HS15 := hide (is_kept (w' := w15) HS14.out (fun b hb => K15.out.block b (fun e => by have := HX9.out b e; have := HBH.out b hb; omega) (by have := HBH.out b hb; have := HW14.out; omega)))
    have HW11 : Hid (w.heap.size ≤ w11.heap.size) := by show _ ≤ _; have := HWS.out; have := SZ.out; have := HB11.out; omega
    have BW15 := hide (K15.out.below' BW14.out (fun b e => by have := HX9.out b e; have := HW11.out; omega) BW14.out.size)
    have PS15 := hide (Is.slot_below LS.out.2.2 BW15.out)
    clear OX14 OX13 OC13 HS14 HS13 HS12 N814 NP14 NQ14 NP13 NQ13 N8 K14 K15 BW14 BW13 HC9 HXB HX9 NC13 BC13 BC12 BC11 BC B13 B12 B11 B10 B9 HCB HBH HO LN N6 HW13 HW14 HWS HX13 SZ HSZ
    go_wp2_with fail
    go_loopw [10] (fun v wr => ∃ k : Nat, v = .int .i64 k ∧ k ≤ s.pre.length ∧ Below w15.heap.size w15 wr) (fun v _ => s.pre.length - (intOf v).toNat)
    case atStart => exact ⟨0, rfl, Nat.zero_le _, brefl _⟩
    case round =>
      obtain ⟨k, rfl, hk, hbr⟩ := hrel
      have BR := hide hbr
      clear hbr
      by_cases hlt : k < s.pre.length
      · have hlt' : (k : Int) < (s.pre.length : Int) := by omega
        obtain ⟨b1, o1, e1, hr1⟩ := Is.slot_at (Is.slot_below PS15.out BR.out) hlt
        obtain ⟨b2, o2, e2, hr2⟩ := Is.slot_at (Is.slot_below HS15.out BR.out) hlt
        have i1 := hr1 k hlt
        have i2 := hr2 k hlt
        clear hr1 hr2
        generalize s.pre[k] = y at i1 i2
        subst e1 e2
        obtain ⟨d0, d1, d2, d3, d4, d5, d6⟩ := seven_cells ((BR.out.block q (heap_lt NQ15.out)).trans NQ15.out)
        have r6 := fun dd os => cell_regrown d6 dd os
        have j1 := fun dd os => cell_regrown i1 dd os
        have j2 := fun dd os => cell_regrown i2 dd os
        have hyy : (y != y) = false := by simp
        clear d0 d1 d2 d3 d4 d5 d6
        clear i1 i2
        go_wp2_with fail
        refine wp_region_quiet_below (by kernel_rfl) (by kernel_rfl) ?_
        repeat (go_big_quiet_step (fail))
        refine wpQuiet_nil ?_
        rintro _ ⟨⟨dd, os⟩, rfl⟩
        have hbq := below_regrown wr dd os
        generalize Sort.grow (redrawn wr dd) os = wq at hbq
        have BQ := hide (bthen BR.out hbq)
        clear hbq r6 j1 j2
        go_wp2_with fail
        exact ⟨⟨k + 1, by go_num, hlt, BQ.out⟩, by simp [intOf]; omega⟩
      · have e : s.pre.length = k := by omega
        have hnl : ¬ (k : Int) < (s.pre.length : Int) := by omega
        clear e
        obtain ⟨d0, d1, d2, d3, d4, d5, d6⟩ := seven_cells ((BR.out.block p (heap_lt NP15.out)).trans NP15.out)
        have CT1 := hide (CT.out wr (bthen BW15.out BR.out))
        have htt : (ta.toList == ta.toList) = true := by simp
        go_wp2_with fail
        refine CT1.out.mono ?_
        rintro e wy ⟨rfl, hby⟩
        have BY := hide (bthen (bthen BW15.out BR.out) hby)
        have CL1 := hide (CL.out wy BY.out)
        clear hby CT1
        go_wp2_with fail
        refine CL1.out.mono ?_
        rintro e wz ⟨rfl, hbz⟩
        have BZ := hide (bthen BY.out hbz)
        clear hbz
        go_wp2_with fail
        go_ret
        exact ⟨rfl, BZ.out⟩
end Go.Proofs.YtpkikfojiibdaaaGreatDoor
