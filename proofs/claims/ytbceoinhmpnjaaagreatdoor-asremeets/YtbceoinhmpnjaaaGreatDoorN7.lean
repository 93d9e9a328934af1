import Derived.Test.YtbceoinhmpnjaaaGreatDoorN5
import Derived.BigRegion
import Derived.Test.YtbceoinhmpnjaaaGreatDoorM4
/- The document's Met: numbers. -/
namespace Go.Proofs.YtbceoinhmpnjaaaGreatDoor
open Go.RowKit Go.Sort

theorem MS.cell {W wr : World} {x0 x1 x2 x3 x4 x5 : Value} {T : Nat → Nat → Bool} (h : MS W x0 x1 x2 x3 x4 x5 T wr) {i k : Nat} (hi : i < 17) (hk : k < 17) (v : Bool) : MS W x0 x1 x2 x3 x4 x5 (upd T i k v) (wr.setCell ⟨W.heap.size + 1 + 1, i * 17 + k, none⟩ (.bool v)) := by
  refine ⟨?_, tab_other h.res (by omega), tab_set h.tab hi hk v, Below.setCell h.bel (by show W.heap.size ≤ W.heap.size + 1 + 1; omega) _⟩
  have hh : (wr.setCell ⟨W.heap.size + 1 + 1, i * 17 + k, none⟩ (.bool v)).heap[W.heap.size]? = wr.heap[W.heap.size]? := heap_setCell_ne _ _ _ _ _ (by omega)
  obtain ⟨h0, h1, h2, h3, h4, h5⟩ := h.box
  exact ⟨(World.cell?_of_block (a := ⟨W.heap.size, 0, none⟩) hh).trans h0, (World.cell?_of_block (a := ⟨W.heap.size, 1, none⟩) hh).trans h1, (World.cell?_of_block (a := ⟨W.heap.size, 2, none⟩) hh).trans h2, (World.cell?_of_block (a := ⟨W.heap.size, 3, none⟩) hh).trans h3, (World.cell?_of_block (a := ⟨W.heap.size, 4, none⟩) hh).trans h4, (World.cell?_of_block (a := ⟨W.heap.size, 5, none⟩) hh).trans h5⟩

set_option maxHeartbeats 8000000 in
set_option maxRecDepth 100000 in
theorem refMet_num {w : World} {p f t : List Int} {ao fo tp : Option Addr} {ca fc tc : Nat} (hp : p.length ≤ 16) (hP : Is.slot w ao p) (hF : Is.slot w fo f) (hT : Is.slot w tp t) (hft : f.length = t.length) (hfl : f.length ≤ 100000) (d s : Bool) (x5 : Value) (_h5 : x5.oneCell' = true) (W : World) (hW : Below w.heap.size w W) :
    Calls Tryz.prog 20 #[.agg #[.int .i64 0, .bool d, .bool s, .slice fo f.length fc, .slice tp t.length tc, x5], .slice ao p.length ca] W (TbPost W (numT p f t)) := by
  have Z := zero44
  have HZ := hide tab_zs
  generalize zs = z at Z HZ
  have M0 := hide (MS.start W (.int .i64 0) (.bool d) (.bool s) (.slice fo f.length fc) (.slice tp t.length tc) x5 HZ.out)
  have HW := hide hW
  have HP := hide hP
  have HF := hide hF
  have HT := hide hT
  have HFT := hide hft
  clear hW hP hF hT hft
  go_enter Tryz.func20, Tryz.ntmps20
  go_wp2_with fail
  generalize ((W.alloc (.cells #[.int .i64 0, .bool d, .bool s, .slice fo f.length fc, .slice tp t.length tc, x5] 30)).alloc (.cells z 44)).alloc (.cells z 44) = W3 at *
  go_loopw [7, 8] (fun v7 _ wr => ∃ i : Nat, v7 = .int .i64 i ∧ i ≤ p.length ∧ Hid (MS W (.int .i64 0) (.bool d) (.bool s) (.slice fo f.length fc) (.slice tp t.length tc) x5 (numK p f t i 0) wr)) (fun v7 _ _ => p.length - (intOf v7).toNat)
  case atStart => exact ⟨0, rfl, Nat.zero_le _, hide (M0.out.ext fun a b _ _ => numK_zero p f t a b)⟩
  case round =>
    obtain ⟨i, rfl, hi, MR⟩ := hrel
    by_cases hil : i < p.length
    · have hil' : (i : Int) < (p.length : Int) := by omega
      go_wp2_with fail
      go_loopw [8] (fun v8 wq => ∃ k : Nat, v8 = .int .i64 k ∧ k ≤ f.length ∧ Hid (MS W (.int .i64 0) (.bool d) (.bool s) (.slice fo f.length fc) (.slice tp t.length tc) x5 (numK p f t i k) wq)) (fun v8 _ => f.length - (intOf v8).toNat)
      case atStart => exact ⟨0, rfl, Nat.zero_le _, MR⟩
      case round =>
        obtain ⟨k, rfl, hk, MQ⟩ := hrel
        have c3 := MQ.out.box.2.2.2.1
        have c4 := MQ.out.box.2.2.2.2.1
        by_cases hkl : k < f.length
        · have hkl' : (k : Int) < (f.length : Int) := by omega
          have hkt : (k : Int) < (t.length : Int) := by have := HFT.out; omega
          have hktn : k < t.length := by have := HFT.out; omega
          have i17 : i < 17 := by omega
          have j17 : i + 1 < 17 := by omega
          have i17' : (i : Int) < 17 := by omega
          have j17' : (i : Int) + 1 < 17 := by omega
          have bq := bthen HW.out MQ.out.bel
          obtain ⟨pb, po, hao, rp⟩ := Is.slot_at (Is.slot_below HP.out bq) hil
          obtain ⟨fb, fo', hfo, rf⟩ := Is.slot_at (Is.slot_below HF.out bq) hkl
          obtain ⟨tb, tp', hto, rt⟩ := Is.slot_at (Is.slot_below HT.out bq) hktn
          have cp := rp i hil
          have cf := rf k hkl
          have ct := rt k hktn
          have ep : p.getD i 0 = p[i] := by simp [hil]
          have ef : f.getD k 0 = f[k] := by simp [hkl]
          have et : t.getD k 0 = t[k] := by simp [hktn]
          have cc := tab_cell MQ.out.tab i17 j17
          rw [numK_here] at cc
          have ff := tab_frozen MQ.out.tab (i * 17 + (i + 1))
          have NM := hide (fun v hv => hide ((MQ.out.cell i17 j17 v).ext fun a b _ _ => numK_step p f t i k v hv a b).drew)
          rw [ep, ef, et] at NM
          generalize numAny p f t i k = q at cc NM
          generalize p[i] = x at cp NM
          generalize f[k] = y at cf NM
          generalize t[k] = u at ct NM
          subst hao hfo hto
          clear rp rf rt bq ep ef et
          cases q
          · by_cases h1 : y ≤ x
            · have g1 : decide (y ≤ x) = true := by simpa using h1
              by_cases h2 : x ≤ u
              · have g2 : decide (x ≤ u) = true := by simpa using h2
                have NM := hide (NM.out true (by rw [g1, g2]; rfl))
                go_wp2_with fail
                go_region
                go_wp2_with fail
                exact ⟨⟨k + 1, by go_num, by omega, NM.out⟩, by simp [intOf] <;> omega⟩
              · have g2 : decide (x ≤ u) = false := by simpa using h2
                have NM := hide (NM.out false (by rw [g1, g2]; rfl))
                go_wp2_with fail
                go_region
                go_wp2_with fail
                exact ⟨⟨k + 1, by go_num, by omega, NM.out⟩, by simp [intOf] <;> omega⟩
            · have g1 : decide (y ≤ x) = false := by simpa using h1
              have NM := hide (NM.out false (by rw [g1]; rfl))
              go_wp2_with fail
              go_region
              go_wp2_with fail
              exact ⟨⟨k + 1, by go_num, by omega, NM.out⟩, by simp [intOf] <;> omega⟩
          · have NM := hide (NM.out true (by simp))
            go_wp2_with fail
            go_region
            go_wp2_with fail
            exact ⟨⟨k + 1, by go_num, by omega, NM.out⟩, by simp [intOf] <;> omega⟩
        · have hkl' : ¬ (k : Int) < (f.length : Int) := by omega
          go_wp2_with fail
          exact ⟨⟨i + 1, by go_num, by omega, hide (MQ.out.ext fun a b _ _ => numK_next p f t i k (by omega) a b)⟩, by simp [intOf] <;> omega⟩
    · have hil' : ¬ (i : Int) < (p.length : Int) := by omega
      have MR := hide (MR.out.ext fun a b _ _ => numK_done p f t i (by omega) a b)
      obtain ⟨lr, hlr, hrr, htr⟩ := tabAt_list MR.out.tab
      obtain ⟨_, _, _, hts⟩ := tabAt_list MR.out.res
      have RR := hide hrr
      have HLR := hide hlr
      have TS : Hid (wr.there (W.heap.size + 1) 0 lr.toArray.size) := by
        have := hlr.len
        show World.there _ _ _ _
        simpa [this] using hts
      have HG := hide (MR.out.done hlr)
      clear hlr hrr htr hts
      go_wp2_with (first | (refine wpList_load_mid rfl 44 (.tmp 5) rfl _ _ rfl lr _ RR.out Tryz.underlying44 rfl HLR.out.info ?_) | (refine wpList_store_mid rfl 44 (.tmp 4) (.tmp 138) rfl _ _ lr.toArray rfl rfl TS.out HLR.out.infoA (tab_one HLR.out) ?_))
      exact bodyPost_ret (v := .agg lr.toArray) (results_cell_row Tryz.results20 _ _ _ 44 lr.toArray _ _ rfl HG.out.1 Tryz.underlying44 rfl HLR.out.infoA) rfl ⟨⟨lr, rfl, HLR.out⟩, HG.out.2⟩
end Go.Proofs.YtbceoinhmpnjaaaGreatDoor

/- The document's Met, of any tree; the document's side of AsreMeets. -/
namespace Go.Proofs.YtbceoinhmpnjaaaGreatDoor
open Go.RowKit Go.Sort

theorem refMet_is {w : World} {p : List Int} {ao : Option Addr} {ca : Nat} (hp : p.length ≤ 16) (hP : Is.slot w ao p) {t : Tr} {cs : List Value} (h : Tr.At w t cs) : Tr.Ok t → ∀ W, Below w.heap.size w W →
    Calls Tryz.prog 20 #[.agg cs.toArray, .slice ao p.length ca] W (TbPost W (Tr.tb p t)) := by
  induction h with
  | mk b off css hn hf ht hk hr ha ih =>
    rename_i k d s f t ks fo fc tp tc ko kc
    intro hok W hW
    rw [Tr.Ok] at hok
    have H : KidsOk w p ao ca ko b off css ks := ⟨hn.2.2, hk, hr, fun i hi => Tr.len (ha i hi), fun i hi W hW => ih i hi (Tr.oks_at ks hok.2 i hi) W hW⟩
    rcases hok.1 with ⟨rfl, hft⟩ | rfl | rfl | ⟨hk3, hne⟩
    · have e : Tr.tb p (.mk 0 d s f t ks) = numT p f t := by rw [Tr.tb, if_pos rfl]
      rw [e]
      exact refMet_num hp hP hf ht hft hn.1 d s _ rfl W hW
    · have e : Tr.tb p (.mk 1 d s f t ks) = Tr.tbRow p (fun i j => i == j) ks := by rw [Tr.tb, if_neg (by decide), if_pos rfl]
      rw [e]
      exact refMet_row hp H d s _ _ rfl rfl kc W hW
    · have e : Tr.tb p (.mk 2 d s f t ks) = Tr.tbOr p (fun _ _ => false) ks := by rw [Tr.tb, if_neg (by decide), if_neg (by decide), if_pos rfl]
      rw [e]
      exact refMet_ch H d s _ _ rfl rfl kc W hW
    · have h0 : 0 < ks.length := List.length_pos_iff.2 hne
      rcases hk3 with rfl | rfl | rfl
      · exact refMet_plus hp H h0 3 (.inl rfl) d s _ _ rfl rfl kc W hW _ (by rw [Tr.tb, if_neg (by decide), if_neg (by decide), if_neg (by decide), if_neg (by decide), if_pos rfl])
      · exact refMet_plus hp H h0 4 (.inr rfl) d s _ _ rfl rfl kc W hW _ (by rw [Tr.tb, if_neg (by decide), if_neg (by decide), if_neg (by decide), if_neg (by decide), if_neg (by decide)])
      · have e : Tr.tb p (.mk 5 d s f t ks) = fun i j => (i == j) || Tr.tb1 p ks i j := by rw [Tr.tb, if_neg (by decide), if_neg (by decide), if_neg (by decide), if_pos rfl]
        rw [e]
        exact refMet_opt H h0 d s _ _ rfl rfl kc W hW
/-- A table's cells. -/
def tabOf (T : Nat → Nat → Bool) : List Value := (List.range 289).map fun j => .bool (T (j / 17) (j % 17))
theorem tabOf_eq {T : Nat → Nat → Bool} {l : List Value} (h : TabL T l) : l = tabOf T := by
  refine List.ext_getElem? fun j => ?_
  unfold tabOf
  rcases Nat.lt_or_ge j 289 with hj | hj
  · have h1 := h.2 (j / 17) (j % 17) (by omega) (Nat.mod_lt _ (by decide))
    have e : j / 17 * 17 + j % 17 = j := by omega
    rw [e] at h1
    rw [List.getElem?_map, List.getElem?_range hj]
    simpa using h1
  · rw [List.getElem?_eq_none (by have := h.len; omega), List.getElem?_eq_none (by simp; omega)]
theorem tabOf_tab (T : Nat → Nat → Bool) : TabL T (tabOf T) := by
  refine ⟨by simp [tabOf], fun i k hi hk => ?_⟩
  have hj : i * 17 + k < 289 := by omega
  have h1 : (i * 17 + k) / 17 = i := by omega
  have h2 : (i * 17 + k) % 17 = k := by omega
  simp [tabOf, hj, h1, h2]
theorem refMet_of {s : ByteArray} {f l : Bool} {rows : List (List Nd)} (hx : Px.parse s.data.toList = .ok (f, l, rows)) {p : List Int} (hp : p.length ≤ 16) (ao : Option Addr) (ca : Nat) (w : World) (x0 x1 x2 x3 x4 x5 : Value) (ht : Tr.At w (.mk 2 false false [] [] (Nd.trRows rows)) [x0, x1, x2, x3, x4, x5]) (hP : Is.slot w ao p) (W : World) (hW : Below w.heap.size w W) :
    Calls Tryz.prog 20 #[.agg #[x0, x1, x2, x3, x4, x5], .slice ao p.length ca] W fun e w' => e = .returned (.agg (tabOf (Tr.tb p (.mk 2 false false [] [] (Nd.trRows rows)))).toArray) ∧ Below W.heap.size W w' := by
  have hg := parse_good hx
  have hok := ok_tr 8 _ hg
  rw [Nd.tr] at hok
  refine (refMet_is hp hP ht hok W hW).mono ?_
  rintro e w' ⟨⟨l, rfl, hl⟩, hb⟩
  exact ⟨by rw [tabOf_eq hl], hb⟩
theorem says_rows {s : ByteArray} {f l : Bool} {rows : List (List Nd)} (hx : Px.parse s.data.toList = .ok (f, l, rows)) (p : List Int) : Says p (Tr.tb p (.mk 2 false false [] [] (Nd.trRows rows))) (Nd.MetRows rows) := by
  have h := says_tr p 8 _ (parse_good hx)
  rw [Nd.tr] at h
  refine says_iff h fun q _ => ?_
  rw [Nd.Met]
theorem piece_all (p : List Int) : piece p 0 p.length = p := by simp [piece]
/-- The document's side. -/
theorem ref5 (s : ByteArray) : Ref5 s where
  parse := fun W => refParse_of s (fun hs => refChoice_is s hs) W
  meets := fun f l rows hx p ao ca hm b hb w x0 x1 x2 x3 x4 x5 ht hP W hW => by
    have h16 : p.length ≤ 16 := ((Is.may_iff p).1 hm).1
    exact refMeets_of f l x0 x1 x2 x3 x4 x5 ao ca p h16 _ _ (tabOf_tab (Tr.tb p (.mk 2 false false [] [] (Nd.trRows rows)))) b (hb.trans (hit_iff p f l rows _ (says_rows hx p)).symm) W fun w' hw' => refMet_of hx h16 ao ca w x0 x1 x2 x3 x4 x5 ht hP w' (bthen hW hw')
  met := fun f l rows hx p hm => by
    have h16 : p.length ≤ 16 := ((Is.may_iff p).1 hm).1
    refine ⟨_, _, tabOf_tab (Tr.tb p (.mk 2 false false [] [] (Nd.trRows rows))), ?_, fun ao ca w x0 x1 x2 x3 x4 x5 ht hP W hW => refMet_of hx h16 ao ca w x0 x1 x2 x3 x4 x5 ht hP W hW⟩
    have h := says_rows hx p 0 p.length (Nat.zero_le _) (Nat.le_refl _)
    rw [piece_all] at h
    exact h
end Go.Proofs.YtbceoinhmpnjaaaGreatDoor

