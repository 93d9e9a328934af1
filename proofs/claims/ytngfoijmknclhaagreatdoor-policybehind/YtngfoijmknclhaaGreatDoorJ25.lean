/- The program's places behind a node. -/
import Derived.Test.YtngfoijmknclhaaGreatDoorJ23
import Derived.Test.YtngfoijmknclhaaGreatDoorJ24
namespace Go.Proofs.YtngfoijmknclhaaGreatDoor.Ar
open Go.RowKit Go.Sort
theorem metRow_app (a : List Nd) (n : Nd) (q : List Int) : Nd.MetRow (a ++ [n]) q ↔ ∃ x y, q = x ++ y ∧ Nd.MetRow a x ∧ Nd.Met n y := by
  induction a generalizing q with
  | nil =>
    simp only [List.nil_append, Nd.MetRow]
    constructor
    · rintro ⟨x, y, rfl, h, rfl⟩
      exact ⟨[], x, by simp, rfl, h⟩
    · rintro ⟨x, y, rfl, rfl, h⟩
      exact ⟨y, [], by simp, h, rfl⟩
  | cons b a ih =>
    simp only [List.cons_append, Nd.MetRow]
    constructor
    · rintro ⟨x, y, rfl, h, h2⟩
      obtain ⟨u, v, rfl, h3, h4⟩ := (ih y).1 h2
      exact ⟨x ++ u, v, by simp, ⟨x, u, rfl, h, h3⟩, h4⟩
    · rintro ⟨x, y, rfl, ⟨u, v, rfl, h3, h4⟩, h⟩
      exact ⟨u, v ++ y, by simp, h3, (ih _).2 ⟨v, y, rfl, h4, h⟩⟩
theorem metRows_app (a : List (List Nd)) (l : List Nd) (q : List Int) : Nd.MetRows (a ++ [l]) q ↔ Nd.MetRows a q ∨ Nd.MetRow l q := by
  induction a with
  | nil => simp [Nd.MetRows]
  | cons b a ih => simp only [List.cons_append, Nd.MetRows, ih]; exact or_assoc.symm
def EndsC (p : List Int) (ao : Option Addr) (ca : Nat) (n : Nd) : Prop := ∀ (w : World) (cs : List Value), Pn.At w (Nd.pn n) cs → Is.slot w ao p → EndsAt p ao ca (Nd.Met n) w cs

set_option maxHeartbeats 8000000 in
theorem ends_num (p : List Int) (hp : Is.may p = true) (ao : Option Addr) (ca d : Nat) (dot set : Bool) (ps : List Prt) (hg : Nd.Good d (.num dot set ps)) : EndsC p ao ca (.num dot set ps) := by
  intro w cs hA hS m hm W hW
  obtain ⟨hl, hall⟩ := (Is.may_iff p).1 hp
  have hg' : (dot = true ∧ set = false ∧ ps = [(1, 65535, true)]) ∨ (dot = false ∧ set = true ∧ ps ≠ [] ∧ ∀ p ∈ ps, Px.goodPair p) ∨ (dot = false ∧ set = false ∧ ∃ x, ps = [(x, x, false)] ∧ Is.as x = true) := by
    cases d <;> simpa only [Nd.Good] using hg
  obtain ⟨kd, qs, hk, hpn, hf⟩ : ∃ (kd : Int) (qs : List Prt), (kd = 0 ∨ kd = 1 ∨ kd = 2) ∧ Nd.pn (.num dot set ps) = .mk kd qs [] ∧ ∀ x, Is.as x = true → ((decide (kd = 1) || qs.any fun q => within q x) = true ↔ ∃ r ∈ ps, r.1 ≤ x ∧ x ≤ r.2.1) := by
    have hw : ∀ x, (ps.any fun q => within q x) = true ↔ ∃ r ∈ ps, r.1 ≤ x ∧ x ≤ r.2.1 := by
      intro x
      simp [within, List.any_eq_true]
    rcases hg' with ⟨rfl, rfl, rfl⟩ | ⟨rfl, rfl, _⟩ | ⟨rfl, rfl, _⟩
    · refine ⟨1, [], .inr (.inl rfl), by rw [Nd.pn, if_pos rfl], fun x hx => ?_⟩
      have := (Is.as_iff x).1 hx
      simp
      omega
    · exact ⟨2, ps, .inr (.inr rfl), by rw [Nd.pn, if_neg (by simp), if_pos rfl], fun x _ => by rw [← hw x]; simp⟩
    · exact ⟨0, ps, .inl rfl, by rw [Nd.pn, if_neg (by simp), if_neg (by simp)], fun x _ => by rw [← hw x]; simp⟩
  rw [hpn] at hA
  obtain ⟨po, pc, uo, uc, b, off, css, rfl, hn, hps, _⟩ := Pn.inv hA
  have HCV : ∀ E, StepTo p (fun x => decide (kd = 1) || qs.any fun q => within q x) m p.length E → EndsTo p (Nd.Met (.num dot set ps)) m E := by
    intro E hE k
    rw [hE k]
    constructor
    · rintro ⟨i, hi, _, rfl, hb, hh⟩
      refine ⟨by omega, i, by omega, hb, ?_⟩
      rw [piece_one p i hi, Nd.Met]
      have e : p.getD i 0 = p[i] := by simp [List.getD, hi]
      rw [e]
      exact ⟨_, rfl, (hf _ (hall i hi)).1 hh⟩
    · rintro ⟨hk, i, hik, hb, hM⟩
      rw [Nd.Met] at hM
      obtain ⟨n, hn, hr⟩ := hM
      have hl := congrArg List.length hn
      rw [piece_len p i k hk] at hl
      simp at hl
      obtain rfl : k = i + 1 := by omega
      have hi : i < p.length := by omega
      rw [piece_one p i hi] at hn
      have e : p.getD i 0 = p[i] := by simp [List.getD, hi]
      rw [e] at hn
      simp only [List.cons.injEq, and_true] at hn
      refine ⟨i, hi, hi, rfl, hb, (hf _ (hall i hi)).2 ?_⟩
      rw [hn]
      exact hr
  have HCVH := hide HCV
  have B0 := hide (balloc (brefl W) (.cells #[.int .i64 kd, .slice po qs.length pc, .slice uo ([] : List Pn).length uc] 136))
  have CS := hide (step_is5 kd qs po pc (.slice uo ([] : List Pn).length uc) rfl (fun x => decide (kd = 1) || qs.any fun q => within q x) (fun x => rfl) p ao ca m w hn.1 hps hS hl (hm.lt hl) _ (bthen hW B0.out))
  clear hA hS hm hW hall hg hg' hf hpn hps hn HCV hp
  rcases hk with rfl | rfl | rfl
  all_goals
    go_enter Tryz.func108, Tryz.ntmps108
    go_wp2_with fail
    refine CS.out.mono ?_
    rintro e w1 ⟨⟨E, rfl, hE, HE⟩, hb⟩
    have B1 := hide (bthen B0.out hb)
    have HE2 := hide (HCVH.out E HE.out)
    clear hb CS HCVH
    go_wp2_with fail
    go_ret
    exact ⟨⟨E, rfl, hE, HE2⟩, B1.out⟩

set_option maxHeartbeats 8000000 in
theorem ends_st (p : List Int) (hl : p.length ≤ 16) (ao : Option Addr) (ca k : Nat) (hk : k = 3 ∨ k = 4 ∨ k = 5) (n : Nd) (hn : EndsC p ao ca n) : EndsC p ao ca (.st k n) := by
  intro w cs hA hS m hm W hW
  rw [Nd.pn] at hA
  obtain ⟨po, pc, uo, uc, b, off, css, rfl, _, _, huo, hr, ha⟩ := Pn.inv hA
  have h0 : 0 < [Nd.pn n].length := by simp
  have hA0 := ha 0 h0
  have hR0 := six_below (hr 0 h0) hW
  have huo' : uo = some ⟨b, off, none⟩ := by rcases huo with h | h; cases h; exact h
  subst huo'
  obtain ⟨x0, x1, x2, hcs⟩ := Pn.len hA0
  rw [hcs] at hA0 hR0
  have h1 := Pn.one hA0
  have hC := hn w _ hA0 hS
  have B0 := hide (balloc (brefl W) (.cells #[.int .i64 ((k : Int) + 2), .slice po ([] : List Prt).length pc, .slice (some ⟨b, off, none⟩) [Nd.pn n].length uc] 136))
  have CO := hide (often_is5 hl h1 hC m hm _ (bthen hW B0.out))
  have CE := hide (hC m hm _ (bthen hW B0.out))
  rw [Nat.zero_mul, Nat.add_zero] at hR0
  obtain ⟨e0, e1, e2⟩ := six3_at hR0
  have hbl := block_lt_of_cell e0
  have hbn : b ≠ W.heap.size := by simp only at hbl; omega
  have hm2 := hm.lt hl
  have hor := fun E (hE : E < 131072) => u32_or_nat m E (by omega) (by omega)
  have holt := fun E (hE : E < 131072) => or_lt m E hm2 hE
  have HEM := hide (ends_empty hm)
  clear hA hS hr ha huo hcs hn hR0 hA0 hW hC hm h1
  rcases hk with rfl | rfl | rfl
  · have HCV : Hid (∀ E, EndsTo p (Plus fun q => Nd.Met n q) m E → EndsTo p (Nd.Met (.st 3 n)) m (m ||| E)) := by
      intro E hE
      refine ends_iff (ends_or HEM.out hE) fun q => ?_
      rw [Nd.Met, if_neg (by decide), if_pos rfl]
      constructor
      · rintro (rfl | h)
        · exact .nil
        · exact Many.plus h
      · intro h
        rcases h.first with h0 | ⟨a, c, _, h2, h3, h4⟩
        · exact .inl h0
        · exact .inr ⟨a, c, h2, h3, h4⟩
    clear CE
    go_enter Tryz.func108, Tryz.ntmps108
    go_wp2_with fail
    refine CO.out.mono ?_
    rintro e w1 ⟨⟨E, rfl, hE, HE⟩, hb⟩
    have B1 := hide (bthen B0.out hb)
    have HE2 := hide (HCV.out E HE.out)
    have ho := hor E hE
    have hlt := holt E hE
    generalize m ||| E = E2 at *
    clear hb CO HCV hor holt
    go_wp2_with fail
    go_ret
    exact ⟨⟨E2, rfl, hlt, HE2⟩, B1.out⟩
  · have HCV : Hid (∀ E, EndsTo p (Plus fun q => Nd.Met n q) m E → EndsTo p (Nd.Met (.st 4 n)) m E) := by
      intro E hE
      refine ends_iff hE fun q => ?_
      rw [Nd.Met, if_neg (by decide), if_neg (by decide)]
    clear CE hor holt
    go_enter Tryz.func108, Tryz.ntmps108
    go_wp2_with fail
    refine CO.out.mono ?_
    rintro e w1 ⟨⟨E, rfl, hE, HE⟩, hb⟩
    have B1 := hide (bthen B0.out hb)
    have HE2 := hide (HCV.out E HE.out)
    clear hb CO HCV
    go_wp2_with fail
    go_ret
    exact ⟨⟨E, rfl, hE, HE2⟩, B1.out⟩
  · have HCV : Hid (∀ E, EndsTo p (Nd.Met n) m E → EndsTo p (Nd.Met (.st 5 n)) m (m ||| E)) := by
      intro E hE
      refine ends_iff (ends_or HEM.out hE) fun q => ?_
      rw [Nd.Met, if_pos rfl]
    clear CO
    go_enter Tryz.func108, Tryz.ntmps108
    go_wp2_with fail
    refine CE.out.mono ?_
    rintro e w1 ⟨⟨E, rfl, hE, HE⟩, hb⟩
    have B1 := hide (bthen B0.out hb)
    have HE2 := hide (HCV.out E HE.out)
    have ho := hor E hE
    have hlt := holt E hE
    generalize m ||| E = E2 at *
    clear hb CE HCV hor holt
    go_wp2_with fail
    go_ret
    exact ⟨⟨E2, rfl, hlt, HE2⟩, B1.out⟩
end Go.Proofs.YtngfoijmknclhaaGreatDoor.Ar
namespace Go.Proofs.YtngfoijmknclhaaGreatDoor.Ar
open Go.RowKit Go.Sort
set_option maxHeartbeats 8000000 in
set_option maxRecDepth 100000 in
theorem ends_row5 (p : List Int) (hl : p.length ≤ 16) (ao : Option Addr) (ca : Nat) (l : List Nd) (hn : ∀ n ∈ l, EndsC p ao ca n) (w : World) (cs : List Value) (hA : Pn.At w (.mk 4 [] (l.map Nd.pn)) cs) (hS : Is.slot w ao p) : EndsAt p ao ca (Nd.MetRow l) w cs := by
  intro m hm W hW
  obtain ⟨po, pc, uo, uc, b, off, css, rfl, hn2, _, huo, hr, ha⟩ := Pn.inv hA
  have hlen : (l.map Nd.pn).length = l.length := List.length_map ..
  have B0 := hide (balloc (brefl W) (.cells #[.int .i64 4, .slice po ([] : List Prt).length pc, .slice uo (l.map Nd.pn).length uc] 136))
  have HK : Hid (∀ i (h : i < l.length), ∃ x0 x1 x2, uo = some ⟨b, off, none⟩ ∧ Six w b (off + i * 3) [x0, x1, x2] ∧ One3 x0 x1 x2 ∧ EndsAt p ao ca (Nd.Met l[i]) w [x0, x1, x2]) := by
    intro i hi
    have hi' : i < (l.map Nd.pn).length := by omega
    have h1 := ha i hi'
    have h2 := hr i hi'
    obtain ⟨x0, x1, x2, hx⟩ := Pn.len h1
    have e2 : (l.map Nd.pn)[i] = Nd.pn l[i] := by simp
    rw [hx] at h1 h2
    rw [e2] at h1
    refine ⟨x0, x1, x2, ?_, h2, Pn.one h1, hn l[i] (List.getElem_mem hi) w _ h1 hS⟩
    rcases huo with h | h
    · rw [h] at hi'; simp at hi'
    · exact h
  have HS0 : Hid (EndsTo p (Nd.MetRow (l.take 0)) m m) := by
    refine ends_iff (ends_empty hm) fun q => ?_
    simp [Nd.MetRow]
  have hm2 := hm.lt hl
  have HW := hide hW
  have hn3 := hn2.2
  rw [hlen] at B0 hn3
  rw [hlen]
  clear hA hS hr ha huo hn hm hn2 hW hlen
  go_enter Tryz.func108, Tryz.ntmps108
  go_wp2_with fail
  generalize W.alloc (.cells #[.int .i64 4, .slice po ([] : List Prt).length pc, .slice uo l.length uc] 136) = W1 at *
  go_loopw [2, 36] (fun v2 v36 wr => ∃ (i F : Nat), v36 = .int .i64 i ∧ v2 = .int .u32 (F : Int) ∧ i ≤ l.length ∧ F < 131072 ∧ Hid (EndsTo p (Nd.MetRow (l.take i)) m F) ∧ Below W1.heap.size W1 wr) (fun _ v36 _ => l.length - (intOf v36).toNat)
  case atStart => exact ⟨0, m, rfl, rfl, Nat.zero_le _, hm2, HS0, brefl _⟩
  case round =>
    obtain ⟨i, F, rfl, rfl, hi, hF, HS, hbr⟩ := hrel
    have BR := hide hbr
    clear hbr
    by_cases hil : i < l.length
    · have hil' : (i : Int) < (l.length : Int) := by omega
      obtain ⟨x0, x1, x2, hu, h6, ⟨o0, o1, o2⟩, hC⟩ := HK.out i hil
      subst hu
      obtain ⟨e0, e1, e2⟩ := six3_at (six_below (six_below h6 HW.out) (bthen B0.out BR.out))
      have s0 := fun w a m => run_store Tryz.prog w a x0 m o0
      have s1 := fun w a m => run_store Tryz.prog w a x1 m o1
      have s2 := fun w a m => run_store Tryz.prog w a x2 m o2
      have CC := hide (hC F HS.out.inPath (wr.alloc (.cells #[x0, x1, x2] 136)) (bthen HW.out (bthen B0.out (balloc BR.out _))))
      have B2 := hide (balloc BR.out (.cells #[x0, x1, x2] 136))
      have HCV : Hid (∀ E, EndsTo p (Nd.Met l[i]) F E → EndsTo p (Nd.MetRow (l.take (i + 1))) m E) := by
        intro E hE
        refine ends_iff (ends_then HS.out hE) fun q => ?_
        rw [List.take_succ_eq_append_getElem hil, metRow_app]
      clear h6 hC
      generalize l[i] = y at *
      go_wp2_with fail
      refine CC.out.mono ?_
      rintro e w1 ⟨⟨E, rfl, hE, HE⟩, hb⟩
      have B3 := hide (bthen B2.out hb)
      have HE2 := hide (HCV.out E HE.out)
      clear hb CC HCV
      go_wp2_with fail
      exact ⟨⟨i + 1, E, by go_num, rfl, by omega, hE, HE2, B3.out⟩, by simp [intOf] <;> omega⟩
    · have hil' : ¬ (i : Int) < (l.length : Int) := by omega
      have HE : Hid (EndsTo p (Nd.MetRow l) m F) := by
        have := HS.out
        rwa [List.take_of_length_le (by omega)] at this
      go_wp2_with fail
      go_ret
      exact ⟨⟨F, rfl, hF, HE⟩, bthen B0.out BR.out⟩

set_option maxHeartbeats 8000000 in
set_option maxRecDepth 100000 in
theorem ends_rows5 (p : List Int) (hl : p.length ≤ 16) (ao : Option Addr) (ca : Nat) (rows : List (List Nd)) (hn : ∀ l ∈ rows, ∀ n ∈ l, EndsC p ao ca n) (w : World) (cs : List Value) (hA : Pn.At w (.mk 3 [] (Nd.pnRows rows)) cs) (hS : Is.slot w ao p) : EndsAt p ao ca (Nd.MetRows rows) w cs := by
  intro m hm W hW
  obtain ⟨po, pc, uo, uc, b, off, css, rfl, hn2, _, huo, hr, ha⟩ := Pn.inv hA
  have hlen := pnRows_len rows
  have B0 := hide (balloc (brefl W) (.cells #[.int .i64 3, .slice po ([] : List Prt).length pc, .slice uo (Nd.pnRows rows).length uc] 136))
  have HK : Hid (∀ i (h : i < rows.length), ∃ x0 x1 x2, uo = some ⟨b, off, none⟩ ∧ Six w b (off + i * 3) [x0, x1, x2] ∧ One3 x0 x1 x2 ∧ EndsAt p ao ca (Nd.MetRow rows[i]) w [x0, x1, x2]) := by
    intro i hi
    have hi' : i < (Nd.pnRows rows).length := by omega
    have h1 := ha i hi'
    have h2 := hr i hi'
    obtain ⟨x0, x1, x2, hx⟩ := Pn.len h1
    have e2 : (Nd.pnRows rows)[i] = .mk 4 [] (rows[i].map Nd.pn) := by
      have := Nd.pnRows_map rows
      simp only [this, List.getElem_map]
    rw [hx] at h1 h2
    rw [e2] at h1
    refine ⟨x0, x1, x2, ?_, h2, Pn.one h1, ends_row5 p hl ao ca rows[i] (hn rows[i] (List.getElem_mem hi)) w _ h1 hS⟩
    rcases huo with h | h
    · rw [h] at hi'; simp at hi'
    · exact h
  have HS0 : Hid (EndsTo p (Nd.MetRows (rows.take 0)) m 0) := by
    refine ends_iff (ends_zero p m) fun q => ?_
    simp [Nd.MetRows]
  have hm2 := hm.lt hl
  have HM := hide hm
  have HW := hide hW
  have hn3 := hn2.2
  rw [hlen] at B0 hn3
  rw [hlen]
  clear hA hS hr ha huo hn hm hn2 hW hlen
  go_enter Tryz.func108, Tryz.ntmps108
  go_wp2_with fail
  generalize W.alloc (.cells #[.int .i64 3, .slice po ([] : List Prt).length pc, .slice uo rows.length uc] 136) = W1 at *
  go_loopw [7, 19] (fun v7 v19 wr => ∃ (i F : Nat), v19 = .int .i64 i ∧ v7 = .int .u32 (F : Int) ∧ i ≤ rows.length ∧ F < 131072 ∧ Hid (EndsTo p (Nd.MetRows (rows.take i)) m F) ∧ Below W1.heap.size W1 wr) (fun _ v19 _ => rows.length - (intOf v19).toNat)
  case atStart => exact ⟨0, 0, rfl, rfl, Nat.zero_le _, by decide, HS0, brefl _⟩
  case round =>
    obtain ⟨i, F, rfl, rfl, hi, hF, HS, hbr⟩ := hrel
    have BR := hide hbr
    clear hbr
    by_cases hil : i < rows.length
    · have hil' : (i : Int) < (rows.length : Int) := by omega
      obtain ⟨x0, x1, x2, hu, h6, ⟨o0, o1, o2⟩, hC⟩ := HK.out i hil
      subst hu
      obtain ⟨e0, e1, e2⟩ := six3_at (six_below (six_below h6 HW.out) (bthen B0.out BR.out))
      have s0 := fun w a m => run_store Tryz.prog w a x0 m o0
      have s1 := fun w a m => run_store Tryz.prog w a x1 m o1
      have s2 := fun w a m => run_store Tryz.prog w a x2 m o2
      have CC := hide (hC m HM.out (wr.alloc (.cells #[x0, x1, x2] 136)) (bthen HW.out (bthen B0.out (balloc BR.out _))))
      have B2 := hide (balloc BR.out (.cells #[x0, x1, x2] 136))
      have HCV : Hid (∀ E, EndsTo p (Nd.MetRow rows[i]) m E → EndsTo p (Nd.MetRows (rows.take (i + 1))) m (F ||| E)) := by
        intro E hE
        refine ends_iff (ends_or HS.out hE) fun q => ?_
        rw [List.take_succ_eq_append_getElem hil, metRows_app]
      clear h6 hC
      generalize rows[i] = y at *
      go_wp2_with fail
      refine CC.out.mono ?_
      rintro e w1 ⟨⟨E, rfl, hE, HE⟩, hb⟩
      have B3 := hide (bthen B2.out hb)
      have HE2 := hide (HCV.out E HE.out)
      have ho := u32_or_nat F E (by omega) (by omega)
      have hlt := or_lt F E hF hE
      generalize F ||| E = E2 at *
      clear hb CC HCV
      go_wp2_with fail
      exact ⟨⟨i + 1, E2, by go_num, rfl, by omega, hlt, HE2, B3.out⟩, by simp [intOf] <;> omega⟩
    · have hil' : ¬ (i : Int) < (rows.length : Int) := by omega
      have HE : Hid (EndsTo p (Nd.MetRows rows) m F) := by
        have := HS.out
        rwa [List.take_of_length_le (by omega)] at this
      go_wp2_with fail
      go_ret
      exact ⟨⟨F, rfl, hF, HE⟩, bthen B0.out BR.out⟩
mutual
theorem all_ends (p : List Int) (hp : Is.may p = true) (ao : Option Addr) (ca : Nat) : ∀ (d : Nat) (n : Nd), Nd.Good d n → EndsC p ao ca n
  | d, .num dot set ps, h => ends_num p hp ao ca d dot set ps h
  | 0, .ch rows, h => by simp only [Nd.Good] at h
  | d + 1, .ch rows, h => fun w cs hA hS => by
    rw [Nd.pn] at hA
    have e : Nd.Met (.ch rows) = Nd.MetRows rows := by funext q; simp only [Nd.Met]
    rw [e]
    exact ends_rows5 p ((Is.may_iff p).1 hp).1 ao ca rows (all_endsRows p hp ao ca d rows (by simp only [Nd.Good] at h; exact h.2)) w cs hA hS
  | d, .st k n, h => by
    have h' : (k = 3 ∨ k = 4 ∨ k = 5) ∧ (∀ j m, n ≠ .st j m) ∧ Nd.Good d n := by
      cases d <;> simpa only [Nd.Good] using h
    exact ends_st p ((Is.may_iff p).1 hp).1 ao ca k h'.1 n (all_ends p hp ao ca d n h'.2.2)
theorem all_endsRow (p : List Int) (hp : Is.may p = true) (ao : Option Addr) (ca : Nat) : ∀ (d : Nat) (l : List Nd), Nd.GoodRow d l → ∀ n ∈ l, EndsC p ao ca n
  | _, [], _ => fun n hn => by simp at hn
  | d, m :: r, h => fun n hn => by
    simp only [Nd.GoodRow] at h
    rcases List.mem_cons.1 hn with e | hn
    · rw [e]
      exact all_ends p hp ao ca d m h.1
    · exact all_endsRow p hp ao ca d r h.2 n hn
theorem all_endsRows (p : List Int) (hp : Is.may p = true) (ao : Option Addr) (ca : Nat) : ∀ (d : Nat) (l : List (List Nd)), Nd.GoodRows d l → ∀ r ∈ l, ∀ n ∈ r, EndsC p ao ca n
  | _, [], _ => fun r hr => by simp at hr
  | d, m :: l, h => fun r hr => by
    simp only [Nd.GoodRows] at h
    rcases List.mem_cons.1 hr with e | hr
    · rw [e]
      exact all_endsRow p hp ao ca d m h.1
    · exact all_endsRows p hp ao ca d l h.2 r hr
end
end Go.Proofs.YtngfoijmknclhaaGreatDoor.Ar
namespace Go.Proofs.YtngfoijmknclhaaGreatDoor.Ar
open Go.RowKit Go.Sort
/-- What is asked of aspath's May. -/
def MayOk : Prop := ∀ (ao : Option Addr) (ca : Nat) (l : List Int) (b : Bool), Is.may l = b → ∀ W, Is.slot W ao l → l.length ≤ 320 → Calls Tryz.prog 53 #[.slice ao l.length ca] W fun e w' => e = .returned (.bool b) ∧ Below W.heap.size W w'
theorem and_test (a b : Nat) (ha : a < 262144) (hb : b < 262144) (t : Bool) (h : t = true ↔ ∃ k, a.testBit k = true ∧ b.testBit k = true) : (bits .and .u32 (a : Int) (b : Int) != 0) = t := by
  rw [u32_and_nat a b (by omega) (by omega), Bool.eq_iff_iff, h]
  simp only [bne_iff_ne, ne_eq]
  constructor
  · intro h0
    have h1 : a &&& b ≠ 0 := by omega
    obtain ⟨k, hk⟩ := Nat.exists_testBit_of_ne_zero h1
    rw [Nat.testBit_and, Bool.and_eq_true] at hk
    exact ⟨k, hk⟩
  · rintro ⟨k, h1, h2⟩ h0
    have h3 : a &&& b = 0 := by omega
    have := congrArg (fun z => Nat.testBit z k) h3
    simp [Nat.testBit_and, h1, h2] at this
theorem piece_all (p : List Int) : piece p 0 p.length = p := by simp [piece]
theorem piece_mid (a b c : List Int) : piece (a ++ b ++ c) a.length (a.length + b.length) = b := by
  unfold piece
  have e : (a ++ b ++ c).take (a.length + b.length) = a ++ b := by rw [← List.length_append, List.take_left]
  rw [e, List.drop_left]
theorem meets_bits {x : Xp} {p : List Int} {F T E : Nat} (hF : ∀ k, F.testBit k = true ↔ k ≤ p.length ∧ (x.1 = true → k = 0)) (hT : ∀ k, T.testBit k = true ↔ k ≤ p.length ∧ (x.2.1 = true → k = p.length)) (hE : EndsTo p (Nd.MetRows x.2.2) F E) : (∃ k, E.testBit k = true ∧ T.testBit k = true) ↔ Ex.Meets x p := by
  unfold Ex.Meets
  constructor
  · rintro ⟨k, h1, h2⟩
    obtain ⟨hk, i, hik, hi, hM⟩ := (hE k).1 h1
    refine ⟨piece p 0 i, piece p i k, piece p k p.length, ?_, hM, fun hf => ?_, fun hf => ?_⟩
    · rw [← piece_app p 0 i k (by omega) hik hk, ← piece_app p 0 k p.length (by omega) hk (Nat.le_refl _), piece_all]
    · rw [((hF i).1 hi).2 hf]; exact piece_self p 0
    · rw [((hT k).1 h2).2 hf]; exact piece_self p _
  · rintro ⟨a, b, c, rfl, hM, h1, h2⟩
    refine ⟨a.length + b.length, (hE _).2 ⟨by simp, a.length, by omega, (hF _).2 ⟨by simp only [List.length_append]; omega, fun hf => by rw [h1 hf]; rfl⟩, by rw [piece_mid]; exact hM⟩, (hT _).2 ⟨by simp, fun hf => by rw [h2 hf]; simp⟩⟩
theorem whole_bits {rows : List (List Nd)} {p : List Int} {E : Nat} (hE : EndsTo p (Nd.MetRows rows) 1 E) : (∃ k, E.testBit k = true ∧ (2 ^ p.length).testBit k = true) ↔ Nd.MetRows rows p := by
  have h1 : ∀ i, (1 : Nat).testBit i = true ↔ i = 0 := fun i => by
    have : (1 : Nat) = 2 ^ 0 := rfl
    rw [this, Nat.testBit_two_pow]
    simp [eq_comm]
  constructor
  · rintro ⟨k, h2, h3⟩
    rw [Nat.testBit_two_pow, decide_eq_true_eq] at h3
    subst h3
    obtain ⟨_, i, _, hi, hM⟩ := (hE _).1 h2
    rw [h1] at hi
    subst hi
    rwa [piece_all] at hM
  · intro hM
    exact ⟨p.length, (hE _).2 ⟨Nat.le_refl _, 0, Nat.zero_le _, (h1 0).2 rfl, by rw [piece_all]; exact hM⟩, by rw [Nat.testBit_two_pow]; simp⟩

set_option maxHeartbeats 8000000 in
set_option maxRecDepth 100000 in
theorem meets_is5 (hMay : MayOk) (v : Value) (x : Xp) (ao : Option Addr) (ca : Nat) (p : List Int) (b : Bool) (hb : b = true ↔ Is.may p = true ∧ Ex.Meets x p) (W : World) (h : Rep5 W v x) (hS : Is.slot W ao p) (hpl : p.length ≤ 320) : Calls Tryz.prog 62 #[v, .slice ao p.length ca] W fun e w' => e = .returned (.bool b) ∧ Below W.heap.size W w' := by
  obtain ⟨a, x0, x1, x2, rfl, hE, hA, s, hs⟩ := h
  obtain ⟨f, l, rows⟩ := x
  obtain ⟨⟨d, hg⟩, _, _⟩ := parse_bounds hs
  cases hm : Is.may p with
  | false =>
    obtain rfl : b = false := by
      cases b with
      | false => rfl
      | true => rw [hm] at hb; have := (hb.1 rfl).1; cases this
    have CM := hide (hMay ao ca p false hm W hS hpl)
    clear hE hA hs hg hm hS hb
    go_enter Tryz.func62, Tryz.ntmps62
    go_wp2_with fail
    refine CM.out.mono ?_
    rintro e w1 ⟨rfl, hb1⟩
    have B1 := hide hb1
    clear hb1 CM
    go_wp2_with fail
    go_ret
    exact ⟨rfl, B1.out⟩
  | true =>
    have hb' : b = true ↔ Ex.Meets (f, l, rows) p := by rw [hb, hm]; simp
    obtain ⟨hl, _⟩ := (Is.may_iff p).1 hm
    have CM := hide (hMay ao ca p true hm W hS hpl)
    have HC := hide (ends_rows5 p hl ao ca rows (all_endsRows p hm ao ca d rows hg) W _ hA hS)
    obtain ⟨o0, o1, o2⟩ := Pn.one hA
    obtain ⟨A, hAA⟩ : ∃ A, A = 2 ^ (p.length + 1) - 1 := ⟨_, rfl⟩
    have h17 := pow_le17 (p.length + 1) (by omega)
    have hpos : 0 < 2 ^ (p.length + 1) := Nat.pow_pos (by decide)
    have hAb : ∀ k, A.testBit k = true ↔ k ≤ p.length := fun k => by
      rw [hAA, Nat.testBit_two_pow_sub_one, decide_eq_true_eq]
      omega
    have hAlt : A < 131072 := by omega
    have hsub : (IntKind.u32.wrap (((2 ^ (p.length + 1) : Nat) : Int) - 1)) = (A : Int) := by
      have : (((2 ^ (p.length + 1) : Nat) : Int) - 1) = (A : Int) := by omega
      rw [this]
      simp (disch := omega) only [IntWalk.u32_in]
    have CA1 := hide (fun w => at_is (p.length + 1) (by omega) ((p.length : Int) + 1) (by omega) w)
    have CA2 := hide (fun w => at_is 0 (by omega) 0 rfl w)
    have CA3 := hide (fun w => at_is p.length (by omega) (p.length : Int) rfl w)
    obtain ⟨c0, c1, c2, c3, c4⟩ := hE
    have hcell : ∀ o u, W.cell? ⟨a, o, none⟩ = some u → ∀ w1, Below W.heap.size W w1 → w1.cell? ⟨a, o, none⟩ = some u := fun o u h w1 hb => (hb.cell (p := ⟨a, o, none⟩) (block_lt_of_cell h)).trans h
    have K0 := hide (hcell 0 _ c0)
    have K1 := hide (hcell 1 _ c1)
    have K2 := hide (hcell 2 _ c2)
    have K3 := hide (hcell 3 _ c3)
    have K4 := hide (hcell 4 _ c4)
    have hlenI : (p.length : Int) ≤ 16 := by omega
    have h2l := pow_le17 p.length (by omega)
    have h1b : ∀ k, (2 ^ 0 : Nat).testBit k = true ↔ k = 0 := fun k => by rw [Nat.testBit_two_pow]; simp [eq_comm]
    have hlb : ∀ k, (2 ^ p.length : Nat).testBit k = true ↔ k = p.length := fun k => by rw [Nat.testBit_two_pow]; simp [eq_comm]
    clear hcell hA hs hg hS hb hm hAA hpos h17
    generalize 2 ^ p.length = L at CA3 h2l hlb
    generalize ((2 ^ (p.length + 1) : Nat) : Int) = P1 at *
    cases f <;> cases l
    · have HFT := hide (fun E (hE : EndsTo p (Nd.MetRows rows) A E) (hlt : E < 131072) => and_test E A (by omega) (by omega) b (hb'.trans (meets_bits (x := (false, false, rows)) (F := A) (T := A) (fun k => by simp [hAb]) (fun k => by simp [hAb]) hE).symm))
      have D := hide (fun w hw => HC.out A (fun k hk => by rw [hAb] at hk; omega) w hw)
      clear HC hb' h1b hlb
      go_enter Tryz.func62, Tryz.ntmps62
      go_wp2_with fail
      refine CM.out.mono ?_
      rintro e w1 ⟨rfl, hb1⟩
      have e0 := K0.out w1 hb1
      have e1 := K1.out w1 hb1
      have e2 := K2.out w1 hb1
      have e3 := K3.out w1 hb1
      have e4 := K4.out w1 hb1
      have B1 := hide hb1
      have DE := hide (D.out w1 hb1)
      clear hb1 CM K0 K1 K2 K3 K4 c0 c1 c2 c3 c4 D
      go_wp2_with fail
      refine (CA1.out _).mono ?_
      rintro e w2 ⟨rfl, hw⟩
      have hw' := hw.symm
      clear hw
      subst hw'
      go_wp2_with fail
      refine DE.out.mono ?_
      rintro e w3 ⟨⟨E, rfl, hE, HE⟩, hb3⟩
      have B3 := hide (bthen B1.out hb3)
      have hfin := HFT.out E HE.out hE
      clear hb3 DE HFT CA1 CA2 CA3
      go_wp2_with fail
      go_ret
      exact ⟨rfl, B3.out⟩
    · have HFT := hide (fun E (hE : EndsTo p (Nd.MetRows rows) A E) (hlt : E < 131072) => and_test E L (by omega) (by omega) b (hb'.trans (meets_bits (x := (false, true, rows)) (F := A) (T := L) (fun k => by simp [hAb]) (fun k => by simp [hlb]; omega) hE).symm))
      have D := hide (fun w hw => HC.out A (fun k hk => by rw [hAb] at hk; omega) w hw)
      clear HC hb' h1b hlb
      go_enter Tryz.func62, Tryz.ntmps62
      go_wp2_with fail
      refine CM.out.mono ?_
      rintro e w1 ⟨rfl, hb1⟩
      have e0 := K0.out w1 hb1
      have e1 := K1.out w1 hb1
      have e2 := K2.out w1 hb1
      have e3 := K3.out w1 hb1
      have e4 := K4.out w1 hb1
      have B1 := hide hb1
      have DE := hide (D.out w1 hb1)
      clear hb1 CM K0 K1 K2 K3 K4 c0 c1 c2 c3 c4 D
      go_wp2_with fail
      refine (CA1.out _).mono ?_
      rintro e w2 ⟨rfl, hw⟩
      have hw' := hw.symm
      clear hw
      subst hw'
      go_wp2_with fail
      refine (CA3.out _).mono ?_
      rintro e w2 ⟨rfl, hw⟩
      have hw' := hw.symm
      clear hw
      subst hw'
      go_wp2_with fail
      refine DE.out.mono ?_
      rintro e w3 ⟨⟨E, rfl, hE, HE⟩, hb3⟩
      have B3 := hide (bthen B1.out hb3)
      have hfin := HFT.out E HE.out hE
      clear hb3 DE HFT CA1 CA2 CA3
      go_wp2_with fail
      go_ret
      exact ⟨rfl, B3.out⟩
    · have HFT := hide (fun E (hE : EndsTo p (Nd.MetRows rows) (2 ^ 0) E) (hlt : E < 131072) => and_test E A (by omega) (by omega) b (hb'.trans (meets_bits (x := (true, false, rows)) (F := (2 ^ 0)) (T := A) (fun k => by simp [h1b]; omega) (fun k => by simp [hAb]) hE).symm))
      have D := hide (fun w hw => HC.out (2 ^ 0) (fun k hk => by rw [h1b] at hk; omega) w hw)
      clear HC hb' h1b hlb
      go_enter Tryz.func62, Tryz.ntmps62
      go_wp2_with fail
      refine CM.out.mono ?_
      rintro e w1 ⟨rfl, hb1⟩
      have e0 := K0.out w1 hb1
      have e1 := K1.out w1 hb1
      have e2 := K2.out w1 hb1
      have e3 := K3.out w1 hb1
      have e4 := K4.out w1 hb1
      have B1 := hide hb1
      have DE := hide (D.out w1 hb1)
      clear hb1 CM K0 K1 K2 K3 K4 c0 c1 c2 c3 c4 D
      go_wp2_with fail
      refine (CA1.out _).mono ?_
      rintro e w2 ⟨rfl, hw⟩
      have hw' := hw.symm
      clear hw
      subst hw'
      go_wp2_with fail
      refine (CA2.out _).mono ?_
      rintro e w2 ⟨rfl, hw⟩
      have hw' := hw.symm
      clear hw
      subst hw'
      go_wp2_with fail
      refine DE.out.mono ?_
      rintro e w3 ⟨⟨E, rfl, hE, HE⟩, hb3⟩
      have B3 := hide (bthen B1.out hb3)
      have hfin := HFT.out E HE.out hE
      clear hb3 DE HFT CA1 CA2 CA3
      go_wp2_with fail
      go_ret
      exact ⟨rfl, B3.out⟩
    · have HFT := hide (fun E (hE : EndsTo p (Nd.MetRows rows) (2 ^ 0) E) (hlt : E < 131072) => and_test E L (by omega) (by omega) b (hb'.trans (meets_bits (x := (true, true, rows)) (F := (2 ^ 0)) (T := L) (fun k => by simp [h1b]; omega) (fun k => by simp [hlb]; omega) hE).symm))
      have D := hide (fun w hw => HC.out (2 ^ 0) (fun k hk => by rw [h1b] at hk; omega) w hw)
      clear HC hb' h1b hlb
      go_enter Tryz.func62, Tryz.ntmps62
      go_wp2_with fail
      refine CM.out.mono ?_
      rintro e w1 ⟨rfl, hb1⟩
      have e0 := K0.out w1 hb1
      have e1 := K1.out w1 hb1
      have e2 := K2.out w1 hb1
      have e3 := K3.out w1 hb1
      have e4 := K4.out w1 hb1
      have B1 := hide hb1
      have DE := hide (D.out w1 hb1)
      clear hb1 CM K0 K1 K2 K3 K4 c0 c1 c2 c3 c4 D
      go_wp2_with fail
      refine (CA1.out _).mono ?_
      rintro e w2 ⟨rfl, hw⟩
      have hw' := hw.symm
      clear hw
      subst hw'
      go_wp2_with fail
      refine (CA2.out _).mono ?_
      rintro e w2 ⟨rfl, hw⟩
      have hw' := hw.symm
      clear hw
      subst hw'
      go_wp2_with fail
      refine (CA3.out _).mono ?_
      rintro e w2 ⟨rfl, hw⟩
      have hw' := hw.symm
      clear hw
      subst hw'
      go_wp2_with fail
      refine DE.out.mono ?_
      rintro e w3 ⟨⟨E, rfl, hE, HE⟩, hb3⟩
      have B3 := hide (bthen B1.out hb3)
      have hfin := HFT.out E HE.out hE
      clear hb3 DE HFT CA1 CA2 CA3
      go_wp2_with fail
      go_ret
      exact ⟨rfl, B3.out⟩
end Go.Proofs.YtngfoijmknclhaaGreatDoor.Ar
