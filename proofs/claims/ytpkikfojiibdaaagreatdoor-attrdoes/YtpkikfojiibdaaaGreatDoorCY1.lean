import Derived.Test.YtpkikfojiibdaaaGreatDoorCB4
/- The contract of the document's with: a set with one more. -/
namespace Go.Proofs.YtpkikfojiibdaaaGreatDoor.Cm
open Go.RowKit Go.Sort Go.Lib

/-- A slice that lies, with its room. -/
def Co.sl (w : World) (ao : Option Addr) (ca : Nat) (l : List Co.C) : Prop := Co.slot w ao l ∧ Co.came ao ca ∧ l.length ≤ ca
theorem Co.sl_below {w w' : World} {ao : Option Addr} {ca : Nat} {l : List Co.C} (h : Co.sl w ao ca l) (hb : Below w.heap.size w w') : Co.sl w' ao ca l := ⟨Co.slot_below h.1 hb, h.2⟩
theorem Co.sl_own {w : World} {B n cap : Nat} {ao : Option Addr} {l : List Co.C} (h : w.ownsRow B 53 2 (.slice ao n cap) n (Co.cells l)) : Co.sl w ao cap l := by
  refine ⟨Co.slot_own h, own_came h, ?_⟩
  have hn := Co.own_len h
  rcases h.2 with ⟨hv, h0⟩ | ⟨g, cap', cur, hv, _, _, hnc, _⟩
  · omega
  · simp only [Value.slice.injEq] at hv
    rw [hv.2.2]; omega
/-- Its block is the one that came, or a new one. -/
def Co.blk (w : World) (ao o : Option Addr) : Prop := o = ao ∨ ∀ ad, o = some ad → w.heap.size ≤ ad.block
theorem own_blk {w : World} {B n cap : Nat} {o : Option Addr} {xs : List Value} (h : w.ownsRow B 53 2 (.slice o n cap) n xs) : ∀ ad, o = some ad → B ≤ ad.block := by
  intro ad had
  rcases h.2 with ⟨hv, _⟩ | ⟨g, cap', cur, hv, hb, _⟩
  · simp only [Value.slice.injEq] at hv
    rw [hv.1] at had; cases had
  · simp only [Value.slice.injEq] at hv
    rw [hv.1] at had; cases had
    exact hb

def WithGood (w : World) (ao : Option Addr) (l : List Co.C) (c : Co.C) (e : Ending) (w' : World) : Prop :=
  ∃ (o : Option Addr) (n : Nat) (y : List Co.C), e = .returned (.slice o y.length n) ∧ Co.uni l [c] y ∧ Co.sl w' o n y ∧ Co.blk w ao o ∧ y.length ≤ l.length + 1 ∧ Below w.heap.size w w'

theorem Co.uni_in {l : List Co.C} {c : Co.C} (hr : Co.rises l) (h : Co.inL l c = true) : Co.uni l [c] l := by
  refine ⟨hr, fun d => ⟨fun hd => .inl hd, fun hd => ?_⟩⟩
  rcases hd with hd | hd
  · exact hd
  · rw [List.mem_singleton] at hd
    subst hd
    exact (Co.inL_iff l d).1 h
theorem Co.uni_ins {l : List Co.C} {c : Co.C} {k : Nat} (hr : Co.rises l) (h : Co.inL l c = false) (hlo : ∀ x ∈ l.take k, Co.bef x c = true) (hhi : ∀ hk : k < l.length, Co.bef l[k] c = false) : Co.uni l [c] (l.take k ++ [c] ++ l.drop k) := by
  have hcn : c ∉ l := fun hm => by rw [(Co.inL_iff l c).2 hm] at h; cases h
  have hup : ∀ x ∈ l.drop k, Co.bef c x = true := by
    intro x hx
    rcases Nat.lt_or_ge k l.length with hk | hk
    · have h1 : Co.bef c l[k] = true := by
        rcases Co.bef_total (hhi hk) with e | e
        · exact absurd (e ▸ List.getElem_mem hk) hcn
        · exact e
      rw [List.drop_eq_getElem_cons hk] at hx
      rcases List.mem_cons.1 hx with rfl | hx
      · exact h1
      · have hp : (l.drop k).Pairwise fun x y => Co.bef x y = true := List.Pairwise.sublist (List.drop_sublist _ _) hr
        rw [List.drop_eq_getElem_cons hk, List.pairwise_cons] at hp
        exact Co.bef_trans h1 (hp.1 x hx)
    · rw [List.drop_eq_nil_of_le hk] at hx
      cases hx
  refine ⟨?_, fun d => ?_⟩
  · unfold Co.rises
    rw [List.append_assoc, List.pairwise_append]
    refine ⟨List.Pairwise.sublist (List.take_sublist _ _) hr, ?_, ?_⟩
    · rw [List.singleton_append, List.pairwise_cons]
      exact ⟨hup, List.Pairwise.sublist (List.drop_sublist _ _) hr⟩
    · intro a ha b hb
      rw [List.singleton_append] at hb
      rcases List.mem_cons.1 hb with rfl | hb
      · exact hlo a ha
      · exact Co.bef_trans (hlo a ha) (hup b hb)
  · have hm : d ∈ l ↔ d ∈ l.take k ∨ d ∈ l.drop k := by
      rw [← List.mem_append, List.take_append_drop]
    simp only [List.mem_append, hm, List.mem_singleton]
    constructor
    · rintro ((h | h) | h)
      · exact .inl (.inl h)
      · exact .inr h
      · exact .inl (.inr h)
    · rintro ((h | h) | h)
      · exact .inl (.inl h)
      · exact .inr h
      · exact .inl (.inr h)

theorem Co.slot_take {w : World} {ao : Option Addr} {l : List Co.C} (h : Co.slot w ao l) (k : Nat) : Co.slot w ao (l.take k) := by
  rcases h with h | ⟨b, off, h, hr⟩
  · left; rw [h]; simp
  · refine .inr ⟨b, off, h, fun j u hu => hr j u ?_⟩
    have e : Co.cells l = Co.cells (l.take k) ++ Co.cells (l.drop k) := by rw [← Co.cells_app, List.take_append_drop]
    rw [e, List.getElem?_append_left (List.getElem?_eq_some_iff.1 hu).1]
    exact hu
theorem Co.slot_drop {w : World} {b off : Nat} {l : List Co.C} (h : Co.slot w (some ⟨b, off, none⟩) l) (k : Nat) (hk : k ≤ l.length) : Co.slot w (some ⟨b, off + k * 2, none⟩) (l.drop k) := by
  rcases h with h | ⟨b', off', h, hr⟩
  · left; rw [h]; simp
  · simp only [Option.some.injEq, Addr.mk.injEq, and_true] at h
    obtain ⟨rfl, rfl⟩ := h
    refine .inr ⟨b, off + k * 2, rfl, fun j u hu => ?_⟩
    have e : Co.cells l = Co.cells (l.take k) ++ Co.cells (l.drop k) := by rw [← Co.cells_app, List.take_append_drop]
    have hl : (Co.cells (l.take k)).length = k * 2 := by rw [Co.cells_length, List.length_take]; omega
    rw [Nat.add_assoc]
    refine hr (k * 2 + j) u ?_
    rw [e, List.getElem?_append_right (by omega), hl, Nat.add_sub_cancel_left]
    exact hu

theorem append_listN {w w0 : World} {ops : Array Oper} {rest : List Oper} {o : Oper} {a : Act} {Q : Exit → Act → World → Prop} (hgd : o.guard = none) (s x : Operand)
    (ho : o.op = .call { callee := .builtin .append, args := #[s, x], argTypes := #[23, 23] }) (v : Value) (n : Nat) (xs : List Co.C) (hs : a.eval s = v) (hown : w.ownsRow w0.heap.size 53 2 v n (Co.cells xs))
    (ao : Option Addr) (nl cap : Nat) (l : List Co.C) (hx : a.eval x = .slice ao nl cap) (hnl : l.length = nl) (hR : Co.slot w ao l) (hC : Co.came ao cap) (hn : n + nl ≤ 1000000) (hb : Below w0.heap.size w0 w)
    (h : ∀ v' w', w'.ownsRow w0.heap.size 53 2 v' (n + nl) (Co.cells (xs ++ l)) → Below w0.heap.size w0 w' → wpList Tryz.prog ops Q rest (a.put o.dst v') w') : wpList Tryz.prog ops Q (o :: rest) a w := by
  subst hnl
  exact append_list hgd s x ho v n xs hs hown ao cap l hx hR hC hn hb h

set_option maxHeartbeats 4000000 in
theorem with_in (ao : Option Addr) (ca : Nat) (l : List Co.C) (c d : Int) (w : World) (hs : Co.sl w ao ca l) (hr : Co.rises l) (hlen : l.length ≤ 1000) (hi : Co.inL l (c, d) = true) :
    Calls Tryz.prog 52 #[.slice ao l.length ca, .agg #[.int .i64 c, .int .i64 d]] w (WithGood w ao l (c, d)) := by
  have B0 := hide (balloc (brefl w) (.cells #[.int .i64 c, .int .i64 d] 53))
  have HS := hide (Co.sl_below hs B0.out)
  have HI := hide hi
  have HR := hide hr
  clear hs hi hr
  go_enter Tryz.func52, Tryz.ntmps52
  go_wp2_with fail
  refine (refIn_is ao ca l c d true HI.out _ HS.out.1 (by omega)).mono ?_
  rintro e w1 ⟨rfl, hb1⟩
  have HS1 := hide (Co.sl_below HS.out hb1)
  have B1 := hide (bthen B0.out hb1)
  clear hb1
  go_wp2_with fail
  exact bodyPost_ret (v := .slice ao l.length ca) (by simp [results, Tryz.results52, go_sem]) rfl ⟨ao, ca, l, rfl, Co.uni_in HR.out HI.out, HS1.out, .inl rfl, by omega, B1.out⟩
end Go.Proofs.YtpkikfojiibdaaaGreatDoor.Cm

/- The document's with, of one that isn't there. -/
namespace Go.Proofs.YtpkikfojiibdaaaGreatDoor.Cm
open Go.RowKit Go.Sort Go.Lib

theorem Co.uni_ins' {l : List Co.C} {c : Co.C} {k : Nat} (hr : Co.rises l) (h : Co.inL l c = false) (hlo : ∀ x ∈ l.take k, Co.bef x c = true) (hhi : ∀ hk : k < l.length, Co.bef l[k] c = false) : Co.uni l [c] (l.take k ++ c :: l.drop k) := by
  have := Co.uni_ins hr h hlo hhi
  rwa [List.append_assoc, List.singleton_append] at this
theorem came_if (p : Prop) [Decidable p] (b o o2 c : Nat) : Co.came (if p then some ⟨b, o, none⟩ else some ⟨b, o2, none⟩) c := by
  split <;> exact came_some _ _ _

set_option maxHeartbeats 8000000 in
set_option maxRecDepth 100000 in
theorem with_new (b off : Nat) (ca : Nat) (l : List Co.C) (c d : Int) (w : World) (hs : Co.sl w (some ⟨b, off, none⟩) ca l) (hr : Co.rises l) (hlen : l.length ≤ 1000) (hi : Co.inL l (c, d) = false) :
    Calls Tryz.prog 52 #[.slice (some ⟨b, off, none⟩) l.length ca, .agg #[.int .i64 c, .int .i64 d]] w (WithGood w (some ⟨b, off, none⟩) l (c, d)) := by
  have B0 := hide (balloc (brefl w) (.cells #[.int .i64 c, .int .i64 d] 53))
  have T0 := hide (two_new w c d 53)
  have HS := hide (Co.sl_below hs B0.out)
  have hcap : l.length ≤ ca := hs.2.2
  have HI := hide hi
  have HR := hide hr
  have HS0 := hide hs
  clear hs hi hr
  go_enter Tryz.func52, Tryz.ntmps52
  go_wp2_with fail
  generalize w.alloc (.cells #[.int .i64 c, .int .i64 d] 53) = W0 at *
  generalize hRR : w.heap.size = R at T0 ⊢
  have HRR := hide hRR
  clear hRR
  refine (refIn_is (some ⟨b, off, none⟩) ca l c d false HI.out _ HS.out.1 (by omega)).mono ?_
  rintro e w1 ⟨rfl, hb1⟩
  have T1 := hide (two_below hb1 T0.out)
  have B1 := hide (bthen B0.out hb1)
  clear hb1
  go_wp2_with fail
  go_loopw [6] (fun v wr => ∃ k : Nat, v = .int .i64 k ∧ k ≤ l.length ∧ (∀ x ∈ l.take k, Co.bef x (c, d) = true) ∧ Below w1.heap.size w1 wr) (fun v _ => l.length - (intOf v).toNat)
  case atStart => exact ⟨0, rfl, Nat.zero_le _, fun x hx => by simp at hx, brefl w1⟩
  case round =>
    obtain ⟨k, rfl, hk, hall, hbr⟩ := hrel
    have HALL := hide hall
    have HBR := hide (bthen B1.out hbr)
    have T2 := hide (two_below hbr T1.out)
    clear hall
    obtain ⟨s0, s1⟩ := two_regrown T2.out
    by_cases hkl : k < l.length
    · have hkl' : (k : Int) < (l.length : Int) := by omega
      have hrd : Co.reads wr b off l := by
        rcases Co.slot_below HS0.out.1 HBR.out with h | ⟨b', off', h, hr⟩
        · rw [h] at hkl; simp at hkl
        · simp only [Option.some.injEq, Addr.mk.injEq, and_true] at h
          rw [h.1, h.2]; exact hr
      obtain ⟨e0, e1⟩ := Co.reads_at hrd k hkl
      clear hrd
      have HST : Hid (Co.bef l[k] (c, d) = true → ∀ x ∈ l.take (k + 1), Co.bef x (c, d) = true) := by
        show _ → _
        intro hb x hx
        rw [List.take_succ_eq_append_getElem hkl, List.mem_append] at hx
        rcases hx with hx | hx
        · exact HALL.out x hx
        · rw [List.mem_singleton] at hx; rw [hx]; exact hb
      have HHI : Hid (Co.bef l[k] (c, d) = false → ∀ hk : k < l.length, Co.bef l[k] (c, d) = false) := fun h _ => h
      generalize l[k] = u at e0 e1 HST HHI
      obtain ⟨u0, u1⟩ := u
      have r0 := fun dd os => cell_regrown e0 dd os
      have r1 := fun dd os => cell_regrown e1 dd os
      cases hbf : Co.bef (u0, u1) (c, d)
      · have HF := hide hbf
        go_wp2_with fail
        refine wp_region_quiet_below (by kernel_rfl) (by kernel_rfl) ?_
        repeat (go_big_quiet_step ((go_at_call 82; exact Calls.regrown_of (refBefore_is _ _ _ _ _ HF.out _))))
        refine wpQuiet_nil ?_
        rintro _ ⟨⟨dd, os⟩, rfl⟩
        have hb2 := below_regrown wr dd os
        generalize Sort.grow (redrawn wr dd) os = w2 at hb2
        have B2 := hide (bthen HBR.out hb2)
        have T3 := hide (two_below hb2 T2.out)
        clear hb2 r0 r1 s0 s1 e0 e1
        have HU := hide (Co.uni_ins' HR.out HI.out HALL.out (HHI.out hbf))
        have hkc : ¬ (ca : Int) < (k : Int) := by omega
        have hkc2 : ¬ (l.length : Int) < (k : Int) := by omega
        have S2 := hide (Co.slot_below HS0.out.1 B2.out)
        clear hbf
        have hlk : Hid ((l.take k).length = k) := by show _ = _; rw [List.length_take]; omega
        have hld : Hid ((l.drop k).length = l.length - k) := by show _ = _; rw [List.length_drop]
        have HC := hide HS0.out.2.1
        have STK := hide (Co.slot_take S2.out k)
        have SDK := hide (Co.slot_drop S2.out k hk)
        have HZ : Hid (w.heap.size ≤ w2.heap.size) := B2.out.size
        generalize l.take k = lt at *
        generalize l.drop k = ld at *
        go_wp2_with (at_builtin; go_must (refine append_listN (w0 := w2) rfl _ _ rfl _ 0 [] rfl (World.ownsRow_nil _ _ _ _) (some ⟨b, off, none⟩) k ca lt rfl hlk.out STK.out HC.out (by omega) (brefl w2) ?_))
        intro v3 w3 hn3 hb3
        obtain ⟨o3, c3, rfl⟩ := row_slice hn3
        have HN3 := hide hn3
        have T4 := hide (two_below hb3 T3.out)
        have B3 := hide hb3
        clear hn3 hb3
        obtain ⟨p0, p1, p2, p3⟩ := T4.out
        go_wp2_with (at_builtin; go_must (refine append_listN (w0 := w2) rfl _ _ rfl _ k lt rfl (HN3.out.alloc _) (some ⟨w3.heap.size, 0, none⟩) 1 1 [(c, d)] rfl rfl (Co.slot_one _ _ _ _ (two_new w3 c d 53)) (came_some _ _ _) (by omega) (balloc B3.out _) ?_))
        intro v4 w4 hn4 hb4
        obtain ⟨o4, c4, rfl⟩ := row_slice hn4
        have HN4 := hide hn4
        have B4 := hide hb4
        clear hn4 hb4 p0 p1 p2 p3
        go_wp2_with (at_builtin; go_must (refine append_listN (w0 := w2) rfl _ _ rfl _ (k + 1) (lt ++ [(c, d)]) rfl HN4.out (some ⟨b, off + k * 2, none⟩) (l.length - k) (ca - k) ld rfl hld.out (Co.slot_below SDK.out B4.out) (came_some _ _ _) (by omega) B4.out ?_))
        intro v5 w5 hn5 hb5
        obtain ⟨o5, c5, rfl⟩ := row_slice hn5
        have HN5 := hide hn5
        have B5 := hide (bthen B2.out hb5)
        have HL5 : Hid (k + 1 + (l.length - k) = (lt ++ (c, d) :: ld).length) := Co.own_len hn5
        clear hn5 hb5
        go_wp2_with fail
        rw [HL5.out] at HN5 ⊢
        exact bodyPost_ret (v := .slice o5 (lt ++ (c, d) :: ld).length c5) (by simp [results, Tryz.results52, go_sem]) rfl ⟨o5, c5, _, rfl, HU.out, Co.sl_own HN5.out, .inr (fun ad had => Nat.le_trans HZ.out (own_blk HN5.out ad had)), (by rw [← HL5.out]; omega), B5.out⟩
      · have HF := hide hbf
        go_wp2_with fail
        refine wp_region_quiet_below (by kernel_rfl) (by kernel_rfl) ?_
        repeat (go_big_quiet_step ((go_at_call 82; exact Calls.regrown_of (refBefore_is _ _ _ _ _ HF.out _))))
        refine wpQuiet_nil ?_
        rintro _ ⟨⟨dd, os⟩, rfl⟩
        have hb2 := below_regrown wr dd os
        generalize Sort.grow (redrawn wr dd) os = w2 at hb2
        have B2 := hide (bthen hbr hb2)
        clear hb2 r0 r1 s0 s1 e0 e1
        go_wp2_with fail
        exact ⟨⟨k + 1, by go_num, by omega, HST.out HF.out, B2.out⟩, by simp [intOf] <;> omega⟩
    · have hkl' : ¬ (k : Int) < (l.length : Int) := by omega
      have HU := hide (Co.uni_ins' HR.out HI.out HALL.out (fun h => absurd h hkl))
      go_wp2_with fail
      refine wp_region_quiet_below (by kernel_rfl) (by kernel_rfl) ?_
      repeat (go_big_quiet_step (fail))
      refine wpQuiet_nil ?_
      rintro _ ⟨⟨dd, os⟩, rfl⟩
      have hb2 := below_regrown wr dd os
      generalize Sort.grow (redrawn wr dd) os = w2 at hb2
      have B2 := hide (bthen HBR.out hb2)
      have T3 := hide (two_below hb2 T2.out)
      clear hb2 s0 s1
      have hkc : ¬ (ca : Int) < (k : Int) := by omega
      have hkc2 : ¬ (l.length : Int) < (k : Int) := by omega
      have S2 := hide (Co.slot_below HS0.out.1 B2.out)
      have hlk : Hid ((l.take k).length = k) := by show _ = _; rw [List.length_take]; omega
      have hld : Hid ((l.drop k).length = l.length - k) := by show _ = _; rw [List.length_drop]
      have HC := hide HS0.out.2.1
      have STK := hide (Co.slot_take S2.out k)
      have SDK := hide (Co.slot_drop S2.out k hk)
      have HZ : Hid (w.heap.size ≤ w2.heap.size) := B2.out.size
      generalize l.take k = lt at *
      have HLN : Hid (l.drop k = []) := List.drop_eq_nil_of_le (by omega)
      generalize l.drop k = ld at *
      go_wp2_with (at_builtin; go_must (refine append_listN (w0 := w2) rfl _ _ rfl _ 0 [] rfl (World.ownsRow_nil _ _ _ _) (some ⟨b, off, none⟩) k ca lt rfl hlk.out STK.out HC.out (by omega) (brefl w2) ?_))
      intro v3 w3 hn3 hb3
      obtain ⟨o3, c3, rfl⟩ := row_slice hn3
      have HN3 := hide hn3
      have T4 := hide (two_below hb3 T3.out)
      have B3 := hide hb3
      clear hn3 hb3
      obtain ⟨p0, p1, p2, p3⟩ := T4.out
      go_wp2_with (at_builtin; go_must (refine append_listN (w0 := w2) rfl _ _ rfl _ k lt rfl (HN3.out.alloc _) (some ⟨w3.heap.size, 0, none⟩) 1 1 [(c, d)] rfl rfl (Co.slot_one _ _ _ _ (two_new w3 c d 53)) (came_some _ _ _) (by omega) (balloc B3.out _) ?_))
      intro v4 w4 hn4 hb4
      obtain ⟨o4, c4, rfl⟩ := row_slice hn4
      have HN4 := hide hn4
      have B4 := hide hb4
      clear hn4 hb4 p0 p1 p2 p3
      go_wp2_with (at_builtin; go_must (refine append_listN (w0 := w2) rfl _ _ rfl _ (k + 1) (lt ++ [(c, d)]) rfl HN4.out (if ca = k then some ⟨b, off, none⟩ else some ⟨b, off + k * 2, none⟩) (l.length - k) (ca - k) ld rfl hld.out (.inl HLN.out) (came_if _ _ _ _ _) (by omega) B4.out ?_))
      all_goals
        intro v5 w5 hn5 hb5
        obtain ⟨o5, c5, rfl⟩ := row_slice hn5
        have HN5 := hide hn5
        have B5 := hide (bthen B2.out hb5)
        have HL5 : Hid (k + 1 + (l.length - k) = (lt ++ (c, d) :: ld).length) := Co.own_len hn5
        clear hn5 hb5
        go_wp2_with fail
        rw [HL5.out] at HN5 ⊢
        exact bodyPost_ret (v := .slice o5 (lt ++ (c, d) :: ld).length c5) (by simp [results, Tryz.results52, go_sem]) rfl ⟨o5, c5, _, rfl, HU.out, Co.sl_own HN5.out, .inr (fun ad had => Nat.le_trans HZ.out (own_blk HN5.out ad had)), (by rw [← HL5.out]; omega), B5.out⟩
end Go.Proofs.YtpkikfojiibdaaaGreatDoor.Cm

/- The contracts of the document's with and Add. -/
namespace Go.Proofs.YtpkikfojiibdaaaGreatDoor.Cm
open Go.RowKit Go.Sort Go.Lib

set_option maxHeartbeats 4000000 in
set_option maxRecDepth 100000 in
theorem with_nil (c d : Int) (w : World) : Calls Tryz.prog 52 #[.slice none 0 0, .agg #[.int .i64 c, .int .i64 d]] w (WithGood w none [] (c, d)) := by
  have B0 := hide (balloc (brefl w) (.cells #[.int .i64 c, .int .i64 d] 53))
  have T0 := hide (two_new w c d 53)
  have HU : Hid (Co.uni [] [(c, d)] [(c, d)]) := ⟨by unfold Co.rises; simp, fun x => by simp⟩
  have CI := hide (fun W => refIn_is none 0 [] c d false rfl W (.inl rfl) (by decide))
  go_enter Tryz.func52, Tryz.ntmps52
  go_wp2_with fail
  generalize w.alloc (.cells #[.int .i64 c, .int .i64 d] 53) = W0 at *
  generalize w.heap.size = R at T0 ⊢
  refine (CI.out _).mono ?_
  rintro e w1 ⟨rfl, hb1⟩
  have T1 := hide (two_below hb1 T0.out)
  have B1 := hide (bthen B0.out hb1)
  clear hb1
  go_wp2_with fail
  go_loopw [6] (fun v wr => v = .int .i64 0 ∧ Below w1.heap.size w1 wr) (fun _ _ => 0)
  case atStart => exact ⟨rfl, brefl w1⟩
  case round =>
    obtain ⟨rfl, hbr⟩ := hrel
    have HBR := hide (bthen B1.out hbr)
    have T2 := hide (two_below hbr T1.out)
    clear hbr
    go_wp2_with fail
    refine wp_region_quiet_below (by kernel_rfl) (by kernel_rfl) ?_
    repeat (go_big_quiet_step (fail))
    refine wpQuiet_nil ?_
    rintro _ ⟨⟨dd, os⟩, rfl⟩
    have hb2 := below_regrown wr dd os
    generalize Sort.grow (redrawn wr dd) os = w2 at hb2
    have B2 := hide (bthen HBR.out hb2)
    have T3 := hide (two_below hb2 T2.out)
    have HZ : Hid (w.heap.size ≤ w2.heap.size) := B2.out.size
    clear hb2
    go_wp2_with (at_builtin; go_must (refine append_listN (w0 := w2) rfl _ _ rfl _ 0 [] rfl (World.ownsRow_nil _ _ _ _) none 0 0 [] rfl rfl (.inl rfl) ⟨fun _ => rfl, fun ad h => (by cases h)⟩ (by decide) (brefl w2) ?_))
    intro v3 w3 hn3 hb3
    obtain ⟨o3, c3, rfl⟩ := row_slice hn3
    have HN3 := hide hn3
    have T4 := hide (two_below hb3 T3.out)
    have B3 := hide hb3
    clear hn3 hb3
    obtain ⟨p0, p1, p2, p3⟩ := T4.out
    go_wp2_with (at_builtin; go_must (refine append_listN (w0 := w2) rfl _ _ rfl _ 0 [] rfl (HN3.out.alloc _) (some ⟨w3.heap.size, 0, none⟩) 1 1 [(c, d)] rfl rfl (Co.slot_one _ _ _ _ (two_new w3 c d 53)) (came_some _ _ _) (by decide) (balloc B3.out _) ?_))
    intro v4 w4 hn4 hb4
    obtain ⟨o4, c4, rfl⟩ := row_slice hn4
    have HN4 := hide hn4
    have B4 := hide hb4
    clear hn4 hb4 p0 p1 p2 p3
    go_wp2_with (at_builtin; go_must (refine append_listN (w0 := w2) rfl _ _ rfl _ 1 [(c, d)] rfl HN4.out none 0 0 [] rfl rfl (.inl rfl) ⟨fun _ => rfl, fun ad h => (by cases h)⟩ (by decide) B4.out ?_))
    intro v5 w5 hn5 hb5
    obtain ⟨o5, c5, rfl⟩ := row_slice hn5
    have HN5 := hide hn5
    have B5 := hide (bthen B2.out hb5)
    clear hn5 hb5
    go_wp2_with fail
    exact bodyPost_ret (v := .slice o5 1 c5) (by simp [results, Tryz.results52, go_sem]) rfl ⟨o5, c5, [(c, d)], rfl, HU.out, Co.sl_own HN5.out, .inr (fun ad had => Nat.le_trans HZ.out (own_blk HN5.out ad had)), by simp, B5.out⟩

theorem refWith_is (ao : Option Addr) (ca : Nat) (l : List Co.C) (c d : Int) (w : World) (hs : Co.sl w ao ca l) (hr : Co.rises l) (hlen : l.length ≤ 1000) :
    Calls Tryz.prog 52 #[.slice ao l.length ca, .agg #[.int .i64 c, .int .i64 d]] w (WithGood w ao l (c, d)) := by
  cases hi : Co.inL l (c, d)
  · cases ao with
    | none =>
      have hl : l = [] := by
        rcases hs.1 with h | ⟨b, off, h, _⟩
        · exact h
        · cases h
      subst hl
      have hc : ca = 0 := hs.2.1.1 rfl
      subst hc
      exact with_nil c d w
    | some ad =>
      obtain ⟨b, off, sp⟩ := ad
      obtain rfl : sp = none := hs.2.1.2 _ rfl
      exact with_new b off ca l c d w hs hr hlen hi
  · exact with_in ao ca l c d w hs hr hlen hi

/-- What the document's Add hands back where it can. -/
def RefAddGood (w : World) (ao : Option Addr) (l m : List Co.C) (e : Ending) (w' : World) : Prop :=
  ∃ (y : List Co.C) (o : Option Addr) (n : Nat), Co.uni l m y ∧ Co.slot w' o y ∧ Co.blk w ao o ∧ Below w.heap.size w w' ∧
    ((y.length ≤ 8 ∧ e = .returned (.tuple #[.slice o y.length n, .int .i64 0])) ∨ (8 < y.length ∧ e = .returned (.tuple #[.slice none 0 0, .int .i64 2])))

set_option maxHeartbeats 2000000 in
theorem refAdd_bad1 (ao bo : Option Addr) (ca cb n : Nat) (l : List Co.C) (w : World) (hA : Co.slot w ao l) (hs : Co.set l = false) (h200 : l.length ≤ 200) :
    Calls Tryz.prog 25 #[.slice ao l.length ca, .slice bo n cb] w fun e w' => e = .returned (.tuple #[.slice none 0 0, .int .i64 1]) ∧ Below w.heap.size w w' := by
  have HA := hide hA
  have HS := hide hs
  clear hA hs
  go_enter Tryz.func25, Tryz.ntmps25
  go_wp2_with fail
  refine (refSet_is ao ca l false HS.out _ HA.out h200).mono ?_
  rintro e w1 ⟨rfl, hb1⟩
  go_wp2_with fail
  exact bodyPost_ret (v := .tuple #[.slice none 0 0, .int .i64 1]) (by simp [results, Tryz.results25, go_sem]) rfl ⟨rfl, hb1⟩

theorem Co.rises_set {l : List Co.C} (h : Co.set l = true) : Co.rises l := by
  obtain ⟨_, hok⟩ := (Co.set_iff l).1 h
  have key : ∀ k, k ≤ l.length → Co.rises (l.take k) := by
    intro k
    induction k with
    | zero => intro _; unfold Co.rises; simp
    | succ k ih =>
      intro hk
      have ih' := ih (by omega)
      rw [List.take_succ_eq_append_getElem (by omega)]
      unfold Co.rises
      rw [List.pairwise_append]
      refine ⟨ih', by simp, ?_⟩
      intro a ha b hb
      rw [List.mem_singleton] at hb
      subst hb
      rcases Nat.eq_zero_or_pos k with h0 | h0
      · subst h0; simp at ha
      · obtain ⟨j, rfl⟩ : ∃ j, k = j + 1 := ⟨k - 1, by omega⟩
        have h1 := hok (j + 1) (by omega)
        rw [Co.ok_succ l j (by omega), Bool.and_eq_true] at h1
        rw [List.take_succ_eq_append_getElem (by omega), List.mem_append, List.mem_singleton] at ha
        rcases ha with ha | ha
        · rw [List.take_succ_eq_append_getElem (by omega)] at ih'
          unfold Co.rises at ih'
          rw [List.pairwise_append] at ih'
          exact Co.bef_trans (ih'.2.2 a ha l[j] (by simp)) h1.2
        · rw [ha]; exact h1.2
  have := key l.length (Nat.le_refl _)
  rwa [List.take_length] at this

theorem Co.uni_step {l m y z : List Co.C} {k : Nat} (hk : k < m.length) (h : Co.uni l (m.take k) y) (h2 : Co.uni y [m[k]] z) : Co.uni l (m.take (k + 1)) z := by
  refine ⟨h2.1, fun c => ?_⟩
  rw [h2.2, h.2, List.take_succ_eq_append_getElem hk]
  simp only [List.mem_append, List.mem_singleton]
  constructor
  · rintro ((h | h) | h)
    · exact .inl h
    · exact .inr (.inl h)
    · exact .inr (.inr h)
  · rintro (h | (h | h))
    · exact .inl (.inl h)
    · exact .inl (.inr h)
    · exact .inr h
end Go.Proofs.YtpkikfojiibdaaaGreatDoor.Cm

/- The contract of the document's Add. -/
namespace Go.Proofs.YtpkikfojiibdaaaGreatDoor.Cm
open Go.RowKit Go.Sort Go.Lib

theorem Co.any_not {m : List Co.C} (h : ∀ j (hj : j < m.length), Co.may m[j] = true) : (m.any fun x => !Co.may x) = false := by
  rw [List.any_eq_false]
  intro x hx
  obtain ⟨j, hj, rfl⟩ := List.getElem_of_mem hx
  rw [h j hj]; decide
theorem Co.any_at {m : List Co.C} (k : Nat) (hk : k < m.length) (h : Co.may m[k] = false) : (m.any fun x => !Co.may x) = true := by
  rw [List.any_eq_true]
  exact ⟨m[k], List.getElem_mem hk, by rw [h]; rfl⟩

set_option maxHeartbeats 4000000 in
theorem refAdd_bad2 (ao bo : Option Addr) (ca cb : Nat) (l m : List Co.C) (w : World) (hA : Co.slot w ao l) (hM : Co.slot w bo m) (hs : Co.set l = true) (hm : (m.any fun x => !Co.may x) = true) (hlm : m.length ≤ 200) :
    Calls Tryz.prog 25 #[.slice ao l.length ca, .slice bo m.length cb] w fun e w' => e = .returned (.tuple #[.slice none 0 0, .int .i64 1]) ∧ Below w.heap.size w w' := by
  have hl8 : l.length ≤ 8 := ((Co.set_iff l).1 hs).1
  have HA := hide hA
  have HM := hide hM
  have HS := hide hs
  have HAN := hide hm
  clear hA hM hs hm
  go_enter Tryz.func25, Tryz.ntmps25
  go_wp2_with fail
  refine (refSet_is ao ca l true HS.out _ HA.out (by omega)).mono ?_
  rintro e w1 ⟨rfl, hb1⟩
  have B1 := hide hb1
  clear hb1
  go_wp2_with fail
  go_loopw [6] (fun v wr => ∃ k : Nat, v = .int .i64 k ∧ k ≤ m.length ∧ (∀ j (hj : j < m.length), j < k → Co.may m[j] = true) ∧ Below w.heap.size w wr) (fun v _ => m.length - (intOf v).toNat)
  case atStart => exact ⟨0, rfl, Nat.zero_le _, fun j _ hj => absurd hj (Nat.not_lt_zero _), B1.out⟩
  case round =>
    obtain ⟨k, rfl, hk, hall, hbr⟩ := hrel
    have HALL := hide hall
    have HBR := hide hbr
    clear hall hbr
    by_cases hkl : k < m.length
    · have hkl' : (k : Int) < (m.length : Int) := by omega
      obtain ⟨b, off, rfl, hrd⟩ := Co.slot_at HM.out hkl
      obtain ⟨e0, e1⟩ := Co.reads_at (Co.reads_below hrd HBR.out) k hkl
      clear hrd
      have HST : Hid (Co.may m[k] = true → ∀ j (hj : j < m.length), j < k + 1 → Co.may m[j] = true) := by
        show _ → _
        intro h j hj hjk
        rcases Nat.lt_succ_iff_lt_or_eq.1 hjk with h1 | rfl
        · exact HALL.out j hj h1
        · exact h
      generalize m[k] = u at e0 e1 HST
      obtain ⟨u0, u1⟩ := u
      cases hmu : Co.may (u0, u1)
      · have HMU := hide hmu
        go_wp2_with fail
        refine (refMay_is _ _ _ HMU.out _).mono ?_
        rintro e w2 ⟨rfl, hb2⟩
        have B2 := hide (bthen HBR.out hb2)
        clear hb2 e0 e1
        go_wp2_with fail
        exact bodyPost_ret (v := .tuple #[.slice none 0 0, .int .i64 1]) (by simp [results, Tryz.results25, go_sem]) rfl ⟨rfl, B2.out⟩
      · have HMU := hide hmu
        go_wp2_with fail
        refine (refMay_is _ _ _ HMU.out _).mono ?_
        rintro e w2 ⟨rfl, hb2⟩
        have B2 := hide (bthen HBR.out hb2)
        clear hb2 e0 e1
        go_wp2_with fail
        exact ⟨⟨k + 1, by go_num, by omega, HST.out HMU.out, B2.out⟩, by simp [intOf] <;> omega⟩
    · exfalso
      have := Co.any_not (m := m) fun j hj => HALL.out j hj (by omega)
      have h2 := HAN.out
      rw [this] at h2
      cases h2

set_option maxHeartbeats 8000000 in
set_option maxRecDepth 100000 in
theorem refAdd_good (ao bo : Option Addr) (ca cb : Nat) (l m : List Co.C) (w : World) (hA : Co.sl w ao ca l) (hM : Co.slot w bo m) (hs : Co.set l = true) (hm : (m.any fun x => !Co.may x) = false) (hlm : m.length ≤ 200) :
    Calls Tryz.prog 25 #[.slice ao l.length ca, .slice bo m.length cb] w (RefAddGood w ao l m) := by
  have hl8 : l.length ≤ 8 := ((Co.set_iff l).1 hs).1
  have HA := hide hA
  have HM := hide hM
  have HS := hide hs
  have HAN := hide hm
  have HU0 : Hid (Co.uni l (m.take 0) l) := ⟨Co.rises_set hs, fun c => by simp⟩
  clear hA hM hs hm
  go_enter Tryz.func25, Tryz.ntmps25
  go_wp2_with fail
  refine (refSet_is ao ca l true HS.out _ HA.out.1 (by omega)).mono ?_
  rintro e w1 ⟨rfl, hb1⟩
  have B1 := hide hb1
  clear hb1
  go_wp2_with fail
  go_loopw [6] (fun v wr => ∃ k : Nat, v = .int .i64 k ∧ k ≤ m.length ∧ Below w.heap.size w wr) (fun v _ => m.length - (intOf v).toNat)
  case atStart => exact ⟨0, rfl, Nat.zero_le _, B1.out⟩
  case round =>
    clear B1
    obtain ⟨k, rfl, hk, hbr⟩ := hrel
    have HBR := hide hbr
    clear hbr
    by_cases hkl : k < m.length
    · have hkl' : (k : Int) < (m.length : Int) := by omega
      obtain ⟨b, off, rfl, hrd⟩ := Co.slot_at HM.out hkl
      obtain ⟨e0, e1⟩ := Co.reads_at (Co.reads_below hrd HBR.out) k hkl
      clear hrd
      have HMU : Hid (Co.may m[k] = true) := by
        show _ = _
        cases h : Co.may m[k]
        · have := Co.any_at k hkl h
          rw [HAN.out] at this; cases this
        · rfl
      generalize m[k] = u at e0 e1 HMU
      obtain ⟨u0, u1⟩ := u
      go_wp2_with fail
      refine (refMay_is _ _ _ HMU.out _).mono ?_
      rintro e w2 ⟨rfl, hb2⟩
      have B2 := hide (bthen HBR.out hb2)
      clear hb2 e0 e1
      go_wp2_with fail
      exact ⟨⟨k + 1, by go_num, by omega, B2.out⟩, by simp [intOf] <;> omega⟩
    · have hkl' : ¬ (k : Int) < (m.length : Int) := by omega
      go_wp2_with fail
      go_loopw [0, 7] (fun v0 v7 wq => ∃ (q : Nat) (o : Option Addr) (n : Nat) (y : List Co.C), v7 = .int .i64 q ∧ v0 = .slice o y.length n ∧ q ≤ m.length ∧ Co.uni l (m.take q) y ∧ Co.sl wq o n y ∧ Co.blk w ao o ∧ y.length ≤ 8 + q ∧ Below w.heap.size w wq) (fun _ v7 _ => m.length - (intOf v7).toNat)
      case atStart => exact ⟨0, ao, ca, l, rfl, rfl, Nat.zero_le _, HU0.out, Co.sl_below HA.out HBR.out, .inl rfl, by omega, HBR.out⟩
      case round =>
        clear HBR HU0
        obtain ⟨q, o, n, y, rfl, rfl, hq, hu, hsl, hbk, hyl, hbr⟩ := hrel
        have HU := hide hu
        have HSL := hide hsl
        have HBK := hide hbk
        have HBR := hide hbr
        clear hu hsl hbk hbr
        by_cases hql : q < m.length
        · have hql' : (q : Int) < (m.length : Int) := by omega
          obtain ⟨b, off, rfl, hrd⟩ := Co.slot_at HM.out hql
          obtain ⟨e0, e1⟩ := Co.reads_at (Co.reads_below hrd HBR.out) q hql
          clear hrd
          have HST : Hid (∀ z, Co.uni y [m[q]] z → Co.uni l (m.take (q + 1)) z) := fun z hz => Co.uni_step hql HU.out hz
          generalize m[q] = u at e0 e1 HST
          obtain ⟨u0, u1⟩ := u
          have CW := hide (refWith_is o n y u0 u1 wr HSL.out HU.out.1 (by omega))
          go_wp2_with fail
          refine CW.out.mono ?_
          rintro e w2 ⟨o2, n2, z, rfl, hz, hsl2, hbk2, hzl, hb2⟩
          have B2 := hide (bthen HBR.out hb2)
          have HZ := hide (HST.out z hz)
          have HS2 := hide hsl2
          have HB2 : Hid (Co.blk w ao o2) := by
            rcases hbk2 with h | h
            · rw [h]; exact HBK.out
            · exact .inr fun ad had => Nat.le_trans HBR.out.size (h ad had)
          clear hb2 hz hsl2 hbk2 e0 e1 CW
          go_wp2_with fail
          exact ⟨⟨q + 1, o2, n2, z, by go_num, rfl, by omega, HZ.out, HS2.out, HB2.out, by omega, B2.out⟩, by simp [intOf] <;> omega⟩
        · have hql' : ¬ (q : Int) < (m.length : Int) := by omega
          obtain rfl : q = m.length := by omega
          rw [List.take_length] at HU
          by_cases hy8 : y.length ≤ 8
          · have hy8' : ¬ (8 : Int) < (y.length : Int) := by omega
            go_wp2_with fail
            exact bodyPost_ret (v := .tuple #[.slice o y.length n, .int .i64 0]) (by simp [results, Tryz.results25, go_sem]) rfl ⟨y, o, n, HU.out, HSL.out.1, HBK.out, HBR.out, .inl ⟨hy8, rfl⟩⟩
          · have hy8' : (8 : Int) < (y.length : Int) := by omega
            go_wp2_with fail
            exact bodyPost_ret (v := .tuple #[.slice none 0 0, .int .i64 2]) (by simp [results, Tryz.results25, go_sem]) rfl ⟨y, o, n, HU.out, HSL.out.1, HBK.out, HBR.out, .inr ⟨by omega, rfl⟩⟩
end Go.Proofs.YtpkikfojiibdaaaGreatDoor.Cm

