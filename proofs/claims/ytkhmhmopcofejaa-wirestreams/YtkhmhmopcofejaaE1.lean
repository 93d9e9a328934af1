import Derived.Test.YtkhmhmopcofejaaM1
import Derived.Deep.CutBlock
import Derived.Test.YtkhmhmopcofejaaCA1
/- Attributes in memory; few; signs; numbers of reflectors. -/
namespace Go.Proofs.Ytkhmhmopcofejaa
open Go.RowKit

theorem seven_cells {w : World} {b y : Nat} {x0 x1 x2 x3 x4 x5 x6 : Value} (h : w.heap[b]? = some (.cells #[x0, x1, x2, x3, x4, x5, x6] y (0, 0))) :
    w.cell? ⟨b, 0, none⟩ = some x0 ∧ w.cell? ⟨b, 1, none⟩ = some x1 ∧ w.cell? ⟨b, 2, none⟩ = some x2 ∧ w.cell? ⟨b, 3, none⟩ = some x3 ∧ w.cell? ⟨b, 4, none⟩ = some x4 ∧ w.cell? ⟨b, 5, none⟩ = some x5 ∧ w.cell? ⟨b, 6, none⟩ = some x6 := by
  refine ⟨?_, ?_, ?_, ?_, ?_, ?_, ?_⟩ <;> (unfold World.cell?; rw [h]; rfl)
theorem heap_new (w : World) (x : Array Value) (t : TypeId) : (w.alloc (.cells x t)).heap[w.heap.size]? = some (.cells x t (0, 0)) := by
  show (w.heap.push (.cells x t))[w.heap.size]? = _
  rw [Array.getElem?_push, if_pos rfl]
/-- Where the lists of attributes lie. -/
def At.lies (w : World) (a : At) (p c k : Option Addr) : Prop := Is.slot w p a.path ∧ Cm.Co.slot w c a.comms ∧ Is.slot w k a.cl
theorem At.lies_below {w w' : World} {a : At} {p c k : Option Addr} (h : At.lies w a p c k) (hb : Below w.heap.size w w') : At.lies w' a p c k :=
  ⟨Is.slot_below h.1 hb, Cm.Co.slot_below h.2.1 hb, Is.slot_below h.2.2 hb⟩
/-- Few parts. -/
def few3 (x y z : Nat) : Bool := decide (x ≤ 100) && (decide (y ≤ 100) && decide (z ≤ 100))
theorem few3_iff (x y z : Nat) : few3 x y z = true ↔ x ≤ 100 ∧ y ≤ 100 ∧ z ≤ 100 := by simp [few3]
theorem le_int (n : Nat) : decide ((n : Int) ≤ 100) = decide (n ≤ 100) := by
  congr 1
  simp only [eq_iff_iff]
  omega
set_option maxRecDepth 100000 in
theorem few_is (p0 p1 p2 f : Int) (po co ko : Option Addr) (np nc nk cp cc ck : Nat) (r : Bool) (hr : few3 np nc nk = r) (w : World) :
    Calls Try.prog 20 #[.agg #[.int .i64 p0, .int .i64 p1, .int .i64 p2, .slice po np cp, .slice co nc cc, .int .i64 f, .slice ko nk ck]] w fun e w' => e = .returned (.bool r) ∧ Below w.heap.size w w' := by
  have HB := hide (balloc (brefl w) (.cells #[.int .i64 p0, .int .i64 p1, .int .i64 p2, .slice po np cp, .slice co nc cc, .int .i64 f, .slice ko nk ck] 26))
  have e1 := le_int np
  have e2 := le_int nc
  have e3 := le_int nk
  have HR : Hid (r = (decide (np ≤ 100) && (decide (nc ≤ 100) && decide (nk ≤ 100)))) := hr.symm
  generalize decide (np ≤ 100) = x at *
  generalize decide (nc ≤ 100) = y at *
  generalize decide (nk ≤ 100) = z at *
  clear hr
  cases x
  · go_enter Try.func20, Try.ntmps20
    go_wp2_with fail
    go_ret
    exact ⟨ret_bool (by rw [HR.out]; rfl), HB.out⟩
  · cases y
    · go_enter Try.func20, Try.ntmps20
      go_wp2_with fail
      go_ret
      exact ⟨ret_bool (by rw [HR.out]; rfl), HB.out⟩
    · go_enter Try.func20, Try.ntmps20
      go_wp2_with fail
      go_ret
      exact ⟨ret_bool (by rw [HR.out]; rfl), HB.out⟩
theorem sign_is (a b : Int) (w : World) : Calls Try.prog 72 #[.int .i64 a, .int .i64 b] w fun e w' => e = .returned (.int .i64 (Cm.Co.ci a b)) ∧ w' = w := by
  rcases Cm.Co.ci_cases a b with ⟨h, k⟩ | ⟨h, k⟩ | ⟨h, k⟩ <;> rw [k]
  · go_enter Try.func72, Try.ntmps72
    go_wp2_with fail
    go_ret
    exact ⟨rfl, rfl⟩
  · subst h
    have h1 : ¬ a < a := by omega
    go_enter Try.func72, Try.ntmps72
    go_wp2_with fail
    go_ret
    exact ⟨rfl, rfl⟩
  · have h1 : ¬ a < b := by omega
    go_enter Try.func72, Try.ntmps72
    go_wp2_with fail
    go_ret
    exact ⟨rfl, rfl⟩
theorem Cl.ok_iff (l : List Int) : Cl.ok l = true ↔ l.length ≤ 8 ∧ (∀ j (h : j < l.length), Is.as l[j] = true) ∧ ∀ i k (hi : i < l.length) (hk : k < i), l[k]'(by omega) ≠ l[i] := by
  unfold Cl.ok
  rw [Bool.and_eq_true, Bool.and_eq_true, decide_eq_true_eq, decide_eq_true_eq, List.all_eq_true, and_assoc]
  refine and_congr Iff.rfl (and_congr ?_ ?_)
  · constructor
    · exact fun h j hj => h _ (List.getElem_mem hj)
    · intro h x hx
      obtain ⟨j, hj, rfl⟩ := List.mem_iff_getElem.1 hx
      exact h j hj
  · rw [List.nodup_iff_pairwise_ne, List.pairwise_iff_getElem]
    constructor
    · exact fun h i k hi hk => h k i (by omega) hi hk
    · exact fun h i j hi hj hij => h j i hj hij
theorem Cl.no_len {l : List Int} (h : 8 < l.length) : Cl.ok l = false := by
  cases hm : Cl.ok l
  · rfl
  · have := ((Cl.ok_iff l).1 hm).1
    omega
theorem Cl.no_as {l : List Int} {k : Nat} (hk : k < l.length) (h : Is.as l[k] = false) : Cl.ok l = false := by
  cases hm : Cl.ok l
  · rfl
  · have := ((Cl.ok_iff l).1 hm).2.1 k hk
    rw [h] at this
    cases this
theorem Cl.no_two {l : List Int} {i k : Nat} (hi : i < l.length) (hk : k < i) (h : l[k]'(by omega) = l[i]) : Cl.ok l = false := by
  cases hm : Cl.ok l
  · rfl
  · exact absurd h (((Cl.ok_iff l).1 hm).2.2 i k hi hk)
end Go.Proofs.Ytkhmhmopcofejaa

/- The document's numbers of reflectors, and which attributes may be. -/
namespace Go.Proofs.Ytkhmhmopcofejaa
open Go.RowKit

set_option maxHeartbeats 4000000 in
set_option maxRecDepth 100000 in
theorem refClusters_is (ao : Option Addr) (ca : Nat) (l : List Int) (r : Bool) (hr : Cl.ok l = r) (w : World) (hA : Is.slot w ao l) (hl : l.length ≤ 1000) :
    Calls Try.prog 48 #[.slice ao l.length ca] w fun e w' => e = .returned (.bool r) ∧ Below w.heap.size w w' := by
  have HS := hide hA
  have HR := hide hr
  clear hA hr
  go_enter Try.func48, Try.ntmps48
  go_wp2_with fail
  go_loopw [3, 4] (fun v3 _ wr => ∃ i : Nat, v3 = .int .i64 i ∧ i ≤ l.length ∧ i ≤ 8 ∧ Hid (∀ j (h : j < l.length), j < i → Is.as l[j] = true) ∧ Hid (∀ i' k (hi : i' < l.length) (hk : k < i'), i' < i → l[k]'(by omega) ≠ l[i']) ∧ Below w.heap.size w wr) (fun v3 _ _ => l.length - (intOf v3).toNat)
  case atStart => exact ⟨0, rfl, Nat.zero_le _, by decide, hide fun _ _ h => absurd h (Nat.not_lt_zero _), hide fun _ _ _ _ h => absurd h (Nat.not_lt_zero _), brefl w⟩
  case round =>
    obtain ⟨i, rfl, hi, hi8, HAS, HI, hbr⟩ := hrel
    have HBR := hide hbr
    clear hbr
    by_cases hil : i < l.length
    · have hil' : (i : Int) < (l.length : Int) := by omega
      by_cases h8 : i = 8
      · subst h8
        have HN := hide (HR.out.symm.trans (Cl.no_len hil))
        go_wp2_with fail
        go_ret
        exact ⟨ret_bool HN.out.symm, HBR.out⟩
      have h8' : ¬ (8 : Int) ≤ (i : Int) := by omega
      obtain ⟨b, off, rfl, hrd⟩ := Is.slot_at (Is.slot_below HS.out HBR.out) hil
      have RD := hide hrd
      have e0 := hrd i hil
      clear hrd
      cases has : Is.as l[i]
      · have HN := hide (HR.out.symm.trans (Cl.no_as hil has))
        have CA := hide (fun W => refAS_is l[i] false has W)
        clear has
        generalize l[i] = y at e0 CA
        go_wp2_with fail
        refine (CA.out _).mono ?_
        rintro e w2 ⟨rfl, rfl⟩
        go_wp2_with fail
        go_ret
        exact ⟨ret_bool HN.out.symm, HBR.out⟩
      have CA := hide (fun W => refAS_is l[i] true has W)
      have HASI := hide has
      clear has
      generalize hy : l[i] = y at e0 CA
      clear hy
      go_wp2_with fail
      refine (CA.out _).mono ?_
      rintro e w2 ⟨rfl, hw⟩
      subst w2
      go_wp2_with fail
      obtain ⟨wA, hwA⟩ : ∃ x, x = wr := ⟨_, rfl⟩
      subst hwA
      clear e0 CA
      go_loopw [4] (fun v4 wq => ∃ k : Nat, v4 = .int .i64 k ∧ k ≤ i ∧ Hid (∀ k' (hk : k' < i), k' < k → l[k']'(by omega) ≠ l[i]) ∧ Below wA.heap.size wA wq) (fun v4 _ => i - (intOf v4).toNat)
      case atStart => exact ⟨0, rfl, Nat.zero_le _, hide fun k _ h => absurd h (Nat.not_lt_zero _), brefl _⟩
      case round =>
        obtain ⟨k, rfl, hk, HK, hbq⟩ := hrel
        have HBQ := hide hbq
        clear hbq
        by_cases hki : k < i
        · have hki' : (k : Int) < (i : Int) := by omega
          have hkl : k < l.length := by omega
          have hkl' : (k : Int) < (l.length : Int) := by omega
          have e0 := (Is.reads_below RD.out HBQ.out) i hil
          have e1 := (Is.reads_below RD.out HBQ.out) k hkl
          have HY := hide (Cl.no_two hil hki)
          generalize hu : l[i] = u at e0 HY
          generalize hv : l[k] = v at e1 HY
          have HUV : Hid (v ≠ u → l[k] ≠ l[i]) := by show _ → _; rw [hu, hv]; exact id
          have HU := hide hu
          clear hu hv
          have r0 := fun dd os => cell_regrown e0 dd os
          have r1 := fun dd os => cell_regrown e1 dd os
          by_cases huv : v = u
          · have HN := hide (HR.out.symm.trans (HY.out huv))
            subst huv
            clear HY HUV
            go_wp2_with fail
            refine wp_region_quiet_below (by kernel_rfl) (by kernel_rfl) ?_
            repeat (go_big_quiet_step (fail))
            refine wpQuiet_nil ?_
            rintro _ ⟨⟨dd, os⟩, rfl⟩
            have hb2 := below_regrown wr dd os
            generalize Sort.grow (redrawn wr dd) os = w2 at hb2
            have B2 := hide (bthen HBR.out (bthen HBQ.out hb2))
            clear hb2 r0 r1 e0 e1
            go_wp2_with fail
            go_ret
            exact ⟨ret_bool HN.out.symm, B2.out⟩
          · have HN := hide (HUV.out huv)
            have huv' : (v == u) = false := by simpa using huv
            clear HY HUV
            go_wp2_with fail
            refine wp_region_quiet_below (by kernel_rfl) (by kernel_rfl) ?_
            repeat (go_big_quiet_step (fail))
            refine wpQuiet_nil ?_
            rintro _ ⟨⟨dd, os⟩, rfl⟩
            have hb2 := below_regrown wr dd os
            generalize Sort.grow (redrawn wr dd) os = w2 at hb2
            have B2 := hide (bthen HBQ.out hb2)
            clear hb2 r0 r1 e0 e1
            go_wp2_with fail
            refine ⟨⟨k + 1, by go_num, by omega, hide fun k' hk' h => ?_, B2.out⟩, by simp [intOf] <;> omega⟩
            rcases Nat.lt_or_ge k' k with h1 | h1
            · rw [← HU.out]
              exact HK.out k' hk' h1
            · obtain rfl : k' = k := by omega
              rw [← HU.out]
              exact HN.out
        · obtain rfl : k = i := by omega
          go_wp2_with fail
          refine ⟨⟨k + 1, by go_num, by omega, by omega, hide fun j hj h => ?_, hide fun i' k' hi' hk' h => ?_, bthen HBR.out HBQ.out⟩, by simp [intOf] <;> omega⟩
          · rcases Nat.lt_or_ge j k with h1 | h1
            · exact HAS.out j hj h1
            · obtain rfl : j = k := by omega
              exact HASI.out
          · rcases Nat.lt_or_ge i' k with h1 | h1
            · exact HI.out i' k' hi' hk' h1
            · obtain rfl : i' = k := by omega
              exact HK.out k' hk' hk'
    · obtain rfl : i = l.length := by omega
      have HN := hide (HR.out.symm.trans ((Cl.ok_iff l).2 ⟨hi8, fun j hj => HAS.out j hj hj, fun i k hi hk => HI.out i k hi hk hi⟩))
      go_wp2_with fail
      go_ret
      exact ⟨ret_bool HN.out.symm, HBR.out⟩
/-- What of attributes is numbers may be. -/
def At.nums (a b c f : Int) : Bool := decide (0 ≤ a ∧ a ≤ 1048576 ∧ 0 ≤ b ∧ b ≤ 1048576 ∧ 0 ≤ c ∧ c ≤ 2 ∧ 0 ≤ f ∧ f ≤ 65535)
theorem At.may_eq (a : At) : At.may a = (At.nums a.pf a.md a.og a.fr && (Is.may a.path && (Cm.Co.set a.comms && Cl.ok a.cl))) := rfl
theorem nums_cases (a b c f : Int) : (At.nums a b c f = true ∧ ¬ a < 0 ∧ ¬ 1048576 < a ∧ ¬ b < 0 ∧ ¬ 1048576 < b ∧ ¬ c < 0 ∧ ¬ 2 < c ∧ ¬ f < 0 ∧ ¬ 65535 < f) ∨ (At.nums a b c f = false ∧ (a < 0 ∨ (¬ a < 0 ∧ 1048576 < a) ∨ (¬ a < 0 ∧ ¬ 1048576 < a ∧ b < 0) ∨ (¬ a < 0 ∧ ¬ 1048576 < a ∧ ¬ b < 0 ∧ 1048576 < b) ∨ (¬ a < 0 ∧ ¬ 1048576 < a ∧ ¬ b < 0 ∧ ¬ 1048576 < b ∧ c < 0) ∨ (¬ a < 0 ∧ ¬ 1048576 < a ∧ ¬ b < 0 ∧ ¬ 1048576 < b ∧ ¬ c < 0 ∧ 2 < c) ∨ (¬ a < 0 ∧ ¬ 1048576 < a ∧ ¬ b < 0 ∧ ¬ 1048576 < b ∧ ¬ c < 0 ∧ ¬ 2 < c ∧ f < 0) ∨ (¬ a < 0 ∧ ¬ 1048576 < a ∧ ¬ b < 0 ∧ ¬ 1048576 < b ∧ ¬ c < 0 ∧ ¬ 2 < c ∧ ¬ f < 0 ∧ 65535 < f))) := by
  unfold At.nums
  by_cases h : 0 ≤ a ∧ a ≤ 1048576 ∧ 0 ≤ b ∧ b ≤ 1048576 ∧ 0 ≤ c ∧ c ≤ 2 ∧ 0 ≤ f ∧ f ≤ 65535
  · exact .inl ⟨decide_eq_true h, by omega, by omega, by omega, by omega, by omega, by omega, by omega, by omega⟩
  · refine .inr ⟨decide_eq_false h, ?_⟩
    omega
end Go.Proofs.Ytkhmhmopcofejaa

/- The document's May. -/
namespace Go.Proofs.Ytkhmhmopcofejaa
open Go.RowKit

set_option maxHeartbeats 4000000 in
set_option maxRecDepth 100000 in
theorem refMayA_is (a : At) (po co ko : Option Addr) (cp cc ck : Nat) (r : Bool) (hr : At.may a = r) (w : World) (hA : At.lies w a po co ko) (h1 : a.path.length ≤ 100) (h2 : a.comms.length ≤ 100) (h3 : a.cl.length ≤ 100) :
    Calls Try.prog 23 #[.agg #[.int .i64 a.pf, .int .i64 a.md, .int .i64 a.og, .slice po a.path.length cp, .slice co a.comms.length cc, .int .i64 a.fr, .slice ko a.cl.length ck]] w fun e w' => e = .returned (.bool r) ∧ Below w.heap.size w w' := by
  obtain ⟨x0, x1, x2, pa, cm, x5, kl⟩ := a
  simp only at *
  rw [At.may_eq] at hr
  simp only at hr
  have HB := hide (balloc (brefl w) (.cells #[.int .i64 x0, .int .i64 x1, .int .i64 x2, .slice po pa.length cp, .slice co cm.length cc, .int .i64 x5, .slice ko kl.length ck] 26))
  have N0 := hide (heap_new w #[.int .i64 x0, .int .i64 x1, .int .i64 x2, .slice po pa.length cp, .slice co cm.length cc, .int .i64 x5, .slice ko kl.length ck] 26)
  have HL := hide (At.lies_below hA HB.out)
  clear hA
  rcases nums_cases x0 x1 x2 x5 with ⟨hn, k0, k1, k2, k3, k4, k5, k6, k7⟩ | ⟨hn, hc⟩
  · rw [hn, Bool.true_and] at hr
    have HR := hide hr
    clear hr hn
    have H1 := hide h1
    have H2 := hide h2
    have H3 := hide h3
    clear h1 h2 h3
    go_enter Try.func23, Try.ntmps23
    go_wp2_with fail
    generalize w.alloc (.cells #[.int .i64 x0, .int .i64 x1, .int .i64 x2, .slice po pa.length cp, .slice co cm.length cc, .int .i64 x5, .slice ko kl.length ck] 26) = W at *
    obtain ⟨p, hp⟩ : ∃ p, w.heap.size = p := ⟨_, rfl⟩
    rw [hp] at N0
    rw [hp]
    clear hp
    obtain ⟨c0, c1, c2, c3, c4, c5, c6⟩ := seven_cells N0.out
    cases hm : Is.may pa
    · have CM := hide (refMay_is po cp pa false hm W HL.out.1 (by have := H1.out; omega))
      have HN : Hid (r = false) := by show _ = _; rw [← HR.out, hm]; rfl
      clear hm
      refine CM.out.mono ?_
      rintro e w1 ⟨rfl, hw⟩
      subst w1
      go_wp2_with fail
      go_ret
      exact ⟨ret_bool HN.out.symm, HB.out⟩
    have CM := hide (refMay_is po cp pa true hm W HL.out.1 (by have := H1.out; omega))
    refine CM.out.mono ?_
    rintro e w1 ⟨rfl, hw⟩
    subst w1
    cases hc : Cm.Co.set cm
    · have CC := hide (Cm.refSet_is co cc cm false hc W HL.out.2.1 (by have := H2.out; omega))
      have HN : Hid (r = false) := by show _ = _; rw [← HR.out, hm, hc]; rfl
      clear hm hc CM
      go_wp2_with fail
      refine CC.out.mono ?_
      rintro e w2 ⟨rfl, hb2⟩
      have HB2 := hide (bthen HB.out hb2)
      clear hb2 CC
      go_wp2_with fail
      go_ret
      exact ⟨ret_bool HN.out.symm, HB2.out⟩
    have CC := hide (Cm.refSet_is co cc cm true hc W HL.out.2.1 (by have := H2.out; omega))
    have HN : Hid (Cl.ok kl = r) := by show _ = _; rw [← HR.out, hm, hc]; rfl
    clear hm hc CM
    go_wp2_with fail
    refine CC.out.mono ?_
    rintro e w2 ⟨rfl, hb2⟩
    have HB2 := hide (bthen HB.out hb2)
    have CK := hide (refClusters_is ko ck kl r HN.out w2 (Is.slot_below HL.out.2.2 hb2) (by have := H3.out; omega))
    have N2 := hide ((hb2.block p (heap_lt N0.out)).trans N0.out)
    clear hb2 CC c0 c1 c2 c3 c4 c5 c6
    obtain ⟨c0, c1, c2, c3, c4, c5, c6⟩ := seven_cells N2.out
    go_wp2_with fail
    refine CK.out.mono ?_
    rintro e w3 ⟨rfl, hb3⟩
    have HB3 := hide (bthen HB2.out hb3)
    clear hb3 CK
    go_wp2_with fail
    go_ret
    exact ⟨rfl, HB3.out⟩
  · rw [hn, Bool.false_and] at hr
    subst hr
    clear hn
    rcases hc with k0 | ⟨k0, k1⟩ | ⟨k0, k1, k2⟩ | ⟨k0, k1, k2, k3⟩ | ⟨k0, k1, k2, k3, k4⟩ | ⟨k0, k1, k2, k3, k4, k5⟩ | ⟨k0, k1, k2, k3, k4, k5, k6⟩ | ⟨k0, k1, k2, k3, k4, k5, k6, k7⟩
    all_goals
      go_enter Try.func23, Try.ntmps23
      go_wp2_with fail
      go_ret
      exact ⟨rfl, HB.out⟩
end Go.Proofs.Ytkhmhmopcofejaa

