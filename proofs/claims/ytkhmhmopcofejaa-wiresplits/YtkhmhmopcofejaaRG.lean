import Derived.Test.YtkhmhmopcofejaaRF
import Derived.Test.YtkhmhmopcofejaaE4
/- The contracts of the document's May, Same and Encode of updates; few, mine and theirs. -/
namespace Go.Proofs.Ytkhmhmopcofejaa
open Go.RowKit Go.Sort

theorem nine_cells {w : World} {b y : Nat} {x0 x1 x2 x3 x4 x5 x6 x7 x8 : Value} (h : w.heap[b]? = some (.cells #[x0, x1, x2, x3, x4, x5, x6, x7, x8] y (0, 0))) :
    w.cell? ⟨b, 0, none⟩ = some x0 ∧ w.cell? ⟨b, 1, none⟩ = some x1 ∧ w.cell? ⟨b, 2, none⟩ = some x2 ∧ w.cell? ⟨b, 3, none⟩ = some x3 ∧ w.cell? ⟨b, 4, none⟩ = some x4 ∧ w.cell? ⟨b, 5, none⟩ = some x5 ∧ w.cell? ⟨b, 6, none⟩ = some x6 ∧ w.cell? ⟨b, 7, none⟩ = some x7 ∧ w.cell? ⟨b, 8, none⟩ = some x8 := by
  refine ⟨?_, ?_, ?_, ?_, ?_, ?_, ?_, ?_, ?_⟩ <;> (unfold World.cell?; rw [h]; rfl)
/-- Where the lists of an update lie. -/
def Up.lies (w : World) (u : Up) (wo tq po co ko : Option Addr) : Prop := Ax.Ad.rowAt w wo u.wd ∧ Ax.Ad.rowAt w tq u.td ∧ At.lies w u.at_ po co ko
theorem Up.lies_below {w w' : World} {u : Up} {wo tq po co ko : Option Addr} (h : Up.lies w u wo tq po co ko) (hb : Below w.heap.size w w') : Up.lies w' u wo tq po co ko :=
  ⟨Ax.Ad.rowAt_below h.1 hb, Ax.Ad.rowAt_below h.2.1 hb, At.lies_below h.2.2 hb⟩
/-- So few parts that an update is gone through. -/
def Up.few (u : Up) : Bool := decide (u.wd.length ≤ 100) && (decide (u.td.length ≤ 100) && few3 u.at_.path.length u.at_.comms.length u.at_.cl.length)
structure Up.Few (u : Up) : Prop where
  wd : u.wd.length ≤ 100
  td : u.td.length ≤ 100
  path : u.at_.path.length ≤ 100
  comms : u.at_.comms.length ≤ 100
  cl : u.at_.cl.length ≤ 100
theorem Up.few_iff (u : Up) : u.few = true ↔ u.Few := by
  unfold Up.few
  rw [Bool.and_eq_true, Bool.and_eq_true, decide_eq_true_eq, decide_eq_true_eq, few3_iff]
  exact ⟨fun ⟨a, b, c, d, e⟩ => ⟨a, b, c, d, e⟩, fun ⟨a, b, c, d, e⟩ => ⟨a, b, c, d, e⟩⟩
/-- Addresses of 32 bits. -/
def Up.fits (u : Up) : Prop := Ax.Ad.fits u.wd ∧ Ax.Ad.fits u.td
theorem le_100 (n : Nat) : decide ((n : Int) ≤ 100) = decide (n ≤ 100) := by
  congr 1
  simp only [eq_iff_iff]
  omega
set_option maxRecDepth 100000 in
theorem fewU_is (u : Up) (wo tq po co ko : Option Addr) (cw ct cp cc ck : Nat) (r : Bool) (hr : u.few = r) (w : World) :
    Calls Try.prog 8 #[.agg #[.slice wo u.wd.length cw, .slice tq u.td.length ct, .int .i64 u.at_.pf, .int .i64 u.at_.md, .int .i64 u.at_.og, .slice po u.at_.path.length cp, .slice co u.at_.comms.length cc, .int .i64 u.at_.fr, .slice ko u.at_.cl.length ck]] w fun e w' => e = .returned (.bool r) ∧ Below w.heap.size w w' := by
  have HB := hide (balloc (brefl w) (.cells #[.slice wo u.wd.length cw, .slice tq u.td.length ct, .int .i64 u.at_.pf, .int .i64 u.at_.md, .int .i64 u.at_.og, .slice po u.at_.path.length cp, .slice co u.at_.comms.length cc, .int .i64 u.at_.fr, .slice ko u.at_.cl.length ck] 28))
  have N0 := hide (heap_new w #[.slice wo u.wd.length cw, .slice tq u.td.length ct, .int .i64 u.at_.pf, .int .i64 u.at_.md, .int .i64 u.at_.og, .slice po u.at_.path.length cp, .slice co u.at_.comms.length cc, .int .i64 u.at_.fr, .slice ko u.at_.cl.length ck] 28)
  have e1 := le_100 u.wd.length
  have e2 := le_100 u.td.length
  have HR : Hid (r = (decide (u.wd.length ≤ 100) && (decide (u.td.length ≤ 100) && few3 u.at_.path.length u.at_.comms.length u.at_.cl.length))) := hr.symm
  obtain ⟨z, hz⟩ : ∃ z, few3 u.at_.path.length u.at_.comms.length u.at_.cl.length = z := ⟨_, rfl⟩
  have CF := hide (fun W => few_is u.at_.pf u.at_.md u.at_.og u.at_.fr po co ko _ _ _ cp cc ck z hz W)
  rw [hz] at HR
  generalize decide (u.wd.length ≤ 100) = x at *
  generalize decide (u.td.length ≤ 100) = y at *
  clear hr hz
  cases x
  · go_enter Try.func8, Try.ntmps8
    go_wp2_with fail
    go_ret
    exact ⟨ret_bool (by rw [HR.out]; rfl), HB.out⟩
  · cases y
    · go_enter Try.func8, Try.ntmps8
      go_wp2_with fail
      go_ret
      exact ⟨ret_bool (by rw [HR.out]; rfl), HB.out⟩
    · go_enter Try.func8, Try.ntmps8
      go_wp2_with fail
      refine (CF.out _).mono ?_
      rintro e w1 ⟨rfl, hb1⟩
      have B1 := hide (bthen HB.out hb1)
      clear hb1
      go_wp2_with fail
      go_ret
      exact ⟨ret_bool (by rw [HR.out]; rfl), B1.out⟩
theorem len_ne {n : Nat} (h : ¬ n = 0) : ((n : Int) == 0) = false := by
  rw [beq_eq_false_iff_ne]
  omega
set_option maxHeartbeats 4000000 in
set_option maxRecDepth 100000 in
theorem refMayU_is (u : Up) (wo tq po co ko : Option Addr) (cw ct cp cc ck : Nat) (r : Bool) (hr : r = true ↔ u.may) (hf : u.fits) (hw : u.Few) (w : World) (hU : Up.lies w u wo tq po co ko) :
    Calls Try.prog 10 #[.agg #[.slice wo u.wd.length cw, .slice tq u.td.length ct, .int .i64 u.at_.pf, .int .i64 u.at_.md, .int .i64 u.at_.og, .slice po u.at_.path.length cp, .slice co u.at_.comms.length cc, .int .i64 u.at_.fr, .slice ko u.at_.cl.length ck]] w fun e w' => e = .returned (.bool r) ∧ Below w.heap.size w w' := by
  have HB := hide (balloc (brefl w) (.cells #[.slice wo u.wd.length cw, .slice tq u.td.length ct, .int .i64 u.at_.pf, .int .i64 u.at_.md, .int .i64 u.at_.og, .slice po u.at_.path.length cp, .slice co u.at_.comms.length cc, .int .i64 u.at_.fr, .slice ko u.at_.cl.length ck] 28))
  have N0 := hide (heap_new w #[.slice wo u.wd.length cw, .slice tq u.td.length ct, .int .i64 u.at_.pf, .int .i64 u.at_.md, .int .i64 u.at_.og, .slice po u.at_.path.length cp, .slice co u.at_.comms.length cc, .int .i64 u.at_.fr, .slice ko u.at_.cl.length ck] 28)
  have HL := hide (Up.lies_below hU HB.out)
  have HW := hide hw
  obtain ⟨r1, hr1⟩ : ∃ r1 : Bool, r1 = true ↔ Ups u.wd := ⟨@decide (Ups u.wd) (Classical.propDecidable _), by simp⟩
  obtain ⟨r2, hr2⟩ : ∃ r2 : Bool, r2 = true ↔ Ups u.td := ⟨@decide (Ups u.td) (Classical.propDecidable _), by simp⟩
  have C1 := hide (fun W' (hb : Below (w.alloc (.cells #[.slice wo u.wd.length cw, .slice tq u.td.length ct, .int .i64 u.at_.pf, .int .i64 u.at_.md, .int .i64 u.at_.og, .slice po u.at_.path.length cp, .slice co u.at_.comms.length cc, .int .i64 u.at_.fr, .slice ko u.at_.cl.length ck] 28)).heap.size (w.alloc (.cells #[.slice wo u.wd.length cw, .slice tq u.td.length ct, .int .i64 u.at_.pf, .int .i64 u.at_.md, .int .i64 u.at_.og, .slice po u.at_.path.length cp, .slice co u.at_.comms.length cc, .int .i64 u.at_.fr, .slice ko u.at_.cl.length ck] 28)) W') => refRises_is wo cw u.wd r1 hr1 hf.1 (by have := hw.wd; omega) W' (Ax.Ad.rowAt_below HL.out.1 hb))
  have C2 := hide (fun W' (hb : Below (w.alloc (.cells #[.slice wo u.wd.length cw, .slice tq u.td.length ct, .int .i64 u.at_.pf, .int .i64 u.at_.md, .int .i64 u.at_.og, .slice po u.at_.path.length cp, .slice co u.at_.comms.length cc, .int .i64 u.at_.fr, .slice ko u.at_.cl.length ck] 28)).heap.size (w.alloc (.cells #[.slice wo u.wd.length cw, .slice tq u.td.length ct, .int .i64 u.at_.pf, .int .i64 u.at_.md, .int .i64 u.at_.og, .slice po u.at_.path.length cp, .slice co u.at_.comms.length cc, .int .i64 u.at_.fr, .slice ko u.at_.cl.length ck] 28)) W') => refRises_is tq ct u.td r2 hr2 hf.2 (by have := hw.td; omega) W' (Ax.Ad.rowAt_below HL.out.2.1 hb))
  have HR := hide hr
  have H1 := hide hr1
  have H2 := hide hr2
  have HNO : Hid (¬ u.may → r = false) := fun h => by
    cases r
    · rfl
    · exact absurd (HR.out.1 rfl) h
  clear hr hf hw hU hr1 hr2
  go_enter Try.func10, Try.ntmps10
  go_wp2_with fail
  generalize w.alloc (.cells #[.slice wo u.wd.length cw, .slice tq u.td.length ct, .int .i64 u.at_.pf, .int .i64 u.at_.md, .int .i64 u.at_.og, .slice po u.at_.path.length cp, .slice co u.at_.comms.length cc, .int .i64 u.at_.fr, .slice ko u.at_.cl.length ck] 28) = W at *
  obtain ⟨p, hp⟩ : ∃ p, w.heap.size = p := ⟨_, rfl⟩
  rw [hp] at N0
  rw [hp]
  clear hp
  have PL := hide (heap_lt N0.out)
  have B0 := hide (brefl W)
  refine (C1.out _ B0.out).mono ?_
  rintro e w1 ⟨rfl, hb1⟩
  have B1 := hide hb1
  clear hb1 C1
  cases r1
  · have HN := hide (HNO.out (fun h => by have := H1.out.2 h.1; cases this))
    go_wp2_with fail
    go_ret
    exact ⟨ret_bool HN.out.symm, bthen HB.out B1.out⟩
  have HU1 := hide (H1.out.1 rfl)
  clear H1
  obtain ⟨c0, c1, c2, c3, c4, c5, c6, c7, c8⟩ := nine_cells ((B1.out.block p PL.out).trans N0.out)
  go_wp2_with fail
  refine (C2.out _ B1.out).mono ?_
  rintro e w2 ⟨rfl, hb2⟩
  have B2 := hide (bthen B1.out hb2)
  clear hb2 C2 c0 c1 c2 c3 c4 c5 c6 c7 c8
  obtain ⟨c0, c1, c2, c3, c4, c5, c6, c7, c8⟩ := nine_cells ((B2.out.block p PL.out).trans N0.out)
  cases r2
  · have HN := hide (HNO.out (fun h => by have := H2.out.2 h.2.1; cases this))
    go_wp2_with fail
    go_ret
    exact ⟨ret_bool HN.out.symm, bthen HB.out B2.out⟩
  have HU2 := hide (H2.out.1 rfl)
  by_cases ht : u.td.length = 0
  · have hte : u.td = [] := List.length_eq_zero_iff.1 ht
    have ht1 : ((u.td.length : Int) == 0) = true := by rw [ht]; rfl
    have ht2 : ¬ (0 : Int) < (u.td.length : Int) := by omega
    by_cases hz : u.wd.length = 0
    · have hz1 : ((u.wd.length : Int) == 0) = true := by rw [hz]; rfl
      have HN := hide (HNO.out (fun h => h.2.2.1.elim (fun k => k (List.length_eq_zero_iff.1 hz)) (fun k => k hte)))
      clear hz ht hte
      go_wp2_with fail
      go_ret
      exact ⟨ret_bool HN.out.symm, bthen HB.out B2.out⟩
    · have hz1 : ((u.wd.length : Int) == 0) = false := len_ne hz
      obtain ⟨z, hz0⟩ : ∃ z, decide (At.cmp u.at_ ⟨0, 0, 0, [], [], 0, []⟩ = 0) = z := ⟨_, rfl⟩
      have hrz : z = r := by
        rw [← hz0]
        have hm : u.may ↔ u.at_ = ⟨0, 0, 0, [], [], 0, []⟩ := by
          unfold Up.may
          rw [if_pos hte]
          exact ⟨fun h => h.2.2.2, fun h => ⟨HU1.out, HU2.out, .inl (fun e => hz (by rw [e]; rfl)), h⟩⟩
        rw [Bool.eq_iff_iff, decide_eq_true_eq, HR.out, hm]
        exact At.cmp_zero _ _
      subst hrz
      have CS := hide (refSameA_is u.at_ ⟨0, 0, 0, [], [], 0, []⟩ po co ko none none none cp cc ck 0 0 0 z hz0 w2 (At.lies_below HL.out.2.2 B2.out) ⟨.inl rfl, .inl rfl, .inl rfl⟩ HW.out.path HW.out.comms HW.out.cl (by decide))
      simp only [List.length_nil] at CS
      clear hz0 hz ht hte
      go_wp2_with fail
      refine CS.out.mono ?_
      rintro e w3 ⟨rfl, hb3⟩
      have B3 := hide (bthen B2.out hb3)
      clear hb3 CS
      go_wp2_with fail
      go_ret
      exact ⟨rfl, bthen HB.out B3.out⟩
  · have hte : u.td ≠ [] := fun h => ht (by rw [h]; rfl)
    have ht1 : ((u.td.length : Int) == 0) = false := len_ne ht
    have ht2 : (0 : Int) < (u.td.length : Int) := by omega
    obtain ⟨z, hz0⟩ : ∃ z, At.may u.at_ = z := ⟨_, rfl⟩
    have hrz : z = r := by
      have hm : u.may ↔ At.may u.at_ = true := by
        unfold Up.may
        rw [if_neg hte]
        exact ⟨fun h => h.2.2.2, fun h => ⟨HU1.out, HU2.out, .inr hte, h⟩⟩
      rw [← hz0, Bool.eq_iff_iff, HR.out, hm]
    subst hrz
    have CM := hide (refMayA_is u.at_ po co ko cp cc ck z hz0 w2 (At.lies_below HL.out.2.2 B2.out) HW.out.path HW.out.comms HW.out.cl)
    clear hz0 ht hte
    cases hzz : ((u.wd.length : Int) == 0)
    all_goals
      go_wp2_with fail
      refine CM.out.mono ?_
      rintro e w3 ⟨rfl, hb3⟩
      have B3 := hide (bthen B2.out hb3)
      clear hb3 CM
      go_wp2_with fail
      go_ret
      exact ⟨rfl, bthen HB.out B3.out⟩
end Go.Proofs.Ytkhmhmopcofejaa

/- mine and theirs; the document's Same and Encode of updates. -/
namespace Go.Proofs.Ytkhmhmopcofejaa
open Go.RowKit Go.Sort

set_option maxHeartbeats 1000000 in
set_option maxRecDepth 100000 in
theorem mine_is (u : Up) (wo tq po co ko : Option Addr) (cw ct cp cc ck : Nat) (w : World) :
    Calls Try.prog 12 #[.agg #[.slice wo u.wd.length cw, .slice tq u.td.length ct, .int .i64 u.at_.pf, .int .i64 u.at_.md, .int .i64 u.at_.og, .slice po u.at_.path.length cp, .slice co u.at_.comms.length cc, .int .i64 u.at_.fr, .slice ko u.at_.cl.length ck]] w fun e w' => e = .returned (.agg #[.slice wo u.wd.length cw, .slice tq u.td.length ct, .int .i64 u.at_.pf, .int .i64 u.at_.md, .int .i64 u.at_.og, .slice po u.at_.path.length cp, .slice co u.at_.comms.length cc, .int .i64 u.at_.fr, .slice ko u.at_.cl.length ck]) ∧ Below w.heap.size w w' := by
  have HB := hide (balloc (balloc (brefl w) (.cells #[.slice wo u.wd.length cw, .slice tq u.td.length ct, .int .i64 u.at_.pf, .int .i64 u.at_.md, .int .i64 u.at_.og, .slice po u.at_.path.length cp, .slice co u.at_.comms.length cc, .int .i64 u.at_.fr, .slice ko u.at_.cl.length ck] 28)) (.cells #[.slice wo u.wd.length cw, .slice tq u.td.length ct, .int .i64 u.at_.pf, .int .i64 u.at_.md, .int .i64 u.at_.og, .slice po u.at_.path.length cp, .slice co u.at_.comms.length cc, .int .i64 u.at_.fr, .slice ko u.at_.cl.length ck] 35))
  go_enter Try.func12, Try.ntmps12
  go_wp2_with fail
  refine bodyPost_ret (v := .agg #[.slice wo u.wd.length cw, .slice tq u.td.length ct, .int .i64 u.at_.pf, .int .i64 u.at_.md, .int .i64 u.at_.og, .slice po u.at_.path.length cp, .slice co u.at_.comms.length cc, .int .i64 u.at_.fr, .slice ko u.at_.cl.length ck]) ?_ rfl ⟨rfl, HB.out⟩
  simp [results, Try.results12, go_sem]
set_option maxHeartbeats 1000000 in
set_option maxRecDepth 100000 in
theorem theirs_is (u : Up) (wo tq po co ko : Option Addr) (cw ct cp cc ck : Nat) (w : World) :
    Calls Try.prog 17 #[.agg #[.slice wo u.wd.length cw, .slice tq u.td.length ct, .int .i64 u.at_.pf, .int .i64 u.at_.md, .int .i64 u.at_.og, .slice po u.at_.path.length cp, .slice co u.at_.comms.length cc, .int .i64 u.at_.fr, .slice ko u.at_.cl.length ck]] w fun e w' => e = .returned (.agg #[.slice wo u.wd.length cw, .slice tq u.td.length ct, .int .i64 u.at_.pf, .int .i64 u.at_.md, .int .i64 u.at_.og, .slice po u.at_.path.length cp, .slice co u.at_.comms.length cc, .int .i64 u.at_.fr, .slice ko u.at_.cl.length ck]) ∧ Below w.heap.size w w' := by
  have HB := hide (balloc (balloc (brefl w) (.cells #[.slice wo u.wd.length cw, .slice tq u.td.length ct, .int .i64 u.at_.pf, .int .i64 u.at_.md, .int .i64 u.at_.og, .slice po u.at_.path.length cp, .slice co u.at_.comms.length cc, .int .i64 u.at_.fr, .slice ko u.at_.cl.length ck] 35)) (.cells #[.slice wo u.wd.length cw, .slice tq u.td.length ct, .int .i64 u.at_.pf, .int .i64 u.at_.md, .int .i64 u.at_.og, .slice po u.at_.path.length cp, .slice co u.at_.comms.length cc, .int .i64 u.at_.fr, .slice ko u.at_.cl.length ck] 28))
  go_enter Try.func17, Try.ntmps17
  go_wp2_with fail
  refine bodyPost_ret (v := .agg #[.slice wo u.wd.length cw, .slice tq u.td.length ct, .int .i64 u.at_.pf, .int .i64 u.at_.md, .int .i64 u.at_.og, .slice po u.at_.path.length cp, .slice co u.at_.comms.length cc, .int .i64 u.at_.fr, .slice ko u.at_.cl.length ck]) ?_ rfl ⟨rfl, HB.out⟩
  simp [results, Try.results17, go_sem]
theorem boxesU (w : World) (x y : Array Value) (t u : TypeId) : ((w.alloc (.cells x t)).alloc (.cells y u)).heap[w.heap.size]? = some (.cells x t (0, 0)) ∧ ((w.alloc (.cells x t)).alloc (.cells y u)).heap[w.heap.size + 1]? = some (.cells y u (0, 0)) ∧ Below w.heap.size w ((w.alloc (.cells x t)).alloc (.cells y u)) := by
  have h1 := heap_new w x t
  have h2 := heap_new (w.alloc (.cells x t)) y u
  have hb := balloc (brefl (w.alloc (.cells x t))) (.cells y u)
  rw [show (w.alloc (.cells x t)).heap.size = w.heap.size + 1 by simp] at h2
  exact ⟨(hb.block _ (heap_lt h1)).trans h1, h2, bthen (balloc (brefl w) _) hb⟩
theorem same_pf (a1 a2 : Option Addr) (c1 c2 : Nat) (l1 l2 : List (Int × Int)) (r : Bool) (hr : decide (l1 = l2) = r) (w : World) (hm : l1.length ≤ 1000000) (h1 : Ax.Ad.rowAt w a1 l1) (h2 : Ax.Ad.rowAt w a2 l2) :
    Calls Try.prog 39 #[.slice a1 l1.length c1, .slice a2 l2.length c2] w fun e w' => e = .returned (.bool r) ∧ Below w.heap.size w w' := by
  by_cases hl : l2.length = l1.length
  · rw [hl, ← hr]
    exact Ax.same_any a1 a2 c1 c2 l1 l2 w hl hm h1 h2
  · have hne : r = false := by
      rw [← hr]
      exact decide_eq_false fun e => hl (by rw [e])
    rw [hne]
    exact Ax.same_len a1 a2 l1.length l2.length c1 c2 w (fun e => hl e.symm)
set_option maxHeartbeats 4000000 in
set_option maxRecDepth 100000 in
theorem refSameU_is (u : Up) (wo tq po co ko : Option Addr) (cw ct cp cc ck : Nat) (v : Up) (wo' tq' po' co' ko' : Option Addr) (cw' ct' cp' cc' ck' : Nat) (r : Bool) (hr : r = true ↔ u = v) (hu : u.Few) (hv : v.Few) (w : World) (hU : Up.lies w u wo tq po co ko) (hV : Up.lies w v wo' tq' po' co' ko') :
    Calls Try.prog 16 #[.agg #[.slice wo u.wd.length cw, .slice tq u.td.length ct, .int .i64 u.at_.pf, .int .i64 u.at_.md, .int .i64 u.at_.og, .slice po u.at_.path.length cp, .slice co u.at_.comms.length cc, .int .i64 u.at_.fr, .slice ko u.at_.cl.length ck], .agg #[.slice wo' v.wd.length cw', .slice tq' v.td.length ct', .int .i64 v.at_.pf, .int .i64 v.at_.md, .int .i64 v.at_.og, .slice po' v.at_.path.length cp', .slice co' v.at_.comms.length cc', .int .i64 v.at_.fr, .slice ko' v.at_.cl.length ck']] w fun e w' => e = .returned (.bool r) ∧ Below w.heap.size w w' := by
  obtain ⟨n1, n2, hbb⟩ := boxesU w #[.slice wo u.wd.length cw, .slice tq u.td.length ct, .int .i64 u.at_.pf, .int .i64 u.at_.md, .int .i64 u.at_.og, .slice po u.at_.path.length cp, .slice co u.at_.comms.length cc, .int .i64 u.at_.fr, .slice ko u.at_.cl.length ck] #[.slice wo' v.wd.length cw', .slice tq' v.td.length ct', .int .i64 v.at_.pf, .int .i64 v.at_.md, .int .i64 v.at_.og, .slice po' v.at_.path.length cp', .slice co' v.at_.comms.length cc', .int .i64 v.at_.fr, .slice ko' v.at_.cl.length ck'] 28 28
  have N1 := hide n1
  have N2 := hide n2
  have HB := hide hbb
  have LU := hide (Up.lies_below hU hbb)
  have LV := hide (Up.lies_below hV hbb)
  have HU := hide hu
  have HV := hide hv
  have HR := hide hr
  obtain ⟨r1, hr1⟩ : ∃ r1, decide (u.wd = v.wd) = r1 := ⟨_, rfl⟩
  obtain ⟨r2, hr2⟩ : ∃ r1, decide (u.td = v.td) = r1 := ⟨_, rfl⟩
  obtain ⟨r3, hr3⟩ : ∃ r1, decide (At.cmp u.at_ v.at_ = 0) = r1 := ⟨_, rfl⟩
  have HQ : Hid (r = (r1 && (r2 && r3))) := by
    show _ = _
    rw [← hr1, ← hr2, ← hr3, Bool.eq_iff_iff, hr]
    simp only [Bool.and_eq_true, decide_eq_true_eq, At.cmp_zero]
    obtain ⟨a1, a2, a3⟩ := u
    obtain ⟨b1, b2, b3⟩ := v
    simp only [Up.mk.injEq]
  clear n1 n2 hbb hU hV hu hv hr
  go_enter Try.func16, Try.ntmps16
  go_wp2_with fail
  generalize (w.alloc (.cells #[.slice wo u.wd.length cw, .slice tq u.td.length ct, .int .i64 u.at_.pf, .int .i64 u.at_.md, .int .i64 u.at_.og, .slice po u.at_.path.length cp, .slice co u.at_.comms.length cc, .int .i64 u.at_.fr, .slice ko u.at_.cl.length ck] 28)).alloc (.cells #[.slice wo' v.wd.length cw', .slice tq' v.td.length ct', .int .i64 v.at_.pf, .int .i64 v.at_.md, .int .i64 v.at_.og, .slice po' v.at_.path.length cp', .slice co' v.at_.comms.length cc', .int .i64 v.at_.fr, .slice ko' v.at_.cl.length ck'] 28) = W at *
  obtain ⟨p, hp⟩ : ∃ p, w.heap.size = p := ⟨_, rfl⟩
  rw [hp] at N1 N2
  rw [hp]
  clear hp
  generalize p + 1 = q at *
  have PL := hide (heap_lt N1.out)
  have QL := hide (heap_lt N2.out)
  have C1 := hide (fun W' (hb : Below W.heap.size W W') => same_pf wo wo' cw cw' u.wd v.wd r1 hr1 W' (by have := HU.out.wd; omega) (Ax.Ad.rowAt_below LU.out.1 hb) (Ax.Ad.rowAt_below LV.out.1 hb))
  have C2 := hide (fun W' (hb : Below W.heap.size W W') => same_pf tq tq' ct ct' u.td v.td r2 hr2 W' (by have := HU.out.td; omega) (Ax.Ad.rowAt_below LU.out.2.1 hb) (Ax.Ad.rowAt_below LV.out.2.1 hb))
  have C3 := hide (fun W' (hb : Below W.heap.size W W') => refSameA_is u.at_ v.at_ po co ko po' co' ko' cp cc ck cp' cc' ck' r3 hr3 W' (At.lies_below LU.out.2.2 hb) (At.lies_below LV.out.2.2 hb) HU.out.path HU.out.comms HU.out.cl HV.out.comms)
  clear hr1 hr2 hr3 HR LU LV
  refine (C1.out _ (brefl W)).mono ?_
  rintro e w1 ⟨rfl, hb1⟩
  have B1 := hide hb1
  clear hb1 C1
  cases r1
  · go_wp2_with fail
    go_ret
    exact ⟨ret_bool HQ.out.symm, bthen HB.out B1.out⟩
  obtain ⟨c0, c1, c2, c3, c4, c5, c6, c7, c8⟩ := nine_cells ((B1.out.block p PL.out).trans N1.out)
  obtain ⟨d0, d1, d2, d3, d4, d5, d6, d7, d8⟩ := nine_cells ((B1.out.block q QL.out).trans N2.out)
  go_wp2_with fail
  refine (C2.out _ B1.out).mono ?_
  rintro e w2 ⟨rfl, hb2⟩
  have B2 := hide (bthen B1.out hb2)
  clear hb2 C2 c0 c1 c2 c3 c4 c5 c6 c7 c8 d0 d1 d2 d3 d4 d5 d6 d7 d8
  cases r2
  · go_wp2_with fail
    go_ret
    exact ⟨ret_bool HQ.out.symm, bthen HB.out B2.out⟩
  obtain ⟨c0, c1, c2, c3, c4, c5, c6, c7, c8⟩ := nine_cells ((B2.out.block p PL.out).trans N1.out)
  obtain ⟨d0, d1, d2, d3, d4, d5, d6, d7, d8⟩ := nine_cells ((B2.out.block q QL.out).trans N2.out)
  go_wp2_with fail
  refine (C3.out _ B2.out).mono ?_
  rintro e w3 ⟨rfl, hb3⟩
  have B3 := hide (bthen B2.out hb3)
  clear hb3 C3 c0 c1 c2 c3 c4 c5 c6 c7 c8 d0 d1 d2 d3 d4 d5 d6 d7 d8
  go_wp2_with fail
  go_ret
  exact ⟨ret_bool HQ.out.symm, bthen HB.out B3.out⟩
set_option maxHeartbeats 4000000 in
set_option maxRecDepth 100000 in
theorem refEncU_is (u : Up) (wo tq po co ko : Option Addr) (cw ct cp cc ck : Nat) (t : ByteArray) (ht : t = ⟨u.enc.toArray⟩) (hm : u.may) (w : World) (hU : Up.lies w u wo tq po co ko) :
    Calls Try.prog 15 #[.agg #[.slice wo u.wd.length cw, .slice tq u.td.length ct, .int .i64 u.at_.pf, .int .i64 u.at_.md, .int .i64 u.at_.og, .slice po u.at_.path.length cp, .slice co u.at_.comms.length cc, .int .i64 u.at_.fr, .slice ko u.at_.cl.length ck]] w fun e w' => e = .returned (.string t) ∧ Below w.heap.size w w' := by
  have HB := hide (balloc (brefl w) (.cells #[.slice wo u.wd.length cw, .slice tq u.td.length ct, .int .i64 u.at_.pf, .int .i64 u.at_.md, .int .i64 u.at_.og, .slice po u.at_.path.length cp, .slice co u.at_.comms.length cc, .int .i64 u.at_.fr, .slice ko u.at_.cl.length ck] 28))
  have N0 := hide (heap_new w #[.slice wo u.wd.length cw, .slice tq u.td.length ct, .int .i64 u.at_.pf, .int .i64 u.at_.md, .int .i64 u.at_.og, .slice po u.at_.path.length cp, .slice co u.at_.comms.length cc, .int .i64 u.at_.fr, .slice ko u.at_.cl.length ck] 28)
  have HL := hide (Up.lies_below hU HB.out)
  have HM := hide hm
  have lw := pfxs_length hm.1
  have lt := pfxs_length hm.2.1
  have la := Up.ab_length hm
  obtain ⟨tw, htw⟩ : ∃ x : ByteArray, x = ⟨(pfxs u.wd).toArray⟩ := ⟨_, rfl⟩
  obtain ⟨ta, hta⟩ : ∃ x : ByteArray, x = ⟨u.ab.toArray⟩ := ⟨_, rfl⟩
  obtain ⟨tt, htt⟩ : ∃ x : ByteArray, x = ⟨(pfxs u.td).toArray⟩ := ⟨_, rfl⟩
  obtain ⟨nw, hnw⟩ : ∃ x : ByteArray, x = ⟨(num (pfxs u.wd).length 2).toArray⟩ := ⟨_, rfl⟩
  obtain ⟨na, hna⟩ : ∃ x : ByteArray, x = ⟨(num u.ab.length 2).toArray⟩ := ⟨_, rfl⟩
  obtain ⟨s1, hs1⟩ : ∃ x : ByteArray, x = ⟨(num (pfxs u.wd).length 2 ++ pfxs u.wd).toArray⟩ := ⟨_, rfl⟩
  obtain ⟨s2, hs2⟩ : ∃ x : ByteArray, x = ⟨(num (pfxs u.wd).length 2 ++ pfxs u.wd ++ num u.ab.length 2).toArray⟩ := ⟨_, rfl⟩
  obtain ⟨s3, hs3⟩ : ∃ x : ByteArray, x = ⟨(num (pfxs u.wd).length 2 ++ pfxs u.wd ++ num u.ab.length 2 ++ u.ab).toArray⟩ := ⟨_, rfl⟩
  obtain ⟨s4, hs4⟩ : ∃ x : ByteArray, x = ⟨(num (pfxs u.wd).length 2 ++ pfxs u.wd ++ num u.ab.length 2 ++ u.ab ++ pfxs u.td).toArray⟩ := ⟨_, rfl⟩
  have A1 : Adds nw tw s1 := by rw [hnw, htw, hs1]; exact adds_list _ _ (by rw [num_length]; decide) (by omega)
  have A2 : Adds s1 na s2 := by rw [hs1, hna, hs2]; exact adds_list _ _ (by simp only [List.length_append, num_length]; omega) (by rw [num_length]; decide)
  have A3 : Adds s2 ta s3 := by rw [hs2, hta, hs3]; exact adds_list _ _ (by simp only [List.length_append, num_length]; omega) (by omega)
  have A4 : Adds s3 tt s4 := by rw [hs3, htt, hs4]; exact adds_list _ _ (by simp only [List.length_append, num_length]; omega) (by omega)
  have hbody : num (pfxs u.wd).length 2 ++ pfxs u.wd ++ num u.ab.length 2 ++ u.ab ++ pfxs u.td = u.body := by simp [Up.body]
  have lb := Up.body_length hm
  have CW := hide (fun W' (hb : Below (w.alloc (.cells #[.slice wo u.wd.length cw, .slice tq u.td.length ct, .int .i64 u.at_.pf, .int .i64 u.at_.md, .int .i64 u.at_.og, .slice po u.at_.path.length cp, .slice co u.at_.comms.length cc, .int .i64 u.at_.fr, .slice ko u.at_.cl.length ck] 28)).heap.size (w.alloc (.cells #[.slice wo u.wd.length cw, .slice tq u.td.length ct, .int .i64 u.at_.pf, .int .i64 u.at_.md, .int .i64 u.at_.og, .slice po u.at_.path.length cp, .slice co u.at_.comms.length cc, .int .i64 u.at_.fr, .slice ko u.at_.cl.length ck] 28)) W') => refPfxs_is wo cw u.wd tw htw hm.1.2.1 (by have := hm.1.1; omega) W' (Ax.Ad.rowAt_below HL.out.1 hb))
  have CT := hide (fun W' (hb : Below (w.alloc (.cells #[.slice wo u.wd.length cw, .slice tq u.td.length ct, .int .i64 u.at_.pf, .int .i64 u.at_.md, .int .i64 u.at_.og, .slice po u.at_.path.length cp, .slice co u.at_.comms.length cc, .int .i64 u.at_.fr, .slice ko u.at_.cl.length ck] 28)).heap.size (w.alloc (.cells #[.slice wo u.wd.length cw, .slice tq u.td.length ct, .int .i64 u.at_.pf, .int .i64 u.at_.md, .int .i64 u.at_.og, .slice po u.at_.path.length cp, .slice co u.at_.comms.length cc, .int .i64 u.at_.fr, .slice ko u.at_.cl.length ck] 28)) W') => refPfxs_is tq ct u.td tt htt hm.2.1.2.1 (by have := hm.2.1.1; omega) W' (Ax.Ad.rowAt_below HL.out.2.1 hb))
  have zw := size_list htw
  have za := size_list hta
  have CNW : Hid (∀ W : World, Calls Try.prog 38 #[.int .i64 (tw.size : Int), .int .i64 2] W fun e w' => e = .returned (.string nw) ∧ Below W.heap.size W w') := fun W => refNum_is (tw.size : Int) 2 nw (by rw [hnw, Int.toNat_natCast, zw]) (by omega) (by omega) (by decide) W
  have CNA : Hid (∀ W : World, Calls Try.prog 38 #[.int .i64 (ta.size : Int), .int .i64 2] W fun e w' => e = .returned (.string na) ∧ Below W.heap.size W w') := fun W => refNum_is (ta.size : Int) 2 na (by rw [hna, Int.toNat_natCast, za]) (by omega) (by omega) (by decide) W
  have CF : Hid (∀ W : World, Calls Try.prog 37 #[.int .i64 2, .string s4] W fun e w' => e = .returned (.string t) ∧ Below W.heap.size W w') := fun W => refFramed_is 2 u.body s4 t (by rw [hs4, hbody]) ht (by decide) (by omega) W
  have HTA := hide hta
  unfold Adds at A1 A2 A3 A4
  clear ht hm hU htw hta htt hnw hna hs1 hs2 hs3 hs4 hbody lw lt la lb zw za
  go_enter Try.func15, Try.ntmps15
  go_wp2_with fail
  generalize w.alloc (.cells #[.slice wo u.wd.length cw, .slice tq u.td.length ct, .int .i64 u.at_.pf, .int .i64 u.at_.md, .int .i64 u.at_.og, .slice po u.at_.path.length cp, .slice co u.at_.comms.length cc, .int .i64 u.at_.fr, .slice ko u.at_.cl.length ck] 28) = W at *
  obtain ⟨p, hp⟩ : ∃ p, w.heap.size = p := ⟨_, rfl⟩
  rw [hp] at N0
  rw [hp]
  clear hp
  have PL := hide (heap_lt N0.out)
  refine (CW.out _ (brefl W)).mono ?_
  rintro e w1 ⟨rfl, hb1⟩
  have B1 := hide hb1
  clear hb1 CW
  obtain ⟨c0, c1, c2, c3, c4, c5, c6, c7, c8⟩ := nine_cells ((B1.out.block p PL.out).trans N0.out)
  go_upto_if 11 with fail
  go_cut [4] from 5 (fun v4 wx => v4 = .string ta ∧ Hid (Below W.heap.size W wx))
  case first =>
    by_cases ht : u.td = []
    · have ht2 : ¬ (0 : Int) < (u.td.length : Int) := by rw [ht]; decide
      have HE : Hid (⟨#[]⟩ = ta) := by show _ = _; rw [HTA.out, Up.ab, if_pos ht]
      clear ht
      go_wp2_with fail
      go_meet
      exact ⟨by rw [← HE.out], B1⟩
    · have ht2 : (0 : Int) < (u.td.length : Int) := by
        have : u.td.length ≠ 0 := fun h => ht (List.length_eq_zero_iff.1 h)
        omega
      have CA := hide (refAttrs_is u.at_ po co ko cp cc ck ta (by rw [HTA.out, Up.ab, if_neg ht]) (Up.may_fits HM.out ht) w1 (At.lies_below HL.out.2.2 B1.out))
      clear ht
      go_wp2_with fail
      refine CA.out.mono ?_
      rintro e w2 ⟨rfl, hb2⟩
      have B2 := hide (bthen B1.out hb2)
      clear hb2 CA
      go_wp2_with fail
      go_meet
      exact ⟨rfl, B2⟩
  case rest =>
  obtain ⟨rfl, BW⟩ := hcut
  obtain ⟨w00, hw00⟩ : ∃ x, x = wc := ⟨_, rfl⟩
  subst hw00
  clear c0 c1 c2 c3 c4 c5 c6 c7 c8 B1
  obtain ⟨c0, c1, c2, c3, c4, c5, c6, c7, c8⟩ := nine_cells ((BW.out.block p PL.out).trans N0.out)
  have r1 := fun dd os => cell_regrown c1 dd os
  go_upto_region 4 with fail
  clear c0 c1 c2 c3 c4 c5 c6 c7 c8
  refine wp_region_quiet_below (by kernel_rfl) (by kernel_rfl) ?_
  iterate 3 (go_big_quiet_step ((go_at_call 38; exact Calls.regrown_of (CNW.out _))))
  repeat (go_big_quiet_step ((first | (go_at_call 38; exact Calls.regrown_of (CNA.out _)) | (go_at_call 35; exact Calls.regrown_of (CT.out _ (bthen BW.out (below_regrown _ _ _)))) | (go_at_call 37; exact Calls.regrown_of (CF.out _)))))
  refine wpQuiet_nil ?_
  rintro _ ⟨⟨dd, os⟩, rfl⟩
  have hb3 := below_regrown w00 dd os
  generalize Sort.grow (redrawn w00 dd) os = w3 at hb3
  have B3 := hide (bthen BW.out hb3)
  clear hb3
  go_wp2_with fail
  go_ret
  exact ⟨rfl, bthen HB.out B3.out⟩
end Go.Proofs.Ytkhmhmopcofejaa

