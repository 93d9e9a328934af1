import Derived.Test.YtkpoanjcalolkaaDoorPl4
/- The contracts of plist's Lets and of the document's Lets. -/
namespace Go.Proofs.YtkpoanjcalolkaaDoor
open Go.RowKit

theorem pmay_is (ao : Option Addr) (cap : Nat) (l : List Ad.R) (x : Int) (h : Ad.rwhy l = x) (w : World) (hR : Ad.slotR w ao l) (hf : Ad.fitsR l) :
    Calls Tryd.prog 11 #[.slice ao l.length cap] w fun e w' => e = .returned (.int .i64 x) ∧ Below w.heap.size w w' := by
  rw [← h]; exact pmay_any ao cap l w hR hf
theorem refRWhy_is (ao : Option Addr) (cap : Nat) (l : List Ad.R) (x : Int) (h : Ad.rwhy l = x) (w : World) (hR : Ad.slotR w ao l) (hf : Ad.fitsR l) :
    Calls Tryd.prog 12 #[.slice ao l.length cap] w fun e w' => e = .returned (.int .i64 x) ∧ Below w.heap.size w w' := by
  rw [← h]; exact refRWhy_any ao cap l w hR hf
theorem refFirst_is (ao : Option Addr) (cap : Nat) (l : List Ad.R) (c d i : Int) (h : Ad.first l c d = i) (w : World) (hR : Ad.slotR w ao l) (hf : Ad.fitsR l) (hlen : l.length ≤ 1000000) (hc : 0 ≤ c) (hc2 : c ≤ 4294967295) :
    Calls Tryd.prog 22 #[.slice ao l.length cap, .agg #[.int .u32 c, .int .i64 d]] w fun e w' => e = .returned (.int .i64 i) ∧ Below w.heap.size w w' := by
  rw [← h]; exact refFirst_any ao cap l c d w hR hf hlen hc hc2

theorem Ad.rwhy_len (l : List Ad.R) (h : Ad.rwhy l = 0) : l.length ≤ 16 := by
  unfold Ad.rwhy at h
  split at h
  · cases h
  · omega

/-- What Lets hands back. -/
def Ad.letsV (b : Bool) (i : Int) : Value := .tuple #[.bool b, .int .i64 i]

set_option maxHeartbeats 1000000 in
theorem lets_bad (ao : Option Addr) (cap : Nat) (l : List Ad.R) (c d x : Int) (w : World) (hR : Ad.slotR w ao l) (hf : Ad.fitsR l) (hx : Hid (Ad.rwhy l = x)) (hx0 : (x != 0) = true) :
    Calls Tryd.prog 9 #[.slice ao l.length cap, .agg #[.int .u32 c, .int .i64 d]] w fun e w' => e = .returned (Ad.letsV false (-1)) ∧ Below w.heap.size w w' := by
  have HR := hide (Ad.slotR_below hR (balloc (brefl w) (.cells #[.int .u32 c, .int .i64 d] 25)))
  have HF := hide hf
  clear hR hf
  go_enter Tryd.func9, Tryd.ntmps9
  go_wp2_with fail
  refine (pmay_is ao cap l x hx.out _ HR.out HF.out).mono ?_
  rintro e w1 ⟨rfl, hb1⟩
  go_wp2_with fail
  exact bodyPost_ret (v := (Ad.letsV false (-1))) (by simp [results, Tryd.results9, go_sem, Ad.letsV]) rfl ⟨rfl, bthen (balloc (brefl w) _) hb1⟩

set_option maxHeartbeats 1000000 in
theorem lets_good (ao : Option Addr) (cap : Nat) (l : List Ad.R) (c d : Int) (w : World) (hR : Ad.slotR w ao l) (hf : Ad.fitsR l) (hx : Ad.rwhy l = 0) (hc : 0 ≤ c) (hc2 : c ≤ 4294967295) :
    Calls Tryd.prog 9 #[.slice ao l.length cap, .agg #[.int .u32 c, .int .i64 d]] w fun e w' => e = .returned (Ad.letsV (Ad.pass l (Ad.first l c d)) (Ad.first l c d)) ∧ Below w.heap.size w w' := by
  have hlen : l.length ≤ 1000000 := by have := Ad.rwhy_len l hx; omega
  have HR := hide (Ad.slotR_below hR (balloc (brefl w) (.cells #[.int .u32 c, .int .i64 d] 25)))
  have HF := hide hf
  have HX := hide hx
  clear hR hf hx
  rcases Ad.first_cases l c d with ⟨h1, _⟩ | ⟨k, hk, h1, _⟩
  · have H1 := hide h1
    rw [h1]
    have e2 : Ad.pass l (-1) = false := rfl
    rw [e2]
    clear h1 e2
    go_enter Tryd.func9, Tryd.ntmps9
    go_wp2_with fail
    refine (pmay_is ao cap l 0 HX.out _ HR.out HF.out).mono ?_
    rintro e w1 ⟨rfl, hb1⟩
    have HR1 := hide (Ad.slotR_below HR.out hb1)
    obtain ⟨hc1, hf1⟩ := bcell hb1
    go_wp2_with fail
    refine (meets_is ao cap l c d (-1) H1.out _ HR1.out HF.out hlen hc hc2).mono ?_
    rintro e w2 ⟨rfl, hb2⟩
    go_wp2_with fail
    refine (passes_none ao l.length cap _).mono ?_
    rintro e w3 ⟨rfl, hb3⟩
    go_wp2_with fail
    exact bodyPost_ret (v := (Ad.letsV false (-1))) (by simp [results, Tryd.results9, go_sem, Ad.letsV]) rfl ⟨rfl, bthen (bthen (bthen (balloc (brefl w) _) hb1) hb2) hb3⟩
  · have H1 := hide h1
    rw [h1]
    clear h1
    go_enter Tryd.func9, Tryd.ntmps9
    go_wp2_with fail
    refine (pmay_is ao cap l 0 HX.out _ HR.out HF.out).mono ?_
    rintro e w1 ⟨rfl, hb1⟩
    have HR1 := hide (Ad.slotR_below HR.out hb1)
    obtain ⟨hc1, hf1⟩ := bcell hb1
    go_wp2_with fail
    refine (meets_is ao cap l c d k H1.out _ HR1.out HF.out hlen hc hc2).mono ?_
    rintro e w2 ⟨rfl, hb2⟩
    have HR2 := hide (Ad.slotR_below HR1.out hb2)
    go_wp2_with fail
    refine (passes_some ao cap l k _ HR2.out hk).mono ?_
    rintro e w3 ⟨rfl, hb3⟩
    go_wp2_with fail
    exact bodyPost_ret (v := (Ad.letsV (Ad.pass l k) k)) (by simp [results, Tryd.results9, go_sem, Ad.letsV]) rfl ⟨rfl, bthen (bthen (bthen (balloc (brefl w) _) hb1) hb2) hb3⟩

theorem lets_any (ao : Option Addr) (cap : Nat) (l : List Ad.R) (c d : Int) (w : World) (hR : Ad.slotR w ao l) (hf : Ad.fitsR l) (hc : 0 ≤ c) (hc2 : c ≤ 4294967295) :
    Calls Tryd.prog 9 #[.slice ao l.length cap, .agg #[.int .u32 c, .int .i64 d]] w fun e w' => e = .returned (Ad.letsV (Ad.lets l c d).1 (Ad.lets l c d).2) ∧ Below w.heap.size w w' := by
  by_cases h : Ad.rwhy l = 0
  · rw [Ad.lets, if_pos h]
    exact lets_good ao cap l c d w hR hf h hc hc2
  · rw [Ad.lets, if_neg h]
    exact lets_bad ao cap l c d _ w hR hf rfl (by simpa using h)

set_option maxHeartbeats 1000000 in
theorem refLets_bad (ao : Option Addr) (cap : Nat) (l : List Ad.R) (c d x : Int) (w : World) (hR : Ad.slotR w ao l) (hf : Ad.fitsR l) (hx : Hid (Ad.rwhy l = x)) (hx0 : (x != 0) = true) :
    Calls Tryd.prog 10 #[.slice ao l.length cap, .agg #[.int .u32 c, .int .i64 d]] w fun e w' => e = .returned (Ad.letsV false (-1)) ∧ Below w.heap.size w w' := by
  have HR := hide (Ad.slotR_below hR (balloc (brefl w) (.cells #[.int .u32 c, .int .i64 d] 25)))
  have HF := hide hf
  clear hR hf
  go_enter Tryd.func10, Tryd.ntmps10
  go_wp2_with fail
  refine (refRWhy_is ao cap l x hx.out _ HR.out HF.out).mono ?_
  rintro e w1 ⟨rfl, hb1⟩
  go_wp2_with fail
  exact bodyPost_ret (v := (Ad.letsV false (-1))) (by simp [results, Tryd.results10, go_sem, Ad.letsV]) rfl ⟨rfl, bthen (balloc (brefl w) _) hb1⟩

set_option maxHeartbeats 1000000 in
theorem refLets_not (ao : Option Addr) (cap : Nat) (l : List Ad.R) (c d : Int) (w : World) (hR : Ad.slotR w ao l) (hf : Ad.fitsR l) (hx : Ad.rwhy l = 0) (hc : 0 ≤ c) (hc2 : c ≤ 4294967295) (hm : Ad.may c d = false) :
    Calls Tryd.prog 10 #[.slice ao l.length cap, .agg #[.int .u32 c, .int .i64 d]] w fun e w' => e = .returned (Ad.letsV false (-1)) ∧ Below w.heap.size w w' := by
  have HR := hide (Ad.slotR_below hR (balloc (brefl w) (.cells #[.int .u32 c, .int .i64 d] 25)))
  have HF := hide hf
  have HX := hide hx
  clear hR hf hx
  go_enter Tryd.func10, Tryd.ntmps10
  go_wp2_with fail
  refine (refRWhy_is ao cap l 0 HX.out _ HR.out HF.out).mono ?_
  rintro e w1 ⟨rfl, hb1⟩
  obtain ⟨hc1, hf1⟩ := bcell hb1
  go_wp2_with fail
  refine (refMay_is _ _ _ hm _ hc hc2).mono ?_
  rintro e w2 ⟨rfl, hb2⟩
  go_wp2_with fail
  exact bodyPost_ret (v := (Ad.letsV false (-1))) (by simp [results, Tryd.results10, go_sem, Ad.letsV]) rfl ⟨rfl, bthen (bthen (balloc (brefl w) _) hb1) hb2⟩

set_option maxHeartbeats 1000000 in
theorem refLets_good (ao : Option Addr) (cap : Nat) (l : List Ad.R) (c d : Int) (w : World) (hR : Ad.slotR w ao l) (hf : Ad.fitsR l) (hx : Ad.rwhy l = 0) (hc : 0 ≤ c) (hc2 : c ≤ 4294967295) (hm : Ad.may c d = true) :
    Calls Tryd.prog 10 #[.slice ao l.length cap, .agg #[.int .u32 c, .int .i64 d]] w fun e w' => e = .returned (Ad.letsV (Ad.pass l (Ad.first l c d)) (Ad.first l c d)) ∧ Below w.heap.size w w' := by
  have hlen : l.length ≤ 1000000 := by have := Ad.rwhy_len l hx; omega
  have HR := hide (Ad.slotR_below hR (balloc (brefl w) (.cells #[.int .u32 c, .int .i64 d] 25)))
  have HF := hide hf
  have HX := hide hx
  have HM := hide hm
  clear hR hf hx hm
  rcases Ad.first_cases l c d with ⟨h1, _⟩ | ⟨k, hk, h1, _⟩
  · have H1 := hide h1
    rw [h1]
    have e2 : Ad.pass l (-1) = false := rfl
    rw [e2]
    clear h1 e2
    go_enter Tryd.func10, Tryd.ntmps10
    go_wp2_with fail
    refine (refRWhy_is ao cap l 0 HX.out _ HR.out HF.out).mono ?_
    rintro e w1 ⟨rfl, hb1⟩
    have HR1 := hide (Ad.slotR_below HR.out hb1)
    have HT1 := two_below hb1 (n := w.heap.size) (a := c) (b := d) (by simp) (by simp)
    obtain ⟨t0, t1, _, _⟩ := HT1
    go_wp2_with fail
    refine (refMay_is _ _ _ HM.out _ hc hc2).mono ?_
    rintro e w2 ⟨rfl, hb2⟩
    have HR2 := hide (Ad.slotR_below HR1.out hb2)
    obtain ⟨q0, q1, _, _⟩ := two_below hb2 t0 t1
    go_wp2_with fail
    refine (refFirst_is ao cap l c d (-1) H1.out _ HR2.out HF.out hlen hc hc2).mono ?_
    rintro e w3 ⟨rfl, hb3⟩
    go_wp2_with fail
    exact bodyPost_ret (v := (Ad.letsV false (-1))) (by simp [results, Tryd.results10, go_sem, Ad.letsV]) rfl ⟨rfl, bthen (bthen (bthen (balloc (brefl w) _) hb1) hb2) hb3⟩
  · have H1 := hide h1
    rw [h1]
    obtain ⟨b, off, rfl, _⟩ := Ad.slotR_at HR.out hk
    have HP : Hid (Ad.pass l k = l[k].2.2.2.2) := by
      show _ = _
      unfold Ad.pass
      rw [Int.toNat_natCast, Ad.get_bang l k hk]
      simp
    have hk0 : (0 : Int) ≤ (k : Int) := by omega
    clear h1
    go_enter Tryd.func10, Tryd.ntmps10
    go_wp2_with fail
    refine (refRWhy_is _ cap l 0 HX.out _ HR.out HF.out).mono ?_
    rintro e w1 ⟨rfl, hb1⟩
    have HR1 := hide (Ad.slotR_below HR.out hb1)
    have HT1 := two_below hb1 (n := w.heap.size) (a := c) (b := d) (by simp) (by simp)
    obtain ⟨t0, t1, _, _⟩ := HT1
    go_wp2_with fail
    refine (refMay_is _ _ _ HM.out _ hc hc2).mono ?_
    rintro e w2 ⟨rfl, hb2⟩
    have HR2 := hide (Ad.slotR_below HR1.out hb2)
    obtain ⟨q0, q1, _, _⟩ := two_below hb2 t0 t1
    go_wp2_with fail
    refine (refFirst_is _ cap l c d k H1.out _ HR2.out HF.out hlen hc hc2).mono ?_
    rintro e w3 ⟨rfl, hb3⟩
    have HR3 := Ad.slotR_below HR2.out hb3
    obtain ⟨b', off', hbo, hrd⟩ := Ad.slotR_at HR3 hk
    obtain ⟨rfl, rfl⟩ : b = b' ∧ off = off' := by simpa using hbo
    clear hbo HR3
    obtain ⟨e0, e1, e2, e3, e4⟩ := Ad.readsR_at hrd k hk
    clear hrd
    generalize l[k] = x at *
    obtain ⟨a, bb, g, t, p⟩ := x
    go_wp2_with fail
    exact bodyPost_ret (v := (Ad.letsV p k)) (by simp [results, Tryd.results10, go_sem, Ad.letsV]) rfl ⟨by rw [HP.out], bthen (bthen (bthen (balloc (brefl w) _) hb1) hb2) hb3⟩

theorem refLets_any (ao : Option Addr) (cap : Nat) (l : List Ad.R) (c d : Int) (w : World) (hR : Ad.slotR w ao l) (hf : Ad.fitsR l) (hc : 0 ≤ c) (hc2 : c ≤ 4294967295) :
    Calls Tryd.prog 10 #[.slice ao l.length cap, .agg #[.int .u32 c, .int .i64 d]] w fun e w' => e = .returned (Ad.letsV (Ad.lets l c d).1 (Ad.lets l c d).2) ∧ Below w.heap.size w w' := by
  by_cases h : Ad.rwhy l = 0
  · rw [Ad.lets, if_pos h]
    cases hm : Ad.may c d
    · rw [Ad.first_may l c d hm]
      exact refLets_not ao cap l c d w hR hf h hc hc2 hm
    · exact refLets_good ao cap l c d w hR hf h hc hc2 hm
  · rw [Ad.lets, if_neg h]
    exact refLets_bad ao cap l c d _ w hR hf rfl (by simpa using h)
end Go.Proofs.YtkpoanjcalolkaaDoor
