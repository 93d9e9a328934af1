/- The contracts of plist's idle and Idle. -/
import Derived.Test.YtkpoanjcalolkaaDoorDi1
namespace Go.Proofs.YtkpoanjcalolkaaDoor
open Go.RowKit

/-- Is a rule never the first one that is met? -/
def Ad.Idle (l : List Ad.R) (m : Int) (r : Bool) : Prop :=
  (r = true ∧ ∀ x d, 0 ≤ x → x ≤ 4294967295 → Ad.may x d = true → Ad.first l x d ≠ m) ∨ (r = false ∧ ∃ x d, 0 ≤ x ∧ x ≤ 4294967295 ∧ Ad.may x d = true ∧ Ad.first l x d = m)

theorem Ad.idle_of_least (l : List Ad.R) (m c k : Int) (f : Bool) (h : Ad.Least (fun x d => Ad.first l x d == m) c k f) : Ad.Idle l m (!f) := by
  rcases h with ⟨rfl, _, _, h⟩ | ⟨rfl, h0, h1, hm, hp, _⟩
  · refine .inl ⟨rfl, fun x d a b c e => ?_⟩
    have := h x d a b c
    simp [e] at this
  · exact .inr ⟨rfl, c, k, h0, h1, hm, by simpa using hp⟩

theorem Ad.idle_one (l : List Ad.R) (m : Int) (r s : Bool) (h : Ad.Idle l m r) (g : Ad.Idle l m s) : r = s := by
  rcases h with ⟨rfl, h⟩ | ⟨rfl, x, d, h0, h1, h2, h3⟩ <;> rcases g with ⟨rfl, g⟩ | ⟨rfl, y, e, g0, g1, g2, g3⟩
  · rfl
  · exact absurd g3 (h y e g0 g1 g2)
  · exact absurd h3 (g x d h0 h1 h2)
  · rfl

/-- idle's two blocks read as they were laid. -/
def IW (w : World) (va vb : Value) (X : World) : Prop := Below (w.heap.size + 2) ((w.alloc (.cells #[va] 22)).alloc (.cells #[vb] 3)) X
theorem iw_lo {w X : World} {va vb : Value} (h : IW w va vb X) : Below w.heap.size w X := (balloc (balloc (brefl w) _) _).trans (Below.mono h (by omega))
theorem iw_size {w X : World} {va vb : Value} (h : IW w va vb X) : w.heap.size + 2 ≤ X.heap.size := by have := Below.size h; simpa using this
theorem iw_then {w X Y : World} {va vb : Value} (h : IW w va vb X) (hb : Below X.heap.size X Y) : IW w va vb Y := Below.trans h (hb.mono (iw_size h))
theorem iw_alloc {w X : World} {va vb : Value} (h : IW w va vb X) (o : Obj) : IW w va vb (X.alloc o) := Below.alloc h (iw_size h) o
theorem iw_a {w X : World} {va vb : Value} (h : IW w va vb X) : X.cell? ⟨w.heap.size, 0, none⟩ = some va := by
  rw [Below.cell h (p := ⟨w.heap.size, 0, none⟩) (by simp), World.cell?_alloc_past _ _ _ (by simp)]
  exact cell_of_row _ _ 0 _ 22 (0, 0) (heap_alloc_last w _)
theorem iw_b {w X : World} {va vb : Value} (h : IW w va vb X) : X.cell? ⟨w.heap.size + 1, 0, none⟩ = some vb := by
  rw [Below.cell h (p := ⟨w.heap.size + 1, 0, none⟩) (by simp)]
  have := cell_of_row ((w.alloc (.cells #[va] 22)).alloc (.cells #[vb] 3)) _ 0 _ 3 (0, 0) (heap_alloc_last _ _)
  rw [show (w.alloc (.cells #[va] 22)).heap.size = w.heap.size + 1 by simp] at this
  exact this

set_option maxHeartbeats 4000000 in
theorem idle_good (ao : Option Addr) (ca : Nat) (a : List Ad.R) (m : Int) (w : World) (hRa : Ad.slotR w ao a) (hfa : Ad.fitsR a) (hx : Ad.rwhy a = 0) :
    Calls Tryd.prog 37 #[.slice ao a.length ca, .int .i64 m] w fun e w' => ∃ r, e = .returned (.bool r) ∧ Ad.Idle a m r ∧ Below w.heap.size w w' := by
  have HRA := hide hRa
  have HFA := hide hfa
  have HX := hide hx
  clear hRa hfa hx
  go_enter Tryd.func37, Tryd.ntmps37
  go_wp2_with fail
  have F0 : Hid (IW w (.slice ao a.length ca) (.int .i64 m) ((w.alloc (.cells #[.slice ao a.length ca] 22)).alloc (.cells #[.int .i64 m] 3))) := Below.refl _ _
  have hs0 : w.heap.size + 1 + 1 = ((w.alloc (.cells #[.slice ao a.length ca] 22)).alloc (.cells #[.int .i64 m] 3)).heap.size := by simp
  rw [hs0]
  clear hs0
  generalize (w.alloc (.cells #[.slice ao a.length ca] 22)).alloc (.cells #[.int .i64 m] 3) = W0 at F0 ⊢
  have H16a := hide (Ad.rwhy_len a HX.out)
  refine (lay_one W0.heap.size ao ca a _ (cell_of_row _ _ 0 _ 22 (0, 0) (heap_alloc_last W0 _)) (Ad.slotR_below HRA.out (iw_lo (iw_alloc F0.out _))) HFA.out H16a.out).mono ?_
  rintro e w3 ⟨S, C, hgr, rfl, hb3⟩
  have F3 := hide (iw_then (iw_alloc F0.out _) hb3)
  have HGR := hide hgr
  clear hb3 hgr
  have CP := hide (first_least a (Ad.rwhy_all a HX.out) HFA.out S C HGR.out 51 #[.pointer (some ⟨w.heap.size, 0, none⟩), .pointer (some ⟨w.heap.size + 1, 0, none⟩)] (fun x d => Ad.first a x d == m) w3
    (fun x c d h => by
      show (Ad.first a c d == m) = (Ad.first a x d == m)
      rw [Ad.first_col a x d c h])
    (enters_of Tryd.func51 (by kernel_rfl) rfl)
    (fun W c k hW hc hc2 => clo51 ao ca a c k m w.heap.size (w.heap.size + 1) W (iw_a (iw_then F3.out hW)) (iw_b (iw_then F3.out hW)) (Ad.slotR_below HRA.out (iw_lo (iw_then F3.out hW))) HFA.out (by have := H16a.out; omega) hc hc2))
  generalize (gridV S C).toArray = V at CP ⊢
  go_wp2_with fail
  refine CP.out.mono ?_
  rintro e w4 ⟨c, k, f, rfl, hle, hb4⟩
  have F4 := hide (iw_then F3.out hb4)
  have HLE := hide (Ad.idle_of_least a m c k f hle)
  clear hb4 hle
  go_wp2_with fail
  go_ret
  exact ⟨!f, rfl, HLE.out, balloc (iw_lo F4.out) _⟩

/-- What Idle answers. -/
def Ad.idleV (r : Bool) (x : Int) : Value := .tuple #[.bool r, .int .i64 x]

set_option maxHeartbeats 4000000 in
theorem pidle_bad (ao : Option Addr) (ca : Nat) (a : List Ad.R) (m x : Int) (w : World) (hRa : Ad.slotR w ao a) (hfa : Ad.fitsR a) (hx : Hid (Ad.rwhy a = x)) (hx0 : (x != 0) = true) :
    Calls Tryd.prog 20 #[.slice ao a.length ca, .int .i64 m] w fun e w' => e = .returned (.tuple #[.bool false, .int .i64 x]) ∧ Below w.heap.size w w' := by
  have HRA := hide hRa
  have HFA := hide hfa
  clear hRa hfa
  go_enter Tryd.func20, Tryd.ntmps20
  go_wp2_with fail
  refine (pmay_is ao ca a x hx.out _ HRA.out HFA.out).mono ?_
  rintro e w1 ⟨rfl, hb1⟩
  go_wp2_with fail
  exact bodyPost_ret (v := Ad.idleV false x) (by simp [results, Tryd.results20, go_sem, Ad.idleV]) rfl ⟨rfl, hb1⟩

set_option maxHeartbeats 4000000 in
theorem pidle_out (ao : Option Addr) (ca : Nat) (a : List Ad.R) (m : Int) (w : World) (hRa : Ad.slotR w ao a) (hfa : Ad.fitsR a) (hx : Hid (Ad.rwhy a = 0)) (hm : m < 0 ∨ (¬ m < 0 ∧ (a.length : Int) ≤ m)) :
    Calls Tryd.prog 20 #[.slice ao a.length ca, .int .i64 m] w fun e w' => e = .returned (.tuple #[.bool false, .int .i64 7]) ∧ Below w.heap.size w w' := by
  have HRA := hide hRa
  have HFA := hide hfa
  clear hRa hfa
  rcases hm with hm | ⟨hm, hm2⟩
  all_goals
    go_enter Tryd.func20, Tryd.ntmps20
    go_wp2_with fail
    refine (pmay_is ao ca a 0 hx.out _ HRA.out HFA.out).mono ?_
    rintro e w1 ⟨rfl, hb1⟩
    go_wp2_with fail
    exact bodyPost_ret (v := Ad.idleV false 7) (by simp [results, Tryd.results20, go_sem, Ad.idleV]) rfl ⟨rfl, hb1⟩

set_option maxHeartbeats 4000000 in
theorem pidle_in (ao : Option Addr) (ca : Nat) (a : List Ad.R) (m : Int) (w : World) (hRa : Ad.slotR w ao a) (hfa : Ad.fitsR a) (hx : Hid (Ad.rwhy a = 0)) (hm : ¬ m < 0) (hm2 : ¬ (a.length : Int) ≤ m) :
    Calls Tryd.prog 20 #[.slice ao a.length ca, .int .i64 m] w fun e w' => ∃ r, e = .returned (.tuple #[.bool r, .int .i64 0]) ∧ Ad.Idle a m r ∧ Below w.heap.size w w' := by
  have HRA := hide hRa
  have HFA := hide hfa
  clear hRa hfa
  go_enter Tryd.func20, Tryd.ntmps20
  go_wp2_with fail
  refine (pmay_is ao ca a 0 hx.out _ HRA.out HFA.out).mono ?_
  rintro e w1 ⟨rfl, hb1⟩
  have B1 := hide hb1
  clear hb1
  go_wp2_with fail
  refine (idle_good ao ca a m _ (Ad.slotR_below HRA.out B1.out) HFA.out hx.out).mono ?_
  rintro e w2 ⟨r, rfl, hid, hb2⟩
  have HID := hide hid
  clear hid
  go_wp2_with fail
  exact bodyPost_ret (v := Ad.idleV r 0) (by simp [results, Tryd.results20, go_sem, Ad.idleV]) rfl ⟨r, rfl, HID.out, bthen B1.out hb2⟩
end Go.Proofs.YtkpoanjcalolkaaDoor
