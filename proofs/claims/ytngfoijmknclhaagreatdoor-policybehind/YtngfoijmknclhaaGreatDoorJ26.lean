/- What a clause asks for. -/
import Derived.Test.YtngfoijmknclhaaGreatDoorJ01
import Derived.Test.YtngfoijmknclhaaGreatDoorJ06
import Derived.Test.YtngfoijmknclhaaGreatDoorJ07
import Derived.Test.YtngfoijmknclhaaGreatDoorJ08
import Derived.Test.YtngfoijmknclhaaGreatDoorJ10
import Derived.Test.YtngfoijmknclhaaGreatDoorJ13
import Derived.Test.YtngfoijmknclhaaGreatDoorJ23
import Derived.Test.YtngfoijmknclhaaGreatDoorJ25
import Derived.Shelf.Slices.Turned
import Derived.Test.YtngfoijmknclhaaGreatDoorProg
namespace Go.Proofs.YtngfoijmknclhaaGreatDoor
open Go.RowKit Go.Sort
/-- A function value that answers p of communities. -/
structure FnC (W0 : World) (f : Nat) (caps : Array Value) (p : Cm.Co.C → Bool) : Prop where
  enter : ∀ (args : Array Value) (w : World), (callFunc f args).run Tryz.prog w = .ok (.enter f args) w
  ok : ∀ (W : World) (a b : Int), Below W0.heap.size W0 W → Calls Tryz.prog f (#[.agg #[.int .i64 a, .int .i64 b]] ++ caps) W fun e w' => e = .returned (.bool (p (a, b))) ∧ Below W.heap.size W w'
theorem FnC.from {W0 W1 : World} {f : Nat} {caps : Array Value} {p : Cm.Co.C → Bool} (h : FnC W0 f caps p) (hb : Below W0.heap.size W0 W1) : FnC W1 f caps p := ⟨h.enter, fun W a b hW => h.ok W a b (bthen hb hW)⟩
def noText (s : ByteArray) : Bool := s.toList == []
/-- Is all so that is asked for? -/
def holdsP (L M : ByteArray → Bool) (H : Cm.Co.C → Bool) (ls pt : ByteArray) (ca cn : Int) : Bool := (noText ls || L ls) && (noText pt || M pt) && (ca == 0 || H (ca, cn))
set_option maxHeartbeats 4000000 in
set_option maxRecDepth 100000 in
theorem holds_is {f1 f2 f3 : Nat} {c1 c2 c3 : Array Value} {L M : ByteArray → Bool} {H : Cm.Co.C → Bool} (ls pt : ByteArray) (ca cn : Int) (w : World) (h1 : FnS w f1 c1 L) (h2 : FnS w f2 c2 M) (h3 : FnC w f3 c3 H) :
    Calls Tryz.prog 66 #[.agg #[.string ls, .string pt, .int .i64 ca, .int .i64 cn], .func (.func f1) #[] c1, .func (.func f2) #[] c2, .func (.func f3) #[] c3] w fun e w' => e = .returned (.bool (holdsP L M H ls pt ca cn)) ∧ Below w.heap.size w w' := by
  have q1 := h1.enter
  have q2 := h2.enter
  have q3 := h3.enter
  have C0 := hide (fun W hb => h1.ok W ls hb)
  have C1 := hide (fun W hb => h2.ok W pt hb)
  have C2 := hide (fun W hb => h3.ok W ca cn hb)
  have A0 := balloc (brefl w) (.cells #[.string ls, .string pt, .int .i64 ca, .int .i64 cn] 41)
  have N0 := hide (heap_new w #[.string ls, .string pt, .int .i64 ca, .int .i64 cn] 41)
  have B0 := hide A0
  have HE : Hid (holdsP L M H ls pt ca cn = ((noText ls || L ls) && (noText pt || M pt) && (ca == 0 || H (ca, cn)))) := rfl
  clear h1 h2 h3 A0
  generalize holdsP L M H ls pt ca cn = R at *
  generalize L ls = r0 at *
  generalize M pt = r1 at *
  generalize H (ca, cn) = r2 at *
  obtain ⟨d0, e0⟩ : ∃ d, (ls.toList == []) = d := ⟨_, rfl⟩
  obtain ⟨d1, e1⟩ : ∃ d, (pt.toList == []) = d := ⟨_, rfl⟩
  obtain ⟨d2, e2⟩ : ∃ d, (ca == 0) = d := ⟨_, rfl⟩
  unfold noText at HE
  rw [e0, e1, e2] at HE
  go_enter Tryz.func66, Tryz.ntmps66
  go_upto_region 1 with fail
  obtain ⟨bx, hbx⟩ : ∃ x, w.heap.size = x := ⟨_, rfl⟩
  rw [hbx] at N0 ⊢
  have n0 := cell_of N0.out 0 rfl
  have n1 := cell_of N0.out 1 rfl
  have n2 := cell_of N0.out 2 rfl
  have n3 := cell_of N0.out 3 rfl
  cases d0 with
  | true =>
    cases d1 with
    | true =>
      cases d2 with
      | true =>
        have h2 : ca = 0 := by simpa using e2
        subst h2
        go_wp2_with fail
        go_ret
        exact ⟨ret_bool HE.out.symm, B0.out⟩
      | false =>
        have h2 : ¬ ca = 0 := by simpa using e2
        go_wp2_with fail
        refine (C2.out _ B0.out).mono ?_
        rintro e w3 ⟨rfl, hb3⟩
        have N1 := hide ((hb3.block bx (heap_lt N0.out)).trans N0.out)
        have B1 := hide (bthen B0.out hb3)
        clear hb3
        have n0 := cell_of N1.out 0 rfl
        have n1 := cell_of N1.out 1 rfl
        have n2 := cell_of N1.out 2 rfl
        have n3 := cell_of N1.out 3 rfl
        cases r2 with
        | false =>
          go_wp2_with fail
          go_ret
          exact ⟨ret_bool HE.out.symm, B1.out⟩
        | true =>
          go_wp2_with fail
          go_ret
          exact ⟨ret_bool HE.out.symm, B1.out⟩
    | false =>
      go_wp2_with fail
      refine (C1.out _ B0.out).mono ?_
      rintro e w2 ⟨rfl, hb2⟩
      have N1 := hide ((hb2.block bx (heap_lt N0.out)).trans N0.out)
      have B1 := hide (bthen B0.out hb2)
      clear hb2
      have n0 := cell_of N1.out 0 rfl
      have n1 := cell_of N1.out 1 rfl
      have n2 := cell_of N1.out 2 rfl
      have n3 := cell_of N1.out 3 rfl
      cases r1 with
      | false =>
        go_wp2_with fail
        go_ret
        exact ⟨ret_bool HE.out.symm, B1.out⟩
      | true =>
        cases d2 with
        | true =>
          have h2 : ca = 0 := by simpa using e2
          subst h2
          go_wp2_with fail
          go_ret
          exact ⟨ret_bool HE.out.symm, B1.out⟩
        | false =>
          have h2 : ¬ ca = 0 := by simpa using e2
          go_wp2_with fail
          refine (C2.out _ B1.out).mono ?_
          rintro e w3 ⟨rfl, hb3⟩
          have N2 := hide ((hb3.block bx (heap_lt N1.out)).trans N1.out)
          have B2 := hide (bthen B1.out hb3)
          clear hb3
          have n0 := cell_of N2.out 0 rfl
          have n1 := cell_of N2.out 1 rfl
          have n2 := cell_of N2.out 2 rfl
          have n3 := cell_of N2.out 3 rfl
          cases r2 with
          | false =>
            go_wp2_with fail
            go_ret
            exact ⟨ret_bool HE.out.symm, B2.out⟩
          | true =>
            go_wp2_with fail
            go_ret
            exact ⟨ret_bool HE.out.symm, B2.out⟩
  | false =>
    go_wp2_with fail
    refine (C0.out _ B0.out).mono ?_
    rintro e w1 ⟨rfl, hb1⟩
    have N1 := hide ((hb1.block bx (heap_lt N0.out)).trans N0.out)
    have B1 := hide (bthen B0.out hb1)
    clear hb1
    have n0 := cell_of N1.out 0 rfl
    have n1 := cell_of N1.out 1 rfl
    have n2 := cell_of N1.out 2 rfl
    have n3 := cell_of N1.out 3 rfl
    cases r0 with
    | false =>
      go_wp2_with fail
      go_ret
      exact ⟨ret_bool HE.out.symm, B1.out⟩
    | true =>
      cases d1 with
      | true =>
        cases d2 with
        | true =>
          have h2 : ca = 0 := by simpa using e2
          subst h2
          go_wp2_with fail
          go_ret
          exact ⟨ret_bool HE.out.symm, B1.out⟩
        | false =>
          have h2 : ¬ ca = 0 := by simpa using e2
          go_wp2_with fail
          refine (C2.out _ B1.out).mono ?_
          rintro e w3 ⟨rfl, hb3⟩
          have N2 := hide ((hb3.block bx (heap_lt N1.out)).trans N1.out)
          have B2 := hide (bthen B1.out hb3)
          clear hb3
          have n0 := cell_of N2.out 0 rfl
          have n1 := cell_of N2.out 1 rfl
          have n2 := cell_of N2.out 2 rfl
          have n3 := cell_of N2.out 3 rfl
          cases r2 with
          | false =>
            go_wp2_with fail
            go_ret
            exact ⟨ret_bool HE.out.symm, B2.out⟩
          | true =>
            go_wp2_with fail
            go_ret
            exact ⟨ret_bool HE.out.symm, B2.out⟩
      | false =>
        go_wp2_with fail
        refine (C1.out _ B1.out).mono ?_
        rintro e w2 ⟨rfl, hb2⟩
        have N2 := hide ((hb2.block bx (heap_lt N1.out)).trans N1.out)
        have B2 := hide (bthen B1.out hb2)
        clear hb2
        have n0 := cell_of N2.out 0 rfl
        have n1 := cell_of N2.out 1 rfl
        have n2 := cell_of N2.out 2 rfl
        have n3 := cell_of N2.out 3 rfl
        cases r1 with
        | false =>
          go_wp2_with fail
          go_ret
          exact ⟨ret_bool HE.out.symm, B2.out⟩
        | true =>
          cases d2 with
          | true =>
            have h2 : ca = 0 := by simpa using e2
            subst h2
            go_wp2_with fail
            go_ret
            exact ⟨ret_bool HE.out.symm, B2.out⟩
          | false =>
            have h2 : ¬ ca = 0 := by simpa using e2
            go_wp2_with fail
            refine (C2.out _ B2.out).mono ?_
            rintro e w3 ⟨rfl, hb3⟩
            have N3 := hide ((hb3.block bx (heap_lt N2.out)).trans N2.out)
            have B3 := hide (bthen B2.out hb3)
            clear hb3
            have n0 := cell_of N3.out 0 rfl
            have n1 := cell_of N3.out 1 rfl
            have n2 := cell_of N3.out 2 rfl
            have n3 := cell_of N3.out 3 rfl
            cases r2 with
            | false =>
              go_wp2_with fail
              go_ret
              exact ⟨ret_bool HE.out.symm, B3.out⟩
            | true =>
              go_wp2_with fail
              go_ret
              exact ⟨ret_bool HE.out.symm, B3.out⟩
/-- A path meets an expression. -/
def GoesP (s : ByteArray) (path : List Int) : Prop := ∃ x, Ar.Px.parse s.data.toList = .ok x ∧ Ar.Ex.Meets x path
theorem mayOk : Ar.MayOk := fun ao ca l b h W hS hl => may_is ao ca l b h W hS hl
set_option maxHeartbeats 4000000 in
set_option maxRecDepth 100000 in
theorem goes_fn {W0 : World} {b5 : Nat} {po : Option Addr} {cp : Nat} {path : List Int} {g : ByteArray → Bool} (hT : Ar.Y4.Pt W0) (hm : Is.may path = true) (hg : ∀ s, g s = true ↔ GoesP s path) (h3 : W0.cell? ⟨b5, 3, none⟩ = some (.slice po path.length cp)) (hp : Is.slot W0 po path) :
    FnS W0 60 #[.pointer (some ⟨b5, 0, none⟩)] g where
  enter := fun args w => by go_simp
  ok := fun W s hW => by
    have hb5 := World.block_lt_of_cell? W0 _ h3
    have q3 : ∀ W2, Below W.heap.size W W2 → W2.cell? ⟨b5, 3, none⟩ = some (.slice po path.length cp) := fun W2 h2 => ((bthen hW h2).cell (p := ⟨b5, 3, none⟩) hb5).trans h3
    have Q3 := hide q3
    have hlen : path.length ≤ 16 := ((Is.may_iff path).1 hm).1
    have CP := hide (Ar.parse_is5 Ar.readKit s.data.toList W (hT.on hW))
    have CM : Hid (∀ (v : Value) (x : Ar.Xp) W2, Below W.heap.size W W2 → Ar.Rep5 W2 v x → Ar.Px.parse s.data.toList = .ok x → Calls Tryz.prog 62 #[v, .slice po path.length cp] W2 fun e w' => e = .returned (.bool (g s)) ∧ Below W2.heap.size W2 w') := fun v x W2 hb hR hx => Ar.meets_is5 mayOk v x po cp path (g s) ((hg s).trans ⟨fun ⟨x', h1, h2⟩ => ⟨hm, by rw [hx] at h1; cases h1; exact h2⟩, fun ⟨_, h2⟩ => ⟨x, hx, h2⟩⟩) W2 hR (Is.slot_below hp (bthen hW hb)) (by omega)
    have HN : Hid (∀ q, Ar.Px.parse s.data.toList = .error q → g s = false) := fun q hq => by
      cases hgs : g s with
      | false => rfl
      | true => obtain ⟨x, h1, _⟩ := (hg s).1 hgs; rw [hq] at h1; cases h1
    clear hT hm hg h3 hp hW q3 hb5
    generalize path.length = n at *
    generalize g s = r at *
    show Calls Tryz.prog 60 #[.string s, .pointer (some ⟨b5, 0, none⟩)] W _
    have hs : (.string s : Value) = .string (Ar.tx s.data.toList) := rfl
    rw [hs]
    generalize s.data.toList = l at *
    clear hs
    go_enter Tryz.func60, Tryz.ntmps60
    go_wp2_with fail
    refine CP.out.mono ?_
    rintro e w1 ⟨hb1, ⟨q, h1, hq0, rfl⟩ | ⟨x, v, h1, h2, rfl⟩⟩
    · have HF := hide (HN.out q h1)
      have B1 := hide hb1
      have hq : ¬ q = 0 := hq0
      clear CM HN h1 hb1 CP
      go_wp2_with fail
      go_ret
      exact ⟨ret_bool HF.out.symm, B1.out⟩
    · have C2 := hide (CM.out v x w1 hb1 h2 h1)
      have c3 := Q3.out w1 hb1
      have B1 := hide hb1
      obtain ⟨a, _, _, _, rfl, _⟩ := h2
      clear CM HN h1 hb1 CP
      go_wp2_with fail
      refine C2.out.mono ?_
      rintro e w2 ⟨rfl, hb2⟩
      have B2 := hide (bthen B1.out hb2)
      clear hb2
      go_wp2_with fail
      go_ret
      exact ⟨rfl, B2.out⟩
set_option maxHeartbeats 4000000 in
set_option maxRecDepth 100000 in
theorem has_fn {W0 : World} {b5 : Nat} {co : Option Addr} {cc : Nat} {cs : List Cm.Co.C} (h4 : W0.cell? ⟨b5, 4, none⟩ = some (.slice co cs.length cc)) (hc : Cm.Co.slot W0 co cs) (hlen : cs.length ≤ 1000000) :
    FnC W0 63 #[.pointer (some ⟨b5, 0, none⟩)] (Cm.Co.has cs) where
  enter := fun args w => by go_simp
  ok := fun W a b hW => by
    have hb5 := World.block_lt_of_cell? W0 _ h4
    have A1 := balloc (brefl W) (.cells #[.int .i64 a, .int .i64 b] 39)
    have q4 := ((bthen hW A1).cell (p := ⟨b5, 4, none⟩) hb5).trans h4
    have n0 := cell_of (heap_new W #[.int .i64 a, .int .i64 b] 39) 0 rfl
    have n1 := cell_of (heap_new W #[.int .i64 a, .int .i64 b] 39) 1 rfl
    have C := hide (Cm.has_is co cc cs a b _ rfl _ (Cm.Co.slot_below hc (bthen hW A1)) hlen)
    have B1 := hide A1
    clear h4 hc hW A1 hb5 hlen
    generalize Cm.Co.has cs (a, b) = r at *
    generalize cs.length = n at *
    show Calls Tryz.prog 63 #[.agg #[.int .i64 a, .int .i64 b], .pointer (some ⟨b5, 0, none⟩)] W _
    go_enter Tryz.func63, Tryz.ntmps63
    go_wp2_with fail
    refine C.out.mono ?_
    rintro e w1 ⟨rfl, hb⟩
    have B2 := hide (bthen B1.out hb)
    clear hb
    go_wp2_with fail
    go_ret
    exact ⟨rfl, B2.out⟩
end Go.Proofs.YtngfoijmknclhaaGreatDoor
namespace Go.Proofs.YtngfoijmknclhaaGreatDoor
open Go.RowKit Go.Sort
/-- Two boxes with the least and the greatest number. -/
def UpAt (w : World) (p q : Nat) (lo hi : Int) : Prop := w.cell? ⟨p, 0, none⟩ = some (.int .i64 lo) ∧ w.cell? ⟨q, 0, none⟩ = some (.int .i64 hi)
/-- The question that upTo hands back. -/
def UpGood (w : World) (lo hi : Int) (e : Ending) (w' : World) : Prop :=
  ∃ p q, e = .returned (.func (.func 125) #[] #[.pointer (some ⟨p, 0, none⟩), .pointer (some ⟨q, 0, none⟩)]) ∧ UpAt w' p q lo hi ∧ Below w.heap.size w w'
set_option maxRecDepth 100000 in
theorem upTo_is (lo hi : Int) (w : World) : Calls Tryz.prog 86 #[.int .i64 lo, .int .i64 hi] w (UpGood w lo hi) := by
  have HB := hide (balloc (balloc (brefl w) (.cells #[.int .i64 lo] 3)) (.cells #[.int .i64 hi] 3))
  go_enter Tryz.func86, Tryz.ntmps86
  go_wp2_with fail
  go_ret
  exact ⟨_, _, rfl, ⟨by simp, by simp⟩, HB.out⟩
theorem isUpTo_is (lo hi n : Int) (r : Bool) (hr : decide (lo ≤ n ∧ n ≤ hi) = r) (p q : Nat) (W : World) (h : UpAt W p q lo hi) :
    Calls Tryz.prog 125 #[.int .i64 n, .pointer (some ⟨p, 0, none⟩), .pointer (some ⟨q, 0, none⟩)] W fun e w' => e = .returned (.bool r) ∧ w' = W := by
  obtain ⟨h0, h1⟩ := h
  by_cases a : lo ≤ n
  · by_cases b : n ≤ hi
    · have HR : Hid (true = r) := by show _ = _; rw [← hr]; simp [a, b]
      clear hr
      go_enter Tryz.func125, Tryz.ntmps125
      go_wp2_with fail
      go_ret
      exact ⟨ret_bool HR.out, rfl⟩
    · have HR : Hid (false = r) := by show _ = _; rw [← hr]; simp [b]
      clear hr
      go_enter Tryz.func125, Tryz.ntmps125
      go_wp2_with fail
      go_ret
      exact ⟨ret_bool HR.out, rfl⟩
  · have HR : Hid (false = r) := by show _ = _; rw [← hr]; simp [a]
    clear hr
    go_enter Tryz.func125, Tryz.ntmps125
    go_wp2_with fail
    go_ret
    exact ⟨ret_bool HR.out, rfl⟩
theorem mayPref_is (n : Int) (r : Bool) (hr : decide (0 ≤ n ∧ n ≤ 1048576) = r) (W : World) : Calls Tryz.prog 49 #[.int .i64 n] W fun e w' => e = .returned (.bool r) ∧ Below W.heap.size W w' := by
  have C1 := hide (upTo_is 0 1048576 W)
  have C2 := hide (fun p q W => isUpTo_is 0 1048576 n r hr p q W)
  clear hr
  go_enter Tryz.func49, Tryz.ntmps49
  go_wp2_with fail
  refine C1.out.mono ?_
  rintro e w1 ⟨p, q, rfl, hu, hb⟩
  have HB := hide hb
  have C3 := hide (C2.out p q w1 hu)
  clear hb hu C2 C1
  go_wp2_with fail
  refine C3.out.mono ?_
  rintro e w2 ⟨rfl, rfl⟩
  go_wp2_with fail
  go_ret
  exact ⟨rfl, HB.out⟩
theorem mayMed_is (n : Int) (r : Bool) (hr : decide (0 ≤ n ∧ n ≤ 1048576) = r) (W : World) : Calls Tryz.prog 50 #[.int .i64 n] W fun e w' => e = .returned (.bool r) ∧ Below W.heap.size W w' := by
  have C1 := hide (upTo_is 0 1048576 W)
  have C2 := hide (fun p q W => isUpTo_is 0 1048576 n r hr p q W)
  clear hr
  go_enter Tryz.func50, Tryz.ntmps50
  go_wp2_with fail
  refine C1.out.mono ?_
  rintro e w1 ⟨p, q, rfl, hu, hb⟩
  have HB := hide hb
  have C3 := hide (C2.out p q w1 hu)
  clear hb hu C2 C1
  go_wp2_with fail
  refine C3.out.mono ?_
  rintro e w2 ⟨rfl, rfl⟩
  go_wp2_with fail
  go_ret
  exact ⟨rfl, HB.out⟩
theorem mayOrigin_is (n : Int) (r : Bool) (hr : decide (0 ≤ n ∧ n ≤ 2) = r) (W : World) : Calls Tryz.prog 51 #[.int .i64 n] W fun e w' => e = .returned (.bool r) ∧ Below W.heap.size W w' := by
  have C1 := hide (upTo_is 0 2 W)
  have C2 := hide (fun p q W => isUpTo_is 0 2 n r hr p q W)
  clear hr
  go_enter Tryz.func51, Tryz.ntmps51
  go_wp2_with fail
  refine C1.out.mono ?_
  rintro e w1 ⟨p, q, rfl, hu, hb⟩
  have HB := hide hb
  have C3 := hide (C2.out p q w1 hu)
  clear hb hu C2 C1
  go_wp2_with fail
  refine C3.out.mono ?_
  rintro e w2 ⟨rfl, rfl⟩
  go_wp2_with fail
  go_ret
  exact ⟨rfl, HB.out⟩
end Go.Proofs.YtngfoijmknclhaaGreatDoor
namespace Go.Proofs.YtngfoijmknclhaaGreatDoor
open Go.RowKit Go.Sort
theorem as_range (n : Int) : decide (1 ≤ n ∧ n ≤ 65535) = Is.as n := by
  unfold Is.as
  rw [Bool.eq_iff_iff, Bool.and_eq_true, decide_eq_true_eq, decide_eq_true_eq, decide_eq_true_eq]
  omega
theorem reads_getD {W : World} {b off : Nat} {l : List Int} (h : Is.reads W b off l) : ∀ j, j < l.length → W.cell? ⟨b, off + j, none⟩ = some (.int .i64 (l.getD j 0)) := by
  intro j hj
  rw [h j hj, List.getD_eq_getElem?_getD, List.getElem?_eq_getElem hj]
  rfl
theorem Cl.ok_of {l : List Int} (h8 : l.length ≤ 8) (h1 : ∀ j (h : j < l.length), j < l.length → Is.as l[j] = true) (h2 : ∀ i k (hi : i < l.length) (hk : k < i), i < l.length → l[k]'(by omega) ≠ l[i]) : Cl.ok l = true :=
  (Cl.ok_iff l).2 ⟨h8, fun j h => h1 j h h, fun i k hi hk => h2 i k hi hk hi⟩
theorem take_no {l : List Int} {i : Nat} (hi : i < l.length) (h : (l.take i).contains l[i] = false) (k : Nat) (hk : k < i) : l[k]'(by omega) ≠ l[i] := by
  intro e
  have : (l.take i).contains l[i] = true := by
    rw [List.contains_iff_mem, List.mem_iff_getElem]
    exact ⟨k, by simp; omega, by simpa using e⟩
  rw [h] at this
  cases this
theorem take_yes {l : List Int} {i : Nat} (hi : i < l.length) (h : (l.take i).contains l[i] = true) : Cl.ok l = false := by
  rw [List.contains_iff_mem, List.mem_iff_getElem] at h
  obtain ⟨k, hk, e⟩ := h
  have hk' : k < i := by simp at hk; omega
  exact Cl.no_two hi hk' (by simpa using e)
set_option maxHeartbeats 4000000 in
set_option maxRecDepth 100000 in
theorem mayClusters_is (ao : Option Addr) (ca : Nat) (l : List Int) (r : Bool) (hr : Cl.ok l = r) (w : World) (hA : Is.slot w ao l) (hl : l.length ≤ 1000) (hc : l.length ≤ ca) :
    Calls Tryz.prog 87 #[.slice ao l.length ca] w fun e w' => e = .returned (.bool r) ∧ Below w.heap.size w w' := by
  by_cases h8 : 8 < l.length
  · have h8' : (8 : Int) < (l.length : Int) := by omega
    have HN := hide (hr.symm.trans (Cl.no_len h8))
    clear hr hl hc h8
    go_enter Tryz.func87, Tryz.ntmps87
    go_wp2_with fail
    go_ret
    exact ⟨ret_bool HN.out.symm, brefl w⟩
  · have h8' : ¬ (8 : Int) < (l.length : Int) := by omega
    have H8 := hide (Nat.le_of_not_lt h8)
    have HR := hide hr
    have HC := hide hc
    have C1 := hide (upTo_is 1 65535 w)
    clear hr hc h8
    go_enter Tryz.func87, Tryz.ntmps87
    go_wp2_with fail
    refine C1.out.mono ?_
    rintro e w1 ⟨p, q, rfl, hu, hb⟩
    have HS := hide (Is.slot_below hA hb)
    have HB := hide hb
    have C2 := hide (fun n r hr => isUpTo_is 1 65535 n r hr p q w1 hu)
    clear hu hb hA C1
    go_wp2_with fail
    go_loop [12] (fun t => ∃ i : Nat, t = .int .i64 i ∧ i ≤ l.length ∧ Hid (∀ j (h : j < l.length), j < i → Is.as l[j] = true) ∧ Hid (∀ i' k (hi : i' < l.length) (hk : k < i'), i' < i → l[k]'(by omega) ≠ l[i'])) (fun t => l.length - (intOf t).toNat)
    case atStart => exact ⟨0, rfl, Nat.zero_le _, hide fun _ _ h => absurd h (Nat.not_lt_zero _), hide fun _ _ _ _ h => absurd h (Nat.not_lt_zero _)⟩
    case round =>
      obtain ⟨i, rfl, hi, HAS, HI⟩ := hrel
      by_cases hil : i < l.length
      · have hil' : (i : Int) < (l.length : Int) := by omega
        have hic : i ≤ ca := Nat.le_trans hi HC.out
        have hic' : (i : Int) ≤ (ca : Int) := by omega
        obtain ⟨b, off, rfl, hrd⟩ := Is.slot_at HS.out hil
        have RD := hide hrd
        have e0 := hrd i hil
        clear hrd
        cases has : Is.as l[i]
        · have HN := hide (HR.out.symm.trans (Cl.no_as hil has))
          have CA := hide (C2.out l[i] false ((as_range _).trans has))
          clear has
          generalize l[i] = y at e0 CA
          go_wp2_with fail
          refine CA.out.mono ?_
          rintro e w2 ⟨rfl, rfl⟩
          go_wp2_with fail
          go_ret
          exact ⟨ret_bool HN.out.symm, HB.out⟩
        · have CA := hide (C2.out l[i] true ((as_range _).trans has))
          have CN := hide (Tryz.slices_Contains_int b off i ca l l[i] w1 hi (by omega) (reads_getD RD.out))
          have HAS' : Hid (∀ j (h : j < l.length), j < i + 1 → Is.as l[j] = true) := fun j h hj => by
            rcases Nat.lt_or_ge j i with h' | h'
            · exact HAS.out j h h'
            · obtain rfl : j = i := by omega
              exact has
          cases hcn : (l.take i).contains l[i]
          · have HI' : Hid (∀ i' k (hi : i' < l.length) (hk : k < i'), i' < i + 1 → l[k]'(by omega) ≠ l[i']) := fun i' k hi' hk hj => by
              rcases Nat.lt_or_ge i' i with h' | h'
              · exact HI.out i' k hi' hk h'
              · obtain rfl : i' = i := by omega
                exact take_no hil hcn k hk
            rw [hcn] at CN
            clear has hcn HAS HI C2
            generalize l[i] = y at e0 CA CN
            go_wp2_with fail
            refine CA.out.mono ?_
            rintro e w2 ⟨rfl, rfl⟩
            go_wp2_with fail
            refine CN.out.mono ?_
            rintro e w3 ⟨rfl, rfl⟩
            go_wp2_with fail
            exact ⟨⟨i + 1, by go_num, hil, HAS', HI'⟩, by simp [intOf] <;> omega⟩
          · have HN := hide (HR.out.symm.trans (take_yes hil hcn))
            rw [hcn] at CN
            clear has hcn HAS HI C2
            generalize l[i] = y at e0 CA CN
            go_wp2_with fail
            refine CA.out.mono ?_
            rintro e w2 ⟨rfl, rfl⟩
            go_wp2_with fail
            refine CN.out.mono ?_
            rintro e w3 ⟨rfl, rfl⟩
            go_wp2_with fail
            go_ret
            exact ⟨ret_bool HN.out.symm, HB.out⟩
      · have hil' : ¬ (i : Int) < (l.length : Int) := by omega
        obtain rfl : i = l.length := by omega
        have HN := hide (HR.out.symm.trans (Cl.ok_of H8.out HAS.out HI.out))
        go_wp2_with fail
        go_ret
        exact ⟨ret_bool HN.out.symm, HB.out⟩
end Go.Proofs.YtngfoijmknclhaaGreatDoor
namespace Go.Proofs.YtngfoijmknclhaaGreatDoor
open Go.RowKit
set_option maxHeartbeats 4000000 in
set_option maxRecDepth 100000 in
theorem refClusters_is (ao : Option Addr) (ca : Nat) (l : List Int) (r : Bool) (hr : Cl.ok l = r) (w : World) (hA : Is.slot w ao l) (hl : l.length ≤ 1000) :
    Calls Tryz.prog 69 #[.slice ao l.length ca] w fun e w' => e = .returned (.bool r) ∧ Below w.heap.size w w' := by
  have HS := hide hA
  have HR := hide hr
  clear hA hr
  go_enter Tryz.func69, Tryz.ntmps69
  go_wp2_with fail
  go_loopw [3, 4] (fun v3 _ wr => ∃ i : Nat, v3 = .int .i64 i ∧ i ≤ l.length ∧ i ≤ 8 ∧ Hid (∀ j (h : j < l.length), j < i → Is.as l[j] = true) ∧ Hid (∀ i' k (hi : i' < l.length) (hk : k < i'), i' < i → l[k]'(by omega) ≠ l[i']) ∧ Below w.heap.size w wr) (fun v3 _ _ => l.length - (intOf v3).toNat)
  case atStart => exact ⟨0, rfl, Nat.zero_le _, by decide, hide fun _ _ h => absurd h (Nat.not_lt_zero _), hide fun _ _ _ _ h => absurd h (Nat.not_lt_zero _), brefl w⟩
  case round =>
    obtain ⟨i, rfl, hi, hi8, HAS, HI, hbr⟩ := hrel
    have HBR := hide hbr
    clear hbr
    by_cases hil : i < l.length
    · have hil' : (i : Int) < (l.length : Int) := by omega
      by_cases h8 : i = 8
      · subst h8
        have HN := hide (HR.out.symm.trans (Cl.no_len hil))
        go_wp2_with fail
        go_ret
        exact ⟨ret_bool HN.out.symm, HBR.out⟩
      have h8' : ¬ (8 : Int) ≤ (i : Int) := by omega
      obtain ⟨b, off, rfl, hrd⟩ := Is.slot_at (Is.slot_below HS.out HBR.out) hil
      have RD := hide hrd
      have e0 := hrd i hil
      clear hrd
      cases has : Is.as l[i]
      · have HN := hide (HR.out.symm.trans (Cl.no_as hil has))
        have CA := hide (fun W => refAS_is l[i] false has W)
        clear has
        generalize l[i] = y at e0 CA
        go_wp2_with fail
        refine (CA.out _).mono ?_
        rintro e w2 ⟨rfl, rfl⟩
        go_wp2_with fail
        go_ret
        exact ⟨ret_bool HN.out.symm, HBR.out⟩
      have CA := hide (fun W => refAS_is l[i] true has W)
      have HASI := hide has
      clear has
      generalize hy : l[i] = y at e0 CA
      clear hy
      go_wp2_with fail
      refine (CA.out _).mono ?_
      rintro e w2 ⟨rfl, hw⟩
      subst w2
      go_wp2_with fail
      obtain ⟨wA, hwA⟩ : ∃ x, x = wr := ⟨_, rfl⟩
      subst hwA
      clear e0 CA
      go_loopw [4] (fun v4 wq => ∃ k : Nat, v4 = .int .i64 k ∧ k ≤ i ∧ Hid (∀ k' (hk : k' < i), k' < k → l[k']'(by omega) ≠ l[i]) ∧ Below wA.heap.size wA wq) (fun v4 _ => i - (intOf v4).toNat)
      case atStart => exact ⟨0, rfl, Nat.zero_le _, hide fun k _ h => absurd h (Nat.not_lt_zero _), brefl _⟩
      case round =>
        obtain ⟨k, rfl, hk, HK, hbq⟩ := hrel
        have HBQ := hide hbq
        clear hbq
        by_cases hki : k < i
        · have hki' : (k : Int) < (i : Int) := by omega
          have hkl : k < l.length := by omega
          have hkl' : (k : Int) < (l.length : Int) := by omega
          have e0 := (Is.reads_below RD.out HBQ.out) i hil
          have e1 := (Is.reads_below RD.out HBQ.out) k hkl
          have HY := hide (Cl.no_two hil hki)
          generalize hu : l[i] = u at e0 HY
          generalize hv : l[k] = v at e1 HY
          have HUV : Hid (v ≠ u → l[k] ≠ l[i]) := by show _ → _; rw [hu, hv]; exact id
          have HU := hide hu
          clear hu hv
          have r0 := fun dd os => cell_regrown e0 dd os
          have r1 := fun dd os => cell_regrown e1 dd os
          by_cases huv : v = u
          · have HN := hide (HR.out.symm.trans (HY.out huv))
            subst huv
            clear HY HUV
            go_wp2_with fail
            refine wp_region_quiet_below (by kernel_rfl) (by kernel_rfl) ?_
            repeat (go_big_quiet_step (fail))
            refine wpQuiet_nil ?_
            rintro _ ⟨⟨dd, os⟩, rfl⟩
            have hb2 := below_regrown wr dd os
            generalize Sort.grow (redrawn wr dd) os = w2 at hb2
            have B2 := hide (bthen HBR.out (bthen HBQ.out hb2))
            clear hb2 r0 r1 e0 e1
            go_wp2_with fail
            go_ret
            exact ⟨ret_bool HN.out.symm, B2.out⟩
          · have HN := hide (HUV.out huv)
            have huv' : (v == u) = false := by simpa using huv
            clear HY HUV
            go_wp2_with fail
            refine wp_region_quiet_below (by kernel_rfl) (by kernel_rfl) ?_
            repeat (go_big_quiet_step (fail))
            refine wpQuiet_nil ?_
            rintro _ ⟨⟨dd, os⟩, rfl⟩
            have hb2 := below_regrown wr dd os
            generalize Sort.grow (redrawn wr dd) os = w2 at hb2
            have B2 := hide (bthen HBQ.out hb2)
            clear hb2 r0 r1 e0 e1
            go_wp2_with fail
            refine ⟨⟨k + 1, by go_num, by omega, hide fun k' hk' h => ?_, B2.out⟩, by simp [intOf] <;> omega⟩
            rcases Nat.lt_or_ge k' k with h1 | h1
            · rw [← HU.out]
              exact HK.out k' hk' h1
            · obtain rfl : k' = k := by omega
              rw [← HU.out]
              exact HN.out
        · obtain rfl : k = i := by omega
          go_wp2_with fail
          refine ⟨⟨k + 1, by go_num, by omega, by omega, hide fun j hj h => ?_, hide fun i' k' hi' hk' h => ?_, bthen HBR.out HBQ.out⟩, by simp [intOf] <;> omega⟩
          · rcases Nat.lt_or_ge j k with h1 | h1
            · exact HAS.out j hj h1
            · obtain rfl : j = k := by omega
              exact HASI.out
          · rcases Nat.lt_or_ge i' k with h1 | h1
            · exact HI.out i' k' hi' hk' h1
            · obtain rfl : i' = k := by omega
              exact HK.out k' hk' hk'
    · obtain rfl : i = l.length := by omega
      have HN := hide (HR.out.symm.trans ((Cl.ok_iff l).2 ⟨hi8, fun j hj => HAS.out j hj hj, fun i k hi hk => HI.out i k hi hk hi⟩))
      go_wp2_with fail
      go_ret
      exact ⟨ret_bool HN.out.symm, HBR.out⟩
/-- What of attributes is numbers may be. -/
def At.nums (a b c f : Int) : Bool := decide (0 ≤ a ∧ a ≤ 1048576 ∧ 0 ≤ b ∧ b ≤ 1048576 ∧ 0 ≤ c ∧ c ≤ 2 ∧ 0 ≤ f ∧ f ≤ 65535)
theorem At.may_eq (a : At) : At.may a = (At.nums a.pf a.md a.og a.fr && (Is.may a.path && (Cm.Co.set a.comms && Cl.ok a.cl))) := rfl
theorem nums_cases (a b c f : Int) : (At.nums a b c f = true ∧ ¬ a < 0 ∧ ¬ 1048576 < a ∧ ¬ b < 0 ∧ ¬ 1048576 < b ∧ ¬ c < 0 ∧ ¬ 2 < c ∧ ¬ f < 0 ∧ ¬ 65535 < f) ∨ (At.nums a b c f = false ∧ (a < 0 ∨ (¬ a < 0 ∧ 1048576 < a) ∨ (¬ a < 0 ∧ ¬ 1048576 < a ∧ b < 0) ∨ (¬ a < 0 ∧ ¬ 1048576 < a ∧ ¬ b < 0 ∧ 1048576 < b) ∨ (¬ a < 0 ∧ ¬ 1048576 < a ∧ ¬ b < 0 ∧ ¬ 1048576 < b ∧ c < 0) ∨ (¬ a < 0 ∧ ¬ 1048576 < a ∧ ¬ b < 0 ∧ ¬ 1048576 < b ∧ ¬ c < 0 ∧ 2 < c) ∨ (¬ a < 0 ∧ ¬ 1048576 < a ∧ ¬ b < 0 ∧ ¬ 1048576 < b ∧ ¬ c < 0 ∧ ¬ 2 < c ∧ f < 0) ∨ (¬ a < 0 ∧ ¬ 1048576 < a ∧ ¬ b < 0 ∧ ¬ 1048576 < b ∧ ¬ c < 0 ∧ ¬ 2 < c ∧ ¬ f < 0 ∧ 65535 < f))) := by
  unfold At.nums
  by_cases h : 0 ≤ a ∧ a ≤ 1048576 ∧ 0 ≤ b ∧ b ≤ 1048576 ∧ 0 ≤ c ∧ c ≤ 2 ∧ 0 ≤ f ∧ f ≤ 65535
  · exact .inl ⟨decide_eq_true h, by omega, by omega, by omega, by omega, by omega, by omega, by omega, by omega⟩
  · refine .inr ⟨decide_eq_false h, ?_⟩
    omega
end Go.Proofs.YtngfoijmknclhaaGreatDoor
namespace Go.Proofs.YtngfoijmknclhaaGreatDoor
open Go.RowKit
set_option maxHeartbeats 4000000 in
set_option maxRecDepth 100000 in
theorem refMayA_is (a : At) (po co ko : Option Addr) (cp cc ck : Nat) (r : Bool) (hr : At.may a = r) (w : World) (hA : At.lies w a po co ko) (h1 : a.path.length ≤ 100) (h2 : a.comms.length ≤ 100) (h3 : a.cl.length ≤ 100) :
    Calls Tryz.prog 29 #[.agg #[.int .i64 a.pf, .int .i64 a.md, .int .i64 a.og, .slice po a.path.length cp, .slice co a.comms.length cc, .int .i64 a.fr, .slice ko a.cl.length ck]] w fun e w' => e = .returned (.bool r) ∧ Below w.heap.size w w' := by
  obtain ⟨x0, x1, x2, pa, cm, x5, kl⟩ := a
  simp only at *
  rw [At.may_eq] at hr
  simp only at hr
  have HB := hide (balloc (brefl w) (.cells #[.int .i64 x0, .int .i64 x1, .int .i64 x2, .slice po pa.length cp, .slice co cm.length cc, .int .i64 x5, .slice ko kl.length ck] 30))
  have N0 := hide (heap_new w #[.int .i64 x0, .int .i64 x1, .int .i64 x2, .slice po pa.length cp, .slice co cm.length cc, .int .i64 x5, .slice ko kl.length ck] 30)
  have HL := hide (At.lies_below hA HB.out)
  clear hA
  rcases nums_cases x0 x1 x2 x5 with ⟨hn, k0, k1, k2, k3, k4, k5, k6, k7⟩ | ⟨hn, hc⟩
  · rw [hn, Bool.true_and] at hr
    have HR := hide hr
    clear hr hn
    have H1 := hide h1
    have H2 := hide h2
    have H3 := hide h3
    clear h1 h2 h3
    go_enter Tryz.func29, Tryz.ntmps29
    go_wp2_with fail
    generalize w.alloc (.cells #[.int .i64 x0, .int .i64 x1, .int .i64 x2, .slice po pa.length cp, .slice co cm.length cc, .int .i64 x5, .slice ko kl.length ck] 30) = W at *
    obtain ⟨p, hp⟩ : ∃ p, w.heap.size = p := ⟨_, rfl⟩
    rw [hp] at N0
    rw [hp]
    clear hp
    obtain ⟨c0, c1, c2, c3, c4, c5, c6⟩ := seven_cells N0.out
    cases hm : Is.may pa
    · have CM := hide (refMay_is po cp pa false hm W HL.out.1 (by have := H1.out; omega))
      have HN : Hid (r = false) := by show _ = _; rw [← HR.out, hm]; rfl
      clear hm
      refine CM.out.mono ?_
      rintro e w1 ⟨rfl, hw⟩
      subst w1
      go_wp2_with fail
      go_ret
      exact ⟨ret_bool HN.out.symm, HB.out⟩
    have CM := hide (refMay_is po cp pa true hm W HL.out.1 (by have := H1.out; omega))
    refine CM.out.mono ?_
    rintro e w1 ⟨rfl, hw⟩
    subst w1
    cases hc : Cm.Co.set cm
    · have CC := hide (Cm.refSet_is co cc cm false hc W HL.out.2.1 (by have := H2.out; omega))
      have HN : Hid (r = false) := by show _ = _; rw [← HR.out, hm, hc]; rfl
      clear hm hc CM
      go_wp2_with fail
      refine CC.out.mono ?_
      rintro e w2 ⟨rfl, hb2⟩
      have HB2 := hide (bthen HB.out hb2)
      clear hb2 CC
      go_wp2_with fail
      go_ret
      exact ⟨ret_bool HN.out.symm, HB2.out⟩
    have CC := hide (Cm.refSet_is co cc cm true hc W HL.out.2.1 (by have := H2.out; omega))
    have HN : Hid (Cl.ok kl = r) := by show _ = _; rw [← HR.out, hm, hc]; rfl
    clear hm hc CM
    go_wp2_with fail
    refine CC.out.mono ?_
    rintro e w2 ⟨rfl, hb2⟩
    have HB2 := hide (bthen HB.out hb2)
    have CK := hide (refClusters_is ko ck kl r HN.out w2 (Is.slot_below HL.out.2.2 hb2) (by have := H3.out; omega))
    have N2 := hide ((hb2.block p (heap_lt N0.out)).trans N0.out)
    clear hb2 CC c0 c1 c2 c3 c4 c5 c6
    obtain ⟨c0, c1, c2, c3, c4, c5, c6⟩ := seven_cells N2.out
    go_wp2_with fail
    refine CK.out.mono ?_
    rintro e w3 ⟨rfl, hb3⟩
    have HB3 := hide (bthen HB2.out hb3)
    clear hb3 CK
    go_wp2_with fail
    go_ret
    exact ⟨rfl, HB3.out⟩
  · rw [hn, Bool.false_and] at hr
    subst hr
    clear hn
    rcases hc with k0 | ⟨k0, k1⟩ | ⟨k0, k1, k2⟩ | ⟨k0, k1, k2, k3⟩ | ⟨k0, k1, k2, k3, k4⟩ | ⟨k0, k1, k2, k3, k4, k5⟩ | ⟨k0, k1, k2, k3, k4, k5, k6⟩ | ⟨k0, k1, k2, k3, k4, k5, k6, k7⟩
    all_goals
      go_enter Tryz.func29, Tryz.ntmps29
      go_wp2_with fail
      go_ret
      exact ⟨rfl, HB.out⟩
end Go.Proofs.YtngfoijmknclhaaGreatDoor
