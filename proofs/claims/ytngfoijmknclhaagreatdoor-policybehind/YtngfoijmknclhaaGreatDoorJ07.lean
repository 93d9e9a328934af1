/- Attributes: what may be, how two stand to one another, how a change is done. -/
import Derived.Test.YtngfoijmknclhaaGreatDoorJ01
import Derived.Test.YtngfoijmknclhaaGreatDoorJ02
import Derived.Test.YtngfoijmknclhaaGreatDoorJ03
import Derived.Test.YtngfoijmknclhaaGreatDoorJ05
import Derived.Test.YtngfoijmknclhaaGreatDoorJ06
import Derived.Deep.CutBlock
import Derived.Lib.AppendZeros
import Derived.Laws.AppendOwn
import Derived.Laws.AppendOwnNone
import Derived.Deep.AppendLies
import Derived.Laws.BitsAllLaws
import Derived.Test.YtngfoijmknclhaaGreatDoorProg
import Derived.WalkKit
import Derived.WalkSpells
import Derived.WalkLawsBesides
import Derived.Deep.QuietTactic
import Derived.BigQuiet
import Derived.Lib.QuietBelow
import Derived.Deep.Cut
import Derived.RegionTactic
import Derived.Lib.Builder
namespace Go.Proofs.YtngfoijmknclhaaGreatDoor
open Go.RowKit
/-- Attributes. -/
structure At where
  pf : Int
  md : Int
  og : Int
  path : List Int
  comms : List Cm.Co.C
  fr : Int
  cl : List Int
/-- Numbers of reflectors. -/
def Cl.ok (l : List Int) : Bool := decide (l.length ≤ 8) && l.all Is.as && decide l.Nodup
def At.may (a : At) : Bool := decide (0 ≤ a.pf ∧ a.pf ≤ 1048576 ∧ 0 ≤ a.md ∧ a.md ≤ 1048576 ∧ 0 ≤ a.og ∧ a.og ≤ 2 ∧ 0 ≤ a.fr ∧ a.fr ≤ 65535) && (Is.may a.path && (Cm.Co.set a.comms && Cl.ok a.cl))
end Go.Proofs.YtngfoijmknclhaaGreatDoor
namespace Go.Proofs.YtngfoijmknclhaaGreatDoor
open Go.RowKit
theorem seven_cells {w : World} {b y : Nat} {x0 x1 x2 x3 x4 x5 x6 : Value} (h : w.heap[b]? = some (.cells #[x0, x1, x2, x3, x4, x5, x6] y (0, 0))) :
    w.cell? ⟨b, 0, none⟩ = some x0 ∧ w.cell? ⟨b, 1, none⟩ = some x1 ∧ w.cell? ⟨b, 2, none⟩ = some x2 ∧ w.cell? ⟨b, 3, none⟩ = some x3 ∧ w.cell? ⟨b, 4, none⟩ = some x4 ∧ w.cell? ⟨b, 5, none⟩ = some x5 ∧ w.cell? ⟨b, 6, none⟩ = some x6 := by
  refine ⟨?_, ?_, ?_, ?_, ?_, ?_, ?_⟩ <;> (unfold World.cell?; rw [h]; rfl)
theorem heap_new (w : World) (x : Array Value) (t : TypeId) : (w.alloc (.cells x t)).heap[w.heap.size]? = some (.cells x t (0, 0)) := by
  show (w.heap.push (.cells x t))[w.heap.size]? = _
  rw [Array.getElem?_push, if_pos rfl]
/-- Where the lists of attributes lie. -/
def At.lies (w : World) (a : At) (p c k : Option Addr) : Prop := Is.slot w p a.path ∧ Cm.Co.slot w c a.comms ∧ Is.slot w k a.cl
theorem At.lies_below {w w' : World} {a : At} {p c k : Option Addr} (h : At.lies w a p c k) (hb : Below w.heap.size w w') : At.lies w' a p c k :=
  ⟨Is.slot_below h.1 hb, Cm.Co.slot_below h.2.1 hb, Is.slot_below h.2.2 hb⟩
/-- Few parts. -/
def few3 (x y z : Nat) : Bool := decide (x ≤ 100) && (decide (y ≤ 100) && decide (z ≤ 100))
theorem few3_iff (x y z : Nat) : few3 x y z = true ↔ x ≤ 100 ∧ y ≤ 100 ∧ z ≤ 100 := by simp [few3]
theorem le_int (n : Nat) : decide ((n : Int) ≤ 100) = decide (n ≤ 100) := by
  congr 1
  simp only [eq_iff_iff]
  omega
set_option maxRecDepth 100000 in
theorem few_is (p0 p1 p2 f : Int) (po co ko : Option Addr) (np nc nk cp cc ck : Nat) (r : Bool) (hr : few3 np nc nk = r) (w : World) :
    Calls Tryz.prog 9 #[.agg #[.int .i64 p0, .int .i64 p1, .int .i64 p2, .slice po np cp, .slice co nc cc, .int .i64 f, .slice ko nk ck]] w fun e w' => e = .returned (.bool r) ∧ Below w.heap.size w w' := by
  have HB := hide (balloc (brefl w) (.cells #[.int .i64 p0, .int .i64 p1, .int .i64 p2, .slice po np cp, .slice co nc cc, .int .i64 f, .slice ko nk ck] 30))
  have e1 := le_int np
  have e2 := le_int nc
  have e3 := le_int nk
  have HR : Hid (r = (decide (np ≤ 100) && (decide (nc ≤ 100) && decide (nk ≤ 100)))) := hr.symm
  generalize decide (np ≤ 100) = x at *
  generalize decide (nc ≤ 100) = y at *
  generalize decide (nk ≤ 100) = z at *
  clear hr
  cases x
  · go_enter Tryz.func9, Tryz.ntmps9
    go_wp2_with fail
    go_ret
    exact ⟨ret_bool (by rw [HR.out]; rfl), HB.out⟩
  · cases y
    · go_enter Tryz.func9, Tryz.ntmps9
      go_wp2_with fail
      go_ret
      exact ⟨ret_bool (by rw [HR.out]; rfl), HB.out⟩
    · go_enter Tryz.func9, Tryz.ntmps9
      go_wp2_with fail
      go_ret
      exact ⟨ret_bool (by rw [HR.out]; rfl), HB.out⟩
set_option maxRecDepth 100000 in
theorem fewSet_is (p0 p1 p2 : Int) (ao co ko : Option Addr) (na nd np ca cd cp : Nat) (b : Bool) (r : Bool) (hr : few3 na nd np = r) (w : World) :
    Calls Tryz.prog 23 #[.agg #[.int .i64 p0, .int .i64 p1, .int .i64 p2, .slice ao na ca, .slice co nd cd, .bool b, .slice ko np cp]] w fun e w' => e = .returned (.bool r) ∧ Below w.heap.size w w' := by
  have HB := hide (balloc (brefl w) (.cells #[.int .i64 p0, .int .i64 p1, .int .i64 p2, .slice ao na ca, .slice co nd cd, .bool b, .slice ko np cp] 43))
  have e1 := le_int na
  have e2 := le_int nd
  have e3 := le_int np
  have HR : Hid (r = (decide (na ≤ 100) && (decide (nd ≤ 100) && decide (np ≤ 100)))) := hr.symm
  generalize decide (na ≤ 100) = x at *
  generalize decide (nd ≤ 100) = y at *
  generalize decide (np ≤ 100) = z at *
  clear hr
  cases x
  · go_enter Tryz.func23, Tryz.ntmps23
    go_wp2_with fail
    go_ret
    exact ⟨ret_bool (by rw [HR.out]; rfl), HB.out⟩
  · cases y
    · go_enter Tryz.func23, Tryz.ntmps23
      go_wp2_with fail
      go_ret
      exact ⟨ret_bool (by rw [HR.out]; rfl), HB.out⟩
    · go_enter Tryz.func23, Tryz.ntmps23
      go_wp2_with fail
      go_ret
      exact ⟨ret_bool (by rw [HR.out]; rfl), HB.out⟩
theorem Cl.ok_iff (l : List Int) : Cl.ok l = true ↔ l.length ≤ 8 ∧ (∀ j (h : j < l.length), Is.as l[j] = true) ∧ ∀ i k (hi : i < l.length) (hk : k < i), l[k]'(by omega) ≠ l[i] := by
  unfold Cl.ok
  rw [Bool.and_eq_true, Bool.and_eq_true, decide_eq_true_eq, decide_eq_true_eq, List.all_eq_true, and_assoc]
  refine and_congr Iff.rfl (and_congr ?_ ?_)
  · constructor
    · exact fun h j hj => h _ (List.getElem_mem hj)
    · intro h x hx
      obtain ⟨j, hj, rfl⟩ := List.mem_iff_getElem.1 hx
      exact h j hj
  · rw [List.nodup_iff_pairwise_ne, List.pairwise_iff_getElem]
    constructor
    · exact fun h i k hi hk => h k i (by omega) hi hk
    · exact fun h i j hi hj hij => h j i hj hij
theorem Cl.no_len {l : List Int} (h : 8 < l.length) : Cl.ok l = false := by
  cases hm : Cl.ok l
  · rfl
  · have := ((Cl.ok_iff l).1 hm).1
    omega
theorem Cl.no_as {l : List Int} {k : Nat} (hk : k < l.length) (h : Is.as l[k] = false) : Cl.ok l = false := by
  cases hm : Cl.ok l
  · rfl
  · have := ((Cl.ok_iff l).1 hm).2.1 k hk
    rw [h] at this
    cases this
theorem Cl.no_two {l : List Int} {i k : Nat} (hi : i < l.length) (hk : k < i) (h : l[k]'(by omega) = l[i]) : Cl.ok l = false := by
  cases hm : Cl.ok l
  · rfl
  · exact absurd h (((Cl.ok_iff l).1 hm).2.2 i k hi hk)
end Go.Proofs.YtngfoijmknclhaaGreatDoor
namespace Go.Proofs.YtngfoijmknclhaaGreatDoor.Cm
open Go.RowKit Go.Sort
theorem infoC : (Tryz.prog.info? 39).map (fun i => (i.zero, i.size, i.bytes)) = some (some (.agg #[.int .i64 0, .int .i64 0]), 2, 16) := by kernel_rfl
theorem info_partsC : ∃ i0 : TypeInfo, Tryz.prog.info? 39 = some i0 ∧ i0.zero = some (.agg #[.int .i64 0, .int .i64 0]) ∧ i0.size = 2 ∧ i0.bytes = 16 := by
  have h := infoC
  cases hi : Tryz.prog.info? 39 with
  | none => rw [hi] at h; cases h
  | some i0 =>
    rw [hi] at h
    simp only [Option.map_some, Option.some.injEq, Prod.mk.injEq] at h
    exact ⟨i0, rfl, h.1, h.2.1, h.2.2⟩

/-- A slice that came in: nil has no room, and no place within a place. -/
def Co.came (ao : Option Addr) (cap : Nat) : Prop := (ao = none → cap = 0) ∧ (∀ ad, ao = some ad → ad.spot = none)

/-- Nil has no room. -/
def Co.nilW (ao : Option Addr) (cap : Nat) : Prop := ao = none → cap = 0
/-- A list put behind a row of the call's own. -/
theorem append_list {w w0 : World} {ops : Array Oper} {rest : List Oper} {o : Oper} {a : Act} {Q : Exit → Act → World → Prop} (hgd : o.guard = none) (s x : Operand)
    (ho : o.op = .call { callee := .builtin .append, args := #[s, x], argTypes := #[28, 28] }) (v : Value) (n : Nat) (xs : List Co.C) (hs : a.eval s = v) (hown : w.ownsRow w0.heap.size 39 2 v n (Co.cells xs))
    (ao : Option Addr) (cap : Nat) (l : List Co.C) (hx : a.eval x = .slice ao l.length cap) (hR : Co.slot w ao l) (hC : Co.nilW ao cap) (hn : n + l.length ≤ 1000000) (hb : Below w0.heap.size w0 w)
    (h : ∀ v' w', w'.ownsRow w0.heap.size 39 2 v' (n + l.length) (Co.cells (xs ++ l)) → Below w0.heap.size w0 w' → wpList Tryz.prog ops Q rest (a.put o.dst v') w') : wpList Tryz.prog ops Q (o :: rest) a w := by
  obtain ⟨i0, hi, hz0, hz1, hz2⟩ := info_partsC
  cases ao with
  | none =>
    have hl : l = [] := by
      rcases hR with h | ⟨b, off, h, _⟩
      · exact h
      · cases h
    subst hl
    rw [hC rfl] at hx
    refine wpList_append_own_none hgd s x 28 ho w0.heap.size 39 i0 2 Tryz.underlying28 hi v n (Co.cells xs) hs hown hx ?_
    exact h v w (by simpa using hown) hb
  | some ad =>
    have hrd : ∀ j u, (Co.cells l)[j]? = some u → w.cell? (ad.add j) = some u := by
      intro j u hu
      rcases hR with h | ⟨b', off', h, hr⟩
      · rw [h] at hu; simp [Co.cells] at hu
      · obtain rfl := Option.some.inj h
        rw [show (⟨b', off', none⟩ : Addr).add j = ⟨b', off' + j, none⟩ by unfold Addr.add; split <;> simp_all]
        exact hr j u hu
    refine wpList_append_own w hgd s x 28 ho w0.heap.size 39 i0 _ 2 16 Tryz.underlying28 hi hz0 hz1 hz2 rfl (by decide) v n (Co.cells xs) hs hown ad l.length cap (Co.cells l) hx (Co.cells_length l) hrd (Co.cells_one l) (by unfold maxLen; omega) (by omega) hb.size ?_
    intro v' w' ho' hg _
    refine h v' w' ?_ (Below.grown hb hg hb.size fun k hk => (hown.lt k hk).1)
    rw [Co.cells_app]
    exact ho'

set_option maxHeartbeats 1000000 in
theorem grow_nil (n : Nat) (hn : n ≤ 100000) (w : World) :
    Calls Tryz.prog 192 #[.slice none 0 0, .int .i64 n] w fun e w' => ∃ v, e = .returned v ∧ w'.ownsRow w.heap.size 39 2 v 0 [] ∧ Below w.heap.size w w' := by
  rcases Nat.eq_zero_or_pos n with h0 | h0
  · subst h0
    go_enter Tryz.func192, Tryz.ntmps192
    go_wp2_with fail
    go_ret
    exact ⟨_, rfl, World.ownsRow_nil _ _ _ _, brefl w⟩
  · obtain ⟨i0, hi, hz0, hz1, hz2⟩ := info_partsC
    have hr := fun ty => Lib.run_append_nil_zeros (P := Tryz.prog) w 28 3 ty 39 i0 _ .i64 .i64 Tryz.underlying28 Tryz.underlying3 hi hz0 n h0 (by omega) (by omega) (by rw [hz2]; omega)
    have hge := grownCap_ge w n 0 39
    have hle : grownCap w n 0 39 ≤ maxLen := grownCap_le_maxLen w n 0 39 (by unfold maxLen; omega)
    have hneg : ¬ (n : Int) < 0 := by omega
    have hpos : (0 : Int) < (n : Int) := by omega
    generalize grownCap w n 0 39 = C at *
    have HR := hide hr
    clear hr hi hz0 hz1 hz2
    go_enter Tryz.func192, Tryz.ntmps192
    go_wp2_with (at_builtin; go_must (refine Lib.wpList_append_run _ rfl _ _ _ _ rfl _ _ rfl rfl _ _ (HR.out _) ?_))
    go_ret
    refine ⟨_, rfl, ⟨rfl, .inr ⟨w.heap.size, C, _, rfl, Nat.le_refl _, heap_alloc_new w _, Nat.zero_le _, hle, ?_, ?_⟩⟩, (balloc (brefl w) _).drew⟩
    · have e : (#[Value.int IntKind.i64 0, Value.int IntKind.i64 0] : Array Value).size = 2 := rfl
      simp only [Array.size_append, size_zeroCells, e]
      omega
    · simp

set_option maxHeartbeats 2000000 in
theorem concat_is (g2 c2 : Nat) (ao bo : Option Addr) (ca cb : Nat) (l m : List Co.C) (w : World) (h0 : w.cell? ⟨g2, 0, none⟩ = some (.slice ao l.length ca)) (h1 : w.cell? ⟨g2, 0 + 1, none⟩ = some (.slice bo m.length cb))
    (hA : Co.slot w ao l) (hB : Co.slot w bo m) (hCA : Co.nilW ao ca) (hCB : Co.nilW bo cb) (hla : l.length ≤ 10000) (hlb : m.length ≤ 10000) :
    Calls Tryz.prog 170 #[.slice (some ⟨g2, 0, none⟩) 2 c2] w fun e w' => ∃ v, e = .returned v ∧ w'.ownsRow w.heap.size 39 2 v (l.length + m.length) (Co.cells (l ++ m)) ∧ Below w.heap.size w w' := by
  have HA := hide hA
  have HB := hide hB
  have HCA := hide hCA
  have HCB := hide hCB
  have H0 := hide h0
  have H1 := hide h1
  clear hA hB hCA hCB
  have hn1 : ¬ (l.length : Int) < 0 := by omega
  have hn2 : ¬ (l.length : Int) + (m.length : Int) < 0 := by omega
  go_enter Tryz.func170, Tryz.ntmps170
  go_wp2_with fail
  go_loopw [3, 11] (fun v3 v11 wr => w = wr ∧ ((v11 = .int .i64 0 ∧ v3 = .int .i64 0) ∨ (v11 = .int .i64 1 ∧ v3 = .int .i64 l.length) ∨ (v11 = .int .i64 2 ∧ v3 = .int .i64 ((l.length + m.length : Nat) : Int)))) (fun _ v11 _ => 2 - (intOf v11).toNat)
  case atStart => exact ⟨rfl, .inl ⟨rfl, rfl⟩⟩
  case round =>
    obtain ⟨rfl, hrel⟩ := hrel
    rcases hrel with ⟨rfl, rfl⟩ | ⟨rfl, rfl⟩ | ⟨rfl, rfl⟩
    · go_wp2_with fail
      exact ⟨⟨trivial, .inr (.inl ⟨by go_num, by go_num⟩)⟩, by simp [intOf]⟩
    · go_wp2_with fail
      exact ⟨⟨trivial, .inr (.inr ⟨by go_num, by go_num⟩)⟩, by simp [intOf]⟩
    · have CG := hide (grow_nil (l.length + m.length) (by omega) w)
      go_wp2_with fail
      refine CG.out.mono ?_
      rintro e w1 ⟨v, rfl, hown, hb1⟩
      obtain ⟨go, gc, rfl⟩ := row_slice hown
      have HO := hide hown
      have B1 := hide hb1
      clear hown hb1 CG h0 h1
      go_wp2_with fail
      go_loopw [6, 27] (fun v6 v27 wq => Below w.heap.size w wq ∧ ∃ (o : Option Addr) (n c : Nat), v6 = .slice o n c ∧ ((v27 = .int .i64 0 ∧ wq.ownsRow w.heap.size 39 2 (.slice o n c) n (Co.cells []) ∧ n = 0) ∨ (v27 = .int .i64 1 ∧ wq.ownsRow w.heap.size 39 2 (.slice o n c) n (Co.cells l) ∧ n = l.length) ∨ (v27 = .int .i64 2 ∧ wq.ownsRow w.heap.size 39 2 (.slice o n c) n (Co.cells (l ++ m)) ∧ n = l.length + m.length))) (fun _ v27 _ => 2 - (intOf v27).toNat)
      case atStart => exact ⟨B1.out, go, 0, gc, rfl, .inl ⟨rfl, HO.out, rfl⟩⟩
      case round =>
        obtain ⟨hbr, o, n, c, rfl, hrel⟩ := hrel
        have HBR := hide hbr
        have k0 : wr.cell? ⟨g2, 0, none⟩ = some (.slice ao l.length ca) := (hbr.cell (p := ⟨g2, 0, none⟩) (block_lt_of_cell H0.out)).trans H0.out
        have k1 : wr.cell? ⟨g2, 0 + 1, none⟩ = some (.slice bo m.length cb) := (hbr.cell (p := ⟨g2, 0 + 1, none⟩) (block_lt_of_cell H1.out)).trans H1.out
        clear hbr HO B1
        rcases hrel with ⟨rfl, hown, hn⟩ | ⟨rfl, hown, hn⟩ | ⟨rfl, hown, hn⟩
        · have HO := hide hown
          clear hown
          subst hn
          go_wp2_with (at_builtin; go_must (refine append_list (w0 := w) rfl _ _ rfl _ 0 [] rfl HO.out ao ca l rfl (Co.slot_below HA.out HBR.out) HCA.out (by omega) HBR.out ?_))
          intro v' w2 hnew hb2
          obtain ⟨no, nc, rfl⟩ := row_slice hnew
          have HN := hide hnew
          have B2 := hide hb2
          clear hnew hb2
          go_wp2_with fail
          exact ⟨⟨B2.out, no, l.length, nc, rfl, .inr (.inl ⟨by go_num, HN.out, rfl⟩)⟩, by simp [intOf]⟩
        · have HO := hide hown
          clear hown
          subst hn
          go_wp2_with (at_builtin; go_must (refine append_list (w0 := w) rfl _ _ rfl _ l.length l rfl HO.out bo cb m rfl (Co.slot_below HB.out HBR.out) HCB.out (by omega) HBR.out ?_))
          intro v' w2 hnew hb2
          obtain ⟨no, nc, rfl⟩ := row_slice hnew
          have HN := hide hnew
          have B2 := hide hb2
          clear hnew hb2
          go_wp2_with fail
          exact ⟨⟨B2.out, no, l.length + m.length, nc, rfl, .inr (.inr ⟨by go_num, HN.out, rfl⟩)⟩, by simp [intOf]⟩
        · have HO := hide hown
          clear hown
          subst hn
          go_wp2_with fail
          go_ret
          exact ⟨_, rfl, HO.out, HBR.out⟩
end Go.Proofs.YtngfoijmknclhaaGreatDoor.Cm
namespace Go.Proofs.YtngfoijmknclhaaGreatDoor.Cm
open Go.RowKit Go.Sort
def Co.uni (l m x : List Co.C) : Prop := Co.rises x ∧ ∀ c, c ∈ x ↔ c ∈ l ∨ c ∈ m
end Go.Proofs.YtngfoijmknclhaaGreatDoor.Cm
namespace Go.Proofs.YtngfoijmknclhaaGreatDoor
open Go.RowKit
/-- A change. -/
structure St where
  pf : Int
  md : Int
  og : Int
  add : List Cm.Co.C
  del : List Cm.Co.C
  clr : Bool
  pre : List Int
def St.lies (w : World) (s : St) (ao dl pr : Option Addr) : Prop := Cm.Co.slot w ao s.add ∧ Cm.Co.slot w dl s.del ∧ Is.slot w pr s.pre
theorem St.lies_below {w w' : World} {s : St} {ao dl pr : Option Addr} (h : St.lies w s ao dl pr) (hb : Below w.heap.size w w') : St.lies w' s ao dl pr :=
  ⟨Cm.Co.slot_below h.1 hb, Cm.Co.slot_below h.2.1 hb, Is.slot_below h.2.2 hb⟩
/-- Slices that came in, or were made: nil has no room. -/
def At.came (a : At) (po co ko : Option Addr) (cp cc ck : Nat) : Prop := Cm.Co.came po cp ∧ Cm.Co.came co cc ∧ Cm.Co.came ko ck ∧ a.cl.length ≤ ck
/-- A change may be. -/
def St.ok (s : St) : Bool := decide (-1 ≤ s.pf ∧ s.pf ≤ 1048576 ∧ -1 ≤ s.md ∧ s.md ≤ 1048576 ∧ -1 ≤ s.og ∧ s.og ≤ 2) && (decide (s.add.length ≤ 8) && (decide (s.del.length ≤ 8) && (!(s.add.any fun c => !Cm.Co.may c) && (!(s.del.any fun c => !Cm.Co.may c) && Is.may s.pre))))
def At.zero : At := ⟨0, 0, 0, [], [], 0, []⟩
/-- What communities are left ahead of those that are added. -/
def At.left (a : At) (s : St) : List Cm.Co.C := (if s.clr = true then [] else a.comms).filter fun c => !Cm.Co.inL s.del c
def At.told (s a : Int) : Int := if s = -1 then a else s
/-- What a change makes of attributes, and why not. -/
def At.DoTo (a : At) (s : St) (r : At) (q : Int) : Prop :=
  if At.may a = true ∧ St.ok s = true then ∃ x, Cm.Co.uni (At.left a s) s.add x ∧
    ((8 < x.length ∨ 16 < s.pre.length + a.path.length) ∧ r = At.zero ∧ q = 2 ∨ (x.length ≤ 8 ∧ s.pre.length + a.path.length ≤ 16) ∧ r = ⟨At.told s.pf a.pf, At.told s.md a.md, At.told s.og a.og, s.pre ++ a.path, x, a.fr, a.cl⟩ ∧ q = 0)
  else r = At.zero ∧ q = 1
/-- Cells from B on that may be written. -/
def Wr (B : Nat) (w : World) (o : Option Addr) (n : Nat) : Prop := n = 0 ∨ ∃ g off, o = some ⟨g, off, none⟩ ∧ B ≤ g ∧ ∀ j, j < n → (w.cell? ⟨g, off + j, none⟩).isSome = true ∧ w.frozen? ⟨g, off + j, none⟩ = false
/-- Attributes whose lists are new memory. -/
def At.mine (B : Nat) (w : World) (a : At) (po co ko : Option Addr) : Prop := At.lies w a po co ko ∧ Wr B w po a.path.length ∧ Wr B w co (a.comms.length * 2) ∧ Wr B w ko a.cl.length
/-- What a change hands back. -/
def DoGood (w : World) (a : At) (s : St) (e : Ending) (w' : World) : Prop :=
  ∃ (r : At) (q : Int) (po co ko : Option Addr) (cp cc ck : Nat), e = .returned (.tuple #[.agg #[.int .i64 r.pf, .int .i64 r.md, .int .i64 r.og, .slice po r.path.length cp, .slice co r.comms.length cc, .int .i64 r.fr, .slice ko r.cl.length ck], .int .i64 q]) ∧ At.DoTo a s r q ∧ At.mine w.heap.size w' r po co ko ∧ At.came r po co ko cp cc ck ∧ Below w.heap.size w w'
/-- What a copy is. -/
def CopyGood (w : World) (r : At) (e : Ending) (w' : World) : Prop :=
  ∃ (po co ko : Option Addr) (cp cc ck : Nat), e = .returned (.agg #[.int .i64 r.pf, .int .i64 r.md, .int .i64 r.og, .slice po r.path.length cp, .slice co r.comms.length cc, .int .i64 r.fr, .slice ko r.cl.length ck]) ∧ At.mine w.heap.size w' r po co ko ∧ At.came r po co ko cp cc ck ∧ Below w.heap.size w w'
end Go.Proofs.YtngfoijmknclhaaGreatDoor
namespace Go.Proofs.YtngfoijmknclhaaGreatDoor.Pl.Ad
open Go
/-- How many addresses a prefix of b bits has. -/
def sz (b : Int) : Int := ((2 ^ (32 - b.toNat) : Nat) : Int)
/-- The first b bits of a, with 0 for the others. -/
def cut (a b : Int) : Int := a / sz b * sz b
def may (a b : Int) : Bool := decide (0 ≤ b ∧ b ≤ 32 ∧ cut a b = a)
def has (a b x : Int) : Bool := may a b && decide (cut x b = a)
def contains (a b c d : Int) : Bool := may c d && decide (b ≤ d) && has a b c
theorem may_iff (a b : Int) : may a b = true ↔ 0 ≤ b ∧ b ≤ 32 ∧ cut a b = a := by unfold may; exact decide_eq_true_iff

/-- As the walk spells the cut. -/
theorem cut_bits (a b : Int) (h0 : 0 ≤ a) (h1 : a ≤ 4294967295) (hb : 0 ≤ b) (hb2 : b ≤ 32) :
    bits .andNot .u32 a (4294967295 / 2 ^ b.toNat) = cut a b := by
  obtain ⟨A, rfl⟩ := Int.eq_ofNat_of_zero_le h0
  obtain ⟨B, rfl⟩ := Int.eq_ofNat_of_zero_le hb
  have hB : B ≤ 32 := by omega
  have hA : A < 4294967296 := by omega
  have hpow : (4294967295 : Nat) / 2 ^ B = 2 ^ (32 - B) - 1 := by
    have : ∀ n : Fin 33, (4294967295 : Nat) / 2 ^ n.val = 2 ^ (32 - n.val) - 1 := by decide
    exact this ⟨B, by omega⟩
  have e1 : ((4294967295 : Int) / 2 ^ (Int.toNat (B : Int))) = (((4294967295 : Nat) / 2 ^ B : Nat) : Int) := by
    rw [Int.toNat_natCast]; simp
  rw [e1, hpow]
  have hlt : 2 ^ (32 - B) - 1 < 4294967296 := by
    have : (2 : Nat) ^ (32 - B) ≤ 2 ^ 32 := Nat.pow_le_pow_right (by decide) (by omega)
    omega
  rw [u32_andNot_nat A _ hA hlt]
  have e2 : cut (A : Int) (B : Int) = ((A / 2 ^ (32 - B) * 2 ^ (32 - B) : Nat) : Int) := by
    unfold cut sz
    rw [Int.toNat_natCast]; simp
  rw [e2]
  congr 1
  have hle : (2 : Nat) ^ (32 - B) ≤ 2 ^ 32 := Nat.pow_le_pow_right (by decide) (by omega)
  have hp := Nat.two_pow_pos (32 - B)
  have e3 : 4294967295 - (2 ^ (32 - B) - 1) = 2 ^ 32 - ((2 ^ (32 - B) - 1) + 1) := by omega
  rw [e3]
  apply Nat.eq_of_testBit_eq
  intro i
  rw [Nat.testBit_and, Nat.testBit_two_pow_sub_succ (by omega), Nat.testBit_two_pow_sub_one, Nat.testBit_mul_two_pow, Nat.testBit_div_two_pow]
  by_cases hi : 32 - B ≤ i
  · have : i - (32 - B) + (32 - B) = i := by omega
    by_cases h32 : i < 32
    · simp [hi, h32, this]
    · have hge : (2 : Nat) ^ 32 ≤ 2 ^ i := Nat.pow_le_pow_right (by decide) (by omega)
      have : A.testBit i = false := Nat.testBit_lt_two_pow (by omega)
      simp [*]
  · have h2 : i < 32 - B := by omega
    simp [hi, h2]
end Go.Proofs.YtngfoijmknclhaaGreatDoor.Pl.Ad
namespace Go.Proofs.YtngfoijmknclhaaGreatDoor.Pl.Ad
open Go
end Go.Proofs.YtngfoijmknclhaaGreatDoor.Pl.Ad
namespace Go.Proofs.YtngfoijmknclhaaGreatDoor.Pl.Ad
end Go.Proofs.YtngfoijmknclhaaGreatDoor.Pl.Ad
namespace Go.Proofs.YtngfoijmknclhaaGreatDoor.Pl.Ad
end Go.Proofs.YtngfoijmknclhaaGreatDoor.Pl.Ad
namespace Go.Proofs.YtngfoijmknclhaaGreatDoor.Pl.Ad
/-- The i-th bit of an address, from the highest on. -/
def bit (a : Int) (i : Nat) : Int := a / 2 ^ (31 - i) % 2

theorem bit_nat (A i : Nat) : bit (A : Int) i = ((A / 2 ^ (31 - i) % 2 : Nat) : Int) := by
  unfold bit
  simp

theorem bit_test (A i : Nat) : bit (A : Int) i = if A.testBit (31 - i) then 1 else 0 := by
  rw [bit_nat, Nat.testBit_eq_decide_div_mod_eq]
  rcases Nat.mod_two_eq_zero_or_one (A / 2 ^ (31 - i)) with h | h <;> simp [h]

theorem cut_nat (A B : Nat) : cut (A : Int) (B : Int) = ((A / 2 ^ (32 - B) * 2 ^ (32 - B) : Nat) : Int) := by
  unfold cut sz
  rw [Int.toNat_natCast]; simp

/-- A prefix may be just if all bits behind the counting ones are 0. -/
theorem may_bits (a : Int) (B : Nat) (h0 : 0 ≤ a) (hB : B ≤ 32) : cut a B = a ↔ ∀ i, B ≤ i → i < 32 → bit a i = 0 := by
  obtain ⟨A, rfl⟩ := Int.eq_ofNat_of_zero_le h0
  rw [cut_nat]
  constructor
  · intro h i hi hi2
    rw [bit_test]
    have h' : A / 2 ^ (32 - B) * 2 ^ (32 - B) = A := by omega
    have ht : A.testBit (31 - i) = false := by
      rw [← h', Nat.testBit_mul_two_pow]
      have : ¬ 32 - B ≤ 31 - i := by omega
      simp [this]
    simp [ht]
  · intro h
    have : A / 2 ^ (32 - B) * 2 ^ (32 - B) = A := by
      apply Nat.eq_of_testBit_eq
      intro j
      rw [Nat.testBit_mul_two_pow, Nat.testBit_div_two_pow]
      by_cases hj : 32 - B ≤ j
      · simp [hj, show j - (32 - B) + (32 - B) = j by omega]
      · have := h (31 - j) (by omega) (by omega)
        rw [bit_test, show 31 - (31 - j) = j by omega] at this
        have ht : A.testBit j = false := by
          cases ht : A.testBit j
          · rfl
          · rw [ht] at this; simp at this
        simp [hj, ht]
    rw [this]

theorem bit_le (a : Int) (i : Nat) : 0 ≤ bit a i ∧ bit a i ≤ 1 := by unfold bit; omega
end Go.Proofs.YtngfoijmknclhaaGreatDoor.Pl.Ad
namespace Go.Proofs.YtngfoijmknclhaaGreatDoor.Pl
open Go.RowKit
theorem ret_int {k : IntKind} {a b : Int} (h : a = b) : Ending.returned (.int k a) = .returned (.int k b) := by rw [h]

set_option maxHeartbeats 400000 in
theorem cut_any (a b : Int) (w : World) (ha : 0 ≤ a) (ha2 : a ≤ 4294967295) (hb : 0 ≤ b) (hb2 : b ≤ 32) :
    Calls Tryz.prog 98 #[.int .u32 a, .int .i64 b] w fun e w' => e = .returned (.int .u32 (Ad.cut a b)) ∧ w' = w := by
  go_enter Tryz.func98, Tryz.ntmps98
  go_wp2
  go_ret
  exact ⟨ret_int (Ad.cut_bits a b ha ha2 hb hb2), rfl⟩

theorem ret_bool {a b : Bool} (h : a = b) : Ending.returned (.bool a) = .returned (.bool b) := by rw [h]

set_option maxHeartbeats 400000 in
theorem may_any (a b : Int) (w : World) (ha : 0 ≤ a) (ha2 : a ≤ 4294967295) :
    Calls Tryz.prog 56 #[.agg #[.int .u32 a, .int .i64 b]] w fun e w' => e = .returned (.bool (Ad.may a b)) ∧ Below w.heap.size w w' := by
  by_cases h0 : 0 ≤ b
  · by_cases h1 : b ≤ 32
    · go_enter Tryz.func56, Tryz.ntmps56
      go_wp2
      go_quiet ((go_at_call 98; exact Calls.quiet_of_same (cut_any _ _ _ (by omega) (by omega) (by omega) (by omega))))
      go_wp2
      go_ret
      exact ⟨ret_bool (by simp [Ad.may, h0, h1, Bool.beq_eq_decide_eq]), below_drewN ((Below.refl _ _).alloc (Nat.le_refl _) _) _⟩
    · have hd : decide (b ≤ 32) = false := by simpa using h1
      go_enter Tryz.func56, Tryz.ntmps56
      go_wp2
      go_quiet (fail)
      go_wp2
      go_ret
      exact ⟨ret_bool (by simp [Ad.may]; omega), below_drewN ((Below.refl _ _).alloc (Nat.le_refl _) _) _⟩
  · have hd : decide (0 ≤ b) = false := by simpa using h0
    go_enter Tryz.func56, Tryz.ntmps56
    go_wp2
    go_quiet (fail)
    go_wp2
    go_ret
    exact ⟨ret_bool (by simp [Ad.may]; omega), below_drewN ((Below.refl _ _).alloc (Nat.le_refl _) _) _⟩
end Go.Proofs.YtngfoijmknclhaaGreatDoor.Pl
namespace Go.Proofs.YtngfoijmknclhaaGreatDoor.Pl
open Go.RowKit
theorem bcell {W w1 : World} (hb : Below W.heap.size W w1) : (∀ b o, b < W.heap.size → w1.cell? ⟨b, o, none⟩ = W.cell? ⟨b, o, none⟩) ∧ (∀ b o, b < W.heap.size → w1.frozen? ⟨b, o, none⟩ = W.frozen? ⟨b, o, none⟩) :=
  ⟨fun b o h => hb.cell (p := ⟨b, o, none⟩) h, fun b o h => hb.frozen (p := ⟨b, o, none⟩) h⟩
theorem bthen {w W w1 : World} (h : Below w.heap.size w W) (hb : Below W.heap.size W w1) : Below w.heap.size w w1 := h.trans (hb.mono h.size)
theorem balloc {w W : World} (h : Below w.heap.size w W) (o : Obj) : Below w.heap.size w (W.alloc o) := h.alloc h.size o
theorem brefl (w : World) : Below w.heap.size w w := Below.refl _ _

theorem may_is (a b : Int) (r : Bool) (h : Ad.may a b = r) (w : World) (ha : 0 ≤ a) (ha2 : a ≤ 4294967295) :
    Calls Tryz.prog 56 #[.agg #[.int .u32 a, .int .i64 b]] w fun e w' => e = .returned (.bool r) ∧ Below w.heap.size w w' := by
  rw [← h]; exact may_any a b w ha ha2

set_option maxHeartbeats 400000 in
theorem has_any (a b x : Int) (w : World) (ha : 0 ≤ a) (ha2 : a ≤ 4294967295) (hx : 0 ≤ x) (hx2 : x ≤ 4294967295) :
    Calls Tryz.prog 181 #[.agg #[.int .u32 a, .int .i64 b], .int .u32 x] w fun e w' => e = .returned (.bool (Ad.has a b x)) ∧ Below w.heap.size w w' := by
  have c0 := fun d os => cell_regrown (w := w.alloc (.cells #[.int .u32 a, .int .i64 b] 26)) (a := ⟨w.heap.size, 0, none⟩) (v := .int .u32 a) (by simp) d os
  have c1 := fun d os => cell_regrown (w := w.alloc (.cells #[.int .u32 a, .int .i64 b] 26)) (a := ⟨w.heap.size, 1, none⟩) (v := .int .i64 b) (by simp) d os
  cases hm : Ad.may a b
  · go_enter Tryz.func181, Tryz.ntmps181
    go_wp2
    refine wp_region_quiet_below (by kernel_rfl) (by kernel_rfl) ?_
    repeat (go_big_quiet_step ((go_at_call 56; exact Calls.regrown_of (may_is _ _ _ hm _ ha ha2))))
    refine wpQuiet_nil ?_
    rintro _ ⟨⟨d, os⟩, rfl⟩
    go_wp2
    go_ret
    exact ⟨ret_bool (by simp [Ad.has, hm]), bthen (balloc (brefl w) _) (below_regrown _ d os)⟩
  · obtain ⟨h0, h1, h2⟩ := (Ad.may_iff a b).1 hm
    have H2 : Hid (Ad.cut a b = a) := h2
    clear h2
    go_enter Tryz.func181, Tryz.ntmps181
    go_wp2
    refine wp_region_quiet_below (by kernel_rfl) (by kernel_rfl) ?_
    repeat (go_big_quiet_step (first | (go_at_call 56; exact Calls.regrown_of (may_is _ _ _ hm _ ha ha2)) | (go_at_call 98; exact Calls.regrown_of ((cut_any _ _ _ (by omega) (by omega) (by omega) (by omega)).mono fun _ _ ⟨he, hw⟩ => ⟨he, hw ▸ brefl _⟩))))
    refine wpQuiet_nil ?_
    rintro _ ⟨⟨d, os⟩, rfl⟩
    go_wp2
    go_ret
    exact ⟨ret_bool (by simp [Ad.has, hm, Bool.beq_eq_decide_eq]), bthen (balloc (brefl w) _) (below_regrown _ d os)⟩

theorem has_is (a b x : Int) (r : Bool) (h : Ad.has a b x = r) (w : World) (ha : 0 ≤ a) (ha2 : a ≤ 4294967295) (hx : 0 ≤ x) (hx2 : x ≤ 4294967295) :
    Calls Tryz.prog 181 #[.agg #[.int .u32 a, .int .i64 b], .int .u32 x] w fun e w' => e = .returned (.bool r) ∧ Below w.heap.size w w' := by
  rw [← h]; exact has_any a b x w ha ha2 hx hx2

set_option maxHeartbeats 400000 in
theorem contains_any (a b c d : Int) (w : World) (ha : 0 ≤ a) (ha2 : a ≤ 4294967295) (hc : 0 ≤ c) (hc2 : c ≤ 4294967295) :
    Calls Tryz.prog 161 #[.agg #[.int .u32 a, .int .i64 b], .agg #[.int .u32 c, .int .i64 d]] w fun e w' => e = .returned (.bool (Ad.contains a b c d)) ∧ Below w.heap.size w w' := by
  cases hm : Ad.may c d
  · go_enter Tryz.func161, Tryz.ntmps161
    go_wp2_with (go_at_call 56; refine (may_is _ _ _ hm _ hc hc2).mono ?_; rintro e w1 ⟨rfl, hb1⟩)
    go_ret
    exact ⟨ret_bool (by simp [Ad.contains, hm]), bthen (balloc (balloc (brefl w) _) _) hb1⟩
  · by_cases hbd : b ≤ d
    · cases hh : Ad.has a b c
      all_goals
        go_enter Tryz.func161, Tryz.ntmps161
        go_wp2_with (first | (go_at_call 56; refine (may_is _ _ _ hm _ hc hc2).mono ?_; rintro e w1 ⟨rfl, hb1⟩; obtain ⟨hc1, hf1⟩ := bcell hb1) | (go_at_call 181; refine (has_is _ _ _ _ hh _ ha ha2 hc hc2).mono ?_; rintro e w2 ⟨rfl, hb2⟩))
        go_ret
        exact ⟨ret_bool (by simp [Ad.contains, hm, hbd, hh]), bthen (bthen (balloc (balloc (brefl w) _) _) hb1) hb2⟩
    · have hd : decide (b ≤ d) = false := by simpa using hbd
      go_enter Tryz.func161, Tryz.ntmps161
      go_wp2_with (first | (go_at_call 56; refine (may_is _ _ _ hm _ hc hc2).mono ?_; rintro e w1 ⟨rfl, hb1⟩; obtain ⟨hc1, hf1⟩ := bcell hb1))
      go_ret
      exact ⟨ret_bool (by simp [Ad.contains]; omega), bthen (balloc (balloc (brefl w) _) _) hb1⟩
end Go.Proofs.YtngfoijmknclhaaGreatDoor.Pl
namespace Go.Proofs.YtngfoijmknclhaaGreatDoor.Pl
open Go.RowKit
theorem contains_is (a b c d : Int) (r : Bool) (h : Ad.contains a b c d = r) (w : World) (ha : 0 ≤ a) (ha2 : a ≤ 4294967295) (hc : 0 ≤ c) (hc2 : c ≤ 4294967295) :
    Calls Tryz.prog 161 #[.agg #[.int .u32 a, .int .i64 b], .agg #[.int .u32 c, .int .i64 d]] w fun e w' => e = .returned (.bool r) ∧ Below w.heap.size w w' := by
  rw [← h]; exact contains_any a b c d w ha ha2 hc hc2

end Go.Proofs.YtngfoijmknclhaaGreatDoor.Pl
namespace Go.Proofs.YtngfoijmknclhaaGreatDoor.Pl
open Go.RowKit
theorem bset {w W : World} (h : Below w.heap.size w W) {p : Addr} (hp : w.heap.size ≤ p.block) (u : Value) : Below w.heap.size w (W.setCell p u) := h.setCell hp u

end Go.Proofs.YtngfoijmknclhaaGreatDoor.Pl
namespace Go.Proofs.YtngfoijmknclhaaGreatDoor.Pl
open Go.RowKit
theorem hide {p : Prop} (h : p) : Hid p := h

theorem heap_lt {w : World} {b : Nat} {o : Obj} (h : w.heap[b]? = some o) : b < w.heap.size := by
  rcases Nat.lt_or_ge b w.heap.size with h' | h'
  · exact h'
  · simp [Array.getElem?_eq_none h'] at h

/-- An owned row is owned still behind what leaves all old blocks as they were. -/
theorem row_below {w w' : World} {B e size n : Nat} {v : Value} {xs : List Value} (h : w.ownsRow B e size v n xs) (hb : Below w.heap.size w w') : w'.ownsRow B e size v n xs := by
  obtain ⟨h1, h2⟩ := h
  refine ⟨h1, ?_⟩
  rcases h2 with h2 | ⟨g, cap, cur, hv, hB, hg, r⟩
  · exact .inl h2
  · exact .inr ⟨g, cap, cur, hv, hB, (hb.block g (heap_lt hg)).trans hg, r⟩

end Go.Proofs.YtngfoijmknclhaaGreatDoor.Pl
