/- The program's Has of communities. -/
import Derived.Test.YtngfoijmknclhaaGreatDoorJ01
import Derived.Test.YtngfoijmknclhaaGreatDoorJ08
import Derived.Test.YtngfoijmknclhaaGreatDoorJ12
import Derived.ChangeKeysEq
import Derived.Laws.AppendOwn
import Derived.Laws.AppendOwnNone
import Derived.Deep.AppendLies
import Derived.ArgAppend
import Derived.Shelf.SlGeneric
import Derived.Shelf.Small.Wraps
import Derived.Shelf.Slices.Clone
import Derived.Shelf.SlicesE.IndexFunc
import Derived.Test.YtngfoijmknclhaaGreatDoorProg
import Derived.WalkKit
import Derived.WalkSpells
import Derived.WalkLawsBesides
import Derived.Deep.QuietTactic
import Derived.BigQuiet
import Derived.Lib.QuietBelow
import Derived.Deep.Cut
import Derived.Lib.Builder
import Derived.RegionTactic
import Derived.Laws.StructEq
import Derived.Sort.Grow
import Derived.Lib.ItoaLen
import Derived.Lib.AppendIntMem
import Derived.Laws.IdiomStrings
import Derived.Laws.Concat
import Derived.Lib.Join
import Derived.Lib.IndexLaws
import Derived.Lib.IndexBytes
namespace Go.Proofs.YtngfoijmknclhaaGreatDoor.Cm
open Go.RowKit Go.Sort
theorem has_is (ao : Option Addr) (ca : Nat) (l : List Co.C) (c d : Int) (r : Bool) (hr : Co.has l (c, d) = r) (w : World) (hA : Co.slot w ao l) (hlen : l.length ≤ 1000000) :
    Calls Tryz.prog 64 #[.slice ao l.length ca, .agg #[.int .i64 c, .int .i64 d]] w fun e w' => e = .returned (.bool r) ∧ Below w.heap.size w w' := by
  obtain ⟨s, hs⟩ : ∃ s, Co.set l = s := ⟨_, rfl⟩
  obtain ⟨i, hi⟩ : ∃ i, Co.inL l (c, d) = i := ⟨_, rfl⟩
  have HR : Hid (r = (s && i)) := by show _ = _; rw [← hr, Co.has, hs, hi]
  have HS := hide hs
  have HI := hide hi
  have HA := hide (Co.slot_below hA (balloc (brefl w) (.cells #[.int .i64 c, .int .i64 d] 39)))
  clear hr hs hi hA
  have TB := hide (two_new w c d 39)
  have B0 := hide (balloc (brefl w) (.cells #[.int .i64 c, .int .i64 d] 39))
  cases s
  · go_enter Tryz.func64, Tryz.ntmps64
    go_wp2_with fail
    refine (set_is ao ca l _ HS.out _ HA.out).mono ?_
    rintro e w1 ⟨rfl, hb1⟩
    go_wp2_with fail
    go_ret
    exact ⟨ret_bool (by rw [HR.out]; rfl), bthen B0.out hb1⟩
  · go_enter Tryz.func64, Tryz.ntmps64
    go_wp2_with fail
    refine (set_is ao ca l _ HS.out _ HA.out).mono ?_
    rintro e w1 ⟨rfl, hb1⟩
    obtain ⟨t0, t1, t2, t3⟩ := two_below hb1 TB.out
    have B1 := hide (bthen B0.out hb1)
    have HA1 := hide (Co.slot_below HA.out hb1)
    clear hb1
    go_wp2_with fail
    refine (contains_is ao ca l c d i HI.out _ HA1.out hlen).mono ?_
    rintro e w2 ⟨rfl, hb2⟩
    go_wp2_with fail
    go_ret
    exact ⟨ret_bool (by rw [HR.out]; rfl), bthen B1.out hb2⟩
end Go.Proofs.YtngfoijmknclhaaGreatDoor.Cm
namespace Go.Proofs.YtngfoijmknclhaaGreatDoor
open Go.RowKit Go.Sort
/-- A slice that came in: nil has no room, and no place within a place. -/
def came (ao : Option Addr) (cap : Nat) : Prop := (ao = none → cap = 0) ∧ (∀ ad, ao = some ad → ad.spot = none)
theorem came_some (g o c : Nat) : came (some ⟨g, o, none⟩) c := ⟨fun h => (by cases h), fun ad h => (by cases h; rfl)⟩
theorem own_came {w : World} {B e size n cap : Nat} {ao : Option Addr} {xs : List Value} (h : w.ownsRow B e size (.slice ao n cap) n xs) : came ao cap := by
  rcases h.2 with ⟨hv, h0⟩ | ⟨g, cap', cur, hv, _⟩
  · simp only [Value.slice.injEq] at hv
    exact ⟨fun _ => hv.2.2, fun ad h => (by rw [hv.1] at h; cases h)⟩
  · simp only [Value.slice.injEq] at hv
    exact ⟨fun h => (by rw [hv.1] at h; cases h), fun ad h => (by rw [hv.1] at h; cases h; rfl)⟩

theorem infoI : (Tryz.prog.info? 3).map (fun i => (i.zero, i.size, i.bytes)) = some (some (.int .i64 0), 1, 8) := by kernel_rfl
theorem info_partsI : ∃ i0 : TypeInfo, Tryz.prog.info? 3 = some i0 ∧ i0.zero = some (.int .i64 0) ∧ i0.size = 1 ∧ i0.bytes = 8 := by
  have h := infoI
  cases hi : Tryz.prog.info? 3 with
  | none => rw [hi] at h; cases h
  | some i0 =>
    rw [hi] at h
    simp only [Option.map_some, Option.some.injEq, Prod.mk.injEq] at h
    exact ⟨i0, rfl, h.1, h.2.1, h.2.2⟩
theorem Is.cells_get (l : List Int) (j : Nat) (u : Value) (h : (Is.cells l)[j]? = some u) : ∃ hj : j < l.length, u = .int .i64 l[j] := by
  have hj : j < l.length := by have := (List.getElem?_eq_some_iff.1 h).1; rwa [Is.cells_length] at this
  refine ⟨hj, ?_⟩
  simp [Is.cells, hj] at h
  exact h.symm

/-- Numbers put behind a row of the call's own. -/
theorem append_ints {w w0 : World} {ops : Array Oper} {rest : List Oper} {o : Oper} {a : Act} {Q : Exit → Act → World → Prop} (hgd : o.guard = none) (s x : Operand)
    (ho : o.op = .call { callee := .builtin .append, args := #[s, x], argTypes := #[27, 27] }) (v : Value) (n : Nat) (xs : List Int) (hs : a.eval s = v) (hown : w.ownsRow w0.heap.size 3 1 v n (Is.cells xs))
    (ao : Option Addr) (nl cap : Nat) (l : List Int) (hx : a.eval x = .slice ao nl cap) (hnl : l.length = nl) (hR : Is.slot w ao l) (hC : ao = none → cap = 0) (hn : n + nl ≤ 1000000) (hb : Below w0.heap.size w0 w)
    (h : ∀ v' w', w'.ownsRow w0.heap.size 3 1 v' (n + nl) (Is.cells (xs ++ l)) → Below w0.heap.size w0 w' → wpList Tryz.prog ops Q rest (a.put o.dst v') w') : wpList Tryz.prog ops Q (o :: rest) a w := by
  subst hnl
  obtain ⟨i0, hi, hz0, hz1, hz2⟩ := info_partsI
  cases ao with
  | none =>
    have hl : l = [] := by
      rcases hR with h | ⟨b, off, h, _⟩
      · exact h
      · cases h
    subst hl
    rw [hC rfl] at hx
    refine wpList_append_own_none hgd s x 27 ho w0.heap.size 3 i0 1 Tryz.underlying27 hi v n (Is.cells xs) hs hown hx ?_
    exact h v w (by simpa using hown) hb
  | some ad =>
    have hrd : ∀ j u, (Is.cells l)[j]? = some u → w.cell? (ad.add j) = some u := by
      intro j u hu
      obtain ⟨hj, rfl⟩ := Is.cells_get l j u hu
      rcases hR with h | ⟨b', off', h, hr⟩
      · rw [h] at hj; simp at hj
      · obtain rfl := Option.some.inj h
        rw [show (⟨b', off', none⟩ : Addr).add j = ⟨b', off' + j, none⟩ by unfold Addr.add; split <;> simp_all]
        exact hr j hj
    refine wpList_append_own w hgd s x 27 ho w0.heap.size 3 i0 _ 1 8 Tryz.underlying27 hi hz0 hz1 hz2 rfl (by decide) v n (Is.cells xs) hs hown ad l.length cap (Is.cells l) hx (by rw [Is.cells_length, Nat.mul_one]) hrd (Is.cells_one l) (by unfold maxLen; omega) (by omega) hb.size ?_
    intro v' w' ho' hg _
    refine h v' w' ?_ (Below.grown hb hg hb.size fun k hk => (hown.lt k hk).1)
    rw [Is.cells_app]
    exact ho'
theorem Is.slot_one (W : World) (n : Int) (t : TypeId) : Is.slot (W.alloc (.cells #[.int .i64 n] t)) (some ⟨W.heap.size, 0, none⟩) [n] := by
  refine .inr ⟨_, 0, rfl, fun j hj => ?_⟩
  obtain rfl : j = 0 := by simp at hj; omega
  simp

end Go.Proofs.YtngfoijmknclhaaGreatDoor
namespace Go.Proofs.YtngfoijmknclhaaGreatDoor
open Go.RowKit Go.Sort
theorem mayAS_is (n : Int) (r : Bool) (h : Is.as n = r) (w : World) : Calls Tryz.prog 95 #[.int .i64 n] w fun e w' => e = .returned (.bool r) ∧ w' = w := by
  cases r
  · rcases (Is.as_not n).1 h with h | h
    · have h0 : ¬ 1 ≤ n := by omega
      clear h
      go_enter Tryz.func95, Tryz.ntmps95
      go_wp2_with fail
      go_ret
      exact ⟨rfl, rfl⟩
    · have h0 : 1 ≤ n := by omega
      have h1 : ¬ n ≤ 65535 := by omega
      clear h
      go_enter Tryz.func95, Tryz.ntmps95
      go_wp2_with fail
      go_ret
      exact ⟨rfl, rfl⟩
  · obtain ⟨h0, h1⟩ := (Is.as_iff n).1 h
    have h0 : 1 ≤ n := by omega
    have h1 : n ≤ 65535 := by omega
    clear h
    go_enter Tryz.func95, Tryz.ntmps95
    go_wp2_with fail
    go_ret
    exact ⟨rfl, rfl⟩

end Go.Proofs.YtngfoijmknclhaaGreatDoor
namespace Go.Proofs.YtngfoijmknclhaaGreatDoor
open Go.RowKit Go.Sort
theorem mayNot_is (n : Int) (r : Bool) (h : Is.as n = r) (w : World) : Calls Tryz.prog 94 #[.int .i64 n] w fun e w' => e = .returned (.bool (!r)) ∧ w' = w := by
  have CA := hide (fun W => mayAS_is n r h W)
  clear h
  go_enter Tryz.func94, Tryz.ntmps94
  go_wp2_with fail
  refine (CA.out _).mono ?_
  rintro e w1 ⟨rfl, rfl⟩
  go_wp2_with fail
  go_ret
  exact ⟨rfl, rfl⟩
theorem pred40 (w : World) : PredAt Tryz.prog 94 #[] (Value.int .i64) (fun n => !Is.as n) w := fun W x _ =>
  (mayNot_is x _ rfl W).mono fun _ _ h => ⟨h.1, 0, h.2⟩
theorem enter40 : ∀ args w, (callFunc 94 args).run Tryz.prog w = .ok (.enter 94 args) w := enters_of Tryz.func94 (by kernel_rfl) rfl
theorem hasNot_is (ao : Option Addr) (ca : Nat) (l : List Int) (r : Bool) (hr : l.any (fun n => !Is.as n) = r) (W : World) (hA : Is.slot W ao l) (hl : l.length ≤ 320) :
    Calls Tryz.prog 96 #[.slice ao l.length ca, .func (.func 94) #[] #[]] W fun e w' => e = .returned (.bool r) ∧ Below W.heap.size W w' := by
  by_cases h0 : l = []
  · subst h0
    obtain rfl : false = r := hr
    exact (Tryz.slices_ContainsFunc_empty (α := Int) ao ca _ W).mono fun e w' h => ⟨h.1, h.2 ▸ brefl W⟩
  · obtain ⟨b, off, rfl, hrd⟩ := Is.slot_at hA (k := 0) (List.length_pos_iff.2 h0)
    refine (Tryz.slices_ContainsFunc (Value.int .i64) (fun n => !Is.as n) 94 #[] enter40 b off l.length ca l W (pred40 W) (Nat.le_refl _) (by omega) ?_).mono ?_
    · intro j hj
      rw [hrd j hj, getElem!_pos l j hj]
    · rintro e w' ⟨rfl, q, rfl⟩
      rw [List.take_length, hr]
      exact ⟨rfl, ((Grows.refl W).drewN q).below⟩

theorem may_is (ao : Option Addr) (ca : Nat) (l : List Int) (r : Bool) (hr : Is.may l = r) (W : World) (hA : Is.slot W ao l) (hl : l.length ≤ 320) :
    Calls Tryz.prog 53 #[.slice ao l.length ca] W fun e w' => e = .returned (.bool r) ∧ Below W.heap.size W w' := by
  by_cases h16 : l.length ≤ 16
  · have h16' : (l.length : Int) ≤ 16 := by omega
    have HB := hide (fun W hA => hasNot_is ao ca l (!r) (by
      rw [← hr, Is.may, decide_eq_true h16, Bool.true_and, List.any_eq_not_all_not]
      simp) W hA hl)
    have CB := hide (HB.out W hA)
    clear HB hr hA
    go_enter Tryz.func53, Tryz.ntmps53
    go_wp2_with fail
    refine CB.out.mono ?_
    rintro e w1 ⟨rfl, hb1⟩
    have B1 := hide hb1
    clear hb1 CB
    go_wp2_with fail
    go_ret
    exact ⟨ret_bool (by simp), B1.out⟩
  · have h16' : ¬ (l.length : Int) ≤ 16 := by omega
    obtain rfl : r = false := by rw [← hr, Is.may, decide_eq_false h16]; rfl
    clear hr hA
    go_enter Tryz.func53, Tryz.ntmps53
    go_wp2_with fail
    go_ret
    exact ⟨rfl, brefl W⟩

end Go.Proofs.YtngfoijmknclhaaGreatDoor
namespace Go.Proofs.YtngfoijmknclhaaGreatDoor.Ar
open Go.RowKit Go.Sort
theorem hide {p : Prop} (h : p) : Hid p := h

theorem heap_lt {w : World} {b : Nat} {o : Obj} (h : w.heap[b]? = some o) : b < w.heap.size := by
  rcases Nat.lt_or_ge b w.heap.size with h' | h'
  · exact h'
  · simp [Array.getElem?_eq_none h'] at h

/-- An owned row is owned still behind what leaves all old blocks as they were. -/
theorem row_below {w w' : World} {B e size n : Nat} {v : Value} {xs : List Value} (h : w.ownsRow B e size v n xs) (hb : Below w.heap.size w w') : w'.ownsRow B e size v n xs := by
  obtain ⟨h1, h2⟩ := h
  refine ⟨h1, ?_⟩
  rcases h2 with h2 | ⟨g, cap, cur, hv, hB, hg, r⟩
  · exact .inl h2
  · exact .inr ⟨g, cap, cur, hv, hB, (hb.block g (heap_lt hg)).trans hg, r⟩

theorem ret_int {k : IntKind} {a b : Int} (h : a = b) : Ending.returned (.int k a) = .returned (.int k b) := by rw [h]
theorem ret_bool {a b : Bool} (h : a = b) : Ending.returned (.bool a) = .returned (.bool b) := by rw [h]
theorem bcell {W w1 : World} (hb : Below W.heap.size W w1) : (∀ b o, b < W.heap.size → w1.cell? ⟨b, o, none⟩ = W.cell? ⟨b, o, none⟩) ∧ (∀ b o, b < W.heap.size → w1.frozen? ⟨b, o, none⟩ = W.frozen? ⟨b, o, none⟩) :=
  ⟨fun b o h => hb.cell (p := ⟨b, o, none⟩) h, fun b o h => hb.frozen (p := ⟨b, o, none⟩) h⟩
theorem bthen {w W w1 : World} (h : Below w.heap.size w W) (hb : Below W.heap.size W w1) : Below w.heap.size w w1 := h.trans (hb.mono h.size)
theorem balloc {w W : World} (h : Below w.heap.size w W) (o : Obj) : Below w.heap.size w (W.alloc o) := h.alloc h.size o
theorem brefl (w : World) : Below w.heap.size w w := Below.refl _ _
theorem bset {w W : World} (h : Below w.heap.size w W) {p : Addr} (hp : w.heap.size ≤ p.block) (u : Value) : Below w.heap.size w (W.setCell p u) := h.setCell hp u

/-- Some draws on, some blocks behind. -/
def Grows (w w' : World) : Prop := ∃ q os, w' = grow (w.drewN q) os
theorem Grows.refl (w : World) : Grows w w := ⟨0, #[], by rw [grow_empty]; rfl⟩
theorem Grows.trans {a b c : World} (h : Grows a b) (k : Grows b c) : Grows a c := by
  obtain ⟨q, os, rfl⟩ := h
  obtain ⟨q', os', rfl⟩ := k
  refine ⟨q + q', os ++ os', ?_⟩
  rw [← grow_grow, ← World.drewN_drewN]
  rfl
theorem Grows.alloc {a b : World} (h : Grows a b) (o : Obj) : Grows a (b.alloc o) := h.trans ⟨0, #[o], rfl⟩
theorem Grows.drewN {a b : World} (h : Grows a b) (n : Nat) : Grows a (b.drewN n) := h.trans ⟨n, #[], by rw [grow_empty]⟩
theorem Grows.below {a b : World} (h : Grows a b) : Below a.heap.size a b := by
  obtain ⟨q, os, rfl⟩ := h
  exact ⟨rfl, rfl, rfl, by simp [grow], fun k hk => by simp [grow, Array.getElem?_append, hk]⟩

/-- A run's two cells read there. -/
def Two (w : World) (n : Nat) (a b : Int) : Prop := w.cell? ⟨n, 0, none⟩ = some (.int .i64 a) ∧ w.cell? ⟨n, 1, none⟩ = some (.int .i64 b) ∧ n < w.heap.size ∧ n < w.heap.size + 1
theorem two_of {W : World} {n : Nat} {a b : Int} (h0 : W.cell? ⟨n, 0, none⟩ = some (.int .i64 a)) (h1 : W.cell? ⟨n, 1, none⟩ = some (.int .i64 b)) : Two W n a b :=
  ⟨h0, h1, block_lt_of_cell h0, Nat.lt_succ_of_lt (block_lt_of_cell h0)⟩
theorem two_below {W w1 : World} {n : Nat} {a b : Int} (hb : Below W.heap.size W w1) (h : Two W n a b) : Two w1 n a b :=
  two_of ((hb.cell (p := ⟨n, 0, none⟩) h.2.2.1).trans h.1) ((hb.cell (p := ⟨n, 1, none⟩) h.2.2.1).trans h.2.1)
theorem two_new (W : World) (a b : Int) (t : TypeId) : Two (W.alloc (.cells #[.int .i64 a, .int .i64 b] t)) W.heap.size a b := two_of (by simp) (by simp)

theorem row_slice {w : World} {B e size n : Nat} {v : Value} {xs : List Value} (h : w.ownsRow B e size v n xs) : ∃ ao cap, v = .slice ao n cap := by
  rcases h.2 with ⟨rfl, rfl⟩ | ⟨g, cap, cur, rfl, _⟩
  · exact ⟨none, 0, rfl⟩
  · exact ⟨_, cap, rfl⟩
/-- Numbers' cells. -/
def Is.cells (l : List Int) : List Value := l.map fun n => .int .i64 n
def Is.reads (w : World) (b off : Nat) (l : List Int) : Prop := ∀ j (h : j < l.length), w.cell? ⟨b, off + j, none⟩ = some (.int .i64 l[j])
/-- A slice at which numbers lie: nil has none. -/
def Is.slot (w : World) (ao : Option Addr) (l : List Int) : Prop := l = [] ∨ ∃ b off, ao = some ⟨b, off, none⟩ ∧ Is.reads w b off l
theorem Is.cells_length (l : List Int) : (Is.cells l).length = l.length := by simp [Is.cells]
theorem Is.cells_app (x y : List Int) : Is.cells (x ++ y) = Is.cells x ++ Is.cells y := by simp [Is.cells]
theorem Is.cells_one (l : List Int) : ∀ u ∈ Is.cells l, u.oneCell' = true := by
  intro u hu
  simp only [Is.cells, List.mem_map] at hu
  obtain ⟨x, _, rfl⟩ := hu
  rfl
theorem Is.reads_below {w w' : World} {b off : Nat} {l : List Int} (h : Is.reads w b off l) (hb : Below w.heap.size w w') : Is.reads w' b off l := by
  intro j hj
  have := h j hj
  rw [hb.cell (p := ⟨b, off + j, none⟩) (block_lt_of_cell this)]
  exact this
theorem Is.slot_below {w w' : World} {ao : Option Addr} {l : List Int} (h : Is.slot w ao l) (hb : Below w.heap.size w w') : Is.slot w' ao l := by
  rcases h with h | ⟨b, off, h, hr⟩
  · exact .inl h
  · exact .inr ⟨b, off, h, Is.reads_below hr hb⟩
theorem Is.slot_at {w : World} {ao : Option Addr} {l : List Int} (h : Is.slot w ao l) {k : Nat} (hk : k < l.length) : ∃ b off, ao = some ⟨b, off, none⟩ ∧ Is.reads w b off l := by
  rcases h with h | h
  · rw [h] at hk; simp at hk
  · exact h
theorem Is.own_len {w : World} {B n : Nat} {v : Value} {l : List Int} (h : w.ownsRow B 3 1 v n (Is.cells l)) : n = l.length := by
  have := h.1
  rw [Is.cells_length] at this
  omega
theorem Is.slot_own {w : World} {B n cap : Nat} {ao : Option Addr} {l : List Int} (h : w.ownsRow B 3 1 (.slice ao n cap) n (Is.cells l)) : Is.slot w ao l := by
  have hn := Is.own_len h
  rcases h.2 with ⟨hv, h0⟩ | ⟨g, cap', cur, hv, _⟩
  · left
    exact List.length_eq_zero_iff.1 (by omega)
  · right
    simp only [Value.slice.injEq] at hv
    refine ⟨g, 0, hv.1, fun j hj => ?_⟩
    rw [hv.1] at h
    rw [Nat.zero_add, h.cellAt j (by omega)]
    simp [Is.cells, hj]

/-- A number of an AS. -/
def Is.as (n : Int) : Bool := decide (0 < n) && decide (n < 65536)
theorem Is.as_iff (n : Int) : Is.as n = true ↔ 0 < n ∧ n < 65536 := by simp [Is.as]
theorem Is.as_not (n : Int) : Is.as n = false ↔ n ≤ 0 ∨ 65536 ≤ n := by
  rw [← Bool.not_eq_true, Is.as_iff]; omega
def Is.may (l : List Int) : Bool := decide (l.length ≤ 16) && l.all Is.as
theorem Is.may_iff (l : List Int) : Is.may l = true ↔ l.length ≤ 16 ∧ ∀ j (h : j < l.length), Is.as l[j] = true := by
  rw [Is.may, Bool.and_eq_true, decide_eq_true_iff, List.all_eq_true]
  constructor
  · exact fun h => ⟨h.1, fun j hj => h.2 _ (List.getElem_mem hj)⟩
  · intro h
    refine ⟨h.1, fun x hx => ?_⟩
    obtain ⟨j, hj, rfl⟩ := List.getElem_of_mem hx
    exact h.2 j hj

end Go.Proofs.YtngfoijmknclhaaGreatDoor.Ar
namespace Go.Proofs.YtngfoijmknclhaaGreatDoor.Ar
open Go.RowKit Go.Sort
theorem itoa_len (n : Int) (h0 : 0 ≤ n) (h1 : n ≤ 65535) : (Lib.itoa n).length ≤ 21 := Lib.itoa_length_le n (by omega) (by omega)
end Go.Proofs.YtngfoijmknclhaaGreatDoor.Ar
namespace Go.Proofs.YtngfoijmknclhaaGreatDoor.Ar
open Go.RowKit
/-- Digits alone. -/
def Ad.digs (l : List UInt8) : Bool := l.all fun c => decide (48 ≤ c.toNat) && decide (c.toNat ≤ 57)
/-- A 0 ahead of others. -/
def Ad.zeroAhead (l : List UInt8) : Bool := decide (1 < l.length) && (l.head? == some 48)
/-- Is a text digits without a 0 ahead? -/
def Ad.isNum (l : List UInt8) : Bool := !l.isEmpty && !Ad.zeroAhead l && Ad.digs l
/-- The number of some digits. -/
def Ad.num (l : List UInt8) : Int := l.foldl (fun n c => 10 * n + ((c.toNat : Int) - 48)) 0

theorem Ad.size_list (s : ByteArray) : s.data.toList.length = s.size := by simp
theorem Ad.get_list (s : ByteArray) (k : Nat) (h : k < s.size) : s.data.toList[k]'(by simpa using h) = s[k] := rfl
theorem Ad.empty_iff (s : ByteArray) : s.toList.isEmpty = decide (s.size = 0) := by
  rw [ByteArray.toList_eq]
  obtain ⟨⟨l⟩⟩ := s
  cases l <;> simp [ByteArray.size]

/-- One byte is a digit. -/
def Ad.dig (c : UInt8) : Bool := decide (48 ≤ c.toNat) && decide (c.toNat ≤ 57)

theorem Ad.head_iff (s : ByteArray) (h : 0 < s.size) : s.data.toList.head? = some s[0] := by
  rw [← Ad.get_list s 0 h, List.head?_eq_getElem?]
  simp

theorem Ad.dig_bd (c : UInt8) (h : Ad.dig c = true) : (48 : Int) ≤ (c.toNat : Int) ∧ (c.toNat : Int) ≤ 57 := by
  simp [Ad.dig] at h
  omega

theorem isNum_digs {l : List UInt8} (h : Ad.isNum l = true) : Ad.digs l = true := by
  unfold Ad.isNum at h
  rw [Bool.and_eq_true] at h
  exact h.2

/-- The pieces of a text between blanks. -/
def Sp.split : List UInt8 → List (List UInt8)
  | [] => [[]]
  | c :: r => if c = 32 then [] :: Sp.split r else match Sp.split r with | f :: fs => (c :: f) :: fs | [] => [[c]]
theorem Sp.split_blank (r : List UInt8) : Sp.split (32 :: r) = [] :: Sp.split r := by simp [Sp.split]
theorem Sp.split_app : ∀ (a r : List UInt8), (32 : UInt8) ∉ a → Sp.split (a ++ 32 :: r) = a :: Sp.split r
  | [], r, _ => Sp.split_blank r
  | c :: a, r, h => by
    simp only [List.mem_cons, not_or] at h
    have ih := Sp.split_app a r h.2
    rw [List.cons_append, Sp.split, if_neg (fun e => h.1 e.symm), ih]
theorem Sp.split_one : ∀ (a : List UInt8), (32 : UInt8) ∉ a → Sp.split a = [a]
  | [], _ => rfl
  | c :: a, h => by
    simp only [List.mem_cons, not_or] at h
    rw [Sp.split, if_neg (fun e => h.1 e.symm), Sp.split_one a h.2]
/-- What Parse says of a text. -/
def Is.parse (l : List UInt8) : List Int × Int :=
  if l = [] then ([], 0) else
  if (Sp.split l).all Ad.isNum = true then
    (if ((Sp.split l).map Ad.num).all Is.as = true then (if 16 < (Sp.split l).length then ([], 2) else ((Sp.split l).map Ad.num, 0)) else ([], 7))
  else ([], 4)
theorem Is.parse_bad (l : List UInt8) (h0 : l ≠ []) (f : List UInt8) (hf : f ∈ Sp.split l) (hn : Ad.isNum f = false) (y : List Int) (q : Int) (h : Is.parse l = (y, q)) : y = [] ∧ q = 4 := by
  have ha : (Sp.split l).all Ad.isNum = false := by rw [List.all_eq_false]; exact ⟨f, hf, by rw [hn]; decide⟩
  unfold Is.parse at h
  rw [if_neg h0, ha] at h
  simp at h
  exact ⟨h.1, h.2.symm⟩
end Go.Proofs.YtngfoijmknclhaaGreatDoor.Ar
namespace Go.Proofs.YtngfoijmknclhaaGreatDoor.Ar
/-- A part of a set: from, to, and whether two were told. -/
abbrev Prt : Type := Int × Int × Bool
/-- A node of an expression: numbers, a choice of rows, or what is told by a sign behind a node. -/
inductive Nd where
  | num (dot set : Bool) (rs : List Prt)
  | ch (rows : List (List Nd))
  | st (k : Nat) (n : Nd)

abbrev Bs : Type := List UInt8
def Px.skip (r : Bs) : Bs := r.dropWhile fun c => c == 32
def Px.isAt (r : Bs) (c : UInt8) : Bool := (Px.skip r).head? == some c
def Px.next (r : Bs) : Bs := (Px.skip r).tail
def Px.digits (r : Bs) : Bs := (Px.skip r).takeWhile Ad.dig
def Px.number (r : Bs) : Except Int (Int × Bs) :=
  if Ad.isNum (Px.digits r) = true then (if Is.as (Ad.num (Px.digits r)) = true then .ok (Ad.num (Px.digits r), (Px.skip r).drop (Px.digits r).length) else .error 7) else .error 4
def Px.set : Nat → List Prt → Bs → Except Int (List Prt × Bs)
  | 0, _, _ => .error 4
  | f + 1, acc, r =>
    if acc ≠ [] ∧ Px.isAt r 93 = true then .ok (acc, Px.next r) else
    match Px.number r with
    | .error e => .error e
    | .ok (a, k) =>
      if Px.isAt k 45 = true then
        match Px.number (Px.next k) with
        | .error e => .error e
        | .ok (b, k2) => if b < a then .error 7 else Px.set f (acc ++ [(a, b, true)]) k2
      else Px.set f (acc ++ [(a, a, false)]) k
def Px.starts (c : UInt8) : Bool := c == 46 || c == 91 || c == 40 || Ad.dig c
def Px.atom (ch : Bs → Except Int (List (List Nd) × Bs)) (r : Bs) : Except Int (Nd × Bs) :=
  if Px.isAt r 46 = true then .ok (.num true false [(1, 65535, true)], Px.next r)
  else if Px.isAt r 91 = true then
    match Px.set ((Px.next r).length + 1) [] (Px.next r) with
    | .error e => .error e
    | .ok (rs, k) => .ok (.num false true rs, k)
  else if Px.isAt r 40 = true then
    match ch (Px.next r) with
    | .error e => .error e
    | .ok (c, k) => if Px.isAt k 41 = true then .ok (.ch c, Px.next k) else .error 4
  else
    match Px.number r with
    | .error e => .error e
    | .ok (x, k) => .ok (.num false false [(x, x, false)], k)
def Px.sign (r : Bs) : Nat := if Px.isAt r 42 = true then 3 else if Px.isAt r 43 = true then 4 else if Px.isAt r 63 = true then 5 else 0
def Px.item (ch : Bs → Except Int (List (List Nd) × Bs)) (r : Bs) : Except Int (Nd × Bs) :=
  match Px.atom ch r with
  | .error e => .error e
  | .ok (n, k) => if Px.sign k = 0 then .ok (n, k) else .ok (.st (Px.sign k) n, Px.next k)
def Px.row (ch : Bs → Except Int (List (List Nd) × Bs)) : Nat → List Nd → Bs → Except Int (List Nd × Bs)
  | 0, _, _ => .error 4
  | f + 1, acc, r =>
    match Px.skip r with
    | [] => .ok (acc, [])
    | c :: t =>
      if Px.starts c = true then
        match Px.item ch (c :: t) with
        | .error e => .error e
        | .ok (n, k) => Px.row ch f (acc ++ [n]) k
      else .ok (acc, c :: t)
def Px.rows (ch : Bs → Except Int (List (List Nd) × Bs)) : Nat → List (List Nd) → Bs → Except Int (List (List Nd) × Bs)
  | 0, _, _ => .error 4
  | f + 1, acc, r =>
    match Px.row ch (r.length + 1) [] r with
    | .error e => .error e
    | .ok (row, k) => if Px.isAt k 124 = true then Px.rows ch f (acc ++ [row]) (Px.next k) else .ok (acc ++ [row], k)
/-- A choice, so many deep. -/
def Px.choice : Nat → Bs → Except Int (List (List Nd) × Bs)
  | 0, _ => .error 2
  | d + 1, r => Px.rows (Px.choice d) (r.length + 1) [] r
def Px.parse (s : Bs) : Except Int (Bool × Bool × List (List Nd)) :=
  if 64 < s.length then .error 2 else
  match Px.choice 8 (if Px.isAt s 94 = true then Px.next s else s) with
  | .error e => .error e
  | .ok (c, k) => if Px.skip (if Px.isAt k 36 = true then Px.next k else k) = [] then .ok (Px.isAt s 94, Px.isAt k 36, c) else .error 4

theorem Px.skip_suf (r : Bs) : Px.skip r <:+ r := List.dropWhile_suffix _
theorem Px.skip_idem (r : Bs) : Px.skip (Px.skip r) = Px.skip r := by
  unfold Px.skip
  induction r with
  | nil => rfl
  | cons c t ih =>
    rw [List.dropWhile_cons]
    split
    · exact ih
    · rename_i h
      rw [List.dropWhile_cons, if_neg h]
theorem Px.isAt_some {r : Bs} {c : UInt8} (h : Px.isAt r c = true) : ∃ t, Px.skip r = c :: t ∧ Px.next r = t := by
  unfold Px.isAt at h
  cases hs : Px.skip r with
  | nil => rw [hs] at h; simp at h
  | cons d t =>
    rw [hs] at h
    simp at h
    subst h
    exact ⟨t, rfl, by unfold Px.next; rw [hs]; rfl⟩
theorem Px.next_suf (r : Bs) : Px.next r <:+ r := (List.tail_suffix _).trans (Px.skip_suf r)
theorem Px.next_len {r : Bs} {c : UInt8} (h : Px.isAt r c = true) : (Px.next r).length < r.length := by
  obtain ⟨t, h1, h2⟩ := Px.isAt_some h
  have := (Px.skip_suf r).length_le
  rw [h1, List.length_cons] at this
  rw [h2]
  omega
theorem Px.skip_skip_isAt (r : Bs) (c : UInt8) : Px.isAt (Px.skip r) c = Px.isAt r c := by unfold Px.isAt; rw [Px.skip_idem]
theorem Px.number_suf {r : Bs} {x : Int} {k : Bs} (h : Px.number r = .ok (x, k)) : k <:+ r ∧ k.length < r.length := by
  unfold Px.number at h
  split at h
  · rename_i hn
    split at h
    · simp only [Except.ok.injEq, Prod.mk.injEq] at h
      obtain ⟨_, rfl⟩ := h
      have hs := Px.skip_suf r
      refine ⟨(List.drop_suffix _ _).trans hs, ?_⟩
      have hne : Px.digits r ≠ [] := by intro e; rw [e] at hn; cases hn
      have hpos := List.length_pos_iff.2 hne
      have hle : (Px.digits r).length ≤ (Px.skip r).length := (List.takeWhile_prefix _).length_le
      have := hs.length_le
      rw [List.length_drop]
      omega
    · cases h
  · cases h
theorem Px.set_suf : ∀ (f : Nat) (acc : List Prt) (r : Bs) (rs : List Prt) (k : Bs), Px.set f acc r = .ok (rs, k) → k <:+ r ∧ k.length < r.length
  | 0, _, _, _, _, h => by cases h
  | f + 1, acc, r, rs, k, h => by
    rw [Px.set] at h
    split at h
    · rename_i hc
      simp only [Except.ok.injEq, Prod.mk.injEq] at h
      obtain ⟨_, rfl⟩ := h
      exact ⟨Px.next_suf r, Px.next_len hc.2⟩
    · split at h
      · cases h
      · rename_i a k1 hn
        obtain ⟨s1, l1⟩ := Px.number_suf hn
        split at h
        · rename_i hm
          split at h
          · cases h
          · rename_i b k2 hn2
            obtain ⟨s2, l2⟩ := Px.number_suf hn2
            have s3 := Px.next_suf k1
            have l3 := Px.next_len hm
            split at h
            · cases h
            · obtain ⟨s4, l4⟩ := Px.set_suf f _ k2 rs k h
              exact ⟨s4.trans (s2.trans (s3.trans s1)), by omega⟩
        · obtain ⟨s4, l4⟩ := Px.set_suf f _ k1 rs k h
          exact ⟨s4.trans s1, by omega⟩
/-- A reader that leaves an end of what it was handed. -/
def Px.Suf (ch : Bs → Except Int (List (List Nd) × Bs)) : Prop := ∀ r c k, ch r = .ok (c, k) → k <:+ r
theorem Px.atom_suf {ch : Bs → Except Int (List (List Nd) × Bs)} (hc : Px.Suf ch) {r : Bs} {n : Nd} {k : Bs} (h : Px.atom ch r = .ok (n, k)) : k <:+ r ∧ k.length < r.length := by
  unfold Px.atom at h
  split at h
  · rename_i h1
    simp only [Except.ok.injEq, Prod.mk.injEq] at h
    obtain ⟨_, rfl⟩ := h
    exact ⟨Px.next_suf r, Px.next_len h1⟩
  · split at h
    · rename_i h1
      split at h
      · cases h
      · rename_i rs k1 hs
        simp only [Except.ok.injEq, Prod.mk.injEq] at h
        obtain ⟨_, rfl⟩ := h
        obtain ⟨s1, l1⟩ := Px.set_suf _ _ _ _ _ hs
        have := Px.next_len h1
        exact ⟨s1.trans (Px.next_suf r), by omega⟩
    · split at h
      · rename_i h1
        split at h
        · cases h
        · rename_i c k1 hs
          split at h
          · rename_i h2
            simp only [Except.ok.injEq, Prod.mk.injEq] at h
            obtain ⟨_, rfl⟩ := h
            have s1 := hc _ _ _ hs
            have := Px.next_len h1
            have := Px.next_len h2
            have := s1.length_le
            exact ⟨(Px.next_suf k1).trans (s1.trans (Px.next_suf r)), by omega⟩
          · cases h
      · split at h
        · cases h
        · rename_i x k1 hn
          simp only [Except.ok.injEq, Prod.mk.injEq] at h
          obtain ⟨_, rfl⟩ := h
          exact Px.number_suf hn
theorem Px.item_suf {ch : Bs → Except Int (List (List Nd) × Bs)} (hc : Px.Suf ch) {r : Bs} {n : Nd} {k : Bs} (h : Px.item ch r = .ok (n, k)) : k <:+ r ∧ k.length < r.length := by
  unfold Px.item at h
  split at h
  · cases h
  · rename_i m k1 ha
    obtain ⟨s1, l1⟩ := Px.atom_suf hc ha
    split at h
    · simp only [Except.ok.injEq, Prod.mk.injEq] at h
      obtain ⟨_, rfl⟩ := h
      exact ⟨s1, l1⟩
    · simp only [Except.ok.injEq, Prod.mk.injEq] at h
      obtain ⟨_, rfl⟩ := h
      have := (Px.next_suf k1).length_le
      exact ⟨(Px.next_suf k1).trans s1, by omega⟩
theorem Px.row_suf {ch : Bs → Except Int (List (List Nd) × Bs)} (hc : Px.Suf ch) : ∀ (f : Nat) (acc : List Nd) (r : Bs) (l : List Nd) (k : Bs), Px.row ch f acc r = .ok (l, k) → k <:+ r
  | 0, _, _, _, _, h => by cases h
  | f + 1, acc, r, l, k, h => by
    rw [Px.row] at h
    have hs := Px.skip_suf r
    split at h
    · rename_i he
      simp only [Except.ok.injEq, Prod.mk.injEq] at h
      obtain ⟨_, rfl⟩ := h
      exact List.nil_suffix
    · rename_i c t he
      rw [he] at hs
      split at h
      · split at h
        · cases h
        · rename_i n k1 hi
          exact (Px.row_suf hc f _ k1 l k h).trans ((Px.item_suf hc hi).1.trans hs)
      · simp only [Except.ok.injEq, Prod.mk.injEq] at h
        obtain ⟨_, rfl⟩ := h
        exact hs
theorem Px.rows_suf {ch : Bs → Except Int (List (List Nd) × Bs)} (hc : Px.Suf ch) : ∀ (f : Nat) (acc : List (List Nd)) (r : Bs) (l : List (List Nd)) (k : Bs), Px.rows ch f acc r = .ok (l, k) → k <:+ r
  | 0, _, _, _, _, h => by cases h
  | f + 1, acc, r, l, k, h => by
    rw [Px.rows] at h
    split at h
    · cases h
    · rename_i row k1 hr
      have s1 := Px.row_suf hc _ _ _ _ _ hr
      split at h
      · exact (Px.rows_suf hc f _ _ l k h).trans ((Px.next_suf k1).trans s1)
      · simp only [Except.ok.injEq, Prod.mk.injEq] at h
        obtain ⟨_, rfl⟩ := h
        exact s1
theorem Px.choice_suf : ∀ d, Px.Suf (Px.choice d)
  | 0 => fun r c k h => by cases h
  | d + 1 => fun r c k h => Px.rows_suf (Px.choice_suf d) _ _ r c k h
end Go.Proofs.YtngfoijmknclhaaGreatDoor.Ar
namespace Go.Proofs.YtngfoijmknclhaaGreatDoor.Ar
/-- Pieces one after another, any number of them. -/
inductive Many (P : List Int → Prop) : List Int → Prop
  | nil : Many P []
  | cons {a b : List Int} : P a → Many P b → Many P (a ++ b)
def Plus (P : List Int → Prop) (p : List Int) : Prop := ∃ a b, p = a ++ b ∧ P a ∧ Many P b
mutual
def Nd.Met : Nd → List Int → Prop
  | .num _ _ rs, p => ∃ n, p = [n] ∧ ∃ r ∈ rs, r.1 ≤ n ∧ n ≤ r.2.1
  | .ch rows, p => Nd.MetRows rows p
  | .st k n, p => if k = 5 then p = [] ∨ Nd.Met n p else if k = 3 then Many (fun q => Nd.Met n q) p else Plus (fun q => Nd.Met n q) p
def Nd.MetRow : List Nd → List Int → Prop
  | [], p => p = []
  | n :: r, p => ∃ a b, p = a ++ b ∧ Nd.Met n a ∧ Nd.MetRow r b
def Nd.MetRows : List (List Nd) → List Int → Prop
  | [], _ => False
  | l :: r, p => Nd.MetRow l p ∨ Nd.MetRows r p
end
/-- A path meets an expression. -/
def Ex.Meets (x : Bool × Bool × List (List Nd)) (p : List Int) : Prop := ∃ a b c, p = a ++ b ++ c ∧ Nd.MetRows x.2.2 b ∧ (x.1 = true → a = []) ∧ (x.2.1 = true → c = [])

theorem Many.plus {P : List Int → Prop} {p : List Int} (h : Plus P p) : Many P p := by
  obtain ⟨a, b, rfl, ha, hb⟩ := h
  exact .cons ha hb
theorem Many.first {P : List Int → Prop} {p : List Int} (h : Many P p) : p = [] ∨ ∃ a b, a ≠ [] ∧ p = a ++ b ∧ P a ∧ Many P b := by
  induction h with
  | nil => exact .inl rfl
  | cons ha hb ih =>
    rename_i a b
    by_cases h0 : a = []
    · subst h0
      rw [List.nil_append]
      exact ih
    · exact .inr ⟨a, b, h0, rfl, ha, hb⟩
end Go.Proofs.YtngfoijmknclhaaGreatDoor.Ar
namespace Go.Proofs.YtngfoijmknclhaaGreatDoor.Ar
def Px.pair (p : Prt) : Bs := if p.2.2 = true then Lib.itoa p.1 ++ 45 :: Lib.itoa p.2.1 else Lib.itoa p.1
def Px.pairs : List Prt → Bs
  | [] => []
  | [p] => Px.pair p
  | p :: q :: r => Px.pair p ++ 32 :: Px.pairs (q :: r)
def Px.signText (k : Nat) : Bs := if k = 3 then [42] else if k = 4 then [43] else [63]
mutual
def Nd.text : Nd → Bs
  | .num dot set rs => if dot = true then [46] else if set = true then 91 :: (Px.pairs rs ++ [93]) else Px.pairs rs
  | .ch rows => 40 :: (Nd.rowsText rows ++ [41])
  | .st k n => Nd.text n ++ Px.signText k
def Nd.rowText : List Nd → Bs
  | [] => []
  | n :: r => Nd.text n ++ Nd.moreText r
def Nd.moreText : List Nd → Bs
  | [] => []
  | n :: r => 32 :: (Nd.text n ++ Nd.moreText r)
def Nd.rowsText : List (List Nd) → Bs
  | [] => []
  | l :: r => Nd.rowText l ++ Nd.alsoText r
def Nd.alsoText : List (List Nd) → Bs
  | [] => []
  | l :: r => 124 :: (Nd.rowText l ++ Nd.alsoText r)
end
def Px.goodPair (p : Prt) : Prop := Is.as p.1 = true ∧ Is.as p.2.1 = true ∧ p.1 ≤ p.2.1 ∧ (p.2.2 = false → p.1 = p.2.1)
mutual
/-- What the reader makes, so many deep. -/
def Nd.Good : Nat → Nd → Prop
  | _, .num dot set rs => (dot = true ∧ set = false ∧ rs = [(1, 65535, true)]) ∨ (dot = false ∧ set = true ∧ rs ≠ [] ∧ ∀ p ∈ rs, Px.goodPair p) ∨ (dot = false ∧ set = false ∧ ∃ x, rs = [(x, x, false)] ∧ Is.as x = true)
  | 0, .ch _ => False
  | d + 1, .ch rows => rows ≠ [] ∧ Nd.GoodRows d rows
  | d, .st k n => (k = 3 ∨ k = 4 ∨ k = 5) ∧ (∀ j m, n ≠ .st j m) ∧ Nd.Good d n
def Nd.GoodRow : Nat → List Nd → Prop
  | _, [] => True
  | d, n :: r => Nd.Good d n ∧ Nd.GoodRow d r
def Nd.GoodRows : Nat → List (List Nd) → Prop
  | _, [] => True
  | d, l :: r => Nd.GoodRow d l ∧ Nd.GoodRows d r
end
end Go.Proofs.YtngfoijmknclhaaGreatDoor.Ar
