import Derived.Test.YtpkikfojiibdaaaGreatDoorCG1
import Derived.Lib.AppendZeros
import Derived.Laws.AppendOwn
import Derived.Laws.AppendOwnNone
import Derived.Deep.AppendLies
/- The contracts of slices.Grow of nothing, and of slices.Concat of two lists of communities. -/
namespace Go.Proofs.YtpkikfojiibdaaaGreatDoor.Cm
open Go.RowKit Go.Sort

theorem infoC : (Tryz.prog.info? 53).map (fun i => (i.zero, i.size, i.bytes)) = some (some (.agg #[.int .i64 0, .int .i64 0]), 2, 16) := by kernel_rfl
theorem info_partsC : ∃ i0 : TypeInfo, Tryz.prog.info? 53 = some i0 ∧ i0.zero = some (.agg #[.int .i64 0, .int .i64 0]) ∧ i0.size = 2 ∧ i0.bytes = 16 := by
  have h := infoC
  cases hi : Tryz.prog.info? 53 with
  | none => rw [hi] at h; cases h
  | some i0 =>
    rw [hi] at h
    simp only [Option.map_some, Option.some.injEq, Prod.mk.injEq] at h
    exact ⟨i0, rfl, h.1, h.2.1, h.2.2⟩

/-- A slice that came in: nil has no room, and no place within a place. -/
def Co.came (ao : Option Addr) (cap : Nat) : Prop := (ao = none → cap = 0) ∧ (∀ ad, ao = some ad → ad.spot = none)

/-- A list put behind a row of the call's own. -/
theorem append_list {w w0 : World} {ops : Array Oper} {rest : List Oper} {o : Oper} {a : Act} {Q : Exit → Act → World → Prop} (hgd : o.guard = none) (s x : Operand)
    (ho : o.op = .call { callee := .builtin .append, args := #[s, x], argTypes := #[23, 23] }) (v : Value) (n : Nat) (xs : List Co.C) (hs : a.eval s = v) (hown : w.ownsRow w0.heap.size 53 2 v n (Co.cells xs))
    (ao : Option Addr) (cap : Nat) (l : List Co.C) (hx : a.eval x = .slice ao l.length cap) (hR : Co.slot w ao l) (hC : Co.came ao cap) (hn : n + l.length ≤ 1000000) (hb : Below w0.heap.size w0 w)
    (h : ∀ v' w', w'.ownsRow w0.heap.size 53 2 v' (n + l.length) (Co.cells (xs ++ l)) → Below w0.heap.size w0 w' → wpList Tryz.prog ops Q rest (a.put o.dst v') w') : wpList Tryz.prog ops Q (o :: rest) a w := by
  obtain ⟨i0, hi, hz0, hz1, hz2⟩ := info_partsC
  cases ao with
  | none =>
    have hl : l = [] := by
      rcases hR with h | ⟨b, off, h, _⟩
      · exact h
      · cases h
    subst hl
    rw [hC.1 rfl] at hx
    refine wpList_append_own_none hgd s x 23 ho w0.heap.size 53 i0 2 Tryz.underlying23 hi v n (Co.cells xs) hs hown hx ?_
    exact h v w (by simpa using hown) hb
  | some ad =>
    obtain ⟨b, off, sp⟩ := ad
    obtain rfl : sp = none := hC.2 _ rfl
    have hrd : ∀ j u, (Co.cells l)[j]? = some u → w.cell? ((⟨b, off, none⟩ : Addr).add j) = some u := by
      intro j u hu
      rcases hR with h | ⟨b', off', h, hr⟩
      · rw [h] at hu; simp [Co.cells] at hu
      · simp only [Option.some.injEq, Addr.mk.injEq, and_true] at h
        rw [show (⟨b, off, none⟩ : Addr).add j = ⟨b, off + j, none⟩ by unfold Addr.add; split <;> simp_all, h.1, h.2]
        exact hr j u hu
    refine wpList_append_own w hgd s x 23 ho w0.heap.size 53 i0 _ 2 16 Tryz.underlying23 hi hz0 hz1 hz2 rfl (by decide) v n (Co.cells xs) hs hown ⟨b, off, none⟩ l.length cap (Co.cells l) hx (Co.cells_length l) hrd (Co.cells_one l) (by unfold maxLen; omega) (by omega) hb.size ?_
    intro v' w' ho' hg _
    refine h v' w' ?_ (Below.grown hb hg hb.size fun k hk => (hown.lt k hk).1)
    rw [Co.cells_app]
    exact ho'

set_option maxHeartbeats 1000000 in
theorem grow_nil (n : Nat) (hn : n ≤ 100000) (w : World) :
    Calls Tryz.prog 96 #[.slice none 0 0, .int .i64 n] w fun e w' => ∃ v, e = .returned v ∧ w'.ownsRow w.heap.size 53 2 v 0 [] ∧ Below w.heap.size w w' := by
  rcases Nat.eq_zero_or_pos n with h0 | h0
  · subst h0
    go_enter Tryz.func96, Tryz.ntmps96
    go_wp2_with fail
    go_ret
    exact ⟨_, rfl, World.ownsRow_nil _ _ _ _, brefl w⟩
  · obtain ⟨i0, hi, hz0, hz1, hz2⟩ := info_partsC
    have hr := fun ty => Lib.run_append_nil_zeros (P := Tryz.prog) w 23 3 ty 53 i0 _ .i64 .i64 Tryz.underlying23 Tryz.underlying3 hi hz0 n h0 (by omega) (by omega) (by rw [hz2]; omega)
    have hge := grownCap_ge w n 0 53
    have hle : grownCap w n 0 53 ≤ maxLen := grownCap_le_maxLen w n 0 53 (by unfold maxLen; omega)
    have hneg : ¬ (n : Int) < 0 := by omega
    have hpos : (0 : Int) < (n : Int) := by omega
    generalize grownCap w n 0 53 = C at *
    have HR := hide hr
    clear hr hi hz0 hz1 hz2
    go_enter Tryz.func96, Tryz.ntmps96
    go_wp2_with (at_builtin; go_must (refine Lib.wpList_append_run _ rfl _ _ _ _ rfl _ _ rfl rfl _ _ (HR.out _) ?_))
    go_ret
    refine ⟨_, rfl, ⟨rfl, .inr ⟨w.heap.size, C, _, rfl, Nat.le_refl _, heap_alloc_new w _, Nat.zero_le _, hle, ?_, ?_⟩⟩, (balloc (brefl w) _).drew⟩
    · have e : (#[Value.int IntKind.i64 0, Value.int IntKind.i64 0] : Array Value).size = 2 := rfl
      simp only [Array.size_append, size_zeroCells, e]
      omega
    · simp

set_option maxHeartbeats 2000000 in
theorem concat_is (g2 c2 : Nat) (ao bo : Option Addr) (ca cb : Nat) (l m : List Co.C) (w : World) (h0 : w.cell? ⟨g2, 0, none⟩ = some (.slice ao l.length ca)) (h1 : w.cell? ⟨g2, 0 + 1, none⟩ = some (.slice bo m.length cb))
    (hA : Co.slot w ao l) (hB : Co.slot w bo m) (hCA : Co.came ao ca) (hCB : Co.came bo cb) (hla : l.length ≤ 10000) (hlb : m.length ≤ 10000) :
    Calls Tryz.prog 79 #[.slice (some ⟨g2, 0, none⟩) 2 c2] w fun e w' => ∃ v, e = .returned v ∧ w'.ownsRow w.heap.size 53 2 v (l.length + m.length) (Co.cells (l ++ m)) ∧ Below w.heap.size w w' := by
  have HA := hide hA
  have HB := hide hB
  have HCA := hide hCA
  have HCB := hide hCB
  have H0 := hide h0
  have H1 := hide h1
  clear hA hB hCA hCB
  have hn1 : ¬ (l.length : Int) < 0 := by omega
  have hn2 : ¬ (l.length : Int) + (m.length : Int) < 0 := by omega
  go_enter Tryz.func79, Tryz.ntmps79
  go_wp2_with fail
  go_loopw [3, 11] (fun v3 v11 wr => w = wr ∧ ((v11 = .int .i64 0 ∧ v3 = .int .i64 0) ∨ (v11 = .int .i64 1 ∧ v3 = .int .i64 l.length) ∨ (v11 = .int .i64 2 ∧ v3 = .int .i64 ((l.length + m.length : Nat) : Int)))) (fun _ v11 _ => 2 - (intOf v11).toNat)
  case atStart => exact ⟨rfl, .inl ⟨rfl, rfl⟩⟩
  case round =>
    obtain ⟨rfl, hrel⟩ := hrel
    rcases hrel with ⟨rfl, rfl⟩ | ⟨rfl, rfl⟩ | ⟨rfl, rfl⟩
    · go_wp2_with fail
      exact ⟨⟨trivial, .inr (.inl ⟨by go_num, by go_num⟩)⟩, by simp [intOf]⟩
    · go_wp2_with fail
      exact ⟨⟨trivial, .inr (.inr ⟨by go_num, by go_num⟩)⟩, by simp [intOf]⟩
    · have CG := hide (grow_nil (l.length + m.length) (by omega) w)
      go_wp2_with fail
      refine CG.out.mono ?_
      rintro e w1 ⟨v, rfl, hown, hb1⟩
      obtain ⟨go, gc, rfl⟩ := row_slice hown
      have HO := hide hown
      have B1 := hide hb1
      clear hown hb1 CG h0 h1
      go_wp2_with fail
      go_loopw [6, 27] (fun v6 v27 wq => Below w.heap.size w wq ∧ ∃ (o : Option Addr) (n c : Nat), v6 = .slice o n c ∧ ((v27 = .int .i64 0 ∧ wq.ownsRow w.heap.size 53 2 (.slice o n c) n (Co.cells []) ∧ n = 0) ∨ (v27 = .int .i64 1 ∧ wq.ownsRow w.heap.size 53 2 (.slice o n c) n (Co.cells l) ∧ n = l.length) ∨ (v27 = .int .i64 2 ∧ wq.ownsRow w.heap.size 53 2 (.slice o n c) n (Co.cells (l ++ m)) ∧ n = l.length + m.length))) (fun _ v27 _ => 2 - (intOf v27).toNat)
      case atStart => exact ⟨B1.out, go, 0, gc, rfl, .inl ⟨rfl, HO.out, rfl⟩⟩
      case round =>
        obtain ⟨hbr, o, n, c, rfl, hrel⟩ := hrel
        have HBR := hide hbr
        have k0 : wr.cell? ⟨g2, 0, none⟩ = some (.slice ao l.length ca) := (hbr.cell (p := ⟨g2, 0, none⟩) (block_lt_of_cell H0.out)).trans H0.out
        have k1 : wr.cell? ⟨g2, 0 + 1, none⟩ = some (.slice bo m.length cb) := (hbr.cell (p := ⟨g2, 0 + 1, none⟩) (block_lt_of_cell H1.out)).trans H1.out
        clear hbr HO B1
        rcases hrel with ⟨rfl, hown, hn⟩ | ⟨rfl, hown, hn⟩ | ⟨rfl, hown, hn⟩
        · have HO := hide hown
          clear hown
          subst hn
          go_wp2_with (at_builtin; go_must (refine append_list (w0 := w) rfl _ _ rfl _ 0 [] rfl HO.out ao ca l rfl (Co.slot_below HA.out HBR.out) HCA.out (by omega) HBR.out ?_))
          intro v' w2 hnew hb2
          obtain ⟨no, nc, rfl⟩ := row_slice hnew
          have HN := hide hnew
          have B2 := hide hb2
          clear hnew hb2
          go_wp2_with fail
          exact ⟨⟨B2.out, no, l.length, nc, rfl, .inr (.inl ⟨by go_num, HN.out, rfl⟩)⟩, by simp [intOf]⟩
        · have HO := hide hown
          clear hown
          subst hn
          go_wp2_with (at_builtin; go_must (refine append_list (w0 := w) rfl _ _ rfl _ l.length l rfl HO.out bo cb m rfl (Co.slot_below HB.out HBR.out) HCB.out (by omega) HBR.out ?_))
          intro v' w2 hnew hb2
          obtain ⟨no, nc, rfl⟩ := row_slice hnew
          have HN := hide hnew
          have B2 := hide hb2
          clear hnew hb2
          go_wp2_with fail
          exact ⟨⟨B2.out, no, l.length + m.length, nc, rfl, .inr (.inr ⟨by go_num, HN.out, rfl⟩)⟩, by simp [intOf]⟩
        · have HO := hide hown
          clear hown
          subst hn
          go_wp2_with fail
          go_ret
          exact ⟨_, rfl, HO.out, HBR.out⟩
end Go.Proofs.YtpkikfojiibdaaaGreatDoor.Cm