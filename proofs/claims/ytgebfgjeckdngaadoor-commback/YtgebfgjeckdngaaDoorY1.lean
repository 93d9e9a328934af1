/- The contract of the document's with: a set with one more. -/
import Derived.Test.YtgebfgjeckdngaaDoorB4
namespace Go.Proofs.YtgebfgjeckdngaaDoor
open Go.RowKit Go.Sort Go.Lib

/-- A slice that lies, with its room. -/
def Co.sl (w : World) (ao : Option Addr) (ca : Nat) (l : List Co.C) : Prop := Co.slot w ao l ∧ Co.came ao ca ∧ l.length ≤ ca
theorem Co.sl_below {w w' : World} {ao : Option Addr} {ca : Nat} {l : List Co.C} (h : Co.sl w ao ca l) (hb : Below w.heap.size w w') : Co.sl w' ao ca l := ⟨Co.slot_below h.1 hb, h.2⟩
theorem Co.sl_own {w : World} {B n cap : Nat} {ao : Option Addr} {l : List Co.C} (h : w.ownsRow B 23 2 (.slice ao n cap) n (Co.cells l)) : Co.sl w ao cap l := by
  refine ⟨Co.slot_own h, own_came h, ?_⟩
  have hn := Co.own_len h
  rcases h.2 with ⟨hv, h0⟩ | ⟨g, cap', cur, hv, _, _, hnc, _⟩
  · omega
  · simp only [Value.slice.injEq] at hv
    rw [hv.2.2]; omega
/-- Its block is the one that came, or a new one. -/
def Co.blk (w : World) (ao o : Option Addr) : Prop := o = ao ∨ ∀ ad, o = some ad → w.heap.size ≤ ad.block
theorem own_blk {w : World} {B n cap : Nat} {o : Option Addr} {xs : List Value} (h : w.ownsRow B 23 2 (.slice o n cap) n xs) : ∀ ad, o = some ad → B ≤ ad.block := by
  intro ad had
  rcases h.2 with ⟨hv, _⟩ | ⟨g, cap', cur, hv, hb, _⟩
  · simp only [Value.slice.injEq] at hv
    rw [hv.1] at had; cases had
  · simp only [Value.slice.injEq] at hv
    rw [hv.1] at had; cases had
    exact hb

def WithGood (w : World) (ao : Option Addr) (l : List Co.C) (c : Co.C) (e : Ending) (w' : World) : Prop :=
  ∃ (o : Option Addr) (n : Nat) (y : List Co.C), e = .returned (.slice o y.length n) ∧ Co.uni l [c] y ∧ Co.sl w' o n y ∧ Co.blk w ao o ∧ y.length ≤ l.length + 1 ∧ Below w.heap.size w w'

theorem Co.uni_in {l : List Co.C} {c : Co.C} (hr : Co.rises l) (h : Co.inL l c = true) : Co.uni l [c] l := by
  refine ⟨hr, fun d => ⟨fun hd => .inl hd, fun hd => ?_⟩⟩
  rcases hd with hd | hd
  · exact hd
  · rw [List.mem_singleton] at hd
    subst hd
    exact (Co.inL_iff l d).1 h
theorem Co.uni_ins {l : List Co.C} {c : Co.C} {k : Nat} (hr : Co.rises l) (h : Co.inL l c = false) (hlo : ∀ x ∈ l.take k, Co.bef x c = true) (hhi : ∀ hk : k < l.length, Co.bef l[k] c = false) : Co.uni l [c] (l.take k ++ [c] ++ l.drop k) := by
  have hcn : c ∉ l := fun hm => by rw [(Co.inL_iff l c).2 hm] at h; cases h
  have hup : ∀ x ∈ l.drop k, Co.bef c x = true := by
    intro x hx
    rcases Nat.lt_or_ge k l.length with hk | hk
    · have h1 : Co.bef c l[k] = true := by
        rcases Co.bef_total (hhi hk) with e | e
        · exact absurd (e ▸ List.getElem_mem hk) hcn
        · exact e
      rw [List.drop_eq_getElem_cons hk] at hx
      rcases List.mem_cons.1 hx with rfl | hx
      · exact h1
      · have hp : (l.drop k).Pairwise fun x y => Co.bef x y = true := List.Pairwise.sublist (List.drop_sublist _ _) hr
        rw [List.drop_eq_getElem_cons hk, List.pairwise_cons] at hp
        exact Co.bef_trans h1 (hp.1 x hx)
    · rw [List.drop_eq_nil_of_le hk] at hx
      cases hx
  refine ⟨?_, fun d => ?_⟩
  · unfold Co.rises
    rw [List.append_assoc, List.pairwise_append]
    refine ⟨List.Pairwise.sublist (List.take_sublist _ _) hr, ?_, ?_⟩
    · rw [List.singleton_append, List.pairwise_cons]
      exact ⟨hup, List.Pairwise.sublist (List.drop_sublist _ _) hr⟩
    · intro a ha b hb
      rw [List.singleton_append] at hb
      rcases List.mem_cons.1 hb with rfl | hb
      · exact hlo a ha
      · exact Co.bef_trans (hlo a ha) (hup b hb)
  · have hm : d ∈ l ↔ d ∈ l.take k ∨ d ∈ l.drop k := by
      rw [← List.mem_append, List.take_append_drop]
    simp only [List.mem_append, hm, List.mem_singleton]
    constructor
    · rintro ((h | h) | h)
      · exact .inl (.inl h)
      · exact .inr h
      · exact .inl (.inr h)
    · rintro ((h | h) | h)
      · exact .inl (.inl h)
      · exact .inr h
      · exact .inl (.inr h)

theorem Co.slot_take {w : World} {ao : Option Addr} {l : List Co.C} (h : Co.slot w ao l) (k : Nat) : Co.slot w ao (l.take k) := by
  rcases h with h | ⟨b, off, h, hr⟩
  · left; rw [h]; simp
  · refine .inr ⟨b, off, h, fun j u hu => hr j u ?_⟩
    have e : Co.cells l = Co.cells (l.take k) ++ Co.cells (l.drop k) := by rw [← Co.cells_app, List.take_append_drop]
    rw [e, List.getElem?_append_left (List.getElem?_eq_some_iff.1 hu).1]
    exact hu
theorem Co.slot_drop {w : World} {b off : Nat} {l : List Co.C} (h : Co.slot w (some ⟨b, off, none⟩) l) (k : Nat) (hk : k ≤ l.length) : Co.slot w (some ⟨b, off + k * 2, none⟩) (l.drop k) := by
  rcases h with h | ⟨b', off', h, hr⟩
  · left; rw [h]; simp
  · simp only [Option.some.injEq, Addr.mk.injEq, and_true] at h
    obtain ⟨rfl, rfl⟩ := h
    refine .inr ⟨b, off + k * 2, rfl, fun j u hu => ?_⟩
    have e : Co.cells l = Co.cells (l.take k) ++ Co.cells (l.drop k) := by rw [← Co.cells_app, List.take_append_drop]
    have hl : (Co.cells (l.take k)).length = k * 2 := by rw [Co.cells_length, List.length_take]; omega
    rw [Nat.add_assoc]
    refine hr (k * 2 + j) u ?_
    rw [e, List.getElem?_append_right (by omega), hl, Nat.add_sub_cancel_left]
    exact hu

theorem append_listN {w w0 : World} {ops : Array Oper} {rest : List Oper} {o : Oper} {a : Act} {Q : Exit → Act → World → Prop} (hgd : o.guard = none) (s x : Operand)
    (ho : o.op = .call { callee := .builtin .append, args := #[s, x], argTypes := #[32, 32] }) (v : Value) (n : Nat) (xs : List Co.C) (hs : a.eval s = v) (hown : w.ownsRow w0.heap.size 23 2 v n (Co.cells xs))
    (ao : Option Addr) (nl cap : Nat) (l : List Co.C) (hx : a.eval x = .slice ao nl cap) (hnl : l.length = nl) (hR : Co.slot w ao l) (hC : Co.came ao cap) (hn : n + nl ≤ 1000000) (hb : Below w0.heap.size w0 w)
    (h : ∀ v' w', w'.ownsRow w0.heap.size 23 2 v' (n + nl) (Co.cells (xs ++ l)) → Below w0.heap.size w0 w' → wpList Tryd.prog ops Q rest (a.put o.dst v') w') : wpList Tryd.prog ops Q (o :: rest) a w := by
  subst hnl
  exact append_list hgd s x ho v n xs hs hown ao cap l hx hR hC hn hb h

set_option maxHeartbeats 4000000 in
theorem with_in (ao : Option Addr) (ca : Nat) (l : List Co.C) (c d : Int) (w : World) (hs : Co.sl w ao ca l) (hr : Co.rises l) (hlen : l.length ≤ 1000) (hi : Co.inL l (c, d) = true) :
    Calls Tryd.prog 51 #[.slice ao l.length ca, .agg #[.int .i64 c, .int .i64 d]] w (WithGood w ao l (c, d)) := by
  have B0 := hide (balloc (brefl w) (.cells #[.int .i64 c, .int .i64 d] 23))
  have HS := hide (Co.sl_below hs B0.out)
  have HI := hide hi
  have HR := hide hr
  clear hs hi hr
  go_enter Tryd.func51, Tryd.ntmps51
  go_wp2_with fail
  refine (refIn_is ao ca l c d true HI.out _ HS.out.1 (by omega)).mono ?_
  rintro e w1 ⟨rfl, hb1⟩
  have HS1 := hide (Co.sl_below HS.out hb1)
  have B1 := hide (bthen B0.out hb1)
  clear hb1
  go_wp2_with fail
  exact bodyPost_ret (v := .slice ao l.length ca) (by simp [results, Tryd.results51, go_sem]) rfl ⟨ao, ca, l, rfl, Co.uni_in HR.out HI.out, HS1.out, .inl rfl, by omega, B1.out⟩
end Go.Proofs.YtgebfgjeckdngaaDoor
