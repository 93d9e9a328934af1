import Derived.Test.YtechocnednepiaaGc
/- The law's same, put together. -/
namespace Go.Proofs.Ytechocnednepiaa
open Go.RowKit

theorem enter41 : ∀ args w, (callFunc 41 args).run Try.prog w = .ok (.enter 41 args) w := by intro args w; go_simp
def SmI (K J L b off cap : Nat) (l : Prs) (o0 : Option Obj) (pre : List (Pf × Value)) (S : Nat → Prop) (W : World) : Prop := (∀ k, S k ↔ k = K ∨ k = J ∨ k = L ∨ k = b) ∧ Sm K J L b off cap l pre.length W ∧ W.heap[b]? = o0
theorem same1_pairs {K J L b off cap : Nat} {l : Prs} {o0 : Option Obj} (hlen : l.length ≤ 1000) : Pairs 41 #[.pointer (some ⟨K, 0, none⟩), .pointer (some ⟨J, 0, none⟩), .pointer (some ⟨L, 0, none⟩)] (fun pre x => ∃ h : pre.length < l.length, x = em l[pre.length]) (SmI K J L b off cap l o0) (fun _ _ => true) where
  call := by
    rintro pre S W x ⟨hS, hm, ho⟩ ⟨h, rfl⟩
    refine Calls.mono (same1_is hm h (x := l[pre.length].1) (u := l[pre.length].2) rfl hlen) ?_
    rintro e w' ⟨rfl, h1, h2⟩
    exact ⟨rfl, S, ⟨hS, by simpa using h1, (h2.block b (fun e => by have := hm.ne; omega) hm.hb).trans ho⟩, h2.mono fun k hk => (hS k).2 (by omega), fun k hk => .inl hk⟩
  keep := by
    rintro pre S W W' ⟨hS, hm, ho⟩ hk
    exact ⟨hS, hm.keep fun k h => hk k ((hS k).2 h), (hk b ((hS b).2 (.inr (.inr (.inr rfl))))).trans ho⟩
  lt := by
    rintro pre S W k ⟨hS, hm, _⟩ hk
    rcases (hS k).1 hk with rfl | rfl | rfl | rfl
    · exact lt_of_block hm.ok
    · exact lt_of_block hm.cnt
    · exact lt_of_block hm.lst
    · exact hm.hb
/-- The same of no list. -/
def SnI (K J L : Nat) (v : Value) (pre : List (Pf × Value)) (S : Nat → Prop) (W : World) : Prop := (∀ k, S k ↔ k = K ∨ k = J ∨ k = L) ∧ pre = [] ∧ W.heap[K]? = some (.cells #[.bool true] 4 (0, 0)) ∧ W.heap[J]? = some (.cells #[.int .i64 0] 3 (0, 0)) ∧ W.heap[L]? = some (.cells #[v] 25 (0, 0))
theorem none_pairs {K J L : Nat} {v : Value} : Pairs 41 #[.pointer (some ⟨K, 0, none⟩), .pointer (some ⟨J, 0, none⟩), .pointer (some ⟨L, 0, none⟩)] (fun _ _ => False) (SnI K J L v) (fun _ _ => true) where
  call := fun _ _ _ _ _ h => h.elim
  keep := by
    rintro pre S W W' ⟨hS, h0, h1, h2, h3⟩ hk
    exact ⟨hS, h0, (hk K ((hS K).2 (.inl rfl))).trans h1, (hk J ((hS J).2 (.inr (.inl rfl)))).trans h2, (hk L ((hS L).2 (.inr (.inr rfl)))).trans h3⟩
  lt := by
    rintro pre S W k ⟨hS, h0, h1, h2, h3⟩ hk
    rcases (hS k).1 hk with rfl | rfl | rfl
    · exact lt_of_block h1
    · exact lt_of_block h2
    · exact lt_of_block h3
/-- What Each does for same: all is right, and as many. -/
theorem same_each {w0 w W : World} {T : Nat} {t : Nt} {ao : Option Addr} {cap : Nat} {l : Prs} {K J L : Nat} (hS : St w0 w T t ao cap l) (hlen : l.length ≤ 1000) (hb : Below w.heap.size w W) (hK : W.heap[K]? = some (.cells #[.bool true] 4 (0, 0))) (hJ : W.heap[J]? = some (.cells #[.int .i64 0] 3 (0, 0))) (hL : W.heap[L]? = some (.cells #[.slice ao l.length cap] 25 (0, 0))) (hne : K ≠ J ∧ K ≠ L ∧ J ≠ L) (hnew : w.heap.size ≤ K ∧ w.heap.size ≤ J ∧ w.heap.size ≤ L) :
    Calls Try.prog 28 #[.pointer (some ⟨T, 0, none⟩), .func (.func 41) #[] #[.pointer (some ⟨K, 0, none⟩), .pointer (some ⟨J, 0, none⟩), .pointer (some ⟨L, 0, none⟩)]] W fun e w' => e = .returned (.tuple #[]) ∧ Below w.heap.size w w' ∧ w'.cell? ⟨K, 0, none⟩ = some (.bool true) ∧ w'.cell? ⟨J, 0, none⟩ = some (.int .i64 (l.length : Nat)) ∧ w'.cell? ⟨L, 0, none⟩ = some (.slice ao l.length cap) := by
  have hW := hS.next hb
  have hlt := hS.tri.lt
  by_cases h0 : l = []
  · subst h0
    refine Calls.mono (each_is enter41 none_pairs hW.tri (S := fun k => k = K ∨ k = J ∨ k = L) ⟨fun _ => Iff.rfl, rfl, hK, hJ, hL⟩ (fun k hk e => by have := hlt k hk; omega) ?_) ?_
    · intro l1 x l2 e
      rw [hW.same] at e
      simp at e
    · rintro e w' ⟨rfl, S', ⟨_, _, h1, h2, h3⟩, hk, _⟩
      exact ⟨rfl, hk.below' hb (fun k hk => by omega) hb.size, cell_of_one h1, cell_of_one h2, cell_of_one h3⟩
  · obtain ⟨b, off, rfl, hr⟩ : ∃ b off, ao = some ⟨b, off, none⟩ ∧ Pr.reads W b off l := by
      rcases hW.good.row with h | h
      · exact absurd h h0
      · exact h
    have hbo := hS.off _ rfl
    have hbw : b < w.heap.size := hbo.2
    have hgo : goes (fun _ _ => true) [] (t.list (0, 0)) = (t.list (0, 0), true) := by rw [goes_true]; rfl
    have hE := each_is enter41 (same1_pairs (K := K) (J := J) (L := L) (b := b) (off := off) (cap := cap) (o0 := W.heap[b]?) hlen) hW.tri (S := fun k => k = K ∨ k = J ∨ k = L ∨ k = b) ⟨fun _ => Iff.rfl, ⟨hK, by simpa using hJ, hL, hr, Nat.lt_of_lt_of_le hbw hb.size, ⟨hne.1, hne.2.1, hne.2.2, by omega, by omega, by omega⟩⟩, rfl⟩ (fun k hk e => by
        rcases e with e | e | e | e
        · have := hlt k hk; omega
        · have := hlt k hk; omega
        · have := hlt k hk; omega
        · exact hbo.1 (e ▸ hk)) (fun l1 x l2 e => by
        have hl := congrArg List.length e
        rw [hW.same] at e hl
        simp only [List.length_map, List.length_append, List.length_cons] at hl
        refine ⟨by simpa using (show l1.length < l.length by omega), ?_⟩
        have h2 : (l.map em)[l1.length]? = some x := by rw [e]; simp
        rw [List.getElem?_map, List.getElem?_eq_getElem (by omega)] at h2
        simp only [Option.map_some, Option.some.injEq] at h2
        simp only [List.nil_append]
        exact h2.symm)
    rw [hgo] at hE
    refine Calls.mono hE ?_
    rintro e w' ⟨rfl, S', ⟨_, hm, ho⟩, hk, _⟩
    have hl2 : (t.list (0, 0)).length = l.length := hS.len
    refine ⟨rfl, ?_, cell_of_one hm.ok, ?_, cell_of_one hm.lst⟩
    · refine ⟨hk.os.trans hb.os, hk.tape.trans hb.tape, hk.output.trans hb.output, Nat.le_trans hb.size hk.size, fun k hlt2 => ?_⟩
      by_cases e : k = b
      · subst e
        exact ho.trans (hb.block _ hlt2)
      · exact (hk.block k (by omega) (Nat.lt_of_lt_of_le hlt2 hb.size)).trans (hb.block k hlt2)
    · rw [cell_of_one hm.cnt, hl2]
end Go.Proofs.Ytechocnednepiaa
