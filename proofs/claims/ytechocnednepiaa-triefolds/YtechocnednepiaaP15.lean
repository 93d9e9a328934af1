import Derived.Test.YtechocnednepiaaP14
import Derived.Test.YtechocnednepiaaR2
/- The contracts of a trie's Above and Below. -/
namespace Go.Proofs.Ytechocnednepiaa
open Go.RowKit

def AboveI (F : Nat) (pre : List (Pf × Nt)) (S : Nat → Prop) (W : World) : Prop := ∃ v, RowI F (F + 1) ((pre.flatMap Nt.mine).map Prod.fst) S W v
theorem mine_length (pre : List (Pf × Nt)) : (pre.flatMap Nt.mine).length ≤ pre.length := by
  induction pre with
  | nil => simp
  | cons x l ih =>
    obtain ⟨c, n⟩ := x
    cases n with
    | nil => simp [Nt.mine] at *; omega
    | nd b lo hi v is => cases is <;> simp [Nt.mine, one] at * <;> omega
theorem enter50 : ∀ args w, (callFunc 50 args).run Try.prog w = .ok (.enter 50 args) w := by intro args w; go_simp
theorem enter55 : ∀ args w, (callFunc 55 args).run Try.prog w = .ok (.enter 55 args) w := by intro args w; go_simp
theorem above1_nodes (F : Nat) : Nodes 89 50 #[.pointer (some ⟨F, 0, none⟩)] (fun _ => True) (AboveI F) where
  call := by
    rintro pre S W ⟨q, n⟩ ⟨v, hR⟩ hlen hg hn hat _ _
    cases n with
    | nil => exact absurd rfl hn
    | nd b lo hi u is =>
      cases is
      · refine Calls.mono (above1_no (F := F) q hat) ?_
        rintro e w' ⟨rfl, hb⟩
        refine ⟨rfl, S, ⟨v, ?_⟩, Keep.of hb, fun k hk => .inl hk⟩
        have : ((pre ++ [(q, Nt.nd b lo hi u false)]).flatMap Nt.mine) = pre.flatMap Nt.mine := by simp [Nt.mine, one]
        rw [this]
        exact hR.keep fun k hk => hb.block k (hR.inS k hk)
      · refine Calls.mono (above1_yes hR (by rw [List.length_map]; have := mine_length pre; omega) q hat) ?_
        rintro e w' ⟨rfl, S', v', h1, h2, h3⟩
        refine ⟨rfl, S', ⟨v', ?_⟩, h2, h3⟩
        have : ((pre ++ [(q, Nt.nd b lo hi u true)]).flatMap Nt.mine).map Prod.fst = (pre.flatMap Nt.mine).map Prod.fst ++ [q] := by simp [Nt.mine, one]
        rw [this]
        exact h1
  keep := by
    rintro pre S W W' ⟨v, hR⟩ hk
    exact ⟨v, hR.keep hk⟩
  lt := by
    rintro pre S W k ⟨v, hR⟩ hk
    exact hR.inS k hk
  hered := fun _ _ _ _ _ _ => ⟨trivial, trivial⟩
def came (ao : Option Addr) (cap : Nat) : Prop := (ao = none → cap = 0) ∧ (∀ ad, ao = some ad → ad.spot = none)
theorem came_some (g o c : Nat) : came (some ⟨g, o, none⟩) c := ⟨fun h => (by cases h), fun ad h => (by cases h; rfl)⟩
/-- A list of prefixes that is handed back. -/
def Lists (w : World) (l : List Pf) (e : Ending) (w' : World) : Prop := ∃ (ao : Option Addr) (cap : Nat), e = .returned (.slice ao l.length cap) ∧ Ad.rowAt w' ao l ∧ Below w.heap.size w w' ∧ came ao cap
theorem own_shape {w : World} {B n : Nat} {v : Value} {l : List Pf} (h : w.ownsRow B 30 2 v n (Ad.cells l)) : ∃ (ao : Option Addr) (cap : Nat), v = .slice ao n cap ∧ Ad.rowAt w ao l ∧ came ao cap := by
  rcases h.2 with ⟨rfl, h0⟩ | ⟨g, cap, cur, rfl, r⟩
  · refine ⟨none, 0, by rw [h0], .inl ?_, ⟨fun _ => rfl, fun ad e => (by cases e)⟩⟩
    have := h.1
    rw [Ad.cells_length, h0] at this
    exact List.length_eq_zero_iff.1 (by omega)
  · exact ⟨_, _, rfl, Ad.rowAt_own h, came_some _ _ _⟩
set_option maxHeartbeats 1000000 in
theorem above_is {z : Value} {w : World} {T : Nat} {t : Nt} (hT : Tri 75 89 z w T t) {p : Pf} (hp : Gd p) :
    Calls Try.prog 24 #[.pointer (some ⟨T, 0, none⟩), pv p] w (Lists w (((t.list (0, 0)).filter fun x => decide (In x.1 p)).map Prod.fst)) := by
  obtain ⟨L, hL⟩ : ∃ L, L = (((t.list (0, 0)).filter fun x => decide (In x.1 p)).map Prod.fst) := ⟨_, rfl⟩
  have HF : Hid (((t.path (0, 0) p).flatMap Nt.mine).map Prod.fst = L) := by show _ = _; rw [hL, Nt.path_filter t (0, 0) p gd_root hp (in_root hp) hT.wf]
  rw [← hL]
  clear hL
  have HT := hide hT
  have HP := hide hp
  have HR := hide (RowI.start (w.alloc (.cells #[.int .u32 p.1, .int .i64 p.2] 30)))
  have HB := hide (balloc (balloc (brefl w) (.cells #[.int .u32 p.1, .int .i64 p.2] 30)) (.cells #[.slice none 0 0] 51))
  have HT2 := hide (HT.out.below HB.out)
  rw [size_alloc] at HR
  have HS : Hid (∀ k ∈ T :: t.own, ¬ k = w.heap.size + 1) := fun k hk e => by have := HT.out.lt k hk; omega
  clear hT hp
  obtain ⟨p0, p1⟩ := p
  unfold pv
  go_enter Try.func24, Try.ntmps24
  go_wp2_with fail
  generalize (w.alloc (.cells #[.int .u32 p0, .int .i64 p1] 30)).alloc (.cells #[.slice none 0 0] 51) = W at *
  refine (down_is enter50 (above1_nodes (w.heap.size + 1)) HT2.out (S := fun k => k = w.heap.size + 1) ⟨_, HR.out⟩ HS.out trivial HP.out).mono ?_
  rintro e w2 ⟨rfl, S', ⟨v, hR⟩, hk, hm⟩
  have HB2 : Hid (Below w.heap.size w w2) := hk.below' HB.out (fun k hk => by omega) HB.out.size
  rw [HF.out] at hR
  obtain ⟨ao, cap, rfl, hrow, hcm⟩ := own_shape hR.row
  have HRW := hide hrow
  have HCM := hide hcm
  have f0 := cell_of_one hR.var
  clear hR hk hm hrow hcm HR HT2 HS
  go_wp2_with fail
  go_ret
  exact ⟨ao, cap, rfl, HRW.out, HB2.out, HCM.out⟩
theorem above_none {tv : Value} {p : Pf} {w : World} (CD : ∀ lb W, Calls Try.prog 49 #[tv, pv p, .func (.func 50) #[] lb] W fun e w' => e = .returned (.tuple #[]) ∧ Below W.heap.size W w') :
    Calls Try.prog 24 #[tv, pv p] w fun e w' => e = .returned (.slice none 0 0) ∧ Below w.heap.size w w' := by
  have HD := hide CD
  clear CD
  obtain ⟨p0, p1⟩ := p
  unfold pv at HD ⊢
  go_enter Try.func24, Try.ntmps24
  go_wp2_with fail
  refine (HD.out _ _).mono ?_
  rintro e w2 ⟨rfl, hb⟩
  have HB2 := hide (bthen (balloc (balloc (brefl w) _) _) hb)
  have f0 : w2.cell? ⟨w.heap.size + 1, 0, none⟩ = some (.slice none 0 0) := by rw [hb.cell (by simp)]; simp
  clear hb
  go_wp2_with fail
  go_ret
  exact ⟨rfl, HB2.out⟩
theorem above_nil (p : Pf) (w : World) : Calls Try.prog 24 #[.pointer none, pv p] w fun e w' => e = .returned (.slice none 0 0) ∧ Below w.heap.size w w' := above_none fun lb W => down_nil p 50 lb W
theorem above_bad (T : Nat) (p : Pf) (w : World) (h0 : 0 ≤ p.1) (h1 : p.1 ≤ 4294967295) (hm : Ad.may p.1 p.2 = false) : Calls Try.prog 24 #[.pointer (some ⟨T, 0, none⟩), pv p] w fun e w' => e = .returned (.slice none 0 0) ∧ Below w.heap.size w w' := above_none fun lb W => down_bad T p 50 lb W h0 h1 hm

def BelowI (F : Nat) (pre : List (Pf × Value)) (S : Nat → Prop) (W : World) : Prop := ∃ v, RowI F (F + 1) (pre.map Prod.fst) S W v
theorem below1_pairs (F : Nat) : Pairs 55 #[.pointer (some ⟨F, 0, none⟩)] (fun pre _ => pre.length ≤ 1000000) (BelowI F) (fun _ _ => true) where
  call := by
    rintro pre S W ⟨q, u⟩ ⟨v, hR⟩ hlen
    refine Calls.mono (below1_is hR (by simpa using hlen) q) ?_
    rintro e w' ⟨rfl, S', v', h1, h2, h3⟩
    exact ⟨rfl, S', ⟨v', by simpa using h1⟩, h2, h3⟩
  keep := by
    rintro pre S W W' ⟨v, hR⟩ hk
    exact ⟨v, hR.keep hk⟩
  lt := by
    rintro pre S W k ⟨v, hR⟩ hk
    exact hR.inS k hk
theorem goes_true (l : List (Pf × Value)) : ∀ pre, goes (fun _ _ => true) pre l = (pre ++ l, true) := by
  induction l with
  | nil => intro pre; simp [goes]
  | cons x l ih => intro pre; simp [goes, ih]
end Go.Proofs.Ytechocnednepiaa
