import Derived.Test.YtechocnednepiaaP11
import Derived.Test.YtechocnednepiaaP12
/- The contracts of a node's over, put together; of a trie's Each, Len and New. -/
namespace Go.Proofs.Ytechocnednepiaa
open Go.RowKit

theorem halves_of {c : Pf} (hc : Gd c) (hl : c.2 ≤ 31) (W : World) : Calls Try.prog 64 #[pv c] W fun e w' => e = .returned (.tuple #[pv (half c false), pv (half c true), .int .i64 0]) ∧ Below W.heap.size W w' := halves_yes c.1 c.2 W hc.1 hc.2.1 hc.may hc.2.2.1 hl
theorem halves_end {c : Pf} (hc : Gd c) (hl : c.2 = 32) (W : World) : Calls Try.prog 64 #[pv c] W fun e w' => e = .returned (.tuple #[pv (0, 0), pv (0, 0), .int .i64 5]) ∧ Below W.heap.size W w' := by
  obtain ⟨a, b⟩ := c
  simp only at hl
  subst hl
  exact halves_all a W hc.1 hc.2.1 hc.may
theorem gone_nil {f : Nat} {lb : Array Value} {ok : List (Pf × Value) → Pf × Value → Prop} {I : List (Pf × Value) → (Nat → Prop) → World → Prop} {ans : List (Pf × Value) → Pf × Value → Bool} (hN : Pairs f lb ok I ans) {c : Pf} {fv : Value} {S : Nat → Prop} {w : World} {pre : List (Pf × Value)} (hI : I pre S w) :
    Calls Try.prog 54 #[.pointer none, pv c, fv] w (Gone I S w (goes ans pre [])) :=
  (over_nil c fv w).mono fun _e _w' ⟨h1, h2⟩ => ⟨h1, S, hN.keep _ _ _ _ hI fun k hk => h2.block k (hN.lt _ _ _ k hI hk), Keep.of h2, fun _ hk => .inl hk⟩
theorem over_is {f : Nat} {lb : Array Value} (eg : ∀ args w, (callFunc f args).run Try.prog w = .ok (.enter f args) w) {ok : List (Pf × Value) → Pf × Value → Prop} {I : List (Pf × Value) → (Nat → Prop) → World → Prop} {ans : List (Pf × Value) → Pf × Value → Bool} (hN : Pairs f lb ok I ans) {z : Value} :
    ∀ (t : Nt) (c : Pf) (pre : List (Pf × Value)) (S : Nat → Prop) (w : World), I pre S w → t.At 89 w → (∀ k ∈ t.own, ¬ S k) → Gd c → t.wf z (left c) → OkAll ok pre (t.list c) →
      Calls Try.prog 54 #[t.ptr, pv c, .func (.func f) #[] lb] w (Gone I S w (goes ans pre (t.list c))) := by
  intro t
  induction t with
  | nil => intro c pre S w hI _ _ _ _ _; exact gone_nil hN hI
  | nd b lo hi v is ih1 ih2 =>
    intro c pre S w hI hl hs hc hw hok
    have ST := hide (Ov.start hN hI hl hs c)
    have hlo : ∀ (q : Pf) (L : List (Pf × Value)) (pre : List (Pf × Value)), (c.2 ≤ 31 → q = half c false ∧ L = lo.list q ∧ OkAll ok pre L) → (¬ c.2 ≤ 31 → L = []) → ∀ S W, I pre S W → lo.At 89 W → (∀ k ∈ lo.own, ¬ S k) → Calls Try.prog 54 #[lo.ptr, pv q, .func (.func f) #[] lb] W (Gone I S W (goes ans pre L)) := by
      intro q L pre h1 h2 S W hI hl hs
      by_cases h : c.2 ≤ 31
      · obtain ⟨rfl, rfl, h3⟩ := h1 h
        exact ih1 _ pre S W hI hl hs (gd_half hc h _) (by rw [left_half]; exact hw.2.2.2.1) h3
      · rw [h2 h]
        have : lo = .nil := (Nt.kids_nil hw h).1
        rw [this]
        exact gone_nil hN hI
    have hhi : ∀ (q : Pf) (L : List (Pf × Value)) (pre : List (Pf × Value)), (c.2 ≤ 31 → q = half c true ∧ L = hi.list q ∧ OkAll ok pre L) → (¬ c.2 ≤ 31 → L = []) → ∀ S W, I pre S W → hi.At 89 W → (∀ k ∈ hi.own, ¬ S k) → Calls Try.prog 54 #[hi.ptr, pv q, .func (.func f) #[] lb] W (Gone I S W (goes ans pre L)) := by
      intro q L pre h1 h2 S W hI hl hs
      by_cases h : c.2 ≤ 31
      · obtain ⟨rfl, rfl, h3⟩ := h1 h
        exact ih2 _ pre S W hI hl hs (gd_half hc h _) (by rw [left_half]; exact hw.2.2.2.2) h3
      · rw [h2 h]
        have : hi = .nil := (Nt.kids_nil hw h).2
        rw [this]
        exact gone_nil hN hI
    obtain ⟨q, r, x, hq⟩ : ∃ (q r : Pf) (x : Int), (∀ W, Calls Try.prog 64 #[pv c] W fun e w' => e = .returned (.tuple #[pv q, pv r, .int .i64 x]) ∧ Below W.heap.size W w') ∧ (c.2 ≤ 31 → q = half c false ∧ r = half c true) := by
      by_cases h : c.2 ≤ 31
      · exact ⟨_, _, _, halves_of hc h, fun _ => ⟨rfl, rfl⟩⟩
      · exact ⟨_, _, _, halves_end hc (by have := hc.2.2.2.1; omega), fun e => absurd e h⟩
    have e1 : ∀ pre2, pre2 = pre ++ one is c v → OkAll ok pre2 (lo.list (half c false)) := by
      rintro _ rfl l1 y l2 e
      have := hok (one is c v ++ l1) y (l2 ++ hi.list (half c true)) (by simp [Nt.list, e])
      simpa using this
    have e2 : ∀ pre2, pre2 = pre ++ one is c v → (goes ans pre2 (lo.list (half c false))).2 = true → OkAll ok (goes ans pre2 (lo.list (half c false))).1 (hi.list (half c true)) := by
      rintro _ rfl hg l1 y l2 e
      rw [goes_all _ _ _ hg]
      have := hok (one is c v ++ lo.list (half c false) ++ l1) y l2 (by simp [Nt.list, e])
      simpa using this
    have hnil1 : ¬ c.2 ≤ 31 → lo.list (half c false) = [] := fun h => by rw [(Nt.kids_nil hw h).1]; rfl
    have hnil2 : ¬ c.2 ≤ 31 → hi.list (half c true) = [] := fun h => by rw [(Nt.kids_nil hw h).2]; rfl
    cases is
    · exact over_not eg hN (x := x) ST (hide hq.1) (hide (hlo q _ pre (fun h => ⟨(hq.2 h).1, by rw [(hq.2 h).1], e1 _ (by simp [one])⟩) hnil1)) (hide fun hg => hhi r _ _ (fun h => ⟨(hq.2 h).2, by rw [(hq.2 h).2], e2 pre (by simp [one]) hg⟩) hnil2)
    · exact over_yes eg hN (x := x) ST (hide (by simpa using hok [] (c, v) _ rfl)) (hide hq.1) (hide (hlo q _ _ (fun h => ⟨(hq.2 h).1, by rw [(hq.2 h).1], e1 _ (by simp [one])⟩) hnil1)) (hide fun hg => hhi r _ _ (fun h => ⟨(hq.2 h).2, by rw [(hq.2 h).2], e2 _ (by simp [one]) hg⟩) hnil2)

theorem fn_equalIn {P : Program} (w : World) (d : Nat) (t : TypeId) (ps rs : Array TypeId) (vd : Bool) (fn : Fn) (fi ca : Array Value) (h : P.underlying t = some (.func ps rs vd)) : (Op.equalIn (d + 1) t (.func fn fi ca) .nilFunc).run P w = .ok false w := by
  simp [Op.equalIn, run_underlying h]
theorem fn_equal {P : Program} (w : World) (t : TypeId) (ps rs : Array TypeId) (vd : Bool) (fn : Fn) (fi ca : Array Value) (h : P.underlying t = some (.func ps rs vd)) : (Op.equal t (.func fn fi ca) .nilFunc).run P w = .ok false w := fn_equalIn w 9999 t ps rs vd fn fi ca h
theorem fn_neq {P : Program} (w : World) (t : TypeId) (ps rs : Array TypeId) (vd : Bool) (fn : Fn) (fi ca : Array Value) (h : P.underlying t = some (.func ps rs vd)) : (binOp .neq t (.func fn fi ca) .nilFunc).run P w = .ok (.bool true) w := by
  simp only [binOp]
  simp [fn_equal w t ps rs vd fn fi ca h]
theorem fn_eql {P : Program} (w : World) (t : TypeId) (ps rs : Array TypeId) (vd : Bool) (fn : Fn) (fi ca : Array Value) (h : P.underlying t = some (.func ps rs vd)) : (binOp .eql t (.func fn fi ca) .nilFunc).run P w = .ok (.bool false) w := by
  simp only [binOp]
  simp [fn_equal w t ps rs vd fn fi ca h]
set_option maxHeartbeats 1000000 in
set_option maxRecDepth 100000 in
theorem each_is {f : Nat} {lb : Array Value} (eg : ∀ args w, (callFunc f args).run Try.prog w = .ok (.enter f args) w) {ok : List (Pf × Value) → Pf × Value → Prop} {I : List (Pf × Value) → (Nat → Prop) → World → Prop} {ans : List (Pf × Value) → Pf × Value → Bool} (hN : Pairs f lb ok I ans) {z : Value}
    {w : World} {T : Nat} {t : Nt} (hT : Tri 75 89 z w T t) {S : Nat → Prop} (hI : I [] S w) (hs : ∀ k ∈ T :: t.own, ¬ S k) (hok : OkAll ok [] (t.list (0, 0))) :
    Calls Try.prog 28 #[.pointer (some ⟨T, 0, none⟩), .func (.func f) #[] lb] w fun e w' => e = .returned (.tuple #[]) ∧ ∃ S', I (goes ans [] (t.list (0, 0))).1 S' w' ∧ Keep S w w' ∧ ∀ k, S' k → S k ∨ w.heap.size ≤ k := by
  have CO := hide (over_is eg hN t (0, 0) [] S w hI hT.lies (fun k hk => hs k (by simp [hk])) gd_root (by rw [left_root]; exact hT.wf) hok)
  obtain ⟨c0, c1, cf⟩ := top_cells hT.top
  clear hN hT hI hs hok cf
  unfold pv at CO
  have hfn := fun w => fn_neq w 60 _ _ _ (.func f) #[] lb Try.underlying60
  go_enter Try.func28, Try.ntmps28
  go_wp2_with fail
  refine CO.out.mono ?_
  rintro e w2 ⟨rfl, h⟩
  have H := hide h
  clear h
  go_wp2_with fail
  exact bodyPost_end (results_none Try.results28 _ _ _) rfl ⟨rfl, H.out⟩
theorem each_nil (fv : Value) (w : World) : Calls Try.prog 28 #[.pointer none, fv] w fun e w' => e = .returned (.tuple #[]) ∧ w' = w := by
  go_enter Try.func28, Try.ntmps28
  go_wp2_with fail
  exact bodyPost_end (results_none Try.results28 _ _ _) rfl ⟨rfl, rfl⟩
theorem len_is {z : Value} {w : World} {T : Nat} {t : Nt} (hT : Tri 75 89 z w T t) : Calls Try.prog 21 #[.pointer (some ⟨T, 0, none⟩)] w fun e w' => e = .returned (.int .i64 ((t.list (0, 0)).length : Nat)) ∧ w' = w := by
  obtain ⟨c0, c1, cf⟩ := top_cells hT.top
  generalize (t.list (0, 0)).length = n at *
  clear hT cf
  go_enter Try.func21, Try.ntmps21
  go_wp2_with fail
  go_ret
  exact ⟨rfl, rfl⟩
theorem len_nil (w : World) : Calls Try.prog 21 #[.pointer none] w fun e w' => e = .returned (.int .i64 0) ∧ w' = w := by
  go_enter Try.func21, Try.ntmps21
  go_wp2_with fail
  go_ret
  exact ⟨rfl, rfl⟩
theorem new_is (w : World) : Calls Try.prog 9 #[] w fun e w' => e = .returned (.pointer (some ⟨w.heap.size, 0, none⟩)) ∧ w' = w.alloc (.cells #[.pointer none, .int .i64 0] 75) := by
  go_enter Try.func9, Try.ntmps9
  go_wp2_with fail
  go_ret
  exact ⟨rfl, rfl⟩
theorem tri_new (yT y : Nat) (z : Value) (w : World) : Tri yT y z (w.alloc (.cells #[.pointer none, .int .i64 0] yT)) w.heap.size .nil := ⟨heap_alloc_new _ _, trivial, by simp [Nt.own], trivial⟩
end Go.Proofs.Ytechocnednepiaa
