import Derived.Test.YtechocnednepiaaL4
/- The law's step, put together, and made. -/
namespace Go.Proofs.Ytechocnednepiaa
open Go.RowKit

set_option maxHeartbeats 4000000 in
set_option maxRecDepth 100000 in
theorem step_drop_no {w0 w : World} {T : Nat} {t : Nt} {ao : Option Addr} {cap : Nat} {l : Prs} (hS : St w0 w T t ao cap l) (v a : Int) {p : Pf} (may : Bool) (CD0 : ∀ W, Below w.heap.size w W → Calls Try.prog 22 #[.pointer (some ⟨T, 0, none⟩), pv p] W fun e w' => e = .returned (.bool false) ∧ Below W.heap.size W w')
    (CM0 : ∀ W, Calls Try.prog 31 #[pv p] W fun e w' => e = .returned (.bool may) ∧ Below W.heap.size W w') (CR0 : may = true → ∀ W, Below w.heap.size w W → Calls Try.prog 40 #[.slice ao l.length cap, pv p] W fun e w' => e = .returned (.tuple #[.slice ao l.length cap, .bool false]) ∧ Below W.heap.size W w') :
    Calls Try.prog 10 #[.pointer (some ⟨T, 0, none⟩), .slice ao l.length cap, .agg #[.int .i64 1, .int .i64 v, .int .u32 p.1, .int .i64 p.2, .int .u32 a]] w (Stepped w0 T l) := by
  have CD := hide CD0
  have CM := hide CM0
  have CR := hide CR0
  have FV := hide (five_new w 1 v p a)
  have HB := hide (balloc (brefl w) (.cells #[.int .i64 1, .int .i64 v, .int .u32 p.1, .int .i64 p.2, .int .u32 a] 32))
  have ST := hide hS
  clear hS CD0 CM0 CR0
  obtain ⟨p0, p1⟩ := p
  unfold pv at CD CM CR
  go_enter Try.func10, Try.ntmps10
  go_wp2_with fail
  generalize w.alloc (.cells #[.int .i64 1, .int .i64 v, .int .u32 p0, .int .i64 p1, .int .u32 a] 32) = W at *
  refine (CD.out _ HB.out).mono ?_
  rintro e w2 ⟨rfl, hb2⟩
  have B2 := hide (bthen HB.out hb2)
  obtain ⟨g0, g1, g2, g3, g4⟩ := (FV.out.below hb2).cells
  have F2 := hide (FV.out.below hb2)
  clear hb2
  go_wp2_with fail
  refine (CM.out _).mono ?_
  rintro e w3 ⟨rfl, hb3⟩
  have B3 := hide (bthen B2.out hb3)
  obtain ⟨g0, g1, g2, g3, g4⟩ := (F2.out.below hb3).cells
  clear hb3
  cases may
  · go_wp2_with fail
    go_ret2
    exact ⟨t, ao, cap, l, rfl, ST.out.next B3.out, Nat.le_succ _⟩
  · go_wp2_with fail
    refine (CR.out (by trivial) _ B3.out).mono ?_
    rintro e w4 ⟨rfl, hb4⟩
    have B4 := hide (bthen B3.out hb4)
    clear hb4
    go_wp2_with fail
    go_ret2
    exact ⟨t, ao, cap, l, rfl, ST.out.next B4.out, Nat.le_succ _⟩
set_option maxHeartbeats 4000000 in
set_option maxRecDepth 100000 in
theorem step_drop_yes {w0 w : World} {T : Nat} {t : Nt} {ao : Option Addr} {cap : Nat} {l : Prs} (hS : St w0 w T t ao cap l) (v a : Int) {p : Pf} (hp : Gd p) {u : Value} (hu : look (t.list (0, 0)) p = some u) (hn : l.length ≤ 1000) :
    Calls Try.prog 10 #[.pointer (some ⟨T, 0, none⟩), .slice ao l.length cap, .agg #[.int .i64 1, .int .i64 v, .int .u32 p.1, .int .i64 p.2, .int .u32 a]] w (Stepped w0 T l) := by
  have FV := hide (five_new w 1 v p a)
  have HB := hide (balloc (brefl w) (.cells #[.int .i64 1, .int .i64 v, .int .u32 p.1, .int .i64 p.2, .int .u32 a] 32))
  have CM := hide (fun W => refMay_is p.1 p.2 true hp.may W hp.1 hp.2.1)
  have SW := hide (hS.next HB.out)
  have CD := hide (drop_is SW.out.tri hp hu (by rw [SW.out.len]; omega))
  have ST := hide hS
  have HN := hide hn
  clear hS hp hu
  obtain ⟨p0, p1⟩ := p
  unfold pv at CD
  go_enter Try.func10, Try.ntmps10
  go_wp2_with fail
  generalize w.alloc (.cells #[.int .i64 1, .int .i64 v, .int .u32 p0, .int .i64 p1, .int .u32 a] 32) = W at *
  refine CD.out.mono ?_
  rintro e w2 ⟨rfl, t', hD⟩
  have HD := hide hD
  have F2 := hide (FV.out.kept hD.keep (fun e => by have := ST.out.tri.lt _ e; exact Nat.lt_irrefl _ this))
  obtain ⟨g0, g1, g2, g3, g4⟩ := F2.out.cells
  have G2 : Hid (Pr.Good w2 ao cap l) := SW.out.good.kept hD.keep (fun x e => (SW.out.off x e).1)
  clear hD CD
  go_wp2_with fail
  refine (CM.out _).mono ?_
  rintro e w3 ⟨rfl, hb3⟩
  have B3 := hide hb3
  obtain ⟨g0, g1, g2, g3, g4⟩ := (F2.out.below hb3).cells
  have HPL : Hid ((place l (p0, p1)).2 = true) := (drop_place SW.out HD.out)
  have CR := hide (refDrop_yes (p0, p1) (G2.out.below hb3) (by have := HN.out; omega) HPL.out)
  unfold pv at CR
  clear hb3
  go_wp2_with fail
  refine CR.out.mono ?_
  rintro e w4 ⟨u4, rfl, hN, hb4⟩
  obtain ⟨_, l', ao', cap', hl, hu, hst⟩ := SW.out.drop (u := u4) HD.out (fun _ => pr_new B3.out hN) (bthen B3.out hb4)
  subst hu
  have HST := hide hst
  have HL := hide hl
  clear hN hb4 hst hl CR
  go_wp2_with fail
  go_ret2
  exact ⟨t', ao', cap', l', rfl, HST.out, Nat.le_succ_of_le HL.out⟩
theorem step_ask {w0 w : World} {T : Nat} {t : Nt} {ao : Option Addr} {cap : Nat} {l : Prs} (hS : St w0 w T t ao cap l) (k v a : Int) (p : Pf) (h0 : k ≠ 0) (h1 : k ≠ 1) :
    Calls Try.prog 10 #[.pointer (some ⟨T, 0, none⟩), .slice ao l.length cap, .agg #[.int .i64 k, .int .i64 v, .int .u32 p.1, .int .i64 p.2, .int .u32 a]] w (Stepped w0 T l) := by
  have HB := hide (balloc (brefl w) (.cells #[.int .i64 k, .int .i64 v, .int .u32 p.1, .int .i64 p.2, .int .u32 a] 32))
  have ST := hide hS
  have k0 : (k == 0) = false := by simpa using h0
  have k1 : (k == 1) = false := by simpa using h1
  clear hS h0 h1
  obtain ⟨p0, p1⟩ := p
  go_enter Try.func10, Try.ntmps10
  go_wp2_with fail
  go_ret2
  exact ⟨t, ao, cap, l, rfl, ST.out.next HB.out, Nat.le_succ _⟩
theorem step_is {w0 w : World} {T : Nat} {t : Nt} {ao : Option Addr} {cap : Nat} {l : Prs} (hS : St w0 w T t ao cap l) (k v a : Int) (p : Pf) (h0 : 0 ≤ p.1) (h1 : p.1 ≤ 4294967295) (hn : l.length ≤ 1000) :
    Calls Try.prog 10 #[.pointer (some ⟨T, 0, none⟩), .slice ao l.length cap, .agg #[.int .i64 k, .int .i64 v, .int .u32 p.1, .int .i64 p.2, .int .u32 a]] w (Stepped w0 T l) := by
  by_cases hk0 : k = 0
  · subst hk0
    cases hm : Ad.may p.1 p.2
    · exact step_put_bad hS v a h0 h1 hm
    · exact step_put hS v a (gd_of h0 h1 hm) hn
  · by_cases hk1 : k = 1
    · subst hk1
      cases hm : Ad.may p.1 p.2
      · exact step_drop_no hS v a false (fun W hW => drop_no fun W2 _ => get_bad T p W2 h0 h1 hm) (fun W => refMay_is p.1 p.2 false hm W h0 h1) (fun e => by cases e)
      · have hp := gd_of h0 h1 hm
        cases hl : look (t.list (0, 0)) p with
        | some u => exact step_drop_yes hS v a hp hl hn
        | none =>
          refine step_drop_no hS v a true (fun W hW => drop_no fun W2 hW2 => ?_) (fun W => refMay_is p.1 p.2 true hm W h0 h1) (fun _ W hW => refDrop_no p (hS.good.below hW) (by omega) ?_)
          · have := get_is ((hS.tri.below hW).below hW2) hp
            rw [hl] at this
            exact this
          · cases hb : (place l p).2
            · rfl
            · obtain ⟨x, hx, he⟩ := place_mem hb
              have := look_none hl (em x) (by rw [hS.same]; exact List.mem_map_of_mem hx)
              exact absurd he this
    · exact step_ask hS k v a p hk0 hk1
end Go.Proofs.Ytechocnednepiaa
