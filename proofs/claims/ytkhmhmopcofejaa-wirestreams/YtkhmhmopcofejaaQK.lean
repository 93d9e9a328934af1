import Derived.Test.YtkhmhmopcofejaaQJ
import Derived.Test.YtkhmhmopcofejaaPK
import Derived.Recover
import Derived.Tactics2
import Derived.Laws.Pointers
/- The contracts of bytes.Equal and wire's Decode. -/
namespace Go.Proofs.Ytkhmhmopcofejaa
open Go.RowKit Go.Sort

theorem ba_inj {a b : List UInt8} (h : (⟨a.toArray⟩ : ByteArray) = ⟨b.toArray⟩) : a = b := by
  have := congrArg (fun x : ByteArray => x.data.toList) h
  simpa using this
set_option maxRecDepth 100000 in
theorem equal_is (ao bo : Option Addr) (n m ca cb : Nat) (l1 l2 : List UInt8) (r : Bool) (hr : r = true ↔ l1 = l2) (hn : n = l1.length) (hm : m = l2.length) (w : World) (h1 : Bs.slot w ao l1) (h2 : Bs.slot w bo l2) (k1 : camB ao n ca) (k2 : camB bo m cb) :
    Calls Try.prog 33 #[.slice ao n ca, .slice bo m cb] w fun e w' => e = .returned (.bool r) ∧ w = w' := by
  obtain ⟨t1, ht1⟩ : ∃ t : ByteArray, t = ⟨l1.toArray⟩ := ⟨_, rfl⟩
  obtain ⟨t2, ht2⟩ : ∃ t : ByteArray, t = ⟨l2.toArray⟩ := ⟨_, rfl⟩
  have c1 := str_at (W := w) ht1 hn h1 k1
  have c2 := str_at (W := w) ht2 hm h2 k2
  have HE : Hid ((t1.toList == t2.toList) = r) := by
    show _ = _
    rw [Bool.eq_iff_iff, beq_iff_eq, hr, ByteArray.toList_eq, ByteArray.toList_eq, ht1, ht2]
  clear ht1 ht2 hr h1 h2 k1 k2 hn hm
  go_enter Try.func33, Try.ntmps33
  go_wp2_with fail
  go_ret
  exact ⟨ret_bool HE.out, rfl⟩
theorem nine_free {w : World} {b y : Nat} {x : Array Value} (h : w.heap[b]? = some (.cells x y (0, 0))) : w.frozen? ⟨b, 0, none⟩ = false ∧ w.frozen? ⟨b, 1, none⟩ = false ∧ w.frozen? ⟨b, 2, none⟩ = false ∧ w.frozen? ⟨b, 3, none⟩ = false ∧ w.frozen? ⟨b, 4, none⟩ = false ∧ w.frozen? ⟨b, 5, none⟩ = false ∧ w.frozen? ⟨b, 6, none⟩ = false ∧ w.frozen? ⟨b, 7, none⟩ = false ∧ w.frozen? ⟨b, 8, none⟩ = false :=
  ⟨frozen7 h 0, frozen7 h 1, frozen7 h 2, frozen7 h 3, frozen7 h 4, frozen7 h 5, frozen7 h 6, frozen7 h 7, frozen7 h 8⟩
theorem nine_put {w : World} {b t : Nat} {x0 x1 x2 x3 x4 x5 x6 x7 x8 : Value} (v0 v1 v2 v3 v4 v5 v6 v7 v8 : Value) (hu : w.heap[b]? = some (.cells #[x0, x1, x2, x3, x4, x5, x6, x7, x8] t (0, 0))) : (((((((((w.setCell ⟨b, 0, none⟩ v0).setCell ⟨b, 1, none⟩ v1).setCell ⟨b, 2, none⟩ v2).setCell ⟨b, 3, none⟩ v3).setCell ⟨b, 4, none⟩ v4).setCell ⟨b, 5, none⟩ v5).setCell ⟨b, 6, none⟩ v6).setCell ⟨b, 7, none⟩ v7).setCell ⟨b, 8, none⟩ v8).heap[b]? = some (.cells #[v0, v1, v2, v3, v4, v5, v6, v7, v8] t (0, 0)) := by
  have h0 : (w.setCell ⟨b, 0, none⟩ v0).heap[b]? = some (.cells #[v0, x1, x2, x3, x4, x5, x6, x7, x8] t (0, 0)) := heap_setCell_same _ b 0 _ t v0 hu
  have h1 : ((w.setCell ⟨b, 0, none⟩ v0).setCell ⟨b, 1, none⟩ v1).heap[b]? = some (.cells #[v0, v1, x2, x3, x4, x5, x6, x7, x8] t (0, 0)) := heap_setCell_same _ b 1 _ t v1 h0
  have h2 : (((w.setCell ⟨b, 0, none⟩ v0).setCell ⟨b, 1, none⟩ v1).setCell ⟨b, 2, none⟩ v2).heap[b]? = some (.cells #[v0, v1, v2, x3, x4, x5, x6, x7, x8] t (0, 0)) := heap_setCell_same _ b 2 _ t v2 h1
  have h3 : ((((w.setCell ⟨b, 0, none⟩ v0).setCell ⟨b, 1, none⟩ v1).setCell ⟨b, 2, none⟩ v2).setCell ⟨b, 3, none⟩ v3).heap[b]? = some (.cells #[v0, v1, v2, v3, x4, x5, x6, x7, x8] t (0, 0)) := heap_setCell_same _ b 3 _ t v3 h2
  have h4 : (((((w.setCell ⟨b, 0, none⟩ v0).setCell ⟨b, 1, none⟩ v1).setCell ⟨b, 2, none⟩ v2).setCell ⟨b, 3, none⟩ v3).setCell ⟨b, 4, none⟩ v4).heap[b]? = some (.cells #[v0, v1, v2, v3, v4, x5, x6, x7, x8] t (0, 0)) := heap_setCell_same _ b 4 _ t v4 h3
  have h5 : ((((((w.setCell ⟨b, 0, none⟩ v0).setCell ⟨b, 1, none⟩ v1).setCell ⟨b, 2, none⟩ v2).setCell ⟨b, 3, none⟩ v3).setCell ⟨b, 4, none⟩ v4).setCell ⟨b, 5, none⟩ v5).heap[b]? = some (.cells #[v0, v1, v2, v3, v4, v5, x6, x7, x8] t (0, 0)) := heap_setCell_same _ b 5 _ t v5 h4
  have h6 : (((((((w.setCell ⟨b, 0, none⟩ v0).setCell ⟨b, 1, none⟩ v1).setCell ⟨b, 2, none⟩ v2).setCell ⟨b, 3, none⟩ v3).setCell ⟨b, 4, none⟩ v4).setCell ⟨b, 5, none⟩ v5).setCell ⟨b, 6, none⟩ v6).heap[b]? = some (.cells #[v0, v1, v2, v3, v4, v5, v6, x7, x8] t (0, 0)) := heap_setCell_same _ b 6 _ t v6 h5
  have h7 : ((((((((w.setCell ⟨b, 0, none⟩ v0).setCell ⟨b, 1, none⟩ v1).setCell ⟨b, 2, none⟩ v2).setCell ⟨b, 3, none⟩ v3).setCell ⟨b, 4, none⟩ v4).setCell ⟨b, 5, none⟩ v5).setCell ⟨b, 6, none⟩ v6).setCell ⟨b, 7, none⟩ v7).heap[b]? = some (.cells #[v0, v1, v2, v3, v4, v5, v6, v7, x8] t (0, 0)) := heap_setCell_same _ b 7 _ t v7 h6
  have h8 : (((((((((w.setCell ⟨b, 0, none⟩ v0).setCell ⟨b, 1, none⟩ v1).setCell ⟨b, 2, none⟩ v2).setCell ⟨b, 3, none⟩ v3).setCell ⟨b, 4, none⟩ v4).setCell ⟨b, 5, none⟩ v5).setCell ⟨b, 6, none⟩ v6).setCell ⟨b, 7, none⟩ v7).setCell ⟨b, 8, none⟩ v8).heap[b]? = some (.cells #[v0, v1, v2, v3, v4, v5, v6, v7, v8] t (0, 0)) := heap_setCell_same _ b 8 _ t v8 h7
  exact h8
theorem nine_grown (w : World) (b : Nat) (v0 v1 v2 v3 v4 v5 v6 v7 v8 : Value) : w.grownBy (((((((((w.setCell ⟨b, 0, none⟩ v0).setCell ⟨b, 1, none⟩ v1).setCell ⟨b, 2, none⟩ v2).setCell ⟨b, 3, none⟩ v3).setCell ⟨b, 4, none⟩ v4).setCell ⟨b, 5, none⟩ v5).setCell ⟨b, 6, none⟩ v6).setCell ⟨b, 7, none⟩ v7).setCell ⟨b, 8, none⟩ v8) (some b) := grown_set (grown_set (grown_set (grown_set (grown_set (grown_set (grown_set (grown_set (grown_put w b 0 v0) 1 v1) 2 v2) 3 v3) 4 v4) 5 v5) 6 v6) 7 v7) 8 v8
/-- The update that is told where the reader gave up. -/
def wiped (w : World) (ub eb : Nat) : World := ((((((((((w.setCell ⟨ub, 0, none⟩ (.slice none 0 0)).setCell ⟨ub, 1, none⟩ (.slice none 0 0)).setCell ⟨ub, 2, none⟩ (.int .i64 0)).setCell ⟨ub, 3, none⟩ (.int .i64 0)).setCell ⟨ub, 4, none⟩ (.int .i64 0)).setCell ⟨ub, 5, none⟩ (.slice none 0 0)).setCell ⟨ub, 6, none⟩ (.slice none 0 0)).setCell ⟨ub, 7, none⟩ (.int .i64 0)).setCell ⟨ub, 8, none⟩ (.slice none 0 0))).setCell ⟨eb, 0, none⟩ (.int .i64 4)
set_option maxHeartbeats 1000000 in
set_option maxRecDepth 100000 in
theorem catch_panic (ub eb : Nat) (x0 x1 x2 x3 x4 x5 x6 x7 x8 y : Value) (w : World) (hu : w.heap[ub]? = some (.cells #[x0, x1, x2, x3, x4, x5, x6, x7, x8] 35 (0, 0))) (he : w.heap[eb]? = some (.cells #[y] 32 (0, 0))) (hne : ub ≠ eb) :
    CallsD Try.prog 31 #[.pointer (some ⟨ub, 0, none⟩), .pointer (some ⟨eb, 0, none⟩)] (.panicking [{ v := .iface 32 (.int .i64 4), recovered := false }]) w fun e u' w' =>
      e = .returned (.tuple #[]) ∧ u' = .panicking [{ v := .iface 32 (.int .i64 4), recovered := true }] ∧ w' = wiped w ub eb := by
  obtain ⟨c0, c1, c2, c3, c4, c5, c6, c7, c8⟩ := nine_cells hu
  obtain ⟨f0, f1, f2, f3, f4, f5, f6, f7, f8⟩ := nine_free hu
  have d0 : w.cell? ⟨eb, 0, none⟩ = some y := by simp [World.cell?, he]
  have g0 := frozen7 he 0
  have hne' : eb ≠ ub := fun e => hne e.symm
  unfold wiped
  clear hu he
  refine callsD_of_wpS Try.func31 rfl fun c₀ cs hu => ?_
  apply wpS_seq
  apply wpS_region
  simp [wpOpsS, go_sem, recoverD, hu, Try.ntmps31, Exit.thenS]
  refine wpS_cond (t := true) (by simp [Act.eval, Array.replicate]) ?_
  simp only [if_true]
  apply wpS_region
  simp [wpOpsS, go_sem, c0, c1, c2, c3, c4, c5, c6, c7, c8, f0, f1, f2, f3, f4, f5, f6, f7, f8, d0, g0, bodyPostS, results, Try.results31]
theorem catch_none (ub eb : Nat) (w : World) :
    CallsD Try.prog 31 #[.pointer (some ⟨ub, 0, none⟩), .pointer (some ⟨eb, 0, none⟩)] .returning w fun e u' w' => e = .returned (.tuple #[]) ∧ u' = .returning ∧ w = w' := by
  refine callsD_of_wpS Try.func31 rfl fun c₀ cs hu => ?_
  apply wpS_seq
  apply wpS_region
  simp [wpOpsS, go_sem, recoverD, hu, Try.ntmps31, Exit.thenS]
  refine wpS_cond (t := false) (by simp [Act.eval, Array.replicate]) ?_
  simp only [Bool.false_eq_true, if_false]
  refine wpS_of_wp (wp_skip ?_)
  cases c₀
  simp_all [bodyPostS, results, Try.results31]
theorem three_new0 (w : World) (A B C : Array Value) : (((w.alloc (.cells A 35)).alloc (.cells B 32)).alloc (.cells C 65)).heap[w.heap.size]? = some (.cells A 35 (0, 0)) :=
  (((balloc (brefl (w.alloc (.cells A 35))) (.cells B 32)).trans ((balloc (brefl _) _).mono (balloc (brefl (w.alloc (.cells A 35))) (.cells B 32)).size)).block w.heap.size (by simp)).trans (heap_new w A 35)
theorem three_new1 (w : World) (A B C : Array Value) : (((w.alloc (.cells A 35)).alloc (.cells B 32)).alloc (.cells C 65)).heap[w.heap.size + 1]? = some (.cells B 32 (0, 0)) := by
  have h := heap_new (w.alloc (.cells A 35)) B 32
  rw [show (w.alloc (.cells A 35)).heap.size = w.heap.size + 1 by simp] at h
  exact ((balloc (brefl ((w.alloc (.cells A 35)).alloc (.cells B 32))) (.cells C 65)).block (w.heap.size + 1) (by simp)).trans h
theorem three_new2 (w : World) (A B C : Array Value) : (((w.alloc (.cells A 35)).alloc (.cells B 32)).alloc (.cells C 65)).heap[w.heap.size + 2]? = some (.cells C 65 (0, 0)) := by
  have h := heap_new ((w.alloc (.cells A 35)).alloc (.cells B 32)) C 65
  rw [show ((w.alloc (.cells A 35)).alloc (.cells B 32)).heap.size = w.heap.size + 2 by simp] at h
  exact h
theorem row_grown {w w' : World} {row : Option Nat} {ao : Option Addr} {l : List (Int × Int)} (h : Ax.Ad.rowAt w ao l) (hg : w.grownBy w' row) (hne : ∀ ad, ao = some ad → some ad.block ≠ row) : Ax.Ad.rowAt w' ao l := by
  rcases h with e | ⟨b, off, e, hr⟩
  · exact .inl e
  · exact .inr ⟨b, off, e, fun j u hu => hg.cell (a := ⟨b, off + j, none⟩) (hr j u hu) (hne ⟨b, off, none⟩ e)⟩
theorem cam0 : camB none 0 0 := ⟨fun _ => rfl, fun ad e => (by cases e), Nat.le_refl _⟩
theorem below_from {w W w1 : World} {x : Nat} (h : Below w.heap.size w W) (hg : W.grownBy w1 (some x)) (hx : w.heap.size ≤ x) : Below w.heap.size w w1 := Below.grown h hg h.size fun k hk => by cases hk; exact hx
set_option maxHeartbeats 1000000 in
theorem wiped_at {w : World} {ub eb : Nat} {x0 x1 x2 x3 x4 x5 x6 x7 x8 y : Value} (hu : w.heap[ub]? = some (.cells #[x0, x1, x2, x3, x4, x5, x6, x7, x8] 35 (0, 0))) (he : w.heap[eb]? = some (.cells #[y] 32 (0, 0))) (hne : ub ≠ eb) :
    (wiped w ub eb).heap[ub]? = some (.cells #[.slice none 0 0, .slice none 0 0, .int .i64 0, .int .i64 0, .int .i64 0, .slice none 0 0, .slice none 0 0, .int .i64 0, .slice none 0 0] 35 (0, 0)) ∧ (wiped w ub eb).heap[eb]? = some (.cells #[.int .i64 4] 32 (0, 0)) ∧ ∀ B, Below B w w → B ≤ ub → B ≤ eb → Below B w (wiped w ub eb) := by
  unfold wiped
  have g9 : w.grownBy ((((((((((w.setCell ⟨ub, 0, none⟩ (.slice none 0 0)).setCell ⟨ub, 1, none⟩ (.slice none 0 0)).setCell ⟨ub, 2, none⟩ (.int .i64 0)).setCell ⟨ub, 3, none⟩ (.int .i64 0)).setCell ⟨ub, 4, none⟩ (.int .i64 0)).setCell ⟨ub, 5, none⟩ (.slice none 0 0)).setCell ⟨ub, 6, none⟩ (.slice none 0 0)).setCell ⟨ub, 7, none⟩ (.int .i64 0)).setCell ⟨ub, 8, none⟩ (.slice none 0 0))) (some ub) := nine_grown w ub _ _ _ _ _ _ _ _ _
  have h9 : ((((((((((w.setCell ⟨ub, 0, none⟩ (.slice none 0 0)).setCell ⟨ub, 1, none⟩ (.slice none 0 0)).setCell ⟨ub, 2, none⟩ (.int .i64 0)).setCell ⟨ub, 3, none⟩ (.int .i64 0)).setCell ⟨ub, 4, none⟩ (.int .i64 0)).setCell ⟨ub, 5, none⟩ (.slice none 0 0)).setCell ⟨ub, 6, none⟩ (.slice none 0 0)).setCell ⟨ub, 7, none⟩ (.int .i64 0)).setCell ⟨ub, 8, none⟩ (.slice none 0 0))).heap[ub]? = some (.cells #[.slice none 0 0, .slice none 0 0, .int .i64 0, .int .i64 0, .int .i64 0, .slice none 0 0, .slice none 0 0, .int .i64 0, .slice none 0 0] 35 (0, 0)) := nine_put _ _ _ _ _ _ _ _ _ hu
  generalize (((((((((w.setCell ⟨ub, 0, none⟩ (.slice none 0 0)).setCell ⟨ub, 1, none⟩ (.slice none 0 0)).setCell ⟨ub, 2, none⟩ (.int .i64 0)).setCell ⟨ub, 3, none⟩ (.int .i64 0)).setCell ⟨ub, 4, none⟩ (.int .i64 0)).setCell ⟨ub, 5, none⟩ (.slice none 0 0)).setCell ⟨ub, 6, none⟩ (.slice none 0 0)).setCell ⟨ub, 7, none⟩ (.int .i64 0)).setCell ⟨ub, 8, none⟩ (.slice none 0 0)) = W at *
  have he' : W.heap[eb]? = some (.cells #[y] 32 (0, 0)) := (g9.block eb (heap_lt he) (fun e => hne (by simpa using e.symm))).trans he
  refine ⟨?_, heap_setCell_same W eb 0 _ 32 _ he', fun B hb h1 h2 => ?_⟩
  · rw [Below.heap_setCell W ⟨eb, 0, none⟩ _ ub hne]
    exact h9
  · refine Below.setCell ⟨g9.os, g9.tape, g9.output, g9.size, fun k hk => ?_⟩ (p := ⟨eb, 0, none⟩) h2 _
    by_cases hk' : k < w.heap.size
    · refine g9.block k hk' (fun e => ?_)
      have e' : k = ub := by simpa using e
      omega
    · have := heap_lt hu
      omega
set_option maxHeartbeats 8000000 in
set_option maxRecDepth 100000 in
theorem decode_is (ao : Option Addr) (c : Nat) (l : List UInt8) (hl : l.length ≤ 70000) (w : World) (hS : Bs.slot w ao l) (hC : camB ao l.length c) :
    Calls Try.prog 14 #[.slice ao l.length c] w (DecGood w l) := by
  have hmf : ∀ (fn : Fn) (first cap : Array Value) (w : World), (Instr.makeFunc fn first cap).run Try.prog w = .ok (.func fn first cap) w := fun _ _ _ _ => rfl
  by_cases h19 : l.length < 19
  · have h19' : (l.length : Int) < 19 := by omega
    have HD : Hid (DecTo l Up.zero 3) := .inl ⟨h19, rfl, rfl⟩
    have B0 := hide (balloc (balloc (brefl w) (.cells #[.slice none 0 0, .slice none 0 0, .int .i64 0, .int .i64 0, .int .i64 0, .slice none 0 0, .slice none 0 0, .int .i64 0, .slice none 0 0] 35)) (.cells #[.int .i64 3] 32))
    clear h19 hS hC
    go_enter_defers Try.func14, Try.ntmps14
    go_wp2_with fail
    refine ⟨.tuple #[.agg #[.slice none 0 0, .slice none 0 0, .int .i64 0, .int .i64 0, .int .i64 0, .slice none 0 0, .slice none 0 0, .int .i64 0, .slice none 0 0], .int .i64 3], ?_, ?_⟩
    · simp [results, Try.results14, go_sem]
    · exact ⟨Up.zero, 3, none, none, none, none, none, 0, 0, 0, 0, 0, rfl, HD.out, ⟨.inl rfl, .inl rfl, .inl rfl, .inl rfl, .inl rfl⟩, ⟨cam0.u, cam0.u, cam0.u, cam0.u, cam0.u⟩, B0.out⟩
  · have h19' : ¬ (l.length : Int) < 19 := by omega
    obtain ⟨b, off, rfl, hrd⟩ := Bs.slot_at hS (k := 0) (by omega)
    obtain ⟨W, hW⟩ : ∃ W, (((w.alloc (.cells #[.slice none 0 0, .slice none 0 0, .int .i64 0, .int .i64 0, .int .i64 0, .slice none 0 0, .slice none 0 0, .int .i64 0, .slice none 0 0] 35)).alloc (.cells #[.int .i64 0] 32)).alloc (.cells #[.slice (some ⟨b, off, none⟩) l.length c, .int .i64 0] 65)) = W := ⟨_, rfl⟩
    have hbw : b < w.heap.size := block_lt_of_cell (hrd 0 (by omega))
    have BW : Hid (Below w.heap.size w W) := by rw [← hW]; exact balloc (balloc (balloc (brefl w) _) _) _
    have NU : Hid (W.heap[w.heap.size]? = some (.cells #[.slice none 0 0, .slice none 0 0, .int .i64 0, .int .i64 0, .int .i64 0, .slice none 0 0, .slice none 0 0, .int .i64 0, .slice none 0 0] 35 (0, 0))) := by rw [← hW]; exact three_new0 w _ _ _
    have NE : Hid (W.heap[w.heap.size + 1]? = some (.cells #[.int .i64 0] 32 (0, 0))) := by rw [← hW]; exact three_new1 w _ _ _
    have NB : Hid (W.heap[w.heap.size + 2]? = some (.cells #[.slice (some ⟨b, off, none⟩) l.length c, .int .i64 0] 65 (0, 0))) := by rw [← hW]; exact three_new2 w _ _ _
    have SW : Hid (W.heap.size = w.heap.size + 3) := by show _ = _; rw [← hW]; simp
    have RW : Hid (Rdr W (w.heap.size + 2) b off c l 0) := ⟨NB.out, fun j hj => (BW.out.cell (p := ⟨b, off + j, none⟩) hbw).trans (hrd j hj), Nat.zero_le _, hC.2.2, by omega, by rw [SW.out]; omega, hl⟩
    have CU := hide (update_is (w.heap.size + 2) b off c l W RW.out (by omega) (fun h e => by omega))
    have HW := hide hW
    have HRD := hide hrd
    clear hW hS
    go_enter_defers Try.func14, Try.ntmps14
    go_wp2_with fail
    rw [HW.out]
    refine CU.out.mono ?_
    intro e w1 h1
    rcases h1 with ⟨u, wo, tq, po, co, ko, cw, ct, cp, cc, ck, rfl, li, ca, fi, so, far, isu, g1⟩ | ⟨he, hno, g1⟩
    rotate_left
    · have hp : e = .panicked [{ v := .iface 32 (.int .i64 4), recovered := false }] := he
      subst hp
      have nu := (g1.block w.heap.size (heap_lt NU.out) (fun e => by simp at e)).trans NU.out
      have ne := (g1.block (w.heap.size + 1) (heap_lt NE.out) (fun e => by simp at e)).trans NE.out
      have HD : Hid (DecTo l Up.zero 4) := .inr (.inr ⟨by omega, hno, rfl, rfl⟩)
      have bf := below_from BW.out g1 (by omega)
      refine leaves_cons (f := 31) (args := #[.pointer (some ⟨w.heap.size, 0, none⟩), .pointer (some ⟨w.heap.size + 1, 0, none⟩)]) (by simp) (by simp [go_sem]) ?_
      refine (catch_panic w.heap.size (w.heap.size + 1) _ _ _ _ _ _ _ _ _ _ w1 nu ne (by omega)).mono ?_
      rintro e u' w'' ⟨rfl, rfl, rfl⟩
      obtain ⟨wu, we, wb⟩ := wiped_at nu ne (by omega)
      have BF := bf.trans (wb w.heap.size (Below.refl _ _) (Nat.le_refl _) (by omega))
      obtain ⟨z0, z1, z2, z3, z4, z5, z6, z7, z8⟩ := nine_cells wu
      have y0 : (wiped w1 w.heap.size (w.heap.size + 1)).cell? ⟨w.heap.size + 1, 0, none⟩ = some (.int .i64 4) := by simp [World.cell?, we]
      refine ⟨.tuple #[.agg #[.slice none 0 0, .slice none 0 0, .int .i64 0, .int .i64 0, .int .i64 0, .slice none 0 0, .slice none 0 0, .int .i64 0, .slice none 0 0], .int .i64 4], ?_, ?_⟩
      · simp [results, Try.results14, go_sem, z0, z1, z2, z3, z4, z5, z6, z7, z8, y0]
      · exact ⟨Up.zero, 4, none, none, none, none, none, 0, 0, 0, 0, 0, rfl, HD.out, ⟨.inl rfl, .inl rfl, .inl rfl, .inl rfl, .inl rfl⟩, ⟨cam0.u, cam0.u, cam0.u, cam0.u, cam0.u⟩, BF⟩
    have nu := (g1.block w.heap.size (heap_lt NU.out) (fun e => by simp at e)).trans NU.out
    have ne := (g1.block (w.heap.size + 1) (heap_lt NE.out) (fun e => by simp at e)).trans NE.out
    obtain ⟨W2, hW2⟩ : ∃ W2, (((((((((w1.setCell ⟨w.heap.size, 0, none⟩ (.slice wo u.wd.length cw)).setCell ⟨w.heap.size, 1, none⟩ (.slice tq u.td.length ct)).setCell ⟨w.heap.size, 2, none⟩ (.int .i64 u.at_.pf)).setCell ⟨w.heap.size, 3, none⟩ (.int .i64 u.at_.md)).setCell ⟨w.heap.size, 4, none⟩ (.int .i64 u.at_.og)).setCell ⟨w.heap.size, 5, none⟩ (.slice po u.at_.path.length cp)).setCell ⟨w.heap.size, 6, none⟩ (.slice co u.at_.comms.length cc)).setCell ⟨w.heap.size, 7, none⟩ (.int .i64 u.at_.fr)).setCell ⟨w.heap.size, 8, none⟩ (.slice ko u.at_.cl.length ck)) = W2 := ⟨_, rfl⟩
    have g2 : w1.grownBy W2 (some w.heap.size) := by rw [← hW2]; exact nine_grown w1 w.heap.size _ _ _ _ _ _ _ _ _
    have NU2 : Hid (W2.heap[w.heap.size]? = some (.cells #[.slice wo u.wd.length cw, .slice tq u.td.length ct, .int .i64 u.at_.pf, .int .i64 u.at_.md, .int .i64 u.at_.og, .slice po u.at_.path.length cp, .slice co u.at_.comms.length cc, .int .i64 u.at_.fr, .slice ko u.at_.cl.length ck] 35 (0, 0))) := by rw [← hW2]; exact nine_put _ _ _ _ _ _ _ _ _ nu
    have NE2 : Hid (W2.heap[w.heap.size + 1]? = some (.cells #[.int .i64 0] 32 (0, 0))) := (g2.block (w.heap.size + 1) (heap_lt ne) (fun e => by simp at e)).trans ne
    have hN : w.heap.size < W.heap.size := by rw [SW.out]; omega
    have LI2 : Hid (Up.lies W2 u wo tq po co ko) := ⟨row_grown li.1 g2 (far.1.ne hN), row_grown li.2.1 g2 (far.2.1.ne hN), At.lies_grown li.2.2 g2 (far.2.2.1.ne hN) (far.2.2.2.1.ne hN) (far.2.2.2.2.ne hN)⟩
    have B2 := hide (below_from (below_from BW.out g1 (by omega)) g2 (Nat.le_refl _))
    have CE := hide (encode_is u wo tq po co ko cw ct cp cc ck fi so W2 LI2.out ca)
    have CG := hide (fun W => giveUp_is W)
    have CA := hide ca
    have FA := hide far
    have HN : Hid (w.heap.size < W.heap.size ∧ w.heap.size + 1 < W.heap.size) := ⟨hN, by rw [SW.out]; omega⟩
    have ISU := hide isu
    obtain ⟨d0, d1, d2, d3, d4, d5, d6, d7, d8⟩ := nine_cells nu
    obtain ⟨f0, f1, f2, f3, f4, f5, f6, f7, f8⟩ := nine_free nu
    obtain ⟨k0, k1, k2, k3, k4, k5, k6, k7, k8⟩ := nine_cells NU2.out
    clear g1 g2 li ca fi so far isu nu ne CU RW NU NE NB BW SW
    go_wp2_with fail
    clear d0 d1 d2 d3 d4 d5 d6 d7 d8 f0 f1 f2 f3 f4 f5 f6 f7 f8 k0 k1 k2 k3 k4 k5 k6 k7 k8 hW2
    refine CE.out.mono ?_
    intro e w3 h3
    rcases h3 with ⟨hm, o, ce, rfl, hs, hwr, hcm, hb3⟩ | ⟨hnm, rfl, hb3⟩
    · have B3 := hide (bthen B2.out (hb3))
      have NU3 := hide ((hb3.block _ (heap_lt NU2.out)).trans NU2.out)
      have NE3 := hide ((hb3.block _ (heap_lt NE2.out)).trans NE2.out)
      have LI3 := hide (Up.lies_below LI2.out hb3)
      obtain ⟨r, hr⟩ : ∃ r : Bool, r = true ↔ u.enc = l := ⟨decide (u.enc = l), by simp⟩
      have CQ := hide (equal_is o (some ⟨b, off, none⟩) u.enc.length l.length ce c u.enc l r hr rfl rfl w3 hs (.inr ⟨b, off, rfl, fun j hj => (B3.out.cell (p := ⟨b, off + j, none⟩) hbw).trans (HRD.out j hj)⟩) hcm hC)
      have HM := hide hm
      have HRR := hide hr
      clear hm hr hs hwr hcm hb3 CE
      go_wp2_with fail
      refine CQ.out.mono ?_
      rintro e w4 ⟨rfl, rfl⟩
      cases r
      · go_wp2_with fail
        have nu' := NU3.out
        have ne' := NE3.out
        have HD : Hid (DecTo l Up.zero 4) := .inr (.inr ⟨by omega, (fun v hv he => by have e1 := ISU.out v hv he; rw [← e1] at he; have := HRR.out.2 he; cases this), rfl, rfl⟩)
        have bf' := B3.out
        refine (CG.out _).mono ?_
        rintro e w9 ⟨he9, rfl⟩
        have hp : e = .panicked [{ v := .iface 32 (.int .i64 4), recovered := false }] := he9
        subst hp
        refine leaves_cons (f := 31) (args := #[.pointer (some ⟨w.heap.size, 0, none⟩), .pointer (some ⟨w.heap.size + 1, 0, none⟩)]) (by simp) (by simp [go_sem]) ?_
        refine (catch_panic w.heap.size (w.heap.size + 1) _ _ _ _ _ _ _ _ _ _ w3 nu' ne' (by omega)).mono ?_
        rintro e u' w'' ⟨rfl, rfl, rfl⟩
        obtain ⟨wu, we, wb⟩ := wiped_at nu' ne' (by omega)
        have BF := bf'.trans (wb w.heap.size (Below.refl _ _) (Nat.le_refl _) (by omega))
        obtain ⟨z0, z1, z2, z3, z4, z5, z6, z7, z8⟩ := nine_cells wu
        have y0 : (wiped w3 w.heap.size (w.heap.size + 1)).cell? ⟨w.heap.size + 1, 0, none⟩ = some (.int .i64 4) := by simp [World.cell?, we]
        refine ⟨.tuple #[.agg #[.slice none 0 0, .slice none 0 0, .int .i64 0, .int .i64 0, .int .i64 0, .slice none 0 0, .slice none 0 0, .int .i64 0, .slice none 0 0], .int .i64 4], ?_, ?_⟩
        · simp [results, Try.results14, go_sem, z0, z1, z2, z3, z4, z5, z6, z7, z8, y0]
        · exact ⟨Up.zero, 4, none, none, none, none, none, 0, 0, 0, 0, 0, rfl, HD.out, ⟨.inl rfl, .inl rfl, .inl rfl, .inl rfl, .inl rfl⟩, ⟨cam0.u, cam0.u, cam0.u, cam0.u, cam0.u⟩, BF⟩
      · have HE := hide (HRR.out.1 rfl)
        obtain ⟨d0, d1, d2, d3, d4, d5, d6, d7, d8⟩ := nine_cells NU3.out
        obtain ⟨f0, f1, f2, f3, f4, f5, f6, f7, f8⟩ := nine_free NU3.out
        obtain ⟨W4, hW4⟩ : ∃ W4, (((((((((w3.setCell ⟨w.heap.size, 0, none⟩ (.slice wo u.wd.length cw)).setCell ⟨w.heap.size, 1, none⟩ (.slice tq u.td.length ct)).setCell ⟨w.heap.size, 2, none⟩ (.int .i64 u.at_.pf)).setCell ⟨w.heap.size, 3, none⟩ (.int .i64 u.at_.md)).setCell ⟨w.heap.size, 4, none⟩ (.int .i64 u.at_.og)).setCell ⟨w.heap.size, 5, none⟩ (.slice po u.at_.path.length cp)).setCell ⟨w.heap.size, 6, none⟩ (.slice co u.at_.comms.length cc)).setCell ⟨w.heap.size, 7, none⟩ (.int .i64 u.at_.fr)).setCell ⟨w.heap.size, 8, none⟩ (.slice ko u.at_.cl.length ck)) = W4 := ⟨_, rfl⟩
        have g4 : w3.grownBy W4 (some w.heap.size) := by rw [← hW4]; exact nine_grown w3 w.heap.size _ _ _ _ _ _ _ _ _
        have NU4 : Hid (W4.heap[w.heap.size]? = some (.cells #[.slice wo u.wd.length cw, .slice tq u.td.length ct, .int .i64 u.at_.pf, .int .i64 u.at_.md, .int .i64 u.at_.og, .slice po u.at_.path.length cp, .slice co u.at_.comms.length cc, .int .i64 u.at_.fr, .slice ko u.at_.cl.length ck] 35 (0, 0))) := by rw [← hW4]; exact nine_put _ _ _ _ _ _ _ _ _ NU3.out
        have NE4 : Hid (W4.heap[w.heap.size + 1]? = some (.cells #[.int .i64 0] 32 (0, 0))) := (g4.block (w.heap.size + 1) (heap_lt NE3.out) (fun e => by simp at e)).trans NE3.out
        have y0 : W4.cell? ⟨w.heap.size + 1, 0, none⟩ = some (.int .i64 0) := by simp [World.cell?, NE4.out]
        have x0 := frozen7 NE4.out 0
        obtain ⟨W5, hW5⟩ : ∃ W5, W4.setCell ⟨w.heap.size + 1, 0, none⟩ (.int .i64 0) = W5 := ⟨_, rfl⟩
        have g5 : W4.grownBy W5 (some (w.heap.size + 1)) := by rw [← hW5]; exact grown_put W4 _ 0 _
        have NU5 : Hid (W5.heap[w.heap.size]? = some (.cells #[.slice wo u.wd.length cw, .slice tq u.td.length ct, .int .i64 u.at_.pf, .int .i64 u.at_.md, .int .i64 u.at_.og, .slice po u.at_.path.length cp, .slice co u.at_.comms.length cc, .int .i64 u.at_.fr, .slice ko u.at_.cl.length ck] 35 (0, 0))) := (g5.block w.heap.size (heap_lt NU4.out) (fun e => by simp at e)).trans NU4.out
        have NE5 : Hid (W5.heap[w.heap.size + 1]? = some (.cells #[.int .i64 0] 32 (0, 0))) := by rw [← hW5]; exact heap_setCell_same W4 _ 0 _ 32 _ NE4.out
        have LI5 : Hid (Up.lies W5 u wo tq po co ko) := ⟨row_grown (row_grown LI3.out.1 g4 (FA.out.1.ne HN.out.1)) g5 (FA.out.1.ne HN.out.2), row_grown (row_grown LI3.out.2.1 g4 (FA.out.2.1.ne HN.out.1)) g5 (FA.out.2.1.ne HN.out.2), At.lies_grown (At.lies_grown LI3.out.2.2 g4 (FA.out.2.2.1.ne HN.out.1) (FA.out.2.2.2.1.ne HN.out.1) (FA.out.2.2.2.2.ne HN.out.1)) g5 (FA.out.2.2.1.ne HN.out.2) (FA.out.2.2.2.1.ne HN.out.2) (FA.out.2.2.2.2.ne HN.out.2)⟩
        have B5 := hide (below_from (below_from B3.out g4 (Nat.le_refl _)) g5 (by omega))
        clear CQ g4 g5
        go_wp2_with fail
        refine leaves_cons (f := 31) (args := #[.pointer (some ⟨w.heap.size, 0, none⟩), .pointer (some ⟨w.heap.size + 1, 0, none⟩)]) (by simp) (by simp [go_sem]) ?_
        refine (catch_none w.heap.size (w.heap.size + 1) _).mono ?_
        rintro e u' w'' ⟨rfl, rfl, rfl⟩
        clear d0 d1 d2 d3 d4 d5 d6 d7 d8 f0 f1 f2 f3 f4 f5 f6 f7 f8 y0 x0 hW4 hW5
        obtain ⟨z0, z1, z2, z3, z4, z5, z6, z7, z8⟩ := nine_cells NU5.out
        have y0 : W5.cell? ⟨w.heap.size + 1, 0, none⟩ = some (.int .i64 0) := by simp [World.cell?, NE5.out]
        refine ⟨.tuple #[.agg #[.slice wo u.wd.length cw, .slice tq u.td.length ct, .int .i64 u.at_.pf, .int .i64 u.at_.md, .int .i64 u.at_.og, .slice po u.at_.path.length cp, .slice co u.at_.comms.length cc, .int .i64 u.at_.fr, .slice ko u.at_.cl.length ck], .int .i64 0], ?_, ?_⟩
        · simp [results, Try.results14, go_sem, z0, z1, z2, z3, z4, z5, z6, z7, z8, y0]
        · exact ⟨u, 0, wo, tq, po, co, ko, cw, ct, cp, cc, ck, rfl, .inr (.inl ⟨by omega, HM.out, HE.out, rfl⟩), LI5.out, CA.out, B5.out⟩
    · have B3 := hide (bthen B2.out (hb3))
      have NU3 := hide ((hb3.block _ (heap_lt NU2.out)).trans NU2.out)
      have NE3 := hide ((hb3.block _ (heap_lt NE2.out)).trans NE2.out)
      have CQ := hide (equal_is none (some ⟨b, off, none⟩) 0 l.length 0 c [] l false (by constructor <;> intro h; cases h; rw [← h] at h19; simp at h19) rfl rfl w3 (.inl rfl) (.inr ⟨b, off, rfl, fun j hj => (B3.out.cell (p := ⟨b, off + j, none⟩) hbw).trans (HRD.out j hj)⟩) cam0 hC)
      have HNM := hide hnm
      clear hnm hb3 CE
      go_wp2_with fail
      refine CQ.out.mono ?_
      rintro e w4 ⟨rfl, rfl⟩
      go_wp2_with fail
      have nu' := NU3.out
      have ne' := NE3.out
      have HD : Hid (DecTo l Up.zero 4) := .inr (.inr ⟨by omega, (fun v hv he => by have e1 := ISU.out v hv he; rw [← e1] at hv; exact HNM.out hv), rfl, rfl⟩)
      have bf' := B3.out
      refine (CG.out _).mono ?_
      rintro e w9 ⟨he9, rfl⟩
      have hp : e = .panicked [{ v := .iface 32 (.int .i64 4), recovered := false }] := he9
      subst hp
      refine leaves_cons (f := 31) (args := #[.pointer (some ⟨w.heap.size, 0, none⟩), .pointer (some ⟨w.heap.size + 1, 0, none⟩)]) (by simp) (by simp [go_sem]) ?_
      refine (catch_panic w.heap.size (w.heap.size + 1) _ _ _ _ _ _ _ _ _ _ w3 nu' ne' (by omega)).mono ?_
      rintro e u' w'' ⟨rfl, rfl, rfl⟩
      obtain ⟨wu, we, wb⟩ := wiped_at nu' ne' (by omega)
      have BF := bf'.trans (wb w.heap.size (Below.refl _ _) (Nat.le_refl _) (by omega))
      obtain ⟨z0, z1, z2, z3, z4, z5, z6, z7, z8⟩ := nine_cells wu
      have y0 : (wiped w3 w.heap.size (w.heap.size + 1)).cell? ⟨w.heap.size + 1, 0, none⟩ = some (.int .i64 4) := by simp [World.cell?, we]
      refine ⟨.tuple #[.agg #[.slice none 0 0, .slice none 0 0, .int .i64 0, .int .i64 0, .int .i64 0, .slice none 0 0, .slice none 0 0, .int .i64 0, .slice none 0 0], .int .i64 4], ?_, ?_⟩
      · simp [results, Try.results14, go_sem, z0, z1, z2, z3, z4, z5, z6, z7, z8, y0]
      · exact ⟨Up.zero, 4, none, none, none, none, none, 0, 0, 0, 0, 0, rfl, HD.out, ⟨.inl rfl, .inl rfl, .inl rfl, .inl rfl, .inl rfl⟩, ⟨cam0.u, cam0.u, cam0.u, cam0.u, cam0.u⟩, BF⟩
end Go.Proofs.Ytkhmhmopcofejaa
