import Derived.Test.YtechocnednepiaaP1
/- The contract of a trie's down: it goes to each node on the way to a prefix. -/
namespace Go.Proofs.Ytechocnednepiaa
open Go.RowKit

/-- What is asked of a closure that is called at nodes: I tells what it has come by, and which blocks it may write. -/
structure Nodes (y : Nat) (f : Nat) (lb : Array Value) (ok : Nt → Prop) (I : List (Pf × Nt) → (Nat → Prop) → World → Prop) : Prop where
  call : ∀ pre S W (x : Pf × Nt), I pre S W → pre.length ≤ 32 → Gd x.1 → x.2 ≠ .nil → x.2.At y W → ok x.2 → (∀ k ∈ x.2.own, ¬ S k) → Calls Try.prog f (#[pv x.1, x.2.ptr] ++ lb) W fun e w' => e = .returned (.tuple #[]) ∧ ∃ S', I (pre ++ [x]) S' w' ∧ Keep S W w' ∧ ∀ k, S' k → S k ∨ W.heap.size ≤ k
  keep : ∀ pre S W W', I pre S W → (∀ k, S k → W'.heap[k]? = W.heap[k]?) → I pre S W'
  lt : ∀ pre S W k, I pre S W → S k → k < W.heap.size
  hered : ∀ b lo hi v is, ok (.nd b lo hi v is) → ok lo ∧ ok hi
/-- Two cells of a prefix in a block of its own. -/
def Two (w : World) (n : Nat) (p : Pf) : Prop := w.heap[n]? = some (.cells #[.int .u32 p.1, .int .i64 p.2] 30 (0, 0))
theorem Two.cells {w : World} {n : Nat} {p : Pf} (h : Two w n p) : w.cell? ⟨n, 0, none⟩ = some (.int .u32 p.1) ∧ w.cell? ⟨n, 1, none⟩ = some (.int .i64 p.2) ∧ w.frozen? ⟨n, 0, none⟩ = false ∧ w.frozen? ⟨n, 1, none⟩ = false :=
  ⟨by rw [cell_of_row w n 0 _ 30 _ h]; rfl, by rw [cell_of_row w n 1 _ 30 _ h]; rfl, frozen_of_row w n 0 _ 30 h, frozen_of_row w n 1 _ 30 h⟩
theorem Two.lt {w : World} {n : Nat} {p : Pf} (h : Two w n p) : n < w.heap.size := lt_of_block h
theorem two_new (w : World) (p : Pf) : Two (w.alloc (.cells #[.int .u32 p.1, .int .i64 p.2] 30)) w.heap.size p := heap_alloc_new _ _
theorem Two.kept {S : Nat → Prop} {w w' : World} {n : Nat} {p : Pf} (h : Two w n p) (hk : Keep S w w') (hs : ¬ S n) : Two w' n p := (hk.block n hs h.lt).trans h
theorem Two.below {w w' : World} {n : Nat} {p : Pf} (h : Two w n p) (hb : Below w.heap.size w w') : Two w' n p := (hb.block n h.lt).trans h
theorem Two.set {w : World} {n : Nat} {p : Pf} (h : Two w n p) (q : Pf) : Two ((w.setCell ⟨n, 0, none⟩ (.int .u32 q.1)).setCell ⟨n, 1, none⟩ (.int .i64 q.2)) n q := by
  have h1 := heap_setCell_same w n 0 _ 30 (.int .u32 q.1) h
  have h2 := heap_setCell_same _ n 1 _ 30 (.int .i64 q.2) h1
  exact h2
theorem Two.other {w : World} {n : Nat} {p : Pf} (h : Two w n p) {a : Addr} (hn : n ≠ a.block) (u : Value) : Two (w.setCell a u) n p := (heap_setCell_other w a n u hn).trans h
/-- A node's four cells. -/
theorem node_cells {w : World} {b y : Nat} {x0 x1 x2 x3 : Value} (h : w.heap[b]? = some (.cells #[x0, x1, x2, x3] y (0, 0))) :
    w.cell? ⟨b, 0, none⟩ = some x0 ∧ w.cell? ⟨b, 1, none⟩ = some x1 ∧ w.cell? ⟨b, 2, none⟩ = some x2 ∧ w.cell? ⟨b, 3, none⟩ = some x3 ∧ ∀ o, w.frozen? ⟨b, o, none⟩ = false :=
  ⟨by rw [cell_of_row w b 0 _ y _ h]; rfl, by rw [cell_of_row w b 1 _ y _ h]; rfl, by rw [cell_of_row w b 2 _ y _ h]; rfl, by rw [cell_of_row w b 3 _ y _ h]; rfl, fun o => frozen_of_row w b o _ y h⟩
theorem top_cells {w : World} {b y : Nat} {x0 x1 : Value} (h : w.heap[b]? = some (.cells #[x0, x1] y (0, 0))) :
    w.cell? ⟨b, 0, none⟩ = some x0 ∧ w.cell? ⟨b, 1, none⟩ = some x1 ∧ ∀ o, w.frozen? ⟨b, o, none⟩ = false :=
  ⟨by rw [cell_of_row w b 0 _ y _ h]; rfl, by rw [cell_of_row w b 1 _ y _ h]; rfl, fun o => frozen_of_row w b o _ y h⟩

/-- Where the way down stands. -/
structure DownAt (y : Nat) (ok : Nt → Prop) (I : List (Pf × Nt) → (Nat → Prop) → World → Prop) (p : Pf) (w : World) (S0 : Nat → Prop) (all : List (Pf × Nt)) (P A : Nat) (wr : World) (s : Nt) (c : Pf) (S : Nat → Prop) (pre : List (Pf × Nt)) : Prop where
  inv : I pre S wr
  keep : Keep S0 w wr
  more : ∀ k, S k → S0 k ∨ w.heap.size ≤ k
  notP : ¬ S P
  notA : ¬ S A
  ne : P ≠ A
  old : w.heap.size ≤ A
  two : Two wr P p
  now : Two wr A c
  lies : s.At y wr
  apart : ∀ k ∈ s.own, ¬ S k ∧ k < w.heap.size
  good : Gd c
  isIn : In c p
  all : all = pre ++ s.path c p
  len : pre.length ≤ c.2.toNat
  okay : ok s

theorem down_start {y yT : Nat} {z : Value} {f : Nat} {lb : Array Value} {ok : Nt → Prop} {I : List (Pf × Nt) → (Nat → Prop) → World → Prop} {w w1 : World} {T : Nat} {t : Nt} {p : Pf} {S : Nat → Prop} (hT : Tri yT y z w T t) (hI : I [] S w) (hs : ∀ k ∈ T :: t.own, ¬ S k) (hp : Gd p) (hb : Below w.heap.size w w1) (h2 : Two w1 w.heap.size p) (hl : ∀ k, S k → k < w.heap.size) (hN : Nodes y f lb ok I) (hok : ok t) :
    DownAt y ok I p w S (t.path (0, 0) p) w.heap.size w1.heap.size (w1.alloc (.cells #[.int .u32 0, .int .i64 0] 30)) t (0, 0) S [] := by
  have hz := h2.lt
  have hb2 := balloc hb (.cells #[.int .u32 0, .int .i64 0] 30)
  exact ⟨hN.keep _ _ _ _ hI fun k hk => hb2.block k (hl k hk), Keep.of hb2, fun k hk => .inl hk, fun e => absurd (hl _ e) (Nat.lt_irrefl _), fun e => absurd (hl _ e) (by omega), by omega, by omega, h2.below (balloc (brefl _) _), two_new w1 (0, 0), hT.lies.below hb2, fun k hk => ⟨hs k (by simp [hk]), hT.lt k (by simp [hk])⟩, gd_root, in_root hp, rfl, Nat.le_refl _, hok⟩
/-- Behind the closure's call. -/
structure DownMid (y : Nat) (ok : Nt → Prop) (I : List (Pf × Nt) → (Nat → Prop) → World → Prop) (p : Pf) (w : World) (S0 : Nat → Prop) (all : List (Pf × Nt)) (P A : Nat) (wr : World) (s : Nt) (c : Pf) (S : Nat → Prop) (pre : List (Pf × Nt)) : Prop where
  inv : I (pre ++ [(c, s)]) S wr
  keep : Keep S0 w wr
  more : ∀ k, S k → S0 k ∨ w.heap.size ≤ k
  notP : ¬ S P
  notA : ¬ S A
  ne : P ≠ A
  old : w.heap.size ≤ A
  two : Two wr P p
  now : Two wr A c
  lies : s.At y wr
  apart : ∀ k ∈ s.own, ¬ S k ∧ k < w.heap.size
  good : Gd c
  isIn : In c p
  all : all = pre ++ s.path c p
  len : pre.length ≤ c.2.toNat
  okay : ok s
theorem DownAt.called {y : Nat} {ok : Nt → Prop} {I : List (Pf × Nt) → (Nat → Prop) → World → Prop} {p : Pf} {w : World} {S0 : Nat → Prop} {all : List (Pf × Nt)} {P A : Nat} {wr w2 : World} {s : Nt} {c : Pf} {S S2 : Nat → Prop} {pre : List (Pf × Nt)} (h : DownAt y ok I p w S0 all P A wr s c S pre)
    (hi : I (pre ++ [(c, s)]) S2 w2) (hk : Keep S wr w2) (hm : ∀ k, S2 k → S k ∨ wr.heap.size ≤ k) : DownMid y ok I p w S0 all P A w2 s c S2 pre where
  inv := hi
  keep := h.keep.trans' hk h.more
  more := fun k hk2 => by
    rcases hm k hk2 with e | e
    · exact h.more k e
    · exact .inr (Nat.le_trans h.keep.size e)
  notP := fun e => by
    rcases hm _ e with e | e
    · exact h.notP e
    · have := h.two.lt; omega
  notA := fun e => by
    rcases hm _ e with e | e
    · exact h.notA e
    · have := h.now.lt; omega
  ne := h.ne
  old := h.old
  two := h.two.kept hk h.notP
  now := h.now.kept hk h.notA
  lies := h.lies.kept hk fun k hm => (h.apart k hm).1
  apart := fun k hmem => ⟨fun e => by
    rcases hm _ e with e | e
    · exact (h.apart k hmem).1 e
    · have := h.lies.lt k hmem; omega, (h.apart k hmem).2⟩
  good := h.good
  isIn := h.isIn
  all := h.all
  len := h.len
  okay := h.okay
/-- The way goes on at the half toward the prefix. -/
theorem DownMid.turned {y : Nat} {f : Nat} {lb : Array Value} {ok : Nt → Prop} {I : List (Pf × Nt) → (Nat → Prop) → World → Prop} {p : Pf} {w : World} {S0 : Nat → Prop} {all : List (Pf × Nt)} {P A : Nat} {wr w3 : World} {b : Nat} {lo hi : Nt} {v : Value} {is : Bool} {c : Pf} {S : Nat → Prop} {pre : List (Pf × Nt)} (h : DownMid y ok I p w S0 all P A wr (.nd b lo hi v is) c S pre)
    (hN : Nodes y f lb ok I) (hne : c ≠ p) (hp : Gd p) (hb : Below wr.heap.size wr w3) :
    DownAt y ok I p w S0 all P A ((w3.setCell ⟨A, 0, none⟩ (.int .u32 (half c (side c p)).1)).setCell ⟨A, 1, none⟩ (.int .i64 (half c (side c p)).2)) (if side c p then hi else lo) (half c (side c p)) S (pre ++ [(c, .nd b lo hi v is)]) := by
  have hlt := h.isIn.lt h.good hp hne
  have hl : c.2 ≤ 31 := by have := hp.2.2.2.1; omega
  have hA := h.now.lt
  have hsame : ∀ k, k ≠ A → k < wr.heap.size → ((w3.setCell ⟨A, 0, none⟩ (.int .u32 (half c (side c p)).1)).setCell ⟨A, 1, none⟩ (.int .i64 (half c (side c p)).2)).heap[k]? = wr.heap[k]? := fun k h1 h2 => by
    rw [heap_setCell_other _ _ _ _ h1, heap_setCell_other _ _ _ _ h1]
    exact hb.block k h2
  have hkid : ∀ k ∈ (if side c p then hi else lo).own, k ∈ (Nt.nd b lo hi v is).own := by
    intro k hk
    cases hs : side c p
    · rw [hs] at hk; simp only [Bool.false_eq_true, if_false] at hk; simp [Nt.own, hk]
    · rw [hs] at hk; simp only [if_true] at hk; simp [Nt.own, hk]
  have hAo : ∀ k ∈ (Nt.nd b lo hi v is).own, k ≠ A := fun k hk e => by have := (h.apart k hk).2; have := h.old; omega
  have hat : (if side c p then hi else lo).At y wr := by
    cases side c p
    · exact h.lies.2.1
    · exact h.lies.2.2
  refine ⟨hN.keep _ _ _ _ h.inv fun k hk => hsame k (fun e => h.notA (e ▸ hk)) (hN.lt _ _ _ k h.inv hk), ?_, h.more, h.notP, h.notA, h.ne, h.old, ?_, (h.now.below hb).set _, hat.keep fun k hk => hsame k (hAo k (hkid k hk)) (hat.lt k hk), fun k hk => h.apart k (hkid k hk), gd_half h.good hl _, in_side h.good hp h.isIn hne, ?_, ?_, by cases side c p; exact (hN.hered _ _ _ _ _ h.okay).1; exact (hN.hered _ _ _ _ _ h.okay).2⟩
  · exact ((h.keep.then hb).setCell (p := ⟨A, 0, none⟩) (.inr h.old) _).setCell (p := ⟨A, 1, none⟩) (.inr h.old) _
  · exact (hsame P h.ne h.two.lt).trans h.two
  · rw [h.all]
    cases hs : side c p
    · simp [Nt.path, hne, hs]
    · simp [Nt.path, hne, hs]
  · have h1 := h.len
    have h2 := h.good.2.2.1
    simp only [List.length_append, List.length_cons, List.length_nil, half]
    omega
/-- How far it still is, by the prefix in a block. -/
def bitsLeft (w : World) (a : Nat) : Nat := match w.cell? ⟨a, 1, none⟩ with | some (.int _ b) => (33 - b).toNat | _ => 0
theorem Two.left {w : World} {n : Nat} {p : Pf} (h : Two w n p) : bitsLeft w n = (33 - p.2).toNat := by
  unfold bitsLeft
  rw [h.cells.2.1]

set_option maxHeartbeats 4000000 in
set_option maxRecDepth 100000 in
theorem down_is {f : Nat} {lb : Array Value} {ok : Nt → Prop} (eg : ∀ args w, (callFunc f args).run Try.prog w = .ok (.enter f args) w) {I : List (Pf × Nt) → (Nat → Prop) → World → Prop} (hN : Nodes 89 f lb ok I)
    {w : World} {T : Nat} {t : Nt} {z : Value} (hT : Tri 75 89 z w T t) {S : Nat → Prop} (hI : I [] S w) (hs : ∀ k ∈ T :: t.own, ¬ S k) (hok : ok t) {p : Pf} (hp : Gd p) :
    Calls Try.prog 49 #[.pointer (some ⟨T, 0, none⟩), pv p, .func (.func f) #[] lb] w fun e w' => e = .returned (.tuple #[]) ∧ ∃ S', I (t.path (0, 0) p) S' w' ∧ Keep S w w' ∧ ∀ k, S' k → S k ∨ w.heap.size ≤ k := by
  have HT := hide hT
  have HI := hide hI
  have HS := hide hs
  have HN := hide hN
  have HP := hide hp
  have HOK := hide hok
  obtain ⟨c0, c1, cf⟩ := top_cells hT.top
  have hTl := lt_of_block hT.top
  clear hT hI hs hN hp cf c1 hok
  obtain ⟨p0, p1⟩ := p
  unfold pv
  go_enter Try.func49, Try.ntmps49
  go_wp2_with fail
  refine (may_is p0 p1 true HP.out.may _ HP.out.1 HP.out.2.1).mono ?_
  rintro e w1 ⟨rfl, hb1⟩
  have B1 := hide (bthen (balloc (brefl w) _) hb1)
  have T1 := hide ((two_new w (p0, p1)).below hb1)
  have c0' : w1.cell? ⟨T, 0, none⟩ = some t.ptr := (B1.out.cell (p := ⟨T, 0, none⟩) hTl).trans c0
  obtain ⟨d0, d1, _, _⟩ := T1.out.cells
  have hz : w.heap.size < w1.heap.size := T1.out.lt
  have hTl1 : T < w1.heap.size := by omega
  clear hb1 c0
  go_wp2_with fail
  have HA := hide (down_start (p := (p0, p1)) (S := S) HT.out HI.out HS.out HP.out B1.out T1.out (fun k hk => HN.out.lt _ _ _ k HI.out hk) HN.out HOK.out)
  have hA := HA.out.old
  generalize w1.alloc (.cells #[.int .u32 0, .int .i64 0] 30) = W1 at *
  generalize w1.heap.size = A at *
  generalize w.heap.size = P at HA ⊢
  clear T1 B1 hz hTl1 d0 d1 c0' hA
  go_loopw [6, 8] (fun v6 v8 wr => ∃ (s : Nt) (c : Pf) (S' : Nat → Prop) (pre : List (Pf × Nt)) (h : Int), v6 = .int .i64 h ∧ v8 = s.ptr ∧ Hid (DownAt 89 ok I (p0, p1) w S (t.path (0, 0) (p0, p1)) P A wr s c S' pre)) (fun _ _ wr => bitsLeft wr A)
  case atStart => exact ⟨t, (0, 0), S, [], 0, rfl, rfl, HA⟩
  case round =>
    obtain ⟨s, c, S', pre, h, rfl, rfl, HD⟩ := hrel
    clear HA
    cases s with
    | nil =>
      simp only [ptr_none]
      go_wp2_with fail
      exact bodyPost_end (results_none Try.results49 _ _ _) rfl ⟨rfl, S', by rw [HD.out.all]; simpa [Nt.path] using HD.out.inv, HD.out.keep, HD.out.more⟩
    | nd b lo hi v is =>
      obtain ⟨a0, a1⟩ := c
      have CN := hide (HN.out.call pre S' wr ((a0, a1), .nd b lo hi v is) HD.out.inv (by have h1 := HD.out.len; have h2 := HD.out.good.2.2.2.1; simp only at h1 h2 ⊢; omega) HD.out.good (by simp) HD.out.lies HD.out.okay (fun k hk => (HD.out.apart k hk).1))
      obtain ⟨e0, e1, _, _⟩ := HD.out.now.cells
      have hgd := guardP
      simp only [ptr_nd]
      by_cases hcp : (a0, a1) = (p0, p1)
      · have HC := hide hcp
        simp only [Prod.mk.injEq] at hcp
        obtain ⟨rfl, rfl⟩ := hcp
        have heq : ∀ w, (binOp .eql 30 (.agg #[.int .u32 a0, .int .i64 a1]) (.agg #[.int .u32 a0, .int .i64 a1])).run Try.prog w = .ok (.bool true) w := fun w => by rw [eqP]; simp
        go_wp2_with fail
        refine CN.out.mono ?_
        rintro e w2 ⟨rfl, S2, hI2, hK2, hm2⟩
        have HD2 := hide (HD.out.called hI2 hK2 hm2)
        clear hI2 hK2 hm2 e0 e1 CN
        obtain ⟨e0, e1, ef0, ef1⟩ := HD2.out.now.cells
        obtain ⟨d0, d1, _, _⟩ := HD2.out.two.cells
        go_wp2_with fail
        exact bodyPost_ret (results_none Try.results49 _ _ _) rfl ⟨rfl, S2, by rw [HD2.out.all]; simpa [Nt.path] using HD2.out.inv, HD2.out.keep, HD2.out.more⟩
      · have HC := hide hcp
        have heq := eq_ne hcp
        clear hcp
        go_wp2_with fail
        refine CN.out.mono ?_
        rintro e w2 ⟨rfl, S2, hI2, hK2, hm2⟩
        have HD2 := hide (HD.out.called hI2 hK2 hm2)
        clear hI2 hK2 hm2 e0 e1 CN
        obtain ⟨e0, e1, ef0, ef1⟩ := HD2.out.now.cells
        obtain ⟨d0, d1, _, _⟩ := HD2.out.two.cells
        go_wp2_with fail
        refine (toward_is HD2.out.good HP.out HD2.out.isIn HC.out w2).mono ?_
        rintro e w3 ⟨rfl, hb3⟩
        have HD3 := hide (HD2.out.turned HN.out HC.out HP.out hb3)
        obtain ⟨e0, e1, ef0, ef1⟩ := (HD2.out.now.below hb3).cells
        generalize side (a0, a1) (p0, p1) = sd at *
        obtain ⟨n0, n1, _, _, _⟩ := node_cells (HD2.out.lies.below hb3).1
        have hbA : b ≠ A := fun e => by have := (HD2.out.apart b (by simp [Nt.own])).2; have := HD2.out.old; omega
        have HM := hide (show bitsLeft wr A = _ from HD.out.now.left)
        have HL := hide (HD2.out.isIn.lt HD2.out.good HP.out HC.out)
        have HL2 := hide HP.out.2.2.2.1
        clear hb3
        unfold pv
        cases sd
        · simp only [show sideI false = 0 from rfl]
          go_wp2_with fail
          refine ⟨⟨lo, _, S2, _, 0, rfl, rfl, HD3⟩, ?_⟩
          have := HD3.out.now.left
          rw [HM.out, this]
          have := HL.out
          have := HL2.out
          simp only [half] at *
          omega
        · simp only [show sideI true = 1 from rfl]
          go_wp2_with fail
          refine ⟨⟨hi, _, S2, _, 1, rfl, rfl, HD3⟩, ?_⟩
          have := HD3.out.now.left
          rw [HM.out, this]
          have := HL.out
          have := HL2.out
          simp only [half] at *
          omega
end Go.Proofs.Ytechocnednepiaa
