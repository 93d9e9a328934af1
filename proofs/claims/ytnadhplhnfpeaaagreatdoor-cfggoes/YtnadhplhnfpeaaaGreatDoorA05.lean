/- Part of the proof. -/
import Derived.Test.YtnadhplhnfpeaaaGreatDoorAZ
import Derived.Test.YtnadhplhnfpeaaaGreatDoorA04
import Derived.Lib.Builder
namespace Go.Proofs.YtnadhplhnfpeaaaGreatDoor
open Go.RowKit Go.Sort
theorem row_base {w : World} {B B' e size n : Nat} {v : Value} {xs : List Value} (h : w.ownsRow B e size v n xs) (hb : B' ≤ B) : w.ownsRow B' e size v n xs := by
 obtain ⟨h1, h2⟩ := h
 refine ⟨h1, ?_⟩
 rcases h2 with h2 | ⟨g, cap, cur, hv, hB, r⟩
 ·
  exact .inl h2
 exact .inr ⟨g, cap, cur, hv, Nat.le_trans hb hB, r⟩
def Lies (w : World) (v v' : Value) : Prop := ∀ g, v'.ownBlock = some g → v.ownBlock = some g ∨ w.heap.size ≤ g
theorem run_append_where (P : Program) (w : World) (base : Nat) (t ty e : TypeId) (i : TypeInfo) (z : Value) (size bytes : Nat) (ht : P.underlying t = some (.slice e)) (hi : P.info? e = some i) (hz : i.zero = some z)
    (hsize : i.size = size) (hby : i.bytes = bytes) (hzs : z.cells.size = size) (hsz : 0 < size)
    (v : Value) (n : Nat) (xs : List Value) (hown : w.ownsRow base e size v n xs)
    (a : Addr) (m c : Nat) (news : List Value) (hl : news.length = m * size) (hnews : ∀ j u, news[j]? = some u → w.cell? (a.add j) = some u) (h1 : ∀ u ∈ news, u.oneCell' = true)
    (h63 : n + m ≤ maxLen) (hbytes : (n + m) * bytes ≤ 140737488355328) (hbase : base ≤ w.heap.size) :
    ∃ v' w', (Builtin.append_ #[t, t] ty #[v, .slice (some a) m c]).run P w = .ok v' w' ∧ w'.ownsRow base e size v' (n + m) (xs ++ news) ∧ w.grownBy w' v.ownBlock ∧ Lies w v v' := by
  obtain ⟨v', w', hr, h2, h3, _⟩ := run_append_own (P := P) w base t ty e i z size bytes ht hi hz hsize hby hzs hsz v n xs hown a m c news hl hnews h1 h63 hbytes hbase
  refine ⟨v', w', hr, h2, h3, ?_⟩
  intro g hg
  rcases hown.2 with ⟨rfl, rfl⟩ | ⟨g0, cap, cur, rfl, hbg, hg0, hnc, hcm, hcs, htake⟩
  · have hx : xs = [] := List.eq_nil_of_length_eq_zero (by simpa using hown.1)
    subst hx
    obtain ⟨v2, w2, hr2, h22, _⟩ := run_append_own (P := P) w w.heap.size t ty e i z size bytes ht hi hz hsize hby hzs hsz (.slice none 0 0) 0 [] (World.ownsRow_nil _ _ _ _) a m c news hl hnews h1 h63 hbytes (Nat.le_refl _)
    rw [hr] at hr2
    cases hr2
    exact .inr (h22.lt g hg).1
  · subst hsize
    subst hby
    by_cases hroom : n + m ≤ cap
    · have hfit : n * i.size + news.length ≤ cur.size := by rw [hl, hcs, ← Nat.add_mul]; exact Nat.mul_le_mul_right _ hroom
      have hr2 := run_append_room (P := P) w t ty e i ht hi g0 n cap cur hg0 a m c news hl hnews h1 hroom hfit
      rw [hr] at hr2
      cases hr2
      exact .inl hg
    · have holds : ∀ j u, xs[j]? = some u → w.cell? ((⟨g0, 0, none⟩ : Addr).add j) = some u := hown.cells (g := g0) rfl
      have hr2 := run_append_grow (P := P) w t ty e i z ht hi hz ⟨g0, 0, none⟩ n cap xs hown.1 holds a m c news hl hnews (by omega) (by simp only [maxLen] at h63; omega) (growslice_fits (by omega) hbytes)
      rw [hr] at hr2
      cases hr2
      right
      have : w.heap.size = g := by simpa [Value.ownBlock] using hg
      omega
theorem wp_append_where {P : Program} (w : World) {o : Oper} {a : Act} {K : Act → World → Prop} {Q : Exit → Act → World → Prop} (s x : Operand) (t : TypeId)
    (ho : o.op = .call { callee := .builtin .append, args := #[s, x], argTypes := #[t, t] })
    (base : Nat) (e : TypeId) (i : TypeInfo) (z : Value) (size bytes : Nat) (ht : P.underlying t = some (.slice e)) (hi : P.info? e = some i) (hz : i.zero = some z)
    (hsize : i.size = size) (hby : i.bytes = bytes) (hzs : z.cells.size = size) (hsz : 0 < size)
    (v : Value) (n : Nat) (xs : List Value) (hs : a.eval s = v) (hown : w.ownsRow base e size v n xs)
    (ad : Addr) (m c : Nat) (news : List Value) (hx : a.eval x = .slice (some ad) m c) (hl : news.length = m * size) (hnews : ∀ j u, news[j]? = some u → w.cell? (ad.add j) = some u) (h1 : ∀ u ∈ news, u.oneCell' = true)
    (h63 : n + m ≤ maxLen) (hbytes : (n + m) * bytes ≤ 140737488355328) (hbase : base ≤ w.heap.size)
    (h : ∀ v' w', w'.ownsRow base e size v' (n + m) (xs ++ news) → w.grownBy w' v.ownBlock → Lies w v v' → K (a.put o.dst v') w') : o.wp P a w K Q := by
  obtain ⟨v', w', hr, h2, h3, h4⟩ := run_append_where P w base t o.type e i z size bytes ht hi hz hsize hby hzs hsz v n xs hown ad m c news hl hnews h1 h63 hbytes hbase
  unfold Oper.wp execOp
  simp only [ho, resolve, invoke, builtin, Sem.run_bind, Sem.run_pure, Result.andThen_ok, List.map_toArray, List.map_cons, List.map_nil, hs, hx, hr]
  exact h v' w' h2 h3 h4
theorem wpList_append_where {P : Program} {w : World} {ops : Array Oper} {rest : List Oper} {o : Oper} {a : Act} {Q : Exit → Act → World → Prop} (hgd : o.guard = none) (s x : Operand) (t : TypeId)
    (ho : o.op = .call { callee := .builtin .append, args := #[s, x], argTypes := #[t, t] })
    (base : Nat) (e : TypeId) (i : TypeInfo) (z : Value) (size bytes : Nat) (ht : P.underlying t = some (.slice e)) (hi : P.info? e = some i) (hz : i.zero = some z)
    (hsize : i.size = size) (hby : i.bytes = bytes) (hzs : z.cells.size = size) (hsz : 0 < size)
    (v : Value) (n : Nat) (xs : List Value) (hs : a.eval s = v) (hown : w.ownsRow base e size v n xs)
    (ad : Addr) (m c : Nat) (news : List Value) (hx : a.eval x = .slice (some ad) m c) (hl : news.length = m * size) (hnews : ∀ j u, news[j]? = some u → w.cell? (ad.add j) = some u) (h1 : ∀ u ∈ news, u.oneCell' = true)
    (h63 : n + m ≤ maxLen) (hbytes : (n + m) * bytes ≤ 140737488355328) (hbase : base ≤ w.heap.size)
    (h : ∀ v' w', w'.ownsRow base e size v' (n + m) (xs ++ news) → w.grownBy w' v.ownBlock → Lies w v v' → wpList P ops Q rest (a.put o.dst v') w') : wpList P ops Q (o :: rest) a w :=
  wpList_plain hgd fun _ hK => wp_append_where w s x t ho base e i z size bytes ht hi hz hsize hby hzs hsz v n xs hs hown ad m c news hx hl hnews h1 h63 hbytes hbase fun v' w' h2 h3 h4 => hK _ _ (h v' w' h2 h3 h4)
theorem row_but {w w' : World} {S : Nat → Prop} {B e size n : Nat} {v : Value} {xs : List Value} (h : w.ownsRow B e size v n xs) (hb : But S w w') (hk : ∀ g, v.ownBlock = some g → ¬ S g) : w'.ownsRow B e size v n xs :=
  row_of h fun g hg => hb.block g (hk g hg) (h.lt g hg).2
def strs (l : List ByteArray) : List Value := l.map .string
theorem strs_at {w : World} {B : Nat} {v : Value} {l : List ByteArray} (h : w.ownsRow B 9 1 v l.length (strs l)) : ∃ ao c, v = .slice ao l.length c ∧ (l = [] ∨ ∃ g, ao = some ⟨g, 0, none⟩ ∧ g < w.heap.size ∧ ∀ j (hj : j < l.length), w.cell? ⟨g, j, none⟩ = some (.string l[j])) := by
 rcases h.2 with ⟨hv, h0⟩ | ⟨g, cap, cur, hv, hB, hg, r⟩
 ·
  exact ⟨none, 0, by rw [hv, h0], .inl (List.length_eq_zero_iff.1 h0)⟩
 refine ⟨_, cap, hv, .inr ⟨g, rfl, heap_lt hg, fun j hj => ?_⟩⟩
 rw [hv] at h
 rw [h.cellAt _ (by omega)]
 simp [strs, hj]
theorem inB_false {l : List ByteArray} {s : ByteArray} {i : Nat} (h : ∀ j (hj : j < l.length), j < i → ¬ l[j] = s) (hi : l.length ≤ i) : inB l s = false := by
 unfold inB
 rw [List.any_eq_false]
 intro x hx
 obtain ⟨j, hj, rfl⟩ := List.getElem_of_mem hx
 rw [decide_eq_true_eq]
 exact h j hj (by omega)
theorem inB_true {l : List ByteArray} {s : ByteArray} {i : Nat} (hi : i < l.length) (h : l[i] = s) : inB l s = true := by
 unfold inB
 rw [List.any_eq_true]
 exact ⟨l[i], List.getElem_mem hi, by rw [decide_eq_true_eq]; exact h⟩
set_option maxHeartbeats 2000000 in
set_option maxRecDepth 100000 in
theorem indexS_is (B : Nat) (v : Value) (l : List ByteArray) (s : ByteArray) (hl : l.length ≤ 100000) (w : World) (h : w.ownsRow B 9 1 v l.length (strs l)) : Calls Tryz.prog 84 #[v, .string s] w fun e w' => ∃ i : Int, e = .returned (.int .i64 i) ∧ (0 ≤ i ↔ inB l s = true) ∧ w' = w := by
 obtain ⟨ao, c, rfl, hat⟩ := strs_at h
 have HAT := hide hat
 obtain ⟨N, hN⟩ : ∃ N, l.length = N := ⟨_, rfl⟩
 have HN := hide hN
 rw [hN] at hl ⊢
 clear hat h hN
 go_enter Tryz.func84, Tryz.ntmps84
 go_wp2_with fail
 go_loopw [8] (fun v8 wr => ∃ i : Nat, v8 = .int .i64 (i : Int) ∧ i ≤ N ∧ Hid (∀ j (hj : j < l.length), j < i → ¬ l[j] = s) ∧ w = wr) (fun v8 _ => N - (intOf v8).toNat)
 case atStart => exact ⟨0, rfl, Nat.zero_le _, fun j _ h => by omega, rfl⟩
 case round =>
  obtain ⟨i, rfl, hiN, HI, rfl⟩ := hrel
  rcases Nat.lt_or_ge i N with hlt | hge
  ·
   have h1 : (i : Int) < (N : Int) := by omega
   have hil : i < l.length := by rw [HN.out]; exact hlt
   obtain ⟨g, rfl, hg, hc⟩ : ∃ g, ao = some ⟨g, 0, none⟩ ∧ g < w.heap.size ∧ ∀ j (hj : j < l.length), w.cell? ⟨g, j, none⟩ = some (.string l[j]) := by
    rcases HAT.out with h | h
    ·
     rw [h] at hil; simp at hil
    exact h
   have c0 := hc i hil
   clear hc
   by_cases hx : l[i] = s
   ·
    have HT := hide (inB_true hil hx)
    have hb : (s.toList == l[i].toList) = true := by rw [beq_tl, decide_eq_true hx.symm]
    go_wp2_with fail
    go_ret
    exact ⟨_, rfl, ⟨fun _ => HT.out, fun _ => by omega⟩, rfl⟩
   have hb : (s.toList == l[i].toList) = false := by rw [beq_tl, decide_eq_false (fun e => hx e.symm)]
   have HI2 : Hid (∀ j (hj : j < l.length), j < i + 1 → ¬ l[j] = s) := fun j hj h => by
    rcases Nat.lt_or_ge j i with h' | h'
    ·
     exact HI.out j hj h'
    obtain rfl : j = i := by omega
    exact hx
   clear HI
   go_wp2_with fail
   exact ⟨⟨i + 1, by go_num, by omega, HI2, trivial⟩, by simp [intOf]; omega⟩
  obtain rfl : i = N := by omega
  have h1 : ¬ (i : Int) < (i : Int) := by omega
  have HF := hide (inB_false HI.out (by rw [HN.out]; exact Nat.le_refl _))
  go_wp2_with fail
  go_ret
  refine ⟨_, rfl, ⟨fun h => ?_, fun h => ?_⟩, rfl⟩
  ·
   omega
  rw [HF.out] at h; cases h
set_option maxHeartbeats 1000000 in
theorem containsS_is (B : Nat) (v : Value) (l : List ByteArray) (s : ByteArray) (hl : l.length ≤ 100000) (w : World) (h : w.ownsRow B 9 1 v l.length (strs l)) : Calls Tryz.prog 60 #[v, .string s] w fun e w' => e = .returned (.bool (inB l s)) ∧ w' = w := by
 have C := hide (indexS_is B v l s hl w h)
 obtain ⟨ao, c, rfl, _⟩ := strs_at h
 clear h
 generalize inB l s = b at *
 go_enter Tryz.func60, Tryz.ntmps60
 go_wp2_with fail
 refine C.out.mono ?_
 rintro e w1 ⟨i, rfl, hi, rfl⟩
 go_wp2_with fail
 go_ret
 refine ⟨ret_bool ?_, rfl⟩
 rw [Bool.eq_iff_iff, ← hi]
 try simp
structure Oc where
  oc : Nat
  bx : Nat
  old : List ByteArray
  rb : Option Nat
def Oc.fn (o : Oc) : Value := .func (.func 59) #[] #[.pointer (some ⟨o.oc, 0, none⟩), .pointer (some ⟨o.bx, 0, none⟩)]
def Oc.S (o : Oc) (k : Nat) : Prop := k = o.oc ∨ o.rb = some k
structure OcAt (E : En) (w : World) (o : Oc) : Prop where
  box : w.heap[o.bx]? = some (.cells #[.pointer (some ⟨E.pb, 0, none⟩)] 59 (0, 0))
  row : ∃ v, w.heap[o.oc]? = some (.cells #[v] 126 (0, 0)) ∧ w.ownsRow E.w0.heap.size 9 1 v o.old.length (strs o.old) ∧ v.ownBlock = o.rb
  base : E.w0.heap.size ≤ o.oc ∧ o.oc ≠ E.pb ∧ o.bx ≠ E.pb ∧ o.bx ≠ o.oc
theorem OcAt.rb {E : En} {w : World} {o : Oc} (h : OcAt E w o) : ∀ g, o.rb = some g → E.w0.heap.size ≤ g ∧ g < w.heap.size ∧ ∃ cs, w.heap[g]? = some (.cells cs 9 (0, 0)) := by
 obtain ⟨v, h1, h2, h3⟩ := h.row
 intro g hg
 rw [← h3] at hg
 obtain ⟨h4, h5⟩ := h2.lt g hg
 refine ⟨h4, h5, ?_⟩
 rcases h2.2 with ⟨hv, _⟩ | ⟨g', cap, cur, hv, _, hg', _⟩
 ·
  rw [hv] at hg; cases hg
 rw [hv] at hg
 obtain rfl : g' = g := by simpa [Value.ownBlock] using hg
 exact ⟨_, hg'⟩
theorem OcAt.other {E : En} {w : World} {o : Oc} (h : OcAt E w o) {g t : Nat} {cs : Array Value} (hg : w.heap[g]? = some (.cells cs t (0, 0))) (ht : t ≠ 9) : ¬ o.rb = some g := fun e => by
  obtain ⟨_, _, cs', h'⟩ := h.rb g e
  rw [hg] at h'
  cases h'
  exact ht rfl
theorem OcAt.lt {E : En} {w : World} {o : Oc} (h : OcAt E w o) : o.oc < w.heap.size ∧ o.bx < w.heap.size := by
 obtain ⟨v, h1, _⟩ := h.row
 exact ⟨heap_lt h1, heap_lt h.box⟩
theorem OcAt.of {E : En} {w w' : World} {o : Oc} (h : OcAt E w o) {S : Nat → Prop} (hb : But S w w') (h1 : ¬ S o.oc) (h2 : ¬ S o.bx) (h3 : ∀ g, o.rb = some g → ¬ S g) : OcAt E w' o := by
 obtain ⟨v, r1, r2, r3⟩ := h.row
 exact ⟨hb.keep h.box h2, ⟨v, hb.keep r1 h1, row_but r2 hb (fun g hg => h3 g (by rw [← r3]; exact hg)), r3⟩, h.base⟩
theorem OcAt.below {E : En} {w w' : World} {o : Oc} (h : OcAt E w o) (hb : Below w.heap.size w w') : OcAt E w' o := h.of (S := fun _ => False) (But.of hb) (fun h => h) (fun h => h) (fun _ _ h => h)
theorem OcAt.pb {E : En} {w : World} {st : Sta} {o : Oc} (h : OcAt E w o) (hp : Ps E w st) : ∀ g, o.rb = some g → ¬ g = E.pb := by
 obtain ⟨_, _, ao, n, c, a1, a2, e, hg, _⟩ := hp
 rintro g h1 rfl
 exact h.other hg (by decide) h1
theorem OcAt.but1 {E : En} {w w' : World} {st : Sta} {o : Oc} (h : OcAt E w o) (hp : Ps E w st) (hb : But (but1 E.pb) w w') : OcAt E w' o := h.of hb h.base.2.1 h.base.2.2.1 (h.pb hp)
theorem infoS : (Tryz.prog.info? 9).map (fun i => (i.zero, i.size, i.bytes)) = some (some (.string ⟨#[]⟩), 1, 16) := by kernel_rfl
theorem info_partsS : ∃ i0 : TypeInfo, Tryz.prog.info? 9 = some i0 ∧ i0.zero = some (.string ⟨#[]⟩) ∧ i0.size = 1 ∧ i0.bytes = 16 := by
 have h := infoS
 cases hi : Tryz.prog.info? 9 with
 | none => rw [hi] at h; cases h
 | some i0 =>
  rw [hi] at h
  simp only [Option.map_some, Option.some.injEq, Prod.mk.injEq] at h
  exact ⟨i0, rfl, h.1, h.2.1, h.2.2⟩
theorem one_cell {w : World} {b y : Nat} {x0 : Value} (h : w.heap[b]? = some (.cells #[x0] y (0, 0))) : w.cell? ⟨b, 0, none⟩ = some x0 ∧ w.frozen? ⟨b, 0, none⟩ = false := by
 simp [World.cell?, World.frozen?, h]
def OnceTo (E : En) (o : Oc) (t : Tv) (st : Sta) (w : World) (w' : World) : Prop := ∃ rb, OcAt E w' ⟨o.oc, o.bx, o.old ++ [t.s], rb⟩ ∧ (∀ g, rb = some g → o.rb = some g ∨ w.heap.size ≤ g) ∧ But (fun k => k = E.pb ∨ o.S k) w w' ∧ Ps E w' (faulted t (if inB o.old t.s = true then 6 else 0) st)
set_option maxHeartbeats 4000000 in
set_option maxRecDepth 100000 in
theorem once_call (E : En) (o : Oc) (t : Tv) (st : Sta) (w : World) (hp : Ps E w st) (ho : OcAt E w o) (hl : o.old.length ≤ 10000) : Calls Tryz.prog 59 #[t.val, .pointer (some ⟨o.oc, 0, none⟩), .pointer (some ⟨o.bx, 0, none⟩)] w fun e w' => e = .returned (.tuple #[]) ∧ OnceTo E o t st w w' := by
 unfold OnceTo
 obtain ⟨i0, hi, hz0, hz1, hz2⟩ := info_partsS
 obtain ⟨fin, hfin⟩ : ∃ fin, faulted t (if inB o.old t.s = true then 6 else 0) st = fin := ⟨_, rfl⟩
 rw [hfin]
 have HFIN := hide hfin
 clear hfin
 have CF := hide (fault_is E st t 6)
 have A0 := hide (balloc (brefl w) (.cells #[.int .i64 t.k, .string t.s, .int .i64 t.p, .int .i64 t.q] 95))
 have N0 := hide (heap_new w #[.int .i64 t.k, .string t.s, .int .i64 t.p, .int .i64 t.q] 95)
 have P0 := hide (hp.below A0.out)
 have O0 := hide (ho.below A0.out)
 have HPB := hide hp.lt
 have HOL := hide ho.lt
 obtain ⟨W0, pb, en⟩ := E
 obtain ⟨oc, bx, old, rb⟩ := o
 obtain ⟨tk, tt, tp, tq⟩ := t
 simp only [Tv.val] at *
 clear hp ho
 go_enter Tryz.func59, Tryz.ntmps59
 go_upto_region 1 with fail
 obtain ⟨tb, htb⟩ : ∃ tb, w.heap.size = tb := ⟨_, rfl⟩
 have HNE : Hid (tb ≠ pb ∧ tb ≠ oc ∧ tb ≠ bx) := by have h9 := HPB.out; have h8 := HOL.out; exact ⟨by omega, by omega, by omega⟩
 rw [htb] at N0 ⊢
 generalize w.alloc (.cells #[.int .i64 tk, .string tt, .int .i64 tp, .int .i64 tq] 95) = W at *
 clear htb
 obtain ⟨v, r1, r2, r3⟩ := O0.out.row
 simp only at r1 r2 r3
 have R1 := hide r1
 have R2 := hide r2
 have R3 := hide r3
 have CC := hide (containsS_is _ v old tt (by omega) W r2)
 obtain ⟨ao, c, hv, _⟩ := strs_at r2
 have HV := hide hv
 clear r1 r2 r3 hv
 obtain ⟨⟨c0, c1, c2, c3⟩, _⟩ := four_cells N0.out
 obtain ⟨d0, df⟩ := one_cell R1.out
 obtain ⟨b0, bf⟩ := one_cell O0.out.box
 simp only at b0 bf
 rw [HV.out] at d0
 rw [HV.out] at CC
 go_wp2_with fail
 refine CC.out.mono ?_
 rintro e w1 ⟨rfl, rfl⟩
 clear CC
 cases hin : inB old tt with
 | true =>
  have HF2 : Hid (faulted ⟨tk, tt, tp, tq⟩ 6 st = fin) := by have h := HFIN.out; rw [hin, if_pos rfl] at h; exact h
  clear hin
  go_wp2_with fail
  refine (CF.out _ P0.out).mono ?_
  rintro e w2 ⟨rfl, b2, p2⟩
  rw [HF2.out] at p2
  have P2 := hide p2
  have O2 := hide (O0.out.but1 P0.out b2)
  have N2 := hide (b2.keep N0.out HNE.out.1)
  have B2 : Hid (But (fun k => k = pb ∨ Oc.S ⟨oc, bx, old, rb⟩ k) w w2) := (But.of A0.out).trans (b2.mono fun k _ e => .inl e)
  clear b2 p2 CF P0 O0 N0 R1 R2 R3 HV c0 c1 c2 c3 d0 df b0 bf
  have HROW := hide O2.out.row
  obtain ⟨v, r1, r2, r3⟩ := HROW.out
  simp only at r1 r2 r3
  have R1 := hide r1
  have R2 := hide r2
  have R3 := hide r3
  obtain ⟨ao, c, hv, _⟩ := strs_at r2
  have HV := hide hv
  clear r1 r2 r3 hv HROW
  obtain ⟨⟨c0, c1, c2, c3⟩, _⟩ := four_cells N2.out
  obtain ⟨d0, df⟩ := one_cell R1.out
  rw [HV.out] at d0
  have A3 := hide (balloc (brefl w2) (.cells #[.string tt] 9))
  have N3 := hide (heap_new w2 #[.string tt] 9)
  have S3 := hide (row_of (w' := w2.alloc (.cells #[.string tt] 9)) R2.out (fun g hg => A3.out.block g (R2.out.lt g hg).2))
  have HSZ : Hid (W0.heap.size ≤ (w2.alloc (.cells #[.string tt] 9)).heap.size) := Nat.le_trans P2.out.1.size A3.out.size
  have K1 := hide ((A3.out.block oc (heap_lt R1.out)).trans R1.out)
  have HRB : Hid (∀ g, v.ownBlock = some g → g ≠ oc) := by
   rintro g hg rfl
   exact O2.out.other R1.out (by decide) (by rw [← R3.out]; exact hg)
  rw [HV.out] at S3
  go_wp2_with (at_builtin; go_must (refine wpList_append_where rfl _ _ 126 rfl W0.heap.size 9 i0 (.string ⟨#[]⟩) 1 16 Tryz.underlying126 hi hz0 hz1 hz2 rfl (by decide) _ _ _ rfl S3.out ⟨w2.heap.size, 0, none⟩ 1 1 [.string tt] rfl rfl ?c1 ?c2 ?c3 ?c4 HSZ.out ?_))
  case c1 =>
   intro j u hj
   match j, hj with
   | 0, hj => simp at hj; subst hj; simp [Addr.add]
  case c2 => intro u hu; simp at hu; subst hu; rfl
  case c3 => unfold maxLen; omega
  case c4 => omega
  intro v5 w5 o5 g5 l5
  have K5 := hide ((g5.block oc (heap_lt K1.out) (fun e => HRB.out oc (by rw [HV.out]; exact e.symm) rfl)).trans K1.out)
  obtain ⟨e0, ef⟩ := one_cell K5.out
  have hone : ∃ q n c', v5 = .slice q n c' := by
   rcases o5.2 with ⟨hv5, _⟩ | ⟨g, cap, cur, hv5, _⟩
   ·
    exact ⟨_, _, _, hv5⟩
   exact ⟨_, _, _, hv5⟩
  obtain ⟨q5, n5, c5, hv5⟩ := hone
  have B5 : Hid (But (fun k => k = pb ∨ Oc.S ⟨oc, bx, old, rb⟩ k) w w5) := by
   refine But.grown (B2.out.trans (But.of A3.out)) g5 ?_
   intro k hk
   left
   right
   right
   show rb = some k
   rw [← R3.out, HV.out]
   exact hk
  have L5 : Hid (∀ g, v5.ownBlock = some g → rb = some g ∨ w.heap.size ≤ g) := by
   intro g hg
   rcases l5 g hg with h | h
   ·
    left; rw [← R3.out, HV.out]; exact h
   right; exact Nat.le_trans (B2.out.trans (But.of (S := fun k => k = pb ∨ Oc.S ⟨oc, bx, old, rb⟩ k) A3.out)).size h
  have BX5 := hide ((g5.block bx (Nat.lt_of_lt_of_le (heap_lt O2.out.box) A3.out.size) (fun e => O2.out.other O2.out.box (by decide) (by rw [← R3.out, HV.out]; exact e.symm))).trans ((A3.out.block bx (heap_lt O2.out.box)).trans O2.out.box))
  have P5 : Hid (Ps ⟨W0, pb, en⟩ w5 fin) := by
   refine (P2.out.below A3.out).of (S := fun k => some k = Value.ownBlock (.slice ao old.length c)) ⟨g5.os, g5.tape, g5.output, g5.size, fun k hk hl => g5.block k hl hk⟩ ?_ ?_
   ·
    intro e
    exact O2.out.pb P2.out pb (by rw [← R3.out, HV.out]; exact e.symm) rfl
   intro k e
   exact (O2.out.rb k (by rw [← R3.out, HV.out]; exact e.symm)).1
  have HOB := hide O2.out.base
  have O5 := hide o5
  clear o5 g5 l5 c0 c1 c2 c3 d0 df K1 S3 A3 N3
  rw [hv5]
  go_wp2_with fail
  go_end0
  rw [← hv5]
  refine ⟨rfl, v5.ownBlock, ⟨set_far BX5.out HOB.out.2.2.2, ⟨v5, heap_setCell_same _ oc 0 _ 126 v5 K5.out, ?_, rfl⟩, HOB.out⟩, L5.out, B5.out.setCell (p := ⟨oc, 0, none⟩) (.inl (.inr (.inl rfl))) v5, P5.out.put (p := ⟨oc, 0, none⟩) HOB.out.2.1 HOB.out.1 v5⟩
  have h5 := row_of (w' := w5.setCell ⟨oc, 0, none⟩ v5) O5.out (fun g hg => Below.heap_setCell _ _ _ _ (by
   intro e9
   have e8 : g = oc := e9
   rw [e8] at hg
   rcases O5.out.2 with ⟨h9, _⟩ | ⟨g9, cap9, cur9, h9, _, hg9, _⟩
   ·
    rw [h9] at hg; cases hg
   rw [h9] at hg
   obtain rfl : g9 = oc := by simpa [Value.ownBlock] using hg
   rw [K5.out] at hg9
   cases hg9))
  have e9 : strs (old ++ [tt]) = strs old ++ [.string tt] := by simp [strs]
  rw [e9, List.length_append]
  exact h5
 | false =>
  have HF2 : Hid (st = fin) := by have h := HFIN.out; rw [hin, if_neg (by decide), faulted_zero] at h; exact h
  clear hin CF
  have P2 : Hid (Ps ⟨W0, pb, en⟩ w1 fin) := by rw [← HF2.out]; exact P0
  have B2 : Hid (But (fun k => k = pb ∨ Oc.S ⟨oc, bx, old, rb⟩ k) w w1) := But.of A0.out
  have N2 := N0
  have O2 := O0
  clear P0 O0 N0 R1 R2 R3 HV c0 c1 c2 c3 d0 df b0 bf
  have HROW := hide O2.out.row
  obtain ⟨v, r1, r2, r3⟩ := HROW.out
  simp only at r1 r2 r3
  have R1 := hide r1
  have R2 := hide r2
  have R3 := hide r3
  obtain ⟨ao, c, hv, _⟩ := strs_at r2
  have HV := hide hv
  clear r1 r2 r3 hv HROW
  obtain ⟨⟨c0, c1, c2, c3⟩, _⟩ := four_cells N2.out
  obtain ⟨d0, df⟩ := one_cell R1.out
  rw [HV.out] at d0
  have A3 := hide (balloc (brefl w1) (.cells #[.string tt] 9))
  have N3 := hide (heap_new w1 #[.string tt] 9)
  have S3 := hide (row_of (w' := w1.alloc (.cells #[.string tt] 9)) R2.out (fun g hg => A3.out.block g (R2.out.lt g hg).2))
  have HSZ : Hid (W0.heap.size ≤ (w1.alloc (.cells #[.string tt] 9)).heap.size) := Nat.le_trans P2.out.1.size A3.out.size
  have K1 := hide ((A3.out.block oc (heap_lt R1.out)).trans R1.out)
  have HRB : Hid (∀ g, v.ownBlock = some g → g ≠ oc) := by
   rintro g hg rfl
   exact O2.out.other R1.out (by decide) (by rw [← R3.out]; exact hg)
  rw [HV.out] at S3
  go_wp2_with (at_builtin; go_must (refine wpList_append_where rfl _ _ 126 rfl W0.heap.size 9 i0 (.string ⟨#[]⟩) 1 16 Tryz.underlying126 hi hz0 hz1 hz2 rfl (by decide) _ _ _ rfl S3.out ⟨w1.heap.size, 0, none⟩ 1 1 [.string tt] rfl rfl ?c1 ?c2 ?c3 ?c4 HSZ.out ?_))
  case c1 =>
   intro j u hj
   match j, hj with
   | 0, hj => simp at hj; subst hj; simp [Addr.add]
  case c2 => intro u hu; simp at hu; subst hu; rfl
  case c3 => unfold maxLen; omega
  case c4 => omega
  intro v5 w5 o5 g5 l5
  have K5 := hide ((g5.block oc (heap_lt K1.out) (fun e => HRB.out oc (by rw [HV.out]; exact e.symm) rfl)).trans K1.out)
  obtain ⟨e0, ef⟩ := one_cell K5.out
  have hone : ∃ q n c', v5 = .slice q n c' := by
   rcases o5.2 with ⟨hv5, _⟩ | ⟨g, cap, cur, hv5, _⟩
   ·
    exact ⟨_, _, _, hv5⟩
   exact ⟨_, _, _, hv5⟩
  obtain ⟨q5, n5, c5, hv5⟩ := hone
  have B5 : Hid (But (fun k => k = pb ∨ Oc.S ⟨oc, bx, old, rb⟩ k) w w5) := by
   refine But.grown (B2.out.trans (But.of A3.out)) g5 ?_
   intro k hk
   left
   right
   right
   show rb = some k
   rw [← R3.out, HV.out]
   exact hk
  have L5 : Hid (∀ g, v5.ownBlock = some g → rb = some g ∨ w.heap.size ≤ g) := by
   intro g hg
   rcases l5 g hg with h | h
   ·
    left; rw [← R3.out, HV.out]; exact h
   right; exact Nat.le_trans (B2.out.trans (But.of (S := fun k => k = pb ∨ Oc.S ⟨oc, bx, old, rb⟩ k) A3.out)).size h
  have BX5 := hide ((g5.block bx (Nat.lt_of_lt_of_le (heap_lt O2.out.box) A3.out.size) (fun e => O2.out.other O2.out.box (by decide) (by rw [← R3.out, HV.out]; exact e.symm))).trans ((A3.out.block bx (heap_lt O2.out.box)).trans O2.out.box))
  have P5 : Hid (Ps ⟨W0, pb, en⟩ w5 fin) := by
   refine (P2.out.below A3.out).of (S := fun k => some k = Value.ownBlock (.slice ao old.length c)) ⟨g5.os, g5.tape, g5.output, g5.size, fun k hk hl => g5.block k hl hk⟩ ?_ ?_
   ·
    intro e
    exact O2.out.pb P2.out pb (by rw [← R3.out, HV.out]; exact e.symm) rfl
   intro k e
   exact (O2.out.rb k (by rw [← R3.out, HV.out]; exact e.symm)).1
  have HOB := hide O2.out.base
  have O5 := hide o5
  clear o5 g5 l5 c0 c1 c2 c3 d0 df K1 S3 A3 N3
  rw [hv5]
  go_wp2_with fail
  go_end0
  rw [← hv5]
  refine ⟨rfl, v5.ownBlock, ⟨set_far BX5.out HOB.out.2.2.2, ⟨v5, heap_setCell_same _ oc 0 _ 126 v5 K5.out, ?_, rfl⟩, HOB.out⟩, L5.out, B5.out.setCell (p := ⟨oc, 0, none⟩) (.inl (.inr (.inl rfl))) v5, P5.out.put (p := ⟨oc, 0, none⟩) HOB.out.2.1 HOB.out.1 v5⟩
  have h5 := row_of (w' := w5.setCell ⟨oc, 0, none⟩ v5) O5.out (fun g hg => Below.heap_setCell _ _ _ _ (by
   intro e9
   have e8 : g = oc := e9
   rw [e8] at hg
   rcases O5.out.2 with ⟨h9, _⟩ | ⟨g9, cap9, cur9, h9, _, hg9, _⟩
   ·
    rw [h9] at hg; cases hg
   rw [h9] at hg
   obtain rfl : g9 = oc := by simpa [Value.ownBlock] using hg
   rw [K5.out] at hg9
   cases hg9))
  have e9 : strs (old ++ [tt]) = strs old ++ [.string tt] := by simp [strs]
  rw [e9, List.length_append]
  exact h5
end Go.Proofs.YtnadhplhnfpeaaaGreatDoor
