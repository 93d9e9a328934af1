/- Part of the proof. -/
import Derived.Test.YtnadhplhnfpeaaaGreatDoorAZ
import Derived.Test.YtnadhplhnfpeaaaGreatDoorA02
namespace Go.Proofs.YtnadhplhnfpeaaaGreatDoor
open Go.RowKit Go.Sort
def At (t : Tv) : Sta → Prop
  | .good _ l => l = (t.p, t.q)
  | .bad _ _ _ => True
def okv {α : Type} (a : α) : Sta → Option α
  | .good _ _ => some a
  | .bad _ _ _ => none
theorem taken_at (en : Int × Int) (st : Sta) : At (taken en st).1 (taken en st).2 := by
 cases st with
 | good r l => cases r <;> simp [taken, At]
 | bad p q e => exact trivial
theorem faulted_at {t t' : Tv} {e : Int} {st : Sta} (h : At t st) : At t (faulted t' e st) := by
 cases st with
 | good r l =>
  show At t (if e = 0 then .good r l else .bad t'.p t'.q e)
  split
  ·
   exact h
  exact trivial
 | bad p q x => exact trivial
theorem exec_ret {α : Type} (en : Int × Int) (a : α) (st : Sta) : (Pg.ret a).exec en st = (okv a st, st) := by cases st <;> rfl
theorem exec_next {α : Type} (en : Int × Int) (k : Int → ByteArray → Pg α) (st : Sta) : (Pg.next k).exec en st = (k (taken en st).1.k (taken en st).1.s).exec en (taken en st).2 := by
 cases st with
 | good r l => cases r <;> rfl
 | bad p q e => rfl
theorem exec_fail {α : Type} (en : Int × Int) {t : Tv} {st : Sta} (h : At t st) {e : Int} (he : e ≠ 0) : (Pg.fail e : Pg α).exec en st = (none, faulted t e st) := by
 cases st with
 | good r l =>
  obtain rfl : l = (t.p, t.q) := h
  simp only [Pg.exec, Pg.run, faulted]
  rw [if_neg he]
 | bad p q x => rfl
theorem exec_chk {α : Type} (en : Int × Int) {t : Tv} {st : Sta} (h : At t st) (e : Int) (k : Unit → Pg α) : ((chk e).bind k).exec en st = (k ()).exec en (faulted t e st) := by
 unfold chk
 by_cases he : e = 0
 ·
  subst he
  rw [if_pos rfl]
  cases st <;> rfl
 rw [if_neg he]
 show (Pg.fail e : Pg α).exec en st = _
 rw [exec_fail en h he]
 cases st with
 | good r l => simp only [faulted]; rw [if_neg he]; rfl
 | bad p q x => rfl
theorem faulted_zero (t : Tv) (st : Sta) : faulted t 0 st = st := by cases st <;> rfl
theorem exec_if {α : Type} (en : Int × Int) {t : Tv} {st : Sta} (h : At t st) {e : Int} (he : e ≠ 0) (c : Prop) [Decidable c] (g : Pg α) : (if c then Pg.fail e else g).exec en st = g.exec en (faulted t (if c then e else 0) st) := by
 by_cases hc : c
 ·
  rw [if_pos hc, if_pos hc, exec_fail en h he]
  cases st with
  | good r l => simp only [faulted]; rw [if_neg he]; rfl
  | bad p q x => rfl
 rw [if_neg hc, if_neg hc, faulted_zero]
theorem exec_ifn {α : Type} (en : Int × Int) {t : Tv} {st : Sta} (h : At t st) {e : Int} (he : e ≠ 0) (c : Prop) [Decidable c] (g : Pg α) : (if c then g else Pg.fail e).exec en st = g.exec en (faulted t (if c then 0 else e) st) := by
 by_cases hc : c
 ·
  rw [if_pos hc, if_pos hc, faulted_zero]
 rw [if_neg hc, if_neg hc, exec_fail en h he]
 cases st with
 | good r l => simp only [faulted]; rw [if_neg he]; rfl
 | bad p q x => rfl
def headS : Sta → Option (Int × ByteArray)
  | .good r _ => r.head?.map Tv.bare
  | .bad _ _ _ => none
theorem exec_peek {α : Type} (en : Int × Int) (k : Option (Int × ByteArray) → Pg α) (st : Sta) : (Pg.peek k).exec en st = (k (headS st)).exec en st := by cases st <;> rfl
theorem taken_size {E : En} {w : World} {st : Sta} (h : Ps E w st) : (taken E.en st).1.s.size ≤ 1000 := by
 obtain ⟨_, _, ao, n, c, a1, a2, e, _, hv⟩ := h
 cases st with
 | good r l =>
  cases r with
  | nil => exact Nat.zero_le _
  | cons t r => exact hv.2.2.2.1 t (List.mem_cons_self ..)
 | bad p q e => exact Nat.zero_le _
theorem wd_size {k : Int} {s : ByteArray} {n : Nat} (h : s.size ≤ n) : (wd k s).size ≤ n := by
 unfold wd
 split
 ·
  exact h
 exact Nat.zero_le _
structure Kit12 (T : World → Prop) (F : Fn) : Prop where
  nam : ∀ (s : ByteArray), s.size ≤ 1000 → ∀ w, Calls Tryz.prog 18 #[.string s] w fun e w' => e = .returned (.int .i64 (F.nam s)) ∧ Below w.heap.size w w'
  num : ∀ (s : ByteArray) (a b : Int), s.size ≤ 1000 → ∀ w0 w, T w0 → Below w0.heap.size w0 w → Calls Tryz.prog 7 #[.string s, .int .i64 a, .int .i64 b] w fun e w' => e = .returned (.tuple #[.int .i64 (F.num s a b).1, .int .i64 (F.num s a b).2]) ∧ Below w.heap.size w w'
  pfx : ∀ (s : ByteArray), s.size ≤ 1000 → ∀ w0 w, T w0 → Below w0.heap.size w0 w → Calls Tryz.prog 102 #[.string s] w fun e w' => e = .returned (.tuple #[.agg #[.int .u32 (F.pfx s).1, .int .i64 (F.pfx s).2.1], .int .i64 (F.pfx s).2.2]) ∧ Below w.heap.size w w'
  com : ∀ (s : ByteArray), s.size ≤ 1000 → ∀ w0 w, T w0 → Below w0.heap.size w0 w → Calls Tryz.prog 119 #[.string s] w fun e w' => e = .returned (.tuple #[.agg #[.int .i64 (F.com s).1, .int .i64 (F.com s).2.1], .int .i64 (F.com s).2.2]) ∧ Below w.heap.size w w'
  asr : ∀ (s : ByteArray), s.size ≤ 1000 → ∀ w0 w, T w0 → Below w0.heap.size w0 w → Calls Tryz.prog 118 #[.string s] w fun e w' => ∃ x, e = .returned (.tuple #[.pointer x, .int .i64 (F.asr s)]) ∧ Below w.heap.size w w'
  may : ∀ (r : Rg) (g : Nat) (w : World), w.heap[g]? = some (.cells #[.int .u32 r.ad, .int .i64 r.bits, .int .i64 r.ge, .int .i64 r.le, .bool r.ok] 109 (0, 0)) → Calls Tryz.prog 90 #[.slice (some ⟨g, 0, none⟩) 1 1] w fun e w' => ∃ z, e = .returned (.int .i64 z) ∧ (z = 0 ↔ F.may r = true) ∧ Below w.heap.size w w'
  fits : ∀ (s : ByteArray) (a b : Int), (F.num s a b).1 = 0 ∨ a ≤ (F.num s a b).1 ∧ (F.num s a b).1 ≤ b
set_option maxHeartbeats 2000000 in
set_option maxRecDepth 100000 in
theorem mark_is (E : En) (st : Sta) (m : UInt8) (w : World) (h : Ps E w st) : Calls Tryz.prog 70 #[.pointer (some ⟨E.pb, 0, none⟩), .string (bs [m])] w fun r w' => r = .returned (.tuple #[]) ∧ But (but1 E.pb) w w' ∧ Ps E w' ((pMark m).exec E.en st).2 := by
 have HX : Hid (((pMark m).exec E.en st).2 = faulted (taken E.en st).1 (if isM m (taken E.en st).1.k (taken E.en st).1.s then 0 else 4) (taken E.en st).2) := by
  show _ = _
  unfold pMark
  rw [exec_next, exec_ifn E.en (taken_at E.en st) (by decide), exec_ret]
 rw [HX.out]
 have CN := hide (next_is E st w h)
 have HPB := hide h.lt
 clear HX h
 obtain ⟨fin, hfin⟩ : ∃ fin, faulted (taken E.en st).1 (if isM m (taken E.en st).1.k (taken E.en st).1.s then 0 else 4) (taken E.en st).2 = fin := ⟨_, rfl⟩
 rw [hfin]
 have HFIN := hide hfin
 clear hfin
 generalize (taken E.en st).2 = st1 at *
 generalize (taken E.en st).1 = t at *
 have CF := hide (fault_is E st1 t 4)
 have CW := hide (isMark_is m t)
 obtain ⟨W0, pb, en⟩ := E
 obtain ⟨tk, tt, tp, tq⟩ := t
 simp only [Tv.val] at *
 go_enter Tryz.func70, Tryz.ntmps70
 go_wp2_with fail
 refine CN.out.mono ?_
 rintro e w1 ⟨rfl, b1, p1⟩
 have P1 := hide (p1.alloc (.cells #[.int .i64 tk, .string tt, .int .i64 tp, .int .i64 tq] 95))
 have B1 := hide (b1.alloc (.cells #[.int .i64 tk, .string tt, .int .i64 tp, .int .i64 tq] 95))
 have N1 := hide (heap_new w1 #[.int .i64 tk, .string tt, .int .i64 tp, .int .i64 tq] 95)
 have HNE : Hid (w1.heap.size ≠ pb) := by have h9 := HPB.out; have h8 := b1.size; show _ ≠ _; omega
 clear b1 p1 CN
 go_upto_region 1 with fail
 obtain ⟨tb, htb⟩ : ∃ tb, w1.heap.size = tb := ⟨_, rfl⟩
 rw [htb] at N1 HNE ⊢
 generalize w1.alloc (.cells #[.int .i64 tk, .string tt, .int .i64 tp, .int .i64 tq] 95) = W1 at *
 clear htb
 obtain ⟨⟨c0, c1, c2, c3⟩, _⟩ := four_cells N1.out
 go_wp2_with fail
 refine (CW.out _).mono ?_
 rintro e w2 ⟨rfl, b2⟩
 have P2 := hide (P1.out.below b2)
 have B2 := hide (B1.out.trans (But.of b2))
 have N2 := hide ((b2.block tb (heap_lt N1.out)).trans N1.out)
 clear b2 CW c0 c1 c2 c3 P1 B1 N1
 obtain ⟨⟨c0, c1, c2, c3⟩, _⟩ := four_cells N2.out
 by_cases hc : isM m tk tt
 ·
  rw [decide_eq_true hc]
  go_wp2_with fail
  go_end0
  refine ⟨rfl, B2.out, ?_⟩
  rw [← HFIN.out, if_pos hc, faulted_zero]
  exact P2.out
 rw [decide_eq_false hc]
 go_wp2_with fail
 refine (CF.out _ P2.out).mono ?_
 rintro e w3 ⟨rfl, b3, p3⟩
 go_wp2_with fail
 go_end0
 refine ⟨rfl, B2.out.trans b3, ?_⟩
 rw [← HFIN.out, if_neg hc]
 exact p3
set_option maxHeartbeats 2000000 in
set_option maxRecDepth 100000 in
theorem keyword_is (E : En) (st : Sta) (x : ByteArray) (w : World) (h : Ps E w st) : Calls Tryz.prog 97 #[.pointer (some ⟨E.pb, 0, none⟩), .string x] w fun r w' => r = .returned (.tuple #[]) ∧ But (but1 E.pb) w w' ∧ Ps E w' ((pKey x).exec E.en st).2 := by
 have HX : Hid (((pKey x).exec E.en st).2 = faulted (taken E.en st).1 (if wd (taken E.en st).1.k (taken E.en st).1.s = x then 0 else 4) (taken E.en st).2) := by
  show _ = _
  unfold pKey
  rw [exec_next, exec_ifn E.en (taken_at E.en st) (by decide), exec_ret]
 rw [HX.out]
 have CN := hide (next_is E st w h)
 have HPB := hide h.lt
 clear HX h
 obtain ⟨fin, hfin⟩ : ∃ fin, faulted (taken E.en st).1 (if wd (taken E.en st).1.k (taken E.en st).1.s = x then 0 else 4) (taken E.en st).2 = fin := ⟨_, rfl⟩
 rw [hfin]
 have HFIN := hide hfin
 clear hfin
 generalize (taken E.en st).2 = st1 at *
 generalize (taken E.en st).1 = t at *
 have CF := hide (fault_is E st1 t 4)
 have CW := hide (word_is t)
 obtain ⟨W0, pb, en⟩ := E
 obtain ⟨tk, tt, tp, tq⟩ := t
 simp only [Tv.val] at *
 go_enter Tryz.func97, Tryz.ntmps97
 go_wp2_with fail
 refine CN.out.mono ?_
 rintro e w1 ⟨rfl, b1, p1⟩
 have P1 := hide (p1.alloc (.cells #[.int .i64 tk, .string tt, .int .i64 tp, .int .i64 tq] 95))
 have B1 := hide (b1.alloc (.cells #[.int .i64 tk, .string tt, .int .i64 tp, .int .i64 tq] 95))
 have N1 := hide (heap_new w1 #[.int .i64 tk, .string tt, .int .i64 tp, .int .i64 tq] 95)
 have HNE : Hid (w1.heap.size ≠ pb) := by have h9 := HPB.out; have h8 := b1.size; show _ ≠ _; omega
 clear b1 p1 CN
 go_upto_region 1 with fail
 obtain ⟨tb, htb⟩ : ∃ tb, w1.heap.size = tb := ⟨_, rfl⟩
 rw [htb] at N1 HNE ⊢
 generalize w1.alloc (.cells #[.int .i64 tk, .string tt, .int .i64 tp, .int .i64 tq] 95) = W1 at *
 clear htb
 obtain ⟨⟨c0, c1, c2, c3⟩, _⟩ := four_cells N1.out
 go_wp2_with fail
 refine (CW.out _).mono ?_
 rintro e w2 ⟨rfl, b2⟩
 have P2 := hide (P1.out.below b2)
 have B2 := hide (B1.out.trans (But.of b2))
 have N2 := hide ((b2.block tb (heap_lt N1.out)).trans N1.out)
 clear b2 CW c0 c1 c2 c3 P1 B1 N1
 obtain ⟨⟨c0, c1, c2, c3⟩, _⟩ := four_cells N2.out
 by_cases hc : wd tk tt = x
 ·
  have hb := beq_tl (wd tk tt) x
  rw [decide_eq_true hc] at hb
  go_wp2_with fail
  go_end0
  refine ⟨rfl, B2.out, ?_⟩
  rw [← HFIN.out, if_pos hc, faulted_zero]
  exact P2.out
 have hb := beq_tl (wd tk tt) x
 rw [decide_eq_false hc] at hb
 go_wp2_with fail
 refine (CF.out _ P2.out).mono ?_
 rintro e w3 ⟨rfl, b3, p3⟩
 go_wp2_with fail
 go_end0
 refine ⟨rfl, B2.out.trans b3, ?_⟩
 rw [← HFIN.out, if_neg hc]
 exact p3
set_option maxHeartbeats 2000000 in
set_option maxRecDepth 100000 in
theorem room_is (E : En) (st : Sta) (t : Tv) (n m : Nat) (w : World) (h : Ps E w st) : Calls Tryz.prog 40 #[.pointer (some ⟨E.pb, 0, none⟩), t.val, .int .i64 (n : Int), .int .i64 (m : Int)] w fun r w' => r = .returned (.tuple #[]) ∧ But (but1 E.pb) w w' ∧ Ps E w' (faulted t (if m ≤ n then 2 else 0) st) := by
 obtain ⟨fin, hfin⟩ : ∃ fin, faulted t (if m ≤ n then 2 else 0) st = fin := ⟨_, rfl⟩
 rw [hfin]
 have HFIN := hide hfin
 clear hfin
 have CF := hide (fault_is E st t 2)
 have HPB := hide h.lt
 have P0 := hide (h.alloc (.cells #[.int .i64 t.k, .string t.s, .int .i64 t.p, .int .i64 t.q] 95))
 have B0 := hide (But.of (S := but1 E.pb) (balloc (brefl w) (.cells #[.int .i64 t.k, .string t.s, .int .i64 t.p, .int .i64 t.q] 95)))
 have N0 := hide (heap_new w #[.int .i64 t.k, .string t.s, .int .i64 t.p, .int .i64 t.q] 95)
 have HNE : Hid (w.heap.size ≠ E.pb) := by have h9 := HPB.out; show _ ≠ _; omega
 have HSZ : Hid (w.heap.size ≤ w.heap.size) := Nat.le_refl _
 obtain ⟨W0, pb, en⟩ := E
 obtain ⟨tk, tt, tp, tq⟩ := t
 simp only [Tv.val] at *
 clear h
 go_enter Tryz.func40, Tryz.ntmps40
 go_upto_region 1 with fail
 obtain ⟨tb, htb⟩ : ∃ tb, w.heap.size = tb := ⟨_, rfl⟩
 rw [htb] at N0 HNE ⊢
 generalize w.alloc (.cells #[.int .i64 tk, .string tt, .int .i64 tp, .int .i64 tq] 95) = W at *
 clear htb
 obtain ⟨⟨c0, c1, c2, c3⟩, _⟩ := four_cells N0.out
 by_cases hc : m ≤ n
 ·
  have hc' : (m : Int) ≤ (n : Int) := by omega
  go_wp2_with fail
  refine (CF.out _ P0.out).mono ?_
  rintro e w3 ⟨rfl, b3, p3⟩
  go_wp2_with fail
  go_end0
  refine ⟨rfl, B0.out.trans b3, ?_⟩
  rw [← HFIN.out, if_pos hc]
  exact p3
 have hc' : ¬ (m : Int) ≤ (n : Int) := by omega
 go_wp2_with fail
 go_end0
 refine ⟨rfl, B0.out, ?_⟩
 rw [← HFIN.out, if_neg hc, faulted_zero]
 exact P0.out
set_option maxHeartbeats 2000000 in
set_option maxRecDepth 100000 in
theorem number_is {T : World → Prop} {F : Fn} (K : Kit12 T F) (E : En) (st : Sta) (t : Tv) (a b : Int) (w : World) (h : Ps E w st) (hT : T E.w0) (hz : t.s.size ≤ 1000) : Calls Tryz.prog 67 #[.pointer (some ⟨E.pb, 0, none⟩), t.val, .int .i64 a, .int .i64 b] w fun r w' => r = .returned (.int .i64 (F.num (wd t.k t.s) a b).1) ∧ But (but1 E.pb) w w' ∧ Ps E w' (faulted t (F.num (wd t.k t.s) a b).2 st) := by
 have CF := hide (fault_is E st t (F.num (wd t.k t.s) a b).2)
 have CW := hide (word_is t)
 have CK := hide (fun w hw => K.num (wd t.k t.s) a b (wd_size hz) E.w0 w hT hw)
 clear hT hz
 have HPB := hide h.lt
 have P0 := hide (h.alloc (.cells #[.int .i64 t.k, .string t.s, .int .i64 t.p, .int .i64 t.q] 95))
 have B0 := hide (But.of (S := but1 E.pb) (balloc (brefl w) (.cells #[.int .i64 t.k, .string t.s, .int .i64 t.p, .int .i64 t.q] 95)))
 have N0 := hide (heap_new w #[.int .i64 t.k, .string t.s, .int .i64 t.p, .int .i64 t.q] 95)
 have HNE : Hid (w.heap.size ≠ E.pb) := by have h9 := HPB.out; show _ ≠ _; omega
 have HSZ : Hid (w.heap.size ≤ w.heap.size) := Nat.le_refl _
 obtain ⟨W0, pb, en⟩ := E
 obtain ⟨tk, tt, tp, tq⟩ := t
 simp only [Tv.val] at *
 clear h
 go_enter Tryz.func67, Tryz.ntmps67
 go_upto_region 1 with fail
 obtain ⟨tb, htb⟩ : ∃ tb, w.heap.size = tb := ⟨_, rfl⟩
 rw [htb] at N0 HNE ⊢
 generalize w.alloc (.cells #[.int .i64 tk, .string tt, .int .i64 tp, .int .i64 tq] 95) = W at *
 clear htb
 obtain ⟨⟨c0, c1, c2, c3⟩, _⟩ := four_cells N0.out
 go_wp2_with fail
 refine (CW.out _).mono ?_
 rintro e w1 ⟨rfl, b1⟩
 have P1 := hide (P0.out.below b1)
 have B1 := hide (B0.out.trans (But.of b1))
 have N1 := hide ((b1.block tb (heap_lt N0.out)).trans N0.out)
 clear b1 CW c0 c1 c2 c3 P0 B0 N0
 go_wp2_with fail
 refine (CK.out _ P1.out.1).mono ?_
 rintro e w2 ⟨rfl, b2⟩
 have P2 := hide (P1.out.below b2)
 have B2 := hide (B1.out.trans (But.of b2))
 have N2 := hide ((b2.block tb (heap_lt N1.out)).trans N1.out)
 clear b2 CK P1 B1 N1
 obtain ⟨⟨c0, c1, c2, c3⟩, _⟩ := four_cells N2.out
 go_wp2_with fail
 refine (CF.out _ P2.out).mono ?_
 rintro e w3 ⟨rfl, b3, p3⟩
 have P3 := hide p3
 have B3 := hide (B2.out.trans b3)
 have N3 := hide (b3.keep N2.out HNE.out)
 clear b3 p3 CF c0 c1 c2 c3 P2 B2 N2
 go_wp2_with fail
 go_ret
 exact ⟨rfl, B3.out, P3.out⟩
set_option maxHeartbeats 2000000 in
set_option maxRecDepth 100000 in
theorem as_is {T : World → Prop} {F : Fn} (K : Kit12 T F) (E : En) (st : Sta) (t : Tv) (w : World) (h : Ps E w st) (hT : T E.w0) (hz : t.s.size ≤ 1000) : Calls Tryz.prog 71 #[.pointer (some ⟨E.pb, 0, none⟩), t.val] w fun r w' => r = .returned (.int .i64 (F.num (wd t.k t.s) 1 65535).1) ∧ But (but1 E.pb) w w' ∧ Ps E w' (faulted t (F.num (wd t.k t.s) 1 65535).2 st) := by
 have CK := hide (fun w hw => number_is K E st t 1 65535 w hw hT hz)
 clear hT hz
 have HPB := hide h.lt
 have P0 := hide (h.alloc (.cells #[.int .i64 t.k, .string t.s, .int .i64 t.p, .int .i64 t.q] 95))
 have B0 := hide (But.of (S := but1 E.pb) (balloc (brefl w) (.cells #[.int .i64 t.k, .string t.s, .int .i64 t.p, .int .i64 t.q] 95)))
 have N0 := hide (heap_new w #[.int .i64 t.k, .string t.s, .int .i64 t.p, .int .i64 t.q] 95)
 have HNE : Hid (w.heap.size ≠ E.pb) := by have h9 := HPB.out; show _ ≠ _; omega
 have HSZ : Hid (w.heap.size ≤ w.heap.size) := Nat.le_refl _
 obtain ⟨W0, pb, en⟩ := E
 obtain ⟨tk, tt, tp, tq⟩ := t
 simp only [Tv.val] at *
 clear h
 go_enter Tryz.func71, Tryz.ntmps71
 go_upto_region 1 with fail
 obtain ⟨tb, htb⟩ : ∃ tb, w.heap.size = tb := ⟨_, rfl⟩
 rw [htb] at N0 HNE ⊢
 generalize w.alloc (.cells #[.int .i64 tk, .string tt, .int .i64 tp, .int .i64 tq] 95) = W at *
 clear htb
 obtain ⟨⟨c0, c1, c2, c3⟩, _⟩ := four_cells N0.out
 go_wp2_with fail
 refine (CK.out _ P0.out).mono ?_
 rintro e w1 ⟨rfl, b1, p1⟩
 go_wp2_with fail
 go_ret
 exact ⟨rfl, B0.out.trans b1, p1⟩
end Go.Proofs.YtnadhplhnfpeaaaGreatDoor
