/- The contracts of a heap's New, Len, Rank, First, Drop, Pop. -/
import Derived.Test.YtkfomjinilmjaaaHj
namespace Go.Proofs.Ytkfomjinilmjaaa
open Go.RowKit Go.Maps

/-- A heap: its rows in the order in which they were set. -/
def Hp (lt : Int → Int → Bool) (w : World) (h f : Nat) (L : List RwS) (T : Int) (ao : Option Addr) (m : Nat) : Prop :=
  ∃ (R : List RwS) (φ : ByteArray → Option Nat) (cap : Nat) (U : Int), Hm w h f R T φ ao cap m R.length ∧ Idx R φ ∧ Gs lt R L U
section
variable {lt : Int → Int → Bool} {w w' : World} {h f : Nat} {L : List RwS} {T : Int} {ao : Option Addr} {m : Nat}
theorem Hp.old (H : Hp lt w h f L T ao m) : ∀ b, Own h m ao b → b < w.heap.size := by
  obtain ⟨R, φ, cap, U, H, _, _⟩ := H
  exact H.lt
theorem Hp.kept (H : Hp lt w h f L T ao m) (hb : ∀ b, Own h m ao b → w'.heap[b]? = w.heap[b]?) : Hp lt w' h f L T ao m := by
  obtain ⟨R, φ, cap, U, H, h2, h3⟩ := H
  exact ⟨R, φ, cap, U, H.kept hb, h2, h3⟩
theorem Hp.below (H : Hp lt w h f L T ao m) (hb : Below w.heap.size w w') : Hp lt w' h f L T ao m := H.kept fun b hb' => hb.block b (H.old b hb')
theorem Hp.once (H : Hp lt w h f L T ao m) : Once L := by
  obtain ⟨R, φ, cap, U, _, h2, h3⟩ := H
  exact h3.once h2
theorem Hp.turn (H : Hp lt w h f L T ao m) : L.Pairwise fun a b => a.t < b.t := by
  obtain ⟨R, φ, cap, U, _, _, h3⟩ := H
  exact h3.turn
theorem Gs.top_any {R : List RwS} (G : Gs lt R L T) {T' : Int} (hT : ∀ x ∈ L, x.t ≤ T') : Gs lt R L T' := ⟨G.ho, G.len, G.mem, G.turn, hT⟩
theorem Hp.sm (H : Hp lt w h f L T ao m) : ∀ x ∈ L, x.k.size ≤ 200 := by
  obtain ⟨R, φ, cap, U, h1, _, h3⟩ := H
  exact fun x hx => h1.sm x ((h3.mem x).2 hx)
/-- The row of a key. -/
def rowOf (L : List RwS) (k : ByteArray) : Option RwS := L.find? fun x => decide (x.k = k)
theorem rowOf_some {x : RwS} {k : ByteArray} (h : rowOf L k = some x) : x ∈ L ∧ x.k = k := ⟨List.mem_of_find?_eq_some h, by simpa using List.find?_some h⟩
theorem rowOf_none {k : ByteArray} : rowOf L k = none ↔ ∀ x ∈ L, x.k ≠ k := by simp [rowOf, List.find?_eq_none]
theorem rowOf_mem {x : RwS} (ho : Once L) (hx : x ∈ L) : rowOf L x.k = some x := by
  cases e : rowOf L x.k with
  | none => exact absurd rfl (rowOf_none.1 e x hx)
  | some y =>
    obtain ⟨hy, hk⟩ := rowOf_some e
    obtain ⟨i, hi⟩ := List.mem_iff_getElem?.1 hx
    obtain ⟨j, hj⟩ := List.mem_iff_getElem?.1 hy
    have := ho j i y x hj hi hk
    subst this
    rw [hi, Option.some.injEq] at hj
    rw [hj]
/-- Where the map has a key. -/
theorem idx_row {R : List RwS} {φ : ByteArray → Option Nat} (hI : Idx R φ) (hG : Gs lt R L T) (k : ByteArray) : match φ k with | some i => ∃ a, R[i]? = some a ∧ rowOf L k = some a | none => rowOf L k = none := by
  cases e : φ k with
  | some i =>
    obtain ⟨a, ha, hk⟩ := hI.2 k i e
    refine ⟨a, ha, ?_⟩
    rw [← hk]
    exact rowOf_mem (hG.once hI) ((hG.mem a).1 (List.mem_iff_getElem?.2 ⟨i, ha⟩))
  | none =>
    rw [rowOf_none]
    intro x hx hk
    obtain ⟨i, hi⟩ := List.mem_iff_getElem?.1 ((hG.mem x).2 hx)
    rw [← hk, hI.1 i x hi] at e
    cases e
theorem len_is (H : Hp lt w h f L T ao m) (_hn : L.length ≤ 1000) : Calls Try.prog 20 #[.pointer (some ⟨h, 0, none⟩)] w fun e w' => e = .returned (.int .i64 (L.length : Nat)) ∧ w' = w := by
  obtain ⟨R, φ, cap, U, H, _, G⟩ := H
  obtain ⟨c0, c1, c2, c3, _⟩ := four_cells H.top
  rw [G.len] at c1
  clear H G
  go_enter Try.func20, Try.ntmps20
  go_wp2_with fail
  go_ret
  exact ⟨rfl, rfl⟩
theorem len_nil (w : World) : Calls Try.prog 20 #[.pointer none] w fun e w' => e = .returned (.int .i64 0) ∧ w' = w := by
  go_enter Try.func20, Try.ntmps20
  go_wp2_with fail
  go_ret
  exact ⟨rfl, rfl⟩
set_option maxRecDepth 100000 in
theorem rank_is (H : Hp lt w h f L T ao m) (hn : L.length ≤ 1000) {k : ByteArray} (hk : k.size ≤ 200) :
    Calls Try.prog 21 #[.pointer (some ⟨h, 0, none⟩), .string k] w fun e w' => e = .returned (.tuple #[.int .i64 (match rowOf L k with | some a => a.r | none => 0), .bool (rowOf L k).isSome]) ∧ w' = w := by
  obtain ⟨R, φ, cap, U, H, hI, G⟩ := H
  have CF := hide (find_is H hk)
  have hrow := idx_row hI G k
  obtain ⟨c0, c1, c2, c3, _⟩ := four_cells H.top
  cases e : φ k with
  | none =>
    rw [e] at hrow CF
    simp only at hrow
    rw [hrow]
    simp only [Option.getD_none, Option.isSome_none] at CF ⊢
    clear H hI G hrow e
    go_enter Try.func21, Try.ntmps21
    go_wp2_with fail
    refine CF.out.mono ?_
    rintro e w1 ⟨rfl, hw⟩
    subst hw
    go_wp2_with fail
    go_ret2
    exact ⟨rfl, rfl⟩
  | some i =>
    rw [e] at hrow CF
    obtain ⟨a, ha, hr⟩ := hrow
    rw [hr]
    simp only [Option.getD_some, Option.isSome_some] at CF ⊢
    obtain ⟨g, rfl, a0, a1, a2, _⟩ := H.at ha
    have hil : (i : Int) < (R.length : Int) := by have := get_lt ha; omega
    have hi2 : R.length ≤ 1000 := by rw [G.len]; exact hn
    clear H hI G ha hr e
    go_enter Try.func21, Try.ntmps21
    go_wp2_with fail
    refine CF.out.mono ?_
    rintro e w1 ⟨rfl, hw⟩
    have hw' := hw.symm
    clear hw
    subst hw'
    go_wp2_with fail
    go_ret2
    exact ⟨rfl, rfl⟩
/-- What Drop hands back. -/
def Dropped (lt : Int → Int → Bool) (w : World) (h f : Nat) (L : List RwS) (T : Int) (ao : Option Addr) (m : Nat) (k : ByteArray) (e : Ending) (w' : World) : Prop :=
  e = .returned (.bool (rowOf L k).isSome) ∧ Hp lt w' h f (without L k) T ao m ∧ Keep (Own h m ao) w w'
set_option maxRecDepth 100000 in
theorem drop_is (O : Ords lt) (LI : LessIs f lt) (H : Hp lt w h f L T ao m) (hn : L.length ≤ 1000) {k : ByteArray} (hk : k.size ≤ 200) :
    Calls Try.prog 15 #[.pointer (some ⟨h, 0, none⟩), .string k] w (Dropped lt w h f L T ao m k) := by
  have H0 := hide H
  obtain ⟨R, φ, cap, U, H, hI, G⟩ := H
  have CF := hide (find_is H hk)
  have hrow := idx_row hI G k
  cases e : φ k with
  | none =>
    rw [e] at hrow CF
    simp only at hrow
    simp only [Option.getD_none, Option.isSome_none] at CF
    have HE : Hid ((rowOf L k).isSome = false) := by show _ = _; rw [hrow]; rfl
    have HW : Hid (without L k = L) := without_no (rowOf_none.1 hrow)
    clear H hI G hrow e
    go_enter Try.func15, Try.ntmps15
    go_wp2_with fail
    refine CF.out.mono ?_
    rintro e w1 ⟨rfl, hw⟩
    subst hw
    go_wp2_with fail
    go_ret
    exact ⟨by rw [HE.out]; rfl, by rw [HW.out]; exact H0.out, Keep.refl _ _⟩
  | some i =>
    rw [e] at hrow CF
    obtain ⟨a, ha, hr⟩ := hrow
    simp only [Option.getD_some, Option.isSome_some] at CF
    have HE : Hid ((rowOf L k).isSome = true) := by show _ = _; rw [hr]; rfl
    have hak : a.k = k := (rowOf_some hr).2
    have CT : Hid (Calls Try.prog 39 #[.pointer (some ⟨h, 0, none⟩), .int .i64 i] w fun e w' => ∃ v, e = .returned v ∧ Hp lt w' h f (without L k) T ao m ∧ Keep (Own h m ao) w w') := (take_is O LI H hI G.ho ha (by rw [G.len]; exact hn)).mono fun e w' ⟨he, R', φ', h1, h2, h3, h4, h5, h6⟩ => ⟨_, he, ⟨R', φ', cap, U, h1, h2, by rw [← hak]; exact G.take hI ha h3 h4 h5⟩, h6⟩
    clear H hI G ha hr e hak
    go_enter Try.func15, Try.ntmps15
    go_wp2_with fail
    refine CF.out.mono ?_
    rintro e w1 ⟨rfl, hw⟩
    have hw' := hw.symm
    clear hw
    subst hw'
    go_wp2_with fail
    refine CT.out.mono ?_
    rintro e w2 ⟨v, rfl, h2, k2⟩
    have H2 := hide h2
    have K2 := hide k2
    clear h2 k2
    go_wp2_with fail
    go_ret
    exact ⟨by rw [HE.out]; rfl, H2.out, K2.out⟩
/-- What Pop hands back. -/
def Popped (lt : Int → Int → Bool) (w : World) (h f : Nat) (L : List RwS) (T : Int) (ao : Option Addr) (m : Nat) (e : Ending) (w' : World) : Prop :=
  (L = [] ∧ e = .returned (.tuple #[.string ⟨#[]⟩, .int .i64 0, .bool false]) ∧ w' = w) ∨ ∃ x : RwS, Fst lt L x ∧ e = .returned (.tuple #[.string x.k, .int .i64 x.r, .bool true]) ∧ Hp lt w' h f (without L x.k) T ao m ∧ Keep (Own h m ao) w w'
set_option maxHeartbeats 1000000 in
set_option maxRecDepth 100000 in
theorem pop_is (O : Ords lt) (LI : LessIs f lt) (H : Hp lt w h f L T ao m) (hn : L.length ≤ 1000) :
    Calls Try.prog 16 #[.pointer (some ⟨h, 0, none⟩)] w (Popped lt w h f L T ao m) := by
  have CL := hide (len_is H hn)
  obtain ⟨R, φ, cap, U, H, hI, G⟩ := H
  by_cases hL : L = []
  · rw [hL] at CL
    simp only [List.length_nil] at CL
    clear H hI G
    go_enter Try.func16, Try.ntmps16
    go_wp2_with fail
    refine CL.out.mono ?_
    rintro e w1 ⟨rfl, hw⟩
    have hw' := hw.symm
    clear hw
    subst hw'
    go_wp2_with fail
    exact bodyPost_ret (v := .tuple #[.string ⟨#[]⟩, .int .i64 0, .bool false]) (by simp [results, Try.results16, go_sem]) rfl (.inl ⟨hL, rfl, rfl⟩)
  · obtain ⟨n, hn'⟩ : ∃ n, L.length = n + 1 := ⟨L.length - 1, by have := List.length_pos_iff.2 hL; omega⟩
    rw [hn'] at CL
    obtain ⟨x, hx⟩ : ∃ x, R[0]? = some x := ⟨_, List.getElem?_eq_getElem (by rw [G.len]; omega)⟩
    have HF := hide (G.first O hx)
    have CT : Hid (Calls Try.prog 39 #[.pointer (some ⟨h, 0, none⟩), .int .i64 (0 : Nat)] w fun e w' => e = .returned (.agg #[.string x.k, .int .i64 x.r, .int .i64 x.t]) ∧ Hp lt w' h f (without L x.k) T ao m ∧ Keep (Own h m ao) w w') := (take_is O LI H hI G.ho hx (by rw [G.len]; exact hn)).mono fun e w' ⟨he, R', φ', h1, h2, h3, h4, h5, h6⟩ => ⟨he, ⟨R', φ', cap, U, h1, h2, G.take hI hx h3 h4 h5⟩, h6⟩
    simp only [Int.cast_ofNat_Int] at CT
    have hne : (((n + 1 : Nat) : Int) == 0) = false := by simp; omega
    have hn1 : n ≤ 1000 := by omega
    clear H hI G hL hn' hx
    obtain ⟨xk, xr, xt⟩ := x
    simp only at CT HF
    go_enter Try.func16, Try.ntmps16
    go_wp2_with fail
    refine CL.out.mono ?_
    rintro e w1 ⟨rfl, hw⟩
    have hw' := hw.symm
    clear hw
    subst hw'
    go_wp2_with fail
    refine CT.out.mono ?_
    rintro e w2 ⟨rfl, h2, k2⟩
    have H2 := hide h2
    have K2 := hide k2
    clear h2 k2
    go_wp2_with fail
    have H3 := hide (H2.out.below (balloc (brefl w2) (.cells #[.string xk, .int .i64 xr, .int .i64 xt] 70)).drew)
    have K3 := hide (K2.out.then (balloc (brefl w2) (.cells #[.string xk, .int .i64 xr, .int .i64 xt] 70)).drew)
    clear H2 K2
    go_region
    go_wp2_with fail
    exact bodyPost_ret (v := .tuple #[.string xk, .int .i64 xr, .bool true]) (by simp [results, Try.results16, go_sem]) rfl (.inr ⟨⟨xk, xr, xt⟩, HF.out, rfl, H3.out, K3.out⟩)
/-- What First hands back. -/
def Firsts (lt : Int → Int → Bool) (w : World) (L : List RwS) (e : Ending) (w' : World) : Prop :=
  ((L = [] ∧ e = .returned (.tuple #[.string ⟨#[]⟩, .int .i64 0, .bool false])) ∨ ∃ x : RwS, Fst lt L x ∧ e = .returned (.tuple #[.string x.k, .int .i64 x.r, .bool true])) ∧ Below w.heap.size w w'
set_option maxHeartbeats 1000000 in
set_option maxRecDepth 100000 in
theorem first_is (O : Ords lt) (H : Hp lt w h f L T ao m) (hn : L.length ≤ 1000) :
    Calls Try.prog 28 #[.pointer (some ⟨h, 0, none⟩)] w (Firsts lt w L) := by
  have CL := hide (len_is H hn)
  obtain ⟨R, φ, cap, U, H, hI, G⟩ := H
  by_cases hL : L = []
  · rw [hL] at CL
    simp only [List.length_nil] at CL
    clear H hI G
    go_enter Try.func28, Try.ntmps28
    go_wp2_with fail
    refine CL.out.mono ?_
    rintro e w1 ⟨rfl, hw⟩
    have hw' := hw.symm
    clear hw
    subst hw'
    go_wp2_with fail
    exact bodyPost_ret (v := .tuple #[.string ⟨#[]⟩, .int .i64 0, .bool false]) (by simp [results, Try.results28, go_sem]) rfl ⟨.inl ⟨hL, rfl⟩, brefl _⟩
  · obtain ⟨n, hn'⟩ : ∃ n, L.length = n + 1 := ⟨L.length - 1, by have := List.length_pos_iff.2 hL; omega⟩
    rw [hn'] at CL
    obtain ⟨x, hx⟩ : ∃ x, R[0]? = some x := ⟨_, List.getElem?_eq_getElem (by rw [G.len]; omega)⟩
    have HF := hide (G.first O hx)
    have hne : (((n + 1 : Nat) : Int) == 0) = false := by simp; omega
    have hn1 : n ≤ 1000 := by omega
    obtain ⟨c0, c1, c2, c3, _⟩ := four_cells H.top
    obtain ⟨g, rfl, a0, a1, a2, _⟩ := H.at hx
    rw [G.len, hn'] at c1
    simp only [Nat.zero_mul, Nat.zero_add] at a0 a1 a2
    clear H hI G hL hn' hx
    obtain ⟨xk, xr, xt⟩ := x
    simp only at HF a0 a1 a2
    go_enter Try.func28, Try.ntmps28
    go_wp2_with fail
    refine CL.out.mono ?_
    rintro e w1 ⟨rfl, hw⟩
    have hw' := hw.symm
    clear hw
    subst hw'
    go_wp2_with fail
    go_region
    go_wp2_with fail
    exact bodyPost_ret (v := .tuple #[.string xk, .int .i64 xr, .bool true]) (by simp [results, Try.results28, go_sem]) rfl ⟨.inr ⟨⟨xk, xr, xt⟩, HF.out, rfl⟩, (brefl w).drew⟩
end
end Go.Proofs.Ytkfomjinilmjaaa
