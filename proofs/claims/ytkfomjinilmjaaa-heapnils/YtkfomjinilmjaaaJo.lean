/- The contract of Pop, of two numbers by texts: of a heap with keys. -/
import Derived.Test.YtkfomjinilmjaaaJn
namespace Go.Proofs.Ytkfomjinilmjaaa
open Go.RowKit Go.Maps

section
variable {lt : ByteArray → ByteArray → Bool} {w w' : World} {h f : Nat} {R L : List RwP} {T : Int} {φ : Int × Int → Option Nat} {ao ao' : Option Addr} {cap cap' m n : Nat}
/-- What Pop hands back. -/
def Popped2 (lt : ByteArray → ByteArray → Bool) (w : World) (h f : Nat) (L : List RwP) (T : Int) (ao : Option Addr) (m : Nat) (e : Ending) (w' : World) : Prop :=
  ∃ x : RwP, Fst lt L x ∧ e = .returned (.tuple #[.agg #[.int .i64 x.k.1, .int .i64 x.k.2], .string x.r, .bool true]) ∧ Hp2 lt w' h f (without L x.k) T ao m ∧ Keep (Own h m ao) w w'
set_option maxHeartbeats 1000000 in
set_option maxRecDepth 100000 in
theorem pop2_is (O : Ords lt) (LI : LessIs2 f lt) (H : Hp2 lt w h f L T ao m) (hn : L.length ≤ 1000) (hL : L ≠ []) :
    Calls Try.prog 33 #[.pointer (some ⟨h, 0, none⟩)] w (Popped2 lt w h f L T ao m) := by
  have HB0 := hide (balloc (brefl w) (.cells #[.int .i64 0, .int .i64 0] 58))
  have N0 := hide (heap_alloc_new w (.cells #[.int .i64 0, .int .i64 0] 58))
  have HOld := hide H.old
  have H0 := hide (H.below HB0.out)
  clear H
  have CL := hide (len2_is H0.out hn)
  obtain ⟨n, hn'⟩ : ∃ n, L.length = n + 1 := ⟨L.length - 1, by have := List.length_pos_iff.2 hL; omega⟩
  rw [hn'] at CL
  have hne : (((n + 1 : Nat) : Int) == 0) = false := by simp; omega
  have hn1 : n ≤ 1000 := by omega
  have HN' := hide hn'
  have HN := hide hn
  clear hL hn' hn
  go_enter Try.func33, Try.ntmps33
  go_wp2_with fail
  generalize w.alloc (.cells #[.int .i64 0, .int .i64 0] 58) = W0 at *
  obtain ⟨p, hp⟩ : ∃ p, w.heap.size = p := ⟨_, rfl⟩
  rw [hp] at N0
  have HP := hide hp
  rw [hp]
  clear hp
  refine CL.out.mono ?_
  rintro e w1 ⟨rfl, hw⟩
  have hw' := hw.symm
  clear hw
  subst hw'
  have hH := H0.out
  obtain ⟨R, φ, cap, U, H, hI, G⟩ := hH
  obtain ⟨x, hx⟩ : ∃ x, R[0]? = some x := ⟨_, List.getElem?_eq_getElem (by rw [G.len, HN'.out]; omega)⟩
  have HF := hide (G.first O hx)
  have CT : Hid (Calls Try.prog 47 #[.pointer (some ⟨h, 0, none⟩), .int .i64 (0 : Nat)] W0 fun e w' => e = .returned (.agg #[.int .i64 x.k.1, .int .i64 x.k.2, .string x.r, .int .i64 x.t]) ∧ Hp2 lt w' h f (without L x.k) T ao m ∧ Keep (Own h m ao) W0 w') := (take2_is O LI H hI G.ho hx (by rw [G.len]; exact HN.out)).mono fun e w' ⟨he, R', φ', h1, h2, h3, h4, h5, h6⟩ => ⟨he, ⟨R', φ', cap, U, h1, h2, G.take hI hx h3 h4 h5⟩, h6⟩
  simp only [Int.cast_ofNat_Int] at CT
  clear H hI G hx CL H0
  obtain ⟨⟨xk, xk2⟩, xr, xt⟩ := x
  simp only at CT HF
  go_wp2_with fail
  refine CT.out.mono ?_
  rintro e w2 ⟨rfl, h2, k2⟩
  have H2 := hide h2
  have K2 := hide ((Keep.of (S := Own h m ao) HB0.out).trans k2)
  have N2 := hide ((k2.block p (fun e => by have := HOld.out _ e; have := HP.out; omega) (lt_of_block N0.out)).trans N0.out)
  clear h2 k2 CT N0 HB0
  go_wp2_with fail
  have HB3 := hide (balloc (brefl w2) (.cells #[.int .i64 xk, .int .i64 xk2, .string xr, .int .i64 xt] 82))
  have H3 := hide (H2.out.below HB3.out.drew)
  have K3 := hide (K2.out.then HB3.out.drew)
  have N3 := hide (heap_alloc_new w2 (.cells #[.int .i64 xk, .int .i64 xk2, .string xr, .int .i64 xt] 82))
  have P3 := hide ((HB3.out.block p (lt_of_block N2.out)).trans N2.out)
  have hpq : p ≠ w2.heap.size := Nat.ne_of_lt (lt_of_block N2.out)
  have HOw : Hid (∀ b, Own h m ao b → b ≠ p) := fun b hb e => by subst e; have := HOld.out _ hb; have := HP.out; omega
  clear H2 K2 N2 HB3
  generalize w2.alloc (.cells #[.int .i64 xk, .int .i64 xk2, .string xr, .int .i64 xt] 82) = W3 at *
  generalize w2.heap.size = q at *
  obtain ⟨c0, c1, c2, c3, _⟩ := four_cells N3.out
  obtain ⟨p0, p1⟩ := two_cells P3.out
  have pf0 := frozen_of_row W3 p 0 _ 58 P3.out
  have pf1 := frozen_of_row W3 p 1 _ 58 P3.out
  refine wp_region_held_drew (S := fun w' => w'.cell? ⟨q, 0, none⟩ = some (.int .i64 xk) ∧ w'.cell? ⟨q, 1, none⟩ = some (.int .i64 xk2) ∧ w'.cell? ⟨q, 2, none⟩ = some (.string xr)) (by kernel_rfl) ⟨c0, c1, c2⟩ (fun hHeld => ?_)
  refine wpAnyH_take (i := 0) (v := .pointer (some ⟨q, 0, none⟩)) rfl (by kernel_rfl) (by kernel_rfl) (by kernel_rfl) (fun _ _ _ h => h) (Or.inl ⟨by rfl, fun w hSw => by dsimp only at hSw; go_simp⟩) hHeld ?_
  simp only [Act.put, List.getElem_toArray, List.getElem_cons_zero, List.setIfInBounds_toArray, List.set_cons_zero, List.set_cons_succ]
  refine wpAnyH_take (i := 1) (v := .agg #[.int .i64 xk, .int .i64 xk2]) rfl (by kernel_rfl) (by kernel_rfl) (by kernel_rfl) (fun _ _ _ h => h) (Or.inl ⟨by rfl, fun w hSw => by dsimp only at hSw; go_simp⟩) hHeld ?_
  simp only [Act.put, List.getElem_toArray, List.getElem_cons_zero, List.getElem_cons_succ, List.setIfInBounds_toArray, List.set_cons_zero, List.set_cons_succ]
  refine wpAnyH_take (i := 2) (v := .pointer (some ⟨q, 2, none⟩)) rfl (by kernel_rfl) (by kernel_rfl) (by kernel_rfl) (fun _ _ _ h => h) (Or.inl ⟨by rfl, fun w hSw => by dsimp only at hSw; go_simp⟩) hHeld ?_
  simp only [Act.put, List.getElem_toArray, List.getElem_cons_zero, List.getElem_cons_succ, List.setIfInBounds_toArray, List.set_cons_zero, List.set_cons_succ]
  refine wpAnyH_take (i := 3) (v := .string xr) rfl (by kernel_rfl) (by kernel_rfl) (by kernel_rfl) (fun _ _ _ h => h) (Or.inl ⟨by rfl, fun w hSw => by dsimp only at hSw; go_simp⟩) hHeld ?_
  simp only [Act.put, List.getElem_toArray, List.getElem_cons_zero, List.getElem_cons_succ, List.setIfInBounds_toArray, List.set_cons_zero, List.set_cons_succ]
  refine wpAnyH_ready (rs := [4]) (by kernel_rfl) (by simp) ?_
  refine AllReadyH.cons rfl (fun K hK => ?_) AllReadyH.nil
  have p0' : W3.drew.cell? ⟨p, 0, none⟩ = some (.int .i64 0) := p0
  have p1' : W3.drew.cell? ⟨p, 1, none⟩ = some (.int .i64 0) := p1
  have pf0' : W3.drew.frozen? ⟨p, 0, none⟩ = false := pf0
  have pf1' : W3.drew.frozen? ⟨p, 1, none⟩ = false := pf1
  go_simp
  have hqp : p ≠ q := hpq
  have q0 : ((W3.setCell ⟨p, 0, none⟩ (.int .i64 xk)).setCell ⟨p, 1, none⟩ (.int .i64 xk2)).drew.cell? ⟨q, 0, none⟩ = some (.int .i64 xk) := ((World.cell?_setCell_far _ _ ⟨q, 0, none⟩ _ hqp).trans (World.cell?_setCell_far _ _ ⟨q, 0, none⟩ _ hqp)).trans c0
  have q1 : ((W3.setCell ⟨p, 0, none⟩ (.int .i64 xk)).setCell ⟨p, 1, none⟩ (.int .i64 xk2)).drew.cell? ⟨q, 1, none⟩ = some (.int .i64 xk2) := ((World.cell?_setCell_far _ _ ⟨q, 1, none⟩ _ hqp).trans (World.cell?_setCell_far _ _ ⟨q, 1, none⟩ _ hqp)).trans c1
  have q2 : ((W3.setCell ⟨p, 0, none⟩ (.int .i64 xk)).setCell ⟨p, 1, none⟩ (.int .i64 xk2)).drew.cell? ⟨q, 2, none⟩ = some (.string xr) := ((World.cell?_setCell_far _ _ ⟨q, 2, none⟩ _ hqp).trans (World.cell?_setCell_far _ _ ⟨q, 2, none⟩ _ hqp)).trans c2
  have N4 : Hid (((W3.setCell ⟨p, 0, none⟩ (.int .i64 xk)).setCell ⟨p, 1, none⟩ (.int .i64 xk2)).drew.heap[p]? = some (.cells #[.int .i64 xk, .int .i64 xk2] 58 (0, 0))) := heap_setCell_same _ p 1 _ 58 (.int .i64 xk2) (heap_setCell_same W3 p 0 _ 58 (.int .i64 xk) P3.out)
  have H4 : Hid (Hp2 lt ((W3.setCell ⟨p, 0, none⟩ (.int .i64 xk)).setCell ⟨p, 1, none⟩ (.int .i64 xk2)).drew h f (without L (xk, xk2)) T ao m) := H3.out.kept fun b hb => (heap_setCell_other _ _ b _ (HOw.out b hb)).trans (heap_setCell_other _ _ b _ (HOw.out b hb))
  have K4 : Hid (Keep (Own h m ao) w ((W3.setCell ⟨p, 0, none⟩ (.int .i64 xk)).setCell ⟨p, 1, none⟩ (.int .i64 xk2)).drew) := ((K3.out.setCell (p := ⟨p, 0, none⟩) (.inr (Nat.le_of_eq HP.out)) _).setCell (p := ⟨p, 1, none⟩) (.inr (Nat.le_of_eq HP.out)) _)
  generalize ((W3.setCell ⟨p, 0, none⟩ (.int .i64 xk)).setCell ⟨p, 1, none⟩ (.int .i64 xk2)).drew = W4 at *
  refine hK.out _ _ ⟨q0, q1, q2⟩ (fun hHeld => ?_)
  clear hK K
  try simp only [Act.put, List.getElem_toArray, List.getElem_cons_zero, List.getElem_cons_succ, List.setIfInBounds_toArray, List.set_cons_zero, List.set_cons_succ]
  refine wpAnyH_take (i := 5) (v := .string xr) rfl (by kernel_rfl) (by kernel_rfl) (by kernel_rfl) (fun _ _ _ h => h) (Or.inl ⟨by rfl, fun w hSw => by dsimp only at hSw; go_simp⟩) hHeld ?_
  simp only [Act.put, List.getElem_toArray, List.getElem_cons_zero, List.getElem_cons_succ, List.setIfInBounds_toArray, List.set_cons_zero, List.set_cons_succ]
  refine wpAnyH_take (i := 6) (v := .bool true) rfl (by kernel_rfl) (by kernel_rfl) (by kernel_rfl) (fun _ _ _ h => h) (Or.inl ⟨by rfl, fun w hSw => by dsimp only at hSw; go_simp⟩) hHeld ?_
  simp only [Act.put, List.getElem_toArray, List.getElem_cons_zero, List.getElem_cons_succ, List.setIfInBounds_toArray, List.set_cons_zero, List.set_cons_succ]
  refine wpAnyH_done (by kernel_rfl) ?_ _
  clear c0 c1 c2 c3 p0 p1 pf0 pf1 p0' p1' pf0' pf1' q0 q1 q2 hHeld H3 K3 N3 P3
  obtain ⟨d0, d1⟩ := two_cells N4.out
  go_wp2_with fail
  refine bodyPost_ret (v := .tuple #[.agg #[.int .i64 xk, .int .i64 xk2], .string xr, .bool true]) ?_ rfl ⟨⟨(xk, xk2), xr, xt⟩, HF.out, rfl, H4.out, K4.out⟩
  simp [results, Try.results33, go_sem, d0, d1]
end
end Go.Proofs.Ytkfomjinilmjaaa
