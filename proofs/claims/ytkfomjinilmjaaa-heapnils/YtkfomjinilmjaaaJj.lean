/- The contract of take, of two numbers by texts. -/
import Derived.Test.YtkfomjinilmjaaaJi
import Derived.Test.YtkfomjinilmjaaaHj
namespace Go.Proofs.Ytkfomjinilmjaaa
open Go.RowKit Go.Maps

section
variable {lt : ByteArray → ByteArray → Bool} {w w' : World} {h f : Nat} {R : List RwP} {T : Int} {φ : Int × Int → Option Nat} {ao : Option Addr} {cap m n : Nat}
theorem Hm2.gone {D : DataW Unit} {k : Int × Int} {n' : Nat} (H : Hm2 w h f R T φ ao cap m n) (hown : w.ownsMap Try.prog 58 (plainElem Try.prog 3) m n D)
    (hl : ∀ k : Int × Int, In64 k → Maps.has D (kl2 k) = (φ k).isSome ∧ ∀ i, φ k = some i → D.atKey (kl2 k) (.lit (.int .i64 0)) = .lit (.int .i64 (i : Nat)))
    (hk : In64 k) (hs : φ k ≠ none) (hn' : n - 1 ≤ n') (h' : w'.ownsMap Try.prog 58 (plainElem Try.prog 3) m n (D.del (kl2 k))) (hg : w.drew.grownBy w' (some m)) : Hm2 w' h f R T (upd φ k none) ao cap m n' := by
  have hb : ∀ b, b ≠ m → b < w.heap.size → w'.heap[b]? = w.heap[b]? := fun b hb hl => hg.block b hl (fun e => hb (Option.some.inj e))
  refine ⟨(hb h H.hm (lt_of_block H.top)).trans H.top, ?_, Mp2.del hown hl hk hs hn' h', H.hm, H.hg, H.sm⟩
  rcases H.row with e | ⟨g, cur, e, h1, r⟩
  · exact .inl e
  · exact .inr ⟨g, cur, e, (hb g (H.hg _ e).2 (lt_of_block h1)).trans h1, r⟩
/-- The last row goes. -/
theorem Hm2.cut {g q : Nat} (H : Hm2 w h f R T φ (some ⟨g, 0, none⟩) cap m n) (hq : R.length = q + 1) : Hm2 ((put4 w g (q * 4) rz2).drew.setCell ⟨h, 1, none⟩ (.slice (some ⟨g, 0, none⟩) q cap)) h f R.dropLast T φ (some ⟨g, 0, none⟩) cap m n := by
  obtain ⟨hgh, hgm⟩ := H.hg _ rfl
  have hl : R.dropLast.length = q := by rw [List.length_dropLast]; omega
  have ht : (put4 w g (q * 4) rz2).drew.heap[h]? = _ := (put4_other w g (q * 4) rz2 h (Ne.symm hgh)).trans H.top
  refine ⟨?_, ?_, H.mp.kept ?_, H.hm, H.hg, fun x hx => H.sm x (mem_dropLast hx)⟩
  · rw [hl]
    exact heap_setCell_same _ h 1 _ 79 (.slice (some ⟨g, 0, none⟩) q cap) ht
  · rcases H.row with ⟨e, _⟩ | ⟨g', cur, e, h1, h2, h3, h4, h5⟩
    · cases e
    · cases e
      refine .inr ⟨g, (((cur.setIfInBounds (q * 4) (.int .i64 rz2.k.1)).setIfInBounds (q * 4 + 1) (.int .i64 rz2.k.2)).setIfInBounds (q * 4 + 2) (.string rz2.r)).setIfInBounds (q * 4 + 3) (.int .i64 rz2.t), rfl, (heap_setCell_other _ _ g _ hgh).trans ?_, by omega, h3, ?_, fun j x hx => ?_⟩
      · show (put4 w g (q * 4) rz2).heap[g]? = _
        unfold put4
        exact heap_setCell_same _ g _ _ 82 _ (heap_setCell_same _ g _ _ 82 _ (heap_setCell_same _ g _ _ 82 _ (heap_setCell_same w g _ _ 82 _ h1)))
      · simp [h4]
      · obtain ⟨hx, hj⟩ := get_dropLast hx
        obtain ⟨e0, e1, e2, e3⟩ := h5 j x hx
        refine ⟨?_, ?_, ?_, ?_⟩
        · rw [Array.getElem?_setIfInBounds_ne (by omega), Array.getElem?_setIfInBounds_ne (by omega), Array.getElem?_setIfInBounds_ne (by omega), Array.getElem?_setIfInBounds_ne (by omega), e0]
        · rw [Array.getElem?_setIfInBounds_ne (by omega), Array.getElem?_setIfInBounds_ne (by omega), Array.getElem?_setIfInBounds_ne (by omega), Array.getElem?_setIfInBounds_ne (by omega), e1]
        · rw [Array.getElem?_setIfInBounds_ne (by omega), Array.getElem?_setIfInBounds_ne (by omega), Array.getElem?_setIfInBounds_ne (by omega), Array.getElem?_setIfInBounds_ne (by omega), e2]
        · rw [Array.getElem?_setIfInBounds_ne (by omega), Array.getElem?_setIfInBounds_ne (by omega), Array.getElem?_setIfInBounds_ne (by omega), Array.getElem?_setIfInBounds_ne (by omega), e3]
  · rw [heap_setCell_other _ _ m _ (Ne.symm H.hm)]
    exact put4_other w g (q * 4) rz2 m (Ne.symm hgm)
/-- What take hands back. -/
def Took2 (lt : ByteArray → ByteArray → Bool) (w : World) (h f : Nat) (T : Int) (ao : Option Addr) (cap m : Nat) (R : List RwP) (a : RwP) (e : Ending) (w' : World) : Prop :=
  e = .returned (.agg #[.int .i64 a.k.1, .int .i64 a.k.2, .string a.r, .int .i64 a.t]) ∧ ∃ (R' : List RwP) (φ' : Int × Int → Option Nat), Hm2 w' h f R' T φ' ao cap m R'.length ∧ Idx R' φ' ∧ HO lt R' ∧ R'.length = R.length - 1 ∧ (∀ y, y ∈ R' ↔ y ∈ R ∧ y.k ≠ a.k) ∧ Keep (Own h m ao) w w'
set_option maxHeartbeats 4000000 in
set_option maxRecDepth 100000 in
theorem take2_is (O : Ords lt) (LI : LessIs2 f lt) (H : Hm2 w h f R T φ ao cap m R.length) (hI : Idx R φ) (hh : HO lt R) {i : Nat} {a : RwP} (ha : R[i]? = some a) (hR : R.length ≤ 1000) :
    Calls Try.prog 47 #[.pointer (some ⟨h, 0, none⟩), .int .i64 i] w (Took2 lt w h f T ao cap m R a) := by
  have hil := get_lt ha
  obtain ⟨q, hq⟩ : ∃ q, R.length = q + 1 := ⟨R.length - 1, by omega⟩
  obtain ⟨z, hz⟩ : ∃ z, R[q]? = some z := ⟨R[q], List.getElem?_eq_getElem (by omega)⟩
  have HZ := hide hz
  have HA := hide ha
  have HI := hide hI
  have HH := hide hh
  have HLI := hide LI
  have HQ := hide hq
  have hsa := H.sm a (List.mem_iff_getElem?.2 ⟨i, ha⟩)
  have hsz := H.sm z (List.mem_iff_getElem?.2 ⟨q, hz⟩)
  have HLT := hide H.lt
  have CL : Hid (∀ W, Below w.heap.size w W → Calls Try.prog 45 #[.pointer (some ⟨h, 0, none⟩), .int .i64 i, .agg #[.int .i64 z.k.1, .int .i64 z.k.2, .string z.r, .int .i64 z.t]] W fun e w' => e = .returned (.tuple #[]) ∧ Hm2 w' h f (R.set i z) T (upd φ z.k (some i)) ao cap m (q + 1) ∧ Keep (Own h m ao) W w') := fun W hW =>
    lay2_is (H.below hW) hil z hsz hR (by omega) (fun e => by rw [hI.1 q z hz] at e; cases e) (by omega)
  obtain ⟨c0, c1, c2, c3, _⟩ := four_cells H.top
  obtain ⟨g, rfl, a0, a1, a2, a3, _⟩ := H.at ha
  obtain ⟨g', e, b0, b1, b2, b3, _⟩ := H.at hz
  cases e
  rw [hq] at c1
  have hcap : q + 1 ≤ cap ∧ cap ≤ maxLen := by
    rcases H.row with ⟨e, _⟩ | ⟨_, cur, _, _, h1, h2, _⟩
    · cases e
    · exact ⟨by omega, h2⟩
  have hi1 : (i : Int) < (q : Int) + 1 := by omega
  have hi2 : (i : Int) ≤ (q : Int) := by omega
  have hq1 : q ≤ 1000 := by omega
  have hgl := H.lt h (.inl rfl)
  have hgl2 := H.lt g (.inr (.inr ⟨_, rfl, rfl⟩))
  have hmh := H.hm
  have hgh := (H.hg _ rfl).1
  clear H hI hh LI ha hz hq
  obtain ⟨⟨ak, ak2⟩, ar, at'⟩ := a
  obtain ⟨⟨zk, zk2⟩, zr, zt⟩ := z
  simp only at a0 a1 a2 a3 b0 b1 b2 b3 CL hsa hsz
  go_enter Try.func47, Try.ntmps47
  go_wp2_with fail
  have HB0 := hide (balloc (brefl w) (.cells #[.int .i64 0, .int .i64 0, .string ⟨#[]⟩, .int .i64 0] 82))
  have N0 := hide (heap_alloc_new w (.cells #[.int .i64 0, .int .i64 0, .string ⟨#[]⟩, .int .i64 0] 82))
  generalize w.alloc (.cells #[.int .i64 0, .int .i64 0, .string ⟨#[]⟩, .int .i64 0] 82) = W0 at *
  obtain ⟨P0, hP0⟩ : ∃ P0, w.heap.size = P0 := ⟨_, rfl⟩
  rw [hP0] at N0
  have HP0 := hide hP0
  rw [hP0]
  clear hP0
  replace c1 := (HB0.out.cell (p := ⟨h, 1, none⟩) hgl).trans c1
  replace a0 := (HB0.out.cell (p := ⟨g, i * 4, none⟩) hgl2).trans a0
  replace a1 := (HB0.out.cell (p := ⟨g, i * 4 + 1, none⟩) hgl2).trans a1
  replace a2 := (HB0.out.cell (p := ⟨g, i * 4 + 2, none⟩) hgl2).trans a2
  replace a3 := (HB0.out.cell (p := ⟨g, i * 4 + 3, none⟩) hgl2).trans a3
  replace b0 := (HB0.out.cell (p := ⟨g, q * 4, none⟩) hgl2).trans b0
  replace b1 := (HB0.out.cell (p := ⟨g, q * 4 + 1, none⟩) hgl2).trans b1
  replace b2 := (HB0.out.cell (p := ⟨g, q * 4 + 2, none⟩) hgl2).trans b2
  replace b3 := (HB0.out.cell (p := ⟨g, q * 4 + 3, none⟩) hgl2).trans b3
  replace hgl := Nat.lt_of_lt_of_le hgl HB0.out.size
  replace hgl2 := Nat.lt_of_lt_of_le hgl2 HB0.out.size
  clear c0 c2 c3
  go_region
  have HB1 := hide ((balloc HB0.out (.cells #[.int .i64 ak, .int .i64 ak2, .string ar, .int .i64 at'] 82)).drew)
  have Z := hide ((balloc (brefl W0) (.cells #[.int .i64 ak, .int .i64 ak2, .string ar, .int .i64 at'] 82)).drew)
  have N1 : Hid ((W0.alloc (.cells #[.int .i64 ak, .int .i64 ak2, .string ar, .int .i64 at'] 82)).drew.heap[W0.heap.size]? = some (.cells #[.int .i64 ak, .int .i64 ak2, .string ar, .int .i64 at'] 82 (0, 0))) := heap_alloc_new W0 _
  have HP1 : Hid (w.heap.size ≤ W0.heap.size) := HB0.out.size
  have HLP : Hid (P0 < W0.heap.size) := lt_of_block N0.out
  generalize (W0.alloc (.cells #[.int .i64 ak, .int .i64 ak2, .string ar, .int .i64 at'] 82)).drew = W1 at *
  generalize W0.heap.size = p at *
  have N01 := hide ((Z.out.block P0 HLP.out).trans N0.out)
  have CL1 := hide (CL.out W1 HB1.out)
  replace c1 := (Z.out.cell (p := ⟨h, 1, none⟩) hgl).trans c1
  replace b0 := (Z.out.cell (p := ⟨g, q * 4, none⟩) hgl2).trans b0
  replace b1 := (Z.out.cell (p := ⟨g, q * 4 + 1, none⟩) hgl2).trans b1
  replace b2 := (Z.out.cell (p := ⟨g, q * 4 + 2, none⟩) hgl2).trans b2
  replace b3 := (Z.out.cell (p := ⟨g, q * 4 + 3, none⟩) hgl2).trans b3
  clear a0 a1 a2 a3 N0 HB0 Z CL
  go_wp2_with fail
  refine CL1.out.mono ?_
  rintro e w2 ⟨rfl, h2, k2⟩
  have H2 := hide h2
  have K2 := hide ((Keep.of (S := Own h m (some ⟨g, 0, none⟩)) HB1.out).trans k2)
  have N12 := hide ((k2.block p (fun e => by have := HLT.out _ e; have := HP1.out; omega) (lt_of_block N1.out)).trans N1.out)
  have N02 := hide ((k2.block P0 (fun e => by have := HLT.out _ e; have := HP0.out; omega) (lt_of_block N01.out)).trans N01.out)
  clear h2 k2 c1 b0 b1 b2 b3 CL1 N1 N01 HB1
  obtain ⟨c0, c1, c2, c3, _⟩ := four_cells H2.out.top
  obtain ⟨a0, a1, a2, a3, _⟩ := four_cells N12.out
  have hpm : p ≠ m := fun e => by have := HLT.out m (.inr (.inl rfl)); have := HP1.out; omega
  have hP0m : P0 ≠ m := fun e => by have := HLT.out m (.inr (.inl rfl)); have := HP0.out; omega
  go_wp2_with fail
  refine wp_region_held_drew (S := fun w' => w'.cell? ⟨h, 2, none⟩ = some (.map (some m)) ∧ w'.cell? ⟨p, 0, none⟩ = some (.int .i64 ak) ∧ w'.cell? ⟨p, 1, none⟩ = some (.int .i64 ak2)) (by kernel_rfl) ⟨c2, a0, a1⟩ (fun hHeld => ?_)
  refine wpAnyH_take (i := 0) (v := .pointer (some ⟨h, 0, none⟩)) rfl (by kernel_rfl) (by kernel_rfl) (by kernel_rfl) (fun _ _ _ h => h) (Or.inl ⟨by rfl, fun w hSw => by dsimp only at hSw; go_simp⟩) hHeld ?_
  simp only [Act.put, List.getElem_toArray, List.getElem_cons_zero, List.setIfInBounds_toArray, List.set_cons_zero, List.set_cons_succ]
  refine wpAnyH_take (i := 1) (v := .pointer (some ⟨h, 0, none⟩)) rfl (by kernel_rfl) (by kernel_rfl) (by kernel_rfl) (fun _ _ _ h => h) (Or.inl ⟨by rfl, fun w hSw => by dsimp only at hSw; go_simp⟩) hHeld ?_
  simp only [Act.put, List.getElem_toArray, List.getElem_cons_zero, List.getElem_cons_succ, List.setIfInBounds_toArray, List.set_cons_zero, List.set_cons_succ]
  refine wpAnyH_take (i := 2) (v := .pointer (some ⟨h, 2, none⟩)) rfl (by kernel_rfl) (by kernel_rfl) (by kernel_rfl) (fun _ _ _ h => h) (Or.inl ⟨by rfl, fun w hSw => by dsimp only at hSw; go_simp⟩) hHeld ?_
  simp only [Act.put, List.getElem_toArray, List.getElem_cons_zero, List.getElem_cons_succ, List.setIfInBounds_toArray, List.set_cons_zero, List.set_cons_succ]
  refine wpAnyH_take (i := 3) (v := .map (some m)) rfl (by kernel_rfl) (by kernel_rfl) (by kernel_rfl) (fun _ _ _ h => h) (Or.inl ⟨by rfl, fun w hSw => by dsimp only at hSw; go_simp⟩) hHeld ?_
  simp only [Act.put, List.getElem_toArray, List.getElem_cons_zero, List.getElem_cons_succ, List.setIfInBounds_toArray, List.set_cons_zero, List.set_cons_succ]
  refine wpAnyH_take (i := 4) (v := .pointer (some ⟨p, 0, none⟩)) rfl (by kernel_rfl) (by kernel_rfl) (by kernel_rfl) (fun _ _ _ h => h) (Or.inl ⟨by rfl, fun w hSw => by dsimp only at hSw; go_simp⟩) hHeld ?_
  simp only [Act.put, List.getElem_toArray, List.getElem_cons_zero, List.getElem_cons_succ, List.setIfInBounds_toArray, List.set_cons_zero, List.set_cons_succ]
  refine wpAnyH_take (i := 5) (v := .agg #[.int .i64 ak, .int .i64 ak2]) rfl (by kernel_rfl) (by kernel_rfl) (by kernel_rfl) (fun _ _ _ h => h) (Or.inl ⟨by rfl, fun w hSw => by dsimp only at hSw; go_simp⟩) hHeld ?_
  simp only [Act.put, List.getElem_toArray, List.getElem_cons_zero, List.getElem_cons_succ, List.setIfInBounds_toArray, List.set_cons_zero, List.set_cons_succ]
  refine wpAnyH_ready (rs := [6]) (by kernel_rfl) (by simp) ?_
  refine AllReadyH.cons rfl (fun K hK => ?_) AllReadyH.nil
  go_simp
  obtain ⟨D, hown, hl⟩ := H2.out.mp
  obtain ⟨w3, hrun, hown3, hturn⟩ := (World.ownsMap.drew hown).drop (e := 3) klaw2 Try.underlying76 (hkey2 hsa) 0
  have H3 := hide (H2.out.gone (n' := q) hown hl hsa (by
    unfold upd
    split
    · simp
    · rw [HI.out.1 i _ HA.out]; simp) (by omega) hown3 hturn.grown)
  have K3 := hide (K2.out.trans (Keep.grown (S := Own h m (some ⟨g, 0, none⟩)) (w := w2) ⟨hturn.grown.os, hturn.grown.tape, hturn.grown.output, hturn.grown.size, hturn.grown.block⟩ (fun k e => by cases e; exact .inr (.inl rfl))))
  have N13 := hide ((hturn.grown.block p (lt_of_block N12.out) (fun e => hpm (Option.some.inj e))).trans N12.out)
  have N03 := hide ((hturn.grown.block P0 (lt_of_block N02.out) (fun e => hP0m (Option.some.inj e))).trans N02.out)
  have hS : w3.cell? ⟨h, 2, none⟩ = some (.map (some m)) ∧ w3.cell? ⟨p, 0, none⟩ = some (.int .i64 ak) ∧ w3.cell? ⟨p, 1, none⟩ = some (.int .i64 ak2) :=
    ⟨(four_cells H3.out.top).2.2.1, (four_cells N13.out).1, (four_cells N13.out).2.1⟩
  simp only [kv] at hrun
  rw [hrun]
  clear hown hl hown3 hturn hrun
  go_simp
  refine hK.out _ _ hS (fun hHeld => ?_)
  clear hK K
  refine wpAnyH_done (by kernel_rfl) ?_ _
  clear c0 c1 c2 c3 a0 a1 a2 a3 H2 K2 N12 N02 hHeld hS
  obtain ⟨c0, c1, c2, c3, hfz⟩ := four_cells H3.out.top
  rw [List.length_set, HQ.out] at c1
  have fz1 := hfz 1
  have hlen : (R.set i ⟨(zk, zk2), zr, zt⟩).length = q + 1 := by rw [List.length_set, HQ.out]
  obtain ⟨y, hy⟩ : ∃ y, (R.set i ⟨(zk, zk2), zr, zt⟩)[q]? = some y := ⟨_, List.getElem?_eq_getElem (by omega)⟩
  obtain ⟨g', e, y0, y1, y2, y3, yf⟩ := H3.out.at hy
  cases e
  have CD := hide (delete2_is y0 y1 y2 y3 yf hcap.1 hq1 hcap.2)
  clear y0 y1 y2 y3 yf hy hfz
  go_wp2_with fail
  refine CD.out.mono ?_
  rintro e w4 ⟨rfl, hw4⟩
  have hgh' : g ≠ h := hgh
  have H4 : Hid (Hm2 (w4.setCell ⟨h, 1, none⟩ (.slice (some ⟨g, 0, none⟩) q cap)) h f (R.set i ⟨(zk, zk2), zr, zt⟩).dropLast T (upd (upd φ (zk, zk2) (some i)) (ak, ak2) none) (some ⟨g, 0, none⟩) cap m q) := by rw [hw4]; exact H3.out.cut hlen
  have K4 : Hid (Keep (Own h m (some ⟨g, 0, none⟩)) w (w4.setCell ⟨h, 1, none⟩ (.slice (some ⟨g, 0, none⟩) q cap))) := by
    rw [hw4]
    exact ((K3.out.trans (keep_put4 w3 g (q * 4) rz2 (.inr (.inr ⟨_, rfl, rfl⟩)))).drew).trans ((Keep.refl _ _).setCell (.inl (.inl rfl)) _)
  have hpg : p ≠ g := fun e => by have := HLT.out g (.inr (.inr ⟨_, rfl, rfl⟩)); have := HP1.out; omega
  have hph : p ≠ h := fun e => by have := HLT.out h (.inl rfl); have := HP1.out; omega
  have hP0g : P0 ≠ g := fun e => by have := HLT.out g (.inr (.inr ⟨_, rfl, rfl⟩)); have := HP0.out; omega
  have hP0h : P0 ≠ h := fun e => by have := HLT.out h (.inl rfl); have := HP0.out; omega
  have N14 : Hid ((w4.setCell ⟨h, 1, none⟩ (.slice (some ⟨g, 0, none⟩) q cap)).heap[p]? = some (.cells #[.int .i64 ak, .int .i64 ak2, .string ar, .int .i64 at'] 82 (0, 0))) := by
    show _ = _
    rw [heap_setCell_other _ _ p _ hph, hw4]
    exact (put4_other w3 g (q * 4) rz2 p hpg).trans N13.out
  have N04 : Hid ((w4.setCell ⟨h, 1, none⟩ (.slice (some ⟨g, 0, none⟩) q cap)).heap[P0]? = some (.cells #[.int .i64 0, .int .i64 0, .string ⟨#[]⟩, .int .i64 0] 82 (0, 0))) := by
    show _ = _
    rw [heap_setCell_other _ _ P0 _ hP0h, hw4]
    exact (put4_other w3 g (q * 4) rz2 P0 hP0g).trans N03.out
  replace c1 : w4.cell? ⟨h, 1, none⟩ = some (.slice (some ⟨g, 0, none⟩) (q + 1) cap) := by rw [hw4]; exact (World.cell?_of_block (a := ⟨h, 1, none⟩) (put4_other w3 g (q * 4) rz2 h hgh'.symm)).trans c1
  replace fz1 : w4.frozen? ⟨h, 1, none⟩ = false := by rw [hw4]; exact (World.frozen?_of_block (a := ⟨h, 1, none⟩) (put4_other w3 g (q * 4) rz2 h hgh'.symm)).trans fz1
  clear hw4 H3 K3 N13 N03 CD c0 c2 c3
  have HZ' : Hid (R[R.length - 1]? = some (⟨(zk, zk2), zr, zt⟩ : RwP)) := by
    show _ = _
    rw [HQ.out]
    exact HZ.out
  have HI4 := hide (HI.out.take HA.out HZ'.out)
  have HM4 := hide (fun y => mem_take HI.out HA.out HZ'.out y)
  have hl4 : (R.set i (⟨(zk, zk2), zr, zt⟩ : RwP)).dropLast.length = q := by rw [List.length_dropLast, List.length_set, HQ.out]; omega
  by_cases hiq : i < q
  · have hiq' : (i : Int) < (q : Int) := by omega
    have HV := hide (inv_take (x := (⟨(zk, zk2), zr, zt⟩ : RwP)) O HH.out hil)
    go_wp2_with fail
    generalize w4.setCell ⟨h, 1, none⟩ (.slice (some ⟨g, 0, none⟩) q cap) = W4 at *
    have CS := hide (settle2_is O HLI.out (Se2.start H4.out HI4.out) (by omega) HV.out (by omega) (by omega))
    refine CS.out.mono ?_
    rintro e w5 ⟨R5, φ5, rfl, S5, h5⟩
    have H5 := hide S5.hm
    have I5 := hide S5.idx
    have L5 := hide S5.len
    have M5 := hide S5.mem
    have K5 := hide (K4.out.trans S5.keep)
    have N15 := hide ((S5.keep.block p (fun e => by have := HLT.out _ e; have := HP1.out; omega) (lt_of_block N14.out)).trans N14.out)
    have N05 := hide ((S5.keep.block P0 (fun e => by have := HLT.out _ e; have := HP0.out; omega) (lt_of_block N04.out)).trans N04.out)
    clear S5 CS N14 N04 H4 K4 c1 fz1
    obtain ⟨a0, a1, a2, a3, _⟩ := four_cells N15.out
    obtain ⟨p0, p1, p2, p3, _⟩ := four_cells N05.out
    have pf := fun o => frozen_of_row w5 P0 o _ 82 N05.out
    have pf0 := pf 0
    have pf1 := pf 1
    have pf2 := pf 2
    have pf3 := pf 3
    clear pf
    go_wp2_with fail
    have H6 := hide (H5.out.kept (w' := put4 w5 P0 0 ⟨(ak, ak2), ar, at'⟩) fun b hb => put4_other w5 P0 0 ⟨(ak, ak2), ar, at'⟩ b (fun e => by subst e; have := HLT.out _ hb; have := HP0.out; omega))
    have K6 : Hid (Keep (Own h m (some ⟨g, 0, none⟩)) w (put4 w5 P0 0 ⟨(ak, ak2), ar, at'⟩)) := (((K5.out.setCell (p := ⟨P0, 0, none⟩) (.inr (Nat.le_of_eq HP0.out)) _).setCell (p := ⟨P0, 1, none⟩) (.inr (Nat.le_of_eq HP0.out)) _).setCell (p := ⟨P0, 2, none⟩) (.inr (Nat.le_of_eq HP0.out)) _).setCell (p := ⟨P0, 3, none⟩) (.inr (Nat.le_of_eq HP0.out)) _
    refine bodyPost_ret (v := .agg #[.int .i64 ak, .int .i64 ak2, .string ar, .int .i64 at']) ?_ rfl ?_
    · simp [results, Try.results47, go_sem, p0, p1, p2, p3]
    · exact ⟨rfl, R5, φ5, (by have := L5.out; rw [hl4] at this; rw [this]; exact H6.out), I5.out, h5, L5.out.trans (by rw [hl4, HQ.out]; rfl), fun y => (M5.out y).trans (HM4.out y), K6.out⟩
  · have hiq' : ¬ (i : Int) < (q : Int) := by omega
    have h5 : HO lt (R.set i (⟨(zk, zk2), zr, zt⟩ : RwP)).dropLast := by
      have e : i = q := by omega
      have hs : R.set i (⟨(zk, zk2), zr, zt⟩ : RwP) = R := by
        apply List.ext_getElem?
        intro k
        rw [List.getElem?_set]
        by_cases e2 : i = k
        · rw [if_pos e2, if_pos hil, ← e2, e]
          exact HZ.out.symm
        · rw [if_neg e2]
      rw [hs]
      exact ho_take HH.out
    have H5 : Hid (∀ b : Prop, b → b) := fun _ h => h
    clear H5
    obtain ⟨w5, hw5⟩ : ∃ w5, w4.setCell ⟨h, 1, none⟩ (.slice (some ⟨g, 0, none⟩) q cap) = w5 := ⟨_, rfl⟩
    rw [hw5] at H4 K4 N14 N04
    have HW5 := hide hw5
    obtain ⟨a0, a1, a2, a3, _⟩ := four_cells N14.out
    obtain ⟨p0, p1, p2, p3, _⟩ := four_cells N04.out
    have pf := fun o => frozen_of_row w5 P0 o _ 82 N04.out
    have pf0 := pf 0
    have pf1 := pf 1
    have pf2 := pf 2
    have pf3 := pf 3
    clear pf
    have H6 := hide (H4.out.kept (w' := put4 w5 P0 0 ⟨(ak, ak2), ar, at'⟩) fun b hb => put4_other w5 P0 0 ⟨(ak, ak2), ar, at'⟩ b (fun e => by subst e; have := HLT.out _ hb; have := HP0.out; omega))
    have K6 : Hid (Keep (Own h m (some ⟨g, 0, none⟩)) w (put4 w5 P0 0 ⟨(ak, ak2), ar, at'⟩)) := (((K4.out.setCell (p := ⟨P0, 0, none⟩) (.inr (Nat.le_of_eq HP0.out)) _).setCell (p := ⟨P0, 1, none⟩) (.inr (Nat.le_of_eq HP0.out)) _).setCell (p := ⟨P0, 2, none⟩) (.inr (Nat.le_of_eq HP0.out)) _).setCell (p := ⟨P0, 3, none⟩) (.inr (Nat.le_of_eq HP0.out)) _
    generalize (R.set i (⟨(zk, zk2), zr, zt⟩ : RwP)).dropLast = R5 at *
    generalize upd (upd φ (zk, zk2) (some i)) (ak, ak2) none = φ5 at *
    go_wp2_with fail
    refine bodyPost_ret (v := .agg #[.int .i64 ak, .int .i64 ak2, .string ar, .int .i64 at']) ?_ rfl ?_
    · simp [results, Try.results47, go_sem, p0, p1, p2, p3]
    · exact ⟨rfl, R5, φ5, (by rw [hl4]; exact H6.out), HI4.out, h5, hl4.trans (by rw [HQ.out]; rfl), fun y => HM4.out y, K6.out⟩
end
end Go.Proofs.Ytkfomjinilmjaaa
