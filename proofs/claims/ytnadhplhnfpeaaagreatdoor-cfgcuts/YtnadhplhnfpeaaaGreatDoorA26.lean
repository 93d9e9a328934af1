/- Part of the proof. -/
import Derived.Test.YtnadhplhnfpeaaaGreatDoorAZ
import Derived.Test.YtnadhplhnfpeaaaGreatDoorA25
namespace Go.Proofs.YtnadhplhnfpeaaaGreatDoor
open Go.RowKit Go.Sort
def Tv.enc (t : Tv) : List Value := [.int .i64 t.k, .string t.s, .int .i64 t.p, .int .i64 t.q]
def tvs (l : List Tv) : List Value := l.flatMap Tv.enc
theorem tvs_get (l : List Tv) (j i : Nat) (h : j < l.length) (hi : i < 4) : (tvs l)[j * 4 + i]? = (Tv.enc l[j])[i]? := by
 induction l generalizing j with
 | nil => simp at h
 | cons t l ih =>
  show (Tv.enc t ++ tvs l)[j * 4 + i]? = _
  cases j with
  | zero => rw [Nat.zero_mul, Nat.zero_add, List.getElem?_append_left (by simpa [Tv.enc] using hi)]; rfl
  | succ j =>
   rw [List.getElem?_append_right (by simp [Tv.enc]; omega), show (j + 1) * 4 + i - (Tv.enc t).length = j * 4 + i by simp [Tv.enc]; omega]
   rw [ih j (by simpa using h)]
   rfl
theorem tvs_slot {w : World} {B : Nat} {v : Value} {l : List Tv} (h : w.ownsRow B 95 4 v l.length (tvs l)) : ∃ ao c, v = .slice ao l.length c ∧ l.length ≤ c ∧ Tv.slot w ao l := by
 rcases h.2 with ⟨hv, h0⟩ | ⟨g, cap, cur, hv, hB, hg, hc, r⟩
 ·
  exact ⟨none, 0, by rw [hv, h0], by omega, .inl (List.length_eq_zero_iff.1 h0)⟩
 refine ⟨_, cap, hv, hc, .inr ⟨g, 0, rfl, fun j hj => ?_⟩⟩
 rw [hv] at h
 have k : ∀ i, i < 4 → w.cell? ⟨g, 0 + j * 4 + i, none⟩ = (Tv.enc l[j])[i]? := fun i hi => by rw [Nat.zero_add, h.cellAt _ (by omega), tvs_get l j i hj hi]
 exact ⟨k 0 (by decide), k 1 (by decide), k 2 (by decide), k 3 (by decide)⟩
structure KitL (SC : ByteArray → List Tv → Int → Int → Int → Prop) (en : ByteArray → Int × Int) : Prop where
  scan : ∀ (s : ByteArray), s.size ≤ 100000 → ∀ w, Calls Tryz.prog 19 #[.string s] w fun e w' => ∃ v ts p q c, e = .returned (.tuple #[v, .agg #[.int .i64 p, .int .i64 q], .int .i64 c]) ∧ w'.ownsRow w.heap.size 95 4 v ts.length (tvs ts) ∧ SC s ts p q c ∧ Below w.heap.size w w'
  few : ∀ {s ts p q c}, SC s ts p q c → ts.length ≤ 100000 ∧ ∀ t ∈ ts, t.s.size ≤ 1000
  end_ : ∀ (s : ByteArray), s.size ≤ 100000 → ∀ w, Calls Tryz.prog 20 #[.string s] w fun e w' => e = .returned (.agg #[.int .i64 (en s).1, .int .i64 (en s).2]) ∧ Below w.heap.size w w'
def Res (SC : ByteArray → List Tv → Int → Int → Int → Prop) (en : ByteArray → Int × Int) (F : Fn) (f : Nat) (s : ByteArray) (c : Cf) (p q x : Int) : Prop :=
  ∃ ts p0 q0 c0, SC s ts p0 q0 c0 ∧ ((c0 ≠ 0 ∧ c = .nil ∧ p = p0 ∧ q = q0 ∧ x = c0) ∨ (c0 = 0 ∧ ((∃ p1 q1 e, ((pCf F f f .nil).run (en s) ts (0, 0)).2 = .bad p1 q1 e ∧ e ≠ 0 ∧ c = .nil ∧ p = p1 ∧ q = q1 ∧ x = e) ∨ (∃ r m, ((pCf F f f .nil).run (en s) ts (0, 0)) = (some c, .good r m) ∧ p = 0 ∧ q = 0 ∧ x = 0))))
def CfRows (w : World) (B : Nat) (c : Cf) (v1 v2 v3 : Value) : Prop := RowOf w B 66 2 LsC v1 c.lists ∧ RowOf w B 70 2 MpC v2 c.maps ∧ RowOf w B 50 6 RtC v3 c.routers
theorem cfRows_nil (w : World) (B : Nat) : CfRows w B .nil (.slice none 0 0) (.slice none 0 0) (.slice none 0 0) := ⟨rowOf_nil _ _ _ _ _, rowOf_nil _ _ _ _ _, rowOf_nil _ _ _ _ _⟩
theorem CfRows.keep {w w' : World} {B : Nat} {c : Cf} {v1 v2 v3 : Value} {S : Nat → Prop} (h : CfRows w B c v1 v2 v3) (hb : But S w w') (ha : ∀ t, tAll t → t ≠ 33 → Av w S t) : CfRows w' B c v1 v2 v3 :=
  ⟨RowOf.keep LsC.keeps h.1 hb (fun t h => ha t h.all (by intro e; subst e; revert h; simp [tLs])) (ha 66 (by simp [tAll]) (by decide)), RowOf.keep MpC.keeps h.2.1 hb (fun t h => ha t h.all (by intro e; subst e; revert h; simp [tMp])) (ha 70 (by simp [tAll]) (by decide)), RowOf.keep RtC.keeps h.2.2 hb (fun t h => ha t h.all (by intro e; subst e; revert h; simp [tRt])) (ha 50 (by simp [tAll]) (by decide))⟩
theorem CfRows.from {w : World} {B B' : Nat} {c : Cf} {v1 v2 v3 : Value} (h : CfRows w B c v1 v2 v3) (hB : B' ≤ B) : CfRows w B' c v1 v2 v3 :=
  ⟨RowOf.from h.1 (fun g hg => Nat.le_trans hB (h.1.lt g hg).1), RowOf.from h.2.1 (fun g hg => Nat.le_trans hB (h.2.1.lt g hg).1), RowOf.from h.2.2 (fun g hg => Nat.le_trans hB (h.2.2.lt g hg).1)⟩
theorem CfRows.slices {w : World} {B : Nat} {c : Cf} {v1 v2 v3 : Value} (h : CfRows w B c v1 v2 v3) : ∃ a1 n1 k1 a2 n2 k2 a3 n3 k3, v1 = .slice a1 n1 k1 ∧ v2 = .slice a2 n2 k2 ∧ v3 = .slice a3 n3 k3 := by
 obtain ⟨a1, k1, h1⟩ := h.1.slice
 obtain ⟨a2, k2, h2⟩ := h.2.1.slice
 obtain ⟨a3, k3, h3⟩ := h.2.2.slice
 exact ⟨a1, _, k1, a2, _, k2, a3, _, k3, h1, h2, h3⟩
set_option maxHeartbeats 8000000 in
set_option maxRecDepth 100000 in
theorem parse_is {T : World → Prop} {F : Fn} {SC : ByteArray → List Tv → Int → Int → Int → Prop} {en : ByteArray → Int × Int} (K : Kit12 T F) (KL : KitL SC en) (hon : ∀ w w', T w → Below w.heap.size w w' → T w') (f : Nat) (hf : 100000 < f) (s : ByteArray) (hs : s.size ≤ 100000) (w : World) (hT : T w) : Calls Tryz.prog 11 #[.string s] w fun e w' => ∃ c v1 v2 v3 p q x, e = .returned (.tuple #[.agg #[v1, v2, v3], .agg #[.int .i64 p, .int .i64 q], .int .i64 x]) ∧ CfRows w' w.heap.size c v1 v2 v3 ∧ Res SC en F f s c p q x ∧ Below w.heap.size w w' := by
 have A0 := hide (balloc (balloc (brefl w) (.cells #[.slice none 0 0, .slice none 0 0, .slice none 0 0] 33)) (.cells #[.int .i64 0, .int .i64 0] 35))
 have R0 := hide (((balloc (brefl (w.alloc (.cells #[.slice none 0 0, .slice none 0 0, .slice none 0 0] 33))) (.cells #[.int .i64 0, .int .i64 0] 35)).block w.heap.size (by rw [size_alloc]; omega)).trans (heap_new w #[.slice none 0 0, .slice none 0 0, .slice none 0 0] 33))
 have S0 := hide (heap_new (w.alloc (.cells #[.slice none 0 0, .slice none 0 0, .slice none 0 0] 33)) #[.int .i64 0, .int .i64 0] 35)
 rw [size_alloc] at S0
 have CS := hide (KL.scan s hs)
 have CE := hide (KL.end_ s hs)
 have HKF := hide (fun ts p q c h => KL.few (s := s) (ts := ts) (p := p) (q := q) (c := c) h)
 have CC := hide (fun E (hE : T E.w0) ts W hW => config_is K E hE f hf (.good ts (0, 0)) W hW)
 have HON := hide (fun W hb => hon w W hT hb)
 obtain ⟨en1, en2⟩ : ∃ a b : Int, True := ⟨0, 0, trivial⟩
 clear hT hon K KL hs hf
 obtain ⟨ea, hea⟩ : ∃ x, (en s).1 = x := ⟨_, rfl⟩
 obtain ⟨eb, heb⟩ : ∃ x, (en s).2 = x := ⟨_, rfl⟩
 have HEN : Hid (en s = (ea, eb)) := by show _ = _; rw [← hea, ← heb]
 rw [hea, heb] at CE
 clear hea heb
 go_enter Tryz.func11, Tryz.ntmps11
 go_upto_region 1 with fail
 obtain ⟨rc, hrc⟩ : ∃ rc, w.heap.size = rc := ⟨_, rfl⟩
 obtain ⟨rp, hrp⟩ : ∃ rp, w.heap.size + 1 = rp := ⟨_, rfl⟩
 have HNE : Hid (rc ≠ rp ∧ w.heap.size ≤ rc ∧ w.heap.size ≤ rp) := ⟨by omega, by omega, by omega⟩
 rw [hrc] at R0
 rw [hrp] at S0 ⊢
 rw [hrc]
 generalize (w.alloc (.cells #[.slice none 0 0, .slice none 0 0, .slice none 0 0] 33)).alloc (.cells #[.int .i64 0, .int .i64 0] 35) = W at *
 clear hrc hrp
 go_wp2_with fail
 refine (CS.out W).mono ?_
 rintro e w1 ⟨v, ts, p0, q0, c0, rfl, ho, hsc, b1⟩
 have HSC := hide hsc
 have HFW := hide (HKF.out ts p0 q0 c0 hsc)
 have b2 := balloc b1 (.cells #[.int .i64 p0, .int .i64 q0] 35)
 have b3 := balloc (brefl w1) (.cells #[.int .i64 p0, .int .i64 q0] 35)
 have A2 := hide (bthen A0.out b2)
 have R2 := hide ((b2.block rc (heap_lt R0.out)).trans R0.out)
 have S2 := hide ((b2.block rp (heap_lt S0.out)).trans S0.out)
 have O2 := hide (row_of (w' := w1.alloc (.cells #[.int .i64 p0, .int .i64 q0] 35)) ho (fun g hg => b3.block g (ho.lt g hg).2))
 have T2 := hide (heap_new w1 #[.int .i64 p0, .int .i64 q0] 35)
 obtain ⟨ao, cp, hv, hcp, _⟩ := tvs_slot ho
 have HCP := hide hcp
 subst hv
 have HRL : Hid (rc < w1.heap.size ∧ rp < w1.heap.size) := ⟨Nat.lt_of_lt_of_le (heap_lt R0.out) b1.size, Nat.lt_of_lt_of_le (heap_lt S0.out) b1.size⟩
 clear ho hsc b1 b2 b3 hcp R0 S0 A0 CS HKF
 go_upto_region 2 with fail
 obtain ⟨tb, htb⟩ : ∃ tb, w1.heap.size = tb := ⟨_, rfl⟩
 have HTB : Hid (tb ≠ rc ∧ tb ≠ rp) := ⟨by rintro rfl; have := HRL.out; omega, by rintro rfl; have := HRL.out; omega⟩
 rw [htb] at T2 ⊢
 generalize w1.alloc (.cells #[.int .i64 p0, .int .i64 q0] 35) = W2 at *
 clear htb
 obtain ⟨t0, t1, _, _⟩ := two_cells T2.out
 by_cases hc : c0 = 0
 ·
  subst hc
  have h0 : ((0 : Int) != 0) = false := rfl
  go_upto_region 4 with fail
  clear t0 t1 T2
  go_wp2_with fail
  refine (CE.out W2).mono ?_
  rintro e w3 ⟨rfl, b3⟩
  have A3 := hide (bthen A2.out b3)
  have R3 := hide ((b3.block rc (heap_lt R2.out)).trans R2.out)
  have S3 := hide ((b3.block rp (heap_lt S2.out)).trans S2.out)
  have O3 := row_of (w' := w3) O2.out (fun g hg => b3.block g (O2.out.lt g hg).2)
  obtain ⟨ao', cp', hv', _, hsl⟩ := tvs_slot O3
  cases hv'
  have HSL := hide hsl
  clear hsl O3 b3 A2 R2 S2 O2 CE
  have HT3 := hide (HON.out w3 A3.out)
  have a4 := balloc (brefl w3) (.cells #[.slice ao ts.length cp, .int .i64 ea, .int .i64 eb, .int .i64 0, .int .i64 0, .int .i64 0] 62)
  have PS : Hid (Ps ⟨w3, w3.heap.size, (ea, eb)⟩ (w3.alloc (.cells #[.slice ao ts.length cp, .int .i64 ea, .int .i64 eb, .int .i64 0, .int .i64 0, .int .i64 0] 62)) (.good ts (0, 0))) := ⟨a4, Nat.le_refl _, ao, ts.length, cp, 0, 0, 0, heap_new w3 _ 62, rfl, HCP.out, HFW.out.1, HFW.out.2, HSL.out, rfl, rfl, rfl⟩
  have A4 := hide (bthen A3.out a4)
  have R4 := hide ((a4.block rc (heap_lt R3.out)).trans R3.out)
  have S4 := hide ((a4.block rp (heap_lt S3.out)).trans S3.out)
  have HWB := hide (And.intro A3.out.size (And.intro (heap_lt R3.out) (heap_lt S3.out)))
  have CG := hide (CC.out ⟨w3, w3.heap.size, (ea, eb)⟩ HT3.out ts _ PS.out)
  clear a4 A3 R3 S3 HSL CC HON
  obtain ⟨R, hR⟩ : ∃ R, (pCf F f f .nil).run (ea, eb) ts (0, 0) = R := ⟨_, rfl⟩
  have hR' : (pCf F f f .nil).exec (ea, eb) (.good ts (0, 0)) = R := hR
  simp only at CG
  rw [hR'] at CG
  have HR : Hid ((pCf F f f .nil).run (en s) ts (0, 0) = R) := by rw [HEN.out]; exact hR
  clear hR hR'
  obtain ⟨n, hn⟩ : ∃ n, ts.length = n := ⟨_, rfl⟩
  rw [hn] at A4 R4 S4 CG
  try rw [hn]
  clear hn
  go_upto_region 5 with fail
  obtain ⟨pb, hpb⟩ : ∃ pb, w3.heap.size = pb := ⟨_, rfl⟩
  rw [hpb] at CG
  try rw [hpb]
  have HPW : Hid (w.heap.size ≤ pb ∧ rc < pb ∧ rp < pb) := by have := HWB.out; exact ⟨by omega, by omega, by omega⟩
  generalize w3.alloc (.cells #[.slice ao n cp, .int .i64 ea, .int .i64 eb, .int .i64 0, .int .i64 0, .int .i64 0] 62) = W4 at *
  clear hpb PS HWB
  go_wp2_with fail
  refine CG.out.mono ?_
  rintro e w5 ⟨c, v1, v2, v3, rfl, rows, b5, p5, u5⟩
  have rows : CfRows w5 W4.heap.size c v1 v2 v3 := rows
  have HRW := hide (rows.from A4.out.size)
  have P5 := hide p5
  have A5 : Hid (Below w.heap.size w w5) := A4.out.trans (b5.below (fun k e => by rw [show k = pb from e]; exact HPW.out.1) A4.out.size)
  have R5 := hide (b5.keep R4.out (fun e => by have h1 := HPW.out; have h2 : rc = pb := e; omega))
  have S5 := hide (b5.keep S4.out (fun e => by have h1 := HPW.out; have h2 : rp = pb := e; omega))
  have HU := hide u5
  clear rows b5 p5 u5 CG A4 R4 S4
  obtain ⟨a1, n1, k1, a2, n2, k2, a3, n3, k3, hv1, hv2, hv3⟩ := HRW.out.slices
  subst hv1 hv2 hv3
  go_upto_region 6 with fail
  have a6 := balloc (brefl w5) (.cells #[.slice a1 n1 k1, .slice a2 n2 k2, .slice a3 n3 k3] 33)
  have C6 := hide (heap_new w5 #[.slice a1 n1 k1, .slice a2 n2 k2, .slice a3 n3 k3] 33)
  have P6 := hide (P5.out.below a6)
  have A6 := hide (bthen A5.out a6)
  have R6 := hide ((a6.block rc (heap_lt R5.out)).trans R5.out)
  have S6 := hide ((a6.block rp (heap_lt S5.out)).trans S5.out)
  have Q6 := hide (HRW.out.keep (S := fun _ => False) (But.of a6) (fun _ _ _ _ _ _ h => h))
  obtain ⟨cb, hcb⟩ : ∃ cb, w5.heap.size = cb := ⟨_, rfl⟩
  have HCB : Hid (cb ≠ rc ∧ cb ≠ rp) := by have h1 := heap_lt R5.out; have h2 := heap_lt S5.out; exact ⟨by omega, by omega⟩
  rw [hcb] at C6 ⊢
  generalize w5.alloc (.cells #[.slice a1 n1 k1, .slice a2 n2 k2, .slice a3 n3 k3] 33) = w6 at *
  clear a6 hcb P5 A5 R5 S5 HRW
  obtain ⟨_, _, ao2, n6, c6, p1, q1, x1, hg, hv⟩ := P6.out
  have G6 := hide hg
  simp only at G6
  clear hg
  obtain ⟨⟨_, _, _, z3, z4, z5⟩, _⟩ := six_cells G6.out
  obtain ⟨R1, R2⟩ := R
  cases R2 with
  | bad p2 q2 e2 =>
   obtain ⟨_, _, _, rfl, rfl, rfl, hx⟩ := hv
   have h5 : (x1 != 0) = true := by rw [bne_iff_ne]; exact hx
   have HRES : Hid (Res SC en F f s .nil p1 q1 x1) := ⟨ts, p0, q0, 0, HSC.out, .inr ⟨rfl, .inl ⟨p1, q1, x1, by rw [HR.out], hx, rfl, rfl, rfl, rfl⟩⟩⟩
   clear hx
   go_upto_region 7 with fail
   have d7 := Below.drew (brefl w6)
   have A7 := hide (bthen A6.out d7)
   have R7 := hide ((d7.block rc (heap_lt R6.out)).trans R6.out)
   have S7 := hide ((d7.block rp (heap_lt S6.out)).trans S6.out)
   have G7 := hide ((d7.block pb (heap_lt G6.out)).trans G6.out)
   have HNB : Hid (pb ≠ rc ∧ pb ≠ rp) := by have h1 := HPW.out; exact ⟨by omega, by omega⟩
   have x7 := six_cells G7.out
   refine wp_region_held_drew (S := (fun w' => w'.cell? ⟨pb, 3, none⟩ = some (.int .i64 p1) ∧ w'.cell? ⟨pb, 4, none⟩ = some (.int .i64 q1) ∧ w'.cell? ⟨pb, 5, none⟩ = some (.int .i64 x1))) (by kernel_rfl) ⟨x7.1.2.2.2.1, x7.1.2.2.2.2.1, x7.1.2.2.2.2.2⟩ (fun hHeld => ?_)
   clear d7 x7 A6 R6 S6 G6 z3 z4 z5 P6 C6 Q6
   generalize w6.drew = w7 at *
   refine tak 0 (.agg #[.slice none 0 0, .slice none 0 0, .slice none 0 0]) rfl (Or.inl ⟨by rfl, fun w hSw => by obtain ⟨s3, s4, s5⟩ := hSw; go_simp⟩) hHeld ?_
   simp only [Act.put, g1, g2, g4, g5, g6]
   refine tak 1 (.pointer (some ⟨pb, 0, none⟩)) rfl (Or.inl ⟨by rfl, fun w hSw => by obtain ⟨s3, s4, s5⟩ := hSw; go_simp⟩) hHeld ?_
   simp only [Act.put, g1, g2, g3, g4, g5, g6]
   refine tak 2 (.pointer (some ⟨pb, 0, none⟩)) rfl (Or.inl ⟨by rfl, fun w hSw => by obtain ⟨s3, s4, s5⟩ := hSw; go_simp⟩) hHeld ?_
   simp only [Act.put, g1, g2, g3, g4, g5, g6]
   refine tak 3 (.pointer (some ⟨pb, 3, none⟩)) rfl (Or.inl ⟨by rfl, fun w hSw => by obtain ⟨s3, s4, s5⟩ := hSw; go_simp⟩) hHeld ?_
   simp only [Act.put, g1, g2, g3, g4, g5, g6]
   refine tak 4 (.agg #[.int .i64 p1, .int .i64 q1]) rfl (Or.inl ⟨by rfl, fun w hSw => by obtain ⟨s3, s4, s5⟩ := hSw; go_simp⟩) hHeld ?_
   simp only [Act.put, g1, g2, g3, g4, g5, g6]
   refine tak 5 (.pointer (some ⟨pb, 0, none⟩)) rfl (Or.inl ⟨by rfl, fun w hSw => by obtain ⟨s3, s4, s5⟩ := hSw; go_simp⟩) hHeld ?_
   simp only [Act.put, g1, g2, g3, g4, g5, g6]
   refine tak 6 (.pointer (some ⟨pb, 0, none⟩)) rfl (Or.inl ⟨by rfl, fun w hSw => by obtain ⟨s3, s4, s5⟩ := hSw; go_simp⟩) hHeld ?_
   simp only [Act.put, g1, g2, g3, g4, g5, g6]
   refine tak 7 (.pointer (some ⟨pb, 5, none⟩)) rfl (Or.inl ⟨by rfl, fun w hSw => by obtain ⟨s3, s4, s5⟩ := hSw; go_simp⟩) hHeld ?_
   simp only [Act.put, g1, g2, g3, g4, g5, g6]
   refine tak 8 (.int .i64 x1) rfl (Or.inl ⟨by rfl, fun w hSw => by obtain ⟨s3, s4, s5⟩ := hSw; go_simp⟩) hHeld ?_
   simp only [Act.put, g1, g2, g3, g4, g5, g6]
   refine rdy 9 (by kernel_rfl) rfl fun K hK => ?_
   obtain ⟨r0, r1, r2⟩ := three_cells R7.out
   have f0 := unfrozen R7.out 0
   have f1 := unfrozen R7.out 1
   have f2 := unfrozen R7.out 2
   go_simp
   have b8 := (((But.refl (fun k => k = rc) w7).setCell (p := ⟨rc, 0, none⟩) (.inl rfl) (.slice none 0 0)).setCell (p := ⟨rc, 1, none⟩) (.inl rfl) (.slice none 0 0)).setCell (p := ⟨rc, 2, none⟩) (.inl rfl) (.slice none 0 0)
   have R8 := hide (heap_setCell_same _ rc 2 _ 33 (.slice none 0 0) (heap_setCell_same _ rc 1 _ 33 (.slice none 0 0) (heap_setCell_same _ rc 0 _ 33 (.slice none 0 0) R7.out)))
   have S8 := hide (b8.keep S7.out (fun e => HNE.out.1 e.symm))
   have A8 := hide (A7.out.trans (b8.below (fun k e => by rw [show k = rc from e]; exact HNE.out.2.1) A7.out.size))
   have G8 := hide (b8.keep G7.out (fun e => HNB.out.1 e))
   have x8 := six_cells G8.out
   refine hK.out _ _ ⟨x8.1.2.2.2.1, x8.1.2.2.2.2.1, x8.1.2.2.2.2.2⟩ (fun hHeld => ?_)
   clear hK K r0 r1 r2 f0 f1 f2 b8 x8
   try simp only [Act.put, g1, g2, g3, g4, g5, g6]
   generalize ((w7.setCell ⟨rc, 0, none⟩ (.slice none 0 0)).setCell ⟨rc, 1, none⟩ (.slice none 0 0)).setCell ⟨rc, 2, none⟩ (.slice none 0 0) = w8 at *
   refine rdy 10 (by kernel_rfl) rfl fun K hK => ?_
   obtain ⟨r0, r1, f0, f1⟩ := two_cells S8.out
   go_simp
   have b9 := ((But.refl (fun k => k = rp) w8).setCell (p := ⟨rp, 0, none⟩) (.inl rfl) (.int .i64 p1)).setCell (p := ⟨rp, 1, none⟩) (.inl rfl) (.int .i64 q1)
   have S9 := hide (heap_setCell_same _ rp 1 _ 35 (.int .i64 q1) (heap_setCell_same _ rp 0 _ 35 (.int .i64 p1) S8.out))
   have R9 := hide (b9.keep R8.out (fun e => HNE.out.1 e))
   have A9 := hide (A8.out.trans (b9.below (fun k e => by rw [show k = rp from e]; exact HNE.out.2.2) A8.out.size))
   have G9 := hide (b9.keep G8.out (fun e => HNB.out.2 e))
   have x9 := six_cells G9.out
   refine hK.out _ _ ⟨x9.1.2.2.2.1, x9.1.2.2.2.2.1, x9.1.2.2.2.2.2⟩ (fun hHeld => ?_)
   clear hK K r0 r1 f0 f1 b9
   try simp only [Act.put, g1, g2, g3, g4, g5, g6]
   generalize (w8.setCell ⟨rp, 0, none⟩ (.int .i64 p1)).setCell ⟨rp, 1, none⟩ (.int .i64 q1) = w9 at *
   refine tak 11 (.int .i64 x1) rfl (Or.inl ⟨by rfl, fun w hSw => by obtain ⟨s3, s4, s5⟩ := hSw; go_simp⟩) hHeld ?_
   simp only [Act.put, g1, g2, g3, g4, g5, g6]
   refine wpAnyH_done (by kernel_rfl) ?_ _
   clear hHeld
   go_wp2_with fail
   refine bodyPost_ret (v := .tuple #[.agg #[.slice none 0 0, .slice none 0 0, .slice none 0 0], .agg #[.int .i64 p1, .int .i64 q1], .int .i64 x1]) ?_ rfl ⟨.nil, _, _, _, p1, q1, x1, rfl, cfRows_nil _ _, HRES.out, A9.out⟩
   obtain ⟨t0, t1, t2⟩ := three_cells R9.out
   obtain ⟨u0, u1, _, _⟩ := two_cells S9.out
   simp [results, Tryz.results11, go_sem, t0, t1, t2, u0, u1]
  | good r m =>
   obtain ⟨_, _, _, _, _, rfl, rfl, rfl⟩ := hv
   have h5 : ((0 : Int) != 0) = false := rfl
   have HRES : Hid (Res SC en F f s c 0 0 0) := by
    obtain ⟨a, ha⟩ := exec_good (en s) (pCf F f f .nil) (.good ts (0, 0)) (r := r) (m := m) (by show ((pCf F f f .nil).run (en s) ts (0, 0)).2 = _; rw [HR.out])
    have ha' : R1 = some a := by have h9 : ((pCf F f f .nil).run (en s) ts (0, 0)).1 = some a := ha; rw [HR.out] at h9; exact h9
    have hca := HU.out a ha'
    exact ⟨ts, p0, q0, 0, HSC.out, .inr ⟨rfl, .inr ⟨r, m, by rw [HR.out, ha', hca], rfl, rfl, rfl⟩⟩⟩
   obtain ⟨c0', c1', c2'⟩ := three_cells C6.out
   obtain ⟨r0, r1, r2⟩ := three_cells R6.out
   obtain ⟨y0, y1, yf0, yf1⟩ := two_cells S6.out
   have hn1 : rc ≠ rp := HNE.out.1
   have hn2 : rp ≠ rc := Ne.symm HNE.out.1
   have f0 := unfrozen R6.out 0
   have f1 := unfrozen R6.out 1
   have f2 := unfrozen R6.out 2
   go_wp2_with fail
   have b8 := (((But.refl (fun k => k = rc ∨ k = rp) w6).setCell (p := ⟨rc, 0, none⟩) (.inl (.inl rfl)) (.slice a1 n1 k1)).setCell (p := ⟨rc, 1, none⟩) (.inl (.inl rfl)) (.slice a2 n2 k2)).setCell (p := ⟨rc, 2, none⟩) (.inl (.inl rfl)) (.slice a3 n3 k3)
   have b9 := (b8.setCell (p := ⟨rp, 0, none⟩) (.inl (.inr rfl)) (.int .i64 0)).setCell (p := ⟨rp, 1, none⟩) (.inl (.inr rfl)) (.int .i64 0)
   have R8 := heap_setCell_same _ rc 2 _ 33 (.slice a3 n3 k3) (heap_setCell_same _ rc 1 _ 33 (.slice a2 n2 k2) (heap_setCell_same _ rc 0 _ 33 (.slice a1 n1 k1) R6.out))
   have R9 := set_far (o := 1) (v := .int .i64 0) (set_far (o := 0) (v := .int .i64 0) R8 HNE.out.1) HNE.out.1
   have S8 := set_far (o := 2) (v := .slice a3 n3 k3) (set_far (o := 1) (v := .slice a2 n2 k2) (set_far (o := 0) (v := .slice a1 n1 k1) S6.out (Ne.symm HNE.out.1)) (Ne.symm HNE.out.1)) (Ne.symm HNE.out.1)
   have S9 := heap_setCell_same _ rp 1 _ 35 (.int .i64 0) (heap_setCell_same _ rp 0 _ 35 (.int .i64 0) S8)
   have av : ∀ t, tAll t → t ≠ 33 → Av w6 (fun k => k = rc ∨ k = rp) t := fun t h1 h2 => av_or (av_one R6.out (Ne.symm h2)) (av_one S6.out (by rintro rfl; revert h1; simp [tAll]))
   refine bodyPost_ret (v := .tuple #[.agg #[.slice a1 n1 k1, .slice a2 n2 k2, .slice a3 n3 k3], .agg #[.int .i64 0, .int .i64 0], .int .i64 0]) ?_ rfl ⟨c, _, _, _, 0, 0, 0, rfl, Q6.out.keep b9 av, HRES.out, A6.out.trans (b9.below (fun k e => by rcases e with e | e <;> (rw [e]; have h1 := HNE.out; omega)) A6.out.size)⟩
   obtain ⟨t0, t1, t2⟩ := three_cells R9
   obtain ⟨u0, u1, _, _⟩ := two_cells S9
   simp [results, Tryz.results11, go_sem, t0, t1, t2, u0, u1]
 have h0 : (c0 != 0) = true := by rw [bne_iff_ne]; exact hc
 have HRES : Hid (Res SC en F f s .nil p0 q0 c0) := ⟨ts, p0, q0, c0, HSC.out, .inl ⟨hc, rfl, rfl, rfl, rfl⟩⟩
 clear hc CE CC HON
 go_upto_region 3 with fail
 have d7 := Below.drew (brefl W2)
 have A7 := hide (bthen A2.out d7)
 have R7 := hide ((d7.block rc (heap_lt R2.out)).trans R2.out)
 have S7 := hide ((d7.block rp (heap_lt S2.out)).trans S2.out)
 have T7 := hide ((d7.block tb (heap_lt T2.out)).trans T2.out)
 have HNB : Hid (tb ≠ rc ∧ tb ≠ rp) := HTB
 have x7 := two_cells T7.out
 refine wp_region_held_drew (S := (fun w' => w'.cell? ⟨tb, 0, none⟩ = some (.int .i64 p0) ∧ w'.cell? ⟨tb, 1, none⟩ = some (.int .i64 q0))) (by kernel_rfl) ⟨x7.1, x7.2.1⟩ (fun hHeld => ?_)
 clear d7 x7 A2 R2 S2 T2 t0 t1 O2
 generalize W2.drew = w7 at *
 refine tak 0 (.agg #[.slice none 0 0, .slice none 0 0, .slice none 0 0]) rfl (Or.inl ⟨by rfl, fun w hSw => by obtain ⟨s3, s4⟩ := hSw; go_simp⟩) hHeld ?_
 simp only [Act.put, g1, g2, g4, g5, g6]
 refine tak 1 (.agg #[.int .i64 p0, .int .i64 q0]) rfl (Or.inl ⟨by rfl, fun w hSw => by obtain ⟨s3, s4⟩ := hSw; go_simp⟩) hHeld ?_
 simp only [Act.put, g1, g2, g3, g4, g5, g6]
 refine tak 2 (.int .i64 c0) rfl (Or.inl ⟨by rfl, fun w hSw => by obtain ⟨s3, s4⟩ := hSw; go_simp⟩) hHeld ?_
 simp only [Act.put, g1, g2, g3, g4, g5, g6]
 refine rdy 3 (by kernel_rfl) rfl fun K hK => ?_
 obtain ⟨r0, r1, r2⟩ := three_cells R7.out
 have f0 := unfrozen R7.out 0
 have f1 := unfrozen R7.out 1
 have f2 := unfrozen R7.out 2
 go_simp
 have b8 := (((But.refl (fun k => k = rc) w7).setCell (p := ⟨rc, 0, none⟩) (.inl rfl) (.slice none 0 0)).setCell (p := ⟨rc, 1, none⟩) (.inl rfl) (.slice none 0 0)).setCell (p := ⟨rc, 2, none⟩) (.inl rfl) (.slice none 0 0)
 have R8 := hide (heap_setCell_same _ rc 2 _ 33 (.slice none 0 0) (heap_setCell_same _ rc 1 _ 33 (.slice none 0 0) (heap_setCell_same _ rc 0 _ 33 (.slice none 0 0) R7.out)))
 have S8 := hide (b8.keep S7.out (fun e => HNE.out.1 e.symm))
 have A8 := hide (A7.out.trans (b8.below (fun k e => by rw [show k = rc from e]; exact HNE.out.2.1) A7.out.size))
 have T8 := hide (b8.keep T7.out (fun e => HNB.out.1 e))
 have x8 := two_cells T8.out
 refine hK.out _ _ ⟨x8.1, x8.2.1⟩ (fun hHeld => ?_)
 clear hK K r0 r1 r2 f0 f1 f2 b8 x8
 try simp only [Act.put, g1, g2, g3, g4, g5, g6]
 generalize ((w7.setCell ⟨rc, 0, none⟩ (.slice none 0 0)).setCell ⟨rc, 1, none⟩ (.slice none 0 0)).setCell ⟨rc, 2, none⟩ (.slice none 0 0) = w8 at *
 refine rdy 4 (by kernel_rfl) rfl fun K hK => ?_
 obtain ⟨r0, r1, f0, f1⟩ := two_cells S8.out
 go_simp
 have b9 := ((But.refl (fun k => k = rp) w8).setCell (p := ⟨rp, 0, none⟩) (.inl rfl) (.int .i64 p0)).setCell (p := ⟨rp, 1, none⟩) (.inl rfl) (.int .i64 q0)
 have S9 := hide (heap_setCell_same _ rp 1 _ 35 (.int .i64 q0) (heap_setCell_same _ rp 0 _ 35 (.int .i64 p0) S8.out))
 have R9 := hide (b9.keep R8.out (fun e => HNE.out.1 e))
 have A9 := hide (A8.out.trans (b9.below (fun k e => by rw [show k = rp from e]; exact HNE.out.2.2) A8.out.size))
 have T9 := hide (b9.keep T8.out (fun e => HNB.out.2 e))
 have x9 := two_cells T9.out
 refine hK.out _ _ ⟨x9.1, x9.2.1⟩ (fun hHeld => ?_)
 clear hK K r0 r1 f0 f1 b9
 try simp only [Act.put, g1, g2, g3, g4, g5, g6]
 generalize (w8.setCell ⟨rp, 0, none⟩ (.int .i64 p0)).setCell ⟨rp, 1, none⟩ (.int .i64 q0) = w9 at *
 refine tak 5 (.int .i64 c0) rfl (Or.inl ⟨by rfl, fun w hSw => by obtain ⟨s3, s4⟩ := hSw; go_simp⟩) hHeld ?_
 simp only [Act.put, g1, g2, g3, g4, g5, g6]
 refine wpAnyH_done (by kernel_rfl) ?_ _
 clear hHeld
 go_wp2_with fail
 refine bodyPost_ret (v := .tuple #[.agg #[.slice none 0 0, .slice none 0 0, .slice none 0 0], .agg #[.int .i64 p0, .int .i64 q0], .int .i64 c0]) ?_ rfl ⟨.nil, _, _, _, p0, q0, c0, rfl, cfRows_nil _ _, HRES.out, A9.out⟩
 obtain ⟨t0, t1, t2⟩ := three_cells R9.out
 obtain ⟨u0, u1, _, _⟩ := two_cells S9.out
 simp [results, Tryz.results11, go_sem, t0, t1, t2, u0, u1]
end Go.Proofs.YtnadhplhnfpeaaaGreatDoor
