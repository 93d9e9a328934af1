/- The law's example. -/
import Derived.Test.YtngfoijmknclhaaGreatDoorJ45
namespace Go.Proofs.YtngfoijmknclhaaGreatDoor
open Go.RowKit Go.Sort
theorem goes_ex (path : List Int) : ∃ g : ByteArray → Bool, ∀ s, g s = true ↔ GoesP s path := by
  have h : ∀ s, ∃ b : Bool, b = true ↔ GoesP s path := fun s => by
    by_cases h : GoesP s path
    · exact ⟨true, by simp [h]⟩
    · exact ⟨false, by simp [h]⟩
  exact ⟨fun s => (h s).choose, fun s => (h s).choose_spec⟩
def setL : St := ⟨200, -1, -1, [], [], false, []⟩
def klL : Kl := ⟨1, true, ⟨#[]⟩, ⟨#[]⟩, 0, 0, setL⟩
def atL : At := ⟨100, 0, 0, [], [], 0, []⟩
theorem ok_L : routeOk 167772160 8 atL = true := by decide
theorem map_L : mapOk [klL] = true := by decide
theorem noText_nil : noText ⟨#[]⟩ = true := by
  unfold noText
  rw [ByteArray.toList_eq]
  rfl
theorem met_L (ls : List Ll) (pa pb : Int) (a : At) (g : ByteArray → Bool) : metP ls pa pb a g klL = true := by
  unfold metP holdsP klL
  simp [noText_nil]
theorem uni_nil {x : List Cm.Co.C} (h : Cm.Co.uni [] [] x) : x = [] := by
  cases x with
  | nil => rfl
  | cons c l => have := (h.2 c).1 List.mem_cons_self; simp at this
theorem run_L {p : Kl → Bool} {r : Rs} (hp : p klL = true) (h : RunTo true true p [klL] atL r) : r = ⟨true, ⟨200, 0, 0, [], [], 0, []⟩, 1, 0⟩ := by
  unfold RunTo at h
  rw [if_pos ⟨rfl, rfl⟩] at h
  have hf : [klL].find? p = some klL := by simp [hp]
  rw [hf] at h
  rcases h with ⟨h, _⟩ | ⟨c, hc, hd⟩
  · cases h
  · cases hc
    unfold DecTo at hd
    rw [if_pos (show klL.ok = true from rfl)] at hd
    obtain ⟨d, q, hdo, rfl⟩ := hd
    unfold At.DoTo at hdo
    rw [if_pos ⟨by decide, by decide⟩] at hdo
    obtain ⟨x, hx, hy⟩ := hdo
    have hx0 : x = [] := uni_nil (by simpa [At.left, klL, setL, atL] using hx)
    subst hx0
    rcases hy with ⟨h, _, _⟩ | ⟨_, rfl, rfl⟩
    · exact absurd h (by decide)
    · rfl
theorem run_N {p : Kl → Bool} {a : At} {r : Rs} {ok : Bool} (h : RunTo true ok p [] a r) : r.pass = false := by
  unfold RunTo at h
  split at h
  · rcases h with ⟨_, rfl⟩ | ⟨c, hc, _⟩
    · rfl
    · cases hc
  · rw [h]
theorem rd_one {w : World} {b t : Nat} {c : Kl} {ao dl pr : Option Addr} {ca cd cr : Nat} (h : w.heap[b]? = some (.cells (c.cells ao dl pr ca cd cr).toArray t (0, 0))) (hs : St.lies w c.s ao dl pr) (hc : St.came ao dl pr ca cd cr) (k : Nat) : Rd w 13 KlR (.slice (some ⟨b, 0, none⟩) 1 k) [c] := by
  refine ⟨_, k, rfl, .inr ⟨b, 0, rfl, fun j hj => ?_⟩⟩
  obtain rfl : j = 0 := by simp at hj; exact hj
  refine ⟨_, ⟨ao, dl, pr, ca, cd, cr, rfl, hs, hc⟩, rfl, by unfold Kl.cells; simp, fun i u hu => ?_⟩
  have := cell_of h i (u := u) (by simpa using hu)
  simpa using this
set_option maxRecDepth 100000 in
theorem run_pass52 (x0 x1 x2 x3 x4 x5 x6 x7 x8 x9 : Value) (W : World) : (Instr.field 52 (.agg #[x0, x1, x2, x3, x4, x5, x6, x7, x8, x9]) 0).run Tryz.prog W = .ok x0 W := by
  simp [Instr.field, run_underlying Tryz.underlying52, part, isAgg, sizeOf, asAgg, go_sem]
set_option maxHeartbeats 8000000 in
set_option maxRecDepth 100000 in
theorem lives_is (w : World) (hT : Ar.Y4.Pt w) : Calls Tryz.prog 10 #[] w fun e w' => e = .returned (.bool true) ∧ Below w.heap.size w w' := by
  obtain ⟨g, hg⟩ := goes_ex []
  obtain ⟨W1, hW1⟩ : ∃ W, W = w.alloc (.cells #[.int .u32 167772160, .int .i64 8] 26) := ⟨_, rfl⟩
  obtain ⟨W2, hW2⟩ : ∃ W, W = W1.alloc (.cells #[.int .i64 100, .int .i64 0, .int .i64 0, .slice none 0 0, .slice none 0 0, .int .i64 0, .slice none 0 0] 30) := ⟨_, rfl⟩
  obtain ⟨W3, hW3⟩ : ∃ W, W = W2.alloc (.cells #[.int .i64 200, .int .i64 (-1), .int .i64 (-1), .slice none 0 0, .slice none 0 0, .bool false, .slice none 0 0] 43) := ⟨_, rfl⟩
  obtain ⟨W4, hW4⟩ : ∃ W, W = W3.alloc (.cells #[.int .i64 1, .bool true, .string ⟨#[]⟩, .string ⟨#[]⟩, .int .i64 0, .int .i64 0, .int .i64 200, .int .i64 (-1), .int .i64 (-1), .slice none 0 0, .slice none 0 0, .bool false, .slice none 0 0] 45) := ⟨_, rfl⟩
  have s1 : W1.heap.size = w.heap.size + 1 := by rw [hW1]; exact sizeA _ _
  have s2 : W2.heap.size = w.heap.size + 1 + 1 := by rw [hW2, sizeA, s1]
  have s3 : W3.heap.size = w.heap.size + 1 + 1 + 1 := by rw [hW3, sizeA, s2]
  have b1 : Below w.heap.size w W1 := by rw [hW1]; exact balloc (brefl w) _
  have b12 : Below W1.heap.size W1 W2 := by rw [hW2]; exact balloc (brefl W1) _
  have b23 : Below W2.heap.size W2 W3 := by rw [hW3]; exact balloc (brefl W2) _
  have b34 : Below W3.heap.size W3 W4 := by rw [hW4]; exact balloc (brefl W3) _
  have k1 : W1.heap[w.heap.size]? = some (.cells #[.int .u32 167772160, .int .i64 8] 26 (0, 0)) := by rw [hW1]; exact heap_new w _ _
  have k2 : W2.heap[w.heap.size + 1]? = some (.cells #[.int .i64 100, .int .i64 0, .int .i64 0, .slice none 0 0, .slice none 0 0, .int .i64 0, .slice none 0 0] 30 (0, 0)) := by rw [hW2, ← s1]; exact heap_new W1 _ _
  have k4 : W4.heap[w.heap.size + 1 + 1 + 1]? = some (.cells #[.int .i64 1, .bool true, .string ⟨#[]⟩, .string ⟨#[]⟩, .int .i64 0, .int .i64 0, .int .i64 200, .int .i64 (-1), .int .i64 (-1), .slice none 0 0, .slice none 0 0, .bool false, .slice none 0 0] 45 (0, 0)) := by rw [hW4, ← s3]; exact heap_new W3 _ _
  have K1 := hide (((bthen (bthen b12 b23) b34).block _ (heap_lt k1)).trans k1)
  have K2 := hide (((bthen b23 b34).block _ (heap_lt k2)).trans k2)
  have B4 := hide (bthen (bthen (bthen b1 b12) b23) b34)
  have hR4 : Rd W4 13 KlR (.slice (some ⟨w.heap.size + 1 + 1 + 1, 0, none⟩) 1 1) [klL] := rd_one (c := klL) (ao := none) (dl := none) (pr := none) (ca := 0) (cd := 0) (cr := 0) k4 ⟨.inl rfl, .inl rfl, .inl rfl⟩ ⟨fun _ => rfl, fun _ => rfl, fun _ => rfl⟩ 1
  have C1 := hide (run_is _ [klL] (.slice none 0 0) [] 167772160 8 atL none none none 0 0 0 g W4 (hT.on B4.out) hR4 (by decide) (fun c hc => by rw [List.mem_singleton.1 hc]; exact ⟨by decide, by decide, by decide⟩) (Rd.nil none 0) (by decide) ⟨by decide, by decide⟩ ⟨.inl rfl, .inl rfl, .inl rfl⟩ ⟨no_came, no_came, no_came, by decide⟩ (by decide) (by decide) (by decide) hg)
  have C2 := hide (fun W' (hb : Below W4.heap.size W4 W') => run_is (.slice none 0 0) [] (.slice none 0 0) [] 167772160 8 atL none none none 0 0 0 g W' (hT.on (bthen B4.out hb)) (Rd.nil none 0) (by decide) (fun c hc => absurd hc List.not_mem_nil) (Rd.nil none 0) (by decide) ⟨by decide, by decide⟩ ⟨.inl rfl, .inl rfl, .inl rfl⟩ ⟨no_came, no_came, no_came, by decide⟩ (by decide) (by decide) (by decide) hg)
  rw [map_L, ok_L] at C1
  have HW : Hid ((((w.alloc (.cells #[.int .u32 167772160, .int .i64 8] 26)).alloc (.cells #[.int .i64 100, .int .i64 0, .int .i64 0, .slice none 0 0, .slice none 0 0, .int .i64 0, .slice none 0 0] 30)).alloc (.cells #[.int .i64 200, .int .i64 (-1), .int .i64 (-1), .slice none 0 0, .slice none 0 0, .bool false, .slice none 0 0] 43)).alloc (.cells #[.int .i64 1, .bool true, .string ⟨#[]⟩, .string ⟨#[]⟩, .int .i64 0, .int .i64 0, .int .i64 200, .int .i64 (-1), .int .i64 (-1), .slice none 0 0, .slice none 0 0, .bool false, .slice none 0 0] 45) = W4) := by show _ = _; rw [hW4, hW3, hW2, hW1]
  have HM := hide (met_L [] 167772160 8 atL g)
  clear hT hg s1 s2 s3 b1 b12 b23 b34 k1 k2 k4 hR4 hW1 hW2 hW3 hW4
  go_enter Tryz.func10, Tryz.ntmps10
  go_wp2_with fail
  rw [HW.out]
  refine Calls.mono C1.out ?_
  rintro e w5 ⟨r, po, co, ko, cp, cc, ck, rfl, hr, hmi, hca, hb5⟩
  have hr := run_L HM.out hr
  subst hr
  have L1 := hide ((hb5.block w.heap.size (heap_lt K1.out)).trans K1.out)
  have L2 := hide ((hb5.block (w.heap.size + 1) (heap_lt K2.out)).trans K2.out)
  have B5 := hide (bthen B4.out hb5)
  have H5 := hide hb5
  clear hmi hca hb5 C1 HM HW K1 K2 B4
  unfold RsV
  have A6 := hide (balloc (brefl w5) (.cells #[.bool true, .int .i64 200, .int .i64 0, .int .i64 0, .slice po 0 cp, .slice co 0 cc, .int .i64 0, .slice ko 0 ck, .int .i64 1, .int .i64 0] 52))
  have N6 := hide (heap_new w5 #[.bool true, .int .i64 200, .int .i64 0, .int .i64 0, .slice po 0 cp, .slice co 0 cc, .int .i64 0, .slice ko 0 ck, .int .i64 1, .int .i64 0] 52)
  go_upto_region 4 with fail
  obtain ⟨d, hd⟩ : ∃ x, w5.heap.size = x := ⟨_, rfl⟩
  rw [hd] at N6
  try rw [hd]
  clear hd
  obtain ⟨w6, hw6⟩ : ∃ x, x = w5.alloc (.cells #[.bool true, .int .i64 200, .int .i64 0, .int .i64 0, .slice po 0 cp, .slice co 0 cc, .int .i64 0, .slice ko 0 ck, .int .i64 1, .int .i64 0] 52) := ⟨_, rfl⟩
  rw [← hw6] at A6 N6
  try rw [← hw6]
  clear hw6
  have M1 := hide ((A6.out.block w.heap.size (heap_lt L1.out)).trans L1.out)
  have M2 := hide ((A6.out.block (w.heap.size + 1) (heap_lt L2.out)).trans L2.out)
  have B6 := hide (bthen B5.out A6.out)
  have C3 := hide (C2.out w6 (bthen H5.out A6.out))
  clear C2 A6 L1 L2 B5 H5
  have p0 := cell_of M1.out 0 rfl
  have p1 := cell_of M1.out 1 rfl
  obtain ⟨l0, l1, l2, l3, l4, l5, l6⟩ := seven_cells M2.out
  go_wp2_with fail
  refine Calls.mono C3.out ?_
  rintro e w7 ⟨r, po2, co2, ko2, cp2, cc2, ck2, rfl, hr, hmi, hca, hb7⟩
  have hrp := run_N (by simpa [mapOk, risesK] using hr)
  have N7 := hide ((hb7.block d (heap_lt N6.out)).trans N6.out)
  have B7 := hide (bthen B6.out hb7)
  clear hr hmi hca hb7 C3 M1 M2 N6 B6 p0 p1 l0 l1 l2 l3 l4 l5 l6
  obtain ⟨k0, k1, k2, k3, k4, k5, k6, k7, k8, k9⟩ := cells10 N7.out
  unfold RsV
  rw [hrp]
  have hfd := run_pass52
  go_wp2_with fail
  go_ret
  exact ⟨rfl, B7.out⟩
end Go.Proofs.YtngfoijmknclhaaGreatDoor
namespace Go.Proofs.YtngfoijmknclhaaGreatDoor
open Go.RowKit Go.Sort
/-- Does a clause let all pass that meet it? -/
def easyB (c : Kl) : Bool := c.ok && (c.s.pre.length == 0 && c.s.add.length == 0)
/-- Does a clause ask for nothing? -/
def askNo (c : Kl) : Bool := noText c.ls && (noText c.pt && c.ca == 0)
set_option maxHeartbeats 8000000 in
set_option maxRecDepth 100000 in
theorem easy_is (c : Kl) (v : Value) (W : World) (hx : KlV W c v) : Calls Tryz.prog 40 #[v] W fun e w' => e = .returned (.bool (easyB c)) ∧ Below W.heap.size W w' := by
  obtain ⟨xs, h1, rfl⟩ := hx
  obtain ⟨o1, o2, o3, c1, c2, c3, rfl, _, _⟩ := h1
  have HE : Hid (easyB c = (c.ok && (c.s.pre.length == 0 && c.s.add.length == 0))) := rfl
  unfold Kl.cells
  generalize easyB c = R at *
  obtain ⟨n, okv, ls, pt, qa, qn, ⟨pf, md, og, ad, de, clr, pp⟩⟩ := c
  simp only at *
  generalize ad.length = na at *
  generalize de.length = nd at *
  generalize pp.length = np at *
  show Calls Tryz.prog 40 #[.agg #[.int .i64 n, .bool okv, .string ls, .string pt, .int .i64 qa, .int .i64 qn, .int .i64 pf, .int .i64 md, .int .i64 og, .slice o1 na c1, .slice o2 nd c2, .bool clr, .slice o3 np c3]] W _
  have A1 := balloc (brefl W) (.cells #[.int .i64 n, .bool okv, .string ls, .string pt, .int .i64 qa, .int .i64 qn, .int .i64 pf, .int .i64 md, .int .i64 og, .slice o1 na c1, .slice o2 nd c2, .bool clr, .slice o3 np c3] 45)
  have N1 := hide (heap_new W #[.int .i64 n, .bool okv, .string ls, .string pt, .int .i64 qa, .int .i64 qn, .int .i64 pf, .int .i64 md, .int .i64 og, .slice o1 na c1, .slice o2 nd c2, .bool clr, .slice o3 np c3] 45)
  have B1 := hide A1
  clear A1
  go_enter Tryz.func40, Tryz.ntmps40
  go_upto_region 1 with fail
  obtain ⟨bx, hbx⟩ : ∃ x, W.heap.size = x := ⟨_, rfl⟩
  rw [hbx] at N1
  try rw [hbx]
  obtain ⟨W1, hw1⟩ : ∃ x, x = W.alloc (.cells #[.int .i64 n, .bool okv, .string ls, .string pt, .int .i64 qa, .int .i64 qn, .int .i64 pf, .int .i64 md, .int .i64 og, .slice o1 na c1, .slice o2 nd c2, .bool clr, .slice o3 np c3] 45) := ⟨_, rfl⟩
  rw [← hw1] at N1 B1
  try rw [← hw1]
  clear hw1
  obtain ⟨k0, k1, k2, k3, k4, k5, k6, k7, k8, k9, k10, k11, k12⟩ := cells13 N1.out
  cases okv with
  | false =>
    go_wp2_with fail
    go_ret
    exact ⟨ret_bool HE.out.symm, B1.out⟩
  | true =>
    by_cases h1 : np = 0
    · subst h1
      by_cases h2 : na = 0
      · subst h2
        go_wp2_with fail
        go_ret
        exact ⟨ret_bool HE.out.symm, B1.out⟩
      · have h2' : ((na : Int) == 0) = false := by simpa using h2
        have HF : Hid (R = false) := by show _ = _; rw [HE.out]; simp [h2]
        go_wp2_with fail
        go_ret
        exact ⟨ret_bool HF.out.symm, B1.out⟩
    · have h1' : ((np : Int) == 0) = false := by simpa using h1
      have HF : Hid (R = false) := by show _ = _; rw [HE.out]; simp [h1]
      go_wp2_with fail
      go_ret
      exact ⟨ret_bool HF.out.symm, B1.out⟩
theorem never_s (W0 : World) : FnS W0 83 #[] (fun _ => false) where
  enter := fun args w => by go_simp
  ok := fun W s _ => by
    show Calls Tryz.prog 83 #[.string s] W _
    go_enter Tryz.func83, Tryz.ntmps83
    go_wp2_with fail
    go_ret
    exact ⟨rfl, brefl W⟩
theorem never_c (W0 : World) : FnC W0 84 #[] (fun _ => false) where
  enter := fun args w => by go_simp
  ok := fun W a b _ => by
    show Calls Tryz.prog 84 #[.agg #[.int .i64 a, .int .i64 b]] W _
    go_enter Tryz.func84, Tryz.ntmps84
    go_wp2_with fail
    go_ret
    exact ⟨rfl, balloc (brefl W) _⟩
theorem holds_no (ls pt : ByteArray) (ca cn : Int) : holdsP (fun _ => false) (fun _ => false) (fun _ => false) ls pt ca cn = (noText ls && (noText pt && ca == 0)) := by
  unfold holdsP
  simp [Bool.and_assoc]
set_option maxHeartbeats 8000000 in
set_option maxRecDepth 100000 in
theorem asksNo_is (c : Kl) (v : Value) (W : World) (hx : KlV W c v) : Calls Tryz.prog 41 #[v] W fun e w' => e = .returned (.bool (askNo c)) ∧ Below W.heap.size W w' := by
  obtain ⟨xs, h1, rfl⟩ := hx
  obtain ⟨o1, o2, o3, c1, c2, c3, rfl, _, _⟩ := h1
  have C := hide (fun W' => holds_is c.ls c.pt c.ca c.cn W' (never_s W') (never_s W') (never_c W'))
  simp only [holds_no] at C
  change Hid (∀ W', Calls _ _ _ _ fun e w' => e = .returned (.bool (askNo c)) ∧ _) at C
  unfold Kl.cells
  generalize askNo c = R at *
  obtain ⟨n, okv, ls, pt, qa, qn, ⟨pf, md, og, ad, de, clr, pp⟩⟩ := c
  simp only at *
  generalize ad.length = na at *
  generalize de.length = nd at *
  generalize pp.length = np at *
  show Calls Tryz.prog 41 #[.agg #[.int .i64 n, .bool okv, .string ls, .string pt, .int .i64 qa, .int .i64 qn, .int .i64 pf, .int .i64 md, .int .i64 og, .slice o1 na c1, .slice o2 nd c2, .bool clr, .slice o3 np c3]] W _
  have A1 := balloc (brefl W) (.cells #[.int .i64 n, .bool okv, .string ls, .string pt, .int .i64 qa, .int .i64 qn, .int .i64 pf, .int .i64 md, .int .i64 og, .slice o1 na c1, .slice o2 nd c2, .bool clr, .slice o3 np c3] 45)
  have N1 := hide (heap_new W #[.int .i64 n, .bool okv, .string ls, .string pt, .int .i64 qa, .int .i64 qn, .int .i64 pf, .int .i64 md, .int .i64 og, .slice o1 na c1, .slice o2 nd c2, .bool clr, .slice o3 np c3] 45)
  have B1 := hide A1
  clear A1
  go_enter Tryz.func41, Tryz.ntmps41
  go_upto_region 1 with fail
  obtain ⟨bx, hbx⟩ : ∃ x, W.heap.size = x := ⟨_, rfl⟩
  rw [hbx] at N1
  try rw [hbx]
  obtain ⟨W1, hw1⟩ : ∃ x, x = W.alloc (.cells #[.int .i64 n, .bool okv, .string ls, .string pt, .int .i64 qa, .int .i64 qn, .int .i64 pf, .int .i64 md, .int .i64 og, .slice o1 na c1, .slice o2 nd c2, .bool clr, .slice o3 np c3] 45) := ⟨_, rfl⟩
  rw [← hw1] at N1 B1
  try rw [← hw1]
  clear hw1
  obtain ⟨k0, k1, k2, k3, k4, k5, k6, k7, k8, k9, k10, k11, k12⟩ := cells13 N1.out
  go_wp2_with fail
  refine (C.out W1).mono ?_
  rintro e w2 ⟨rfl, hb⟩
  have B2 := hide (bthen B1.out hb)
  clear hb
  go_wp2_with fail
  go_ret
  exact ⟨rfl, B2.out⟩
def openQ (c : Kl) : Bool := !easyB c || askNo c
set_option maxHeartbeats 8000000 in
set_option maxRecDepth 100000 in
theorem open_fn (W0 : World) : FnIs W0 39 #[] KlV (fun _ => True) openQ where
  enter := fun args w => by go_simp
  ok := fun W c x _ hx _ => by
    have CE := hide (fun W' (hb : Below W.heap.size W W') => easy_is c x W' (hx.below hb))
    have CA := hide (fun W' (hb : Below W.heap.size W W') => asksNo_is c x W' (hx.below hb))
    have HE : Hid (openQ c = (!easyB c || askNo c)) := rfl
    obtain ⟨xs, h1, rfl⟩ := hx
    obtain ⟨o1, o2, o3, c1, c2, c3, rfl, _, _⟩ := h1
    unfold Kl.cells at *
    generalize openQ c = R at *
    generalize easyB c = r1 at *
    generalize askNo c = r2 at *
    obtain ⟨n, okv, ls, pt, qa, qn, ⟨pf, md, og, ad, de, clr, pp⟩⟩ := c
    simp only at *
    generalize ad.length = na at *
    generalize de.length = nd at *
    generalize pp.length = np at *
    show Calls Tryz.prog 39 #[.agg #[.int .i64 n, .bool okv, .string ls, .string pt, .int .i64 qa, .int .i64 qn, .int .i64 pf, .int .i64 md, .int .i64 og, .slice o1 na c1, .slice o2 nd c2, .bool clr, .slice o3 np c3]] W _
    have A1 := balloc (brefl W) (.cells #[.int .i64 n, .bool okv, .string ls, .string pt, .int .i64 qa, .int .i64 qn, .int .i64 pf, .int .i64 md, .int .i64 og, .slice o1 na c1, .slice o2 nd c2, .bool clr, .slice o3 np c3] 45)
    have N1 := hide (heap_new W #[.int .i64 n, .bool okv, .string ls, .string pt, .int .i64 qa, .int .i64 qn, .int .i64 pf, .int .i64 md, .int .i64 og, .slice o1 na c1, .slice o2 nd c2, .bool clr, .slice o3 np c3] 45)
    have B1 := hide A1
    clear A1
    go_enter Tryz.func39, Tryz.ntmps39
    go_upto_region 1 with fail
    obtain ⟨bx, hbx⟩ : ∃ x, W.heap.size = x := ⟨_, rfl⟩
    rw [hbx] at N1
    try rw [hbx]
    obtain ⟨W1, hw1⟩ : ∃ x, x = W.alloc (.cells #[.int .i64 n, .bool okv, .string ls, .string pt, .int .i64 qa, .int .i64 qn, .int .i64 pf, .int .i64 md, .int .i64 og, .slice o1 na c1, .slice o2 nd c2, .bool clr, .slice o3 np c3] 45) := ⟨_, rfl⟩
    rw [← hw1] at N1 B1
    try rw [← hw1]
    clear hw1
    obtain ⟨k0, k1, k2, k3, k4, k5, k6, k7, k8, k9, k10, k11, k12⟩ := cells13 N1.out
    go_wp2_with fail
    refine (CE.out W1 B1.out).mono ?_
    rintro e w2 ⟨rfl, hb⟩
    have N2 := hide ((hb.block bx (heap_lt N1.out)).trans N1.out)
    have B2 := hide (bthen B1.out hb)
    clear hb N1 B1 CE k0 k1 k2 k3 k4 k5 k6 k7 k8 k9 k10 k11 k12
    cases r1 with
    | false =>
      go_wp2_with fail
      go_ret
      exact ⟨ret_bool HE.out.symm, B2.out⟩
    | true =>
      obtain ⟨k0, k1, k2, k3, k4, k5, k6, k7, k8, k9, k10, k11, k12⟩ := cells13 N2.out
      go_wp2_with fail
      refine (CA.out w2 B2.out).mono ?_
      rintro e w3 ⟨rfl, hb⟩
      have B3 := hide (bthen B2.out hb)
      clear hb
      have HF : Hid (R = r2) := by show _ = _; rw [HE.out]; cases r2 <;> rfl
      go_wp2_with fail
      go_ret
      exact ⟨ret_bool HF.out.symm, B3.out⟩
/-- Does a map let everything pass? -/
def openB (m : List Kl) : Bool := mapOk m && (match m.find? openQ with | some c => easyB c | none => false)
set_option maxHeartbeats 8000000 in
set_option maxRecDepth 100000 in
theorem open_is (mv : Value) (m : List Kl) (w : World) (hm : Rd w 13 KlR mv m) (hmz : m.length ≤ 1000) (hf : ∀ c ∈ m, fewK c) :
    Calls Tryz.prog 21 #[mv] w fun e w' => e = .returned (.bool (openB m)) ∧ Below w.heap.size w w' := by
  obtain ⟨mk, hmk⟩ : ∃ x, mapOk m = x := ⟨_, rfl⟩
  have C1 := hide (may_isK mv m w hm hf)
  have CF := hide (fun W' (hb : Below w.heap.size w W') => first_is mv m W' (open_fn W') (hm.below KlR.mono hb) (by omega))
  have CE := hide (fun (c : Kl) (v : Value) W' (hx : KlV W' c v) => easy_is c v W' hx)
  have HE : Hid (openB m = (mk && (match m.find? openQ with | some c => easyB c | none => false))) := by show _ = _; unfold openB; rw [hmk]
  rw [hmk] at C1
  obtain ⟨mo, mc, rfl⟩ := hm.slice
  generalize openB m = R at *
  clear hm hf hmk
  obtain ⟨nm, hnm⟩ : ∃ x, m.length = x := ⟨_, rfl⟩
  rw [hnm] at C1 CF ⊢
  clear hnm hmz
  go_enter Tryz.func21, Tryz.ntmps21
  go_wp2_with fail
  refine C1.out.mono ?_
  rintro e w1 ⟨rfl, hb1⟩
  have B1 := hide hb1
  clear hb1 C1
  cases mk with
  | false =>
    go_wp2_with fail
    go_ret
    exact ⟨ret_bool HE.out.symm, B1.out⟩
  | true =>
    go_wp2_with fail
    refine (CF.out w1 B1.out).mono ?_
    rintro e w2 ⟨hb2, ⟨hno, rfl⟩ | ⟨c, kv, hso, hmem, hkv, rfl⟩⟩
    · have HF : Hid (R = false) := by show _ = _; rw [HE.out, hno]; rfl
      have B2 := hide (bthen B1.out hb2)
      have A3 := hide (balloc (brefl w2) (.cells #[.int .i64 0, .bool false, .string ⟨#[]⟩, .string ⟨#[]⟩, .int .i64 0, .int .i64 0, .int .i64 0, .int .i64 0, .int .i64 0, .slice none 0 0, .slice none 0 0, .bool false, .slice none 0 0] 45))
      have B3 := hide (bthen B2.out A3.out)
      clear hb2 hno HE A3
      unfold zeroK
      go_wp2_with fail
      go_ret
      exact ⟨ret_bool HF.out.symm, B3.out⟩
    · have HF : Hid (R = easyB c) := by show _ = _; rw [HE.out, hso]; rfl
      have B2 := hide (bthen B1.out hb2)
      have HKV := hide hkv
      have CE2 := hide (fun W' hx => CE.out c kv W' hx)
      obtain ⟨xs, hx, rfl⟩ := hkv
      obtain ⟨o1, o2, o3, c1, c2, c3, rfl, _, _⟩ := hx
      clear hb2 hso hmem HE CE CF B1
      unfold Kl.cells at *
      generalize easyB c = r1 at *
      obtain ⟨n, okv, ls, pt, qa, qn, ⟨pf, md, og, ad, de, clr, pp⟩⟩ := c
      simp only at *
      obtain ⟨na, hna⟩ : ∃ x, ad.length = x := ⟨_, rfl⟩
      obtain ⟨nd, hnd⟩ : ∃ x, de.length = x := ⟨_, rfl⟩
      obtain ⟨np, hnp⟩ : ∃ x, pp.length = x := ⟨_, rfl⟩
      rw [hna, hnd, hnp] at CE2 HKV
      rw [hna, hnd, hnp]
      clear hna hnd hnp
      have A3 := hide (balloc (brefl w2) (.cells #[.int .i64 n, .bool okv, .string ls, .string pt, .int .i64 qa, .int .i64 qn, .int .i64 pf, .int .i64 md, .int .i64 og, .slice o1 na c1, .slice o2 nd c2, .bool clr, .slice o3 np c3] 45))
      have N3 := hide (heap_new w2 #[.int .i64 n, .bool okv, .string ls, .string pt, .int .i64 qa, .int .i64 qn, .int .i64 pf, .int .i64 md, .int .i64 og, .slice o1 na c1, .slice o2 nd c2, .bool clr, .slice o3 np c3] 45)
      go_upto_region 4 with fail
      obtain ⟨bx, hbx⟩ : ∃ x, w2.heap.size = x := ⟨_, rfl⟩
      rw [hbx] at N3
      try rw [hbx]
      obtain ⟨W3, hw3⟩ : ∃ x, x = w2.alloc (.cells #[.int .i64 n, .bool okv, .string ls, .string pt, .int .i64 qa, .int .i64 qn, .int .i64 pf, .int .i64 md, .int .i64 og, .slice o1 na c1, .slice o2 nd c2, .bool clr, .slice o3 np c3] 45) := ⟨_, rfl⟩
      rw [← hw3] at N3 A3
      try rw [← hw3]
      clear hw3
      have B3 := hide (bthen B2.out A3.out)
      have CE3 := hide (CE2.out W3 (HKV.out.below A3.out))
      clear hbx A3 CE2 HKV B2
      obtain ⟨k0, k1, k2, k3, k4, k5, k6, k7, k8, k9, k10, k11, k12⟩ := cells13 N3.out
      go_wp2_with fail
      refine CE3.out.mono ?_
      rintro e w4 ⟨rfl, hb⟩
      have B4 := hide (bthen B3.out hb)
      clear hb
      go_wp2_with fail
      go_ret
      exact ⟨ret_bool HF.out.symm, B4.out⟩
end Go.Proofs.YtngfoijmknclhaaGreatDoor
namespace Go.Proofs.YtngfoijmknclhaaGreatDoor
open Go.RowKit Go.Sort
theorem rises_mem : ∀ {l : List Kl} {q : Int}, risesK q l = true → ∀ c ∈ l, q < c.n ∧ St.ok c.s = true
  | [], _, _, c, hc => absurd hc List.not_mem_nil
  | x :: l, q, h, c, hc => by
    unfold risesK at h
    simp only [Bool.and_eq_true, decide_eq_true_eq] at h
    obtain ⟨h1, h2, h3, h4⟩ := h
    rcases List.mem_cons.1 hc with rfl | hc
    · exact ⟨h1, h3⟩
    · have := rises_mem h4 c hc
      exact ⟨by omega, this.2⟩
theorem map_ok {m : List Kl} (h : mapOk m = true) : ∀ c ∈ m, 0 < c.n ∧ St.ok c.s = true := by
  unfold mapOk at h
  rw [Bool.and_eq_true] at h
  exact rises_mem h.2
/-- A change that adds and prepends nothing can always be done. -/
theorem do_easy {a : At} {s : St} {r : At} {q : Int} (ha : At.may a = true) (hs : St.ok s = true) (h1 : s.pre = []) (h2 : s.add = []) (h : At.DoTo a s r q) : q = 0 := by
  unfold At.DoTo at h
  rw [if_pos ⟨ha, hs⟩, h1, h2] at h
  obtain ⟨x, hx, h⟩ := h
  obtain ⟨_, hp, hset, _⟩ := may_parts ha
  have hl : x = At.left a s := by
    refine Cm.Co.rises_eq _ _ hx.1 ?_ (fun c => ?_)
    · unfold At.left
      refine List.Pairwise.filter _ ?_
      split
      · exact List.Pairwise.nil
      · exact rises_of_set hset
    · rw [hx.2 c]; simp
  have h8 : a.comms.length ≤ 8 := by
    unfold Cm.Co.set at hset
    simp only [Bool.and_eq_true, decide_eq_true_eq] at hset
    exact hset.1
  have hx8 : x.length ≤ 8 := by
    rw [hl]
    unfold At.left
    refine Nat.le_trans (List.length_filter_le _ _) ?_
    split
    · exact Nat.zero_le _
    · exact h8
  have hp16 := ((Is.may_iff _).1 hp).1
  rcases h with ⟨hb, _⟩ | ⟨_, _, hq⟩
  · exfalso
    rw [List.length_nil] at hb
    omega
  · exact hq
theorem easy_parts {c : Kl} (h : easyB c = true) : c.ok = true ∧ c.s.pre = [] ∧ c.s.add = [] := by
  unfold easyB at h
  simp only [Bool.and_eq_true, beq_iff_eq] at h
  exact ⟨h.1, List.length_eq_zero_iff.1 h.2.1, List.length_eq_zero_iff.1 h.2.2⟩
theorem ask_met (ls : List Ll) (pa pb : Int) (a : At) (g : ByteArray → Bool) {c : Kl} (h : askNo c = true) : metP ls pa pb a g c = true := by
  unfold askNo at h
  unfold metP holdsP
  simp only [Bool.and_eq_true] at h
  rw [h.1, h.2.1, h.2.2]
  rfl
/-- An open map lets each route pass that may be. -/
theorem open_pass {m : List Kl} {ls : List Ll} {pa pb : Int} {a : At} {g : ByteArray → Bool} {r : Rs} (ho : openB m = true) (hr : routeOk pa pb a = true) (h : RunTo (mapOk m) (routeOk pa pb a) (metP ls pa pb a g) m a r) : r.pass = true := by
  unfold openB at ho
  rw [Bool.and_eq_true] at ho
  obtain ⟨hm, ho⟩ := ho
  rw [hm, hr] at h
  unfold RunTo at h
  rw [if_pos ⟨rfl, rfl⟩] at h
  cases hf : m.find? openQ with
  | none => rw [hf] at ho; cases ho
  | some c =>
    rw [hf] at ho
    change easyB c = true at ho
    obtain ⟨hq, k, hk, rfl, hb⟩ := List.find?_eq_some_iff_getElem.1 hf
    have hask : askNo m[k] = true := by
      unfold openQ at hq
      rw [ho] at hq
      exact hq
    have hmet := ask_met ls pa pb a g hask
    have hmay : At.may a = true := by
      unfold routeOk at hr
      rw [Bool.and_eq_true] at hr
      exact hr.2
    rcases h with ⟨hno, _⟩ | ⟨c', hc', hd⟩
    · rw [List.find?_eq_none] at hno
      exact absurd hmet (hno _ (List.getElem_mem hk))
    · obtain ⟨hq', k', hk', rfl, hb'⟩ := List.find?_eq_some_iff_getElem.1 hc'
      have hle : k' ≤ k := by
        rcases Nat.lt_or_ge k k' with h | h
        · have := hb' k h
          rw [hmet] at this
          cases this
        · exact h
      have he : easyB m[k'] = true := by
        rcases Nat.lt_or_ge k' k with h | h
        · have := hb k' h
          unfold openQ at this
          cases hz : easyB m[k'] with
          | true => rfl
          | false => rw [hz] at this; simp at this
        · obtain rfl : k' = k := by omega
          exact ho
      obtain ⟨e1, e2, e3⟩ := easy_parts he
      unfold DecTo at hd
      rw [if_pos e1] at hd
      obtain ⟨d, q, hdo, rfl⟩ := hd
      have := do_easy hmay (map_ok hm _ (List.getElem_mem hk')).2 e2 e3 hdo
      show (q == 0) = true
      simp [this]
end Go.Proofs.YtngfoijmknclhaaGreatDoor
