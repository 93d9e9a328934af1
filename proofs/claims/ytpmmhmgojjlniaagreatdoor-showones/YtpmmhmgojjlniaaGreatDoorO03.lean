/- The document's Same of clauses that are the same. -/
import Derived.Test.YtpmmhmgojjlniaaGreatDoorO02
namespace Go.Proofs.YtpmmhmgojjlniaaGreatDoor
open Go.RowKit Go.Sort

theorem cell_of {w : World} {b : Nat} {cs : Array Value} {t : TypeId} (h : w.heap[b]? = some (.cells cs t (0, 0))) (i : Nat) {u : Value} (hi : cs[i]? = some u) : w.cell? ⟨b, i, none⟩ = some u := by
  simp [World.cell?, h, hi]
theorem two_boxes (w : World) (x y : Array Value) (t : TypeId) : Below w.heap.size w ((w.alloc (.cells x t)).alloc (.cells y t)) ∧ ((w.alloc (.cells x t)).alloc (.cells y t)).heap[w.heap.size]? = some (.cells x t (0, 0)) ∧ ((w.alloc (.cells x t)).alloc (.cells y t)).heap[w.heap.size + 1]? = some (.cells y t (0, 0)) := by
  refine ⟨balloc (balloc (brefl w) _) _, ?_, ?_⟩
  · exact ((balloc (brefl (w.alloc (.cells x t))) (.cells y t)).block w.heap.size (by rw [size_alloc]; omega)).trans (heap_new w x t)
  · have h := heap_new (w.alloc (.cells x t)) y t
    rw [size_alloc] at h
    exact h
/-- A clause as a value. -/
def clV (c : Cl) (va vd vp : Value) : Value := .agg #[.int .i64 c.n, .bool c.ok, .string c.m.list, .string c.m.path, .int .i64 c.m.ca, .int .i64 c.m.cn, .int .i64 c.s.pref, .int .i64 c.s.med, .int .i64 c.s.org, va, vd, .bool c.s.clr, vp]
set_option maxHeartbeats 4000000 in
set_option maxRecDepth 100000 in
theorem sameClause_is {c : Cl} {va vd vp vb ve vq : Value} (w : World) (h1 : Rd w 2 PrR va c.s.add) (h2 : Rd w 2 PrR vd c.s.del) (h3 : Rd w 1 InR vp c.s.prep) (h4 : Rd w 2 PrR vb c.s.add) (h5 : Rd w 2 PrR ve c.s.del) (h6 : Rd w 1 InR vq c.s.prep) (hz : c.s.add.length ≤ 100000 ∧ c.s.del.length ≤ 100000 ∧ c.s.prep.length ≤ 100000) :
    Calls Tryz.prog 45 #[clV c va vd vp, clV c vb ve vq] w fun e w' => e = .returned (.bool true) ∧ Below w.heap.size w w' := by
  obtain ⟨n, ok, ⟨ml, mp, ca, cn⟩, ⟨pref, med, org, add, del, clr, prep⟩⟩ := c
  simp only [clV] at *
  obtain ⟨oa, ka, rfl⟩ := h1.slice
  obtain ⟨od, kd, rfl⟩ := h2.slice
  obtain ⟨op, kp, rfl⟩ := h3.slice
  obtain ⟨ob, kb, rfl⟩ := h4.slice
  obtain ⟨oe, ke, rfl⟩ := h5.slice
  obtain ⟨oq, kq, rfl⟩ := h6.slice
  obtain ⟨z1, z2, z3⟩ := hz
  have TB := two_boxes w #[.int .i64 n, .bool ok, .string ml, .string mp, .int .i64 ca, .int .i64 cn, .int .i64 pref, .int .i64 med, .int .i64 org, .slice oa add.length ka, .slice od del.length kd, .bool clr, .slice op prep.length kp] #[.int .i64 n, .bool ok, .string ml, .string mp, .int .i64 ca, .int .i64 cn, .int .i64 pref, .int .i64 med, .int .i64 org, .slice ob add.length kb, .slice oe del.length ke, .bool clr, .slice oq prep.length kq] 61
  obtain ⟨N1, hN1⟩ : ∃ N, add.length = N := ⟨_, rfl⟩
  obtain ⟨N2, hN2⟩ : ∃ N, del.length = N := ⟨_, rfl⟩
  obtain ⟨N3, hN3⟩ : ∃ N, prep.length = N := ⟨_, rfl⟩
  have B0 := hide TB.1
  have HA := hide TB.2.1
  have HB := hide TB.2.2
  have R1 := hide (h1.below PrR.mono TB.1)
  have R2 := hide (h2.below PrR.mono TB.1)
  have R3 := hide (h3.below InR.mono TB.1)
  have R4 := hide (h4.below PrR.mono TB.1)
  have R5 := hide (h5.below PrR.mono TB.1)
  have R6 := hide (h6.below InR.mono TB.1)
  have HL : Hid (add.length = N1 ∧ del.length = N2 ∧ prep.length = N3) := ⟨hN1, hN2, hN3⟩
  simp only [hN1, hN2, hN3] at z1 z2 z3 B0 HA HB R1 R2 R3 R4 R5 R6 ⊢
  clear TB h1 h2 h3 h4 h5 h6 hN1 hN2 hN3
  go_enter Tryz.func45, Tryz.ntmps45
  go_upto_region 1 with fail
  obtain ⟨p, hp⟩ : ∃ p, w.heap.size = p := ⟨_, rfl⟩
  obtain ⟨q, hq⟩ : ∃ q, w.heap.size + 1 = q := ⟨_, rfl⟩
  rw [hp] at HA
  rw [hq] at HB
  rw [hq, hp]
  generalize (w.alloc (.cells #[.int .i64 n, .bool ok, .string ml, .string mp, .int .i64 ca, .int .i64 cn, .int .i64 pref, .int .i64 med, .int .i64 org, .slice oa N1 ka, .slice od N2 kd, .bool clr, .slice op N3 kp] 61)).alloc (.cells #[.int .i64 n, .bool ok, .string ml, .string mp, .int .i64 ca, .int .i64 cn, .int .i64 pref, .int .i64 med, .int .i64 org, .slice ob N1 kb, .slice oe N2 ke, .bool clr, .slice oq N3 kq] 61) = W at *
  clear hp hq
  have a0 := cell_of HA.out 0 rfl
  have a1 := cell_of HA.out 1 rfl
  have a2 := cell_of HA.out 2 rfl
  have a3 := cell_of HA.out 3 rfl
  have a4 := cell_of HA.out 4 rfl
  have a5 := cell_of HA.out 5 rfl
  have a6 := cell_of HA.out 6 rfl
  have a7 := cell_of HA.out 7 rfl
  have a8 := cell_of HA.out 8 rfl
  have a9 := cell_of HA.out 9 rfl
  have a10 := cell_of HA.out 10 rfl
  have a11 := cell_of HA.out 11 rfl
  have a12 := cell_of HA.out 12 rfl
  have b0 := cell_of HB.out 0 rfl
  have b1 := cell_of HB.out 1 rfl
  have b2 := cell_of HB.out 2 rfl
  have b3 := cell_of HB.out 3 rfl
  have b4 := cell_of HB.out 4 rfl
  have b5 := cell_of HB.out 5 rfl
  have b6 := cell_of HB.out 6 rfl
  have b7 := cell_of HB.out 7 rfl
  have b8 := cell_of HB.out 8 rfl
  have b9 := cell_of HB.out 9 rfl
  have b10 := cell_of HB.out 10 rfl
  have b11 := cell_of HB.out 11 rfl
  have b12 := cell_of HB.out 12 rfl
  go_upto_region 3 with fail
  clear a0 b0 a1 b1 a2 b2 a3 b3 a4 b4 a5 b5 a6 b6 a7 b7 a8 b8 a9 b9 a10 b10 a11 b11 a12 b12
  go_wp2_with fail
  go_loopw [5] (fun v wr => ∃ k : Nat, v = .int .i64 k ∧ k ≤ N3 ∧ Hid (Below W.heap.size W wr)) (fun v _ => N3 - (intOf v).toNat)
  case atStart => exact ⟨0, rfl, Nat.zero_le _, brefl W⟩
  case round =>
    obtain ⟨k, rfl, hk, HBR⟩ := hrel
    have HA' := hide ((HBR.out.block p (heap_lt HA.out)).trans HA.out)
    have HB' := hide ((HBR.out.block q (heap_lt HB.out)).trans HB.out)
    have a12 := cell_of HA'.out 12 rfl
    have b12 := cell_of HB'.out 12 rfl
    by_cases hkl : k < N3
    · have hkl' : (k : Int) < (N3 : Int) := by omega
      obtain ⟨b, off, xs, rfl, hbw, hx, ha⟩ := (Rd.below InR.mono R3.out HBR.out).at_ (j := k) (by rw [HL.out.2.2]; exact hkl)
      obtain ⟨b2, off2, ys, rfl, hbw2, hy, hc⟩ := (Rd.below InR.mono R6.out HBR.out).at_ (j := k) (by rw [HL.out.2.2]; exact hkl)
      generalize prep[k]'(by rw [HL.out.2.2]; exact hkl) = y at *
      unfold InR at hx hy
      subst hx hy
      have c0 := ha 0 _ rfl
      have d0 := hc 0 _ rfl
      simp only [Nat.add_zero, Nat.mul_one] at c0 d0
      clear ha hc
      have ra := fun dd os => cell_regrown a12 dd os
      have rb := fun dd os => cell_regrown b12 dd os
      have rc := fun dd os => cell_regrown c0 dd os
      have rd := fun dd os => cell_regrown d0 dd os
      go_wp2_with fail
      refine wp_region_quiet_below (by kernel_rfl) (by kernel_rfl) ?_
      repeat (go_big_quiet_step (fail))
      refine wpQuiet_nil ?_
      rintro _ ⟨⟨dd, os⟩, rfl⟩
      have hb1 := below_regrown wr dd os
      generalize Sort.grow (redrawn wr dd) os = w1 at hb1
      have B1 := hide (bthen HBR.out hb1)
      clear hb1 ra rb rc rd a12 b12 c0 d0 HA' HB'
      go_wp2_with fail
      exact ⟨⟨k + 1, by go_num, by omega, B1⟩, by simp [intOf] <;> omega⟩
    · have hkl' : ¬ (k : Int) < (N3 : Int) := by omega
      have C1 := hide (fun W hb => sameComms_is (.slice oa N1 ka) (.slice ob N1 kb) add W (Rd.below PrR.mono R1.out hb) (Rd.below PrR.mono R4.out hb) (by rw [HL.out.1]; exact z1))
      have C2 := hide (fun W hb => sameComms_is (.slice od N2 kd) (.slice oe N2 ke) del W (Rd.below PrR.mono R2.out hb) (Rd.below PrR.mono R5.out hb) (by rw [HL.out.2.1]; exact z2))
      have a9 := cell_of HA'.out 9 rfl
      have b9 := cell_of HB'.out 9 rfl
      go_wp2_with fail
      refine (C1.out wr HBR.out).mono ?_
      rintro e w1 ⟨rfl, hb1⟩
      have B1 := hide (bthen HBR.out hb1)
      have a10 := cell_of ((hb1.block p (heap_lt HA'.out)).trans HA'.out) 10 rfl
      have b10 := cell_of ((hb1.block q (heap_lt HB'.out)).trans HB'.out) 10 rfl
      clear hb1 a9 b9 a12 b12 HA' HB'
      go_wp2_with fail
      refine (C2.out w1 B1.out).mono ?_
      rintro e w2 ⟨rfl, hb2⟩
      have B2 := hide (bthen B0.out (bthen B1.out hb2))
      clear hb2 a10 b10
      go_wp2_with fail
      go_ret
      exact ⟨rfl, B2.out⟩
end Go.Proofs.YtpmmhmgojjlniaaGreatDoor
namespace Go.Proofs.YtpmmhmgojjlniaaGreatDoor
open Go.RowKit Go.Sort

/-- A thing as a value. -/
def VR {α : Type} (z : Nat) (R : World → α → List Value → Prop) (w : World) (a : α) (v : Value) : Prop := ∃ xs, R w a xs ∧ xs.length = z ∧ v = (if z = 1 then xs.headD undef else .agg xs.toArray)
theorem VR.mono {α : Type} {z : Nat} {R : World → α → List Value → Prop} (hR : Mono R) {w w' : World} {a : α} {v : Value} (h : VR z R w a v) (hb : Below w.heap.size w w') : VR z R w' a v := by
  obtain ⟨xs, h1, h2⟩ := h
  exact ⟨xs, hR _ _ _ _ hb h1, h2⟩
/-- A function value that answers p of things. -/
structure FnIs {α : Type} (W0 : World) (f : Nat) (caps : Array Value) (z : Nat) (R : World → α → List Value → Prop) (G : α → Prop) (p : α → Bool) : Prop where
  enter : ∀ (args : Array Value) (w : World), (callFunc f args).run Tryz.prog w = .ok (.enter f args) w
  ok : ∀ (W : World) (a : α) (x : Value), Below W0.heap.size W0 W → VR z R W a x → G a → Calls Tryz.prog f (#[x] ++ caps) W fun e w' => e = .returned (.bool (p a)) ∧ Below W.heap.size W w'
theorem FnIs.from {α : Type} {W0 W1 : World} {f : Nat} {caps : Array Value} {z : Nat} {R : World → α → List Value → Prop} {G : α → Prop} {p : α → Bool} (h : FnIs W0 f caps z R G p) (hb : Below W0.heap.size W0 W1) : FnIs W1 f caps z R G p := ⟨h.enter, fun W a x hW hx hg => h.ok W a x (bthen hb hW) hx hg⟩
/-- The like for texts. -/
structure FnKey {α : Type} (W0 : World) (f : Nat) (caps : Array Value) (z : Nat) (R : World → α → List Value → Prop) (G : α → Prop) (k : α → ByteArray) : Prop where
  enter : ∀ (args : Array Value) (w : World), (callFunc f args).run Tryz.prog w = .ok (.enter f args) w
  ok : ∀ (W : World) (a : α) (x : Value), Below W0.heap.size W0 W → VR z R W a x → G a → Calls Tryz.prog f (#[x] ++ caps) W fun e w' => e = .returned (.string (k a)) ∧ Below W.heap.size W w'
theorem FnKey.from {α : Type} {W0 W1 : World} {f : Nat} {caps : Array Value} {z : Nat} {R : World → α → List Value → Prop} {G : α → Prop} {k : α → ByteArray} (h : FnKey W0 f caps z R G k) (hb : Below W0.heap.size W0 W1) : FnKey W1 f caps z R G k := ⟨h.enter, fun W a x hW hx hg => h.ok W a x (bthen hb hW) hx hg⟩
/-- A place tells whether there is one. -/
def AnyIs (i : Int) (b : Bool) : Prop := 0 ≤ i ↔ b = true
theorem any_take {α : Type} {p : α → Bool} {l : List α} {k : Nat} (h : k < l.length) : (l.take (k + 1)).any p = ((l.take k).any p || p l[k]) := by
  rw [List.take_succ_eq_append_getElem h, List.any_append]
  simp
theorem any_of_at {α : Type} {p : α → Bool} {l : List α} {k : Nat} (h : k < l.length) (hp : p l[k] = true) : l.any p = true := List.any_eq_true.2 ⟨l[k], List.getElem_mem h, hp⟩
theorem PxR.len {w : World} {c : Int × Int} {x : List Value} (h : PxR w c x) : x.length = 2 := by rw [h]; rfl
theorem PrR.len {w : World} {c : Int × Int} {x : List Value} (h : PrR w c x) : x.length = 2 := by rw [h]; rfl
theorem InR.len {w : World} {c : Int} {x : List Value} (h : InR w c x) : x.length = 1 := by rw [h]; rfl
theorem NbR.len {w : World} {c : Nb} {x : List Value} (h : NbR w c x) : x.length = 4 := by rw [h]; rfl
theorem LkR.len {w : World} {c : Lk} {x : List Value} (h : LkR w c x) : x.length = 2 := by rw [h]; rfl
theorem ClR.len {w : World} {c : Cl} {x : List Value} (h : ClR w c x) : x.length = 13 := by obtain ⟨va, vd, vp, rfl, _⟩ := h; rfl
theorem LsR.len {w : World} {c : Ls} {x : List Value} (h : LsR w c x) : x.length = 2 := by obtain ⟨v, rfl, _⟩ := h; rfl
theorem MpR.len {w : World} {c : Mp} {x : List Value} (h : MpR w c x) : x.length = 2 := by obtain ⟨v, rfl, _⟩ := h; rfl
theorem RtR.len {w : World} {c : Rt} {x : List Value} (h : RtR w c x) : x.length = 6 := by obtain ⟨a, b, c, rfl, _⟩ := h; rfl
theorem list1 {xs : List Value} (h : xs.length = 1) : ∃ x0, xs = [x0] := by
  match xs, h with
  | [x0], _ => exact ⟨x0, rfl⟩
theorem list2 {xs : List Value} (h : xs.length = 2) : ∃ x0 x1, xs = [x0, x1] := by
  match xs, h with
  | [x0, x1], _ => exact ⟨x0, x1, rfl⟩
theorem list4 {xs : List Value} (h : xs.length = 4) : ∃ x0 x1 x2 x3, xs = [x0, x1, x2, x3] := by
  match xs, h with
  | [x0, x1, x2, x3], _ => exact ⟨x0, x1, x2, x3, rfl⟩
theorem list6 {xs : List Value} (h : xs.length = 6) : ∃ x0 x1 x2 x3 x4 x5, xs = [x0, x1, x2, x3, x4, x5] := by
  match xs, h with
  | [x0, x1, x2, x3, x4, x5], _ => exact ⟨x0, x1, x2, x3, x4, x5, rfl⟩
theorem list13 {xs : List Value} (h : xs.length = 13) : ∃ x0 x1 x2 x3 x4 x5 x6 x7 x8 x9 x10 x11 x12, xs = [x0, x1, x2, x3, x4, x5, x6, x7, x8, x9, x10, x11, x12] := by
  match xs, h with
  | [x0, x1, x2, x3, x4, x5, x6, x7, x8, x9, x10, x11, x12], _ => exact ⟨x0, x1, x2, x3, x4, x5, x6, x7, x8, x9, x10, x11, x12, rfl⟩
end Go.Proofs.YtpmmhmgojjlniaaGreatDoor
namespace Go.Proofs.YtpmmhmgojjlniaaGreatDoor
open Go.RowKit Go.Sort

theorem but_pb {E : En} {w w' : World} {st : Sta} (h : Ps E w st) (hb : But (but1 E.pb) w w') : Below E.w0.heap.size E.w0 w' := h.1.trans (hb.below (fun k e => by rw [show k = E.pb from e]; exact h.2.1) h.1.size)
/-- Four cells set. -/
abbrev set4 (w : World) (b : Nat) (v0 v1 v2 v3 : Value) : World := (((w.setCell ⟨b, 0, none⟩ v0).setCell ⟨b, 1, none⟩ v1).setCell ⟨b, 2, none⟩ v2).setCell ⟨b, 3, none⟩ v3
theorem four_set {w : World} {b t : Nat} {x0 x1 x2 x3 : Value} (h : w.heap[b]? = some (.cells #[x0, x1, x2, x3] t (0, 0))) (v0 v1 v2 v3 : Value) : (set4 w b v0 v1 v2 v3).heap[b]? = some (.cells #[v0, v1, v2, v3] t (0, 0)) :=
  heap_setCell_same _ b 3 _ t v3 (heap_setCell_same _ b 2 _ t v2 (heap_setCell_same _ b 1 _ t v1 (heap_setCell_same w b 0 _ t v0 h)))
theorem But.put4 {S : Nat → Prop} {w w' : World} (h : But S w w') {b : Nat} (hp : S b ∨ w.heap.size ≤ b) (v0 v1 v2 v3 : Value) : But S w (set4 w' b v0 v1 v2 v3) :=
  (((h.setCell (p := ⟨b, 0, none⟩) hp v0).setCell (p := ⟨b, 1, none⟩) hp v1).setCell (p := ⟨b, 2, none⟩) hp v2).setCell (p := ⟨b, 3, none⟩) hp v3
theorem far4 {w : World} {b j : Nat} {x : Obj} (h : w.heap[j]? = some x) (hn : j ≠ b) (v0 v1 v2 v3 : Value) : (set4 w b v0 v1 v2 v3).heap[j]? = some x := set_far (set_far (set_far (set_far h hn) hn) hn) hn
theorem Ps.put {E : En} {w : World} {st : Sta} (h : Ps E w st) {p : Addr} (hb : p.block ≠ E.pb) (hw : E.w0.heap.size ≤ p.block) (v : Value) : Ps E (w.setCell p v) st :=
  h.of (S := fun k => k = p.block) ((But.refl (fun k => k = p.block) w).setCell (p := p) (.inl rfl) v) (fun e => hb e.symm) (fun k e => by rw [e]; exact hw)
theorem Ps.put4 {E : En} {w : World} {st : Sta} (h : Ps E w st) {b : Nat} (hb : b ≠ E.pb) (hw : E.w0.heap.size ≤ b) (v0 v1 v2 v3 : Value) : Ps E (set4 w b v0 v1 v2 v3) st :=
  (((h.put (p := ⟨b, 0, none⟩) hb hw v0).put (p := ⟨b, 1, none⟩) hb hw v1).put (p := ⟨b, 2, none⟩) hb hw v2).put (p := ⟨b, 3, none⟩) hb hw v3
set_option maxHeartbeats 2000000 in
set_option maxRecDepth 100000 in
theorem fault_is (E : En) (st : Sta) (t : Tv) (e : Int) (w : World) (h : Ps E w st) : Calls Tryz.prog 110 #[.pointer (some ⟨E.pb, 0, none⟩), t.val, .int .i64 e] w fun r w' => r = .returned (.tuple #[]) ∧ But (but1 E.pb) w w' ∧ Ps E w' (faulted t e st) := by
  have H := hide h
  obtain ⟨tk, tt, tp, tq⟩ := t
  obtain ⟨W0, pb, en⟩ := E
  obtain ⟨h1, h2, ao, n, c, a1, a2, x, hg, hv⟩ := h
  have A0 := hide (But.of (S := but1 pb) (balloc (brefl w) (.cells #[.int .i64 tk, .string tt, .int .i64 tp, .int .i64 tq] 161)))
  have N0 := hide (heap_new w #[.int .i64 tk, .string tt, .int .i64 tp, .int .i64 tq] 161)
  have PA := hide (H.out.alloc (.cells #[.int .i64 tk, .string tt, .int .i64 tp, .int .i64 tq] 161))
  have G0 := hide (((balloc (brefl w) (.cells #[.int .i64 tk, .string tt, .int .i64 tp, .int .i64 tq] 161)).block pb (heap_lt hg)).trans hg)
  have HNE : Hid (w.heap.size ≠ pb) := by have := heap_lt hg; show _ ≠ _; simp only at this; omega
  have HV := hide hv
  simp only [Tv.val] at *
  clear h1 h2 hg hv
  go_enter Tryz.func110, Tryz.ntmps110
  go_upto_region 1 with fail
  obtain ⟨tb, htb⟩ : ∃ tb, w.heap.size = tb := ⟨_, rfl⟩
  have HTW : Hid (w.heap.size ≤ tb) := Nat.le_of_eq htb
  rw [htb] at N0 HNE ⊢
  generalize w.alloc (.cells #[.int .i64 tk, .string tt, .int .i64 tp, .int .i64 tq] 161) = W at *
  clear htb
  obtain ⟨⟨z0, z1, z2, z3, z4, z5⟩, y0, y3, y4, y5⟩ := six_cells G0.out
  cases st with
  | good r l =>
    obtain ⟨hr, hnc, hnb, hzz, hsl, rfl, rfl, rfl⟩ := HV.out
    by_cases he : e = 0
    · subst he
      have HST : Hid (faulted ⟨tk, tt, tp, tq⟩ 0 (.good r l) = .good r l) := rfl
      go_wp2_with fail
      go_end0
      refine ⟨rfl, A0.out, ?_⟩
      rw [HST.out]
      exact PA.out
    · have he' : (e != 0) = true := by rw [bne_iff_ne]; exact he
      have HST : Hid (faulted ⟨tk, tt, tp, tq⟩ e (.good r l) = .bad tp tq e) := if_neg he
      have HE := hide he
      clear he hr hnc hnb hsl hzz
      go_upto_region 2 with fail
      clear he'
      obtain ⟨⟨c0, c1, c2, c3⟩, _⟩ := four_cells N0.out
      have G1 := hide (heap_setCell_same _ pb 3 _ 105 (.int .i64 tp) G0.out)
      have G2 := hide (heap_setCell_same _ pb 4 _ 105 (.int .i64 tq) G1.out)
      have G3 := hide (heap_setCell_same _ pb 5 _ 105 (.int .i64 e) G2.out)
      have G4 := hide (heap_setCell_same _ pb 0 _ 105 (.slice none 0 0) G3.out)
      have A4 := hide ((((A0.out.setCell (p := ⟨pb, 3, none⟩) (.inl rfl) (.int .i64 tp)).setCell (p := ⟨pb, 4, none⟩) (.inl rfl) (.int .i64 tq)).setCell (p := ⟨pb, 5, none⟩) (.inl rfl) (.int .i64 e)).setCell (p := ⟨pb, 0, none⟩) (.inl rfl) (.slice none 0 0))
      go_wp2_with fail
      go_end0
      refine ⟨rfl, A4.out, ?_⟩
      rw [HST.out]
      exact ⟨but_pb H.out A4.out, H.out.2.1, none, 0, 0, tp, tq, e, G4.out, rfl, rfl, rfl, rfl, rfl, rfl, HE.out⟩
  | bad p q y =>
    obtain ⟨rfl, rfl, rfl, rfl, rfl, rfl, hx⟩ := HV.out
    have hx' : (x == 0) = false := by rw [beq_eq_false_iff_ne]; exact hx
    go_wp2_with fail
    go_end0
    exact ⟨rfl, A0.out, PA.out⟩
end Go.Proofs.YtpmmhmgojjlniaaGreatDoor
namespace Go.Proofs.YtpmmhmgojjlniaaGreatDoor
open Go.RowKit Go.Sort

theorem taken_fault (en : Int × Int) (st : Sta) (h : ∀ t r l, st ≠ .good (t :: r) l) : (taken en st).1 = ⟨0, bs [], en.1, en.2⟩ ∧ (taken en st).2 = faulted ⟨0, bs [], en.1, en.2⟩ 3 st := by
  cases st with
  | good r l =>
    cases r with
    | nil => exact ⟨rfl, rfl⟩
    | cons t r => exact absurd rfl (h t r l)
  | bad p q e => exact ⟨rfl, rfl⟩
set_option maxHeartbeats 2000000 in
set_option maxRecDepth 100000 in
theorem next_none (E : En) (st : Sta) (w : World) (h : Ps E w st) (hst : ∀ t r l, st ≠ .good (t :: r) l) : Calls Tryz.prog 104 #[.pointer (some ⟨E.pb, 0, none⟩)] w fun r w' => r = .returned (taken E.en st).1.val ∧ But (but1 E.pb) w w' ∧ Ps E w' (taken E.en st).2 := by
  obtain ⟨e1, e2⟩ := taken_fault E.en st hst
  rw [e1, e2]
  clear e1 e2
  have CF := hide (fault_is E st ⟨0, bs [], E.en.1, E.en.2⟩ 3)
  have H := hide h
  obtain ⟨W0, pb, ⟨en1, en2⟩⟩ := E
  obtain ⟨h1, h2, ao, n, c, a1, a2, x, hg, hv⟩ := h
  obtain rfl : n = 0 := by
    cases st with
    | good r l =>
      cases r with
      | nil => exact hv.1.symm
      | cons t r => exact absurd rfl (hst t r l)
    | bad p q e => exact hv.2.1
  have HW0 : Hid (W0.heap.size ≤ w.heap.size) := h1.size
  clear hv h1 h2 hst
  simp only [Tv.val] at *
  have A1 := hide (balloc (brefl w) (.cells #[.int .i64 0, .string ⟨#[]⟩, .int .i64 0, .int .i64 0] 161))
  have N1 := hide (heap_new w #[.int .i64 0, .string ⟨#[]⟩, .int .i64 0, .int .i64 0] 161)
  have G1 := hide ((A1.out.block pb (heap_lt hg)).trans hg)
  have P1 := hide (H.out.below A1.out)
  have HL := hide (heap_lt hg)
  clear hg H
  go_enter Tryz.func104, Tryz.ntmps104
  go_upto_region 1 with fail
  obtain ⟨rb, hrb⟩ : ∃ rb, w.heap.size = rb := ⟨_, rfl⟩
  have HRW : Hid (w.heap.size ≤ rb ∧ rb ≠ pb) := by have h9 := HL.out; exact ⟨Nat.le_of_eq hrb, by omega⟩
  rw [hrb] at N1 ⊢
  generalize w.alloc (.cells #[.int .i64 0, .string ⟨#[]⟩, .int .i64 0, .int .i64 0] 161) = W1 at *
  clear hrb
  obtain ⟨⟨z0, z1, z2, z3, z4, z5⟩, y0, y3, y4, y5⟩ := six_cells G1.out
  have A2 := hide (balloc (brefl W1) (.cells #[.int .i64 0, .string ⟨#[]⟩, .int .i64 en1, .int .i64 en2] 161))
  have N2 := hide (heap_new W1 #[.int .i64 0, .string ⟨#[]⟩, .int .i64 en1, .int .i64 en2] 161)
  have P2 := hide (P1.out.below A2.out)
  have R2 := hide ((A2.out.block rb (heap_lt N1.out)).trans N1.out)
  have HTN : Hid (W1.heap.size ≠ pb ∧ W1.heap.size ≠ rb) := by have h1 := heap_lt G1.out; have h2 := heap_lt N1.out; exact ⟨by omega, by omega⟩
  go_upto_region 3 with fail
  obtain ⟨tb, htb⟩ : ∃ tb, W1.heap.size = tb := ⟨_, rfl⟩
  rw [htb] at N2 HTN ⊢
  have B2 := hide (bthen A1.out A2.out)
  generalize W1.alloc (.cells #[.int .i64 0, .string ⟨#[]⟩, .int .i64 en1, .int .i64 en2] 161) = W2 at *
  clear htb z0 z1 z2 z3 z4 z5 y0 y3 y4 y5 A1 A2 N1 G1 P1
  obtain ⟨⟨c0, c1, c2, c3⟩, _⟩ := four_cells N2.out
  go_wp2_with fail
  refine (CF.out _ P2.out).mono ?_
  rintro e w3 ⟨rfl, b3, p3⟩
  have N3 := hide (b3.keep N2.out HTN.out.1)
  have R3 := hide (b3.keep R2.out HRW.out.2)
  have B3 := hide ((But.of (S := but1 pb) B2.out).trans b3)
  have P3 := hide p3
  clear b3 p3 CF c0 c1 c2 c3 N2 R2 B2 P2
  obtain ⟨⟨c0, c1, c2, c3⟩, _⟩ := four_cells N3.out
  obtain ⟨⟨d0, d1, d2, d3⟩, f0, f1, f2, f3⟩ := four_cells R3.out
  go_wp2_with fail
  refine bodyPost_ret (v := .agg #[.int .i64 0, .string ⟨#[]⟩, .int .i64 en1, .int .i64 en2]) ?_ rfl ⟨rfl, B3.out.put4 (.inr HRW.out.1) (.int .i64 0) (.string ⟨#[]⟩) (.int .i64 en1) (.int .i64 en2), P3.out.put4 HRW.out.2 (Nat.le_trans HW0.out HRW.out.1) (.int .i64 0) (.string ⟨#[]⟩) (.int .i64 en1) (.int .i64 en2)⟩
  obtain ⟨⟨t0, t1, t2, t3⟩, _⟩ := four_cells (four_set R3.out (.int .i64 0) (.string ⟨#[]⟩) (.int .i64 en1) (.int .i64 en2))
  simp [results, Tryz.results104, go_sem, t0, t1, t2, t3]
/-- The place of a slice without its first token. -/
def cut1 (ao : Option Addr) (c : Nat) : Option Addr := if c = 1 then ao else ao.map (·.add 4)
theorem slot_cut1 {w : World} {ao : Option Addr} {t : Tv} {r : List Tv} {c : Nat} (h : Tv.slot w ao (t :: r)) (hc : (t :: r).length ≤ c) : Tv.slot w (cut1 ao c) r := by
  rcases h with h | ⟨b, off, rfl, h⟩
  · cases h
  · unfold cut1
    split
    · left
      simp only [List.length_cons] at hc
      exact List.length_eq_zero_iff.1 (by omega)
    · right
      refine ⟨b, off + 4, rfl, fun j hj => ?_⟩
      have := h (j + 1) (by simp only [List.length_cons]; omega)
      rw [show off + (j + 1) * 4 = off + 4 + j * 4 by omega] at this
      exact this
set_option maxHeartbeats 2000000 in
set_option maxRecDepth 100000 in
theorem next_some (E : En) (t : Tv) (r : List Tv) (l : Int × Int) (w : World) (h : Ps E w (.good (t :: r) l)) : Calls Tryz.prog 104 #[.pointer (some ⟨E.pb, 0, none⟩)] w fun x w' => x = .returned t.val ∧ But (but1 E.pb) w w' ∧ Ps E w' (.good r (t.p, t.q)) := by
  have H := hide h
  obtain ⟨W0, pb, ⟨en1, en2⟩⟩ := E
  obtain ⟨h1, h2, ao, n, c, a1, a2, x, hg, hr, hnc, hnb, hzz, hsl, rfl, rfl, rfl⟩ := h
  have HZZ : Hid (∀ t ∈ r, t.s.size ≤ 1000) := fun t ht => hzz t (List.mem_cons_of_mem _ ht)
  clear hzz
  obtain ⟨b, off, rfl, hat⟩ : ∃ b off, ao = some ⟨b, off, none⟩ ∧ Tv.at_ W0 b off t := by
    rcases hsl with h | ⟨b, off, rfl, h⟩
    · cases h
    · have := h 0 (by simp)
      rw [Nat.zero_mul, Nat.add_zero] at this
      exact ⟨b, off, rfl, this⟩
  have HSL := hide (slot_cut1 hsl (by rw [hr]; exact hnc))
  have hb : b < W0.heap.size := World.block_lt_of_cell? _ _ hat.1
  have hat2 : ∀ W, Below W0.heap.size W0 W → Tv.at_ W b off t := fun W hW => by
    unfold Tv.at_
    rw [hW.cell (p := ⟨b, off, none⟩) hb, hW.cell (p := ⟨b, off + 1, none⟩) hb, hW.cell (p := ⟨b, off + 2, none⟩) hb, hW.cell (p := ⟨b, off + 3, none⟩) hb]
    exact hat
  obtain ⟨tk, tt, tp, tq⟩ := t
  have HAT := hide hat2
  have HW0 := hide h1
  have HPB := hide h2
  have hn1 : 1 ≤ n := by rw [← hr]; simp
  have HRL : Hid (r.length = n - 1) := by show _ = _; rw [← hr]; simp
  clear hat hat2 hsl hr h1 h2
  simp only [Tv.val] at *
  have A1 := hide (balloc (brefl w) (.cells #[.int .i64 0, .string ⟨#[]⟩, .int .i64 0, .int .i64 0] 161))
  have N1 := hide (heap_new w #[.int .i64 0, .string ⟨#[]⟩, .int .i64 0, .int .i64 0] 161)
  have G1 := hide ((A1.out.block pb (heap_lt hg)).trans hg)
  have HL := hide (heap_lt hg)
  have HBW := hide (Nat.lt_of_lt_of_le hb HW0.out.size)
  clear hg
  have hnn : ¬ (n : Int) = 0 := by omega
  have hnb' : ((n : Int) == 0) = false := by rw [beq_eq_false_iff_ne]; exact hnn
  have hni : (1 : Int) ≤ (n : Int) := by omega
  have hci : (n : Int) ≤ (c : Int) := by omega
  have hc1 : (1 : Int) ≤ (c : Int) := by omega
  go_enter Tryz.func104, Tryz.ntmps104
  go_upto_region 1 with fail
  obtain ⟨rb, hrb⟩ : ∃ rb, w.heap.size = rb := ⟨_, rfl⟩
  have HRW : Hid (w.heap.size ≤ rb ∧ rb ≠ pb ∧ b < rb) := by have h9 := HL.out; have h8 := HBW.out; exact ⟨Nat.le_of_eq hrb, by omega, by omega⟩
  have hb1 : b < (w.alloc (.cells #[.int .i64 0, .string ⟨#[]⟩, .int .i64 0, .int .i64 0] 161)).heap.size := Nat.lt_of_lt_of_le HBW.out A1.out.size
  rw [hrb] at N1 ⊢
  generalize w.alloc (.cells #[.int .i64 0, .string ⟨#[]⟩, .int .i64 0, .int .i64 0] 161) = W1 at *
  clear hrb
  obtain ⟨⟨z0, z1, z2, z3, z4, z5⟩, y0, y3, y4, y5⟩ := six_cells G1.out
  obtain ⟨t0, t1, t2, t3⟩ := HAT.out W1 (HW0.out.trans (A1.out.mono HW0.out.size))
  simp only at t0 t1 t2 t3
  have A2 := hide (balloc (brefl W1) (.cells #[.int .i64 tk, .string tt, .int .i64 tp, .int .i64 tq] 161))
  have N2 := hide (heap_new W1 #[.int .i64 tk, .string tt, .int .i64 tp, .int .i64 tq] 161)
  have G2 := hide ((A2.out.block pb (heap_lt G1.out)).trans G1.out)
  have R2 := hide ((A2.out.block rb (heap_lt N1.out)).trans N1.out)
  have HTN : Hid (W1.heap.size ≠ pb ∧ W1.heap.size ≠ rb) := by have h1 := heap_lt G1.out; have h2 := heap_lt N1.out; exact ⟨by omega, by omega⟩
  go_upto_region 6 with fail
  obtain ⟨tb, htb⟩ : ∃ tb, W1.heap.size = tb := ⟨_, rfl⟩
  rw [htb] at N2 HTN ⊢
  have B2 := hide (bthen A1.out A2.out)
  generalize W1.alloc (.cells #[.int .i64 tk, .string tt, .int .i64 tp, .int .i64 tq] 161) = W2 at *
  clear htb z0 z1 z2 z3 z4 z5 y0 y3 y4 y5 A1 A2 N1 G1 t0 t1 t2 t3 hb1 hnb' hnn
  obtain ⟨⟨z0, z1, z2, z3, z4, z5⟩, y0, y3, y4, y5⟩ := six_cells G2.out
  by_cases hc : c = 1
  · subst hc
    obtain rfl : n = 1 := by omega
    have HS2 : Hid (Tv.slot W0 (some ⟨b, off, none⟩) r) := HSL.out
    go_upto_region 7 with fail
    have G3 := hide (heap_setCell_same _ pb 0 _ 105 (.slice (some ⟨b, off, none⟩) 0 0) G2.out)
    have N3 := hide (set_far (o := 0) (v := .slice (some ⟨b, off, none⟩) 0 0) N2.out HTN.out.1)
    have R3 := hide (set_far (o := 0) (v := .slice (some ⟨b, off, none⟩) 0 0) R2.out HRW.out.2.1)
    have B3 := hide ((But.of (S := but1 pb) B2.out).setCell (p := ⟨pb, 0, none⟩) (.inl rfl) (.slice (some ⟨b, off, none⟩) 0 0))
    clear z0 z1 z2 z3 z4 z5 y0 y3 y4 y5
    generalize W2.setCell ⟨pb, 0, none⟩ (.slice (some ⟨b, off, none⟩) 0 0) = W3 at *
    clear G2 N2 R2 B2
    obtain ⟨⟨c0, c1, c2, c3⟩, _⟩ := four_cells N3.out
    obtain ⟨⟨d0, d1, d2, d3⟩, f0, f1, f2, f3⟩ := four_cells R3.out
    go_wp2_with fail
    have B4 := hide (B3.out.put4 (.inr HRW.out.1) (.int .i64 tk) (.string tt) (.int .i64 tp) (.int .i64 tq))
    have G4 := hide (far4 G3.out (fun e => HRW.out.2.1 e.symm) (.int .i64 tk) (.string tt) (.int .i64 tp) (.int .i64 tq))
    refine bodyPost_ret (v := .agg #[.int .i64 tk, .string tt, .int .i64 tp, .int .i64 tq]) ?_ rfl ⟨rfl, B4.out, but_pb H.out B4.out, HPB.out, some ⟨b, off, none⟩, 0, 0, 0, 0, 0, G4.out, ?_, by omega, by omega, HZZ.out, HS2.out, rfl, rfl, rfl⟩
    · obtain ⟨⟨t0, t1, t2, t3⟩, _⟩ := four_cells (four_set R3.out (.int .i64 tk) (.string tt) (.int .i64 tp) (.int .i64 tq))
      simp [results, Tryz.results104, go_sem, t0, t1, t2, t3]
    · rw [HRL.out]
  · have hcc : ¬ (c : Int) = 1 := by omega
    have HS2 : Hid (Tv.slot W0 (some ⟨b, off + 4, none⟩) r) := by have h := HSL.out; rw [cut1, if_neg hc] at h; exact h
    clear hc
    go_upto_region 7 with fail
    have G3 := hide (heap_setCell_same _ pb 0 _ 105 (.slice (some ⟨b, off + 4, none⟩) (n - 1) (c - 1)) G2.out)
    have N3 := hide (set_far (o := 0) (v := .slice (some ⟨b, off + 4, none⟩) (n - 1) (c - 1)) N2.out HTN.out.1)
    have R3 := hide (set_far (o := 0) (v := .slice (some ⟨b, off + 4, none⟩) (n - 1) (c - 1)) R2.out HRW.out.2.1)
    have B3 := hide ((But.of (S := but1 pb) B2.out).setCell (p := ⟨pb, 0, none⟩) (.inl rfl) (.slice (some ⟨b, off + 4, none⟩) (n - 1) (c - 1)))
    clear z0 z1 z2 z3 z4 z5 y0 y3 y4 y5
    generalize W2.setCell ⟨pb, 0, none⟩ (.slice (some ⟨b, off + 4, none⟩) (n - 1) (c - 1)) = W3 at *
    clear G2 N2 R2 B2
    obtain ⟨⟨c0, c1, c2, c3⟩, _⟩ := four_cells N3.out
    obtain ⟨⟨d0, d1, d2, d3⟩, f0, f1, f2, f3⟩ := four_cells R3.out
    go_wp2_with fail
    have B4 := hide (B3.out.put4 (.inr HRW.out.1) (.int .i64 tk) (.string tt) (.int .i64 tp) (.int .i64 tq))
    have G4 := hide (far4 G3.out (fun e => HRW.out.2.1 e.symm) (.int .i64 tk) (.string tt) (.int .i64 tp) (.int .i64 tq))
    refine bodyPost_ret (v := .agg #[.int .i64 tk, .string tt, .int .i64 tp, .int .i64 tq]) ?_ rfl ⟨rfl, B4.out, but_pb H.out B4.out, HPB.out, some ⟨b, off + 4, none⟩, n - 1, c - 1, 0, 0, 0, G4.out, ?_, by omega, by omega, HZZ.out, HS2.out, rfl, rfl, rfl⟩
    · obtain ⟨⟨t0, t1, t2, t3⟩, _⟩ := four_cells (four_set R3.out (.int .i64 tk) (.string tt) (.int .i64 tp) (.int .i64 tq))
      simp [results, Tryz.results104, go_sem, t0, t1, t2, t3]
    · rw [HRL.out]
theorem next_is (E : En) (st : Sta) (w : World) (h : Ps E w st) : Calls Tryz.prog 104 #[.pointer (some ⟨E.pb, 0, none⟩)] w fun r w' => r = .returned (taken E.en st).1.val ∧ But (but1 E.pb) w w' ∧ Ps E w' (taken E.en st).2 := by
  cases st with
  | good r l =>
    cases r with
    | nil => exact next_none E _ w h (fun t r l e => by cases e)
    | cons t r => exact next_some E t r l w h
  | bad p q e => exact next_none E _ w h (fun t r l e => by cases e)
set_option maxHeartbeats 1000000 in
theorem word_is (t : Tv) (w : World) : Calls Tryz.prog 105 #[t.val] w fun r w' => r = .returned (.string (wd t.k t.s)) ∧ Below w.heap.size w w' := by
  obtain ⟨k, s, p, q⟩ := t
  have A1 := hide (balloc (brefl w) (.cells #[.int .i64 k, .string s, .int .i64 p, .int .i64 q] 161))
  simp only [Tv.val, wd]
  by_cases hk : k = 0
  · subst hk
    rw [if_pos rfl]
    go_enter Tryz.func105, Tryz.ntmps105
    go_wp2_with fail
    go_ret
    exact ⟨rfl, A1.out⟩
  · have hk' : (k != 0) = true := by rw [bne_iff_ne]; exact hk
    rw [if_neg hk]
    clear hk
    go_enter Tryz.func105, Tryz.ntmps105
    go_wp2_with fail
    go_ret
    exact ⟨rfl, A1.out⟩
theorem beq_tl (a b : ByteArray) : (a.toList == b.toList) = decide (a = b) := by
  rw [Bool.eq_iff_iff, decide_eq_true_eq, beq_iff_eq, ByteArray.toList_eq, ByteArray.toList_eq]
  constructor
  · intro h
    exact ByteArray.ext (Array.ext' h)
  · rintro rfl
    rfl
theorem dec_isM (m : UInt8) (k : Int) (s : ByteArray) : decide (isM m k s) = (decide (k = 2) && decide (s = bs [m])) := by
  by_cases h : isM m k s
  · rw [decide_eq_true h, decide_eq_true h.1, decide_eq_true h.2]
    rfl
  · rw [decide_eq_false h]
    by_cases h1 : k = 2
    · rw [decide_eq_false (fun h2 => h ⟨h1, h2⟩), Bool.and_false]
    · rw [decide_eq_false h1, Bool.false_and]
set_option maxHeartbeats 1000000 in
theorem isMark_is (m : UInt8) (t : Tv) (w : World) : Calls Tryz.prog 234 #[t.val, .string (bs [m])] w fun r w' => r = .returned (.bool (decide (isM m t.k t.s))) ∧ Below w.heap.size w w' := by
  obtain ⟨k, s, p, q⟩ := t
  have A1 := hide (balloc (brefl w) (.cells #[.int .i64 k, .string s, .int .i64 p, .int .i64 q] 161))
  simp only [Tv.val]
  rw [dec_isM]
  obtain ⟨M, hM⟩ : ∃ M, bs [m] = M := ⟨_, rfl⟩
  rw [hM]
  clear hM
  by_cases hk : k = 2
  · subst hk
    have hb := beq_tl s M
    go_enter Tryz.func234, Tryz.ntmps234
    go_wp2_with fail
    go_ret
    exact ⟨by simp, A1.out⟩
  · have hk' : (k == 2) = false := by rw [beq_eq_false_iff_ne]; exact hk
    go_enter Tryz.func234, Tryz.ntmps234
    go_wp2_with fail
    go_ret
    exact ⟨by simp [hk], A1.out⟩
end Go.Proofs.YtpmmhmgojjlniaaGreatDoor
