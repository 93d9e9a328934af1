/- Part of the proof. -/
import Derived.Test.YtnadhplhnfpeaaaGreatDoorAZ
import Derived.Test.YtnadhplhnfpeaaaGreatDoorA16
namespace Go.Proofs.YtnadhplhnfpeaaaGreatDoor
open Go.RowKit Go.Sort
theorem map_part {T : World → Prop} {F : Fn} (K : Kit12 T F) (E : En) (hT : T E.w0) (f : Nat) (hf : 100000 < f) (bx mb lb : Nat) (nm : ByteArray) (M : Nat) : PartIs E 66 #[.pointer (some ⟨bx, 0, none⟩), .pointer (some ⟨mb, 0, none⟩), .pointer (some ⟨lb, 0, none⟩)] (pMapPart F f) (MapInv E bx mb lb nm) M (fun l => l.length ≤ 16) where
  eg := by intro args w; go_simp
  keep := fun w w' S X l st h hi hb hX => hi.keep hb fun t h1 h2 k cs hk e => by
    rcases hX k e with rfl | ⟨_, _, cs', hk'⟩
    · exact h.av h1 _ cs hk rfl
    · rw [hk] at hk'
      cases hk'
      exact h2 rfl
  lt := fun w S l hi k hk => by
    obtain ⟨v, h1, h2, h3⟩ := hi.row
    rcases (h3 k).1 hk with (rfl | rfl) | h
    · exact heap_lt h1
    · exact heap_lt hi.last.1
    · exact (h2.lt k h).2.1
  fits := fun l k s st a hl ha => by
    unfold pMapPart at ha
    obtain ⟨b, _, h2⟩ := exec_some _ _ _ _ ha
    obtain ⟨u, h3, h4⟩ := exec_some _ _ _ _ h2
    have h5 := room_some _ _ _ _ h3
    obtain ⟨k2, s2, st2, h6⟩ := nx_some _ _ _ h4
    obtain ⟨n, _, h7⟩ := exec_some _ _ _ _ h6
    obtain ⟨r, _, h8⟩ := exec_some _ _ _ _ h7
    obtain rfl := rt_some _ _ _ h8
    rw [List.length_append]
    simp only [List.length_cons, List.length_nil]
    omega
  call := fun w S l st t h hi hat _ _ hl => by
    have e : #[t.val] ++ #[Value.pointer (some ⟨bx, 0, none⟩), .pointer (some ⟨mb, 0, none⟩), .pointer (some ⟨lb, 0, none⟩)] = #[t.val, .pointer (some ⟨bx, 0, none⟩), .pointer (some ⟨mb, 0, none⟩), .pointer (some ⟨lb, 0, none⟩)] := by simp
    rw [e]
    exact mapPart_is K E hT f hf bx mb lb nm w S l st t h hi hat hl
set_option maxHeartbeats 4000000 in
set_option maxRecDepth 100000 in
theorem map_is {T : World → Prop} {F : Fn} (K : Kit12 T F) (E : En) (hT : T E.w0) (o : Oc) (f : Nat) (hf0 : 100000 < f) (st : Sta) (w : World) (h : Ps E w st) (ho : OcAt E w o) (hl : o.old.length ≤ 10000) : Calls Tryz.prog 42 #[.pointer (some ⟨E.pb, 0, none⟩), o.fn] w fun e w' => ∃ s l v, e = .returned (.agg #[.string s, v]) ∧ s.size ≤ 1000 ∧ l.length ≤ 17 ∧ RowOf w' w.heap.size 81 13 (ClC 0) v l ∧ ItTo E o ((pMap F f o.old).exec E.en st) w w' ⟨s, l⟩ s := by
 have hmf : ∀ (fn : Go.Fn) (first cap : Array Value) (w : World), (Instr.makeFunc fn first cap).run Tryz.prog w = .ok (.func fn first cap) w := fun _ _ _ _ => rfl
 have hf : st.len < f := Nat.lt_of_le_of_lt h.few hf0
 unfold ItTo pMap
 have A0 := hide (balloc (balloc (brefl w) (.cells #[.pointer (some ⟨E.pb, 0, none⟩)] 59)) (.cells #[.string ⟨#[]⟩, .slice none 0 0] 70))
 have X0 := hide (((balloc (brefl (w.alloc (.cells #[.pointer (some ⟨E.pb, 0, none⟩)] 59))) (.cells #[.string ⟨#[]⟩, .slice none 0 0] 70)).block w.heap.size (by rw [size_alloc]; omega)).trans (heap_new w #[.pointer (some ⟨E.pb, 0, none⟩)] 59))
 have R0 := hide (heap_new (w.alloc (.cells #[.pointer (some ⟨E.pb, 0, none⟩)] 59)) #[.string ⟨#[]⟩, .slice none 0 0] 70)
 rw [size_alloc] at R0
 have P0 := hide (h.below A0.out)
 have O0 := hide (ho.below A0.out)
 have HOS := hide ho.sz
 have HPB := hide h.lt
 have HW0 := hide h.1.size
 have CN := hide (fun W hW hO => newName_is K E o st W hW hO hl)
 have HLN : Hid (((pNew F o.old).exec E.en st).2.len < f) := Nat.lt_of_le_of_lt (exec_len _ _ _) hf
 have CB := hide (fun bx mb lb nm W hW S hi => block_is E 66 _ _ _ W.heap.size _ (map_part K E hT f hf0 bx mb lb nm W.heap.size) f [] ((pNew F o.old).exec E.en st).2 S W hW hi HLN.out (Nat.le_refl _) (by show ([] : List Cl).length ≤ 16; simp))
 unfold BlkTo at CB
 unfold NewTo at CN
 clear h ho hl hf HLN
 have HEX := hide (fun s l (h1 : ((pNew F o.old).exec E.en st).1 = okv s ((pNew F o.old).exec E.en st).2) (h2 : ∀ a, ((pBr (pMapPart F f) f []).exec E.en ((pNew F o.old).exec E.en st).2).1 = some a → l = a) => (show (((pNew F o.old).bind fun x => (pBr (pMapPart F f) f []).bind fun l => .ret (⟨x, l⟩ : Mp)).exec E.en st).2 = ((pBr (pMapPart F f) f []).exec E.en ((pNew F o.old).exec E.en st).2).2 ∧ ∀ b, (((pNew F o.old).bind fun x => (pBr (pMapPart F f) f []).bind fun l => .ret (⟨x, l⟩ : Mp)).exec E.en st).1 = some b → (⟨s, l⟩ : Mp) = b from by
   rw [exec_then E.en (pNew F o.old) _ st s (fun a ha => by rw [h1] at ha; exact okv_some ha)]
   exact exec_map E.en _ _ _ l h2))
 generalize (((pNew F o.old).bind fun x => (pBr (pMapPart F f) f []).bind fun l => .ret (⟨x, l⟩ : Mp)).exec E.en st) = R at *
 generalize (pNew F o.old).exec E.en st = R1 at *
 generalize (pBr (pMapPart F f) f []).exec E.en R1.2 = R2 at *
 obtain ⟨W0, pb, en⟩ := E
 simp only [Oc.fn] at *
 go_enter Tryz.func42, Tryz.ntmps42
 go_upto_region 1 with fail
 obtain ⟨bx, hbx⟩ : ∃ bx, w.heap.size = bx := ⟨_, rfl⟩
 obtain ⟨rc, hrc⟩ : ∃ rc, bx + 1 = rc := ⟨_, rfl⟩
 have HNE : Hid (bx ≠ pb ∧ rc ≠ pb ∧ bx ≠ rc ∧ w.heap.size ≤ bx ∧ w.heap.size ≤ rc ∧ W0.heap.size ≤ bx ∧ W0.heap.size ≤ rc) := by have h9 := HPB.out; have h8 := HW0.out; exact ⟨by omega, by omega, by omega, by omega, by omega, by omega, by omega⟩
 have HOX : Hid (¬ o.S bx ∧ ¬ o.S rc) := ⟨fun e => by have := HOS.out _ e; omega, fun e => by have := HOS.out _ e; omega⟩
 rw [hbx] at X0 R0 ⊢
 rw [hrc] at R0 ⊢
 have B0 := hide (But.of (S := fun k => k = pb ∨ o.S k) A0.out)
 generalize (w.alloc (.cells #[.pointer (some ⟨pb, 0, none⟩)] 59)).alloc (.cells #[.string ⟨#[]⟩, .slice none 0 0] 70) = W at *
 have HSB := hide hbx
 clear hbx hrc A0
 obtain ⟨b0, _⟩ := one_cell X0.out
 go_wp2_with fail
 refine (CN.out _ P0.out O0.out).mono ?_
 rintro e w1 ⟨s, rfl, hs, rb, o1, l1, b1, p1, v1⟩
 have HS := hide hs
 have HV1 := hide v1
 have HL1 := hide (fun g hg => (l1 g hg).imp id (fun h => Nat.le_trans B0.out.size h))
 have P1 := hide p1
 have O1 := hide o1
 have B1 := hide (B0.out.trans b1)
 have X1 := hide (b1.keep X0.out (fun e => e.elim HNE.out.1 HOX.out.1))
 have R1 := hide (b1.keep R0.out (fun e => e.elim HNE.out.2.1 HOX.out.2))
 clear b1 p1 o1 v1 l1 hs CN P0 O0 B0 X0 R0 b0
 go_upto_region 3 with fail
 have b2 := balloc (balloc (brefl w1) (.cells #[.string s, .slice none 0 0] 70)) (.cells #[.int .i64 0] 3)
 have P2 := hide (P1.out.below b2)
 have O2 := hide (O1.out.below b2)
 have B2 := hide (B1.out.trans (But.of b2))
 have X2 := hide ((b2.block bx (heap_lt X1.out)).trans X1.out)
 have R2c := hide ((b2.block rc (heap_lt R1.out)).trans R1.out)
 have L2 := hide (((balloc (brefl (w1.alloc (.cells #[.string s, .slice none 0 0] 70))) (.cells #[.int .i64 0] 3)).block w1.heap.size (by rw [size_alloc]; omega)).trans (heap_new w1 #[.string s, .slice none 0 0] 70))
 have I2 := hide (heap_new (w1.alloc (.cells #[.string s, .slice none 0 0] 70)) #[.int .i64 0] 3)
 rw [size_alloc] at I2
 obtain ⟨mb, hmb⟩ : ∃ mb, w1.heap.size = mb := ⟨_, rfl⟩
 obtain ⟨lb, hlb⟩ : ∃ lb, mb + 1 = lb := ⟨_, rfl⟩
 have HLB : Hid (mb ≠ pb ∧ lb ≠ pb ∧ W0.heap.size ≤ mb ∧ W0.heap.size ≤ lb ∧ w.heap.size ≤ mb ∧ w.heap.size ≤ lb ∧ (¬ o.oc = mb ∧ ¬ o.oc = lb) ∧ (¬ o.bx = mb ∧ ¬ o.bx = lb) ∧ (∀ g, rb = some g → ¬ g = mb ∧ ¬ g = lb) ∧ rc ≠ mb ∧ rc ≠ lb) := by
  have h1 := P1.out.lt
  have h3 := heap_lt R1.out
  have h4 := P1.out.1.size
  have h5 := O1.out.lt
  have h6 := B1.out.size
  simp only at h1 h4 h5
  exact ⟨by omega, by omega, by omega, by omega, by omega, by omega, ⟨by omega, by omega⟩, ⟨by omega, by omega⟩, fun g hg => by have := (O1.out.rb g hg).2.1; exact ⟨by omega, by omega⟩, by omega, by omega⟩
 rw [hmb] at L2 I2 ⊢
 rw [hlb] at I2 ⊢
 generalize (w1.alloc (.cells #[.string s, .slice none 0 0] 70)).alloc (.cells #[.int .i64 0] 3) = W2 at *
 clear hmb hlb b2 P1 O1 B1 X1 R1
 have J2 : Hid (MapInv ⟨W0, pb, en⟩ bx mb lb s W2 (fun k => (k = mb ∨ k = lb) ∨ (Value.slice none 0 0).ownBlock = some k) []) := ⟨X2.out, ⟨_, L2.out, rowOf_nil _ _ _ _ _, fun k => Iff.rfl⟩, ⟨I2.out, by decide, by decide⟩, ⟨HLB.out.2.2.1, HLB.out.1, HLB.out.2.2.2.1, HLB.out.2.1⟩, by simp⟩
 obtain ⟨b0, _⟩ := one_cell X2.out
 go_wp2_with fail
 refine (CB.out bx mb lb s _ P2.out _ J2.out).mono ?_
 rintro e w3 ⟨t, rfl, y, S', i3, b3, s3, p3, _, v3⟩
 obtain ⟨v, r1, r2, r3⟩ := i3.row
 have HM := hide i3.many
 have HVF : Hid (RowOf w3 w.heap.size 81 13 (ClC 0) v y) := by
  have h9 := RowOf.from r2 (B' := w.heap.size) (fun g hg => by have h1 := (r2.lt g hg).1; have h2 := HLB.out.2.2.2.2.2.1; omega)
  obtain ⟨xs, q1, q2⟩ := h9
  exact ⟨xs, q1.mono (fun _ _ h => h.from 0 (Nat.zero_le _)), q2⟩
 have L3 := hide r1
 have R3 := hide (b3.keep R2c.out (by
   rintro (e | (e | e) | e)
   · exact HNE.out.2.1 e
   · exact HLB.out.2.2.2.2.2.2.2.2.2.1 e
   · exact HLB.out.2.2.2.2.2.2.2.2.2.2 e
   · cases e))
 have P3 := hide p3
 have O3 := hide (O2.out.of b3 (by
   rintro (e | (e | e) | e)
   · exact O2.out.base.2.1 e
   · exact HLB.out.2.2.2.2.2.2.1.1 e
   · exact HLB.out.2.2.2.2.2.2.1.2 e
   · cases e) (by
   rintro (e | (e | e) | e)
   · exact O2.out.base.2.2.1 e
   · exact HLB.out.2.2.2.2.2.2.2.1.1 e
   · exact HLB.out.2.2.2.2.2.2.2.1.2 e
   · cases e) (by
   rintro g hg (e | (e | e) | e)
   · exact O2.out.pb P2.out g hg e
   · exact (HLB.out.2.2.2.2.2.2.2.2.1 g hg).1 e
   · exact (HLB.out.2.2.2.2.2.2.2.2.1 g hg).2 e
   · cases e))
 have B3 := hide (B2.out.thens b3 (by
   rintro i hi (e | (e | e) | e)
   · exact .inl e
   · have := HLB.out.2.2.2.2.1; omega
   · have := HLB.out.2.2.2.2.2.1; omega
   · cases e))
 have HV3 := hide v3
 clear i3 b3 s3 p3 v3 r1 r2 r3 CB P2 O2 B2 X2 R2c L2 I2 J2 b0
 obtain ⟨ao, c, hv⟩ := HVF.out.slice
 obtain ⟨n, hn⟩ : ∃ n, y.length = n := ⟨_, rfl⟩
 rw [hn] at hv
 clear hn
 have HVV := hide hv
 rw [hv] at L3
 clear hv
 obtain ⟨l0, l1, _, _⟩ := two_cells L3.out
 obtain ⟨c0, c1, f0, f1⟩ := two_cells R3.out
 go_upto_region 4 with fail
 go_wp2_with fail
 have B4 := hide ((B3.out.setCell (p := ⟨rc, 0, none⟩) (.inr HNE.out.2.2.2.2.1) (.string s)).setCell (p := ⟨rc, 1, none⟩) (.inr HNE.out.2.2.2.2.1) (.slice ao n c))
 have B5 := hide (((But.refl (fun k => k = rc) w3).setCell (p := ⟨rc, 0, none⟩) (.inl rfl) (.string s)).setCell (p := ⟨rc, 1, none⟩) (.inl rfl) (.slice ao n c))
 have R4 := hide (heap_setCell_same _ rc 1 _ 70 (.slice ao n c) (heap_setCell_same _ rc 0 _ 70 (.string s) R3.out))
 refine bodyPost_ret (v := .agg #[.string s, .slice ao n c]) ?_ rfl ⟨s, y, v, by rw [HVV.out], HS.out, HM.out, ?_, rb, ?_, HL1.out, B4.out, ?_, (HEX.out s y HV1.out HV3.out).2⟩
 ·
  obtain ⟨t0, t1, _, _⟩ := two_cells R4.out
  simp [results, Tryz.results42, go_sem, t0, t1]
 ·
  exact RowOf.keep (ClC.keeps 0) HVF.out B5.out (fun t ht => av_one R3.out (by rcases ht with rfl | rfl <;> decide)) (av_one R3.out (by decide))
 ·
  exact O3.out.of B5.out (fun e => HOX.out.2 (.inl e.symm)) (fun e => by have h8 : o.bx = rc := e; have h9 : w3.heap[o.bx]? = _ := O3.out.box; rw [h8, R3.out] at h9; cases h9) (fun g hg e => O3.out.other R3.out (by decide) (by rw [hg, e]))
 rw [(HEX.out s y HV1.out HV3.out).1]
 exact P3.out.of B5.out (fun e => HNE.out.2.1 e.symm) (fun k e => by rw [e]; exact HNE.out.2.2.2.2.2.2)
theorem bdrewN {w W : World} (h : Below w.heap.size w W) (n : Nat) : Below w.heap.size w (W.drewN n) := ⟨h.os, h.tape, h.output, h.size, h.block⟩
def pxs (l : List (Int × Int)) : List Value := l.flatMap fun p => [.int .u32 p.1, .int .i64 p.2]
theorem pxs_get (l : List (Int × Int)) (j i : Nat) (h : j < l.length) (hi : i < 2) : (pxs l)[j * 2 + i]? = [Value.int .u32 l[j].1, .int .i64 l[j].2][i]? := by
 induction l generalizing j with
 | nil => simp at h
 | cons p l ih =>
  show ([Value.int .u32 p.1, .int .i64 p.2] ++ pxs l)[j * 2 + i]? = _
  cases j with
  | zero => rw [Nat.zero_mul, Nat.zero_add, List.getElem?_append_left (by simpa using hi)]; rfl
  | succ j =>
   rw [List.getElem?_append_right (by simp; omega), show (j + 1) * 2 + i - [Value.int .u32 p.1, .int .i64 p.2].length = j * 2 + i by simp; omega]
   rw [ih j (by simpa using h)]
   rfl
theorem al_pxs {w : World} : ∀ {l : List (Int × Int)} {xs : List (List Value)}, Al (PxC w) l xs → xs.flatten = pxs l
  | [], [], _ => rfl
  | _ :: _, _ :: _, ⟨h1, h2⟩ => by
    obtain rfl : _ = _ := h1
    show _ ++ List.flatten _ = _
    rw [al_pxs h2]
    rfl
  | [], _ :: _, h => h.elim
  | _ :: _, [], h => h.elim
theorem rowOf_pxs {w : World} {B : Nat} {v : Value} {l : List (Int × Int)} (h : RowOf w B 107 2 PxC v l) : w.ownsRow B 107 2 v l.length (pxs l) := by
 obtain ⟨xs, h1, h2⟩ := h
 rw [al_pxs h1] at h2
 exact h2
theorem pxs_at {w : World} {B : Nat} {v : Value} {l : List (Int × Int)} (h : w.ownsRow B 107 2 v l.length (pxs l)) : ∃ ao c, v = .slice ao l.length c ∧ (l = [] ∨ ∃ g, ao = some ⟨g, 0, none⟩ ∧ g < w.heap.size ∧ ∀ j (hj : j < l.length), w.cell? ⟨g, j * 2, none⟩ = some (.int .u32 l[j].1) ∧ w.cell? ⟨g, j * 2 + 1, none⟩ = some (.int .i64 l[j].2)) := by
 rcases h.2 with ⟨hv, h0⟩ | ⟨g, cap, cur, hv, hB, hg, r⟩
 ·
  exact ⟨none, 0, by rw [hv, h0], .inl (List.length_eq_zero_iff.1 h0)⟩
 refine ⟨_, cap, hv, .inr ⟨g, rfl, heap_lt hg, fun j hj => ?_⟩⟩
 rw [hv] at h
 have k : ∀ i, i < 2 → w.cell? ⟨g, j * 2 + i, none⟩ = [Value.int .u32 l[j].1, .int .i64 l[j].2][i]? := fun i hi => by rw [h.cellAt _ (by omega), pxs_get l j i hj hi]
 exact ⟨k 0 (by decide), k 1 (by decide)⟩
theorem guardP : Tryz.prog.eqGuardType Tryz.prog.depth 107 = false := by kernel_rfl
theorem eqP (a b c d : Int) (w : World) : (binOp .eql 107 (.agg #[.int .u32 a, .int .i64 b]) (.agg #[.int .u32 c, .int .i64 d])).run Tryz.prog w = .ok (.bool (a == c && b == d)) w := by
 have u3 := Tryz.underlying3
 have a3 := Tryz.isAgg3
 have z3 := Tryz.sizeOf3
 have u105 := Tryz.underlying105
 have a105 := Tryz.isAgg105
 have z105 := Tryz.sizeOf105
 have hS : Tryz.prog.underlying 107 = some (.struct (Tryz.prog.fieldsOf 107)) := by kernel_rfl
 have hp : Tryz.prog.stoodInHeld 107 = false := by kernel_rfl
 rw [run_eql_struct, show (10000 : Nat) = 9999 + 1 from rfl, run_equalIn_agg w 9999 107 _ _ hS hp]
 simp only [Program.fieldsOf, Tryz.underlying107]
 go_simp
 by_cases h1 : a = c <;> by_cases h2 : b = d <;> simp [h1, h2]
set_option maxHeartbeats 2000000 in
set_option maxRecDepth 100000 in
theorem indexP_is (B : Nat) (v : Value) (l : List (Int × Int)) (a b : Int) (hl : l.length ≤ 100000) (w : World) (h : w.ownsRow B 107 2 v l.length (pxs l)) : Calls Tryz.prog 109 #[v, .agg #[.int .u32 a, .int .i64 b]] w fun e w' => ∃ i : Int, e = .returned (.int .i64 i) ∧ (0 ≤ i ↔ (a, b) ∈ l) ∧ Below w.heap.size w w' := by
 obtain ⟨ao, c, rfl, hat⟩ := pxs_at h
 have HAT := hide hat
 have geq := eqP a b
 have gg := guardP
 obtain ⟨N, hN⟩ : ∃ N, l.length = N := ⟨_, rfl⟩
 have HN := hide hN
 rw [hN] at hl ⊢
 clear hat h hN
 have A0 := hide (balloc (brefl w) (.cells #[.int .u32 a, .int .i64 b] 107))
 have N0 := hide (heap_new w #[.int .u32 a, .int .i64 b] 107)
 go_enter Tryz.func109, Tryz.ntmps109
 go_upto_region 1 with fail
 obtain ⟨tb, htb⟩ : ∃ tb, w.heap.size = tb := ⟨_, rfl⟩
 have HTB : Hid (w.heap.size = tb) := htb
 rw [htb] at N0 ⊢
 generalize w.alloc (.cells #[.int .u32 a, .int .i64 b] 107) = W at *
 clear htb
 go_wp2_with fail
 go_loopw [8] (fun v8 wr => ∃ i : Nat, v8 = .int .i64 (i : Int) ∧ i ≤ N ∧ Hid (∀ j (hj : j < l.length), j < i → ¬ l[j] = (a, b)) ∧ Hid (Below w.heap.size w wr) ∧ Hid (wr.heap[tb]? = some (.cells #[.int .u32 a, .int .i64 b] 107 (0, 0)))) (fun v8 _ => N - (intOf v8).toNat)
 case atStart => exact ⟨0, rfl, Nat.zero_le _, fun j _ h => by omega, A0, N0⟩
 case round =>
  obtain ⟨i, rfl, hiN, HI, HB, HT⟩ := hrel
  obtain ⟨t0, t1, _, _⟩ := two_cells HT.out
  rcases Nat.lt_or_ge i N with hlt | hge
  ·
   have h1 : (i : Int) < (N : Int) := by omega
   have hil : i < l.length := by rw [HN.out]; exact hlt
   obtain ⟨g, rfl, hg, hc⟩ : ∃ g, ao = some ⟨g, 0, none⟩ ∧ g < w.heap.size ∧ ∀ j (hj : j < l.length), w.cell? ⟨g, j * 2, none⟩ = some (.int .u32 l[j].1) ∧ w.cell? ⟨g, j * 2 + 1, none⟩ = some (.int .i64 l[j].2) := by
    rcases HAT.out with h | h
    ·
     rw [h] at hil; simp at hil
    exact h
   obtain ⟨c0, c1⟩ := hc i hil
   rw [← World.cell?_of_block (w := w) (w' := wr) (a := ⟨g, i * 2, none⟩) (HB.out.block g hg)] at c0
   rw [← World.cell?_of_block (w := w) (w' := wr) (a := ⟨g, i * 2 + 1, none⟩) (HB.out.block g hg)] at c1
   obtain ⟨la, hla⟩ : ∃ x, l[i].1 = x := ⟨_, rfl⟩
   obtain ⟨lb, hlb⟩ : ∃ x, l[i].2 = x := ⟨_, rfl⟩
   have HXE : Hid (l[i] = (a, b) ↔ (a == la && b == lb) = true) := by
    show _ ↔ _
    rw [← hla, ← hlb, Bool.and_eq_true, beq_iff_eq, beq_iff_eq, Prod.ext_iff]
    exact ⟨fun h => ⟨h.1.symm, h.2.symm⟩, fun h => ⟨h.1.symm, h.2.symm⟩⟩
   rw [hla] at c0
   rw [hlb] at c1
   clear hc hla hlb
   have ge := geq la lb
   go_upto_region 4 with fail
   go_quiet (fail)
   have HB2 := hide (bdrewN HB.out nq)
   have HT2 : Hid ((wr.drewN nq).heap[tb]? = some (.cells #[.int .u32 a, .int .i64 b] 107 (0, 0))) := HT
   generalize wr.drewN nq = w2 at *
   clear HB HT c0 c1 t0 t1 ge geq
   cases hx : (a == la && b == lb) with
   | true =>
    have HM : Hid ((a, b) ∈ l) := by
     have := HXE.out.2 hx
     show _ ∈ _
     rw [← this]
     exact List.getElem_mem hil
    clear hx
    go_wp2_with fail
    go_ret
    exact ⟨_, rfl, ⟨fun _ => HM.out, fun _ => by omega⟩, HB2.out⟩
   | false =>
    have HI2 : Hid (∀ j (hj : j < l.length), j < i + 1 → ¬ l[j] = (a, b)) := fun j hj h => by
     rcases Nat.lt_or_ge j i with h' | h'
     ·
      exact HI.out j hj h'
     obtain rfl : j = i := by omega
     intro e
     have := HXE.out.1 e
     rw [hx] at this
     cases this
    clear HI hx
    go_wp2_with fail
    exact ⟨⟨i + 1, by go_num, by omega, HI2, HB2, HT2⟩, by simp [intOf]; omega⟩
  obtain rfl : i = N := by omega
  have h1 : ¬ (i : Int) < (i : Int) := by omega
  have HF : Hid (¬ (a, b) ∈ l) := by
   intro e
   obtain ⟨j, hj, he⟩ := List.getElem_of_mem e
   exact HI.out j hj (by rw [← HN.out]; exact hj) he
  go_wp2_with fail
  go_ret
  exact ⟨_, rfl, ⟨fun h => by omega, fun h => absurd h HF.out⟩, HB.out⟩
set_option maxHeartbeats 1000000 in
theorem containsP_is (B : Nat) (v : Value) (l : List (Int × Int)) (a b : Int) (hl : l.length ≤ 100000) (w : World) (h : w.ownsRow B 107 2 v l.length (pxs l)) : Calls Tryz.prog 96 #[v, .agg #[.int .u32 a, .int .i64 b]] w fun e w' => e = .returned (.bool (decide ((a, b) ∈ l))) ∧ Below w.heap.size w w' := by
 have A0 := hide (balloc (brefl w) (.cells #[.int .u32 a, .int .i64 b] 107))
 have N0 := hide (heap_new w #[.int .u32 a, .int .i64 b] 107)
 have h' := row_of (w' := w.alloc (.cells #[.int .u32 a, .int .i64 b] 107)) h (fun g hg => A0.out.block g (h.lt g hg).2)
 have C := hide (indexP_is B v l a b hl _ h')
 obtain ⟨ao, c, rfl, _⟩ := pxs_at h
 have HD : Hid (decide ((a, b) ∈ l) = true ↔ (a, b) ∈ l) := decide_eq_true_iff
 clear h h'
 generalize decide ((a, b) ∈ l) = q at *
 go_enter Tryz.func96, Tryz.ntmps96
 go_upto_region 1 with fail
 obtain ⟨tb, htb⟩ : ∃ tb, w.heap.size = tb := ⟨_, rfl⟩
 rw [htb] at N0 ⊢
 generalize w.alloc (.cells #[.int .u32 a, .int .i64 b] 107) = W at *
 clear htb
 obtain ⟨t0, t1, _, _⟩ := two_cells N0.out
 go_wp2_with fail
 refine C.out.mono ?_
 rintro e w1 ⟨i, rfl, hi, b1⟩
 have HB := hide (bthen A0.out b1)
 go_wp2_with fail
 go_ret
 refine ⟨ret_bool ?_, HB.out⟩
 have h1 := hi.trans HD.out.symm
 rw [Bool.eq_iff_iff, ← h1]
 simp
 exact hi.symm
end Go.Proofs.YtnadhplhnfpeaaaGreatDoor
