/- Part of the proof. -/
import Derived.Test.YtnadhplhnfpeaaaGreatDoorAZ
import Derived.Test.YtnadhplhnfpeaaaGreatDoorA22
namespace Go.Proofs.YtnadhplhnfpeaaaGreatDoor
open Go.RowKit Go.Sort
def pq : Option Nat → Value
  | none => undef
  | some g => .pointer (some ⟨g, 0, none⟩)
def fq : Option (Nat × Nat) → Value
  | none => undef
  | some (c, x) => .func (.func 59) #[] #[.pointer (some ⟨c, 0, none⟩), .pointer (some ⟨x, 0, none⟩)]
def tA (pb rc rb bx oc ob : Nat) (s : ByteArray) (a b c : Option Nat) (x y z : Option (Nat × Nat)) : Act := ⟨#[.pointer (some ⟨pb, 0, none⟩), .func (.func 59) #[] #[.pointer (some ⟨oc, 0, none⟩), .pointer (some ⟨ob, 0, none⟩)], .pointer (some ⟨bx, 0, none⟩), undef, .pointer (some ⟨rc, 0, none⟩), .pointer (some ⟨rb, 0, none⟩), pq a, pq b, pq c, undef, .pointer (some ⟨pb, 0, none⟩), .func (.func 59) #[] #[.pointer (some ⟨oc, 0, none⟩), .pointer (some ⟨ob, 0, none⟩)], .string s, .agg #[.string s, .int .i64 0, .int .i64 0, .slice none 0 0, .slice none 0 0, .slice none 0 0], .pointer (some ⟨pb, 0, none⟩), fq x, .pointer (some ⟨pb, 0, none⟩), fq y, .pointer (some ⟨pb, 0, none⟩), fq z, undef, undef, undef, undef, undef, undef, undef, undef, undef, undef, undef, undef, undef, undef, undef], []⟩
set_option maxHeartbeats 16000000 in
set_option maxRecDepth 100000 in
theorem router_is {T : World → Prop} {F : Fn} (K : Kit12 T F) (E : En) (hT : T E.w0) (o : Oc) (f : Nat) (hf0 : 100000 < f) (st : Sta) (w : World) (h : Ps E w st) (ho : OcAt E w o) (hl : o.old.length ≤ 10000) : Calls Tryz.prog 43 #[.pointer (some ⟨E.pb, 0, none⟩), o.fn] w fun e w' => ∃ (r : Rt) (vn vb vl : Value), e = .returned (.agg #[.string r.name, .int .i64 r.asn, .int .i64 r.id, vn, vb, vl]) ∧ r.name.size ≤ 1000 ∧ RowOf w' w.heap.size 107 2 PxC vn r.nets ∧ RowOf w' w.heap.size 113 4 NbC vb r.nbs ∧ RowOf w' w.heap.size 115 2 LkC vl r.links ∧ ItTo E o ((pRouter F f o.old).exec E.en st) w w' r r.name := by
 have hmf : ∀ (fn : Go.Fn) (first cap : Array Value) (w : World), (Instr.makeFunc fn first cap).run Tryz.prog w = .ok (.func fn first cap) w := fun _ _ _ _ => rfl
 have hf : st.len < f := Nat.lt_of_le_of_lt h.few hf0
 unfold ItTo pRouter
 have A0 := hide (balloc (balloc (brefl w) (.cells #[.pointer (some ⟨E.pb, 0, none⟩)] 59)) (.cells #[.string ⟨#[]⟩, .int .i64 0, .int .i64 0, .slice none 0 0, .slice none 0 0, .slice none 0 0] 50))
 have X0 := hide (((balloc (brefl (w.alloc (.cells #[.pointer (some ⟨E.pb, 0, none⟩)] 59))) (.cells #[.string ⟨#[]⟩, .int .i64 0, .int .i64 0, .slice none 0 0, .slice none 0 0, .slice none 0 0] 50)).block w.heap.size (by rw [size_alloc]; omega)).trans (heap_new w #[.pointer (some ⟨E.pb, 0, none⟩)] 59))
 have R0 := hide (heap_new (w.alloc (.cells #[.pointer (some ⟨E.pb, 0, none⟩)] 59)) #[.string ⟨#[]⟩, .int .i64 0, .int .i64 0, .slice none 0 0, .slice none 0 0, .slice none 0 0] 50)
 rw [size_alloc] at R0
 have P0 := hide (h.below A0.out)
 have O0 := hide (ho.below A0.out)
 have HOS := hide ho.sz
 have HPB := hide h.lt
 have HW0 := hide h.1.size
 have CN := hide (fun W hW hO => newName_is K E o st W hW hO hl)
 have HLN : Hid (((pNew F o.old).exec E.en st).2.len < f) := Nat.lt_of_le_of_lt (exec_len _ _ _) hf
 have CB := hide (fun b nm W hW S hi => block_is E 69 _ _ _ W.heap.size _ (router_part K E hT b nm W.heap.size) f ⟨⟨nm, 0, 0, [], [], []⟩, []⟩ ((pNew F o.old).exec E.en st).2 S W hW hi HLN.out (Nat.le_refl _) ⟨fitW_nil _, by show ([] : List (Int × Int)).length ≤ 16; simp, by show ([] : List Nb).length ≤ 16; simp, by show ([] : List Lk).length ≤ 16; simp⟩)
 unfold BlkTo at CB
 unfold NewTo at CN
 have C37 := hide (fun W (hW : Ps E W ((pNew F o.old).exec E.en st).2) => once_new E _ W hW)
 unfold Oc.fn at C37
 have CF := hide (fun s5 t => fault_is E s5 t 5)
 clear h ho hl hf HLN
 have HEX := hide (fun s (h1 : ((pNew F o.old).exec E.en st).1 = okv s ((pNew F o.old).exec E.en st).2) => exec_then E.en (pNew F o.old) (fun x => (pBr (pRouterPart F) f ⟨⟨x, 0, 0, [], [], []⟩, []⟩).bind fun r => if r.r.asn = 0 ∨ r.r.id = 0 then Pg.fail 5 else Pg.ret r.r) st s (fun a ha => by rw [h1] at ha; exact okv_some ha))
 generalize ((pNew F o.old).bind fun x => (pBr (pRouterPart F) f ⟨⟨x, 0, 0, [], [], []⟩, []⟩).bind fun r => if r.r.asn = 0 ∨ r.r.id = 0 then Pg.fail 5 else Pg.ret r.r).exec E.en st = R at *
 obtain ⟨RN, hRN⟩ : ∃ x, (pNew F o.old).exec E.en st = x := ⟨_, rfl⟩
 rw [hRN] at CN CB C37 HEX
 clear hRN
 obtain ⟨RN1, sN⟩ := RN
 simp only at CN CB C37 HEX
 obtain ⟨W0, pb, en⟩ := E
 simp only [Oc.fn] at *
 go_enter Tryz.func43, Tryz.ntmps43
 go_upto_region 1 with fail
 obtain ⟨bx, hbx⟩ : ∃ bx, w.heap.size = bx := ⟨_, rfl⟩
 obtain ⟨rc, hrc⟩ : ∃ rc, bx + 1 = rc := ⟨_, rfl⟩
 have HNE : Hid (bx ≠ pb ∧ rc ≠ pb ∧ bx ≠ rc ∧ w.heap.size ≤ bx ∧ w.heap.size ≤ rc ∧ W0.heap.size ≤ bx ∧ W0.heap.size ≤ rc) := by have h9 := HPB.out; have h8 := HW0.out; exact ⟨by omega, by omega, by omega, by omega, by omega, by omega, by omega⟩
 have HOX : Hid (¬ o.S bx ∧ ¬ o.S rc) := ⟨fun e => by have := HOS.out _ e; omega, fun e => by have := HOS.out _ e; omega⟩
 rw [hbx] at X0 R0 ⊢
 rw [hrc] at R0 ⊢
 have B0 := hide (But.of (S := fun k => k = pb ∨ o.S k) A0.out)
 generalize (w.alloc (.cells #[.pointer (some ⟨pb, 0, none⟩)] 59)).alloc (.cells #[.string ⟨#[]⟩, .int .i64 0, .int .i64 0, .slice none 0 0, .slice none 0 0, .slice none 0 0] 50) = W at *
 have HSB := hide hbx
 clear hbx hrc A0
 obtain ⟨b0, _⟩ := one_cell X0.out
 go_wp2_with fail
 refine (CN.out _ P0.out O0.out).mono ?_
 rintro e w1 ⟨s, rfl, hs, rb1, o1, l1, b1, p1, v1⟩
 have HS := hide hs
 have HRX := hide (HEX.out s v1)
 have HL1 : Hid (∀ g, rb1 = some g → o.rb = some g ∨ w.heap.size ≤ g) := fun g hg => (l1 g hg).imp (fun h => h) (fun h => Nat.le_trans B0.out.size h)
 have P1 := hide p1
 have O1 := hide o1
 have B1 := hide (B0.out.trans b1)
 have X1 := hide (b1.keep X0.out (fun e => e.elim HNE.out.1 HOX.out.1))
 have R1 := hide (b1.keep R0.out (fun e => e.elim HNE.out.2.1 HOX.out.2))
 clear b1 p1 o1 v1 l1 hs CN P0 O0 B0 X0 R0 b0 HEX
 go_upto_region 2 with fail
 have b2 := balloc (brefl w1) (.cells #[.string s, .int .i64 0, .int .i64 0, .slice none 0 0, .slice none 0 0, .slice none 0 0] 50)
 have L2 := hide (heap_new w1 #[.string s, .int .i64 0, .int .i64 0, .slice none 0 0, .slice none 0 0, .slice none 0 0] 50)
 have P2 := hide (P1.out.below b2)
 have O2 := hide (O1.out.below b2)
 have B2 := hide (B1.out.trans (But.of b2))
 have X2 := hide ((b2.block bx (heap_lt X1.out)).trans X1.out)
 have R2 := hide ((b2.block rc (heap_lt R1.out)).trans R1.out)
 obtain ⟨rb, hrb⟩ : ∃ rb, w1.heap.size = rb := ⟨_, rfl⟩
 have HRB : Hid (rb ≠ pb ∧ rc ≠ rb ∧ w.heap.size ≤ rb ∧ W0.heap.size ≤ rb ∧ ¬ o.oc = rb ∧ ¬ o.bx = rb ∧ ∀ g, rb1 = some g → ¬ g = rb) := by
  have h1 := P1.out.lt
  have h3 := heap_lt R1.out
  have h4 := P1.out.1.size
  have h5 := O1.out.lt
  have h6 := B1.out.size
  simp only at h1 h4 h5
  exact ⟨by omega, by omega, by omega, by omega, by omega, by omega, fun g hg => by have := (O1.out.rb g hg).2.1; omega⟩
 rw [hrb] at L2 ⊢
 generalize w1.alloc (.cells #[.string s, .int .i64 0, .int .i64 0, .slice none 0 0, .slice none 0 0, .slice none 0 0] 50) = W2 at *
 clear hrb b2 P1 O1 B1 X1 R1
 go_cut [6, 7, 8] from 14 (fun v6 v7 v8 wx => ∃ f1 f2 f3 c1 x1 c2 x2 c3 x3, v6 = .pointer (some ⟨f1, 0, none⟩) ∧ v7 = .pointer (some ⟨f2, 0, none⟩) ∧ v8 = .pointer (some ⟨f3, 0, none⟩) ∧ Hid (PkF ⟨W0, pb, en⟩ sN ⟨o.oc, o.bx, o.old ++ [s], rb1⟩ bx rc rb s W2 f1 f2 f3 c1 x1 c2 x2 c3 x3 wx))
 case first =>
  have HE0 : Hid (W0.heap.size ≤ W2.heap.size) := P2.out.1.size
  have Q0 : Hid (PkR ⟨W0, pb, en⟩ sN ⟨o.oc, o.bx, o.old ++ [s], rb1⟩ bx rc rb s W2 none none none none none none W2.drew) := (PkR.keep (w := W2) ⟨P2.out, O2.out, brefl _, X2.out, R2.out, L2.out, fun _ h => (by cases h), fun _ h => (by cases h), fun _ h => (by cases h), ⟨fun _ _ h => (by cases h), fun _ _ h => (by cases h), fun _ _ h => (by cases h)⟩, fun _ h => (by cases h), fun _ h => (by cases h), fun _ h => (by cases h), ⟨fun _ _ h => (by cases h), fun _ _ h => (by cases h), fun _ _ h => (by cases h)⟩⟩ (Below.drew (brefl W2)))
  refine wp_region_held_drew (S := (fun w' => w'.cell? ⟨bx, 0, none⟩ = some (.pointer (some ⟨pb, 0, none⟩)))) (by kernel_rfl) ((one_cell Q0.out.box).1) (fun hHeld => ?_)
  clear P2 O2 X2 R2 L2 CB HRX CF
  refine tak 0 (.pointer (some ⟨pb, 0, none⟩)) rfl (Or.inl ⟨by rfl, fun w hSw => by dsimp only at hSw; go_simp⟩) hHeld ?_
  simp only [Act.put, g1, g2, g4, g5, g6]
  refine tak 2 (.pointer (some ⟨pb, 0, none⟩)) rfl (Or.inl ⟨by rfl, fun w hSw => by dsimp only at hSw; go_simp⟩) hHeld ?_
  simp only [Act.put, g1, g2, g3, g4, g5, g6]
  refine tak 4 (.pointer (some ⟨pb, 0, none⟩)) rfl (Or.inl ⟨by rfl, fun w hSw => by dsimp only at hSw; go_simp⟩) hHeld ?_
  simp only [Act.put, g1, g2, g3, g4, g5, g6]
  clear hHeld
  refine via2 (fun Z hZ => ?_)
  have key_135678 : ∀ (c1 x1 c2 x2 c3 x3 g1 g2 g3 : Nat) (w : World), PkR ⟨W0, pb, en⟩ sN ⟨o.oc, o.bx, o.old ++ [s], rb1⟩ bx rc rb s W2 (some (c1, x1)) (some (c2, x2)) (some (c3, x3)) (some g1) (some g2) (some g3) w → Z 3 #[true, true, true, true, true, true, true, true, true, false, false, false] (tA pb rc rb bx o.oc o.bx s (some g1) (some g2) (some g3) (some (c1, x1)) (some (c2, x2)) (some (c3, x3))) w := by
   intro c1 x1 c2 x2 c3 x3 g1 g2 g3 w3 q0
   have Q := hide q0
   clear q0
   rw [hZ]
   simp only [tA, pq, fq]
   have F1 := hide (Q.out.f1 g1 rfl)
   have F2 := hide (Q.out.f2 g2 rfl)
   have F3 := hide (Q.out.f3 g3 rfl)
   have HD := hide (And.intro (Q.out.e.1 g1 g2 rfl rfl) (And.intro (Q.out.e.2.1 g1 g3 rfl rfl) (Q.out.e.2.2 g2 g3 rfl rfl)))
   have R0 := hide Q.out.drop
   clear Q
   have G1 := hide F1.out.1
   have HB1 := hide F1.out.2
   have G2 := hide F2.out.1
   have HB2 := hide F2.out.2
   have G3 := hide F3.out.1
   have HB3 := hide F3.out.2
   clear F1 F2 F3
   refine rdy 9 (by kernel_rfl) rfl fun K hK => ?_
   obtain ⟨m0, mf⟩ := one_cell G1.out
   go_simp
   have R1 := hide (R0.out.put G1.out HB1.out HE0.out (.func (.func 59) #[] #[.pointer (some ⟨c1, 0, none⟩), .pointer (some ⟨x1, 0, none⟩)]))
   have H1 := hide (heap_setCell_same _ g1 0 _ 96 (.func (.func 59) #[] #[.pointer (some ⟨c1, 0, none⟩), .pointer (some ⟨x1, 0, none⟩)]) G1.out)
   have H2 := hide (set_far (o := 0) (v := .func (.func 59) #[] #[.pointer (some ⟨c1, 0, none⟩), .pointer (some ⟨x1, 0, none⟩)]) G2.out (Ne.symm HD.out.1))
   have H3 := hide (set_far (o := 0) (v := .func (.func 59) #[] #[.pointer (some ⟨c1, 0, none⟩), .pointer (some ⟨x1, 0, none⟩)]) G3.out (Ne.symm HD.out.2.1))
   refine hK.out _ _ ((one_cell R1.out.box).1) (fun hHeld => ?_)
   clear hK K m0 mf R0 G1 G2 G3
   try simp only [Act.put, g1, g2, g3, g4, g5, g6]
   obtain ⟨y1, hy⟩ : ∃ y, w3.setCell ⟨g1, 0, none⟩ (.func (.func 59) #[] #[.pointer (some ⟨c1, 0, none⟩), .pointer (some ⟨x1, 0, none⟩)]) = y := ⟨_, rfl⟩
   rw [hy] at R1 H1 H2 H3 hHeld ⊢
   clear hy
   have G1 := H1
   have G2 := H2
   have G3 := H3
   clear H1 H2 H3
   refine rdy 10 (by kernel_rfl) rfl fun K hK => ?_
   obtain ⟨m0, mf⟩ := one_cell G2.out
   go_simp
   have R2 := hide (R1.out.put G2.out HB2.out HE0.out (.func (.func 59) #[] #[.pointer (some ⟨c2, 0, none⟩), .pointer (some ⟨x2, 0, none⟩)]))
   have H1 := hide (set_far (o := 0) (v := .func (.func 59) #[] #[.pointer (some ⟨c2, 0, none⟩), .pointer (some ⟨x2, 0, none⟩)]) G1.out HD.out.1)
   have H2 := hide (heap_setCell_same _ g2 0 _ 96 (.func (.func 59) #[] #[.pointer (some ⟨c2, 0, none⟩), .pointer (some ⟨x2, 0, none⟩)]) G2.out)
   have H3 := hide (set_far (o := 0) (v := .func (.func 59) #[] #[.pointer (some ⟨c2, 0, none⟩), .pointer (some ⟨x2, 0, none⟩)]) G3.out (Ne.symm HD.out.2.2))
   refine hK.out _ _ ((one_cell R2.out.box).1) (fun hHeld => ?_)
   clear hK K m0 mf R1 G1 G2 G3
   try simp only [Act.put, g1, g2, g3, g4, g5, g6]
   obtain ⟨y2, hy⟩ : ∃ y, y1.setCell ⟨g2, 0, none⟩ (.func (.func 59) #[] #[.pointer (some ⟨c2, 0, none⟩), .pointer (some ⟨x2, 0, none⟩)]) = y := ⟨_, rfl⟩
   rw [hy] at R2 H1 H2 H3 hHeld ⊢
   clear hy
   have G1 := H1
   have G2 := H2
   have G3 := H3
   clear H1 H2 H3
   refine rdy 11 (by kernel_rfl) rfl fun K hK => ?_
   obtain ⟨m0, mf⟩ := one_cell G3.out
   go_simp
   have R3 := hide (R2.out.put G3.out HB3.out HE0.out (.func (.func 59) #[] #[.pointer (some ⟨c3, 0, none⟩), .pointer (some ⟨x3, 0, none⟩)]))
   have H1 := hide (set_far (o := 0) (v := .func (.func 59) #[] #[.pointer (some ⟨c3, 0, none⟩), .pointer (some ⟨x3, 0, none⟩)]) G1.out HD.out.2.1)
   have H2 := hide (set_far (o := 0) (v := .func (.func 59) #[] #[.pointer (some ⟨c3, 0, none⟩), .pointer (some ⟨x3, 0, none⟩)]) G2.out HD.out.2.2)
   have H3 := hide (heap_setCell_same _ g3 0 _ 96 (.func (.func 59) #[] #[.pointer (some ⟨c3, 0, none⟩), .pointer (some ⟨x3, 0, none⟩)]) G3.out)
   refine hK.out _ _ ((one_cell R3.out.box).1) (fun hHeld => ?_)
   clear hK K m0 mf R2 G1 G2 G3
   try simp only [Act.put, g1, g2, g3, g4, g5, g6]
   obtain ⟨y3, hy⟩ : ∃ y, y2.setCell ⟨g3, 0, none⟩ (.func (.func 59) #[] #[.pointer (some ⟨c3, 0, none⟩), .pointer (some ⟨x3, 0, none⟩)]) = y := ⟨_, rfl⟩
   rw [hy] at R3 H1 H2 H3 hHeld ⊢
   clear hy
   have G1 := H1
   have G2 := H2
   have G3 := H3
   clear H1 H2 H3
   refine wpAnyH_done (by kernel_rfl) ?_ _
   clear hHeld
   go_wp2_with fail
   go_meet
   exact ⟨g1, g2, g3, c1, x1, c2, x2, c3, x3, rfl, rfl, rfl, R3.out, G1.out, G2.out, G3.out⟩
  have key_13678 : ∀ (c1 x1 c2 x2 c3 x3 g1 g2 g3 : Nat) (w : World), PkR ⟨W0, pb, en⟩ sN ⟨o.oc, o.bx, o.old ++ [s], rb1⟩ bx rc rb s W2 (some (c1, x1)) (some (c2, x2)) none (some g1) (some g2) (some g3) w → Z 4 #[true, true, true, true, true, false, true, true, true, false, false, false] (tA pb rc rb bx o.oc o.bx s (some g1) (some g2) (some g3) (some (c1, x1)) (some (c2, x2)) none) w := by
   intro c1 x1 c2 x2 c3 x3 g1 g2 g3 w3 q0
   have Q := hide q0
   clear q0
   rw [hZ]
   simp only [tA, pq, fq]
   refine rdy 5 (by kernel_rfl) rfl fun K hK => ?_
   go_simp
   go_wp2_with (refine (C37.out _ Q.out.ps).mono ?_; rintro e w4 ⟨cn, xn, rfl, ox, l1, _, bb⟩)
   have Q1 := hide (Q.out.call3 bb ox l1)
   refine hK.out _ _ ((one_cell Q1.out.box).1) (fun _ => ?_)
   exact (hZ _ _ _ _).mp (key_135678 c1 x1 c2 x2 cn xn g1 g2 g3 _ Q1.out)
  have key_13567 : ∀ (c1 x1 c2 x2 c3 x3 g1 g2 g3 : Nat) (w : World), PkR ⟨W0, pb, en⟩ sN ⟨o.oc, o.bx, o.old ++ [s], rb1⟩ bx rc rb s W2 (some (c1, x1)) (some (c2, x2)) (some (c3, x3)) (some g1) (some g2) none w → Z 4 #[true, true, true, true, true, true, true, true, false, false, false, false] (tA pb rc rb bx o.oc o.bx s (some g1) (some g2) none (some (c1, x1)) (some (c2, x2)) (some (c3, x3))) w := by
   intro c1 x1 c2 x2 c3 x3 g1 g2 g3 w3 q0
   have Q := hide q0
   clear q0
   rw [hZ]
   simp only [tA, pq, fq]
   refine rdy 8 (by kernel_rfl) rfl fun K hK => ?_
   go_simp
   have Q1 := hide Q.out.alloc3
   refine hK.out _ _ ((one_cell Q1.out.box).1) (fun _ => ?_)
   exact (hZ _ _ _ _).mp (key_135678 c1 x1 c2 x2 c3 x3 g1 g2 w3.heap.size _ Q1.out)
  have key_13568 : ∀ (c1 x1 c2 x2 c3 x3 g1 g2 g3 : Nat) (w : World), PkR ⟨W0, pb, en⟩ sN ⟨o.oc, o.bx, o.old ++ [s], rb1⟩ bx rc rb s W2 (some (c1, x1)) (some (c2, x2)) (some (c3, x3)) (some g1) none (some g3) w → Z 4 #[true, true, true, true, true, true, true, false, true, false, false, false] (tA pb rc rb bx o.oc o.bx s (some g1) none (some g3) (some (c1, x1)) (some (c2, x2)) (some (c3, x3))) w := by
   intro c1 x1 c2 x2 c3 x3 g1 g2 g3 w3 q0
   have Q := hide q0
   clear q0
   rw [hZ]
   simp only [tA, pq, fq]
   refine rdy 7 (by kernel_rfl) rfl fun K hK => ?_
   go_simp
   have Q1 := hide Q.out.alloc2
   refine hK.out _ _ ((one_cell Q1.out.box).1) (fun _ => ?_)
   exact (hZ _ _ _ _).mp (key_135678 c1 x1 c2 x2 c3 x3 g1 w3.heap.size g3 _ Q1.out)
  have key_13578 : ∀ (c1 x1 c2 x2 c3 x3 g1 g2 g3 : Nat) (w : World), PkR ⟨W0, pb, en⟩ sN ⟨o.oc, o.bx, o.old ++ [s], rb1⟩ bx rc rb s W2 (some (c1, x1)) (some (c2, x2)) (some (c3, x3)) none (some g2) (some g3) w → Z 4 #[true, true, true, true, true, true, false, true, true, false, false, false] (tA pb rc rb bx o.oc o.bx s none (some g2) (some g3) (some (c1, x1)) (some (c2, x2)) (some (c3, x3))) w := by
   intro c1 x1 c2 x2 c3 x3 g1 g2 g3 w3 q0
   have Q := hide q0
   clear q0
   rw [hZ]
   simp only [tA, pq, fq]
   refine rdy 6 (by kernel_rfl) rfl fun K hK => ?_
   go_simp
   have Q1 := hide Q.out.alloc1
   refine hK.out _ _ ((one_cell Q1.out.box).1) (fun _ => ?_)
   exact (hZ _ _ _ _).mp (key_135678 c1 x1 c2 x2 c3 x3 w3.heap.size g2 g3 _ Q1.out)
  have key_1678 : ∀ (c1 x1 c2 x2 c3 x3 g1 g2 g3 : Nat) (w : World), PkR ⟨W0, pb, en⟩ sN ⟨o.oc, o.bx, o.old ++ [s], rb1⟩ bx rc rb s W2 (some (c1, x1)) none none (some g1) (some g2) (some g3) w → Z 5 #[true, true, true, false, true, false, true, true, true, false, false, false] (tA pb rc rb bx o.oc o.bx s (some g1) (some g2) (some g3) (some (c1, x1)) none none) w := by
   intro c1 x1 c2 x2 c3 x3 g1 g2 g3 w3 q0
   have Q := hide q0
   clear q0
   rw [hZ]
   simp only [tA, pq, fq]
   refine rdy 3 (by kernel_rfl) rfl fun K hK => ?_
   go_simp
   go_wp2_with (refine (C37.out _ Q.out.ps).mono ?_; rintro e w4 ⟨cn, xn, rfl, ox, l1, _, bb⟩)
   have Q1 := hide (Q.out.call2 bb ox l1)
   refine hK.out _ _ ((one_cell Q1.out.box).1) (fun _ => ?_)
   exact (hZ _ _ _ _).mp (key_13678 c1 x1 cn xn c3 x3 g1 g2 g3 _ Q1.out)
  have key_1367 : ∀ (c1 x1 c2 x2 c3 x3 g1 g2 g3 : Nat) (w : World), PkR ⟨W0, pb, en⟩ sN ⟨o.oc, o.bx, o.old ++ [s], rb1⟩ bx rc rb s W2 (some (c1, x1)) (some (c2, x2)) none (some g1) (some g2) none w → Z 5 #[true, true, true, true, true, false, true, true, false, false, false, false] (tA pb rc rb bx o.oc o.bx s (some g1) (some g2) none (some (c1, x1)) (some (c2, x2)) none) w := by
   intro c1 x1 c2 x2 c3 x3 g1 g2 g3 w3 q0
   have Q := hide q0
   clear q0
   rw [hZ]
   simp only [tA, pq, fq]
   refine wpAnyH_ready (rs := [5, 8]) (by kernel_rfl) (by simp) ?_
   refine AllReadyH.cons rfl (fun K hK => ?_) ?_
   ·
    go_simp
    go_wp2_with (refine (C37.out _ Q.out.ps).mono ?_; rintro e w4 ⟨cn, xn, rfl, ox, l1, _, bb⟩)
    have Q1 := hide (Q.out.call3 bb ox l1)
    refine hK.out _ _ ((one_cell Q1.out.box).1) (fun _ => ?_)
    exact (hZ _ _ _ _).mp (key_13567 c1 x1 c2 x2 cn xn g1 g2 g3 _ Q1.out)
   refine AllReadyH.cons rfl (fun K hK => ?_) AllReadyH.nil
   go_simp
   have Q1 := hide Q.out.alloc3
   refine hK.out _ _ ((one_cell Q1.out.box).1) (fun _ => ?_)
   exact (hZ _ _ _ _).mp (key_13678 c1 x1 c2 x2 c3 x3 g1 g2 w3.heap.size _ Q1.out)
  have key_1368 : ∀ (c1 x1 c2 x2 c3 x3 g1 g2 g3 : Nat) (w : World), PkR ⟨W0, pb, en⟩ sN ⟨o.oc, o.bx, o.old ++ [s], rb1⟩ bx rc rb s W2 (some (c1, x1)) (some (c2, x2)) none (some g1) none (some g3) w → Z 5 #[true, true, true, true, true, false, true, false, true, false, false, false] (tA pb rc rb bx o.oc o.bx s (some g1) none (some g3) (some (c1, x1)) (some (c2, x2)) none) w := by
   intro c1 x1 c2 x2 c3 x3 g1 g2 g3 w3 q0
   have Q := hide q0
   clear q0
   rw [hZ]
   simp only [tA, pq, fq]
   refine wpAnyH_ready (rs := [5, 7]) (by kernel_rfl) (by simp) ?_
   refine AllReadyH.cons rfl (fun K hK => ?_) ?_
   ·
    go_simp
    go_wp2_with (refine (C37.out _ Q.out.ps).mono ?_; rintro e w4 ⟨cn, xn, rfl, ox, l1, _, bb⟩)
    have Q1 := hide (Q.out.call3 bb ox l1)
    refine hK.out _ _ ((one_cell Q1.out.box).1) (fun _ => ?_)
    exact (hZ _ _ _ _).mp (key_13568 c1 x1 c2 x2 cn xn g1 g2 g3 _ Q1.out)
   refine AllReadyH.cons rfl (fun K hK => ?_) AllReadyH.nil
   go_simp
   have Q1 := hide Q.out.alloc2
   refine hK.out _ _ ((one_cell Q1.out.box).1) (fun _ => ?_)
   exact (hZ _ _ _ _).mp (key_13678 c1 x1 c2 x2 c3 x3 g1 w3.heap.size g3 _ Q1.out)
  have key_1378 : ∀ (c1 x1 c2 x2 c3 x3 g1 g2 g3 : Nat) (w : World), PkR ⟨W0, pb, en⟩ sN ⟨o.oc, o.bx, o.old ++ [s], rb1⟩ bx rc rb s W2 (some (c1, x1)) (some (c2, x2)) none none (some g2) (some g3) w → Z 5 #[true, true, true, true, true, false, false, true, true, false, false, false] (tA pb rc rb bx o.oc o.bx s none (some g2) (some g3) (some (c1, x1)) (some (c2, x2)) none) w := by
   intro c1 x1 c2 x2 c3 x3 g1 g2 g3 w3 q0
   have Q := hide q0
   clear q0
   rw [hZ]
   simp only [tA, pq, fq]
   refine wpAnyH_ready (rs := [5, 6]) (by kernel_rfl) (by simp) ?_
   refine AllReadyH.cons rfl (fun K hK => ?_) ?_
   ·
    go_simp
    go_wp2_with (refine (C37.out _ Q.out.ps).mono ?_; rintro e w4 ⟨cn, xn, rfl, ox, l1, _, bb⟩)
    have Q1 := hide (Q.out.call3 bb ox l1)
    refine hK.out _ _ ((one_cell Q1.out.box).1) (fun _ => ?_)
    exact (hZ _ _ _ _).mp (key_13578 c1 x1 c2 x2 cn xn g1 g2 g3 _ Q1.out)
   refine AllReadyH.cons rfl (fun K hK => ?_) AllReadyH.nil
   go_simp
   have Q1 := hide Q.out.alloc1
   refine hK.out _ _ ((one_cell Q1.out.box).1) (fun _ => ?_)
   exact (hZ _ _ _ _).mp (key_13678 c1 x1 c2 x2 c3 x3 w3.heap.size g2 g3 _ Q1.out)
  have key_1356 : ∀ (c1 x1 c2 x2 c3 x3 g1 g2 g3 : Nat) (w : World), PkR ⟨W0, pb, en⟩ sN ⟨o.oc, o.bx, o.old ++ [s], rb1⟩ bx rc rb s W2 (some (c1, x1)) (some (c2, x2)) (some (c3, x3)) (some g1) none none w → Z 5 #[true, true, true, true, true, true, true, false, false, false, false, false] (tA pb rc rb bx o.oc o.bx s (some g1) none none (some (c1, x1)) (some (c2, x2)) (some (c3, x3))) w := by
   intro c1 x1 c2 x2 c3 x3 g1 g2 g3 w3 q0
   have Q := hide q0
   clear q0
   rw [hZ]
   simp only [tA, pq, fq]
   refine wpAnyH_ready (rs := [7, 8]) (by kernel_rfl) (by simp) ?_
   refine AllReadyH.cons rfl (fun K hK => ?_) ?_
   ·
    go_simp
    have Q1 := hide Q.out.alloc2
    refine hK.out _ _ ((one_cell Q1.out.box).1) (fun _ => ?_)
    exact (hZ _ _ _ _).mp (key_13567 c1 x1 c2 x2 c3 x3 g1 w3.heap.size g3 _ Q1.out)
   refine AllReadyH.cons rfl (fun K hK => ?_) AllReadyH.nil
   go_simp
   have Q1 := hide Q.out.alloc3
   refine hK.out _ _ ((one_cell Q1.out.box).1) (fun _ => ?_)
   exact (hZ _ _ _ _).mp (key_13568 c1 x1 c2 x2 c3 x3 g1 g2 w3.heap.size _ Q1.out)
  have key_1357 : ∀ (c1 x1 c2 x2 c3 x3 g1 g2 g3 : Nat) (w : World), PkR ⟨W0, pb, en⟩ sN ⟨o.oc, o.bx, o.old ++ [s], rb1⟩ bx rc rb s W2 (some (c1, x1)) (some (c2, x2)) (some (c3, x3)) none (some g2) none w → Z 5 #[true, true, true, true, true, true, false, true, false, false, false, false] (tA pb rc rb bx o.oc o.bx s none (some g2) none (some (c1, x1)) (some (c2, x2)) (some (c3, x3))) w := by
   intro c1 x1 c2 x2 c3 x3 g1 g2 g3 w3 q0
   have Q := hide q0
   clear q0
   rw [hZ]
   simp only [tA, pq, fq]
   refine wpAnyH_ready (rs := [6, 8]) (by kernel_rfl) (by simp) ?_
   refine AllReadyH.cons rfl (fun K hK => ?_) ?_
   ·
    go_simp
    have Q1 := hide Q.out.alloc1
    refine hK.out _ _ ((one_cell Q1.out.box).1) (fun _ => ?_)
    exact (hZ _ _ _ _).mp (key_13567 c1 x1 c2 x2 c3 x3 w3.heap.size g2 g3 _ Q1.out)
   refine AllReadyH.cons rfl (fun K hK => ?_) AllReadyH.nil
   go_simp
   have Q1 := hide Q.out.alloc3
   refine hK.out _ _ ((one_cell Q1.out.box).1) (fun _ => ?_)
   exact (hZ _ _ _ _).mp (key_13578 c1 x1 c2 x2 c3 x3 g1 g2 w3.heap.size _ Q1.out)
  have key_1358 : ∀ (c1 x1 c2 x2 c3 x3 g1 g2 g3 : Nat) (w : World), PkR ⟨W0, pb, en⟩ sN ⟨o.oc, o.bx, o.old ++ [s], rb1⟩ bx rc rb s W2 (some (c1, x1)) (some (c2, x2)) (some (c3, x3)) none none (some g3) w → Z 5 #[true, true, true, true, true, true, false, false, true, false, false, false] (tA pb rc rb bx o.oc o.bx s none none (some g3) (some (c1, x1)) (some (c2, x2)) (some (c3, x3))) w := by
   intro c1 x1 c2 x2 c3 x3 g1 g2 g3 w3 q0
   have Q := hide q0
   clear q0
   rw [hZ]
   simp only [tA, pq, fq]
   refine wpAnyH_ready (rs := [6, 7]) (by kernel_rfl) (by simp) ?_
   refine AllReadyH.cons rfl (fun K hK => ?_) ?_
   ·
    go_simp
    have Q1 := hide Q.out.alloc1
    refine hK.out _ _ ((one_cell Q1.out.box).1) (fun _ => ?_)
    exact (hZ _ _ _ _).mp (key_13568 c1 x1 c2 x2 c3 x3 w3.heap.size g2 g3 _ Q1.out)
   refine AllReadyH.cons rfl (fun K hK => ?_) AllReadyH.nil
   go_simp
   have Q1 := hide Q.out.alloc2
   refine hK.out _ _ ((one_cell Q1.out.box).1) (fun _ => ?_)
   exact (hZ _ _ _ _).mp (key_13578 c1 x1 c2 x2 c3 x3 g1 w3.heap.size g3 _ Q1.out)
  have key_678 : ∀ (c1 x1 c2 x2 c3 x3 g1 g2 g3 : Nat) (w : World), PkR ⟨W0, pb, en⟩ sN ⟨o.oc, o.bx, o.old ++ [s], rb1⟩ bx rc rb s W2 none none none (some g1) (some g2) (some g3) w → Z 6 #[true, false, true, false, true, false, true, true, true, false, false, false] (tA pb rc rb bx o.oc o.bx s (some g1) (some g2) (some g3) none none none) w := by
   intro c1 x1 c2 x2 c3 x3 g1 g2 g3 w3 q0
   have Q := hide q0
   clear q0
   rw [hZ]
   simp only [tA, pq, fq]
   refine rdy 1 (by kernel_rfl) rfl fun K hK => ?_
   go_simp
   go_wp2_with (refine (C37.out _ Q.out.ps).mono ?_; rintro e w4 ⟨cn, xn, rfl, ox, l1, _, bb⟩)
   have Q1 := hide (Q.out.call1 bb ox l1)
   refine hK.out _ _ ((one_cell Q1.out.box).1) (fun _ => ?_)
   exact (hZ _ _ _ _).mp (key_1678 cn xn c2 x2 c3 x3 g1 g2 g3 _ Q1.out)
  have key_167 : ∀ (c1 x1 c2 x2 c3 x3 g1 g2 g3 : Nat) (w : World), PkR ⟨W0, pb, en⟩ sN ⟨o.oc, o.bx, o.old ++ [s], rb1⟩ bx rc rb s W2 (some (c1, x1)) none none (some g1) (some g2) none w → Z 6 #[true, true, true, false, true, false, true, true, false, false, false, false] (tA pb rc rb bx o.oc o.bx s (some g1) (some g2) none (some (c1, x1)) none none) w := by
   intro c1 x1 c2 x2 c3 x3 g1 g2 g3 w3 q0
   have Q := hide q0
   clear q0
   rw [hZ]
   simp only [tA, pq, fq]
   refine wpAnyH_ready (rs := [3, 8]) (by kernel_rfl) (by simp) ?_
   refine AllReadyH.cons rfl (fun K hK => ?_) ?_
   ·
    go_simp
    go_wp2_with (refine (C37.out _ Q.out.ps).mono ?_; rintro e w4 ⟨cn, xn, rfl, ox, l1, _, bb⟩)
    have Q1 := hide (Q.out.call2 bb ox l1)
    refine hK.out _ _ ((one_cell Q1.out.box).1) (fun _ => ?_)
    exact (hZ _ _ _ _).mp (key_1367 c1 x1 cn xn c3 x3 g1 g2 g3 _ Q1.out)
   refine AllReadyH.cons rfl (fun K hK => ?_) AllReadyH.nil
   go_simp
   have Q1 := hide Q.out.alloc3
   refine hK.out _ _ ((one_cell Q1.out.box).1) (fun _ => ?_)
   exact (hZ _ _ _ _).mp (key_1678 c1 x1 c2 x2 c3 x3 g1 g2 w3.heap.size _ Q1.out)
  have key_168 : ∀ (c1 x1 c2 x2 c3 x3 g1 g2 g3 : Nat) (w : World), PkR ⟨W0, pb, en⟩ sN ⟨o.oc, o.bx, o.old ++ [s], rb1⟩ bx rc rb s W2 (some (c1, x1)) none none (some g1) none (some g3) w → Z 6 #[true, true, true, false, true, false, true, false, true, false, false, false] (tA pb rc rb bx o.oc o.bx s (some g1) none (some g3) (some (c1, x1)) none none) w := by
   intro c1 x1 c2 x2 c3 x3 g1 g2 g3 w3 q0
   have Q := hide q0
   clear q0
   rw [hZ]
   simp only [tA, pq, fq]
   refine wpAnyH_ready (rs := [3, 7]) (by kernel_rfl) (by simp) ?_
   refine AllReadyH.cons rfl (fun K hK => ?_) ?_
   ·
    go_simp
    go_wp2_with (refine (C37.out _ Q.out.ps).mono ?_; rintro e w4 ⟨cn, xn, rfl, ox, l1, _, bb⟩)
    have Q1 := hide (Q.out.call2 bb ox l1)
    refine hK.out _ _ ((one_cell Q1.out.box).1) (fun _ => ?_)
    exact (hZ _ _ _ _).mp (key_1368 c1 x1 cn xn c3 x3 g1 g2 g3 _ Q1.out)
   refine AllReadyH.cons rfl (fun K hK => ?_) AllReadyH.nil
   go_simp
   have Q1 := hide Q.out.alloc2
   refine hK.out _ _ ((one_cell Q1.out.box).1) (fun _ => ?_)
   exact (hZ _ _ _ _).mp (key_1678 c1 x1 c2 x2 c3 x3 g1 w3.heap.size g3 _ Q1.out)
  have key_178 : ∀ (c1 x1 c2 x2 c3 x3 g1 g2 g3 : Nat) (w : World), PkR ⟨W0, pb, en⟩ sN ⟨o.oc, o.bx, o.old ++ [s], rb1⟩ bx rc rb s W2 (some (c1, x1)) none none none (some g2) (some g3) w → Z 6 #[true, true, true, false, true, false, false, true, true, false, false, false] (tA pb rc rb bx o.oc o.bx s none (some g2) (some g3) (some (c1, x1)) none none) w := by
   intro c1 x1 c2 x2 c3 x3 g1 g2 g3 w3 q0
   have Q := hide q0
   clear q0
   rw [hZ]
   simp only [tA, pq, fq]
   refine wpAnyH_ready (rs := [3, 6]) (by kernel_rfl) (by simp) ?_
   refine AllReadyH.cons rfl (fun K hK => ?_) ?_
   ·
    go_simp
    go_wp2_with (refine (C37.out _ Q.out.ps).mono ?_; rintro e w4 ⟨cn, xn, rfl, ox, l1, _, bb⟩)
    have Q1 := hide (Q.out.call2 bb ox l1)
    refine hK.out _ _ ((one_cell Q1.out.box).1) (fun _ => ?_)
    exact (hZ _ _ _ _).mp (key_1378 c1 x1 cn xn c3 x3 g1 g2 g3 _ Q1.out)
   refine AllReadyH.cons rfl (fun K hK => ?_) AllReadyH.nil
   go_simp
   have Q1 := hide Q.out.alloc1
   refine hK.out _ _ ((one_cell Q1.out.box).1) (fun _ => ?_)
   exact (hZ _ _ _ _).mp (key_1678 c1 x1 c2 x2 c3 x3 w3.heap.size g2 g3 _ Q1.out)
  have key_136 : ∀ (c1 x1 c2 x2 c3 x3 g1 g2 g3 : Nat) (w : World), PkR ⟨W0, pb, en⟩ sN ⟨o.oc, o.bx, o.old ++ [s], rb1⟩ bx rc rb s W2 (some (c1, x1)) (some (c2, x2)) none (some g1) none none w → Z 6 #[true, true, true, true, true, false, true, false, false, false, false, false] (tA pb rc rb bx o.oc o.bx s (some g1) none none (some (c1, x1)) (some (c2, x2)) none) w := by
   intro c1 x1 c2 x2 c3 x3 g1 g2 g3 w3 q0
   have Q := hide q0
   clear q0
   rw [hZ]
   simp only [tA, pq, fq]
   refine wpAnyH_ready (rs := [5, 7, 8]) (by kernel_rfl) (by simp) ?_
   refine AllReadyH.cons rfl (fun K hK => ?_) ?_
   ·
    go_simp
    go_wp2_with (refine (C37.out _ Q.out.ps).mono ?_; rintro e w4 ⟨cn, xn, rfl, ox, l1, _, bb⟩)
    have Q1 := hide (Q.out.call3 bb ox l1)
    refine hK.out _ _ ((one_cell Q1.out.box).1) (fun _ => ?_)
    exact (hZ _ _ _ _).mp (key_1356 c1 x1 c2 x2 cn xn g1 g2 g3 _ Q1.out)
   refine AllReadyH.cons rfl (fun K hK => ?_) ?_
   ·
    go_simp
    have Q1 := hide Q.out.alloc2
    refine hK.out _ _ ((one_cell Q1.out.box).1) (fun _ => ?_)
    exact (hZ _ _ _ _).mp (key_1367 c1 x1 c2 x2 c3 x3 g1 w3.heap.size g3 _ Q1.out)
   refine AllReadyH.cons rfl (fun K hK => ?_) AllReadyH.nil
   go_simp
   have Q1 := hide Q.out.alloc3
   refine hK.out _ _ ((one_cell Q1.out.box).1) (fun _ => ?_)
   exact (hZ _ _ _ _).mp (key_1368 c1 x1 c2 x2 c3 x3 g1 g2 w3.heap.size _ Q1.out)
  have key_137 : ∀ (c1 x1 c2 x2 c3 x3 g1 g2 g3 : Nat) (w : World), PkR ⟨W0, pb, en⟩ sN ⟨o.oc, o.bx, o.old ++ [s], rb1⟩ bx rc rb s W2 (some (c1, x1)) (some (c2, x2)) none none (some g2) none w → Z 6 #[true, true, true, true, true, false, false, true, false, false, false, false] (tA pb rc rb bx o.oc o.bx s none (some g2) none (some (c1, x1)) (some (c2, x2)) none) w := by
   intro c1 x1 c2 x2 c3 x3 g1 g2 g3 w3 q0
   have Q := hide q0
   clear q0
   rw [hZ]
   simp only [tA, pq, fq]
   refine wpAnyH_ready (rs := [5, 6, 8]) (by kernel_rfl) (by simp) ?_
   refine AllReadyH.cons rfl (fun K hK => ?_) ?_
   ·
    go_simp
    go_wp2_with (refine (C37.out _ Q.out.ps).mono ?_; rintro e w4 ⟨cn, xn, rfl, ox, l1, _, bb⟩)
    have Q1 := hide (Q.out.call3 bb ox l1)
    refine hK.out _ _ ((one_cell Q1.out.box).1) (fun _ => ?_)
    exact (hZ _ _ _ _).mp (key_1357 c1 x1 c2 x2 cn xn g1 g2 g3 _ Q1.out)
   refine AllReadyH.cons rfl (fun K hK => ?_) ?_
   ·
    go_simp
    have Q1 := hide Q.out.alloc1
    refine hK.out _ _ ((one_cell Q1.out.box).1) (fun _ => ?_)
    exact (hZ _ _ _ _).mp (key_1367 c1 x1 c2 x2 c3 x3 w3.heap.size g2 g3 _ Q1.out)
   refine AllReadyH.cons rfl (fun K hK => ?_) AllReadyH.nil
   go_simp
   have Q1 := hide Q.out.alloc3
   refine hK.out _ _ ((one_cell Q1.out.box).1) (fun _ => ?_)
   exact (hZ _ _ _ _).mp (key_1378 c1 x1 c2 x2 c3 x3 g1 g2 w3.heap.size _ Q1.out)
  have key_138 : ∀ (c1 x1 c2 x2 c3 x3 g1 g2 g3 : Nat) (w : World), PkR ⟨W0, pb, en⟩ sN ⟨o.oc, o.bx, o.old ++ [s], rb1⟩ bx rc rb s W2 (some (c1, x1)) (some (c2, x2)) none none none (some g3) w → Z 6 #[true, true, true, true, true, false, false, false, true, false, false, false] (tA pb rc rb bx o.oc o.bx s none none (some g3) (some (c1, x1)) (some (c2, x2)) none) w := by
   intro c1 x1 c2 x2 c3 x3 g1 g2 g3 w3 q0
   have Q := hide q0
   clear q0
   rw [hZ]
   simp only [tA, pq, fq]
   refine wpAnyH_ready (rs := [5, 6, 7]) (by kernel_rfl) (by simp) ?_
   refine AllReadyH.cons rfl (fun K hK => ?_) ?_
   ·
    go_simp
    go_wp2_with (refine (C37.out _ Q.out.ps).mono ?_; rintro e w4 ⟨cn, xn, rfl, ox, l1, _, bb⟩)
    have Q1 := hide (Q.out.call3 bb ox l1)
    refine hK.out _ _ ((one_cell Q1.out.box).1) (fun _ => ?_)
    exact (hZ _ _ _ _).mp (key_1358 c1 x1 c2 x2 cn xn g1 g2 g3 _ Q1.out)
   refine AllReadyH.cons rfl (fun K hK => ?_) ?_
   ·
    go_simp
    have Q1 := hide Q.out.alloc1
    refine hK.out _ _ ((one_cell Q1.out.box).1) (fun _ => ?_)
    exact (hZ _ _ _ _).mp (key_1368 c1 x1 c2 x2 c3 x3 w3.heap.size g2 g3 _ Q1.out)
   refine AllReadyH.cons rfl (fun K hK => ?_) AllReadyH.nil
   go_simp
   have Q1 := hide Q.out.alloc2
   refine hK.out _ _ ((one_cell Q1.out.box).1) (fun _ => ?_)
   exact (hZ _ _ _ _).mp (key_1378 c1 x1 c2 x2 c3 x3 g1 w3.heap.size g3 _ Q1.out)
  have key_135 : ∀ (c1 x1 c2 x2 c3 x3 g1 g2 g3 : Nat) (w : World), PkR ⟨W0, pb, en⟩ sN ⟨o.oc, o.bx, o.old ++ [s], rb1⟩ bx rc rb s W2 (some (c1, x1)) (some (c2, x2)) (some (c3, x3)) none none none w → Z 6 #[true, true, true, true, true, true, false, false, false, false, false, false] (tA pb rc rb bx o.oc o.bx s none none none (some (c1, x1)) (some (c2, x2)) (some (c3, x3))) w := by
   intro c1 x1 c2 x2 c3 x3 g1 g2 g3 w3 q0
   have Q := hide q0
   clear q0
   rw [hZ]
   simp only [tA, pq, fq]
   refine wpAnyH_ready (rs := [6, 7, 8]) (by kernel_rfl) (by simp) ?_
   refine AllReadyH.cons rfl (fun K hK => ?_) ?_
   ·
    go_simp
    have Q1 := hide Q.out.alloc1
    refine hK.out _ _ ((one_cell Q1.out.box).1) (fun _ => ?_)
    exact (hZ _ _ _ _).mp (key_1356 c1 x1 c2 x2 c3 x3 w3.heap.size g2 g3 _ Q1.out)
   refine AllReadyH.cons rfl (fun K hK => ?_) ?_
   ·
    go_simp
    have Q1 := hide Q.out.alloc2
    refine hK.out _ _ ((one_cell Q1.out.box).1) (fun _ => ?_)
    exact (hZ _ _ _ _).mp (key_1357 c1 x1 c2 x2 c3 x3 g1 w3.heap.size g3 _ Q1.out)
   refine AllReadyH.cons rfl (fun K hK => ?_) AllReadyH.nil
   go_simp
   have Q1 := hide Q.out.alloc3
   refine hK.out _ _ ((one_cell Q1.out.box).1) (fun _ => ?_)
   exact (hZ _ _ _ _).mp (key_1358 c1 x1 c2 x2 c3 x3 g1 g2 w3.heap.size _ Q1.out)
  have key_67 : ∀ (c1 x1 c2 x2 c3 x3 g1 g2 g3 : Nat) (w : World), PkR ⟨W0, pb, en⟩ sN ⟨o.oc, o.bx, o.old ++ [s], rb1⟩ bx rc rb s W2 none none none (some g1) (some g2) none w → Z 7 #[true, false, true, false, true, false, true, true, false, false, false, false] (tA pb rc rb bx o.oc o.bx s (some g1) (some g2) none none none none) w := by
   intro c1 x1 c2 x2 c3 x3 g1 g2 g3 w3 q0
   have Q := hide q0
   clear q0
   rw [hZ]
   simp only [tA, pq, fq]
   refine wpAnyH_ready (rs := [1, 8]) (by kernel_rfl) (by simp) ?_
   refine AllReadyH.cons rfl (fun K hK => ?_) ?_
   ·
    go_simp
    go_wp2_with (refine (C37.out _ Q.out.ps).mono ?_; rintro e w4 ⟨cn, xn, rfl, ox, l1, _, bb⟩)
    have Q1 := hide (Q.out.call1 bb ox l1)
    refine hK.out _ _ ((one_cell Q1.out.box).1) (fun _ => ?_)
    exact (hZ _ _ _ _).mp (key_167 cn xn c2 x2 c3 x3 g1 g2 g3 _ Q1.out)
   refine AllReadyH.cons rfl (fun K hK => ?_) AllReadyH.nil
   go_simp
   have Q1 := hide Q.out.alloc3
   refine hK.out _ _ ((one_cell Q1.out.box).1) (fun _ => ?_)
   exact (hZ _ _ _ _).mp (key_678 c1 x1 c2 x2 c3 x3 g1 g2 w3.heap.size _ Q1.out)
  have key_68 : ∀ (c1 x1 c2 x2 c3 x3 g1 g2 g3 : Nat) (w : World), PkR ⟨W0, pb, en⟩ sN ⟨o.oc, o.bx, o.old ++ [s], rb1⟩ bx rc rb s W2 none none none (some g1) none (some g3) w → Z 7 #[true, false, true, false, true, false, true, false, true, false, false, false] (tA pb rc rb bx o.oc o.bx s (some g1) none (some g3) none none none) w := by
   intro c1 x1 c2 x2 c3 x3 g1 g2 g3 w3 q0
   have Q := hide q0
   clear q0
   rw [hZ]
   simp only [tA, pq, fq]
   refine wpAnyH_ready (rs := [1, 7]) (by kernel_rfl) (by simp) ?_
   refine AllReadyH.cons rfl (fun K hK => ?_) ?_
   ·
    go_simp
    go_wp2_with (refine (C37.out _ Q.out.ps).mono ?_; rintro e w4 ⟨cn, xn, rfl, ox, l1, _, bb⟩)
    have Q1 := hide (Q.out.call1 bb ox l1)
    refine hK.out _ _ ((one_cell Q1.out.box).1) (fun _ => ?_)
    exact (hZ _ _ _ _).mp (key_168 cn xn c2 x2 c3 x3 g1 g2 g3 _ Q1.out)
   refine AllReadyH.cons rfl (fun K hK => ?_) AllReadyH.nil
   go_simp
   have Q1 := hide Q.out.alloc2
   refine hK.out _ _ ((one_cell Q1.out.box).1) (fun _ => ?_)
   exact (hZ _ _ _ _).mp (key_678 c1 x1 c2 x2 c3 x3 g1 w3.heap.size g3 _ Q1.out)
  have key_78 : ∀ (c1 x1 c2 x2 c3 x3 g1 g2 g3 : Nat) (w : World), PkR ⟨W0, pb, en⟩ sN ⟨o.oc, o.bx, o.old ++ [s], rb1⟩ bx rc rb s W2 none none none none (some g2) (some g3) w → Z 7 #[true, false, true, false, true, false, false, true, true, false, false, false] (tA pb rc rb bx o.oc o.bx s none (some g2) (some g3) none none none) w := by
   intro c1 x1 c2 x2 c3 x3 g1 g2 g3 w3 q0
   have Q := hide q0
   clear q0
   rw [hZ]
   simp only [tA, pq, fq]
   refine wpAnyH_ready (rs := [1, 6]) (by kernel_rfl) (by simp) ?_
   refine AllReadyH.cons rfl (fun K hK => ?_) ?_
   ·
    go_simp
    go_wp2_with (refine (C37.out _ Q.out.ps).mono ?_; rintro e w4 ⟨cn, xn, rfl, ox, l1, _, bb⟩)
    have Q1 := hide (Q.out.call1 bb ox l1)
    refine hK.out _ _ ((one_cell Q1.out.box).1) (fun _ => ?_)
    exact (hZ _ _ _ _).mp (key_178 cn xn c2 x2 c3 x3 g1 g2 g3 _ Q1.out)
   refine AllReadyH.cons rfl (fun K hK => ?_) AllReadyH.nil
   go_simp
   have Q1 := hide Q.out.alloc1
   refine hK.out _ _ ((one_cell Q1.out.box).1) (fun _ => ?_)
   exact (hZ _ _ _ _).mp (key_678 c1 x1 c2 x2 c3 x3 w3.heap.size g2 g3 _ Q1.out)
  have key_16 : ∀ (c1 x1 c2 x2 c3 x3 g1 g2 g3 : Nat) (w : World), PkR ⟨W0, pb, en⟩ sN ⟨o.oc, o.bx, o.old ++ [s], rb1⟩ bx rc rb s W2 (some (c1, x1)) none none (some g1) none none w → Z 7 #[true, true, true, false, true, false, true, false, false, false, false, false] (tA pb rc rb bx o.oc o.bx s (some g1) none none (some (c1, x1)) none none) w := by
   intro c1 x1 c2 x2 c3 x3 g1 g2 g3 w3 q0
   have Q := hide q0
   clear q0
   rw [hZ]
   simp only [tA, pq, fq]
   refine wpAnyH_ready (rs := [3, 7, 8]) (by kernel_rfl) (by simp) ?_
   refine AllReadyH.cons rfl (fun K hK => ?_) ?_
   ·
    go_simp
    go_wp2_with (refine (C37.out _ Q.out.ps).mono ?_; rintro e w4 ⟨cn, xn, rfl, ox, l1, _, bb⟩)
    have Q1 := hide (Q.out.call2 bb ox l1)
    refine hK.out _ _ ((one_cell Q1.out.box).1) (fun _ => ?_)
    exact (hZ _ _ _ _).mp (key_136 c1 x1 cn xn c3 x3 g1 g2 g3 _ Q1.out)
   refine AllReadyH.cons rfl (fun K hK => ?_) ?_
   ·
    go_simp
    have Q1 := hide Q.out.alloc2
    refine hK.out _ _ ((one_cell Q1.out.box).1) (fun _ => ?_)
    exact (hZ _ _ _ _).mp (key_167 c1 x1 c2 x2 c3 x3 g1 w3.heap.size g3 _ Q1.out)
   refine AllReadyH.cons rfl (fun K hK => ?_) AllReadyH.nil
   go_simp
   have Q1 := hide Q.out.alloc3
   refine hK.out _ _ ((one_cell Q1.out.box).1) (fun _ => ?_)
   exact (hZ _ _ _ _).mp (key_168 c1 x1 c2 x2 c3 x3 g1 g2 w3.heap.size _ Q1.out)
  have key_17 : ∀ (c1 x1 c2 x2 c3 x3 g1 g2 g3 : Nat) (w : World), PkR ⟨W0, pb, en⟩ sN ⟨o.oc, o.bx, o.old ++ [s], rb1⟩ bx rc rb s W2 (some (c1, x1)) none none none (some g2) none w → Z 7 #[true, true, true, false, true, false, false, true, false, false, false, false] (tA pb rc rb bx o.oc o.bx s none (some g2) none (some (c1, x1)) none none) w := by
   intro c1 x1 c2 x2 c3 x3 g1 g2 g3 w3 q0
   have Q := hide q0
   clear q0
   rw [hZ]
   simp only [tA, pq, fq]
   refine wpAnyH_ready (rs := [3, 6, 8]) (by kernel_rfl) (by simp) ?_
   refine AllReadyH.cons rfl (fun K hK => ?_) ?_
   ·
    go_simp
    go_wp2_with (refine (C37.out _ Q.out.ps).mono ?_; rintro e w4 ⟨cn, xn, rfl, ox, l1, _, bb⟩)
    have Q1 := hide (Q.out.call2 bb ox l1)
    refine hK.out _ _ ((one_cell Q1.out.box).1) (fun _ => ?_)
    exact (hZ _ _ _ _).mp (key_137 c1 x1 cn xn c3 x3 g1 g2 g3 _ Q1.out)
   refine AllReadyH.cons rfl (fun K hK => ?_) ?_
   ·
    go_simp
    have Q1 := hide Q.out.alloc1
    refine hK.out _ _ ((one_cell Q1.out.box).1) (fun _ => ?_)
    exact (hZ _ _ _ _).mp (key_167 c1 x1 c2 x2 c3 x3 w3.heap.size g2 g3 _ Q1.out)
   refine AllReadyH.cons rfl (fun K hK => ?_) AllReadyH.nil
   go_simp
   have Q1 := hide Q.out.alloc3
   refine hK.out _ _ ((one_cell Q1.out.box).1) (fun _ => ?_)
   exact (hZ _ _ _ _).mp (key_178 c1 x1 c2 x2 c3 x3 g1 g2 w3.heap.size _ Q1.out)
  have key_18 : ∀ (c1 x1 c2 x2 c3 x3 g1 g2 g3 : Nat) (w : World), PkR ⟨W0, pb, en⟩ sN ⟨o.oc, o.bx, o.old ++ [s], rb1⟩ bx rc rb s W2 (some (c1, x1)) none none none none (some g3) w → Z 7 #[true, true, true, false, true, false, false, false, true, false, false, false] (tA pb rc rb bx o.oc o.bx s none none (some g3) (some (c1, x1)) none none) w := by
   intro c1 x1 c2 x2 c3 x3 g1 g2 g3 w3 q0
   have Q := hide q0
   clear q0
   rw [hZ]
   simp only [tA, pq, fq]
   refine wpAnyH_ready (rs := [3, 6, 7]) (by kernel_rfl) (by simp) ?_
   refine AllReadyH.cons rfl (fun K hK => ?_) ?_
   ·
    go_simp
    go_wp2_with (refine (C37.out _ Q.out.ps).mono ?_; rintro e w4 ⟨cn, xn, rfl, ox, l1, _, bb⟩)
    have Q1 := hide (Q.out.call2 bb ox l1)
    refine hK.out _ _ ((one_cell Q1.out.box).1) (fun _ => ?_)
    exact (hZ _ _ _ _).mp (key_138 c1 x1 cn xn c3 x3 g1 g2 g3 _ Q1.out)
   refine AllReadyH.cons rfl (fun K hK => ?_) ?_
   ·
    go_simp
    have Q1 := hide Q.out.alloc1
    refine hK.out _ _ ((one_cell Q1.out.box).1) (fun _ => ?_)
    exact (hZ _ _ _ _).mp (key_168 c1 x1 c2 x2 c3 x3 w3.heap.size g2 g3 _ Q1.out)
   refine AllReadyH.cons rfl (fun K hK => ?_) AllReadyH.nil
   go_simp
   have Q1 := hide Q.out.alloc2
   refine hK.out _ _ ((one_cell Q1.out.box).1) (fun _ => ?_)
   exact (hZ _ _ _ _).mp (key_178 c1 x1 c2 x2 c3 x3 g1 w3.heap.size g3 _ Q1.out)
  have key_13 : ∀ (c1 x1 c2 x2 c3 x3 g1 g2 g3 : Nat) (w : World), PkR ⟨W0, pb, en⟩ sN ⟨o.oc, o.bx, o.old ++ [s], rb1⟩ bx rc rb s W2 (some (c1, x1)) (some (c2, x2)) none none none none w → Z 7 #[true, true, true, true, true, false, false, false, false, false, false, false] (tA pb rc rb bx o.oc o.bx s none none none (some (c1, x1)) (some (c2, x2)) none) w := by
   intro c1 x1 c2 x2 c3 x3 g1 g2 g3 w3 q0
   have Q := hide q0
   clear q0
   rw [hZ]
   simp only [tA, pq, fq]
   refine wpAnyH_ready (rs := [5, 6, 7, 8]) (by kernel_rfl) (by simp) ?_
   refine AllReadyH.cons rfl (fun K hK => ?_) ?_
   ·
    go_simp
    go_wp2_with (refine (C37.out _ Q.out.ps).mono ?_; rintro e w4 ⟨cn, xn, rfl, ox, l1, _, bb⟩)
    have Q1 := hide (Q.out.call3 bb ox l1)
    refine hK.out _ _ ((one_cell Q1.out.box).1) (fun _ => ?_)
    exact (hZ _ _ _ _).mp (key_135 c1 x1 c2 x2 cn xn g1 g2 g3 _ Q1.out)
   refine AllReadyH.cons rfl (fun K hK => ?_) ?_
   ·
    go_simp
    have Q1 := hide Q.out.alloc1
    refine hK.out _ _ ((one_cell Q1.out.box).1) (fun _ => ?_)
    exact (hZ _ _ _ _).mp (key_136 c1 x1 c2 x2 c3 x3 w3.heap.size g2 g3 _ Q1.out)
   refine AllReadyH.cons rfl (fun K hK => ?_) ?_
   ·
    go_simp
    have Q1 := hide Q.out.alloc2
    refine hK.out _ _ ((one_cell Q1.out.box).1) (fun _ => ?_)
    exact (hZ _ _ _ _).mp (key_137 c1 x1 c2 x2 c3 x3 g1 w3.heap.size g3 _ Q1.out)
   refine AllReadyH.cons rfl (fun K hK => ?_) AllReadyH.nil
   go_simp
   have Q1 := hide Q.out.alloc3
   refine hK.out _ _ ((one_cell Q1.out.box).1) (fun _ => ?_)
   exact (hZ _ _ _ _).mp (key_138 c1 x1 c2 x2 c3 x3 g1 g2 w3.heap.size _ Q1.out)
  have key_6 : ∀ (c1 x1 c2 x2 c3 x3 g1 g2 g3 : Nat) (w : World), PkR ⟨W0, pb, en⟩ sN ⟨o.oc, o.bx, o.old ++ [s], rb1⟩ bx rc rb s W2 none none none (some g1) none none w → Z 8 #[true, false, true, false, true, false, true, false, false, false, false, false] (tA pb rc rb bx o.oc o.bx s (some g1) none none none none none) w := by
   intro c1 x1 c2 x2 c3 x3 g1 g2 g3 w3 q0
   have Q := hide q0
   clear q0
   rw [hZ]
   simp only [tA, pq, fq]
   refine wpAnyH_ready (rs := [1, 7, 8]) (by kernel_rfl) (by simp) ?_
   refine AllReadyH.cons rfl (fun K hK => ?_) ?_
   ·
    go_simp
    go_wp2_with (refine (C37.out _ Q.out.ps).mono ?_; rintro e w4 ⟨cn, xn, rfl, ox, l1, _, bb⟩)
    have Q1 := hide (Q.out.call1 bb ox l1)
    refine hK.out _ _ ((one_cell Q1.out.box).1) (fun _ => ?_)
    exact (hZ _ _ _ _).mp (key_16 cn xn c2 x2 c3 x3 g1 g2 g3 _ Q1.out)
   refine AllReadyH.cons rfl (fun K hK => ?_) ?_
   ·
    go_simp
    have Q1 := hide Q.out.alloc2
    refine hK.out _ _ ((one_cell Q1.out.box).1) (fun _ => ?_)
    exact (hZ _ _ _ _).mp (key_67 c1 x1 c2 x2 c3 x3 g1 w3.heap.size g3 _ Q1.out)
   refine AllReadyH.cons rfl (fun K hK => ?_) AllReadyH.nil
   go_simp
   have Q1 := hide Q.out.alloc3
   refine hK.out _ _ ((one_cell Q1.out.box).1) (fun _ => ?_)
   exact (hZ _ _ _ _).mp (key_68 c1 x1 c2 x2 c3 x3 g1 g2 w3.heap.size _ Q1.out)
  have key_7 : ∀ (c1 x1 c2 x2 c3 x3 g1 g2 g3 : Nat) (w : World), PkR ⟨W0, pb, en⟩ sN ⟨o.oc, o.bx, o.old ++ [s], rb1⟩ bx rc rb s W2 none none none none (some g2) none w → Z 8 #[true, false, true, false, true, false, false, true, false, false, false, false] (tA pb rc rb bx o.oc o.bx s none (some g2) none none none none) w := by
   intro c1 x1 c2 x2 c3 x3 g1 g2 g3 w3 q0
   have Q := hide q0
   clear q0
   rw [hZ]
   simp only [tA, pq, fq]
   refine wpAnyH_ready (rs := [1, 6, 8]) (by kernel_rfl) (by simp) ?_
   refine AllReadyH.cons rfl (fun K hK => ?_) ?_
   ·
    go_simp
    go_wp2_with (refine (C37.out _ Q.out.ps).mono ?_; rintro e w4 ⟨cn, xn, rfl, ox, l1, _, bb⟩)
    have Q1 := hide (Q.out.call1 bb ox l1)
    refine hK.out _ _ ((one_cell Q1.out.box).1) (fun _ => ?_)
    exact (hZ _ _ _ _).mp (key_17 cn xn c2 x2 c3 x3 g1 g2 g3 _ Q1.out)
   refine AllReadyH.cons rfl (fun K hK => ?_) ?_
   ·
    go_simp
    have Q1 := hide Q.out.alloc1
    refine hK.out _ _ ((one_cell Q1.out.box).1) (fun _ => ?_)
    exact (hZ _ _ _ _).mp (key_67 c1 x1 c2 x2 c3 x3 w3.heap.size g2 g3 _ Q1.out)
   refine AllReadyH.cons rfl (fun K hK => ?_) AllReadyH.nil
   go_simp
   have Q1 := hide Q.out.alloc3
   refine hK.out _ _ ((one_cell Q1.out.box).1) (fun _ => ?_)
   exact (hZ _ _ _ _).mp (key_78 c1 x1 c2 x2 c3 x3 g1 g2 w3.heap.size _ Q1.out)
  have key_8 : ∀ (c1 x1 c2 x2 c3 x3 g1 g2 g3 : Nat) (w : World), PkR ⟨W0, pb, en⟩ sN ⟨o.oc, o.bx, o.old ++ [s], rb1⟩ bx rc rb s W2 none none none none none (some g3) w → Z 8 #[true, false, true, false, true, false, false, false, true, false, false, false] (tA pb rc rb bx o.oc o.bx s none none (some g3) none none none) w := by
   intro c1 x1 c2 x2 c3 x3 g1 g2 g3 w3 q0
   have Q := hide q0
   clear q0
   rw [hZ]
   simp only [tA, pq, fq]
   refine wpAnyH_ready (rs := [1, 6, 7]) (by kernel_rfl) (by simp) ?_
   refine AllReadyH.cons rfl (fun K hK => ?_) ?_
   ·
    go_simp
    go_wp2_with (refine (C37.out _ Q.out.ps).mono ?_; rintro e w4 ⟨cn, xn, rfl, ox, l1, _, bb⟩)
    have Q1 := hide (Q.out.call1 bb ox l1)
    refine hK.out _ _ ((one_cell Q1.out.box).1) (fun _ => ?_)
    exact (hZ _ _ _ _).mp (key_18 cn xn c2 x2 c3 x3 g1 g2 g3 _ Q1.out)
   refine AllReadyH.cons rfl (fun K hK => ?_) ?_
   ·
    go_simp
    have Q1 := hide Q.out.alloc1
    refine hK.out _ _ ((one_cell Q1.out.box).1) (fun _ => ?_)
    exact (hZ _ _ _ _).mp (key_68 c1 x1 c2 x2 c3 x3 w3.heap.size g2 g3 _ Q1.out)
   refine AllReadyH.cons rfl (fun K hK => ?_) AllReadyH.nil
   go_simp
   have Q1 := hide Q.out.alloc2
   refine hK.out _ _ ((one_cell Q1.out.box).1) (fun _ => ?_)
   exact (hZ _ _ _ _).mp (key_78 c1 x1 c2 x2 c3 x3 g1 w3.heap.size g3 _ Q1.out)
  have key_1 : ∀ (c1 x1 c2 x2 c3 x3 g1 g2 g3 : Nat) (w : World), PkR ⟨W0, pb, en⟩ sN ⟨o.oc, o.bx, o.old ++ [s], rb1⟩ bx rc rb s W2 (some (c1, x1)) none none none none none w → Z 8 #[true, true, true, false, true, false, false, false, false, false, false, false] (tA pb rc rb bx o.oc o.bx s none none none (some (c1, x1)) none none) w := by
   intro c1 x1 c2 x2 c3 x3 g1 g2 g3 w3 q0
   have Q := hide q0
   clear q0
   rw [hZ]
   simp only [tA, pq, fq]
   refine wpAnyH_ready (rs := [3, 6, 7, 8]) (by kernel_rfl) (by simp) ?_
   refine AllReadyH.cons rfl (fun K hK => ?_) ?_
   ·
    go_simp
    go_wp2_with (refine (C37.out _ Q.out.ps).mono ?_; rintro e w4 ⟨cn, xn, rfl, ox, l1, _, bb⟩)
    have Q1 := hide (Q.out.call2 bb ox l1)
    refine hK.out _ _ ((one_cell Q1.out.box).1) (fun _ => ?_)
    exact (hZ _ _ _ _).mp (key_13 c1 x1 cn xn c3 x3 g1 g2 g3 _ Q1.out)
   refine AllReadyH.cons rfl (fun K hK => ?_) ?_
   ·
    go_simp
    have Q1 := hide Q.out.alloc1
    refine hK.out _ _ ((one_cell Q1.out.box).1) (fun _ => ?_)
    exact (hZ _ _ _ _).mp (key_16 c1 x1 c2 x2 c3 x3 w3.heap.size g2 g3 _ Q1.out)
   refine AllReadyH.cons rfl (fun K hK => ?_) ?_
   ·
    go_simp
    have Q1 := hide Q.out.alloc2
    refine hK.out _ _ ((one_cell Q1.out.box).1) (fun _ => ?_)
    exact (hZ _ _ _ _).mp (key_17 c1 x1 c2 x2 c3 x3 g1 w3.heap.size g3 _ Q1.out)
   refine AllReadyH.cons rfl (fun K hK => ?_) AllReadyH.nil
   go_simp
   have Q1 := hide Q.out.alloc3
   refine hK.out _ _ ((one_cell Q1.out.box).1) (fun _ => ?_)
   exact (hZ _ _ _ _).mp (key_18 c1 x1 c2 x2 c3 x3 g1 g2 w3.heap.size _ Q1.out)
  have key_ : ∀ (c1 x1 c2 x2 c3 x3 g1 g2 g3 : Nat) (w : World), PkR ⟨W0, pb, en⟩ sN ⟨o.oc, o.bx, o.old ++ [s], rb1⟩ bx rc rb s W2 none none none none none none w → Z 9 #[true, false, true, false, true, false, false, false, false, false, false, false] (tA pb rc rb bx o.oc o.bx s none none none none none none) w := by
   intro c1 x1 c2 x2 c3 x3 g1 g2 g3 w3 q0
   have Q := hide q0
   clear q0
   rw [hZ]
   simp only [tA, pq, fq]
   refine wpAnyH_ready (rs := [1, 6, 7, 8]) (by kernel_rfl) (by simp) ?_
   refine AllReadyH.cons rfl (fun K hK => ?_) ?_
   ·
    go_simp
    go_wp2_with (refine (C37.out _ Q.out.ps).mono ?_; rintro e w4 ⟨cn, xn, rfl, ox, l1, _, bb⟩)
    have Q1 := hide (Q.out.call1 bb ox l1)
    refine hK.out _ _ ((one_cell Q1.out.box).1) (fun _ => ?_)
    exact (hZ _ _ _ _).mp (key_1 cn xn c2 x2 c3 x3 g1 g2 g3 _ Q1.out)
   refine AllReadyH.cons rfl (fun K hK => ?_) ?_
   ·
    go_simp
    have Q1 := hide Q.out.alloc1
    refine hK.out _ _ ((one_cell Q1.out.box).1) (fun _ => ?_)
    exact (hZ _ _ _ _).mp (key_6 c1 x1 c2 x2 c3 x3 w3.heap.size g2 g3 _ Q1.out)
   refine AllReadyH.cons rfl (fun K hK => ?_) ?_
   ·
    go_simp
    have Q1 := hide Q.out.alloc2
    refine hK.out _ _ ((one_cell Q1.out.box).1) (fun _ => ?_)
    exact (hZ _ _ _ _).mp (key_7 c1 x1 c2 x2 c3 x3 g1 w3.heap.size g3 _ Q1.out)
   refine AllReadyH.cons rfl (fun K hK => ?_) AllReadyH.nil
   go_simp
   have Q1 := hide Q.out.alloc3
   refine hK.out _ _ ((one_cell Q1.out.box).1) (fun _ => ?_)
   exact (hZ _ _ _ _).mp (key_8 c1 x1 c2 x2 c3 x3 g1 g2 w3.heap.size _ Q1.out)
  exact key_ 0 0 0 0 0 0 0 0 0 _ Q0.out
 case rest =>
 obtain ⟨f1, f2, f3, c1, x1, c2, x2, c3, x3, rfl, rfl, rfl, PD⟩ := hcut
 have PK := hide PD.out.1
 have HC : Hid (W2.heap.size ≤ c1 ∧ W2.heap.size ≤ c2 ∧ W2.heap.size ≤ c3) := ⟨(PK.out.c1 _ rfl).2, (PK.out.c2 _ rfl).2, (PK.out.c3 _ rfl).2⟩
 have HGE : Hid (∀ k, RtS ⟨bx, f1, rb, f2, f3, c1, x1, c2, x2, c3, x3⟩ ⟨s, 0, 0, .slice none 0 0, .slice none 0 0, .slice none 0 0, [], [], [], [], [], [], none, none, none⟩ k → k = rb ∨ k = c1 ∨ k = c2 ∨ k = c3) := by
  rintro k (e | (e | e | e) | (e | e) | (e | e) | (e | e))
  ·
   exact .inl e
  ·
   cases e
  ·
   cases e
  ·
   cases e
  ·
   exact .inr (.inl e)
  ·
   cases e
  ·
   exact .inr (.inr (.inl e))
  ·
   cases e
  ·
   exact .inr (.inr (.inr e))
  cases e
 have RT : Hid (RtAt ⟨W0, pb, en⟩ ⟨bx, f1, rb, f2, f3, c1, x1, c2, x2, c3, x3⟩ wc ⟨s, 0, 0, .slice none 0 0, .slice none 0 0, .slice none 0 0, [], [], [], [], [], [], none, none, none⟩) :=
  ⟨PK.out.box, PD.out.2.1, PD.out.2.2.1, PD.out.2.2.2, PK.out.rb, rowOf_nil _ _ _ _ _, rowOf_nil _ _ _ _ _, rowOf_nil _ _ _ _ _, (PK.out.c1 _ rfl).1, (PK.out.c2 _ rfl).1, (PK.out.c3 _ rfl).1, ⟨⟨PK.out.d.1 _ _ rfl rfl, PK.out.d.2.1 _ _ rfl rfl, PK.out.d.2.2 _ _ rfl rfl⟩, fun _ h => (by cases h), fun _ h => (by cases h)⟩, ⟨HRB.out.2.2.2.1, HRB.out.1⟩⟩
 have CC := hide (CB.out ⟨bx, f1, rb, f2, f3, c1, x1, c2, x2, c3, x3⟩ s wc PK.out.ps _ ⟨_, RT.out, ⟨rfl, rfl, by simp⟩, fun _ => Iff.rfl, rfl, rfl⟩)
 simp only at CC
 have HRY := hide (fun (y : Rs) (hy : ∀ a, ((pBr (pRouterPart F) f ⟨⟨s, 0, 0, [], [], []⟩, []⟩).exec en sN).1 = some a → y = a) => HRX.out.trans (exec_then en (pBr (pRouterPart F) f ⟨⟨s, 0, 0, [], [], []⟩, []⟩) (fun r => if r.r.asn = 0 ∨ r.r.id = 0 then Pg.fail 5 else Pg.ret r.r) sN y hy))
 generalize (pBr (pRouterPart F) f ⟨⟨s, 0, 0, [], [], []⟩, []⟩).exec en sN = R2 at *
 obtain ⟨R2a, s5⟩ := R2
 simp only at CC HRY
 obtain ⟨b0, _⟩ := one_cell PK.out.box
 go_wp2_with fail
 refine CC.out.mono ?_
 rintro e w3 ⟨t, rfl, y, S', i3, b3, s3, p3, at3, v3⟩
 obtain ⟨v, rt, rok, hSv, rfl, hnm⟩ := i3
 have RT3 := hide rt
 have HNM := hide hnm
 have HR := hide (HRY.out _ v3)
 have HAT := hide at3
 have P3 := hide p3
 have hge : ∀ k, ¬ k = pb → ¬ k = rb → ¬ k = c1 → ¬ k = c2 → ¬ k = c3 → ¬ orS pb (RtS ⟨bx, f1, rb, f2, f3, c1, x1, c2, x2, c3, x3⟩ ⟨s, 0, 0, .slice none 0 0, .slice none 0 0, .slice none 0 0, [], [], [], [], [], [], none, none, none⟩) k := by
  rintro k h0 h1 h2 h3 h4 (e | e)
  ·
   exact h0 e
  rcases HGE.out k e with e | e | e | e
  ·
   exact h1 e
  ·
   exact h2 e
  ·
   exact h3 e
  exact h4 e
 have hrcl := heap_lt R2.out
 have R3 := hide (b3.keep PK.out.rc (hge rc HNE.out.2.1 HRB.out.2.1 (by have := HC.out; omega) (by have := HC.out; omega) (by have := HC.out; omega)))
 have ol := O2.out.lt
 have O3 := hide (PK.out.oc.of b3 (hge _ O2.out.base.2.1 HRB.out.2.2.2.2.1 (by have := HC.out; simp only at ol ⊢; omega) (by have := HC.out; simp only at ol ⊢; omega) (by have := HC.out; simp only at ol ⊢; omega)) (hge _ O2.out.base.2.2.1 HRB.out.2.2.2.2.2.1 (by have := HC.out; simp only at ol ⊢; omega) (by have := HC.out; simp only at ol ⊢; omega) (by have := HC.out; simp only at ol ⊢; omega)) (fun g hg => by
   have h1 := (O2.out.rb g hg).2.1
   have h2 := HC.out
   exact hge g (O2.out.pb P2.out g hg) (HRB.out.2.2.2.2.2.2 g hg) (by omega) (by omega) (by omega)))
 have hws := B2.out.size
 have B3 : Hid (But (fun k => k = pb ∨ o.S k) w w3) := (B2.out.trans (But.of PK.out.old)).thens b3 (by
   rintro i hi (e | e)
   · exact .inl e
   · have h1 := HC.out
     have h2 := HRB.out.2.2.1
     rcases HGE.out i e with e | e | e | e <;> omega)
 have HFR : Hid (∀ g, (v.vn.ownBlock = some g ∨ v.vb.ownBlock = some g ∨ v.vl.ownBlock = some g) → w.heap.size ≤ g) := fun g hg => by
  have h1 := HC.out
  have h2 := HRB.out.2.2.1
  have h3 := PK.out.old.size
  rcases s3 g ((hSv g).2 (.inr (.inl hg))) with e | e
  ·
   rcases HGE.out g e with e | e | e | e <;> omega
  omega
 have V1 := hide (RowOf.from RT3.out.nets (B' := w.heap.size) (fun g hg => HFR.out g (.inl hg)))
 have V2 := hide (RowOf.from RT3.out.nbs (B' := w.heap.size) (fun g hg => HFR.out g (.inr (.inl hg))))
 have V3 := hide (RowOf.from RT3.out.links (B' := w.heap.size) (fun g hg => HFR.out g (.inr (.inr hg))))
 have MB := hide RT3.out.mem
 have BX := hide RT3.out.box
 simp only at MB BX
 obtain ⟨nm, asn, id_, vn, vb, vl, nets, nbs, links, n1, n2, n3, q1, q2, q3⟩ := v
 simp only [Rv.rs] at HR HNM V1 V2 V3 MB
 obtain rfl := HNM.out
 clear hnm rt rok hSv b3 s3 p3 at3 v3 hge hrcl ol hws CC CB HRX HRY RT RT3 PD PK HGE HFR P2 O2 B2 X2 R2 L2 b0 C37 HC
 obtain ⟨a1, k1, hv1⟩ := V1.out.slice
 obtain ⟨a2, k2, hv2⟩ := V2.out.slice
 obtain ⟨a3, k3, hv3⟩ := V3.out.slice
 obtain ⟨N1, hN1⟩ : ∃ N, nets.length = N := ⟨_, rfl⟩
 obtain ⟨N2, hN2⟩ : ∃ N, nbs.length = N := ⟨_, rfl⟩
 obtain ⟨N3, hN3⟩ : ∃ N, links.length = N := ⟨_, rfl⟩
 rw [hN1] at hv1
 rw [hN2] at hv2
 rw [hN3] at hv3
 clear hN1 hN2 hN3
 subst hv1 hv2 hv3
 obtain ⟨tk, tt, tp, tq⟩ := t
 simp only [Tv.val] at *
 go_upto_region 4 with fail
 have a4 := balloc (brefl w3) (.cells #[.int .i64 tk, .string tt, .int .i64 tp, .int .i64 tq] 95)
 have T4 := hide (heap_new w3 #[.int .i64 tk, .string tt, .int .i64 tp, .int .i64 tq] 95)
 have P4 := hide (P3.out.below a4)
 have B4 := hide (B3.out.trans (But.of a4))
 have O4 := hide (O3.out.below a4)
 have R4 := hide ((a4.block rc (heap_lt R3.out)).trans R3.out)
 have M4 := hide ((a4.block rb (heap_lt MB.out)).trans MB.out)
 have X4 := hide ((a4.block bx (heap_lt BX.out)).trans BX.out)
 have U1 := hide (RowOf.keep PxC.keeps V1.out (But.of (S := fun _ => False) a4) (fun _ h => h.elim) (fun _ _ _ h => h))
 have U2 := hide (RowOf.keep NbC.keeps V2.out (But.of (S := fun _ => False) a4) (fun _ h => h.elim) (fun _ _ _ h => h))
 have U3 := hide (RowOf.keep LkC.keeps V3.out (But.of (S := fun _ => False) a4) (fun _ h => h.elim) (fun _ _ _ h => h))
 obtain ⟨tb, htb⟩ : ∃ tb, w3.heap.size = tb := ⟨_, rfl⟩
 rw [htb] at T4 ⊢
 generalize w3.alloc (.cells #[.int .i64 tk, .string tt, .int .i64 tp, .int .i64 tq] 95) = w4 at *
 clear a4 htb P3 B3 O3 R3 MB BX V1 V2 V3
 have CE := hide (CF.out s5 ⟨tk, tt, tp, tq⟩)
 simp only [] at CE
 obtain ⟨⟨m0, m1, m2, m3, m4, m5⟩, _⟩ := six_cells M4.out
 obtain ⟨b0, _⟩ := one_cell X4.out
 obtain ⟨⟨t0, t1, t2, t3⟩, _⟩ := four_cells T4.out
 by_cases h1 : asn = 0
 focus
  have h1' : (asn == 0) = true := by rw [beq_iff_eq]; exact h1
  have HX : Hid (R.2 = faulted ⟨tk, tt, tp, tq⟩ 5 s5 ∧ ∀ a, R.1 = some a → (⟨nm, asn, id_, nets, nbs, links⟩ : Rt) = a) := by
   have h9 : asn = 0 ∨ id_ = 0 := .inl h1
   have := HR.out.trans (congrArg (fun g : Pg Rt => g.exec en s5) (if_pos h9))
   rw [exec_fail en HAT.out (by decide)] at this
   rw [this]
   exact ⟨rfl, fun a ha => by cases ha⟩
  clear h1
  go_wp2_with fail
  refine (CE.out _ P4.out).mono ?_
  rintro e w5 ⟨rfl, b5, p5⟩
  have P5 := hide p5
  have B5 := hide (B4.out.trans (b5.mono fun k _ e => .inl e))
  have O5 := hide (O4.out.but1 P4.out b5)
  have R5 := hide (b5.keep R4.out (P4.out.av (by decide) _ _ R4.out))
  have M5 := hide (b5.keep M4.out (P4.out.av (by decide) _ _ M4.out))
  have U1 := hide (RowOf.keep PxC.keeps U1.out b5 (fun _ h => h.elim) (P4.out.av (by decide)))
  have U2 := hide (RowOf.keep NbC.keeps U2.out b5 (fun _ h => h.elim) (P4.out.av (by decide)))
  have U3 := hide (RowOf.keep LkC.keeps U3.out b5 (fun _ h => h.elim) (P4.out.av (by decide)))
  clear b5 p5 P4 B4 O4 R4 M4 T4 X4 CE CF HR HAT b0 t0 t1 t2 t3 m0 m1 m2 m3 m4 m5
  obtain ⟨⟨m0, m1, m2, m3, m4, m5⟩, _⟩ := six_cells M5.out
  obtain ⟨⟨r0, r1, r2, r3, r4, r5⟩, _⟩ := six_cells R5.out
  have f0 := unfrozen R5.out 0
  have f1' := unfrozen R5.out 1
  have f2' := unfrozen R5.out 2
  have f3' := unfrozen R5.out 3
  have f4' := unfrozen R5.out 4
  have f5' := unfrozen R5.out 5
  go_wp2_with fail
  have b6 := ((((((But.refl (fun k => k = rc) w5).setCell (p := ⟨rc, 0, none⟩) (.inl rfl) (.string nm)).setCell (p := ⟨rc, 1, none⟩) (.inl rfl) (.int .i64 asn)).setCell (p := ⟨rc, 2, none⟩) (.inl rfl) (.int .i64 id_)).setCell (p := ⟨rc, 3, none⟩) (.inl rfl) (.slice a1 N1 k1)).setCell (p := ⟨rc, 4, none⟩) (.inl rfl) (.slice a2 N2 k2)).setCell (p := ⟨rc, 5, none⟩) (.inl rfl) (.slice a3 N3 k3)
 rotate_left
 focus
  have h1' : (asn == 0) = false := by rw [beq_eq_false_iff_ne]; exact h1
  by_cases h2 : id_ = 0
  focus
   have h2' : (id_ == 0) = true := by rw [beq_iff_eq]; exact h2
   have HX : Hid (R.2 = faulted ⟨tk, tt, tp, tq⟩ 5 s5 ∧ ∀ a, R.1 = some a → (⟨nm, asn, id_, nets, nbs, links⟩ : Rt) = a) := by
    have h9 : asn = 0 ∨ id_ = 0 := .inr h2
    have := HR.out.trans (congrArg (fun g : Pg Rt => g.exec en s5) (if_pos h9))
    rw [exec_fail en HAT.out (by decide)] at this
    rw [this]
    exact ⟨rfl, fun a ha => by cases ha⟩
   clear h1 h2
   go_wp2_with fail
   refine (CE.out _ P4.out).mono ?_
   rintro e w5 ⟨rfl, b5, p5⟩
   have P5 := hide p5
   have B5 := hide (B4.out.trans (b5.mono fun k _ e => .inl e))
   have O5 := hide (O4.out.but1 P4.out b5)
   have R5 := hide (b5.keep R4.out (P4.out.av (by decide) _ _ R4.out))
   have M5 := hide (b5.keep M4.out (P4.out.av (by decide) _ _ M4.out))
   have U1 := hide (RowOf.keep PxC.keeps U1.out b5 (fun _ h => h.elim) (P4.out.av (by decide)))
   have U2 := hide (RowOf.keep NbC.keeps U2.out b5 (fun _ h => h.elim) (P4.out.av (by decide)))
   have U3 := hide (RowOf.keep LkC.keeps U3.out b5 (fun _ h => h.elim) (P4.out.av (by decide)))
   clear b5 p5 P4 B4 O4 R4 M4 T4 X4 CE CF HR HAT b0 t0 t1 t2 t3 m0 m1 m2 m3 m4 m5
   obtain ⟨⟨m0, m1, m2, m3, m4, m5⟩, _⟩ := six_cells M5.out
   obtain ⟨⟨r0, r1, r2, r3, r4, r5⟩, _⟩ := six_cells R5.out
   have f0 := unfrozen R5.out 0
   have f1' := unfrozen R5.out 1
   have f2' := unfrozen R5.out 2
   have f3' := unfrozen R5.out 3
   have f4' := unfrozen R5.out 4
   have f5' := unfrozen R5.out 5
   go_wp2_with fail
   have b6 := ((((((But.refl (fun k => k = rc) w5).setCell (p := ⟨rc, 0, none⟩) (.inl rfl) (.string nm)).setCell (p := ⟨rc, 1, none⟩) (.inl rfl) (.int .i64 asn)).setCell (p := ⟨rc, 2, none⟩) (.inl rfl) (.int .i64 id_)).setCell (p := ⟨rc, 3, none⟩) (.inl rfl) (.slice a1 N1 k1)).setCell (p := ⟨rc, 4, none⟩) (.inl rfl) (.slice a2 N2 k2)).setCell (p := ⟨rc, 5, none⟩) (.inl rfl) (.slice a3 N3 k3)
  rotate_left
  have h2' : (id_ == 0) = false := by rw [beq_eq_false_iff_ne]; exact h2
  have HX : Hid (R.2 = s5 ∧ ∀ a, R.1 = some a → (⟨nm, asn, id_, nets, nbs, links⟩ : Rt) = a) := by
   have h9 : ¬ (asn = 0 ∨ id_ = 0) := fun e => e.elim h1 h2
   have := HR.out.trans (congrArg (fun g : Pg Rt => g.exec en s5) (if_neg h9))
   rw [exec_ret] at this
   rw [this]
   exact ⟨rfl, fun a ha => okv_some ha⟩
  clear h1 h2
  go_upto_region 6 with fail
  have P5 := P4
  have B5 := B4
  have O5 := O4
  have R5 := R4
  have M5 := M4
  clear P4 B4 O4 R4 M4 T4 X4 CE CF HR HAT b0 t0 t1 t2 t3 m0 m1 m2 m3 m4 m5
  obtain ⟨⟨m0, m1, m2, m3, m4, m5⟩, _⟩ := six_cells M5.out
  obtain ⟨⟨r0, r1, r2, r3, r4, r5⟩, _⟩ := six_cells R5.out
  have f0 := unfrozen R5.out 0
  have f1' := unfrozen R5.out 1
  have f2' := unfrozen R5.out 2
  have f3' := unfrozen R5.out 3
  have f4' := unfrozen R5.out 4
  have f5' := unfrozen R5.out 5
  go_wp2_with fail
  have b6 := ((((((But.refl (fun k => k = rc) w4).setCell (p := ⟨rc, 0, none⟩) (.inl rfl) (.string nm)).setCell (p := ⟨rc, 1, none⟩) (.inl rfl) (.int .i64 asn)).setCell (p := ⟨rc, 2, none⟩) (.inl rfl) (.int .i64 id_)).setCell (p := ⟨rc, 3, none⟩) (.inl rfl) (.slice a1 N1 k1)).setCell (p := ⟨rc, 4, none⟩) (.inl rfl) (.slice a2 N2 k2)).setCell (p := ⟨rc, 5, none⟩) (.inl rfl) (.slice a3 N3 k3)
 all_goals
  have R6 := heap_setCell_same _ rc 5 _ 50 (.slice a3 N3 k3) (heap_setCell_same _ rc 4 _ 50 (.slice a2 N2 k2) (heap_setCell_same _ rc 3 _ 50 (.slice a1 N1 k1) (heap_setCell_same _ rc 2 _ 50 (.int .i64 id_) (heap_setCell_same _ rc 1 _ 50 (.int .i64 asn) (heap_setCell_same _ rc 0 _ 50 (.string nm) R5.out)))))
  have av := fun t (ht : (50 : Nat) ≠ t) => av_one R5.out ht
  refine bodyPost_ret (v := .agg #[.string nm, .int .i64 asn, .int .i64 id_, .slice a1 N1 k1, .slice a2 N2 k2, .slice a3 N3 k3]) ?_ rfl ⟨⟨nm, asn, id_, nets, nbs, links⟩, _, _, _, rfl, HS.out, RowOf.keep PxC.keeps U1.out b6 (fun _ h => h.elim) (av 107 (by decide)), RowOf.keep NbC.keeps U2.out b6 (fun _ h => h.elim) (av 113 (by decide)), RowOf.keep LkC.keeps U3.out b6 (fun _ h => h.elim) (av 115 (by decide)), rb1, O5.out.keepT b6 (av 126 (by decide)) (av 59 (by decide)) (av 9 (by decide)), HL1.out, B5.out.thens b6 (fun i hi e => by have h1 := HNE.out.2.2.2.2.1; have h2 : i = rc := e; omega), ?_, HX.out.2⟩
  ·
   obtain ⟨⟨z0, z1, z2, z3, z4, z5⟩, _⟩ := six_cells R6
   simp [results, Tryz.results43, go_sem, z0, z1, z2, z3, z4, z5]
  rw [HX.out.1]
  exact P5.out.of b6 (fun e => HNE.out.2.1 e.symm) (fun k e => by rw [show k = rc from e]; exact HNE.out.2.2.2.2.2.2)
end Go.Proofs.YtnadhplhnfpeaaaGreatDoor
