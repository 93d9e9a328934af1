/- Part of the proof. -/
import Derived.Test.YtnadhplhnfpeaaaGreatDoorAZ
import Derived.Test.YtnadhplhnfpeaaaGreatDoorA13
import Derived.Laws.EntriesVeiled
namespace Go.Proofs.YtnadhplhnfpeaaaGreatDoor
open Go.RowKit Go.Sort
theorem clause_part {T : World → Prop} {F : Fn} (K : Kit12 T F) (E : En) (hT : T E.w0) (N : Nat) (b : Cb) (f : Nat) (hf : 100000 < f) (M : Nat) : PartIs E 93 #[.pointer (some ⟨b.bx, 0, none⟩), .pointer (some ⟨b.mb, 0, none⟩), .pointer (some ⟨b.fm, 0, none⟩), .pointer (some ⟨b.sb, 0, none⟩), .pointer (some ⟨b.fs, 0, none⟩)] (pClausePart F f) (ClInv E N b) M fitC where
  eg := by intro args w; go_simp
  keep := fun w w' S X c st h hi hb hX => hi.keep hb fun t h1 h2 k cs hk e => by
    rcases hX k e with rfl | ⟨_, _, cs', hk'⟩
    · exact h.av h1 _ cs hk rfl
    · rw [hk] at hk'
      cases hk'
      exact h2 rfl
  lt := fun w S c hi k hk => by
    obtain ⟨r1, r2, o1, o2, hS, _⟩ := hi.oc
    rcases (hS k).1 hk with (rfl | rfl) | h | h
    · exact heap_lt hi.m
    · exact hi.s.lt
    · exact o1.sz k h
    · exact o2.sz k h
  fits := fun c k s st a hc ha => clausePart_fit F f E.en c k s st hc ha
  call := fun w S c st t h hi hat _ _ hc => by
    have e : #[t.val] ++ #[Value.pointer (some ⟨b.bx, 0, none⟩), .pointer (some ⟨b.mb, 0, none⟩), .pointer (some ⟨b.fm, 0, none⟩), .pointer (some ⟨b.sb, 0, none⟩), .pointer (some ⟨b.fs, 0, none⟩)] = #[t.val, .pointer (some ⟨b.bx, 0, none⟩), .pointer (some ⟨b.mb, 0, none⟩), .pointer (some ⟨b.fm, 0, none⟩), .pointer (some ⟨b.sb, 0, none⟩), .pointer (some ⟨b.fs, 0, none⟩)] := by simp
    rw [e]
    exact clausePart_is K E hT N b f w S c st t h hi hat hc.le hf
abbrev zMt : Array Value := #[.string ⟨#[]⟩, .string ⟨#[]⟩, .int .i64 0, .int .i64 0]
abbrev zSe : Array Value := #[.int .i64 0, .int .i64 0, .int .i64 0, .slice none 0 0, .slice none 0 0, .bool false, .slice none 0 0]
abbrev nSe : Array Value := #[.int .i64 (-1), .int .i64 (-1), .int .i64 (-1), .slice none 0 0, .slice none 0 0, .bool false, .slice none 0 0]
structure PreC (E : En) (st : Sta) (w0 : World) (bx rm rs mb sb : Nat) (w : World) : Prop where
  ps : Ps E w st
  old : Below w0.heap.size w0 w
  box : w.heap[bx]? = some (.cells #[.pointer (some ⟨E.pb, 0, none⟩)] 59 (0, 0))
  rm : w.heap[rm]? = some (.cells zMt 75 (0, 0))
  rs : w.heap[rs]? = some (.cells zSe 79 (0, 0))
  mb : w.heap[mb]? = some (.cells zMt 75 (0, 0))
  sb : w.heap[sb]? = some (.cells nSe 79 (0, 0))
theorem PreC.keep {E : En} {st : Sta} {w0 : World} {bx rm rs mb sb : Nat} {w w' : World} (h : PreC E st w0 bx rm rs mb sb w) (hb : Below w.heap.size w w') : PreC E st w0 bx rm rs mb sb w' :=
  ⟨h.ps.below hb, bthen h.old hb, (hb.block _ (heap_lt h.box)).trans h.box, (hb.block _ (heap_lt h.rm)).trans h.rm, (hb.block _ (heap_lt h.rs)).trans h.rs, (hb.block _ (heap_lt h.mb)).trans h.mb, (hb.block _ (heap_lt h.sb)).trans h.sb⟩
theorem PreC.put {E : En} {st : Sta} {w0 : World} {bx rm rs mb sb : Nat} {w : World} (h : PreC E st w0 bx rm rs mb sb w) {g t : Nat} {cs : Array Value} (hg : w.heap[g]? = some (.cells cs t (0, 0))) (ht : t ≠ 59 ∧ t ≠ 75 ∧ t ≠ 79 ∧ t ≠ 62) (hw : w0.heap.size ≤ g) (hE : E.w0.heap.size ≤ w0.heap.size) (v : Value) : PreC E st w0 bx rm rs mb sb (w.setCell ⟨g, 0, none⟩ v) := by
 have ne : ∀ {k t' : Nat} {cs' : Array Value}, w.heap[k]? = some (.cells cs' t' (0, 0)) → t ≠ t' → k ≠ g := by
  rintro k t' cs' hk hn rfl
  rw [hg] at hk
  cases hk
  exact hn rfl
 refine ⟨h.ps.put (p := ⟨g, 0, none⟩) (fun e => h.ps.av ht.2.2.2 g cs hg e) (Nat.le_trans hE hw) v, h.old.setCell hw v, set_far h.box (ne h.box ht.1), set_far h.rm (ne h.rm ht.2.1), set_far h.rs (ne h.rs ht.2.2.1), set_far h.mb (ne h.mb ht.2.1), set_far h.sb (ne h.sb ht.2.2.1)⟩
def PreD (E : En) (st : Sta) (w0 : World) (bx rm rs mb sb fm fs mc mx sc sx : Nat) (w : World) : Prop := PreC E st w0 bx rm rs mb sb w ∧ OcAt E w ⟨mc, mx, [], none⟩ ∧ OcAt E w ⟨sc, sx, [], none⟩ ∧ w.heap[fm]? = some (.cells #[Oc.fn ⟨mc, mx, [], none⟩] 96 (0, 0)) ∧ w.heap[fs]? = some (.cells #[Oc.fn ⟨sc, sx, [], none⟩] 96 (0, 0)) ∧ mc ≠ sc ∧ w0.heap.size ≤ mc ∧ w0.heap.size ≤ sc
def ClTo (E : En) (R : Option Cs × Sta) (w w' : World) (m : Mt) (s : Se) (va vd vp : Value) : Prop := w'.ownsRow w.heap.size 73 2 va s.add.length (prs s.add) ∧ w'.ownsRow w.heap.size 73 2 vd s.del.length (prs s.del) ∧ w'.ownsRow w.heap.size 3 1 vp s.prep.length (ints s.prep) ∧ But (but1 E.pb) w w' ∧ Ps E w' R.2 ∧ ∀ a, R.1 = some a → m = a.m ∧ s = a.s
set_option maxHeartbeats 8000000 in
set_option maxRecDepth 100000 in
theorem clause_is {T : World → Prop} {F : Fn} (K : Kit12 T F) (E : En) (hT : T E.w0) (f : Nat) (hf : 100000 < f) (st : Sta) (w : World) (h : Ps E w st) : Calls Tryz.prog 68 #[.pointer (some ⟨E.pb, 0, none⟩)] w fun e w' => ∃ (m : Mt) (s : Se) (va vd vp : Value), e = .returned (.tuple #[.agg #[.string m.list, .string m.path, .int .i64 m.ca, .int .i64 m.cn], .agg #[.int .i64 s.pref, .int .i64 s.med, .int .i64 s.org, va, vd, .bool s.clr, vp]]) ∧ ClTo E ((pClause F f).exec E.en st) w w' m s va vd vp := by
 have hmf : ∀ (fn : Go.Fn) (first cap : Array Value) (w : World), (Instr.makeFunc fn first cap).run Tryz.prog w = .ok (.func fn first cap) w := fun _ _ _ _ => rfl
 unfold ClTo pClause
 have HPB := hide h.lt
 have HW0 := hide h.1.size
 have C37 := hide (fun W (hW : Ps E W st) => once_new E st W hW)
 unfold Oc.fn at C37
 have HLN : Hid (st.len < f) := Nat.lt_of_le_of_lt h.few hf
 have CB := hide (fun (b : Cb) W hW S hi => block_is E 93 _ _ _ W.heap.size _ (clause_part K E hT w.heap.size b f hf W.heap.size) f zeroCs st S W hW hi HLN.out (Nat.le_refl _) ⟨fitW_nil _, fitW_nil _⟩)
 unfold BlkTo at CB
 obtain ⟨R, hR⟩ : ∃ R, (pBr (pClausePart F f) f zeroCs).exec E.en st = R := ⟨_, rfl⟩
 rw [hR] at CB ⊢
 clear hR
 have a1 := balloc (brefl w) (.cells #[.pointer (some ⟨E.pb, 0, none⟩)] 59)
 have a2 := balloc a1 (.cells zMt 75)
 have a3 := balloc a2 (.cells zSe 79)
 have a4 := balloc a3 (.cells zMt 75)
 have a5 := balloc a4 (.cells nSe 79)
 have PC : Hid (PreC E st w w.heap.size (w.heap.size + 1) (w.heap.size + 1 + 1) (w.heap.size + 1 + 1 + 1) (w.heap.size + 1 + 1 + 1 + 1) (((((w.alloc (.cells #[.pointer (some ⟨E.pb, 0, none⟩)] 59)).alloc (.cells zMt 75)).alloc (.cells zSe 79)).alloc (.cells zMt 75)).alloc (.cells nSe 79))) := by
  have up : ∀ {W : World} {k : Nat} {o o' : Obj}, W.heap[k]? = some o → (W.alloc o').heap[k]? = some o := fun {W k o o'} hk => ((balloc (brefl W) o').block k (heap_lt hk)).trans hk
  have n1 := heap_new w #[.pointer (some ⟨E.pb, 0, none⟩)] 59
  have n2 := heap_new (w.alloc (.cells #[.pointer (some ⟨E.pb, 0, none⟩)] 59)) zMt 75
  have n3 := heap_new ((w.alloc (.cells #[.pointer (some ⟨E.pb, 0, none⟩)] 59)).alloc (.cells zMt 75)) zSe 79
  have n4 := heap_new (((w.alloc (.cells #[.pointer (some ⟨E.pb, 0, none⟩)] 59)).alloc (.cells zMt 75)).alloc (.cells zSe 79)) zMt 75
  have n5 := heap_new ((((w.alloc (.cells #[.pointer (some ⟨E.pb, 0, none⟩)] 59)).alloc (.cells zMt 75)).alloc (.cells zSe 79)).alloc (.cells zMt 75)) nSe 79
  simp only [size_alloc] at n1 n2 n3 n4 n5
  exact ⟨h.below a5, a5, up (up (up (up n1))), up (up (up n2)), up (up n3), up n4, n5⟩
 clear a1 a2 a3 a4 a5 h
 obtain ⟨W0, pb, en⟩ := E
 simp only at *
 go_enter Tryz.func68, Tryz.ntmps68
 go_upto_region 3 with fail
 obtain ⟨bx, hbx⟩ : ∃ bx, w.heap.size = bx := ⟨_, rfl⟩
 obtain ⟨rm, hrm⟩ : ∃ x, w.heap.size + 1 = x := ⟨_, rfl⟩
 obtain ⟨rs, hrs⟩ : ∃ x, w.heap.size + 1 + 1 = x := ⟨_, rfl⟩
 obtain ⟨mb, hmb⟩ : ∃ x, w.heap.size + 1 + 1 + 1 = x := ⟨_, rfl⟩
 obtain ⟨sb, hsb⟩ : ∃ x, w.heap.size + 1 + 1 + 1 + 1 = x := ⟨_, rfl⟩
 have HNE : Hid ((w.heap.size ≤ rm ∧ w.heap.size ≤ rs ∧ w.heap.size ≤ mb ∧ w.heap.size ≤ sb) ∧ (rm ≠ pb ∧ rs ≠ pb ∧ mb ≠ pb ∧ sb ≠ pb) ∧ rm ≠ mb ∧ rs ≠ sb ∧ (W0.heap.size ≤ mb ∧ W0.heap.size ≤ sb)) := by have h9 := HPB.out; have h8 := HW0.out; refine ⟨⟨?_, ?_, ?_, ?_⟩, ⟨?_, ?_, ?_, ?_⟩, ?_, ?_, ?_, ?_⟩ <;> omega
 rw [hsb, hmb, hrs, hrm, hbx] at PC
 first | rw [hsb] | skip
 first | rw [hmb] | skip
 first | rw [hrs] | skip
 first | rw [hrm] | skip
 first | rw [hbx] | skip
 generalize (((((w.alloc (.cells #[.pointer (some ⟨pb, 0, none⟩)] 59)).alloc (.cells zMt 75)).alloc (.cells zSe 79)).alloc (.cells zMt 75)).alloc (.cells nSe 79)) = W at *
 clear hbx hrm hrs hmb hsb
 go_cut [6, 7] from 8 (fun v6 v7 wx => ∃ fm fs mc mx sc sx, v6 = .pointer (some ⟨fm, 0, none⟩) ∧ v7 = .pointer (some ⟨fs, 0, none⟩) ∧ Hid (PreD ⟨W0, pb, en⟩ st w bx rm rs mb sb fm fs mc mx sc sx wx))
 case first =>
  have Q0 := hide (PC.out.keep (Below.drew (brefl W)))
  clear PC
  refine wp_region_held_drew (S := (fun w' => w'.cell? ⟨bx, 0, none⟩ = some (.pointer (some ⟨pb, 0, none⟩)))) (by kernel_rfl) ((one_cell Q0.out.box).1) (fun hHeld => ?_)
  generalize W.drew = W1 at *
  refine tak 0 (.pointer (some ⟨pb, 0, none⟩)) rfl (Or.inl ⟨by rfl, fun w hSw => by dsimp only at hSw; go_simp⟩) hHeld ?_
  simp only [Act.put, g1, g2, g4, g5, g6]
  refine tak 2 (.pointer (some ⟨pb, 0, none⟩)) rfl (Or.inl ⟨by rfl, fun w hSw => by dsimp only at hSw; go_simp⟩) hHeld ?_
  simp only [Act.put, g1, g2, g3, g4, g5, g6]
  refine wpAnyH_ready (rs := [1, 4, 5]) (by kernel_rfl) (by simp) ?_
  refine AllReadyH.cons rfl (fun K hK => ?_) ?_
  focus
   go_simp
   go_wp2_with (refine (C37.out _ Q0.out.ps).mono ?_; rintro e w1_ ⟨mc, mx, rfl, ox, lx1, lx2, bx_⟩)
   have Q1 := hide (Q0.out.keep bx_)
   have OM1 := hide ox
   have HM1 : Hid (w.heap.size ≤ mc) := Nat.le_trans Q0.out.old.size lx1
   clear ox lx1 lx2 bx_ Q0
   refine hK.out _ _ ((one_cell Q1.out.box).1) (fun hHeld => ?_)
   clear hK K
   try simp only [Act.put, g1, g2, g3, g4, g5, g6]
   refine wpAnyH_ready (rs := [3, 4, 5]) (by kernel_rfl) (by simp) ?_
   refine AllReadyH.cons rfl (fun K hK => ?_) ?_
   ·
    go_simp
    go_wp2_with (refine (C37.out _ Q1.out.ps).mono ?_; rintro e w2_ ⟨sc, sx, rfl, ox, lx1, lx2, bx_⟩)
    have Q2 := hide (Q1.out.keep bx_)
    have OM2 := hide (OM1.out.below bx_)
    have OS2 := hide ox
    have HS1 : Hid (w.heap.size ≤ sc) := Nat.le_trans Q1.out.old.size lx1
    have HMC : Hid (mc ≠ sc) := by have h1 := OM1.out.lt.1; show _ ≠ _; simp only at h1; omega
    clear ox lx1 lx2 bx_ Q1 OM1
    refine hK.out _ _ ((one_cell Q2.out.box).1) (fun hHeld => ?_)
    clear hK K
    try simp only [Act.put, g1, g2, g3, g4, g5, g6]
    refine wpAnyH_ready (rs := [4, 5]) (by kernel_rfl) (by simp) ?_
    refine AllReadyH.cons rfl (fun K hK => ?_) ?_
    focus
     go_simp
     have b_ := balloc (brefl w2_) (.cells #[.nilFunc] 96)
     have Q3 := hide (Q2.out.keep b_)
     have OM3 := hide (OM2.out.below b_)
     have OS3 := hide (OS2.out.below b_)
     have FM3 := hide (heap_new w2_ #[.nilFunc] 96)
     refine hK.out _ _ ((one_cell Q3.out.box).1) (fun hHeld => ?_)
     clear hK K
     try simp only [Act.put, g1, g2, g3, g4, g5, g6]
     obtain ⟨a4, ha4⟩ : ∃ x, w2_.heap.size = x := ⟨_, rfl⟩
     have HA4 : Hid (w.heap.size ≤ a4) := by rw [← ha4]; exact Q2.out.old.size
     rw [ha4] at FM3 ⊢
     generalize w2_.alloc (.cells #[.nilFunc] 96) = w3_ at *
     clear ha4 b_ Q2 OM2 OS2
     refine rdy 5 (by kernel_rfl) rfl fun K hK => ?_
     go_simp
     have b_ := balloc (brefl w3_) (.cells #[.nilFunc] 96)
     have Q4 := hide (Q3.out.keep b_)
     have OM4 := hide (OM3.out.below b_)
     have OS4 := hide (OS3.out.below b_)
     have FM4 := hide ((b_.block a4 (heap_lt FM3.out)).trans FM3.out)
     have FS4 := hide (heap_new w3_ #[.nilFunc] 96)
     refine hK.out _ _ ((one_cell Q4.out.box).1) (fun hHeld => ?_)
     clear hK K
     try simp only [Act.put, g1, g2, g3, g4, g5, g6]
     obtain ⟨a5, ha5⟩ : ∃ x, w3_.heap.size = x := ⟨_, rfl⟩
     have HA5 : Hid (w.heap.size ≤ a5) := by rw [← ha5]; exact Q3.out.old.size
     have H45 : Hid (a4 ≠ a5) := by have h1 := heap_lt FM3.out; show _ ≠ _; omega
     rw [ha5] at FS4 ⊢
     generalize w3_.alloc (.cells #[.nilFunc] 96) = w4_ at *
     clear ha5 b_ Q3 OM3 OS3 FM3
    rotate_left
    focus
     refine AllReadyH.cons rfl (fun K hK => ?_) AllReadyH.nil
     go_simp
     have b_ := balloc (brefl w2_) (.cells #[.nilFunc] 96)
     have Q3 := hide (Q2.out.keep b_)
     have OM3 := hide (OM2.out.below b_)
     have OS3 := hide (OS2.out.below b_)
     have FS3 := hide (heap_new w2_ #[.nilFunc] 96)
     refine hK.out _ _ ((one_cell Q3.out.box).1) (fun hHeld => ?_)
     clear hK K
     try simp only [Act.put, g1, g2, g3, g4, g5, g6]
     obtain ⟨a5, ha5⟩ : ∃ x, w2_.heap.size = x := ⟨_, rfl⟩
     have HA5 : Hid (w.heap.size ≤ a5) := by rw [← ha5]; exact Q2.out.old.size
     rw [ha5] at FS3 ⊢
     generalize w2_.alloc (.cells #[.nilFunc] 96) = w3_ at *
     clear ha5 b_ Q2 OM2 OS2
     refine rdy 4 (by kernel_rfl) rfl fun K hK => ?_
     go_simp
     have b_ := balloc (brefl w3_) (.cells #[.nilFunc] 96)
     have Q4 := hide (Q3.out.keep b_)
     have OM4 := hide (OM3.out.below b_)
     have OS4 := hide (OS3.out.below b_)
     have FS4 := hide ((b_.block a5 (heap_lt FS3.out)).trans FS3.out)
     have FM4 := hide (heap_new w3_ #[.nilFunc] 96)
     refine hK.out _ _ ((one_cell Q4.out.box).1) (fun hHeld => ?_)
     clear hK K
     try simp only [Act.put, g1, g2, g3, g4, g5, g6]
     obtain ⟨a4, ha4⟩ : ∃ x, w3_.heap.size = x := ⟨_, rfl⟩
     have HA4 : Hid (w.heap.size ≤ a4) := by rw [← ha4]; exact Q3.out.old.size
     have H45 : Hid (a4 ≠ a5) := by have h1 := heap_lt FS3.out; show _ ≠ _; omega
     rw [ha4] at FM4 ⊢
     generalize w3_.alloc (.cells #[.nilFunc] 96) = w4_ at *
     clear ha4 b_ Q3 OM3 OS3 FS3
    all_goals
     refine rdy 6 (by kernel_rfl) rfl fun K hK => ?_
     obtain ⟨f0, f1⟩ := one_cell FM4.out
     go_simp
     have G1 := hide (heap_setCell_same _ a4 0 _ 96 (.func (.func 59) #[] #[.pointer (some ⟨mc, 0, none⟩), .pointer (some ⟨mx, 0, none⟩)]) FM4.out)
     have G2 := hide (set_far (o := 0) (v := .func (.func 59) #[] #[.pointer (some ⟨mc, 0, none⟩), .pointer (some ⟨mx, 0, none⟩)]) FS4.out H45.out.symm)
     have Q1 := hide (Q4.out.put FM4.out (by decide) HA4.out HW0.out (.func (.func 59) #[] #[.pointer (some ⟨mc, 0, none⟩), .pointer (some ⟨mx, 0, none⟩)]))
     have O1 := hide (OM4.out.put FM4.out (by decide) (by decide) (by decide) 0 (.func (.func 59) #[] #[.pointer (some ⟨mc, 0, none⟩), .pointer (some ⟨mx, 0, none⟩)]))
     have O2 := hide (OS4.out.put FM4.out (by decide) (by decide) (by decide) 0 (.func (.func 59) #[] #[.pointer (some ⟨mc, 0, none⟩), .pointer (some ⟨mx, 0, none⟩)]))
     refine hK.out _ _ ((one_cell Q1.out.box).1) (fun hHeld => ?_)
     clear hK K f0 f1
     try simp only [Act.put, g1, g2, g3, g4, g5, g6]
     generalize w4_.setCell ⟨a4, 0, none⟩ (.func (.func 59) #[] #[.pointer (some ⟨mc, 0, none⟩), .pointer (some ⟨mx, 0, none⟩)]) = X1 at *
     clear Q4 OM4 OS4 FM4 FS4
     refine rdy 7 (by kernel_rfl) rfl fun K hK => ?_
     obtain ⟨f0, f1⟩ := one_cell G2.out
     go_simp
     have G3 := hide (set_far (o := 0) (v := .func (.func 59) #[] #[.pointer (some ⟨sc, 0, none⟩), .pointer (some ⟨sx, 0, none⟩)]) G1.out H45.out)
     have G4 := hide (heap_setCell_same _ a5 0 _ 96 (.func (.func 59) #[] #[.pointer (some ⟨sc, 0, none⟩), .pointer (some ⟨sx, 0, none⟩)]) G2.out)
     have Q2 := hide (Q1.out.put G2.out (by decide) HA5.out HW0.out (.func (.func 59) #[] #[.pointer (some ⟨sc, 0, none⟩), .pointer (some ⟨sx, 0, none⟩)]))
     have O3 := hide (O1.out.put G2.out (by decide) (by decide) (by decide) 0 (.func (.func 59) #[] #[.pointer (some ⟨sc, 0, none⟩), .pointer (some ⟨sx, 0, none⟩)]))
     have O4 := hide (O2.out.put G2.out (by decide) (by decide) (by decide) 0 (.func (.func 59) #[] #[.pointer (some ⟨sc, 0, none⟩), .pointer (some ⟨sx, 0, none⟩)]))
     refine hK.out _ _ ((one_cell Q2.out.box).1) (fun hHeld => ?_)
     clear hK K f0 f1
     try simp only [Act.put, g1, g2, g3, g4, g5, g6]
     generalize X1.setCell ⟨a5, 0, none⟩ (.func (.func 59) #[] #[.pointer (some ⟨sc, 0, none⟩), .pointer (some ⟨sx, 0, none⟩)]) = X2 at *
     refine wpAnyH_done (by kernel_rfl) ?_ _
     clear hHeld
     go_wp2_with fail
     go_meet
     exact ⟨a4, a5, mc, mx, sc, sx, rfl, rfl, Q2.out, O3.out, O4.out, G3.out, G4.out, HMC.out, HM1.out, HS1.out⟩
   refine AllReadyH.cons rfl (fun K hK => ?_) ?_
   focus
    go_simp
    have b_ := balloc (brefl w1_) (.cells #[.nilFunc] 96)
    have Q2 := hide (Q1.out.keep b_)
    have OM2 := hide (OM1.out.below b_)
    have FM2 := hide (heap_new w1_ #[.nilFunc] 96)
    refine hK.out _ _ ((one_cell Q2.out.box).1) (fun hHeld => ?_)
    clear hK K
    try simp only [Act.put, g1, g2, g3, g4, g5, g6]
    obtain ⟨a4, ha4⟩ : ∃ x, w1_.heap.size = x := ⟨_, rfl⟩
    have HA4 : Hid (w.heap.size ≤ a4) := by rw [← ha4]; exact Q1.out.old.size
    rw [ha4] at FM2 ⊢
    generalize w1_.alloc (.cells #[.nilFunc] 96) = w2_ at *
    clear ha4 b_ Q1 OM1
    refine wpAnyH_ready (rs := [3, 5]) (by kernel_rfl) (by simp) ?_
    refine AllReadyH.cons rfl (fun K hK => ?_) ?_
    ·
     go_simp
     go_wp2_with (refine (C37.out _ Q2.out.ps).mono ?_; rintro e w3_ ⟨sc, sx, rfl, ox, lx1, lx2, bx_⟩)
     have Q3 := hide (Q2.out.keep bx_)
     have OM3 := hide (OM2.out.below bx_)
     have FM3 := hide ((bx_.block a4 (heap_lt FM2.out)).trans FM2.out)
     have OS3 := hide ox
     have HS1 : Hid (w.heap.size ≤ sc) := Nat.le_trans Q2.out.old.size lx1
     have HMC : Hid (mc ≠ sc) := by have h1 := OM2.out.lt.1; show _ ≠ _; simp only at h1; omega
     clear ox lx1 lx2 bx_ Q2 OM2 FM2
     refine hK.out _ _ ((one_cell Q3.out.box).1) (fun hHeld => ?_)
     clear hK K
     try simp only [Act.put, g1, g2, g3, g4, g5, g6]
     refine rdy 5 (by kernel_rfl) rfl fun K hK => ?_
     go_simp
     have b_ := balloc (brefl w3_) (.cells #[.nilFunc] 96)
     have Q4 := hide (Q3.out.keep b_)
     have OM4 := hide (OM3.out.below b_)
     have OS4 := hide (OS3.out.below b_)
     have FM4 := hide ((b_.block a4 (heap_lt FM3.out)).trans FM3.out)
     have FS4 := hide (heap_new w3_ #[.nilFunc] 96)
     refine hK.out _ _ ((one_cell Q4.out.box).1) (fun hHeld => ?_)
     clear hK K
     try simp only [Act.put, g1, g2, g3, g4, g5, g6]
     obtain ⟨a5, ha5⟩ : ∃ x, w3_.heap.size = x := ⟨_, rfl⟩
     have HA5 : Hid (w.heap.size ≤ a5) := by rw [← ha5]; exact Q3.out.old.size
     have H45 : Hid (a4 ≠ a5) := by have h1 := heap_lt FM3.out; show _ ≠ _; omega
     rw [ha5] at FS4 ⊢
     generalize w3_.alloc (.cells #[.nilFunc] 96) = w4_ at *
     clear ha5 b_ Q3 OM3 OS3 FM3
     refine rdy 6 (by kernel_rfl) rfl fun K hK => ?_
     obtain ⟨f0, f1⟩ := one_cell FM4.out
     go_simp
     have G1 := hide (heap_setCell_same _ a4 0 _ 96 (.func (.func 59) #[] #[.pointer (some ⟨mc, 0, none⟩), .pointer (some ⟨mx, 0, none⟩)]) FM4.out)
     have G2 := hide (set_far (o := 0) (v := .func (.func 59) #[] #[.pointer (some ⟨mc, 0, none⟩), .pointer (some ⟨mx, 0, none⟩)]) FS4.out H45.out.symm)
     have Q1 := hide (Q4.out.put FM4.out (by decide) HA4.out HW0.out (.func (.func 59) #[] #[.pointer (some ⟨mc, 0, none⟩), .pointer (some ⟨mx, 0, none⟩)]))
     have O1 := hide (OM4.out.put FM4.out (by decide) (by decide) (by decide) 0 (.func (.func 59) #[] #[.pointer (some ⟨mc, 0, none⟩), .pointer (some ⟨mx, 0, none⟩)]))
     have O2 := hide (OS4.out.put FM4.out (by decide) (by decide) (by decide) 0 (.func (.func 59) #[] #[.pointer (some ⟨mc, 0, none⟩), .pointer (some ⟨mx, 0, none⟩)]))
     refine hK.out _ _ ((one_cell Q1.out.box).1) (fun hHeld => ?_)
     clear hK K f0 f1
     try simp only [Act.put, g1, g2, g3, g4, g5, g6]
     generalize w4_.setCell ⟨a4, 0, none⟩ (.func (.func 59) #[] #[.pointer (some ⟨mc, 0, none⟩), .pointer (some ⟨mx, 0, none⟩)]) = X1 at *
     clear Q4 OM4 OS4 FM4 FS4
     refine rdy 7 (by kernel_rfl) rfl fun K hK => ?_
     obtain ⟨f0, f1⟩ := one_cell G2.out
     go_simp
     have G3 := hide (set_far (o := 0) (v := .func (.func 59) #[] #[.pointer (some ⟨sc, 0, none⟩), .pointer (some ⟨sx, 0, none⟩)]) G1.out H45.out)
     have G4 := hide (heap_setCell_same _ a5 0 _ 96 (.func (.func 59) #[] #[.pointer (some ⟨sc, 0, none⟩), .pointer (some ⟨sx, 0, none⟩)]) G2.out)
     have Q2 := hide (Q1.out.put G2.out (by decide) HA5.out HW0.out (.func (.func 59) #[] #[.pointer (some ⟨sc, 0, none⟩), .pointer (some ⟨sx, 0, none⟩)]))
     have O3 := hide (O1.out.put G2.out (by decide) (by decide) (by decide) 0 (.func (.func 59) #[] #[.pointer (some ⟨sc, 0, none⟩), .pointer (some ⟨sx, 0, none⟩)]))
     have O4 := hide (O2.out.put G2.out (by decide) (by decide) (by decide) 0 (.func (.func 59) #[] #[.pointer (some ⟨sc, 0, none⟩), .pointer (some ⟨sx, 0, none⟩)]))
     refine hK.out _ _ ((one_cell Q2.out.box).1) (fun hHeld => ?_)
     clear hK K f0 f1
     try simp only [Act.put, g1, g2, g3, g4, g5, g6]
     generalize X1.setCell ⟨a5, 0, none⟩ (.func (.func 59) #[] #[.pointer (some ⟨sc, 0, none⟩), .pointer (some ⟨sx, 0, none⟩)]) = X2 at *
     refine wpAnyH_done (by kernel_rfl) ?_ _
     clear hHeld
     go_wp2_with fail
     go_meet
     exact ⟨a4, a5, mc, mx, sc, sx, rfl, rfl, Q2.out, O3.out, O4.out, G3.out, G4.out, HMC.out, HM1.out, HS1.out⟩
    refine AllReadyH.cons rfl (fun K hK => ?_) AllReadyH.nil
    go_simp
    have b_ := balloc (brefl w2_) (.cells #[.nilFunc] 96)
    have Q3 := hide (Q2.out.keep b_)
    have OM3 := hide (OM2.out.below b_)
    have FM3 := hide ((b_.block a4 (heap_lt FM2.out)).trans FM2.out)
    have FS3 := hide (heap_new w2_ #[.nilFunc] 96)
    refine hK.out _ _ ((one_cell Q3.out.box).1) (fun hHeld => ?_)
    clear hK K
    try simp only [Act.put, g1, g2, g3, g4, g5, g6]
    obtain ⟨a5, ha5⟩ : ∃ x, w2_.heap.size = x := ⟨_, rfl⟩
    have HA5 : Hid (w.heap.size ≤ a5) := by rw [← ha5]; exact Q2.out.old.size
    have H45 : Hid (a4 ≠ a5) := by have h1 := heap_lt FM2.out; show _ ≠ _; omega
    rw [ha5] at FS3 ⊢
    generalize w2_.alloc (.cells #[.nilFunc] 96) = w3_ at *
    clear ha5 b_ Q2 OM2 FM2
   rotate_left
   refine AllReadyH.cons rfl (fun K hK => ?_) AllReadyH.nil
   go_simp
   have b_ := balloc (brefl w1_) (.cells #[.nilFunc] 96)
   have Q2 := hide (Q1.out.keep b_)
   have OM2 := hide (OM1.out.below b_)
   have FS2 := hide (heap_new w1_ #[.nilFunc] 96)
   refine hK.out _ _ ((one_cell Q2.out.box).1) (fun hHeld => ?_)
   clear hK K
   try simp only [Act.put, g1, g2, g3, g4, g5, g6]
   obtain ⟨a5, ha5⟩ : ∃ x, w1_.heap.size = x := ⟨_, rfl⟩
   have HA5 : Hid (w.heap.size ≤ a5) := by rw [← ha5]; exact Q1.out.old.size
   rw [ha5] at FS2 ⊢
   generalize w1_.alloc (.cells #[.nilFunc] 96) = w2_ at *
   clear ha5 b_ Q1 OM1
   refine wpAnyH_ready (rs := [3, 4]) (by kernel_rfl) (by simp) ?_
   refine AllReadyH.cons rfl (fun K hK => ?_) ?_
   ·
    go_simp
    go_wp2_with (refine (C37.out _ Q2.out.ps).mono ?_; rintro e w3_ ⟨sc, sx, rfl, ox, lx1, lx2, bx_⟩)
    have Q3 := hide (Q2.out.keep bx_)
    have OM3 := hide (OM2.out.below bx_)
    have FS3 := hide ((bx_.block a5 (heap_lt FS2.out)).trans FS2.out)
    have OS3 := hide ox
    have HS1 : Hid (w.heap.size ≤ sc) := Nat.le_trans Q2.out.old.size lx1
    have HMC : Hid (mc ≠ sc) := by have h1 := OM2.out.lt.1; show _ ≠ _; simp only at h1; omega
    clear ox lx1 lx2 bx_ Q2 OM2 FS2
    refine hK.out _ _ ((one_cell Q3.out.box).1) (fun hHeld => ?_)
    clear hK K
    try simp only [Act.put, g1, g2, g3, g4, g5, g6]
    refine rdy 4 (by kernel_rfl) rfl fun K hK => ?_
    go_simp
    have b_ := balloc (brefl w3_) (.cells #[.nilFunc] 96)
    have Q4 := hide (Q3.out.keep b_)
    have OM4 := hide (OM3.out.below b_)
    have OS4 := hide (OS3.out.below b_)
    have FS4 := hide ((b_.block a5 (heap_lt FS3.out)).trans FS3.out)
    have FM4 := hide (heap_new w3_ #[.nilFunc] 96)
    refine hK.out _ _ ((one_cell Q4.out.box).1) (fun hHeld => ?_)
    clear hK K
    try simp only [Act.put, g1, g2, g3, g4, g5, g6]
    obtain ⟨a4, ha4⟩ : ∃ x, w3_.heap.size = x := ⟨_, rfl⟩
    have HA4 : Hid (w.heap.size ≤ a4) := by rw [← ha4]; exact Q3.out.old.size
    have H45 : Hid (a4 ≠ a5) := by have h1 := heap_lt FS3.out; show _ ≠ _; omega
    rw [ha4] at FM4 ⊢
    generalize w3_.alloc (.cells #[.nilFunc] 96) = w4_ at *
    clear ha4 b_ Q3 OM3 OS3 FS3
    refine rdy 6 (by kernel_rfl) rfl fun K hK => ?_
    obtain ⟨f0, f1⟩ := one_cell FM4.out
    go_simp
    have G1 := hide (heap_setCell_same _ a4 0 _ 96 (.func (.func 59) #[] #[.pointer (some ⟨mc, 0, none⟩), .pointer (some ⟨mx, 0, none⟩)]) FM4.out)
    have G2 := hide (set_far (o := 0) (v := .func (.func 59) #[] #[.pointer (some ⟨mc, 0, none⟩), .pointer (some ⟨mx, 0, none⟩)]) FS4.out H45.out.symm)
    have Q1 := hide (Q4.out.put FM4.out (by decide) HA4.out HW0.out (.func (.func 59) #[] #[.pointer (some ⟨mc, 0, none⟩), .pointer (some ⟨mx, 0, none⟩)]))
    have O1 := hide (OM4.out.put FM4.out (by decide) (by decide) (by decide) 0 (.func (.func 59) #[] #[.pointer (some ⟨mc, 0, none⟩), .pointer (some ⟨mx, 0, none⟩)]))
    have O2 := hide (OS4.out.put FM4.out (by decide) (by decide) (by decide) 0 (.func (.func 59) #[] #[.pointer (some ⟨mc, 0, none⟩), .pointer (some ⟨mx, 0, none⟩)]))
    refine hK.out _ _ ((one_cell Q1.out.box).1) (fun hHeld => ?_)
    clear hK K f0 f1
    try simp only [Act.put, g1, g2, g3, g4, g5, g6]
    generalize w4_.setCell ⟨a4, 0, none⟩ (.func (.func 59) #[] #[.pointer (some ⟨mc, 0, none⟩), .pointer (some ⟨mx, 0, none⟩)]) = X1 at *
    clear Q4 OM4 OS4 FM4 FS4
    refine rdy 7 (by kernel_rfl) rfl fun K hK => ?_
    obtain ⟨f0, f1⟩ := one_cell G2.out
    go_simp
    have G3 := hide (set_far (o := 0) (v := .func (.func 59) #[] #[.pointer (some ⟨sc, 0, none⟩), .pointer (some ⟨sx, 0, none⟩)]) G1.out H45.out)
    have G4 := hide (heap_setCell_same _ a5 0 _ 96 (.func (.func 59) #[] #[.pointer (some ⟨sc, 0, none⟩), .pointer (some ⟨sx, 0, none⟩)]) G2.out)
    have Q2 := hide (Q1.out.put G2.out (by decide) HA5.out HW0.out (.func (.func 59) #[] #[.pointer (some ⟨sc, 0, none⟩), .pointer (some ⟨sx, 0, none⟩)]))
    have O3 := hide (O1.out.put G2.out (by decide) (by decide) (by decide) 0 (.func (.func 59) #[] #[.pointer (some ⟨sc, 0, none⟩), .pointer (some ⟨sx, 0, none⟩)]))
    have O4 := hide (O2.out.put G2.out (by decide) (by decide) (by decide) 0 (.func (.func 59) #[] #[.pointer (some ⟨sc, 0, none⟩), .pointer (some ⟨sx, 0, none⟩)]))
    refine hK.out _ _ ((one_cell Q2.out.box).1) (fun hHeld => ?_)
    clear hK K f0 f1
    try simp only [Act.put, g1, g2, g3, g4, g5, g6]
    generalize X1.setCell ⟨a5, 0, none⟩ (.func (.func 59) #[] #[.pointer (some ⟨sc, 0, none⟩), .pointer (some ⟨sx, 0, none⟩)]) = X2 at *
    refine wpAnyH_done (by kernel_rfl) ?_ _
    clear hHeld
    go_wp2_with fail
    go_meet
    exact ⟨a4, a5, mc, mx, sc, sx, rfl, rfl, Q2.out, O3.out, O4.out, G3.out, G4.out, HMC.out, HM1.out, HS1.out⟩
   refine AllReadyH.cons rfl (fun K hK => ?_) AllReadyH.nil
   go_simp
   have b_ := balloc (brefl w2_) (.cells #[.nilFunc] 96)
   have Q3 := hide (Q2.out.keep b_)
   have OM3 := hide (OM2.out.below b_)
   have FS3 := hide ((b_.block a5 (heap_lt FS2.out)).trans FS2.out)
   have FM3 := hide (heap_new w2_ #[.nilFunc] 96)
   refine hK.out _ _ ((one_cell Q3.out.box).1) (fun hHeld => ?_)
   clear hK K
   try simp only [Act.put, g1, g2, g3, g4, g5, g6]
   obtain ⟨a4, ha4⟩ : ∃ x, w2_.heap.size = x := ⟨_, rfl⟩
   have HA4 : Hid (w.heap.size ≤ a4) := by rw [← ha4]; exact Q2.out.old.size
   have H45 : Hid (a4 ≠ a5) := by have h1 := heap_lt FS2.out; show _ ≠ _; omega
   rw [ha4] at FM3 ⊢
   generalize w2_.alloc (.cells #[.nilFunc] 96) = w3_ at *
   clear ha4 b_ Q2 OM2 FS2
  rotate_left 2
  focus
   refine AllReadyH.cons rfl (fun K hK => ?_) ?_
   focus
    go_simp
    have b_ := balloc (brefl W1) (.cells #[.nilFunc] 96)
    have Q1 := hide (Q0.out.keep b_)
    have FM1 := hide (heap_new W1 #[.nilFunc] 96)
    refine hK.out _ _ ((one_cell Q1.out.box).1) (fun hHeld => ?_)
    clear hK K
    try simp only [Act.put, g1, g2, g3, g4, g5, g6]
    obtain ⟨a4, ha4⟩ : ∃ x, W1.heap.size = x := ⟨_, rfl⟩
    have HA4 : Hid (w.heap.size ≤ a4) := by rw [← ha4]; exact Q0.out.old.size
    rw [ha4] at FM1 ⊢
    generalize W1.alloc (.cells #[.nilFunc] 96) = w1_ at *
    clear ha4 b_ Q0
    refine wpAnyH_ready (rs := [1, 5]) (by kernel_rfl) (by simp) ?_
    refine AllReadyH.cons rfl (fun K hK => ?_) ?_
    focus
     go_simp
     go_wp2_with (refine (C37.out _ Q1.out.ps).mono ?_; rintro e w2_ ⟨mc, mx, rfl, ox, lx1, lx2, bx_⟩)
     have Q2 := hide (Q1.out.keep bx_)
     have FM2 := hide ((bx_.block a4 (heap_lt FM1.out)).trans FM1.out)
     have OM2 := hide ox
     have HM1 : Hid (w.heap.size ≤ mc) := Nat.le_trans Q1.out.old.size lx1
     clear ox lx1 lx2 bx_ Q1 FM1
     refine hK.out _ _ ((one_cell Q2.out.box).1) (fun hHeld => ?_)
     clear hK K
     try simp only [Act.put, g1, g2, g3, g4, g5, g6]
     refine wpAnyH_ready (rs := [3, 5]) (by kernel_rfl) (by simp) ?_
     refine AllReadyH.cons rfl (fun K hK => ?_) ?_
     ·
      go_simp
      go_wp2_with (refine (C37.out _ Q2.out.ps).mono ?_; rintro e w3_ ⟨sc, sx, rfl, ox, lx1, lx2, bx_⟩)
      have Q3 := hide (Q2.out.keep bx_)
      have OM3 := hide (OM2.out.below bx_)
      have FM3 := hide ((bx_.block a4 (heap_lt FM2.out)).trans FM2.out)
      have OS3 := hide ox
      have HS1 : Hid (w.heap.size ≤ sc) := Nat.le_trans Q2.out.old.size lx1
      have HMC : Hid (mc ≠ sc) := by have h1 := OM2.out.lt.1; show _ ≠ _; simp only at h1; omega
      clear ox lx1 lx2 bx_ Q2 OM2 FM2
      refine hK.out _ _ ((one_cell Q3.out.box).1) (fun hHeld => ?_)
      clear hK K
      try simp only [Act.put, g1, g2, g3, g4, g5, g6]
      refine rdy 5 (by kernel_rfl) rfl fun K hK => ?_
      go_simp
      have b_ := balloc (brefl w3_) (.cells #[.nilFunc] 96)
      have Q4 := hide (Q3.out.keep b_)
      have OM4 := hide (OM3.out.below b_)
      have OS4 := hide (OS3.out.below b_)
      have FM4 := hide ((b_.block a4 (heap_lt FM3.out)).trans FM3.out)
      have FS4 := hide (heap_new w3_ #[.nilFunc] 96)
      refine hK.out _ _ ((one_cell Q4.out.box).1) (fun hHeld => ?_)
      clear hK K
      try simp only [Act.put, g1, g2, g3, g4, g5, g6]
      obtain ⟨a5, ha5⟩ : ∃ x, w3_.heap.size = x := ⟨_, rfl⟩
      have HA5 : Hid (w.heap.size ≤ a5) := by rw [← ha5]; exact Q3.out.old.size
      have H45 : Hid (a4 ≠ a5) := by have h1 := heap_lt FM3.out; show _ ≠ _; omega
      rw [ha5] at FS4 ⊢
      generalize w3_.alloc (.cells #[.nilFunc] 96) = w4_ at *
      clear ha5 b_ Q3 OM3 OS3 FM3
      refine rdy 6 (by kernel_rfl) rfl fun K hK => ?_
      obtain ⟨f0, f1⟩ := one_cell FM4.out
      go_simp
      have G1 := hide (heap_setCell_same _ a4 0 _ 96 (.func (.func 59) #[] #[.pointer (some ⟨mc, 0, none⟩), .pointer (some ⟨mx, 0, none⟩)]) FM4.out)
      have G2 := hide (set_far (o := 0) (v := .func (.func 59) #[] #[.pointer (some ⟨mc, 0, none⟩), .pointer (some ⟨mx, 0, none⟩)]) FS4.out H45.out.symm)
      have Q1 := hide (Q4.out.put FM4.out (by decide) HA4.out HW0.out (.func (.func 59) #[] #[.pointer (some ⟨mc, 0, none⟩), .pointer (some ⟨mx, 0, none⟩)]))
      have O1 := hide (OM4.out.put FM4.out (by decide) (by decide) (by decide) 0 (.func (.func 59) #[] #[.pointer (some ⟨mc, 0, none⟩), .pointer (some ⟨mx, 0, none⟩)]))
      have O2 := hide (OS4.out.put FM4.out (by decide) (by decide) (by decide) 0 (.func (.func 59) #[] #[.pointer (some ⟨mc, 0, none⟩), .pointer (some ⟨mx, 0, none⟩)]))
      refine hK.out _ _ ((one_cell Q1.out.box).1) (fun hHeld => ?_)
      clear hK K f0 f1
      try simp only [Act.put, g1, g2, g3, g4, g5, g6]
      generalize w4_.setCell ⟨a4, 0, none⟩ (.func (.func 59) #[] #[.pointer (some ⟨mc, 0, none⟩), .pointer (some ⟨mx, 0, none⟩)]) = X1 at *
      clear Q4 OM4 OS4 FM4 FS4
      refine rdy 7 (by kernel_rfl) rfl fun K hK => ?_
      obtain ⟨f0, f1⟩ := one_cell G2.out
      go_simp
      have G3 := hide (set_far (o := 0) (v := .func (.func 59) #[] #[.pointer (some ⟨sc, 0, none⟩), .pointer (some ⟨sx, 0, none⟩)]) G1.out H45.out)
      have G4 := hide (heap_setCell_same _ a5 0 _ 96 (.func (.func 59) #[] #[.pointer (some ⟨sc, 0, none⟩), .pointer (some ⟨sx, 0, none⟩)]) G2.out)
      have Q2 := hide (Q1.out.put G2.out (by decide) HA5.out HW0.out (.func (.func 59) #[] #[.pointer (some ⟨sc, 0, none⟩), .pointer (some ⟨sx, 0, none⟩)]))
      have O3 := hide (O1.out.put G2.out (by decide) (by decide) (by decide) 0 (.func (.func 59) #[] #[.pointer (some ⟨sc, 0, none⟩), .pointer (some ⟨sx, 0, none⟩)]))
      have O4 := hide (O2.out.put G2.out (by decide) (by decide) (by decide) 0 (.func (.func 59) #[] #[.pointer (some ⟨sc, 0, none⟩), .pointer (some ⟨sx, 0, none⟩)]))
      refine hK.out _ _ ((one_cell Q2.out.box).1) (fun hHeld => ?_)
      clear hK K f0 f1
      try simp only [Act.put, g1, g2, g3, g4, g5, g6]
      generalize X1.setCell ⟨a5, 0, none⟩ (.func (.func 59) #[] #[.pointer (some ⟨sc, 0, none⟩), .pointer (some ⟨sx, 0, none⟩)]) = X2 at *
      refine wpAnyH_done (by kernel_rfl) ?_ _
      clear hHeld
      go_wp2_with fail
      go_meet
      exact ⟨a4, a5, mc, mx, sc, sx, rfl, rfl, Q2.out, O3.out, O4.out, G3.out, G4.out, HMC.out, HM1.out, HS1.out⟩
     refine AllReadyH.cons rfl (fun K hK => ?_) AllReadyH.nil
     go_simp
     have b_ := balloc (brefl w2_) (.cells #[.nilFunc] 96)
     have Q3 := hide (Q2.out.keep b_)
     have OM3 := hide (OM2.out.below b_)
     have FM3 := hide ((b_.block a4 (heap_lt FM2.out)).trans FM2.out)
     have FS3 := hide (heap_new w2_ #[.nilFunc] 96)
     refine hK.out _ _ ((one_cell Q3.out.box).1) (fun hHeld => ?_)
     clear hK K
     try simp only [Act.put, g1, g2, g3, g4, g5, g6]
     obtain ⟨a5, ha5⟩ : ∃ x, w2_.heap.size = x := ⟨_, rfl⟩
     have HA5 : Hid (w.heap.size ≤ a5) := by rw [← ha5]; exact Q2.out.old.size
     have H45 : Hid (a4 ≠ a5) := by have h1 := heap_lt FM2.out; show _ ≠ _; omega
     rw [ha5] at FS3 ⊢
     generalize w2_.alloc (.cells #[.nilFunc] 96) = w3_ at *
     clear ha5 b_ Q2 OM2 FM2
    rotate_left
    refine AllReadyH.cons rfl (fun K hK => ?_) AllReadyH.nil
    go_simp
    have b_ := balloc (brefl w1_) (.cells #[.nilFunc] 96)
    have Q2 := hide (Q1.out.keep b_)
    have FM2 := hide ((b_.block a4 (heap_lt FM1.out)).trans FM1.out)
    have FS2 := hide (heap_new w1_ #[.nilFunc] 96)
    refine hK.out _ _ ((one_cell Q2.out.box).1) (fun hHeld => ?_)
    clear hK K
    try simp only [Act.put, g1, g2, g3, g4, g5, g6]
    obtain ⟨a5, ha5⟩ : ∃ x, w1_.heap.size = x := ⟨_, rfl⟩
    have HA5 : Hid (w.heap.size ≤ a5) := by rw [← ha5]; exact Q1.out.old.size
    have H45 : Hid (a4 ≠ a5) := by have h1 := heap_lt FM1.out; show _ ≠ _; omega
    rw [ha5] at FS2 ⊢
    generalize w1_.alloc (.cells #[.nilFunc] 96) = w2_ at *
    clear ha5 b_ Q1 FM1
    refine rdy 1 (by kernel_rfl) rfl fun K hK => ?_
    go_simp
    go_wp2_with (refine (C37.out _ Q2.out.ps).mono ?_; rintro e w3_ ⟨mc, mx, rfl, ox, lx1, lx2, bx_⟩)
    have Q3 := hide (Q2.out.keep bx_)
    have FM3 := hide ((bx_.block a4 (heap_lt FM2.out)).trans FM2.out)
    have FS3 := hide ((bx_.block a5 (heap_lt FS2.out)).trans FS2.out)
    have OM3 := hide ox
    have HM1 : Hid (w.heap.size ≤ mc) := Nat.le_trans Q2.out.old.size lx1
    clear ox lx1 lx2 bx_ Q2 FM2 FS2
    refine hK.out _ _ ((one_cell Q3.out.box).1) (fun hHeld => ?_)
    clear hK K
    try simp only [Act.put, g1, g2, g3, g4, g5, g6]
   rotate_left 2
   refine AllReadyH.cons rfl (fun K hK => ?_) AllReadyH.nil
   go_simp
   have b_ := balloc (brefl W1) (.cells #[.nilFunc] 96)
   have Q1 := hide (Q0.out.keep b_)
   have FS1 := hide (heap_new W1 #[.nilFunc] 96)
   refine hK.out _ _ ((one_cell Q1.out.box).1) (fun hHeld => ?_)
   clear hK K
   try simp only [Act.put, g1, g2, g3, g4, g5, g6]
   obtain ⟨a5, ha5⟩ : ∃ x, W1.heap.size = x := ⟨_, rfl⟩
   have HA5 : Hid (w.heap.size ≤ a5) := by rw [← ha5]; exact Q0.out.old.size
   rw [ha5] at FS1 ⊢
   generalize W1.alloc (.cells #[.nilFunc] 96) = w1_ at *
   clear ha5 b_ Q0
   refine wpAnyH_ready (rs := [1, 4]) (by kernel_rfl) (by simp) ?_
   refine AllReadyH.cons rfl (fun K hK => ?_) ?_
   focus
    go_simp
    go_wp2_with (refine (C37.out _ Q1.out.ps).mono ?_; rintro e w2_ ⟨mc, mx, rfl, ox, lx1, lx2, bx_⟩)
    have Q2 := hide (Q1.out.keep bx_)
    have FS2 := hide ((bx_.block a5 (heap_lt FS1.out)).trans FS1.out)
    have OM2 := hide ox
    have HM1 : Hid (w.heap.size ≤ mc) := Nat.le_trans Q1.out.old.size lx1
    clear ox lx1 lx2 bx_ Q1 FS1
    refine hK.out _ _ ((one_cell Q2.out.box).1) (fun hHeld => ?_)
    clear hK K
    try simp only [Act.put, g1, g2, g3, g4, g5, g6]
    refine wpAnyH_ready (rs := [3, 4]) (by kernel_rfl) (by simp) ?_
    refine AllReadyH.cons rfl (fun K hK => ?_) ?_
    ·
     go_simp
     go_wp2_with (refine (C37.out _ Q2.out.ps).mono ?_; rintro e w3_ ⟨sc, sx, rfl, ox, lx1, lx2, bx_⟩)
     have Q3 := hide (Q2.out.keep bx_)
     have OM3 := hide (OM2.out.below bx_)
     have FS3 := hide ((bx_.block a5 (heap_lt FS2.out)).trans FS2.out)
     have OS3 := hide ox
     have HS1 : Hid (w.heap.size ≤ sc) := Nat.le_trans Q2.out.old.size lx1
     have HMC : Hid (mc ≠ sc) := by have h1 := OM2.out.lt.1; show _ ≠ _; simp only at h1; omega
     clear ox lx1 lx2 bx_ Q2 OM2 FS2
     refine hK.out _ _ ((one_cell Q3.out.box).1) (fun hHeld => ?_)
     clear hK K
     try simp only [Act.put, g1, g2, g3, g4, g5, g6]
     refine rdy 4 (by kernel_rfl) rfl fun K hK => ?_
     go_simp
     have b_ := balloc (brefl w3_) (.cells #[.nilFunc] 96)
     have Q4 := hide (Q3.out.keep b_)
     have OM4 := hide (OM3.out.below b_)
     have OS4 := hide (OS3.out.below b_)
     have FS4 := hide ((b_.block a5 (heap_lt FS3.out)).trans FS3.out)
     have FM4 := hide (heap_new w3_ #[.nilFunc] 96)
     refine hK.out _ _ ((one_cell Q4.out.box).1) (fun hHeld => ?_)
     clear hK K
     try simp only [Act.put, g1, g2, g3, g4, g5, g6]
     obtain ⟨a4, ha4⟩ : ∃ x, w3_.heap.size = x := ⟨_, rfl⟩
     have HA4 : Hid (w.heap.size ≤ a4) := by rw [← ha4]; exact Q3.out.old.size
     have H45 : Hid (a4 ≠ a5) := by have h1 := heap_lt FS3.out; show _ ≠ _; omega
     rw [ha4] at FM4 ⊢
     generalize w3_.alloc (.cells #[.nilFunc] 96) = w4_ at *
     clear ha4 b_ Q3 OM3 OS3 FS3
     refine rdy 6 (by kernel_rfl) rfl fun K hK => ?_
     obtain ⟨f0, f1⟩ := one_cell FM4.out
     go_simp
     have G1 := hide (heap_setCell_same _ a4 0 _ 96 (.func (.func 59) #[] #[.pointer (some ⟨mc, 0, none⟩), .pointer (some ⟨mx, 0, none⟩)]) FM4.out)
     have G2 := hide (set_far (o := 0) (v := .func (.func 59) #[] #[.pointer (some ⟨mc, 0, none⟩), .pointer (some ⟨mx, 0, none⟩)]) FS4.out H45.out.symm)
     have Q1 := hide (Q4.out.put FM4.out (by decide) HA4.out HW0.out (.func (.func 59) #[] #[.pointer (some ⟨mc, 0, none⟩), .pointer (some ⟨mx, 0, none⟩)]))
     have O1 := hide (OM4.out.put FM4.out (by decide) (by decide) (by decide) 0 (.func (.func 59) #[] #[.pointer (some ⟨mc, 0, none⟩), .pointer (some ⟨mx, 0, none⟩)]))
     have O2 := hide (OS4.out.put FM4.out (by decide) (by decide) (by decide) 0 (.func (.func 59) #[] #[.pointer (some ⟨mc, 0, none⟩), .pointer (some ⟨mx, 0, none⟩)]))
     refine hK.out _ _ ((one_cell Q1.out.box).1) (fun hHeld => ?_)
     clear hK K f0 f1
     try simp only [Act.put, g1, g2, g3, g4, g5, g6]
     generalize w4_.setCell ⟨a4, 0, none⟩ (.func (.func 59) #[] #[.pointer (some ⟨mc, 0, none⟩), .pointer (some ⟨mx, 0, none⟩)]) = X1 at *
     clear Q4 OM4 OS4 FM4 FS4
     refine rdy 7 (by kernel_rfl) rfl fun K hK => ?_
     obtain ⟨f0, f1⟩ := one_cell G2.out
     go_simp
     have G3 := hide (set_far (o := 0) (v := .func (.func 59) #[] #[.pointer (some ⟨sc, 0, none⟩), .pointer (some ⟨sx, 0, none⟩)]) G1.out H45.out)
     have G4 := hide (heap_setCell_same _ a5 0 _ 96 (.func (.func 59) #[] #[.pointer (some ⟨sc, 0, none⟩), .pointer (some ⟨sx, 0, none⟩)]) G2.out)
     have Q2 := hide (Q1.out.put G2.out (by decide) HA5.out HW0.out (.func (.func 59) #[] #[.pointer (some ⟨sc, 0, none⟩), .pointer (some ⟨sx, 0, none⟩)]))
     have O3 := hide (O1.out.put G2.out (by decide) (by decide) (by decide) 0 (.func (.func 59) #[] #[.pointer (some ⟨sc, 0, none⟩), .pointer (some ⟨sx, 0, none⟩)]))
     have O4 := hide (O2.out.put G2.out (by decide) (by decide) (by decide) 0 (.func (.func 59) #[] #[.pointer (some ⟨sc, 0, none⟩), .pointer (some ⟨sx, 0, none⟩)]))
     refine hK.out _ _ ((one_cell Q2.out.box).1) (fun hHeld => ?_)
     clear hK K f0 f1
     try simp only [Act.put, g1, g2, g3, g4, g5, g6]
     generalize X1.setCell ⟨a5, 0, none⟩ (.func (.func 59) #[] #[.pointer (some ⟨sc, 0, none⟩), .pointer (some ⟨sx, 0, none⟩)]) = X2 at *
     refine wpAnyH_done (by kernel_rfl) ?_ _
     clear hHeld
     go_wp2_with fail
     go_meet
     exact ⟨a4, a5, mc, mx, sc, sx, rfl, rfl, Q2.out, O3.out, O4.out, G3.out, G4.out, HMC.out, HM1.out, HS1.out⟩
    refine AllReadyH.cons rfl (fun K hK => ?_) AllReadyH.nil
    go_simp
    have b_ := balloc (brefl w2_) (.cells #[.nilFunc] 96)
    have Q3 := hide (Q2.out.keep b_)
    have OM3 := hide (OM2.out.below b_)
    have FS3 := hide ((b_.block a5 (heap_lt FS2.out)).trans FS2.out)
    have FM3 := hide (heap_new w2_ #[.nilFunc] 96)
    refine hK.out _ _ ((one_cell Q3.out.box).1) (fun hHeld => ?_)
    clear hK K
    try simp only [Act.put, g1, g2, g3, g4, g5, g6]
    obtain ⟨a4, ha4⟩ : ∃ x, w2_.heap.size = x := ⟨_, rfl⟩
    have HA4 : Hid (w.heap.size ≤ a4) := by rw [← ha4]; exact Q2.out.old.size
    have H45 : Hid (a4 ≠ a5) := by have h1 := heap_lt FS2.out; show _ ≠ _; omega
    rw [ha4] at FM3 ⊢
    generalize w2_.alloc (.cells #[.nilFunc] 96) = w3_ at *
    clear ha4 b_ Q2 OM2 FS2
   rotate_left
   refine AllReadyH.cons rfl (fun K hK => ?_) AllReadyH.nil
   go_simp
   have b_ := balloc (brefl w1_) (.cells #[.nilFunc] 96)
   have Q2 := hide (Q1.out.keep b_)
   have FS2 := hide ((b_.block a5 (heap_lt FS1.out)).trans FS1.out)
   have FM2 := hide (heap_new w1_ #[.nilFunc] 96)
   refine hK.out _ _ ((one_cell Q2.out.box).1) (fun hHeld => ?_)
   clear hK K
   try simp only [Act.put, g1, g2, g3, g4, g5, g6]
   obtain ⟨a4, ha4⟩ : ∃ x, w1_.heap.size = x := ⟨_, rfl⟩
   have HA4 : Hid (w.heap.size ≤ a4) := by rw [← ha4]; exact Q1.out.old.size
   have H45 : Hid (a4 ≠ a5) := by have h1 := heap_lt FS1.out; show _ ≠ _; omega
   rw [ha4] at FM2 ⊢
   generalize w1_.alloc (.cells #[.nilFunc] 96) = w2_ at *
   clear ha4 b_ Q1 FS1
   refine rdy 1 (by kernel_rfl) rfl fun K hK => ?_
   go_simp
   go_wp2_with (refine (C37.out _ Q2.out.ps).mono ?_; rintro e w3_ ⟨mc, mx, rfl, ox, lx1, lx2, bx_⟩)
   have Q3 := hide (Q2.out.keep bx_)
   have FM3 := hide ((bx_.block a4 (heap_lt FM2.out)).trans FM2.out)
   have FS3 := hide ((bx_.block a5 (heap_lt FS2.out)).trans FS2.out)
   have OM3 := hide ox
   have HM1 : Hid (w.heap.size ≤ mc) := Nat.le_trans Q2.out.old.size lx1
   clear ox lx1 lx2 bx_ Q2 FM2 FS2
   refine hK.out _ _ ((one_cell Q3.out.box).1) (fun hHeld => ?_)
   clear hK K
   try simp only [Act.put, g1, g2, g3, g4, g5, g6]
  all_goals
   refine rdy 3 (by kernel_rfl) rfl fun K hK => ?_
   go_simp
   go_wp2_with (refine (C37.out _ Q3.out.ps).mono ?_; rintro e w4_ ⟨sc, sx, rfl, ox, lx1, lx2, bx_⟩)
   have Q4 := hide (Q3.out.keep bx_)
   have OM4 := hide (OM3.out.below bx_)
   have FM4 := hide ((bx_.block a4 (heap_lt FM3.out)).trans FM3.out)
   have FS4 := hide ((bx_.block a5 (heap_lt FS3.out)).trans FS3.out)
   have OS4 := hide ox
   have HS1 : Hid (w.heap.size ≤ sc) := Nat.le_trans Q3.out.old.size lx1
   have HMC : Hid (mc ≠ sc) := by have h1 := OM3.out.lt.1; show _ ≠ _; simp only at h1; omega
   clear ox lx1 lx2 bx_ Q3 OM3 FM3 FS3
   refine hK.out _ _ ((one_cell Q4.out.box).1) (fun hHeld => ?_)
   clear hK K
   try simp only [Act.put, g1, g2, g3, g4, g5, g6]
   refine rdy 6 (by kernel_rfl) rfl fun K hK => ?_
   obtain ⟨f0, f1⟩ := one_cell FM4.out
   go_simp
   have G1 := hide (heap_setCell_same _ a4 0 _ 96 (.func (.func 59) #[] #[.pointer (some ⟨mc, 0, none⟩), .pointer (some ⟨mx, 0, none⟩)]) FM4.out)
   have G2 := hide (set_far (o := 0) (v := .func (.func 59) #[] #[.pointer (some ⟨mc, 0, none⟩), .pointer (some ⟨mx, 0, none⟩)]) FS4.out H45.out.symm)
   have Q1 := hide (Q4.out.put FM4.out (by decide) HA4.out HW0.out (.func (.func 59) #[] #[.pointer (some ⟨mc, 0, none⟩), .pointer (some ⟨mx, 0, none⟩)]))
   have O1 := hide (OM4.out.put FM4.out (by decide) (by decide) (by decide) 0 (.func (.func 59) #[] #[.pointer (some ⟨mc, 0, none⟩), .pointer (some ⟨mx, 0, none⟩)]))
   have O2 := hide (OS4.out.put FM4.out (by decide) (by decide) (by decide) 0 (.func (.func 59) #[] #[.pointer (some ⟨mc, 0, none⟩), .pointer (some ⟨mx, 0, none⟩)]))
   refine hK.out _ _ ((one_cell Q1.out.box).1) (fun hHeld => ?_)
   clear hK K f0 f1
   try simp only [Act.put, g1, g2, g3, g4, g5, g6]
   generalize w4_.setCell ⟨a4, 0, none⟩ (.func (.func 59) #[] #[.pointer (some ⟨mc, 0, none⟩), .pointer (some ⟨mx, 0, none⟩)]) = X1 at *
   clear Q4 OM4 OS4 FM4 FS4
   refine rdy 7 (by kernel_rfl) rfl fun K hK => ?_
   obtain ⟨f0, f1⟩ := one_cell G2.out
   go_simp
   have G3 := hide (set_far (o := 0) (v := .func (.func 59) #[] #[.pointer (some ⟨sc, 0, none⟩), .pointer (some ⟨sx, 0, none⟩)]) G1.out H45.out)
   have G4 := hide (heap_setCell_same _ a5 0 _ 96 (.func (.func 59) #[] #[.pointer (some ⟨sc, 0, none⟩), .pointer (some ⟨sx, 0, none⟩)]) G2.out)
   have Q2 := hide (Q1.out.put G2.out (by decide) HA5.out HW0.out (.func (.func 59) #[] #[.pointer (some ⟨sc, 0, none⟩), .pointer (some ⟨sx, 0, none⟩)]))
   have O3 := hide (O1.out.put G2.out (by decide) (by decide) (by decide) 0 (.func (.func 59) #[] #[.pointer (some ⟨sc, 0, none⟩), .pointer (some ⟨sx, 0, none⟩)]))
   have O4 := hide (O2.out.put G2.out (by decide) (by decide) (by decide) 0 (.func (.func 59) #[] #[.pointer (some ⟨sc, 0, none⟩), .pointer (some ⟨sx, 0, none⟩)]))
   refine hK.out _ _ ((one_cell Q2.out.box).1) (fun hHeld => ?_)
   clear hK K f0 f1
   try simp only [Act.put, g1, g2, g3, g4, g5, g6]
   generalize X1.setCell ⟨a5, 0, none⟩ (.func (.func 59) #[] #[.pointer (some ⟨sc, 0, none⟩), .pointer (some ⟨sx, 0, none⟩)]) = X2 at *
   refine wpAnyH_done (by kernel_rfl) ?_ _
   clear hHeld
   go_wp2_with fail
   go_meet
   exact ⟨a4, a5, mc, mx, sc, sx, rfl, rfl, Q2.out, O3.out, O4.out, G3.out, G4.out, HMC.out, HM1.out, HS1.out⟩
 case rest =>
 clear PC
 obtain ⟨fm, fs, mc, mx, sc, sx, rfl, rfl, PD⟩ := hcut
 have HPD := PD
 obtain ⟨pc, om, os, gm, gs, hms, hm1, hs1⟩ := PD.out
 have PC := hide pc
 have OM := hide om
 have OS := hide os
 have GM := hide gm
 have GS := hide gs
 have HMS := hide (And.intro hms (And.intro hm1 hs1))
 clear pc om os gm gs hms hm1 hs1 PD HPD C37
 have HI : Hid (ClInv ⟨W0, pb, en⟩ w.heap.size ⟨bx, mb, fm, sb, fs, mc, mx, sc, sx⟩ wc (fun k => (k = mb ∨ k = sb) ∨ (k = mc ∨ none = some k) ∨ (k = sc ∨ none = some k)) zeroCs) :=
  ⟨PC.out.box, GM.out, GS.out, PC.out.mb, ⟨_, _, _, PC.out.sb, World.ownsRow_nil _ _ _ _, World.ownsRow_nil _ _ _ _, World.ownsRow_nil _ _ _ _⟩, ⟨none, none, OM.out, OS.out, fun _ => Iff.rfl, fun _ h => by cases h⟩, ⟨HNE.out.2.2.2.2.1, HNE.out.2.1.2.2.1, HNE.out.2.2.2.2.2, HNE.out.2.1.2.2.2, HMS.out.1⟩, PC.out.old.size⟩
 have CC := hide (CB.out _ _ PC.out.ps _ HI.out)
 simp only at CC
 obtain ⟨b0, _⟩ := one_cell PC.out.box
 go_wp2_with fail
 refine CC.out.mono ?_
 rintro e w3 ⟨t, rfl, y, S', i3, b3, s3, p3, _, v3⟩
 have I3 := hide i3
 have P3 := hide p3
 have HV := hide v3
 have hks : ∀ k t cs, wc.heap[k]? = some (.cells cs t (0, 0)) → k ≠ mb → k ≠ sb → t ≠ 126 → t ≠ 62 → ¬ orS pb (fun k => (k = mb ∨ k = sb) ∨ (k = mc ∨ none = some k) ∨ (k = sc ∨ none = some k)) k := by
  rintro k t cs hk h1 h2 h3 h4 (e | (e | e) | (e | e) | (e | e))
  ·
   exact PC.out.ps.av h4 k cs hk e
  ·
   exact h1 e
  ·
   exact h2 e
  ·
   obtain ⟨v, q, _⟩ := OM.out.row
   rw [e] at hk
   simp only at q
   rw [q] at hk
   cases hk
   exact h3 rfl
  ·
   cases e
  ·
   obtain ⟨v, q, _⟩ := OS.out.row
   rw [e] at hk
   simp only at q
   rw [q] at hk
   cases hk
   exact h3 rfl
  cases e
 have RM := hide (b3.keep PC.out.rm (hks _ _ _ PC.out.rm HNE.out.2.2.1 (by rintro rfl; have h1 := PC.out.rm; rw [PC.out.sb] at h1; cases h1) (by decide) (by decide)))
 have RS := hide (b3.keep PC.out.rs (hks _ _ _ PC.out.rs (by rintro rfl; have h1 := PC.out.rs; rw [PC.out.mb] at h1; cases h1) HNE.out.2.2.2.1 (by decide) (by decide)))
 have B3 : Hid (But (but1 pb) w w3) := (But.of PC.out.old).thens b3 (by
   rintro i hi (e | (e | e) | (e | e) | (e | e))
   · exact e
   · have := HNE.out.1.2.2.1; omega
   · have := HNE.out.1.2.2.2; omega
   · have := HMS.out.2.1; omega
   · cases e
   · have := HMS.out.2.2; omega
   · cases e)
 clear i3 b3 s3 p3 v3 hks CB CC HI OM OS GM GS PC b0
 obtain ⟨ym, ys, yms, yss⟩ := y
 have MT : Hid (w3.heap[mb]? = some (.cells #[.string ym.list, .string ym.path, .int .i64 ym.ca, .int .i64 ym.cn] 75 (0, 0))) := I3.out.m
 obtain ⟨va, vd, vp, se, ra, rd, rp⟩ := I3.out.s
 have SE := hide se
 have RA := hide ra
 have RD := hide rd
 have RP := hide rp
 simp only at RA RD RP
 clear se ra rd rp I3
 obtain ⟨ao, an, ac, hva⟩ := own_slice RA.out
 obtain ⟨bo, bn, bc, hvd⟩ := own_slice RD.out
 obtain ⟨co, cn, cc, hvp⟩ := own_slice RP.out
 subst hva hvd hvp
 obtain ⟨ml, mp, mca, mcn⟩ := ym
 obtain ⟨sp, sm, so, sa, sd, scl, spr⟩ := ys
 have SE2 : Hid (w3.heap[sb]? = some (.cells #[.int .i64 sp, .int .i64 sm, .int .i64 so, .slice ao an ac, .slice bo bn bc, .bool scl, .slice co cn cc] 79 (0, 0))) := SE.out
 clear SE
 simp only at MT RA RD RP HV
 go_upto_region 5 with fail
 have D3 := But.of (S := fun _ => False) (Below.drew (brefl w3))
 have P4 := hide (P3.out.below (Below.drew (brefl w3)))
 have B4 := hide (B3.out.trans (But.of (Below.drew (brefl w3))))
 have RM4 := hide (D3.keep RM.out (fun h => h))
 have RS4 := hide (D3.keep RS.out (fun h => h))
 have MT4 := hide (D3.keep MT.out (fun h => h))
 have SE4 := hide (D3.keep SE2.out (fun h => h))
 have RA4 := hide (row_but RA.out D3 (fun _ _ h => h))
 have RD4 := hide (row_but RD.out D3 (fun _ _ h => h))
 have RP4 := hide (row_but RP.out D3 (fun _ _ h => h))
 clear D3 P3 B3 RM RS MT SE2 RA RD RP
 have FC4 := four_cells MT4.out
 have FS4 := seven_cells SE4.out
 refine wp_region_held_drew (S := (fun w' => (w'.cell? ⟨mb, 0, none⟩ = some (.string ml) ∧ w'.cell? ⟨mb, 1, none⟩ = some (.string mp) ∧ w'.cell? ⟨mb, 2, none⟩ = some (.int .i64 mca) ∧ w'.cell? ⟨mb, 3, none⟩ = some (.int .i64 mcn)) ∧ (w'.cell? ⟨sb, 0, none⟩ = some (.int .i64 sp) ∧ w'.cell? ⟨sb, 1, none⟩ = some (.int .i64 sm) ∧ w'.cell? ⟨sb, 2, none⟩ = some (.int .i64 so) ∧ w'.cell? ⟨sb, 3, none⟩ = some (.slice ao an ac) ∧ w'.cell? ⟨sb, 4, none⟩ = some (.slice bo bn bc) ∧ w'.cell? ⟨sb, 5, none⟩ = some (.bool scl) ∧ w'.cell? ⟨sb, 6, none⟩ = some (.slice co cn cc)))) (by kernel_rfl) ⟨FC4.1, FS4.1⟩ (fun hHeld => ?_)
 clear FC4 FS4
 generalize w3.drew = w4 at *
 refine tak 0 (.agg #[.string ml, .string mp, .int .i64 mca, .int .i64 mcn]) rfl (Or.inl ⟨by rfl, fun w hSw => by obtain ⟨⟨c0, c1, c2, c3⟩, _⟩ := hSw; go_simp⟩) hHeld ?_
 simp only [Act.put, g1, g2, g4, g5, g6]
 refine tak 1 (.agg #[.int .i64 sp, .int .i64 sm, .int .i64 so, .slice ao an ac, .slice bo bn bc, .bool scl, .slice co cn cc]) rfl (Or.inl ⟨by rfl, fun w hSw => by obtain ⟨_, c0, c1, c2, c3, c4, c5, c6⟩ := hSw; go_simp⟩) hHeld ?_
 simp only [Act.put, g1, g2, g3, g4, g5, g6]
 refine rdy 2 (by kernel_rfl) rfl fun K hK => ?_
 obtain ⟨⟨c0, c1, c2, c3⟩, e0, e1, e2, e3⟩ := four_cells RM4.out
 go_simp
 have X1 := hide ((But.refl (fun k => k = rm) w4).put4 (.inl rfl) (.string ml) (.string mp) (.int .i64 mca) (.int .i64 mcn))
 have RM5 := hide (four_set RM4.out (.string ml) (.string mp) (.int .i64 mca) (.int .i64 mcn))
 have P5 := hide (P4.out.put4 (b := rm) HNE.out.2.1.1 (Nat.le_trans HW0.out HNE.out.1.1) (.string ml) (.string mp) (.int .i64 mca) (.int .i64 mcn))
 have B5 := hide (B4.out.put4 (b := rm) (.inr HNE.out.1.1) (.string ml) (.string mp) (.int .i64 mca) (.int .i64 mcn))
 have RS5 := hide (X1.out.keep RS4.out (by rintro rfl; have h1 := RM4.out; rw [RS4.out] at h1; cases h1))
 have MT5 := hide (X1.out.keep MT4.out (fun e => HNE.out.2.2.1 e.symm))
 have SE5 := hide (X1.out.keep SE4.out (by rintro rfl; have h1 := RM4.out; rw [SE4.out] at h1; cases h1))
 have RA5 := hide (row_but RA4.out X1.out (fun g hg e => own_ne RA4.out RM4.out (by decide) g hg e))
 have RD5 := hide (row_but RD4.out X1.out (fun g hg e => own_ne RD4.out RM4.out (by decide) g hg e))
 have RP5 := hide (row_but RP4.out X1.out (fun g hg e => own_ne RP4.out RM4.out (by decide) g hg e))
 clear X1 P4 B4 RM4 RS4 MT4 SE4 RA4 RD4 RP4 c0 c1 c2 c3 e0 e1 e2 e3
 refine hK.out _ _ ⟨(four_cells MT5.out).1, (seven_cells SE5.out).1⟩ (fun hHeld => ?_)
 clear hK K
 try simp only [Act.put, g1, g2, g3, g4, g5, g6]
 obtain ⟨w5, hw5⟩ : ∃ x, (((w4.setCell ⟨rm, 0, none⟩ (.string ml)).setCell ⟨rm, 1, none⟩ (.string mp)).setCell ⟨rm, 2, none⟩ (.int .i64 mca)).setCell ⟨rm, 3, none⟩ (.int .i64 mcn) = x := ⟨_, rfl⟩
 have hw6 : set4 w4 rm (.string ml) (.string mp) (.int .i64 mca) (.int .i64 mcn) = w5 := hw5
 rw [hw5]
 rw [hw6] at RM5 P5 B5 RS5 MT5 SE5 RA5 RD5 RP5
 clear hw5 hw6
 refine rdy 3 (by kernel_rfl) rfl fun K hK => ?_
 obtain ⟨⟨c0, c1, c2, c3, c4, c5, c6⟩, e0, e1, e2, e3, e4, e5, e6⟩ := seven_cells RS5.out
 go_simp
 have X1 := hide ((((((((But.refl (fun k => k = rs) w5).setCell (p := ⟨rs, 0, none⟩) (.inl rfl) (.int .i64 sp)).setCell (p := ⟨rs, 1, none⟩) (.inl rfl) (.int .i64 sm)).setCell (p := ⟨rs, 2, none⟩) (.inl rfl) (.int .i64 so)).setCell (p := ⟨rs, 3, none⟩) (.inl rfl) (.slice ao an ac)).setCell (p := ⟨rs, 4, none⟩) (.inl rfl) (.slice bo bn bc)).setCell (p := ⟨rs, 5, none⟩) (.inl rfl) (.bool scl)).setCell (p := ⟨rs, 6, none⟩) (.inl rfl) (.slice co cn cc))
 have RS6 := hide (heap_setCell_same _ rs 6 _ 79 (.slice co cn cc) (heap_setCell_same _ rs 5 _ 79 (.bool scl) (heap_setCell_same _ rs 4 _ 79 (.slice bo bn bc) (heap_setCell_same _ rs 3 _ 79 (.slice ao an ac) (heap_setCell_same _ rs 2 _ 79 (.int .i64 so) (heap_setCell_same _ rs 1 _ 79 (.int .i64 sm) (heap_setCell_same _ rs 0 _ 79 (.int .i64 sp) RS5.out)))))))
 have P6 := hide (P5.out.of X1.out (fun e => HNE.out.2.1.2.1 e.symm) (fun k e => by rw [show k = rs from e]; exact Nat.le_trans HW0.out HNE.out.1.2.1))
 have B6 := hide (B5.out.thens X1.out (fun i hi e => by have h1 := HNE.out.1.2.1; have h2 : i = rs := e; omega))
 have RM6 := hide (X1.out.keep RM5.out (by rintro rfl; have h1 := RM5.out; rw [RS5.out] at h1; cases h1))
 have MT6 := hide (X1.out.keep MT5.out (by rintro rfl; have h1 := MT5.out; rw [RS5.out] at h1; cases h1))
 have SE6 := hide (X1.out.keep SE5.out (fun e => HNE.out.2.2.2.1 e.symm))
 have RA6 := hide (row_but RA5.out X1.out (fun g hg e => own_ne RA5.out RS5.out (by decide) g hg e))
 have RD6 := hide (row_but RD5.out X1.out (fun g hg e => own_ne RD5.out RS5.out (by decide) g hg e))
 have RP6 := hide (row_but RP5.out X1.out (fun g hg e => own_ne RP5.out RS5.out (by decide) g hg e))
 clear X1 P5 B5 RM5 RS5 MT5 SE5 RA5 RD5 RP5 c0 c1 c2 c3 c4 c5 c6 e0 e1 e2 e3 e4 e5 e6
 refine hK.out _ _ ⟨(four_cells MT6.out).1, (seven_cells SE6.out).1⟩ (fun hHeld => ?_)
 clear hK K
 try simp only [Act.put, g1, g2, g3, g4, g5, g6]
 refine wpAnyH_done (by kernel_rfl) ?_ _
 clear hHeld
 go_wp2_with fail
 refine bodyPost_ret (v := .tuple #[.agg #[.string ml, .string mp, .int .i64 mca, .int .i64 mcn], .agg #[.int .i64 sp, .int .i64 sm, .int .i64 so, .slice ao an ac, .slice bo bn bc, .bool scl, .slice co cn cc]]) ?_ rfl ⟨⟨ml, mp, mca, mcn⟩, ⟨sp, sm, so, sa, sd, scl, spr⟩, _, _, _, rfl, RA6.out, RD6.out, RP6.out, B6.out, P6.out, fun a ha => by rw [← HV.out a ha]; exact ⟨rfl, rfl⟩⟩
 obtain ⟨⟨c0, c1, c2, c3⟩, _⟩ := four_cells RM6.out
 obtain ⟨⟨d0, d1, d2, d3, d4, d5, d6⟩, _⟩ := seven_cells RS6.out
 simp [results, Tryz.results68, go_sem, c0, c1, c2, c3, d0, d1, d2, d3, d4, d5, d6]
end Go.Proofs.YtnadhplhnfpeaaaGreatDoor
