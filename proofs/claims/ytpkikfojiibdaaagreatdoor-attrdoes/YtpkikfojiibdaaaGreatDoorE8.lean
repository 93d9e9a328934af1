import Derived.Test.YtpkikfojiibdaaaGreatDoorE7
import Derived.Test.YtpkikfojiibdaaaGreatDoorM3
import Derived.Test.YtpkikfojiibdaaaGreatDoorH1
import Derived.Test.YtpkikfojiibdaaaGreatDoorCY1
import Derived.Test.YtpkikfojiibdaaaGreatDoorCB4
import Derived.Laws.Rows
import Derived.Deep.CutBlock
/- The document's Do. -/
namespace Go.Proofs.YtpkikfojiibdaaaGreatDoor
open Go.RowKit

theorem boxes3 (w : World) (x y z : Array Value) (t u v : TypeId) : (((w.alloc (.cells x t)).alloc (.cells y u)).alloc (.cells z v)).heap[w.heap.size]? = some (.cells x t (0, 0)) ∧ (((w.alloc (.cells x t)).alloc (.cells y u)).alloc (.cells z v)).heap[w.heap.size + 1]? = some (.cells y u (0, 0)) ∧ (((w.alloc (.cells x t)).alloc (.cells y u)).alloc (.cells z v)).heap[w.heap.size + 1 + 1]? = some (.cells z v (0, 0)) ∧ Below w.heap.size w (((w.alloc (.cells x t)).alloc (.cells y u)).alloc (.cells z v)) := by
  obtain ⟨h1, h2, h3⟩ := boxes2 w x y t u
  have h4 := heap_new ((w.alloc (.cells x t)).alloc (.cells y u)) z v
  have hb := balloc (brefl ((w.alloc (.cells x t)).alloc (.cells y u))) (.cells z v)
  rw [show ((w.alloc (.cells x t)).alloc (.cells y u)).heap.size = w.heap.size + 1 + 1 by simp] at h4
  exact ⟨(hb.block _ (heap_lt h1)).trans h1, (hb.block _ (heap_lt h2)).trans h2, h4, balloc h3 _⟩

/-- The three boxes of the document's Do. -/
def Bx7 (w wx : World) (p q g : Nat) (SAq : Array Value) (v0 v1 v2 v3 v4 v5 v6 : Value) : Prop := Below w.heap.size w wx ∧ wx.heap[p]? = some (.cells #[v0, v1, v2, v3, v4, v5, v6] 25 (0, 0)) ∧ wx.heap[q]? = some (.cells SAq 27 (0, 0)) ∧ wx.heap[g]? = some (.cells #[.int .i64 0, .int .i64 0, .int .i64 0, .slice none 0 0, .slice none 0 0, .int .i64 0, .slice none 0 0] 25 (0, 0))
/-- What the document's Do hands back. -/
def RefDoGood (w : World) (a : At) (s : St) (e : Ending) (w' : World) : Prop :=
  ∃ (r : At) (q : Int) (po co ko : Option Addr) (cp cc ck : Nat), e = .returned (.tuple #[.agg #[.int .i64 r.pf, .int .i64 r.md, .int .i64 r.og, .slice po r.path.length cp, .slice co r.comms.length cc, .int .i64 r.fr, .slice ko r.cl.length ck], .int .i64 q]) ∧ At.DoTo a s r q ∧ At.lies w' r po co ko ∧ Below w.heap.size w w'
theorem zero_good {w w' : World} {a : At} {s : St} {q : Int} (h : At.DoTo a s At.zero q) (hb : Below w.heap.size w w') : RefDoGood w a s (.returned (.tuple #[.agg #[.int .i64 0, .int .i64 0, .int .i64 0, .slice none 0 0, .slice none 0 0, .int .i64 0, .slice none 0 0], .int .i64 q])) w' :=
  ⟨At.zero, q, none, none, none, 0, 0, 0, rfl, h, ⟨.inl rfl, .inl rfl, .inl rfl⟩, hb⟩
theorem refKeepC (bo dl : Option Addr) (bc cd : Nat) (l m x : List Cm.Co.C) (hx : x = l.filter fun c => Cm.Co.inL m c == false) (w : World) (hA : Cm.Co.slot w bo l) (hl : l.length ≤ 200) (hm : m.length ≤ 100) : ∀ W', Below w.heap.size w W' → Cm.Co.slot W' dl m → Calls Tryz.prog 26 #[.slice bo l.length bc, .slice dl m.length cd, .bool false] W' (Cm.KeepGood W' x) :=
  fun W' hb hM => Cm.refKeep_is bo dl bc cd l m x false hx W' (Cm.Co.slot_below hA hb) hM hl (by omega)
/-- What the document's Add hands back. -/
def AddTo (w : World) (l m : List Cm.Co.C) (B : Nat) (e : Ending) (w' : World) : Prop :=
  ∃ (y : List Cm.Co.C) (ov : Option Addr) (nv cv : Nat) (q2 : Int), e = .returned (.tuple #[.slice ov nv cv, .int .i64 q2]) ∧ Cm.Co.uni l m y ∧ ((y.length ≤ 8 ∧ nv = y.length ∧ q2 = 0 ∧ Cm.Co.slot w' ov y ∧ ∀ ad, ov = some ad → B ≤ ad.block) ∨ (8 < y.length ∧ q2 = 2)) ∧ Below w.heap.size w w'
theorem refAddC {o : Option Addr} {c B : Nat} {l m : List Cm.Co.C} {w : World} (hown : w.ownsRow B 53 2 (.slice o l.length c) l.length (Cm.Co.cells l)) (hB : B ≤ w.heap.size) (ao : Option Addr) (ca : Nat) (hM : Cm.Co.slot w ao m) (hs : Cm.Co.set l = true) (hm : (m.any fun x => !Cm.Co.may x) = false) (hl : m.length ≤ 100) : Calls Tryz.prog 25 #[.slice o l.length c, .slice ao m.length ca] w (AddTo w l m B) := by
  refine (Cm.refAdd_good o ao c ca l m w (Cm.Co.sl_own hown) hM hs hm (by omega)).mono ?_
  rintro e w' ⟨y, o5, n5, hu, hsl, hbk, hb, h⟩
  rcases h with ⟨h8, rfl⟩ | ⟨h8, rfl⟩
  · refine ⟨y, o5, y.length, n5, 0, rfl, hu, .inl ⟨h8, rfl, rfl, hsl, fun ad e => ?_⟩, hb⟩
    rcases hbk with rfl | hbk
    · exact Cm.own_blk hown ad e
    · exact Nat.le_trans hB (hbk ad e)
  · exact ⟨y, none, 0, 0, 2, rfl, hu, .inr ⟨h8, rfl⟩, hb⟩
set_option maxHeartbeats 8000000 in
set_option maxRecDepth 100000 in
theorem refDo_is (a : At) (po co ko : Option Addr) (cp cc ck : Nat) (s : St) (ao dl pr : Option Addr) (ca cd cr : Nat) (w : World) (hA : At.lies w a po co ko) (hCA : At.came a po co ko cp cc ck) (h1 : a.path.length ≤ 100) (h2 : a.comms.length ≤ 100) (h3 : a.cl.length ≤ 100) (hS : St.lies w s ao dl pr) (hCS : Cm.Co.came ao ca ∧ Cm.Co.came dl cd ∧ Cm.Co.came pr cr) (k1 : s.add.length ≤ 100) (k2 : s.del.length ≤ 100) (k3 : s.pre.length ≤ 100) :
    Calls Tryz.prog 10 #[.agg #[.int .i64 a.pf, .int .i64 a.md, .int .i64 a.og, .slice po a.path.length cp, .slice co a.comms.length cc, .int .i64 a.fr, .slice ko a.cl.length ck], .agg #[.int .i64 s.pf, .int .i64 s.md, .int .i64 s.og, .slice ao s.add.length ca, .slice dl s.del.length cd, .bool s.clr, .slice pr s.pre.length cr]] w (RefDoGood w a s) := by
  obtain ⟨n1, n2, n3, hbb⟩ := boxes3 w #[.int .i64 a.pf, .int .i64 a.md, .int .i64 a.og, .slice po a.path.length cp, .slice co a.comms.length cc, .int .i64 a.fr, .slice ko a.cl.length ck] #[.int .i64 s.pf, .int .i64 s.md, .int .i64 s.og, .slice ao s.add.length ca, .slice dl s.del.length cd, .bool s.clr, .slice pr s.pre.length cr] #[.int .i64 0, .int .i64 0, .int .i64 0, .slice none 0 0, .slice none 0 0, .int .i64 0, .slice none 0 0] 25 27 25
  have N1 := hide n1
  have N2 := hide n2
  have N3 := hide n3
  have HB := hide hbb
  clear n1 n2 n3 hbb
  have LA := hide hA
  have LS := hide hS
  have HCA := hide hCA
  have HCS := hide hCS
  obtain ⟨ma, hma⟩ : ∃ x, At.may a = x := ⟨_, rfl⟩
  obtain ⟨ms, hms⟩ : ∃ x, St.ok s = x := ⟨_, rfl⟩
  have CM := hide (fun W' (hb : Below w.heap.size w W') => refMayA_is a po co ko cp cc ck ma hma W' (At.lies_below LA.out hb) h1 h2 h3)
  have CG := hide (fun W' (hb : Below w.heap.size w W') => refChange_is s ao dl pr ca cd cr ms hms W' (St.lies_below LS.out hb) k1 k2 k3)
  have HMA := hide hma
  have HMS := hide hms
  clear hma hms hA hS hCA hCS
  go_enter Tryz.func10, Tryz.ntmps10
  go_wp2_with fail
  generalize ((w.alloc (.cells #[.int .i64 a.pf, .int .i64 a.md, .int .i64 a.og, .slice po a.path.length cp, .slice co a.comms.length cc, .int .i64 a.fr, .slice ko a.cl.length ck] 25)).alloc (.cells #[.int .i64 s.pf, .int .i64 s.md, .int .i64 s.og, .slice ao s.add.length ca, .slice dl s.del.length cd, .bool s.clr, .slice pr s.pre.length cr] 27)).alloc (.cells #[.int .i64 0, .int .i64 0, .int .i64 0, .slice none 0 0, .slice none 0 0, .int .i64 0, .slice none 0 0] 25) = W at *
  obtain ⟨p, hp⟩ : ∃ p, w.heap.size = p := ⟨_, rfl⟩
  rw [hp] at N1 N2 N3
  have HPW : Hid (w.heap.size ≤ p) := Nat.le_of_eq hp
  rw [hp]
  clear hp
  obtain ⟨q, hq⟩ : ∃ q, p + 1 = q := ⟨_, rfl⟩
  rw [hq] at N2 N3
  rw [hq]
  obtain ⟨g, hg⟩ : ∃ g, q + 1 = g := ⟨_, rfl⟩
  rw [hg] at N3
  rw [hg]
  have HNE : Hid (q ≠ p ∧ g ≠ p ∧ g ≠ q) := ⟨by omega, by omega, by omega⟩
  have HGW : Hid (w.heap.size ≤ g) := Nat.le_trans HPW.out (by omega)
  have HPG : Hid (p < g) := by show p < g; omega
  clear hq hg
  refine (CM.out _ HB.out).mono ?_
  rintro e w1 ⟨rfl, hb1⟩
  have B1 := hide hb1
  clear hb1
  cases ma
  · obtain ⟨z0, z1, z2, z3, z4, z5, z6⟩ := seven_cells ((B1.out.block g (heap_lt N3.out)).trans N3.out)
    have f0 := frozen7 ((B1.out.block g (heap_lt N3.out)).trans N3.out) 0
    have f1 := frozen7 ((B1.out.block g (heap_lt N3.out)).trans N3.out) 1
    have f2 := frozen7 ((B1.out.block g (heap_lt N3.out)).trans N3.out) 2
    have f3 := frozen7 ((B1.out.block g (heap_lt N3.out)).trans N3.out) 3
    have f4 := frozen7 ((B1.out.block g (heap_lt N3.out)).trans N3.out) 4
    have f5 := frozen7 ((B1.out.block g (heap_lt N3.out)).trans N3.out) 5
    have f6 := frozen7 ((B1.out.block g (heap_lt N3.out)).trans N3.out) 6
    have NZ := hide ((B1.out.block g (heap_lt N3.out)).trans N3.out)
    have NE := hide (put7_same NZ.out (.int .i64 0) (.int .i64 0) (.int .i64 0) (.slice none 0 0) (.slice none 0 0) (.int .i64 0) (.slice none 0 0))
    have BE := hide (put7_below (bthen HB.out B1.out) HGW.out (.int .i64 0) (.int .i64 0) (.int .i64 0) (.slice none 0 0) (.slice none 0 0) (.int .i64 0) (.slice none 0 0))
    have HD : Hid (At.DoTo a s At.zero 1) := by show At.DoTo a s At.zero 1; unfold At.DoTo; rw [if_neg (fun h => by rw [HMA.out] at h; cases h.1)]; exact ⟨rfl, rfl⟩
    go_wp2_with fail
    change bodyPost _ _ _ _ _ (put7 w1 g (.int .i64 0) (.int .i64 0) (.int .i64 0) (.slice none 0 0) (.slice none 0 0) (.int .i64 0) (.slice none 0 0))
    generalize put7 w1 g (.int .i64 0) (.int .i64 0) (.int .i64 0) (.slice none 0 0) (.slice none 0 0) (.int .i64 0) (.slice none 0 0) = w9 at *
    obtain ⟨y0, y1, y2, y3, y4, y5, y6⟩ := seven_cells NE.out
    refine bodyPost_ret (v := .tuple #[.agg #[.int .i64 0, .int .i64 0, .int .i64 0, .slice none 0 0, .slice none 0 0, .int .i64 0, .slice none 0 0], .int .i64 1]) ?_ rfl (zero_good HD.out BE.out)
    simp [results, Tryz.results10, go_sem, y0, y1, y2, y3, y4, y5, y6]
  obtain ⟨d0, d1, d2, d3, d4, d5, d6⟩ := seven_cells ((B1.out.block q (heap_lt N2.out)).trans N2.out)
  go_wp2_with fail
  refine (CG.out _ (bthen HB.out B1.out)).mono ?_
  rintro e w2 ⟨rfl, hb2⟩
  have B2 := hide (bthen B1.out hb2)
  clear hb2 d0 d1 d2 d3 d4 d5 d6 B1
  cases ms
  · obtain ⟨z0, z1, z2, z3, z4, z5, z6⟩ := seven_cells ((B2.out.block g (heap_lt N3.out)).trans N3.out)
    have f0 := frozen7 ((B2.out.block g (heap_lt N3.out)).trans N3.out) 0
    have f1 := frozen7 ((B2.out.block g (heap_lt N3.out)).trans N3.out) 1
    have f2 := frozen7 ((B2.out.block g (heap_lt N3.out)).trans N3.out) 2
    have f3 := frozen7 ((B2.out.block g (heap_lt N3.out)).trans N3.out) 3
    have f4 := frozen7 ((B2.out.block g (heap_lt N3.out)).trans N3.out) 4
    have f5 := frozen7 ((B2.out.block g (heap_lt N3.out)).trans N3.out) 5
    have f6 := frozen7 ((B2.out.block g (heap_lt N3.out)).trans N3.out) 6
    have NZ := hide ((B2.out.block g (heap_lt N3.out)).trans N3.out)
    have NE := hide (put7_same NZ.out (.int .i64 0) (.int .i64 0) (.int .i64 0) (.slice none 0 0) (.slice none 0 0) (.int .i64 0) (.slice none 0 0))
    have BE := hide (put7_below (bthen HB.out B2.out) HGW.out (.int .i64 0) (.int .i64 0) (.int .i64 0) (.slice none 0 0) (.slice none 0 0) (.int .i64 0) (.slice none 0 0))
    have HD : Hid (At.DoTo a s At.zero 1) := by show At.DoTo a s At.zero 1; unfold At.DoTo; rw [if_neg (fun h => by rw [HMS.out] at h; cases h.2)]; exact ⟨rfl, rfl⟩
    go_wp2_with fail
    change bodyPost _ _ _ _ _ (put7 w2 g (.int .i64 0) (.int .i64 0) (.int .i64 0) (.slice none 0 0) (.slice none 0 0) (.int .i64 0) (.slice none 0 0))
    generalize put7 w2 g (.int .i64 0) (.int .i64 0) (.int .i64 0) (.slice none 0 0) (.slice none 0 0) (.int .i64 0) (.slice none 0 0) = w9 at *
    obtain ⟨y0, y1, y2, y3, y4, y5, y6⟩ := seven_cells NE.out
    refine bodyPost_ret (v := .tuple #[.agg #[.int .i64 0, .int .i64 0, .int .i64 0, .slice none 0 0, .slice none 0 0, .int .i64 0, .slice none 0 0], .int .i64 1]) ?_ rfl (zero_good HD.out BE.out)
    simp [results, Tryz.results10, go_sem, y0, y1, y2, y3, y4, y5, y6]
  have HX : Hid (Bx7 w w2 p q g #[.int .i64 s.pf, .int .i64 s.md, .int .i64 s.og, .slice ao s.add.length ca, .slice dl s.del.length cd, .bool s.clr, .slice pr s.pre.length cr] (.int .i64 a.pf) (.int .i64 a.md) (.int .i64 a.og) (.slice po a.path.length cp) (.slice co a.comms.length cc) (.int .i64 a.fr) (.slice ko a.cl.length ck)) := ⟨bthen HB.out B2.out, (B2.out.block p (heap_lt N1.out)).trans N1.out, (B2.out.block q (heap_lt N2.out)).trans N2.out, (B2.out.block g (heap_lt N3.out)).trans N3.out⟩
  clear N1 N2 N3 B2 HB CM CG
  obtain ⟨e0, e1, e2, e3, e4, e5, e6⟩ := seven_cells HX.out.2.2.1
  go_upto_if 21 with fail
  go_cut [] from 10 (fun wx => Hid (Bx7 w wx p q g #[.int .i64 s.pf, .int .i64 s.md, .int .i64 s.og, .slice ao s.add.length ca, .slice dl s.del.length cd, .bool s.clr, .slice pr s.pre.length cr] (.int .i64 (At.told s.pf a.pf)) (.int .i64 a.md) (.int .i64 a.og) (.slice po a.path.length cp) (.slice co a.comms.length cc) (.int .i64 a.fr) (.slice ko a.cl.length ck)))
  case first =>
    obtain ⟨hb, hp, hq, hg⟩ := HX.out
    obtain ⟨d0, d1, d2, d3, d4, d5, d6⟩ := seven_cells hp
    have f0 := frozen7 hp 0
    have HB := hide hb
    have HP := hide hp
    have HQ := hide hq
    have HG := hide hg
    clear hb hp hq hg
    by_cases hs : s.pf = -1
    · have hs' : (s.pf != -1) = false := by simpa using hs
      have ht : At.told s.pf a.pf = a.pf := by unfold At.told; rw [if_pos hs]
      have HT := hide ht
      clear hs ht
      go_wp2_with fail
      go_meet
      exact ⟨HB.out, by rw [HT.out]; exact HP.out, HQ.out, HG.out⟩
    · have hs' : (s.pf != -1) = true := by simpa using hs
      have ht : At.told s.pf a.pf = s.pf := by unfold At.told; rw [if_neg hs]
      have HT := hide ht
      clear hs ht
      go_wp2_with fail
      go_meet
      refine ⟨HB.out.setCell (p := ⟨p, 0, none⟩) HPW.out _, ?_, (heap_setCell_other _ ⟨p, 0, none⟩ q _ HNE.out.1).trans HQ.out, (heap_setCell_other _ ⟨p, 0, none⟩ g _ HNE.out.2.1).trans HG.out⟩
      rw [HT.out, heap_setCell_same _ p 0 _ 25 _ HP.out]
      rfl
  case rest =>
  clear HX e0 e1 e2 e3 e4 e5 e6
  have HX := hcut
  clear hcut
  obtain ⟨e0, e1, e2, e3, e4, e5, e6⟩ := seven_cells HX.out.2.2.1
  go_upto_if 27 with fail
  go_cut [] from 10 (fun wx => Hid (Bx7 w wx p q g #[.int .i64 s.pf, .int .i64 s.md, .int .i64 s.og, .slice ao s.add.length ca, .slice dl s.del.length cd, .bool s.clr, .slice pr s.pre.length cr] (.int .i64 (At.told s.pf a.pf)) (.int .i64 (At.told s.md a.md)) (.int .i64 a.og) (.slice po a.path.length cp) (.slice co a.comms.length cc) (.int .i64 a.fr) (.slice ko a.cl.length ck)))
  case first =>
    obtain ⟨hb, hp, hq, hg⟩ := HX.out
    obtain ⟨d0, d1, d2, d3, d4, d5, d6⟩ := seven_cells hp
    have f0 := frozen7 hp 1
    have HB := hide hb
    have HP := hide hp
    have HQ := hide hq
    have HG := hide hg
    clear hb hp hq hg
    by_cases hs : s.md = -1
    · have hs' : (s.md != -1) = false := by simpa using hs
      have ht : At.told s.md a.md = a.md := by unfold At.told; rw [if_pos hs]
      have HT := hide ht
      clear hs ht
      go_wp2_with fail
      go_meet
      exact ⟨HB.out, by rw [HT.out]; exact HP.out, HQ.out, HG.out⟩
    · have hs' : (s.md != -1) = true := by simpa using hs
      have ht : At.told s.md a.md = s.md := by unfold At.told; rw [if_neg hs]
      have HT := hide ht
      clear hs ht
      go_wp2_with fail
      go_meet
      refine ⟨HB.out.setCell (p := ⟨p, 1, none⟩) HPW.out _, ?_, (heap_setCell_other _ ⟨p, 1, none⟩ q _ HNE.out.1).trans HQ.out, (heap_setCell_other _ ⟨p, 1, none⟩ g _ HNE.out.2.1).trans HG.out⟩
      rw [HT.out, heap_setCell_same _ p 1 _ 25 _ HP.out]
      rfl
  case rest =>
  clear HX e0 e1 e2 e3 e4 e5 e6
  have HX := hcut
  clear hcut
  obtain ⟨e0, e1, e2, e3, e4, e5, e6⟩ := seven_cells HX.out.2.2.1
  go_upto_if 33 with fail
  go_cut [] from 10 (fun wx => Hid (Bx7 w wx p q g #[.int .i64 s.pf, .int .i64 s.md, .int .i64 s.og, .slice ao s.add.length ca, .slice dl s.del.length cd, .bool s.clr, .slice pr s.pre.length cr] (.int .i64 (At.told s.pf a.pf)) (.int .i64 (At.told s.md a.md)) (.int .i64 (At.told s.og a.og)) (.slice po a.path.length cp) (.slice co a.comms.length cc) (.int .i64 a.fr) (.slice ko a.cl.length ck)))
  case first =>
    obtain ⟨hb, hp, hq, hg⟩ := HX.out
    obtain ⟨d0, d1, d2, d3, d4, d5, d6⟩ := seven_cells hp
    have f0 := frozen7 hp 2
    have HB := hide hb
    have HP := hide hp
    have HQ := hide hq
    have HG := hide hg
    clear hb hp hq hg
    by_cases hs : s.og = -1
    · have hs' : (s.og != -1) = false := by simpa using hs
      have ht : At.told s.og a.og = a.og := by unfold At.told; rw [if_pos hs]
      have HT := hide ht
      clear hs ht
      go_wp2_with fail
      go_meet
      exact ⟨HB.out, by rw [HT.out]; exact HP.out, HQ.out, HG.out⟩
    · have hs' : (s.og != -1) = true := by simpa using hs
      have ht : At.told s.og a.og = s.og := by unfold At.told; rw [if_neg hs]
      have HT := hide ht
      clear hs ht
      go_wp2_with fail
      go_meet
      refine ⟨HB.out.setCell (p := ⟨p, 2, none⟩) HPW.out _, ?_, (heap_setCell_other _ ⟨p, 2, none⟩ q _ HNE.out.1).trans HQ.out, (heap_setCell_other _ ⟨p, 2, none⟩ g _ HNE.out.2.1).trans HG.out⟩
      rw [HT.out, heap_setCell_same _ p 2 _ 25 _ HP.out]
      rfl
  case rest =>
  clear HX e0 e1 e2 e3 e4 e5 e6
  have HX := hcut
  clear hcut
  obtain ⟨e0, e1, e2, e3, e4, e5, e6⟩ := seven_cells HX.out.2.2.1
  obtain ⟨c38, hc38⟩ : ∃ b, s.clr = b := ⟨_, rfl⟩
  rw [hc38] at e5
  have HCL := hide hc38
  clear hc38
  go_upto_if 38 with fail
  go_cut [] from 10 (fun wx => Hid (∃ (bo : Option Addr) (bc : Nat), Bx7 w wx p q g #[.int .i64 s.pf, .int .i64 s.md, .int .i64 s.og, .slice ao s.add.length ca, .slice dl s.del.length cd, .bool s.clr, .slice pr s.pre.length cr] (.int .i64 (At.told s.pf a.pf)) (.int .i64 (At.told s.md a.md)) (.int .i64 (At.told s.og a.og)) (.slice po a.path.length cp) (.slice bo (if s.clr = true then [] else a.comms).length bc) (.int .i64 a.fr) (.slice ko a.cl.length ck) ∧ Cm.Co.slot wx bo (if s.clr = true then [] else a.comms)))
  case first =>
    obtain ⟨hb, hp, hq, hg⟩ := HX.out
    obtain ⟨d0, d1, d2, d3, d4, d5, d6⟩ := seven_cells hp
    have f0 := frozen7 hp 4
    have HB := hide hb
    have HP := hide hp
    have HQ := hide hq
    have HG := hide hg
    clear hb hp hq hg
    cases c38
    · go_wp2_with fail
      go_meet
      refine ⟨co, cc, ⟨HB.out, ?_, ?_, HG.out⟩, ?_⟩
      · rw [HCL.out]; simpa using HP.out
      · exact HQ.out
      · rw [HCL.out]; simpa using Cm.Co.slot_below LA.out.2.1 HB.out
    · go_wp2_with fail
      go_meet
      refine ⟨none, 0, ⟨HB.out.setCell (p := ⟨p, 4, none⟩) HPW.out _, ?_, (heap_setCell_other _ ⟨p, 4, none⟩ q _ HNE.out.1).trans HQ.out, (heap_setCell_other _ ⟨p, 4, none⟩ g _ HNE.out.2.1).trans HG.out⟩, .inl (by rw [HCL.out]; simp)⟩
      rw [heap_setCell_same _ p 4 _ 25 _ HP.out, HCL.out]
      simp
  case rest =>
  clear HX e0 e1 e2 e3 e4 e5 e6 HCL
  obtain ⟨bo, bc, hbx, hsl⟩ := hcut.out
  clear hcut
  obtain ⟨b0, hb0⟩ : ∃ l, (if s.clr = true then [] else a.comms) = l := ⟨_, rfl⟩
  rw [hb0] at hbx hsl
  have HL0 : Hid (At.left a s = b0.filter fun c => Cm.Co.inL s.del c == false) := by
    show _ = _
    unfold At.left
    rw [hb0]
    congr 1
    funext c
    cases Cm.Co.inL s.del c <;> rfl
  obtain ⟨_, pm, sm, km⟩ := may_parts HMA.out
  obtain ⟨_, _, _, am, _, pp⟩ := ok_parts HMS.out
  have HSET : Hid (Cm.Co.set (At.left a s) = true) := by
    refine set_of_rises ?_ (fun c hc => set_may sm c ((mem_left _ _ _).1 hc).1.2) ?_
    · have hr := rises_of_set sm
      unfold At.left
      refine List.Pairwise.filter _ ?_
      split
      · exact List.Pairwise.nil
      · exact hr
    · have h8 := ((Cm.Co.set_iff _).1 sm).1
      unfold At.left
      refine Nat.le_trans (List.length_filter_le _ _) ?_
      split
      · simp
      · exact h8
  have hb0l : b0.length ≤ 200 := by
    rw [← hb0]
    split
    · simp
    · omega
  have HANY := hide (any_yes am)
  have HPM := hide pm
  clear am pp pm sm km hb0
  have HX := hide hbx
  have SL := hide hsl
  clear hbx hsl
  obtain ⟨wS, hwS⟩ : ∃ x, x = wc := ⟨_, rfl⟩
  subst hwS
  have CK := hide (refKeepC bo dl bc cd b0 s.del (At.left a s) HL0.out wS SL.out hb0l k2)
  have SH : Hid (∀ W', Below wS.heap.size wS W' → (fun w' => w'.cell? ⟨p, 4, none⟩ = some (.slice bo b0.length bc) ∧ w'.cell? ⟨q, 4, none⟩ = some (.slice dl s.del.length cd) ∧ w'.cell? ⟨q, 3, none⟩ = some (.slice ao s.add.length ca)) W') := fun W' hb => by
    obtain ⟨c0, c1, c2, c3, c4, c5, c6⟩ := seven_cells ((hb.block p (heap_lt HX.out.2.1)).trans HX.out.2.1)
    obtain ⟨e0, e1, e2, e3, e4, e5, e6⟩ := seven_cells ((hb.block q (heap_lt HX.out.2.2.1)).trans HX.out.2.2.1)
    exact ⟨c4, e4, e3⟩
  have B0 : Hid (Below wS.heap.size wS wS.drew) := (brefl wS).drew
  have BWS := hide HX.out.1
  go_wp2_with fail
  refine wp_region_held_drew (S := fun w' => w'.cell? ⟨p, 4, none⟩ = some (.slice bo b0.length bc) ∧ w'.cell? ⟨q, 4, none⟩ = some (.slice dl s.del.length cd) ∧ w'.cell? ⟨q, 3, none⟩ = some (.slice ao s.add.length ca)) (by kernel_rfl) (SH.out _ B0.out) (fun hHeld => ?_)
  refine wpAnyH_take (i := 0) (v := .pointer (some ⟨p, 4, none⟩)) rfl (by kernel_rfl) (by kernel_rfl) (by kernel_rfl) (fun _ _ _ h => h) (Or.inl ⟨by rfl, fun w hSw => by dsimp only at hSw; go_simp⟩) hHeld ?_
  simp only [Act.put, List.getElem_toArray, List.getElem_cons_zero, List.setIfInBounds_toArray, List.set_cons_zero, List.set_cons_succ]
  refine wpAnyH_take (i := 1) (v := .slice bo b0.length bc) rfl (by kernel_rfl) (by kernel_rfl) (by kernel_rfl) (fun _ _ _ h => h) (Or.inl ⟨by rfl, fun w hSw => by dsimp only at hSw; go_simp⟩) hHeld ?_
  simp only [Act.put, List.getElem_toArray, List.getElem_cons_zero, List.getElem_cons_succ, List.setIfInBounds_toArray, List.set_cons_zero, List.set_cons_succ]
  refine wpAnyH_take (i := 2) (v := .pointer (some ⟨q, 4, none⟩)) rfl (by kernel_rfl) (by kernel_rfl) (by kernel_rfl) (fun _ _ _ h => h) (Or.inl ⟨by rfl, fun w hSw => by dsimp only at hSw; go_simp⟩) hHeld ?_
  simp only [Act.put, List.getElem_toArray, List.getElem_cons_zero, List.getElem_cons_succ, List.setIfInBounds_toArray, List.set_cons_zero, List.set_cons_succ]
  refine wpAnyH_take (i := 3) (v := .slice dl s.del.length cd) rfl (by kernel_rfl) (by kernel_rfl) (by kernel_rfl) (fun _ _ _ h => h) (Or.inl ⟨by rfl, fun w hSw => by dsimp only at hSw; go_simp⟩) hHeld ?_
  simp only [Act.put, List.getElem_toArray, List.getElem_cons_zero, List.getElem_cons_succ, List.setIfInBounds_toArray, List.set_cons_zero, List.set_cons_succ]
  refine wpAnyH_take (i := 5) (v := .pointer (some ⟨q, 3, none⟩)) rfl (by kernel_rfl) (by kernel_rfl) (by kernel_rfl) (fun _ _ _ h => h) (Or.inl ⟨by rfl, fun w hSw => by dsimp only at hSw; go_simp⟩) hHeld ?_
  simp only [Act.put, List.getElem_toArray, List.getElem_cons_zero, List.getElem_cons_succ, List.setIfInBounds_toArray, List.set_cons_zero, List.set_cons_succ]
  refine wpAnyH_take (i := 6) (v := .slice ao s.add.length ca) rfl (by kernel_rfl) (by kernel_rfl) (by kernel_rfl) (fun _ _ _ h => h) (Or.inl ⟨by rfl, fun w hSw => by dsimp only at hSw; go_simp⟩) hHeld ?_
  simp only [Act.put, List.getElem_toArray, List.getElem_cons_zero, List.getElem_cons_succ, List.setIfInBounds_toArray, List.set_cons_zero, List.set_cons_succ]
  refine wpAnyH_ready (rs := [4]) (by kernel_rfl) (by simp) ?_
  refine AllReadyH.cons rfl (fun K hK => ?_) AllReadyH.nil
  go_simp
  go_wp2_with (refine (CK.out _ B0.out (Cm.Co.slot_below LS.out.2.1 (bthen BWS.out B0.out))).mono ?_; rintro e w3 ⟨oK, cK, rfl, hown, hb⟩; have OWN := hide hown; have B3 := hide (bthen B0.out hb); have HSZ0 := hide hb.size; clear hb hown)
  refine hK.out _ _ (SH.out _ B3.out) (fun hHeld => ?_)
  clear hK K
  try simp only [Act.put, List.getElem_toArray, List.getElem_cons_zero, List.getElem_cons_succ, List.setIfInBounds_toArray, List.set_cons_zero, List.set_cons_succ]
  have CA := hide (refAddC OWN.out HSZ0.out ao ca (Cm.Co.slot_below LS.out.1 (bthen BWS.out B3.out)) HSET.out HANY.out k1)
  refine wpAnyH_ready (rs := [7]) (by kernel_rfl) (by simp) ?_
  refine AllReadyH.cons rfl (fun K hK => ?_) AllReadyH.nil
  go_simp
  go_wp2_with (refine CA.out.mono ?_; rintro e w4 ⟨y, ov, nv, cv, q2, rfl, hu, hcase, hb⟩; have HU := hide hu; have HCASE := hide hcase; have B4 := hide (bthen B3.out hb); clear hb hu hcase)
  refine hK.out _ _ (SH.out _ B4.out) (fun hHeld => ?_)
  clear hK K
  try simp only [Act.put, List.getElem_toArray, List.getElem_cons_zero, List.getElem_cons_succ, List.setIfInBounds_toArray, List.set_cons_zero, List.set_cons_succ]
  refine wpAnyH_take (i := 8) (v := .tuple #[.slice ov nv cv, .int .i64 q2]) rfl (by kernel_rfl) (by kernel_rfl) (by kernel_rfl) (fun _ _ _ h => h) (Or.inl ⟨by rfl, fun w hSw => by dsimp only at hSw; go_simp⟩) hHeld ?_
  simp only [Act.put, List.getElem_toArray, List.getElem_cons_zero, List.getElem_cons_succ, List.setIfInBounds_toArray, List.set_cons_zero, List.set_cons_succ]
  refine wpAnyH_take (i := 9) (v := .slice ov nv cv) rfl (by kernel_rfl) (by kernel_rfl) (by kernel_rfl) (fun _ _ _ h => h) (Or.inl ⟨by rfl, fun w hSw => by dsimp only at hSw; go_simp⟩) hHeld ?_
  simp only [Act.put, List.getElem_toArray, List.getElem_cons_zero, List.getElem_cons_succ, List.setIfInBounds_toArray, List.set_cons_zero, List.set_cons_succ]
  refine wpAnyH_take (i := 10) (v := .int .i64 q2) rfl (by kernel_rfl) (by kernel_rfl) (by kernel_rfl) (fun _ _ _ h => h) (Or.inl ⟨by rfl, fun w hSw => by dsimp only at hSw; go_simp⟩) hHeld ?_
  simp only [Act.put, List.getElem_toArray, List.getElem_cons_zero, List.getElem_cons_succ, List.setIfInBounds_toArray, List.set_cons_zero, List.set_cons_succ]
  refine wpAnyH_take (i := 11) (v := .slice ov nv cv) rfl (by kernel_rfl) (by kernel_rfl) (by kernel_rfl) (fun _ _ _ h => h) (Or.inl ⟨by rfl, fun w hSw => by dsimp only at hSw; go_simp⟩) hHeld ?_
  simp only [Act.put, List.getElem_toArray, List.getElem_cons_zero, List.getElem_cons_succ, List.setIfInBounds_toArray, List.set_cons_zero, List.set_cons_succ]
  refine wpAnyH_take (i := 12) (v := .int .i64 q2) rfl (by kernel_rfl) (by kernel_rfl) (by kernel_rfl) (fun _ _ _ h => h) (Or.inl ⟨by rfl, fun w hSw => by dsimp only at hSw; go_simp⟩) hHeld ?_
  simp only [Act.put, List.getElem_toArray, List.getElem_cons_zero, List.getElem_cons_succ, List.setIfInBounds_toArray, List.set_cons_zero, List.set_cons_succ]
  have B4' := B4
  refine wpAnyH_done (by kernel_rfl) ?_ _
  clear hHeld SH CK B0 B3 B4 CA SL
  have HX4 : Hid (Bx7 w w4 p q g #[.int .i64 s.pf, .int .i64 s.md, .int .i64 s.og, .slice ao s.add.length ca, .slice dl s.del.length cd, .bool s.clr, .slice pr s.pre.length cr] (.int .i64 (At.told s.pf a.pf)) (.int .i64 (At.told s.md a.md)) (.int .i64 (At.told s.og a.og)) (.slice po a.path.length cp) (.slice bo b0.length bc) (.int .i64 a.fr) (.slice ko a.cl.length ck)) := ⟨bthen BWS.out B4'.out, (B4'.out.block p (heap_lt HX.out.2.1)).trans HX.out.2.1, (B4'.out.block q (heap_lt HX.out.2.2.1)).trans HX.out.2.2.1, (B4'.out.block g (heap_lt HX.out.2.2.2)).trans HX.out.2.2.2⟩
  have HGS : Hid (g < wS.heap.size) := heap_lt HX.out.2.2.2
  clear HX B4' HSET HANY HL0
  have HX5 : Hid (Bx7 w (w4.setCell ⟨p, 4, none⟩ (.slice ov nv cv)) p q g #[.int .i64 s.pf, .int .i64 s.md, .int .i64 s.og, .slice ao s.add.length ca, .slice dl s.del.length cd, .bool s.clr, .slice pr s.pre.length cr] (.int .i64 (At.told s.pf a.pf)) (.int .i64 (At.told s.md a.md)) (.int .i64 (At.told s.og a.og)) (.slice po a.path.length cp) (.slice ov nv cv) (.int .i64 a.fr) (.slice ko a.cl.length ck)) := ⟨HX4.out.1.setCell (p := ⟨p, 4, none⟩) HPW.out _, (heap_setCell_same _ p 4 _ 25 (.slice ov nv cv) HX4.out.2.1).trans (by simp), (heap_setCell_other _ ⟨p, 4, none⟩ q _ HNE.out.1).trans HX4.out.2.2.1, (heap_setCell_other _ ⟨p, 4, none⟩ g _ HNE.out.2.1).trans HX4.out.2.2.2⟩
  obtain ⟨d0, d1, d2, d3, d4, d5, d6⟩ := seven_cells HX4.out.2.1
  obtain ⟨e0, e1, e2, e3, e4, e5, e6⟩ := seven_cells HX5.out.2.2.1
  have f4 := frozen7 HX4.out.2.1 4
  have SP5 := hide (Is.slot_below LS.out.2.2 HX5.out.1)
  have HSP : Hid (Cm.Co.uni (At.left a s) s.add y) := HU.out
  have HYK : Hid ((y.length ≤ 8 ∧ nv = y.length ∧ q2 = 0 ∧ Cm.Co.slot (w4.setCell ⟨p, 4, none⟩ (.slice ov nv cv)) ov y ∧ ∀ ad, ov = some ad → wS.heap.size ≤ ad.block) ∨ (8 < y.length ∧ q2 = 2)) := by
    rcases HCASE.out with ⟨h1, h2, h3, h4, h5⟩ | h
    · refine .inl ⟨h1, h2, h3, ?_, h5⟩
      rcases h4 with h4 | ⟨b, off, rfl, hr⟩
      · exact .inl h4
      · refine .inr ⟨b, off, rfl, fun j u hu => (cellB (heap_setCell_other _ ⟨p, 4, none⟩ b _ (fun e => ?_)) _).trans (hr j u hu)⟩
        have h6 : wS.heap.size ≤ b := h5 _ rfl
        have h7 : b = p := e
        have := HGS.out
        have := HPG.out
        omega
    · exact .inr h
  clear HCASE HU
  go_upto_region 14 with fail
  generalize w4.setCell ⟨p, 4, none⟩ (.slice ov nv cv) = w5 at *
  clear d0 d1 d2 d3 d4 d5 d6 f4 HX4
  go_wp2_with (at_builtin; go_must (refine append_ints (w0 := w5) rfl _ _ rfl _ 0 [] rfl (World.ownsRow_nil _ _ _ _) pr s.pre.length cr s.pre rfl rfl SP5.out HCS.out.2.2 (by omega) (brefl _) ?_))
  intro v' w6 hown hb6
  obtain ⟨oP, cP, rfl⟩ := row_slice hown
  have OWN6 := hide hown
  have B6 := hide hb6
  clear hown hb6 e0 e1 e2 e3 e4 e5 e6 SP5
  have HX6 : Hid (Bx7 w w6 p q g #[.int .i64 s.pf, .int .i64 s.md, .int .i64 s.og, .slice ao s.add.length ca, .slice dl s.del.length cd, .bool s.clr, .slice pr s.pre.length cr] (.int .i64 (At.told s.pf a.pf)) (.int .i64 (At.told s.md a.md)) (.int .i64 (At.told s.og a.og)) (.slice po a.path.length cp) (.slice ov nv cv) (.int .i64 a.fr) (.slice ko a.cl.length ck)) := ⟨bthen HX5.out.1 B6.out, (B6.out.block p (heap_lt HX5.out.2.1)).trans HX5.out.2.1, (B6.out.block q (heap_lt HX5.out.2.2.1)).trans HX5.out.2.2.1, (B6.out.block g (heap_lt HX5.out.2.2.2)).trans HX5.out.2.2.2⟩
  obtain ⟨d0, d1, d2, d3, d4, d5, d6⟩ := seven_cells HX6.out.2.1
  have SP6 := hide (Is.slot_below LA.out.1 HX6.out.1)
  go_wp2_with (at_builtin; go_must (refine append_ints (w0 := w5) rfl _ _ rfl _ s.pre.length s.pre rfl OWN6.out po a.path.length cp a.path rfl rfl SP6.out HCA.out.1 (by omega) B6.out ?_))
  intro v'' w7 hown hb7
  obtain ⟨oQ, cQ, rfl⟩ := row_slice hown
  have HX7 : Hid (Bx7 w w7 p q g #[.int .i64 s.pf, .int .i64 s.md, .int .i64 s.og, .slice ao s.add.length ca, .slice dl s.del.length cd, .bool s.clr, .slice pr s.pre.length cr] (.int .i64 (At.told s.pf a.pf)) (.int .i64 (At.told s.md a.md)) (.int .i64 (At.told s.og a.og)) (.slice po a.path.length cp) (.slice ov nv cv) (.int .i64 a.fr) (.slice ko a.cl.length ck)) := ⟨bthen HX5.out.1 hb7, (hb7.block p (heap_lt HX5.out.2.1)).trans HX5.out.2.1, (hb7.block q (heap_lt HX5.out.2.2.1)).trans HX5.out.2.2.1, (hb7.block g (heap_lt HX5.out.2.2.2)).trans HX5.out.2.2.2⟩
  have HYK7 : Hid ((y.length ≤ 8 ∧ nv = y.length ∧ q2 = 0 ∧ Cm.Co.slot w7 ov y ∧ ∀ ad, ov = some ad → wS.heap.size ≤ ad.block) ∨ (8 < y.length ∧ q2 = 2)) := by
    rcases HYK.out with ⟨h1, h2, h3, h4, h5⟩ | h
    · exact .inl ⟨h1, h2, h3, Cm.Co.slot_below h4 hb7, h5⟩
    · exact .inr h
  have OWN7 := hide hown
  have HG5 : Hid (g < w5.heap.size ∧ p < w5.heap.size) := ⟨heap_lt HX5.out.2.2.2, heap_lt HX5.out.2.1⟩
  clear hown hb7 d0 d1 d2 d3 d4 d5 d6 SP6 HX6 HX5 OWN6 B6 HYK
  obtain ⟨N, hN⟩ : ∃ N, s.pre.length + a.path.length = N := ⟨_, rfl⟩
  rw [hN] at OWN7
  rw [hN]
  have HN := hide hN
  have hNl : N ≤ 200 := by omega
  clear hN
  obtain ⟨d0, d1, d2, d3, d4, d5, d6⟩ := seven_cells HX7.out.2.1
  have f3 := frozen7 HX7.out.2.1 3
  have HX8 : Hid (Bx7 w (w7.setCell ⟨p, 3, none⟩ (.slice oQ N cQ)) p q g #[.int .i64 s.pf, .int .i64 s.md, .int .i64 s.og, .slice ao s.add.length ca, .slice dl s.del.length cd, .bool s.clr, .slice pr s.pre.length cr] (.int .i64 (At.told s.pf a.pf)) (.int .i64 (At.told s.md a.md)) (.int .i64 (At.told s.og a.og)) (.slice oQ N cQ) (.slice ov nv cv) (.int .i64 a.fr) (.slice ko a.cl.length ck)) := ⟨HX7.out.1.setCell (p := ⟨p, 3, none⟩) HPW.out _, (heap_setCell_same _ p 3 _ 25 (.slice oQ N cQ) HX7.out.2.1).trans (by simp), (heap_setCell_other _ ⟨p, 3, none⟩ q _ HNE.out.1).trans HX7.out.2.2.1, (heap_setCell_other _ ⟨p, 3, none⟩ g _ HNE.out.2.1).trans HX7.out.2.2.2⟩
  have HBQ : Hid (∀ ad, oQ = some ad → w5.heap.size ≤ ad.block) := fun ad e => by
    rcases OWN7.out.2 with ⟨hv, _⟩ | ⟨gq, cap, cur, hv, hB, _⟩
    · simp only [Value.slice.injEq] at hv
      rw [hv.1] at e
      cases e
    · simp only [Value.slice.injEq] at hv
      rw [hv.1] at e
      cases e
      exact hB
  have SQ8 : Hid (Is.slot (w7.setCell ⟨p, 3, none⟩ (.slice oQ N cQ)) oQ (s.pre ++ a.path)) := is_far (Is.slot_own OWN7.out) (g := p) (fun ad e h => by have := HBQ.out ad e; have := HG5.out; omega) (fun b hb => heap_setCell_other _ ⟨p, 3, none⟩ b _ hb)
  have HYK8 : Hid ((y.length ≤ 8 ∧ nv = y.length ∧ q2 = 0 ∧ Cm.Co.slot (w7.setCell ⟨p, 3, none⟩ (.slice oQ N cQ)) ov y ∧ ∀ ad, ov = some ad → wS.heap.size ≤ ad.block) ∨ (8 < y.length ∧ q2 = 2)) := by
    rcases HYK7.out with ⟨h1, h2, h3, h4, h5⟩ | h
    · exact .inl ⟨h1, h2, h3, co_far h4 (g := p) (fun ad e h => by have := h5 ad e; have := HGS.out; have := HPG.out; omega) (fun b hb => heap_setCell_other _ ⟨p, 3, none⟩ b _ hb), h5⟩
    · exact .inr h
  go_upto_region 17 with fail
  generalize w7.setCell ⟨p, 3, none⟩ (.slice oQ N cQ) = w8 at *
  clear d0 d1 d2 d3 d4 d5 d6 f3 HX7 HYK7 OWN7
  obtain ⟨z0, z1, z2, z3, z4, z5, z6⟩ := seven_cells HX8.out.2.2.2
  obtain ⟨c0, c1, c2, c3, c4, c5, c6⟩ := seven_cells HX8.out.2.1
  have g0 := frozen7 HX8.out.2.2.2 0
  have g1 := frozen7 HX8.out.2.2.2 1
  have g2 := frozen7 HX8.out.2.2.2 2
  have g3 := frozen7 HX8.out.2.2.2 3
  have g4 := frozen7 HX8.out.2.2.2 4
  have g5 := frozen7 HX8.out.2.2.2 5
  have g6 := frozen7 HX8.out.2.2.2 6
  have NEz := hide (put7_same HX8.out.2.2.2 (.int .i64 0) (.int .i64 0) (.int .i64 0) (.slice none 0 0) (.slice none 0 0) (.int .i64 0) (.slice none 0 0))
  have BEz := hide (put7_below HX8.out.1 HGW.out (.int .i64 0) (.int .i64 0) (.int .i64 0) (.slice none 0 0) (.slice none 0 0) (.int .i64 0) (.slice none 0 0))
  rcases HYK8.out with ⟨h8, hnv, hq2, hsy, hby⟩ | ⟨h8, hq2⟩
  · subst hq2
    subst hnv
    have HSY := hide hsy
    have HBY := hide hby
    have H8 := hide h8
    clear hsy hby h8 HYK8
    by_cases h16 : 16 < N
    · have h16' : (16 : Int) < (N : Int) := by omega
      have HD : Hid (At.DoTo a s At.zero 2) := by
        show At.DoTo a s At.zero 2
        unfold At.DoTo
        rw [if_pos ⟨HMA.out, HMS.out⟩]
        exact ⟨y, HSP.out, .inl ⟨.inr (by rw [HN.out]; exact h16), rfl, rfl⟩⟩
      clear h16
      go_wp2_with fail
      change bodyPost _ _ _ _ _ (put7 w8 g (.int .i64 0) (.int .i64 0) (.int .i64 0) (.slice none 0 0) (.slice none 0 0) (.int .i64 0) (.slice none 0 0))
      generalize put7 w8 g (.int .i64 0) (.int .i64 0) (.int .i64 0) (.slice none 0 0) (.slice none 0 0) (.int .i64 0) (.slice none 0 0) = w9 at *
      obtain ⟨y0, y1, y2, y3, y4, y5, y6⟩ := seven_cells NEz.out
      refine bodyPost_ret (v := .tuple #[.agg #[.int .i64 0, .int .i64 0, .int .i64 0, .slice none 0 0, .slice none 0 0, .int .i64 0, .slice none 0 0], .int .i64 2]) ?_ rfl (zero_good HD.out BEz.out)
      simp [results, Tryz.results10, go_sem, y0, y1, y2, y3, y4, y5, y6]
    · have h16' : ¬ (16 : Int) < (N : Int) := by omega
      have HD : Hid (At.DoTo a s ⟨At.told s.pf a.pf, At.told s.md a.md, At.told s.og a.og, s.pre ++ a.path, y, a.fr, a.cl⟩ 0) := by
        show At.DoTo a s _ 0
        unfold At.DoTo
        rw [if_pos ⟨HMA.out, HMS.out⟩]
        exact ⟨y, HSP.out, .inr ⟨⟨H8.out, by rw [HN.out]; omega⟩, rfl, rfl⟩⟩
      have NE := hide (put7_same HX8.out.2.2.2 (.int .i64 (At.told s.pf a.pf)) (.int .i64 (At.told s.md a.md)) (.int .i64 (At.told s.og a.og)) (.slice oQ N cQ) (.slice ov y.length cv) (.int .i64 a.fr) (.slice ko a.cl.length ck))
      have BE := hide (put7_below HX8.out.1 HGW.out (.int .i64 (At.told s.pf a.pf)) (.int .i64 (At.told s.md a.md)) (.int .i64 (At.told s.og a.og)) (.slice oQ N cQ) (.slice ov y.length cv) (.int .i64 a.fr) (.slice ko a.cl.length ck))
      have L9 : Hid (At.lies (put7 w8 g (.int .i64 (At.told s.pf a.pf)) (.int .i64 (At.told s.md a.md)) (.int .i64 (At.told s.og a.og)) (.slice oQ N cQ) (.slice ov y.length cv) (.int .i64 a.fr) (.slice ko a.cl.length ck)) ⟨At.told s.pf a.pf, At.told s.md a.md, At.told s.og a.og, s.pre ++ a.path, y, a.fr, a.cl⟩ oQ ov ko) := ⟨is_far SQ8.out (g := g) (fun ad e h => by have := HBQ.out ad e; have := HG5.out; omega) (fun b hb => put7_other _ _ _ _ _ _ _ _ _ b hb), co_far HSY.out (g := g) (fun ad e h => by have := HBY.out ad e; have := HGS.out; omega) (fun b hb => put7_other _ _ _ _ _ _ _ _ _ b hb), Is.slot_below LA.out.2.2 BE.out⟩
      clear h16 NEz BEz
      go_wp2_with fail
      change bodyPost _ _ _ _ _ (put7 w8 g (.int .i64 (At.told s.pf a.pf)) (.int .i64 (At.told s.md a.md)) (.int .i64 (At.told s.og a.og)) (.slice oQ N cQ) (.slice ov y.length cv) (.int .i64 a.fr) (.slice ko a.cl.length ck))
      generalize put7 w8 g (.int .i64 (At.told s.pf a.pf)) (.int .i64 (At.told s.md a.md)) (.int .i64 (At.told s.og a.og)) (.slice oQ N cQ) (.slice ov y.length cv) (.int .i64 a.fr) (.slice ko a.cl.length ck) = w9 at *
      obtain ⟨y0, y1, y2, y3, y4, y5, y6⟩ := seven_cells NE.out
      refine bodyPost_ret (v := .tuple #[.agg #[.int .i64 (At.told s.pf a.pf), .int .i64 (At.told s.md a.md), .int .i64 (At.told s.og a.og), .slice oQ N cQ, .slice ov y.length cv, .int .i64 a.fr, .slice ko a.cl.length ck], .int .i64 0]) ?_ rfl ⟨_, 0, oQ, ov, ko, cQ, cv, ck, ?_, HD.out, L9.out, BE.out⟩
      · simp [results, Tryz.results10, go_sem, y0, y1, y2, y3, y4, y5, y6]
      · have e : (s.pre ++ a.path).length = N := by rw [List.length_append]; exact HN.out
        simp only [e]
  · subst hq2
    have HD : Hid (At.DoTo a s At.zero 2) := by
      show At.DoTo a s At.zero 2
      unfold At.DoTo
      rw [if_pos ⟨HMA.out, HMS.out⟩]
      exact ⟨y, HSP.out, .inl ⟨.inl h8, rfl, rfl⟩⟩
    clear h8 HYK8
    go_wp2_with fail
    change bodyPost _ _ _ _ _ (put7 w8 g (.int .i64 0) (.int .i64 0) (.int .i64 0) (.slice none 0 0) (.slice none 0 0) (.int .i64 0) (.slice none 0 0))
    generalize put7 w8 g (.int .i64 0) (.int .i64 0) (.int .i64 0) (.slice none 0 0) (.slice none 0 0) (.int .i64 0) (.slice none 0 0) = w9 at *
    obtain ⟨y0, y1, y2, y3, y4, y5, y6⟩ := seven_cells NEz.out
    refine bodyPost_ret (v := .tuple #[.agg #[.int .i64 0, .int .i64 0, .int .i64 0, .slice none 0 0, .slice none 0 0, .int .i64 0, .slice none 0 0], .int .i64 2]) ?_ rfl (zero_good HD.out BEz.out)
    simp [results, Tryz.results10, go_sem, y0, y1, y2, y3, y4, y5, y6]
end Go.Proofs.YtpkikfojiibdaaaGreatDoor
