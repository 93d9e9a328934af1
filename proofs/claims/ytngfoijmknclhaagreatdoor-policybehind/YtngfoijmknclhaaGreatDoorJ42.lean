/- The program's Do. -/
import Derived.Test.YtngfoijmknclhaaGreatDoorJ27
import Derived.Test.YtngfoijmknclhaaGreatDoorJ34
import Derived.Test.YtngfoijmknclhaaGreatDoorJ35
import Derived.Test.YtngfoijmknclhaaGreatDoorJ38
import Derived.Test.YtngfoijmknclhaaGreatDoorJ41
namespace Go.Proofs.YtngfoijmknclhaaGreatDoor
open Go.RowKit Go.Sort
theorem boxesD (w : World) (x y z : Array Value) (t u v : TypeId) : (((w.alloc (.cells x t)).alloc (.cells y u)).alloc (.cells z v)).heap[w.heap.size]? = some (.cells x t (0, 0)) ∧ (((w.alloc (.cells x t)).alloc (.cells y u)).alloc (.cells z v)).heap[w.heap.size + 1]? = some (.cells y u (0, 0)) ∧ (((w.alloc (.cells x t)).alloc (.cells y u)).alloc (.cells z v)).heap[w.heap.size + 1 + 1]? = some (.cells z v (0, 0)) ∧ Below w.heap.size w (((w.alloc (.cells x t)).alloc (.cells y u)).alloc (.cells z v)) := by
  obtain ⟨h1, h2, h3⟩ := boxes2 w x y t u
  have h4 := heap_new ((w.alloc (.cells x t)).alloc (.cells y u)) z v
  have hb := balloc (brefl ((w.alloc (.cells x t)).alloc (.cells y u))) (.cells z v)
  rw [show ((w.alloc (.cells x t)).alloc (.cells y u)).heap.size = w.heap.size + 1 + 1 by simp] at h4
  exact ⟨(hb.block _ (heap_lt h1)).trans h1, (hb.block _ (heap_lt h2)).trans h2, h4, bthen h3 hb⟩
theorem wr_hold {B B' : Nat} {w w' : World} {o : Option Addr} {n : Nat} (h : Wr B w o n) (hB : B' ≤ B) (hk : ∀ b, B ≤ b → b < w.heap.size → w'.heap[b]? = w.heap[b]?) : Wr B' w' o n := by
  rcases Nat.eq_zero_or_pos n with h0 | h0
  · exact .inl h0
  · rcases h with h | ⟨g, off, rfl, hg, hc⟩
    · exact .inl h
    · have hlt : g < w.heap.size := by
        obtain ⟨v, hv⟩ := Option.isSome_iff_exists.1 (hc 0 h0).1
        exact block_lt_of_cell hv
      refine .inr ⟨g, off, rfl, Nat.le_trans hB hg, fun j hj => ?_⟩
      have := hc j hj
      unfold World.cell? World.frozen? at *
      rw [hk g hg hlt]
      exact this
theorem is_hold {B : Nat} {w w' : World} {o : Option Addr} {l : List Int} (h : Is.slot w o l) (hw : Wr B w o l.length) (hk : ∀ b, B ≤ b → b < w.heap.size → w'.heap[b]? = w.heap[b]?) : Is.slot w' o l := by
  rcases h with h | ⟨b, off, rfl, hr⟩
  · exact .inl h
  · rcases Nat.eq_zero_or_pos l.length with h0 | h0
    · exact .inl (List.length_eq_zero_iff.1 h0)
    · rcases hw with h | ⟨g, off', e, hg, _⟩
      · omega
      · cases e
        have hlt : b < w.heap.size := block_lt_of_cell (hr 0 h0)
        exact .inr ⟨b, off, rfl, fun j hj => (cellB (hk b hg hlt) _).trans (hr j hj)⟩
theorem co_hold {B : Nat} {w w' : World} {o : Option Addr} {l : List Cm.Co.C} (h : Cm.Co.slot w o l) (hw : Wr B w o (l.length * 2)) (hk : ∀ b, B ≤ b → b < w.heap.size → w'.heap[b]? = w.heap[b]?) : Cm.Co.slot w' o l := by
  rcases h with h | ⟨b, off, rfl, hr⟩
  · exact .inl h
  · rcases Nat.eq_zero_or_pos l.length with h0 | h0
    · exact .inl (List.length_eq_zero_iff.1 h0)
    · rcases hw with h | ⟨g, off', e, hg, _⟩
      · omega
      · cases e
        have hlt : b < w.heap.size := block_lt_of_cell (Cm.Co.reads_at hr 0 h0).1
        exact .inr ⟨b, off, rfl, fun j u hu => (cellB (hk b hg hlt) _).trans (hr j u hu)⟩
theorem mine_hold {B B' : Nat} {w w' : World} {a : At} {p c k : Option Addr} (h : At.mine B w a p c k) (hB : B' ≤ B) (hk : ∀ b, B ≤ b → b < w.heap.size → w'.heap[b]? = w.heap[b]?) : At.mine B' w' a p c k :=
  ⟨⟨is_hold h.1.1 h.2.1 hk, co_hold h.1.2.1 h.2.2.1 hk, is_hold h.1.2.2 h.2.2.2 hk⟩, wr_hold h.2.1 hB hk, wr_hold h.2.2.1 hB hk, wr_hold h.2.2.2 hB hk⟩
theorem no_came : Cm.Co.came none 0 := ⟨fun _ => rfl, fun ad h => (by cases h)⟩
theorem zero_do {w w' : World} {a : At} {s : St} {q : Int} (h : At.DoTo a s At.zero q) (hb : Below w.heap.size w w') : DoGood w a s (.returned (.tuple #[.agg #[.int .i64 0, .int .i64 0, .int .i64 0, .slice none 0 0, .slice none 0 0, .int .i64 0, .slice none 0 0], .int .i64 q])) w' :=
  ⟨At.zero, q, none, none, none, 0, 0, 0, rfl, h, ⟨⟨.inl rfl, .inl rfl, .inl rfl⟩, .inl rfl, .inl rfl, .inl rfl⟩, ⟨no_came, no_came, no_came, Nat.le_refl _⟩, hb⟩
theorem any_ok {s : St} (h : St.ok s = true) : (s.add.any fun x => !Cm.Co.may x) = false := by
  unfold St.ok at h
  simp only [Bool.and_eq_true, Bool.not_eq_true'] at h
  exact h.2.2.2.1
theorem set_ok {a : At} (h : At.may a = true) : Cm.Co.set a.comms = true := by
  unfold At.may at h
  simp only [Bool.and_eq_true] at h
  exact h.2.2.1
/-- On the way through a change that is done: what was there, and what was made ahead of the block d. -/
def DoInv (W0 w6 : World) (d : Nat) (x : World) : Prop := Below W0.heap.size W0 x ∧ ∀ b, W0.heap.size ≤ b → b < d → x.heap[b]? = w6.heap[b]?
theorem inv_call {W0 w6 x y : World} {d : Nat} (h : DoInv W0 w6 d x) (hd : d < x.heap.size) (hb : Below x.heap.size x y) : DoInv W0 w6 d y :=
  ⟨bthen h.1 hb, fun b h1 h2 => (hb.block b (Nat.lt_trans h2 hd)).trans (h.2 b h1 h2)⟩
theorem inv_set {W0 w6 x : World} {d : Nat} (h : DoInv W0 w6 d x) (hd : W0.heap.size ≤ d) (i : Nat) (v : Value) : DoInv W0 w6 d (x.setCell ⟨d, i, none⟩ v) :=
  ⟨h.1.setCell (p := ⟨d, i, none⟩) hd v, fun b h1 h2 => (heap_setCell_other _ ⟨d, i, none⟩ b _ (Nat.ne_of_lt h2)).trans (h.2 b h1 h2)⟩
theorem do_fin {w w' : World} {a : At} {s : St} {r : At} {n : Nat} {po co ko : Option Addr} {cp cc ck : Nat} (hn : n = r.path.length) (hd : At.DoTo a s r 0) (hm : At.mine w.heap.size w' r po co ko) (hc : At.came r po co ko cp cc ck) (hb : Below w.heap.size w w') :
    DoGood w a s (.returned (.tuple #[.agg #[.int .i64 r.pf, .int .i64 r.md, .int .i64 r.og, .slice po n cp, .slice co r.comms.length cc, .int .i64 r.fr, .slice ko r.cl.length ck], .int .i64 0])) w' := by
  subst hn
  exact ⟨r, 0, po, co, ko, cp, cc, ck, rfl, hd, hm, hc, hb⟩
set_option maxHeartbeats 16000000 in
set_option maxRecDepth 100000 in
theorem doA_is (a : At) (po co ko : Option Addr) (cp cc ck : Nat) (s : St) (ao dl pr : Option Addr) (ca cd cr : Nat) (w : World) (hA : At.lies w a po co ko) (hCA : At.came a po co ko cp cc ck) (h1 : a.path.length ≤ 100) (h2 : a.comms.length ≤ 100) (h3 : a.cl.length ≤ 100) (hS : St.lies w s ao dl pr) (hCS : Cm.Co.nilW ao ca ∧ Cm.Co.nilW dl cd ∧ Cm.Co.nilW pr cr) (k1 : s.add.length ≤ 100) (k2 : s.del.length ≤ 100) (k3 : s.pre.length ≤ 100) :
    Calls Tryz.prog 78 #[.agg #[.int .i64 a.pf, .int .i64 a.md, .int .i64 a.og, .slice po a.path.length cp, .slice co a.comms.length cc, .int .i64 a.fr, .slice ko a.cl.length ck], .agg #[.int .i64 s.pf, .int .i64 s.md, .int .i64 s.og, .slice ao s.add.length ca, .slice dl s.del.length cd, .bool s.clr, .slice pr s.pre.length cr]] w (DoGood w a s) := by
  obtain ⟨n1, n2, n3, hbb⟩ := boxesD w #[.int .i64 a.pf, .int .i64 a.md, .int .i64 a.og, .slice po a.path.length cp, .slice co a.comms.length cc, .int .i64 a.fr, .slice ko a.cl.length ck] #[.int .i64 s.pf, .int .i64 s.md, .int .i64 s.og, .slice ao s.add.length ca, .slice dl s.del.length cd, .bool s.clr, .slice pr s.pre.length cr] #[.int .i64 0, .int .i64 0, .int .i64 0, .slice none 0 0, .slice none 0 0, .int .i64 0, .slice none 0 0] 30 43 30
  have N1 := hide n1
  have N2 := hide n2
  have N3 := hide n3
  have HB := hide hbb
  clear n1 n2 n3 hbb
  have LA := hide hA
  have LS := hide hS
  have HCA := hide hCA
  have HCS := hide hCS
  have K1 := hide k1
  have K2 := hide k2
  have K3 := hide k3
  have H1 := hide h1
  have H2 := hide h2
  have H3 := hide h3
  obtain ⟨ma, hma⟩ : ∃ x, At.may a = x := ⟨_, rfl⟩
  obtain ⟨ms, hms⟩ : ∃ x, St.ok s = x := ⟨_, rfl⟩
  have CM := hide (fun W' (hb : Below w.heap.size w W') => mayA_is a po co ko cp cc ck ma hma W' (At.lies_below LA.out hb) h1 h2 h3 HCA.out.2.2.2)
  have CG := hide (fun W' (hb : Below w.heap.size w W') => change_is s ao dl pr ca cd cr ms hms W' (St.lies_below LS.out hb) k1 k2 k3)
  have HMA := hide hma
  have HMS := hide hms
  clear hma hms hA hS hCA hCS h1 h2 h3 k1 k2 k3
  go_enter Tryz.func78, Tryz.ntmps78
  go_wp2_with fail
  generalize ((w.alloc (.cells #[.int .i64 a.pf, .int .i64 a.md, .int .i64 a.og, .slice po a.path.length cp, .slice co a.comms.length cc, .int .i64 a.fr, .slice ko a.cl.length ck] 30)).alloc (.cells #[.int .i64 s.pf, .int .i64 s.md, .int .i64 s.og, .slice ao s.add.length ca, .slice dl s.del.length cd, .bool s.clr, .slice pr s.pre.length cr] 43)).alloc (.cells #[.int .i64 0, .int .i64 0, .int .i64 0, .slice none 0 0, .slice none 0 0, .int .i64 0, .slice none 0 0] 30) = W0 at *
  obtain ⟨p, hp⟩ : ∃ p, w.heap.size = p := ⟨_, rfl⟩
  rw [hp] at N1 N2 N3
  have HPW : Hid (w.heap.size ≤ p) := Nat.le_of_eq hp
  rw [hp]
  clear hp
  obtain ⟨q, hq⟩ : ∃ q, p + 1 = q := ⟨_, rfl⟩
  rw [hq] at N2 N3
  rw [hq]
  obtain ⟨g, hg⟩ : ∃ g, q + 1 = g := ⟨_, rfl⟩
  rw [hg] at N3
  rw [hg]
  have HGW : Hid (w.heap.size ≤ g) := Nat.le_trans HPW.out (by omega)
  have PL := hide (heap_lt N1.out)
  have QL := hide (heap_lt N2.out)
  have GL := hide (heap_lt N3.out)
  clear hq hg HPW
  refine (CM.out _ HB.out).mono ?_
  rintro e w1 ⟨rfl, hb1⟩
  have B1 := hide hb1
  clear hb1
  cases ma
  · have NZ := hide ((B1.out.block g GL.out).trans N3.out)
    obtain ⟨z0, z1, z2, z3, z4, z5, z6⟩ := seven_cells NZ.out
    have f0 := frozen7 NZ.out 0
    have f1 := frozen7 NZ.out 1
    have f2 := frozen7 NZ.out 2
    have f3 := frozen7 NZ.out 3
    have f4 := frozen7 NZ.out 4
    have f5 := frozen7 NZ.out 5
    have f6 := frozen7 NZ.out 6
    have NE := hide (put7_same NZ.out (.int .i64 0) (.int .i64 0) (.int .i64 0) (.slice none 0 0) (.slice none 0 0) (.int .i64 0) (.slice none 0 0))
    have BE := hide (put7_below (bthen HB.out B1.out) HGW.out (.int .i64 0) (.int .i64 0) (.int .i64 0) (.slice none 0 0) (.slice none 0 0) (.int .i64 0) (.slice none 0 0))
    have HD : Hid (At.DoTo a s At.zero 1) := by
      show At.DoTo a s At.zero 1
      unfold At.DoTo
      rw [if_neg (fun h => by rw [HMA.out] at h; cases h.1)]; exact ⟨rfl, rfl⟩
    go_wp2_with fail
    change bodyPost _ _ _ _ _ (put7 w1 g (.int .i64 0) (.int .i64 0) (.int .i64 0) (.slice none 0 0) (.slice none 0 0) (.int .i64 0) (.slice none 0 0))
    generalize put7 w1 g (.int .i64 0) (.int .i64 0) (.int .i64 0) (.slice none 0 0) (.slice none 0 0) (.int .i64 0) (.slice none 0 0) = w9 at *
    obtain ⟨y0, y1, y2, y3, y4, y5, y6⟩ := seven_cells NE.out
    refine bodyPost_ret (v := .tuple #[.agg #[.int .i64 0, .int .i64 0, .int .i64 0, .slice none 0 0, .slice none 0 0, .int .i64 0, .slice none 0 0], .int .i64 1]) ?_ rfl (zero_do HD.out BE.out)
    simp [results, Tryz.results78, go_sem, y0, y1, y2, y3, y4, y5, y6]
  obtain ⟨d0, d1, d2, d3, d4, d5, d6⟩ := seven_cells ((B1.out.block q QL.out).trans N2.out)
  go_wp2_with fail
  refine (CG.out _ (bthen HB.out B1.out)).mono ?_
  rintro e w2 ⟨rfl, hb2⟩
  have B2 := hide (bthen B1.out hb2)
  clear hb2 d0 d1 d2 d3 d4 d5 d6 B1
  cases ms
  · have NZ := hide ((B2.out.block g GL.out).trans N3.out)
    obtain ⟨z0, z1, z2, z3, z4, z5, z6⟩ := seven_cells NZ.out
    have f0 := frozen7 NZ.out 0
    have f1 := frozen7 NZ.out 1
    have f2 := frozen7 NZ.out 2
    have f3 := frozen7 NZ.out 3
    have f4 := frozen7 NZ.out 4
    have f5 := frozen7 NZ.out 5
    have f6 := frozen7 NZ.out 6
    have NE := hide (put7_same NZ.out (.int .i64 0) (.int .i64 0) (.int .i64 0) (.slice none 0 0) (.slice none 0 0) (.int .i64 0) (.slice none 0 0))
    have BE := hide (put7_below (bthen HB.out B2.out) HGW.out (.int .i64 0) (.int .i64 0) (.int .i64 0) (.slice none 0 0) (.slice none 0 0) (.int .i64 0) (.slice none 0 0))
    have HD : Hid (At.DoTo a s At.zero 1) := by
      show At.DoTo a s At.zero 1
      unfold At.DoTo
      rw [if_neg (fun h => by rw [HMS.out] at h; cases h.2)]; exact ⟨rfl, rfl⟩
    go_wp2_with fail
    change bodyPost _ _ _ _ _ (put7 w2 g (.int .i64 0) (.int .i64 0) (.int .i64 0) (.slice none 0 0) (.slice none 0 0) (.int .i64 0) (.slice none 0 0))
    generalize put7 w2 g (.int .i64 0) (.int .i64 0) (.int .i64 0) (.slice none 0 0) (.slice none 0 0) (.int .i64 0) (.slice none 0 0) = w9 at *
    obtain ⟨y0, y1, y2, y3, y4, y5, y6⟩ := seven_cells NE.out
    refine bodyPost_ret (v := .tuple #[.agg #[.int .i64 0, .int .i64 0, .int .i64 0, .slice none 0 0, .slice none 0 0, .int .i64 0, .slice none 0 0], .int .i64 1]) ?_ rfl (zero_do HD.out BE.out)
    simp [results, Tryz.results78, go_sem, y0, y1, y2, y3, y4, y5, y6]
  have CD := hide (doComms_is a s co cc ao dl pr ca cd cr w2 (Cm.Co.slot_below LA.out.2.1 (bthen HB.out B2.out)) HCA.out.2.1 (St.lies_below LS.out (bthen HB.out B2.out)) HCS.out.1 (set_ok HMA.out) (any_ok HMS.out) K1.out K2.out)
  obtain ⟨c0, c1, c2, c3, c4, c5, c6⟩ := seven_cells ((B2.out.block p PL.out).trans N1.out)
  obtain ⟨d0, d1, d2, d3, d4, d5, d6⟩ := seven_cells ((B2.out.block q QL.out).trans N2.out)
  clear CM CG
  go_wp2_with fail
  refine CD.out.mono ?_
  rintro e w3 ⟨x, xo, xc, hu, hcx, hwx, hb3, he⟩
  have HU := hide hu
  have HCX := hide hcx
  have HWX := hide (wrow_mono hwx B2.out.size)
  have B3 := hide (bthen B2.out hb3)
  clear hu hcx hwx hb3 CD c0 c1 c2 c3 c4 c5 c6 d0 d1 d2 d3 d4 d5 d6 B2
  rcases he with ⟨h8, rfl⟩ | ⟨h8, rfl⟩
  rotate_left
  · have H8 := hide h8
    clear h8
    have NZ := hide ((B3.out.block g GL.out).trans N3.out)
    obtain ⟨z0, z1, z2, z3, z4, z5, z6⟩ := seven_cells NZ.out
    have f0 := frozen7 NZ.out 0
    have f1 := frozen7 NZ.out 1
    have f2 := frozen7 NZ.out 2
    have f3 := frozen7 NZ.out 3
    have f4 := frozen7 NZ.out 4
    have f5 := frozen7 NZ.out 5
    have f6 := frozen7 NZ.out 6
    have NE := hide (put7_same NZ.out (.int .i64 0) (.int .i64 0) (.int .i64 0) (.slice none 0 0) (.slice none 0 0) (.int .i64 0) (.slice none 0 0))
    have BE := hide (put7_below (bthen HB.out B3.out) HGW.out (.int .i64 0) (.int .i64 0) (.int .i64 0) (.slice none 0 0) (.slice none 0 0) (.int .i64 0) (.slice none 0 0))
    have HD : Hid (At.DoTo a s At.zero 2) := by
      show At.DoTo a s At.zero 2
      unfold At.DoTo
      rw [if_pos ⟨HMA.out, HMS.out⟩]; exact ⟨x, HU.out, .inl ⟨.inl H8.out, rfl, rfl⟩⟩
    go_wp2_with fail
    change bodyPost _ _ _ _ _ (put7 w3 g (.int .i64 0) (.int .i64 0) (.int .i64 0) (.slice none 0 0) (.slice none 0 0) (.int .i64 0) (.slice none 0 0))
    generalize put7 w3 g (.int .i64 0) (.int .i64 0) (.int .i64 0) (.slice none 0 0) (.slice none 0 0) (.int .i64 0) (.slice none 0 0) = w9 at *
    obtain ⟨y0, y1, y2, y3, y4, y5, y6⟩ := seven_cells NE.out
    refine bodyPost_ret (v := .tuple #[.agg #[.int .i64 0, .int .i64 0, .int .i64 0, .slice none 0 0, .slice none 0 0, .int .i64 0, .slice none 0 0], .int .i64 2]) ?_ rfl (zero_do HD.out BE.out)
    simp [results, Tryz.results78, go_sem, y0, y1, y2, y3, y4, y5, y6]
  have H8 := hide h8
  clear h8
  obtain ⟨c0, c1, c2, c3, c4, c5, c6⟩ := seven_cells ((B3.out.block p PL.out).trans N1.out)
  obtain ⟨d0, d1, d2, d3, d4, d5, d6⟩ := seven_cells ((B3.out.block q QL.out).trans N2.out)
  have B4 := hide (bthen B3.out (balloc (brefl w3) (.cells #[.slice pr s.pre.length cr, .slice po a.path.length cp] 27)))
  have N4 := hide (heap_new w3 #[.slice pr s.pre.length cr, .slice po a.path.length cp] 27)
  have CC := hide (concatI_is w3.heap.size 2 pr po cr cp s.pre a.path (w3.alloc (.cells #[.slice pr s.pre.length cr, .slice po a.path.length cp] 27)) (by unfold World.cell?; rw [N4.out]; rfl) (by unfold World.cell?; rw [N4.out]; rfl) (Is.slot_below LS.out.2.2 (bthen HB.out B4.out)) (Is.slot_below LA.out.1 (bthen HB.out B4.out)) HCS.out.2.2 HCA.out.1.1 (by have := K3.out; omega) (by have := H1.out; omega))
  have X3 := hide (Cm.Co.wrow_below HWX.out (balloc (brefl w3) (.cells #[.slice pr s.pre.length cr, .slice po a.path.length cp] 27)))
  go_wp2_with fail
  generalize w3.alloc (.cells #[.slice pr s.pre.length cr, .slice po a.path.length cp] 27) = W4 at *
  generalize w3.heap.size = r3 at *
  refine CC.out.mono ?_
  rintro e w5 ⟨v, rfl, hown, hb5⟩
  obtain ⟨no, nc, rfl⟩ := row_slice hown
  have HO := hide hown
  have B5 := hide (bthen B4.out hb5)
  have X5 := hide (Cm.Co.wrow_below X3.out hb5)
  have Z4 := hide B4.out.size
  clear hown hb5 CC c0 c1 c2 c3 c4 c5 c6 d0 d1 d2 d3 d4 d5 d6 B4 N4 X3 HWX B3
  obtain ⟨L, hL⟩ : ∃ L, L = s.pre.length + a.path.length := ⟨_, rfl⟩
  rw [← hL] at HO ⊢
  have HL := hide hL
  clear hL
  by_cases h16 : 16 < L
  · have H16 := hide h16
    have h16' : (16 : Int) < (L : Int) := by omega
    clear h16
    have NZ := hide ((B5.out.block g GL.out).trans N3.out)
    obtain ⟨z0, z1, z2, z3, z4, z5, z6⟩ := seven_cells NZ.out
    have f0 := frozen7 NZ.out 0
    have f1 := frozen7 NZ.out 1
    have f2 := frozen7 NZ.out 2
    have f3 := frozen7 NZ.out 3
    have f4 := frozen7 NZ.out 4
    have f5 := frozen7 NZ.out 5
    have f6 := frozen7 NZ.out 6
    have NE := hide (put7_same NZ.out (.int .i64 0) (.int .i64 0) (.int .i64 0) (.slice none 0 0) (.slice none 0 0) (.int .i64 0) (.slice none 0 0))
    have BE := hide (put7_below (bthen HB.out B5.out) HGW.out (.int .i64 0) (.int .i64 0) (.int .i64 0) (.slice none 0 0) (.slice none 0 0) (.int .i64 0) (.slice none 0 0))
    have HD : Hid (At.DoTo a s At.zero 2) := by
      show At.DoTo a s At.zero 2
      unfold At.DoTo
      rw [if_pos ⟨HMA.out, HMS.out⟩]; exact ⟨x, HU.out, .inl ⟨.inr (by rw [← HL.out]; exact H16.out), rfl, rfl⟩⟩
    go_wp2_with fail
    change bodyPost _ _ _ _ _ (put7 w5 g (.int .i64 0) (.int .i64 0) (.int .i64 0) (.slice none 0 0) (.slice none 0 0) (.int .i64 0) (.slice none 0 0))
    generalize put7 w5 g (.int .i64 0) (.int .i64 0) (.int .i64 0) (.slice none 0 0) (.slice none 0 0) (.int .i64 0) (.slice none 0 0) = w9 at *
    obtain ⟨y0, y1, y2, y3, y4, y5, y6⟩ := seven_cells NE.out
    refine bodyPost_ret (v := .tuple #[.agg #[.int .i64 0, .int .i64 0, .int .i64 0, .slice none 0 0, .slice none 0 0, .int .i64 0, .slice none 0 0], .int .i64 2]) ?_ rfl (zero_do HD.out BE.out)
    simp [results, Tryz.results78, go_sem, y0, y1, y2, y3, y4, y5, y6]
  have H16 := hide (Nat.le_of_not_lt h16)
  have h16' : ¬ (16 : Int) < (L : Int) := by omega
  clear h16
  have CY := hide (copyA_is a po co ko cp cc ck w5 (At.lies_below LA.out (bthen HB.out B5.out)) HCA.out H1.out H2.out H3.out)
  obtain ⟨c0, c1, c2, c3, c4, c5, c6⟩ := seven_cells ((B5.out.block p PL.out).trans N1.out)
  go_wp2_with fail
  refine CY.out.mono ?_
  rintro e w6 ⟨p1, c1', k1', cp1, cc1, ck1, rfl, hmi, hca, hb6⟩
  have HMI := hide hmi
  have HCY := hide hca
  have B6 := hide (bthen B5.out hb6)
  have X6 := hide (Cm.Co.wrow_below X5.out hb6)
  have O6 := hide (row_below HO.out hb6)
  have Z5 := hide B5.out.size
  clear hmi hca hb6 CY c0 c1 c2 c3 c4 c5 c6 X5 HO B5
  have MN : Hid (At.mine W0.heap.size w6 ⟨At.told s.pf a.pf, At.told s.md a.md, At.told s.og a.og, s.pre ++ a.path, x, a.fr, a.cl⟩ no xo k1') := by
    refine ⟨⟨Is.slot_own O6.out, Cm.Co.wrow_slot X6.out, HMI.out.1.2.2⟩, ?_, wrow_wr X6.out, wr_mono HMI.out.2.2.2 Z5.out⟩
    have h := wr_mono (own_wr O6.out) Z4.out
    rw [HL.out] at h
    simpa using h
  have CMN : Hid (At.came ⟨At.told s.pf a.pf, At.told s.md a.md, At.told s.og a.og, s.pre ++ a.path, x, a.fr, a.cl⟩ no xo k1' nc xc ck1) := ⟨own_cameI O6.out, HCX.out, HCY.out.2.2.1, HCY.out.2.2.2⟩
  clear HMI HCY X6 O6 Z4 Z5 HCX
  have A7 := hide (balloc (brefl w6) (.cells #[.int .i64 a.pf, .int .i64 a.md, .int .i64 a.og, .slice p1 a.path.length cp1, .slice c1' a.comms.length cc1, .int .i64 a.fr, .slice k1' a.cl.length ck1] 30))
  have N8 := hide (heap_new w6 #[.int .i64 a.pf, .int .i64 a.md, .int .i64 a.og, .slice p1 a.path.length cp1, .slice c1' a.comms.length cc1, .int .i64 a.fr, .slice k1' a.cl.length ck1] 30)
  have B8 := hide (bthen B6.out A7.out)
  have K8 : Hid (∀ b, W0.heap.size ≤ b → b < w6.heap.size → (w6.alloc (.cells #[.int .i64 a.pf, .int .i64 a.md, .int .i64 a.og, .slice p1 a.path.length cp1, .slice c1' a.comms.length cc1, .int .i64 a.fr, .slice k1' a.cl.length ck1] 30)).heap[b]? = w6.heap[b]?) := fun b _ hb => A7.out.block b hb
  go_upto_region 10 with fail
  have DB := hide B6.out.size
  have I8 : Hid (DoInv W0 w6 w6.heap.size (w6.alloc (.cells #[.int .i64 a.pf, .int .i64 a.md, .int .i64 a.og, .slice p1 a.path.length cp1, .slice c1' a.comms.length cc1, .int .i64 a.fr, .slice k1' a.cl.length ck1] 30))) := ⟨B8.out, K8.out⟩
  have HDO : Hid (At.DoTo a s ⟨At.told s.pf a.pf, At.told s.md a.md, At.told s.og a.og, s.pre ++ a.path, x, a.fr, a.cl⟩ 0) := by
    show At.DoTo a s _ 0
    unfold At.DoTo
    rw [if_pos ⟨HMA.out, HMS.out⟩]
    exact ⟨x, HU.out, .inr ⟨⟨H8.out, by rw [← HL.out]; exact H16.out⟩, rfl, rfl⟩⟩
  have T0 := hide (fun W' => told_is s.pf a.pf (At.told s.pf a.pf) rfl W')
  have T1 := hide (fun W' => told_is s.md a.md (At.told s.md a.md) rfl W')
  have T2 := hide (fun W' => told_is s.og a.og (At.told s.og a.og) rfl W')
  have HLA : Hid (L = (s.pre ++ a.path).length) := by show _ = _; rw [HL.out, List.length_append]
  generalize At.told s.pf a.pf = t0 at *
  generalize At.told s.md a.md = t1 at *
  generalize At.told s.og a.og = t2 at *
  generalize w6.alloc (.cells #[.int .i64 a.pf, .int .i64 a.md, .int .i64 a.og, .slice p1 a.path.length cp1, .slice c1' a.comms.length cc1, .int .i64 a.fr, .slice k1' a.cl.length ck1] 30) = W8 at *
  clear A7 B6 B8 K8 h16' HL H16 H8 HU HMA HMS
  obtain ⟨d, hd⟩ : ∃ d, d = w6.heap.size := ⟨_, rfl⟩
  rw [← hd] at N8 I8 DB ⊢
  have HD6 := hide hd
  clear hd
  have SH : Hid (∀ W', DoInv W0 w6 d W' → (fun w' => w'.cell? ⟨p, 0, none⟩ = some (.int .i64 a.pf) ∧ w'.cell? ⟨p, 1, none⟩ = some (.int .i64 a.md) ∧ w'.cell? ⟨p, 2, none⟩ = some (.int .i64 a.og) ∧ w'.cell? ⟨q, 0, none⟩ = some (.int .i64 s.pf) ∧ w'.cell? ⟨q, 1, none⟩ = some (.int .i64 s.md) ∧ w'.cell? ⟨q, 2, none⟩ = some (.int .i64 s.og)) W') := fun W' h => by
    obtain ⟨c0, c1, c2, _⟩ := seven_cells ((h.1.block p PL.out).trans N1.out)
    obtain ⟨d0, d1, d2, _⟩ := seven_cells ((h.1.block q QL.out).trans N2.out)
    exact ⟨c0, c1, c2, d0, d1, d2⟩
  have I0 : Hid (DoInv W0 w6 d W8.drew) := ⟨I8.out.1.drew, I8.out.2⟩
  have D0 : Hid (W8.drew.heap[d]? = some (.cells #[.int .i64 a.pf, .int .i64 a.md, .int .i64 a.og, .slice p1 a.path.length cp1, .slice c1' a.comms.length cc1, .int .i64 a.fr, .slice k1' a.cl.length ck1] 30 (0, 0))) := N8.out
  refine wp_region_held_drew (S := fun w' => w'.cell? ⟨p, 0, none⟩ = some (.int .i64 a.pf) ∧ w'.cell? ⟨p, 1, none⟩ = some (.int .i64 a.md) ∧ w'.cell? ⟨p, 2, none⟩ = some (.int .i64 a.og) ∧ w'.cell? ⟨q, 0, none⟩ = some (.int .i64 s.pf) ∧ w'.cell? ⟨q, 1, none⟩ = some (.int .i64 s.md) ∧ w'.cell? ⟨q, 2, none⟩ = some (.int .i64 s.og)) (by kernel_rfl) (SH.out _ I0.out) (fun hHeld => ?_)
  refine wpAnyH_take (i := 0) (v := .pointer (some ⟨q, 0, none⟩)) rfl (by kernel_rfl) (by kernel_rfl) (by kernel_rfl) (fun _ _ _ h => h) (Or.inl ⟨by rfl, fun w hSw => by dsimp only at hSw; go_simp⟩) hHeld ?_
  simp only [Act.put, List.getElem_toArray, List.getElem_cons_zero, List.setIfInBounds_toArray, List.set_cons_zero, List.set_cons_succ]
  refine wpAnyH_take (i := 1) (v := .int .i64 s.pf) rfl (by kernel_rfl) (by kernel_rfl) (by kernel_rfl) (fun _ _ _ h => h) (Or.inl ⟨by rfl, fun w hSw => by dsimp only at hSw; go_simp⟩) hHeld ?_
  simp only [Act.put, List.getElem_toArray, List.getElem_cons_zero, List.getElem_cons_succ, List.setIfInBounds_toArray, List.set_cons_zero, List.set_cons_succ]
  refine wpAnyH_take (i := 2) (v := .pointer (some ⟨p, 0, none⟩)) rfl (by kernel_rfl) (by kernel_rfl) (by kernel_rfl) (fun _ _ _ h => h) (Or.inl ⟨by rfl, fun w hSw => by dsimp only at hSw; go_simp⟩) hHeld ?_
  simp only [Act.put, List.getElem_toArray, List.getElem_cons_zero, List.getElem_cons_succ, List.setIfInBounds_toArray, List.set_cons_zero, List.set_cons_succ]
  refine wpAnyH_take (i := 3) (v := .int .i64 a.pf) rfl (by kernel_rfl) (by kernel_rfl) (by kernel_rfl) (fun _ _ _ h => h) (Or.inl ⟨by rfl, fun w hSw => by dsimp only at hSw; go_simp⟩) hHeld ?_
  simp only [Act.put, List.getElem_toArray, List.getElem_cons_zero, List.getElem_cons_succ, List.setIfInBounds_toArray, List.set_cons_zero, List.set_cons_succ]
  refine wpAnyH_take (i := 5) (v := .pointer (some ⟨q, 1, none⟩)) rfl (by kernel_rfl) (by kernel_rfl) (by kernel_rfl) (fun _ _ _ h => h) (Or.inl ⟨by rfl, fun w hSw => by dsimp only at hSw; go_simp⟩) hHeld ?_
  simp only [Act.put, List.getElem_toArray, List.getElem_cons_zero, List.getElem_cons_succ, List.setIfInBounds_toArray, List.set_cons_zero, List.set_cons_succ]
  refine wpAnyH_take (i := 6) (v := .int .i64 s.md) rfl (by kernel_rfl) (by kernel_rfl) (by kernel_rfl) (fun _ _ _ h => h) (Or.inl ⟨by rfl, fun w hSw => by dsimp only at hSw; go_simp⟩) hHeld ?_
  simp only [Act.put, List.getElem_toArray, List.getElem_cons_zero, List.getElem_cons_succ, List.setIfInBounds_toArray, List.set_cons_zero, List.set_cons_succ]
  refine wpAnyH_take (i := 7) (v := .pointer (some ⟨p, 1, none⟩)) rfl (by kernel_rfl) (by kernel_rfl) (by kernel_rfl) (fun _ _ _ h => h) (Or.inl ⟨by rfl, fun w hSw => by dsimp only at hSw; go_simp⟩) hHeld ?_
  simp only [Act.put, List.getElem_toArray, List.getElem_cons_zero, List.getElem_cons_succ, List.setIfInBounds_toArray, List.set_cons_zero, List.set_cons_succ]
  refine wpAnyH_take (i := 8) (v := .int .i64 a.md) rfl (by kernel_rfl) (by kernel_rfl) (by kernel_rfl) (fun _ _ _ h => h) (Or.inl ⟨by rfl, fun w hSw => by dsimp only at hSw; go_simp⟩) hHeld ?_
  simp only [Act.put, List.getElem_toArray, List.getElem_cons_zero, List.getElem_cons_succ, List.setIfInBounds_toArray, List.set_cons_zero, List.set_cons_succ]
  refine wpAnyH_take (i := 10) (v := .pointer (some ⟨q, 2, none⟩)) rfl (by kernel_rfl) (by kernel_rfl) (by kernel_rfl) (fun _ _ _ h => h) (Or.inl ⟨by rfl, fun w hSw => by dsimp only at hSw; go_simp⟩) hHeld ?_
  simp only [Act.put, List.getElem_toArray, List.getElem_cons_zero, List.getElem_cons_succ, List.setIfInBounds_toArray, List.set_cons_zero, List.set_cons_succ]
  refine wpAnyH_take (i := 11) (v := .int .i64 s.og) rfl (by kernel_rfl) (by kernel_rfl) (by kernel_rfl) (fun _ _ _ h => h) (Or.inl ⟨by rfl, fun w hSw => by dsimp only at hSw; go_simp⟩) hHeld ?_
  simp only [Act.put, List.getElem_toArray, List.getElem_cons_zero, List.getElem_cons_succ, List.setIfInBounds_toArray, List.set_cons_zero, List.set_cons_succ]
  refine wpAnyH_take (i := 12) (v := .pointer (some ⟨p, 2, none⟩)) rfl (by kernel_rfl) (by kernel_rfl) (by kernel_rfl) (fun _ _ _ h => h) (Or.inl ⟨by rfl, fun w hSw => by dsimp only at hSw; go_simp⟩) hHeld ?_
  simp only [Act.put, List.getElem_toArray, List.getElem_cons_zero, List.getElem_cons_succ, List.setIfInBounds_toArray, List.set_cons_zero, List.set_cons_succ]
  refine wpAnyH_take (i := 13) (v := .int .i64 a.og) rfl (by kernel_rfl) (by kernel_rfl) (by kernel_rfl) (fun _ _ _ h => h) (Or.inl ⟨by rfl, fun w hSw => by dsimp only at hSw; go_simp⟩) hHeld ?_
  simp only [Act.put, List.getElem_toArray, List.getElem_cons_zero, List.getElem_cons_succ, List.setIfInBounds_toArray, List.set_cons_zero, List.set_cons_succ]
  refine wpAnyH_ready (rs := [4]) (by kernel_rfl) (by simp) ?_
  refine AllReadyH.cons rfl (fun K hK => ?_) AllReadyH.nil
  go_simp
  go_wp2_with (refine (T0.out _).mono ?_; rintro e v1 ⟨rfl, hb⟩; have I1 := hide (inv_call I0.out (heap_lt D0.out) hb); have D1 := hide ((hb.block d (heap_lt D0.out)).trans D0.out); clear hb)
  refine hK.out _ _ (SH.out _ I1.out) (fun hHeld => ?_)
  clear hK K
  try simp only [Act.put, List.getElem_toArray, List.getElem_cons_zero, List.getElem_cons_succ, List.setIfInBounds_toArray, List.set_cons_zero, List.set_cons_succ]
  refine wpAnyH_take (i := 15) (v := .pointer (some ⟨d, 0, none⟩)) rfl (by kernel_rfl) (by kernel_rfl) (by kernel_rfl) (fun _ _ _ h => h) (Or.inl ⟨by rfl, fun w hSw => by dsimp only at hSw; go_simp⟩) hHeld ?_
  simp only [Act.put, List.getElem_toArray, List.getElem_cons_zero, List.getElem_cons_succ, List.setIfInBounds_toArray, List.set_cons_zero, List.set_cons_succ]
  refine wpAnyH_ready (rs := [9]) (by kernel_rfl) (by simp) ?_
  refine AllReadyH.cons rfl (fun K hK => ?_) AllReadyH.nil
  go_simp
  go_wp2_with (refine (T1.out _).mono ?_; rintro e v2 ⟨rfl, hb⟩; have I2 := hide (inv_call I1.out (heap_lt D1.out) hb); have D2 := hide ((hb.block d (heap_lt D1.out)).trans D1.out); clear hb)
  refine hK.out _ _ (SH.out _ I2.out) (fun hHeld => ?_)
  clear hK K
  try simp only [Act.put, List.getElem_toArray, List.getElem_cons_zero, List.getElem_cons_succ, List.setIfInBounds_toArray, List.set_cons_zero, List.set_cons_succ]
  refine wpAnyH_ready (rs := [14]) (by kernel_rfl) (by simp) ?_
  refine AllReadyH.cons rfl (fun K hK => ?_) AllReadyH.nil
  go_simp
  go_wp2_with (refine (T2.out _).mono ?_; rintro e v3 ⟨rfl, hb⟩; have I3 := hide (inv_call I2.out (heap_lt D2.out) hb); have D3 := hide ((hb.block d (heap_lt D2.out)).trans D2.out); clear hb)
  refine hK.out _ _ (SH.out _ I3.out) (fun hHeld => ?_)
  clear hK K
  try simp only [Act.put, List.getElem_toArray, List.getElem_cons_zero, List.getElem_cons_succ, List.setIfInBounds_toArray, List.set_cons_zero, List.set_cons_succ]
  obtain ⟨c0, c1, c2, c3, c4, c5, c6⟩ := seven_cells D3.out
  have fr := frozen7 D3.out 0
  have D4 := hide (put_at0 D3.out (.int .i64 t0))
  have I4 := hide (inv_set I3.out DB.out 0 (.int .i64 t0))
  refine wpAnyH_ready (rs := [16]) (by kernel_rfl) (by simp) ?_
  refine AllReadyH.cons rfl (fun K hK => ?_) AllReadyH.nil
  go_simp
  refine hK.out _ _ (SH.out _ I4.out) (fun hHeld => ?_)
  clear hK K
  try simp only [Act.put, List.getElem_toArray, List.getElem_cons_zero, List.getElem_cons_succ, List.setIfInBounds_toArray, List.set_cons_zero, List.set_cons_succ]
  clear c0 c1 c2 c3 c4 c5 c6 fr
  generalize v3.setCell ⟨d, 0, none⟩ (.int .i64 t0) = v4 at *
  refine wpAnyH_take (i := 17) (v := .pointer (some ⟨d, 1, none⟩)) rfl (by kernel_rfl) (by kernel_rfl) (by kernel_rfl) (fun _ _ _ h => h) (Or.inl ⟨by rfl, fun w hSw => by dsimp only at hSw; go_simp⟩) hHeld ?_
  simp only [Act.put, List.getElem_toArray, List.getElem_cons_zero, List.getElem_cons_succ, List.setIfInBounds_toArray, List.set_cons_zero, List.set_cons_succ]
  obtain ⟨c0, c1, c2, c3, c4, c5, c6⟩ := seven_cells D4.out
  have fr := frozen7 D4.out 1
  have D5 := hide (put_at1 D4.out (.int .i64 t1))
  have I5 := hide (inv_set I4.out DB.out 1 (.int .i64 t1))
  refine wpAnyH_ready (rs := [18]) (by kernel_rfl) (by simp) ?_
  refine AllReadyH.cons rfl (fun K hK => ?_) AllReadyH.nil
  go_simp
  refine hK.out _ _ (SH.out _ I5.out) (fun hHeld => ?_)
  clear hK K
  try simp only [Act.put, List.getElem_toArray, List.getElem_cons_zero, List.getElem_cons_succ, List.setIfInBounds_toArray, List.set_cons_zero, List.set_cons_succ]
  clear c0 c1 c2 c3 c4 c5 c6 fr
  generalize v4.setCell ⟨d, 1, none⟩ (.int .i64 t1) = v5 at *
  refine wpAnyH_take (i := 19) (v := .pointer (some ⟨d, 2, none⟩)) rfl (by kernel_rfl) (by kernel_rfl) (by kernel_rfl) (fun _ _ _ h => h) (Or.inl ⟨by rfl, fun w hSw => by dsimp only at hSw; go_simp⟩) hHeld ?_
  simp only [Act.put, List.getElem_toArray, List.getElem_cons_zero, List.getElem_cons_succ, List.setIfInBounds_toArray, List.set_cons_zero, List.set_cons_succ]
  obtain ⟨c0, c1, c2, c3, c4, c5, c6⟩ := seven_cells D5.out
  have fr := frozen7 D5.out 2
  have D6 := hide (put_at2 D5.out (.int .i64 t2))
  have I6 := hide (inv_set I5.out DB.out 2 (.int .i64 t2))
  refine wpAnyH_ready (rs := [20]) (by kernel_rfl) (by simp) ?_
  refine AllReadyH.cons rfl (fun K hK => ?_) AllReadyH.nil
  go_simp
  refine hK.out _ _ (SH.out _ I6.out) (fun hHeld => ?_)
  clear hK K
  try simp only [Act.put, List.getElem_toArray, List.getElem_cons_zero, List.getElem_cons_succ, List.setIfInBounds_toArray, List.set_cons_zero, List.set_cons_succ]
  clear c0 c1 c2 c3 c4 c5 c6 fr
  generalize v5.setCell ⟨d, 2, none⟩ (.int .i64 t2) = v6 at *
  refine wpAnyH_done (by kernel_rfl) ?_ _
  clear hHeld SH T0 T1 T2 D0 D1 D2 D3 D4 D5 I0 I1 I2 I3 I4 I5 I8 N8
  obtain ⟨c0, c1, c2, c3, c4, c5, c6⟩ := seven_cells D6.out
  have f3 := frozen7 D6.out 3
  have D7 := hide (put_at3 D6.out (.slice no L nc))
  have D8 := hide (put_at4 D7.out (.slice xo x.length xc))
  have I7 := hide (inv_set (inv_set I6.out DB.out 3 (.slice no L nc)) DB.out 4 (.slice xo x.length xc))
  obtain ⟨_, _, _, _, g4, _, _⟩ := seven_cells D7.out
  have f4 := frozen7 D7.out 4
  go_upto_region 12 with fail
  generalize (v6.setCell ⟨d, 3, none⟩ (.slice no L nc)).setCell ⟨d, 4, none⟩ (.slice xo x.length xc) = v7 at *
  clear c0 c1 c2 c3 c4 c5 c6 f3 f4 g4 D7 D6
  obtain ⟨c0, c1, c2, c3, c4, c5, c6⟩ := seven_cells D8.out
  have NZ := hide ((I7.out.1.block g GL.out).trans N3.out)
  obtain ⟨z0, z1, z2, z3, z4, z5, z6⟩ := seven_cells NZ.out
  have f0 := frozen7 NZ.out 0
  have f1 := frozen7 NZ.out 1
  have f2 := frozen7 NZ.out 2
  have f3 := frozen7 NZ.out 3
  have f4 := frozen7 NZ.out 4
  have f5 := frozen7 NZ.out 5
  have f6 := frozen7 NZ.out 6
  have NE := hide (put7_same NZ.out (.int .i64 t0) (.int .i64 t1) (.int .i64 t2) (.slice no L nc) (.slice xo x.length xc) (.int .i64 a.fr) (.slice k1' a.cl.length ck1))
  have BE := hide (put7_below (bthen HB.out I7.out.1) HGW.out (.int .i64 t0) (.int .i64 t1) (.int .i64 t2) (.slice no L nc) (.slice xo x.length xc) (.int .i64 a.fr) (.slice k1' a.cl.length ck1))
  have FIN : Hid (DoGood w a s (.returned (.tuple #[.agg #[.int .i64 t0, .int .i64 t1, .int .i64 t2, .slice no L nc, .slice xo x.length xc, .int .i64 a.fr, .slice k1' a.cl.length ck1], .int .i64 0])) (put7 v7 g (.int .i64 t0) (.int .i64 t1) (.int .i64 t2) (.slice no L nc) (.slice xo x.length xc) (.int .i64 a.fr) (.slice k1' a.cl.length ck1))) := do_fin (r := ⟨t0, t1, t2, s.pre ++ a.path, x, a.fr, a.cl⟩) HLA.out HDO.out (mine_hold MN.out HB.out.size (fun b h1 h2 => (put7_other _ _ _ _ _ _ _ _ _ b (Nat.ne_of_gt (Nat.lt_of_lt_of_le GL.out h1))).trans (I7.out.2 b h1 (by rw [HD6.out]; exact h2)))) CMN.out BE.out
  clear MN CMN HDO HLA HD6 DB I7 I6
  go_wp2_with fail
  change bodyPost _ _ _ _ _ (put7 v7 g (.int .i64 t0) (.int .i64 t1) (.int .i64 t2) (.slice no L nc) (.slice xo x.length xc) (.int .i64 a.fr) (.slice k1' a.cl.length ck1))
  generalize put7 v7 g (.int .i64 t0) (.int .i64 t1) (.int .i64 t2) (.slice no L nc) (.slice xo x.length xc) (.int .i64 a.fr) (.slice k1' a.cl.length ck1) = w9 at *
  obtain ⟨y0, y1, y2, y3, y4, y5, y6⟩ := seven_cells NE.out
  refine bodyPost_ret (v := .tuple #[.agg #[.int .i64 t0, .int .i64 t1, .int .i64 t2, .slice no L nc, .slice xo x.length xc, .int .i64 a.fr, .slice k1' a.cl.length ck1], .int .i64 0]) ?_ rfl FIN.out
  simp [results, Tryz.results78, go_sem, y0, y1, y2, y3, y4, y5, y6]
end Go.Proofs.YtngfoijmknclhaaGreatDoor
