/- Part of the proof. -/
import Derived.Test.YtnadhplhnfpeaaaGreatDoorAZ
import Derived.Test.YtnadhplhnfpeaaaGreatDoorA15
namespace Go.Proofs.YtnadhplhnfpeaaaGreatDoor
open Go.RowKit Go.Sort
abbrev zClV : List Value := [.int .i64 0, .bool false, .string ⟨#[]⟩, .string ⟨#[]⟩, .int .i64 0, .int .i64 0, .int .i64 0, .int .i64 0, .int .i64 0, .slice none 0 0, .slice none 0 0, .bool false, .slice none 0 0]
theorem infoCl : (Tryz.prog.info? 81).map (fun i => (i.zero, i.size, i.bytes)) = some (some (.agg zClV.toArray), 13, 168) := by kernel_rfl
theorem info_partsCl : ∃ i0 : TypeInfo, Tryz.prog.info? 81 = some i0 ∧ i0.zero = some (.agg zClV.toArray) ∧ i0.size = 13 ∧ i0.bytes = 168 := by
 have h := infoCl
 cases hi : Tryz.prog.info? 81 with
 | none => rw [hi] at h; cases h
 | some i0 =>
  rw [hi] at h
  simp only [Option.map_some, Option.some.injEq, Prod.mk.injEq] at h
  exact ⟨i0, rfl, h.1, h.2.1, h.2.2⟩
theorem cells_reads {w : World} {g y : Nat} {cs : List Value} (hc : w.heap[g]? = some (.cells cs.toArray y (0, 0))) (j : Nat) (u : Value) (hu : cs[j]? = some u) : w.cell? ((⟨g, 0, none⟩ : Addr).add j) = some u := by
 by_cases hj : j = 0
 ·
  subst hj; simp [Addr.add, World.cell?, hc, hu]
 simp [Addr.add, World.cell?, hc, hu, hj]
theorem cell_in {w : World} {g y : Nat} {cs : List Value} (hc : w.heap[g]? = some (.cells cs.toArray y (0, 0))) (j : Nat) (u : Value) (hu : cs[j]? = some u) : w.cell? ⟨g, j, none⟩ = some u := by
 simp [World.cell?, hc, hu]
theorem unfrozen {w : World} {g y : Nat} {cs : Array Value} (hc : w.heap[g]? = some (.cells cs y (0, 0))) (j : Nat) : w.frozen? ⟨g, j, none⟩ = false := by
 simp [World.frozen?, hc]
theorem RowOf.far {α : Type} {R : World → α → List Value → Prop} {T : Nat → Prop} (hR : Keeps T R) {w w' : World} {S : Nat → Prop} {B ty z : Nat} {v : Value} {l : List α} (h : RowOf w B ty z R v l) (hb : But S w w') (ha : AvT T w S) (hn : ∀ g, v.ownBlock = some g → ¬ S g) : RowOf w' B ty z R v l := by
 obtain ⟨xs, h1, h2⟩ := h
 exact ⟨xs, h1.mono (fun _ _ => hR _ _ _ _ _ hb ha), row_but h2 hb hn⟩
theorem cl_set {w : World} {b y : Nat} {x0 x1 x2 x3 x4 x5 x6 x7 x8 x9 x10 x11 x12 : Value} (h : w.heap[b]? = some (.cells #[x0, x1, x2, x3, x4, x5, x6, x7, x8, x9, x10, x11, x12] y (0, 0))) (v2 v3 v4 v5 v6 v7 v8 v9 v10 v11 v12 : Value) : (((((((((((w.setCell ⟨b, 2, none⟩ v2).setCell ⟨b, 3, none⟩ v3).setCell ⟨b, 4, none⟩ v4).setCell ⟨b, 5, none⟩ v5).setCell ⟨b, 6, none⟩ v6).setCell ⟨b, 7, none⟩ v7).setCell ⟨b, 8, none⟩ v8).setCell ⟨b, 9, none⟩ v9).setCell ⟨b, 10, none⟩ v10).setCell ⟨b, 11, none⟩ v11).setCell ⟨b, 12, none⟩ v12).heap[b]? = some (.cells #[x0, x1, v2, v3, v4, v5, v6, v7, v8, v9, v10, v11, v12] y (0, 0)) := by
 have h2 : (w.setCell ⟨b, 2, none⟩ v2).heap[b]? = some (.cells #[x0, x1, v2, x3, x4, x5, x6, x7, x8, x9, x10, x11, x12] y (0, 0)) := heap_setCell_same _ b 2 _ y v2 h
 have h3 : ((w.setCell ⟨b, 2, none⟩ v2).setCell ⟨b, 3, none⟩ v3).heap[b]? = some (.cells #[x0, x1, v2, v3, x4, x5, x6, x7, x8, x9, x10, x11, x12] y (0, 0)) := heap_setCell_same _ b 3 _ y v3 h2
 have h4 : (((w.setCell ⟨b, 2, none⟩ v2).setCell ⟨b, 3, none⟩ v3).setCell ⟨b, 4, none⟩ v4).heap[b]? = some (.cells #[x0, x1, v2, v3, v4, x5, x6, x7, x8, x9, x10, x11, x12] y (0, 0)) := heap_setCell_same _ b 4 _ y v4 h3
 have h5 : ((((w.setCell ⟨b, 2, none⟩ v2).setCell ⟨b, 3, none⟩ v3).setCell ⟨b, 4, none⟩ v4).setCell ⟨b, 5, none⟩ v5).heap[b]? = some (.cells #[x0, x1, v2, v3, v4, v5, x6, x7, x8, x9, x10, x11, x12] y (0, 0)) := heap_setCell_same _ b 5 _ y v5 h4
 have h6 : (((((w.setCell ⟨b, 2, none⟩ v2).setCell ⟨b, 3, none⟩ v3).setCell ⟨b, 4, none⟩ v4).setCell ⟨b, 5, none⟩ v5).setCell ⟨b, 6, none⟩ v6).heap[b]? = some (.cells #[x0, x1, v2, v3, v4, v5, v6, x7, x8, x9, x10, x11, x12] y (0, 0)) := heap_setCell_same _ b 6 _ y v6 h5
 have h7 : ((((((w.setCell ⟨b, 2, none⟩ v2).setCell ⟨b, 3, none⟩ v3).setCell ⟨b, 4, none⟩ v4).setCell ⟨b, 5, none⟩ v5).setCell ⟨b, 6, none⟩ v6).setCell ⟨b, 7, none⟩ v7).heap[b]? = some (.cells #[x0, x1, v2, v3, v4, v5, v6, v7, x8, x9, x10, x11, x12] y (0, 0)) := heap_setCell_same _ b 7 _ y v7 h6
 have h8 : (((((((w.setCell ⟨b, 2, none⟩ v2).setCell ⟨b, 3, none⟩ v3).setCell ⟨b, 4, none⟩ v4).setCell ⟨b, 5, none⟩ v5).setCell ⟨b, 6, none⟩ v6).setCell ⟨b, 7, none⟩ v7).setCell ⟨b, 8, none⟩ v8).heap[b]? = some (.cells #[x0, x1, v2, v3, v4, v5, v6, v7, v8, x9, x10, x11, x12] y (0, 0)) := heap_setCell_same _ b 8 _ y v8 h7
 have h9 : ((((((((w.setCell ⟨b, 2, none⟩ v2).setCell ⟨b, 3, none⟩ v3).setCell ⟨b, 4, none⟩ v4).setCell ⟨b, 5, none⟩ v5).setCell ⟨b, 6, none⟩ v6).setCell ⟨b, 7, none⟩ v7).setCell ⟨b, 8, none⟩ v8).setCell ⟨b, 9, none⟩ v9).heap[b]? = some (.cells #[x0, x1, v2, v3, v4, v5, v6, v7, v8, v9, x10, x11, x12] y (0, 0)) := heap_setCell_same _ b 9 _ y v9 h8
 have h10 : (((((((((w.setCell ⟨b, 2, none⟩ v2).setCell ⟨b, 3, none⟩ v3).setCell ⟨b, 4, none⟩ v4).setCell ⟨b, 5, none⟩ v5).setCell ⟨b, 6, none⟩ v6).setCell ⟨b, 7, none⟩ v7).setCell ⟨b, 8, none⟩ v8).setCell ⟨b, 9, none⟩ v9).setCell ⟨b, 10, none⟩ v10).heap[b]? = some (.cells #[x0, x1, v2, v3, v4, v5, v6, v7, v8, v9, v10, x11, x12] y (0, 0)) := heap_setCell_same _ b 10 _ y v10 h9
 have h11 : ((((((((((w.setCell ⟨b, 2, none⟩ v2).setCell ⟨b, 3, none⟩ v3).setCell ⟨b, 4, none⟩ v4).setCell ⟨b, 5, none⟩ v5).setCell ⟨b, 6, none⟩ v6).setCell ⟨b, 7, none⟩ v7).setCell ⟨b, 8, none⟩ v8).setCell ⟨b, 9, none⟩ v9).setCell ⟨b, 10, none⟩ v10).setCell ⟨b, 11, none⟩ v11).heap[b]? = some (.cells #[x0, x1, v2, v3, v4, v5, v6, v7, v8, v9, v10, v11, x12] y (0, 0)) := heap_setCell_same _ b 11 _ y v11 h10
 have h12 : (((((((((((w.setCell ⟨b, 2, none⟩ v2).setCell ⟨b, 3, none⟩ v3).setCell ⟨b, 4, none⟩ v4).setCell ⟨b, 5, none⟩ v5).setCell ⟨b, 6, none⟩ v6).setCell ⟨b, 7, none⟩ v7).setCell ⟨b, 8, none⟩ v8).setCell ⟨b, 9, none⟩ v9).setCell ⟨b, 10, none⟩ v10).setCell ⟨b, 11, none⟩ v11).setCell ⟨b, 12, none⟩ v12).heap[b]? = some (.cells #[x0, x1, v2, v3, v4, v5, v6, v7, v8, v9, v10, v11, v12] y (0, 0)) := heap_setCell_same _ b 12 _ y v12 h11
 exact h12
structure MapInv (E : En) (bx mb lb : Nat) (nm : ByteArray) (w : World) (S : Nat → Prop) (l : List Cl) : Prop where
  box : w.heap[bx]? = some (.cells #[.pointer (some ⟨E.pb, 0, none⟩)] 59 (0, 0))
  row : ∃ v, w.heap[mb]? = some (.cells #[.string nm, v] 70 (0, 0)) ∧ RowOf w (lb + 1) 81 13 (ClC (lb + 1)) v l ∧ ∀ k, S k ↔ (k = mb ∨ k = lb) ∨ v.ownBlock = some k
  last : w.heap[lb]? = some (.cells #[.int .i64 (lastN l)] 3 (0, 0)) ∧ 0 ≤ lastN l ∧ lastN l ≤ 65535
  base : E.w0.heap.size ≤ mb ∧ mb ≠ E.pb ∧ E.w0.heap.size ≤ lb ∧ lb ≠ E.pb
  many : l.length ≤ 17
theorem lastN_app (l : List Cl) (c : Cl) : lastN (l ++ [c]) = c.n := by simp [lastN]
theorem MapInv.keep {E : En} {bx mb lb : Nat} {nm : ByteArray} {w w' : World} {S X : Nat → Prop} {l : List Cl} (h : MapInv E bx mb lb nm w S l) (hb : But X w w') (ha : ∀ t, t ≠ 62 → t ≠ 95 → Av w X t) : MapInv E bx mb lb nm w' S l := by
 obtain ⟨v, h1, h2, h3⟩ := h.row
 exact ⟨hb.keep h.box (ha 59 (by decide) (by decide) _ _ h.box), ⟨v, hb.keep h1 (ha 70 (by decide) (by decide) _ _ h1), RowOf.keep (ClC.keeps _) h2 hb (fun t ht => ha t (by rcases ht with rfl | rfl <;> decide) (by rcases ht with rfl | rfl <;> decide)) (ha 81 (by decide) (by decide)), h3⟩, ⟨hb.keep h.last.1 (ha 3 (by decide) (by decide) _ _ h.last.1), h.last.2⟩, h.base, h.many⟩
theorem mapPart_exec (F : Fn) (f : Nat) (en : Int × Int) (l : List Cl) (k : Int) (s : ByteArray) {t : Tv} {st : Sta} (h : At t st) : (pMapPart F f l k s).exec en st = (let st1 := faulted t (if 16 ≤ l.length then 2 else 0) (faulted t (okE k s) st)
    let t2 := (taken en st1).1
    let st2 := faulted t2 (F.num (wd t2.k t2.s) (lastN l + 1) 65535).2 (taken en st1).2
    ((pClause F f).bind fun c => Pg.ret (l ++ [⟨(F.num (wd t2.k t2.s) (lastN l + 1) 65535).1, okB k s, c.m, c.s⟩])).exec en st2) := by
  unfold pMapPart
  rw [okv_bind en _ _ st _ _ (ok_exec en k s h), room_bind, exec_if en (faulted_at h) (by decide), exec_next, num_bind F _ _ en _ (taken_at en _)]
def MpTo (E : En) (bx mb lb : Nat) (nm : ByteArray) (S : Nat → Prop) (R : Option (List Cl) × Sta) (w w' : World) : Prop := ∃ y S', MapInv E bx mb lb nm w' S' y ∧ But (orS E.pb S) w w' ∧ (∀ k, S' k → S k ∨ w.heap.size ≤ k) ∧ Ps E w' R.2 ∧ ∀ a, R.1 = some a → y = a
set_option maxHeartbeats 8000000 in
set_option maxRecDepth 100000 in
theorem mapPart_is {T : World → Prop} {F : Fn} (K : Kit12 T F) (E : En) (hT : T E.w0) (f : Nat) (hf : 100000 < f) (bx mb lb : Nat) (nm : ByteArray) (w : World) (S : Nat → Prop) (l : List Cl) (st : Sta) (t : Tv) (h : Ps E w st) (hi0 : MapInv E bx mb lb nm w S l) (hat : At t st) (hl : l.length ≤ 16) : Calls Tryz.prog 66 #[t.val, .pointer (some ⟨bx, 0, none⟩), .pointer (some ⟨mb, 0, none⟩), .pointer (some ⟨lb, 0, none⟩)] w fun e w' => e = .returned (.tuple #[]) ∧ MpTo E bx mb lb nm S ((pMapPart F f l t.k t.s).exec E.en st) w w' := by
 obtain ⟨i0, hi, hz0, hz1, hz2⟩ := info_partsCl
 unfold MpTo
 rw [mapPart_exec F f E.en l t.k t.s hat]
 simp only
 have CP := hide (permits_is E st t)
 have CO := hide (room_is E (faulted t (okE t.k t.s) st) t l.length 16)
 obtain ⟨stB, hstB⟩ : ∃ stB, faulted t (if 16 ≤ l.length then 2 else 0) (faulted t (okE t.k t.s) st) = stB := ⟨_, rfl⟩
 rw [hstB] at CO ⊢
 clear hstB
 have CP2 : Hid (∀ W, Ps E W st → Calls Tryz.prog 64 #[.pointer (some ⟨E.pb, 0, none⟩), t.val] W fun r w' => r = .returned (.bool (okB t.k t.s)) ∧ But (but1 E.pb) W w' ∧ Ps E w' (faulted t (okE t.k t.s) st)) := CP
 obtain ⟨ok, hok⟩ : ∃ ok, okB t.k t.s = ok := ⟨_, rfl⟩
 rw [hok] at CP2 ⊢
 obtain ⟨stA, hstA⟩ : ∃ stA, faulted t (okE t.k t.s) st = stA := ⟨_, rfl⟩
 rw [hstA] at CP2 CO
 have CN := hide (next_is E stB)
 have HZ2 := hide (fun W (hW : Ps E W stB) => taken_size hW)
 have CX := hide (fun W hW (hz : (taken E.en stB).1.s.size ≤ 1000) => number_is K E (taken E.en stB).2 (taken E.en stB).1 (lastN l + 1) 65535 W hW hT hz)
 have HFI := hide (K.fits (wd (taken E.en stB).1.k (taken E.en stB).1.s) (lastN l + 1) 65535)
 obtain ⟨num, hnum⟩ : ∃ num, (F.num (wd (taken E.en stB).1.k (taken E.en stB).1.s) (lastN l + 1) 65535).1 = num := ⟨_, rfl⟩
 rw [hnum] at CX HFI ⊢
 obtain ⟨stD, hstD⟩ : ∃ stD, faulted (taken E.en stB).1 (F.num (wd (taken E.en stB).1.k (taken E.en stB).1.s) (lastN l + 1) 65535).2 (taken E.en stB).2 = stD := ⟨_, rfl⟩
 rw [hstD] at CX ⊢
 clear hstD hnum
 have CC := hide (fun W hW => clause_is K E hT f hf stD W hW)
 unfold ClTo at CC
 have HEX := hide (fun y hy => exec_map E.en (pClause F f) (fun c => l ++ [(⟨num, ok, c.m, c.s⟩ : Cl)]) stD y hy)
 obtain ⟨R, hR⟩ : ∃ R, ((pClause F f).bind fun c => Pg.ret (l ++ [(⟨num, ok, c.m, c.s⟩ : Cl)])).exec E.en stD = R := ⟨_, rfl⟩
 rw [hR] at HEX ⊢
 clear hR hok hstA CP hat
 generalize (pClause F f).exec E.en stD = RC at *
 generalize (taken E.en stB).2 = stC at *
 generalize (taken E.en stB).1 = t2 at *
 obtain ⟨v, hmb, how, hSk⟩ := hi0.row
 have HL0 := hide hi0.last.2
 have HNP := hide (h.av (t := 81) (by decide))
 have HSO : Hid (∀ k, v.ownBlock = some k → S k) := fun k hk => (hSk k).2 (.inr hk)
 have HSM : Hid (S mb ∧ S lb) := ⟨(hSk mb).2 (.inl (.inl rfl)), (hSk lb).2 (.inl (.inr rfl))⟩
 have HSK := hide hSk
 have HBB := hide hi0.base
 obtain ⟨ao, c, hv⟩ := how.slice
 subst hv
 have A0 := hide (balloc (brefl w) (.cells #[.int .i64 t.k, .string t.s, .int .i64 t.p, .int .i64 t.q] 95))
 have M0 := hide (heap_new w #[.int .i64 t.k, .string t.s, .int .i64 t.p, .int .i64 t.q] 95)
 have P0 := hide (h.below A0.out)
 have X0 := hide ((A0.out.block bx (heap_lt hi0.box)).trans hi0.box)
 have L0 := hide ((A0.out.block mb (heap_lt hmb)).trans hmb)
 have N0 := hide ((A0.out.block lb (heap_lt hi0.last.1)).trans hi0.last.1)
 have O0 := hide (RowOf.keep (ClC.keeps _) how (But.of (S := fun _ => False) A0.out) (AvT.none _ _) (fun _ _ _ h => h))
 have HPB := hide h.lt
 have HLW : Hid (lb + 1 ≤ w.heap.size) := heap_lt hi0.last.1
 obtain ⟨N, hN⟩ : ∃ N, l.length = N := ⟨_, rfl⟩
 have HN := hide hN
 rw [hN] at L0 O0 CO hl HSO HSK
 obtain ⟨la, hla⟩ : ∃ la, lastN l = la := ⟨_, rfl⟩
 rw [hla] at N0 CX HFI HL0
 clear hN how hmb hSk hi0 h hT hla
 obtain ⟨W0, pb, en⟩ := E
 obtain ⟨tk, tt, tp, tq⟩ := t
 obtain ⟨uk, ut, up, uq⟩ := t2
 simp only [Tv.val] at *
 go_enter Tryz.func66, Tryz.ntmps66
 go_upto_region 1 with fail
 obtain ⟨tb, htb⟩ : ∃ tb, w.heap.size = tb := ⟨_, rfl⟩
 rw [htb] at M0 ⊢
 have B0 := hide (But.of (S := orS pb S) A0.out)
 generalize w.alloc (.cells #[.int .i64 tk, .string tt, .int .i64 tp, .int .i64 tq] 95) = W at *
 clear htb A0
 obtain ⟨⟨c0, c1, c2, c3⟩, _⟩ := four_cells M0.out
 obtain ⟨b0, _⟩ := one_cell X0.out
 go_wp2_with fail
 refine (CP2.out _ P0.out).mono ?_
 rintro e w1 ⟨rfl, b1, p1⟩
 have PA := P0.out
 have P1 := hide p1
 have B1 := hide (B0.out.trans (b1.mono fun k _ e => .inl e))
 have X1 := hide (b1.keep X0.out (PA.av (by decide) _ _ X0.out))
 have L1 := hide (b1.keep L0.out (PA.av (by decide) _ _ L0.out))
 have N1 := hide (b1.keep N0.out (PA.av (by decide) _ _ N0.out))
 have O1 := hide (RowOf.keep (ClC.keeps _) O0.out b1 (fun t ht => PA.av (by rcases ht with rfl | rfl <;> decide)) (PA.av (by decide)))
 have M1 := hide (b1.keep M0.out (PA.av (by decide) _ _ M0.out))
 clear PA b1 p1 CP2 c0 c1 c2 c3 b0 P0 B0 X0 L0 N0 O0 M0
 -- the clause's box
 go_upto_region 2 with fail
 have a2 := balloc (brefl w1) (.cells #[.int .i64 0, .bool ok, .string ⟨#[]⟩, .string ⟨#[]⟩, .int .i64 0, .int .i64 0, .int .i64 0, .int .i64 0, .int .i64 0, .slice none 0 0, .slice none 0 0, .bool false, .slice none 0 0] 81)
 have C2 := hide (heap_new w1 #[.int .i64 0, .bool ok, .string ⟨#[]⟩, .string ⟨#[]⟩, .int .i64 0, .int .i64 0, .int .i64 0, .int .i64 0, .int .i64 0, .slice none 0 0, .slice none 0 0, .bool false, .slice none 0 0] 81)
 have P2 := hide (P1.out.below a2)
 have B2 := hide (B1.out.trans (But.of a2))
 have X2 := hide ((a2.block bx (heap_lt X1.out)).trans X1.out)
 have L2 := hide ((a2.block mb (heap_lt L1.out)).trans L1.out)
 have N2 := hide ((a2.block lb (heap_lt N1.out)).trans N1.out)
 have O2 := hide (RowOf.keep (ClC.keeps _) O1.out (But.of (S := fun _ => False) a2) (AvT.none _ _) (fun _ _ _ h => h))
 have M2 := hide ((a2.block tb (heap_lt M1.out)).trans M1.out)
 obtain ⟨cb, hcb⟩ : ∃ cb, w1.heap.size = cb := ⟨_, rfl⟩
 have HCB : Hid (w.heap.size ≤ cb ∧ W0.heap.size ≤ cb ∧ lb < cb ∧ ∀ g, Value.ownBlock (.slice ao N c) = some g → g ≠ cb) := by
  have h1 := B1.out.size
  have h2 := P1.out.1.size
  simp only at h2
  exact ⟨by omega, by omega, by have := heap_lt N1.out; omega, fun g hg => by have := (O1.out.lt g hg).2.1; omega⟩
 rw [hcb] at C2 ⊢
 generalize w1.alloc (.cells #[.int .i64 0, .bool ok, .string ⟨#[]⟩, .string ⟨#[]⟩, .int .i64 0, .int .i64 0, .int .i64 0, .int .i64 0, .int .i64 0, .slice none 0 0, .slice none 0 0, .bool false, .slice none 0 0] 81) = W2 at *
 clear hcb a2 P1 B1 X1 L1 N1 O1 M1
 obtain ⟨⟨c0, c1, c2, c3⟩, _⟩ := four_cells M2.out
 obtain ⟨b0, _⟩ := one_cell X2.out
 obtain ⟨l0, l1, _, _⟩ := two_cells L2.out
 go_wp2_with fail
 refine (CO.out _ P2.out).mono ?_
 rintro e w3 ⟨rfl, b3, p3⟩
 have PA := P2.out
 have P3 := hide p3
 have B3 := hide (B2.out.trans (b3.mono fun k _ e => .inl e))
 have X3 := hide (b3.keep X2.out (PA.av (by decide) _ _ X2.out))
 have L3 := hide (b3.keep L2.out (PA.av (by decide) _ _ L2.out))
 have N3 := hide (b3.keep N2.out (PA.av (by decide) _ _ N2.out))
 have C3 := hide (b3.keep C2.out (PA.av (by decide) _ _ C2.out))
 have O3 := hide (RowOf.keep (ClC.keeps _) O2.out b3 (fun t ht => PA.av (by rcases ht with rfl | rfl <;> decide)) (PA.av (by decide)))
 clear PA b3 p3 CO c0 c1 c2 c3 b0 l0 l1 P2 B2 X2 L2 N2 O2 M2 C2
 -- the number
 go_upto_region 3 with fail
 have d3 := Below.drew (brefl w3)
 have P4 := hide (P3.out.below d3)
 have B4 := hide (B3.out.trans (But.of d3))
 have X4 := hide ((d3.block bx (heap_lt X3.out)).trans X3.out)
 have L4 := hide ((d3.block mb (heap_lt L3.out)).trans L3.out)
 have N4 := hide ((d3.block lb (heap_lt N3.out)).trans N3.out)
 have C4 := hide ((d3.block cb (heap_lt C3.out)).trans C3.out)
 have O4 := hide (RowOf.keep (ClC.keeps _) O3.out (But.of (S := fun _ => False) d3) (AvT.none _ _) (fun _ _ _ h => h))
 refine wp_region_held_drew (S := (fun w' => w'.cell? ⟨bx, 0, none⟩ = some (.pointer (some ⟨pb, 0, none⟩)) ∧ w'.cell? ⟨lb, 0, none⟩ = some (.int .i64 la))) (by kernel_rfl) ⟨(one_cell X4.out).1, (one_cell N4.out).1⟩ (fun hHeld => ?_)
 clear d3 P3 B3 X3 L3 N3 C3 O3
 generalize w3.drew = w4 at *
 refine tak 0 (.pointer (some ⟨pb, 0, none⟩)) rfl (Or.inl ⟨by rfl, fun w hSw => by obtain ⟨g0, _⟩ := hSw; go_simp⟩) hHeld ?_
 simp only [Act.put, g1, g2, g4, g5, g6]
 refine tak 1 (.pointer (some ⟨pb, 0, none⟩)) rfl (Or.inl ⟨by rfl, fun w hSw => by obtain ⟨g0, _⟩ := hSw; go_simp⟩) hHeld ?_
 simp only [Act.put, g1, g2, g3, g4, g5, g6]
 refine tak 3 (.int .i64 la) rfl (Or.inl ⟨by rfl, fun w hSw => by obtain ⟨_, g0⟩ := hSw; go_simp⟩) hHeld ?_
 simp only [Act.put, g1, g2, g3, g4, g5, g6]
 refine tak 4 (.int .i64 (la + 1)) rfl (Or.inl ⟨by rfl, fun w hSw => by have h9 := HL0.out; go_simp; try (rw [IntKind.wrap_i64] <;> omega)⟩) hHeld ?_
 simp only [Act.put, g1, g2, g3, g4, g5, g6]
 refine rdy 2 (by kernel_rfl) rfl fun K hK => ?_
 have HZ := hide (HZ2.out _ P4.out)
 go_simp
 go_wp2_with (refine (CN.out _ P4.out).mono ?_; rintro e w5 ⟨rfl, b5, p5⟩)
 have PA := P4.out
 have P5 := hide p5
 have B5 := hide (B4.out.trans (b5.mono fun k _ e => .inl e))
 have X5 := hide (b5.keep X4.out (PA.av (by decide) _ _ X4.out))
 have L5 := hide (b5.keep L4.out (PA.av (by decide) _ _ L4.out))
 have N5 := hide (b5.keep N4.out (PA.av (by decide) _ _ N4.out))
 have C5 := hide (b5.keep C4.out (PA.av (by decide) _ _ C4.out))
 have O5 := hide (RowOf.keep (ClC.keeps _) O4.out b5 (fun t ht => PA.av (by rcases ht with rfl | rfl <;> decide)) (PA.av (by decide)))
 clear PA b5 p5 P4 B4 X4 L4 N4 C4 O4 CN
 refine hK.out _ _ ⟨(one_cell X5.out).1, (one_cell N5.out).1⟩ (fun hHeld => ?_)
 clear hK K
 try simp only [Act.put, g1, g2, g3, g4, g5, g6]
 refine rdy 5 (by kernel_rfl) rfl fun K hK => ?_
 go_simp
 go_wp2_with (refine (CX.out _ P5.out HZ.out).mono ?_; rintro e w6 ⟨rfl, b6, p6⟩)
 have PA := P5.out
 have P6 := hide p6
 have B6 := hide (B5.out.trans (b6.mono fun k _ e => .inl e))
 have X6 := hide (b6.keep X5.out (PA.av (by decide) _ _ X5.out))
 have L6 := hide (b6.keep L5.out (PA.av (by decide) _ _ L5.out))
 have N6 := hide (b6.keep N5.out (PA.av (by decide) _ _ N5.out))
 have C6 := hide (b6.keep C5.out (PA.av (by decide) _ _ C5.out))
 have O6 := hide (RowOf.keep (ClC.keeps _) O5.out b6 (fun t ht => PA.av (by rcases ht with rfl | rfl <;> decide)) (PA.av (by decide)))
 clear PA b6 p6 P5 B5 X5 L5 N5 C5 O5 CX HZ2
 refine hK.out _ _ ⟨(one_cell X6.out).1, (one_cell N6.out).1⟩ (fun hHeld => ?_)
 clear hK K
 try simp only [Act.put, g1, g2, g3, g4, g5, g6]
 refine tak 6 (.pointer (some ⟨cb, 0, none⟩)) rfl (Or.inl ⟨by rfl, fun w hSw => by dsimp only at hSw; go_simp⟩) hHeld ?_
 simp only [Act.put, g1, g2, g3, g4, g5, g6]
 refine rdy 7 (by kernel_rfl) rfl fun K hK => ?_
 have c0 := cell_in (cs := [.int .i64 0, .bool ok, .string ⟨#[]⟩, .string ⟨#[]⟩, .int .i64 0, .int .i64 0, .int .i64 0, .int .i64 0, .int .i64 0, .slice none 0 0, .slice none 0 0, .bool false, .slice none 0 0]) C6.out 0 (.int .i64 0) rfl
 have f0 := unfrozen C6.out 0
 go_simp
 have a7 := (But.refl (fun k => k = cb) w6).setCell (p := ⟨cb, 0, none⟩) (.inl rfl) (.int .i64 num)
 have avc := fun t (ht : (81 : Nat) ≠ t) => av_one C6.out ht
 have C7 := hide (heap_setCell_same _ cb 0 _ 81 (.int .i64 num) C6.out)
 have P7 := hide (P6.out.of a7 (fun e => P6.out.av (by decide) _ _ C6.out e.symm) (fun k e => by rw [show k = cb from e]; exact HCB.out.2.1))
 have B7 := hide (B6.out.setCell (p := ⟨cb, 0, none⟩) (.inr HCB.out.1) (.int .i64 num))
 have X7 := hide (a7.keep X6.out (avc 59 (by decide) _ _ X6.out))
 have L7 := hide (a7.keep L6.out (avc 70 (by decide) _ _ L6.out))
 have N7 := hide (a7.keep N6.out (avc 3 (by decide) _ _ N6.out))
 have O7 := hide (RowOf.far (ClC.keeps _) O6.out a7 (fun t ht => avc t (by rcases ht with rfl | rfl <;> decide)) (fun g hg e => HCB.out.2.2.2 g hg e))
 clear a7 avc P6 B6 X6 L6 N6 C6 O6 c0 f0
 refine hK.out _ _ ⟨(one_cell X7.out).1, (one_cell N7.out).1⟩ (fun hHeld => ?_)
 clear hK K
 try simp only [Act.put, g1, g2, g3, g4, g5, g6]
 generalize w6.setCell ⟨cb, 0, none⟩ (.int .i64 num) = w7 at *
 refine wpAnyH_done (by kernel_rfl) ?_ _
 clear hHeld
 -- what the clause asks for and sets
 obtain ⟨b0, _⟩ := one_cell X7.out
 go_wp2_with fail
 refine (CC.out _ P7.out).mono ?_
 rintro e w8 ⟨m8, s8, va, vd, vp, rfl, ra, rd, rp, b8, p8, v8⟩
 have PA := P7.out
 have P8 := hide p8
 have B8 := hide (B7.out.trans (b8.mono fun k _ e => .inl e))
 have X8 := hide (b8.keep X7.out (PA.av (by decide) _ _ X7.out))
 have L8 := hide (b8.keep L7.out (PA.av (by decide) _ _ L7.out))
 have N8 := hide (b8.keep N7.out (PA.av (by decide) _ _ N7.out))
 have C8 := hide (b8.keep C7.out (PA.av (by decide) _ _ C7.out))
 have O8 := hide (RowOf.keep (ClC.keeps _) O7.out b8 (fun t ht => PA.av (by rcases ht with rfl | rfl <;> decide)) (PA.av (by decide)))
 have HL7 : Hid (lb + 1 ≤ w7.heap.size) := heap_lt N7.out
 have RA := hide (row_from (B' := lb + 1) ra (fun g hg => Nat.le_trans HL7.out (ra.lt g hg).1))
 have RD := hide (row_from (B' := lb + 1) rd (fun g hg => Nat.le_trans HL7.out (rd.lt g hg).1))
 have RP := hide (row_from (B' := lb + 1) rp (fun g hg => Nat.le_trans HL7.out (rp.lt g hg).1))
 have HV := hide v8
 have HEX2 := hide (fun (a : Cs) (ha : RC.1 = some a) => v8 a ha)
 clear PA b8 p8 v8 ra rd rp P7 B7 X7 L7 N7 C7 O7 CC b0 HL7
 obtain ⟨ao1, n1, k1, hv1⟩ := own_slice RA.out
 obtain ⟨ao2, n2, k2, hv2⟩ := own_slice RD.out
 obtain ⟨ao3, n3, k3, hv3⟩ := own_slice RP.out
 subst hv1 hv2 hv3
 obtain ⟨ml, mp, mca, mcn⟩ := m8
 obtain ⟨sp, sm, so, sa, sd, scl, spr⟩ := s8
 simp only at RA RD RP HV HEX2
 have cs8 := fun (j : Nat) (u : Value) => cell_in (cs := [.int .i64 num, .bool ok, .string ⟨#[]⟩, .string ⟨#[]⟩, .int .i64 0, .int .i64 0, .int .i64 0, .int .i64 0, .int .i64 0, .slice none 0 0, .slice none 0 0, .bool false, .slice none 0 0]) C8.out j u
 have c2 := cs8 2 _ rfl
 have c3 := cs8 3 _ rfl
 have c4 := cs8 4 _ rfl
 have c5 := cs8 5 _ rfl
 have c6 := cs8 6 _ rfl
 have c7 := cs8 7 _ rfl
 have c8 := cs8 8 _ rfl
 have c9 := cs8 9 _ rfl
 have c10 := cs8 10 _ rfl
 have c11 := cs8 11 _ rfl
 have c12 := cs8 12 _ rfl
 have f2 := unfrozen C8.out 2
 have f3 := unfrozen C8.out 3
 have f4 := unfrozen C8.out 4
 have f5 := unfrozen C8.out 5
 have f6 := unfrozen C8.out 6
 have f7 := unfrozen C8.out 7
 have f8 := unfrozen C8.out 8
 have f9 := unfrozen C8.out 9
 have f10 := unfrozen C8.out 10
 have f11 := unfrozen C8.out 11
 have f12 := unfrozen C8.out 12
 clear cs8
 go_upto_region 5 with fail
 have a9 := ((((((((((((But.refl (fun k => k = cb) w8).setCell (p := ⟨cb, 2, none⟩) (.inl rfl) (.string ml)).setCell (p := ⟨cb, 3, none⟩) (.inl rfl) (.string mp)).setCell (p := ⟨cb, 4, none⟩) (.inl rfl) (.int .i64 mca)).setCell (p := ⟨cb, 5, none⟩) (.inl rfl) (.int .i64 mcn)).setCell (p := ⟨cb, 6, none⟩) (.inl rfl) (.int .i64 sp)).setCell (p := ⟨cb, 7, none⟩) (.inl rfl) (.int .i64 sm)).setCell (p := ⟨cb, 8, none⟩) (.inl rfl) (.int .i64 so)).setCell (p := ⟨cb, 9, none⟩) (.inl rfl) (.slice ao1 n1 k1)).setCell (p := ⟨cb, 10, none⟩) (.inl rfl) (.slice ao2 n2 k2)).setCell (p := ⟨cb, 11, none⟩) (.inl rfl) (.bool scl)).setCell (p := ⟨cb, 12, none⟩) (.inl rfl) (.slice ao3 n3 k3))
 have avc := fun t (ht : (81 : Nat) ≠ t) => av_one C8.out ht
 have C9 := hide (cl_set C8.out (.string ml) (.string mp) (.int .i64 mca) (.int .i64 mcn) (.int .i64 sp) (.int .i64 sm) (.int .i64 so) (.slice ao1 n1 k1) (.slice ao2 n2 k2) (.bool scl) (.slice ao3 n3 k3))
 have P9 := hide (P8.out.of a9 (fun e => P8.out.av (by decide) _ _ C8.out e.symm) (fun k e => by rw [show k = cb from e]; exact HCB.out.2.1))
 have B9 := hide (((((((((((B8.out.setCell (p := ⟨cb, 2, none⟩) (.inr HCB.out.1) (.string ml)).setCell (p := ⟨cb, 3, none⟩) (.inr HCB.out.1) (.string mp)).setCell (p := ⟨cb, 4, none⟩) (.inr HCB.out.1) (.int .i64 mca)).setCell (p := ⟨cb, 5, none⟩) (.inr HCB.out.1) (.int .i64 mcn)).setCell (p := ⟨cb, 6, none⟩) (.inr HCB.out.1) (.int .i64 sp)).setCell (p := ⟨cb, 7, none⟩) (.inr HCB.out.1) (.int .i64 sm)).setCell (p := ⟨cb, 8, none⟩) (.inr HCB.out.1) (.int .i64 so)).setCell (p := ⟨cb, 9, none⟩) (.inr HCB.out.1) (.slice ao1 n1 k1)).setCell (p := ⟨cb, 10, none⟩) (.inr HCB.out.1) (.slice ao2 n2 k2)).setCell (p := ⟨cb, 11, none⟩) (.inr HCB.out.1) (.bool scl)).setCell (p := ⟨cb, 12, none⟩) (.inr HCB.out.1) (.slice ao3 n3 k3))
 have X9 := hide (a9.keep X8.out (avc 59 (by decide) _ _ X8.out))
 have L9 := hide (a9.keep L8.out (avc 70 (by decide) _ _ L8.out))
 have N9 := hide (a9.keep N8.out (avc 3 (by decide) _ _ N8.out))
 have O9 := hide (RowOf.far (ClC.keeps _) O8.out a9 (fun t ht => avc t (by rcases ht with rfl | rfl <;> decide)) (fun g hg e => HCB.out.2.2.2 g hg e))
 have RA9 := hide (row_av RA.out a9 (avc 73 (by decide)))
 have RD9 := hide (row_av RD.out a9 (avc 73 (by decide)))
 have RP9 := hide (row_av RP.out a9 (avc 3 (by decide)))
 clear a9 avc P8 B8 X8 L8 N8 C8 O8 RA RD RP c2 c3 c4 c5 c6 c7 c8 c9 c10 c11 c12 f2 f3 f4 f5 f6 f7 f8 f9 f10 f11 f12
 generalize (((((((((((w8.setCell ⟨cb, 2, none⟩ (.string ml)).setCell ⟨cb, 3, none⟩ (.string mp)).setCell ⟨cb, 4, none⟩ (.int .i64 mca)).setCell ⟨cb, 5, none⟩ (.int .i64 mcn)).setCell ⟨cb, 6, none⟩ (.int .i64 sp)).setCell ⟨cb, 7, none⟩ (.int .i64 sm)).setCell ⟨cb, 8, none⟩ (.int .i64 so)).setCell ⟨cb, 9, none⟩ (.slice ao1 n1 k1)).setCell ⟨cb, 10, none⟩ (.slice ao2 n2 k2)).setCell ⟨cb, 11, none⟩ (.bool scl)).setCell ⟨cb, 12, none⟩ (.slice ao3 n3 k3)) = w9 at *
 -- the clause put behind
 have cs9 := fun (j : Nat) (u : Value) => cell_in (cs := [.int .i64 num, .bool ok, .string ml, .string mp, .int .i64 mca, .int .i64 mcn, .int .i64 sp, .int .i64 sm, .int .i64 so, .slice ao1 n1 k1, .slice ao2 n2 k2, .bool scl, .slice ao3 n3 k3]) C9.out j u
 have c0 := cs9 0 _ rfl
 have c1 := cs9 1 _ rfl
 have c2 := cs9 2 _ rfl
 have c3 := cs9 3 _ rfl
 have c4 := cs9 4 _ rfl
 have c5 := cs9 5 _ rfl
 have c6 := cs9 6 _ rfl
 have c7 := cs9 7 _ rfl
 have c8 := cs9 8 _ rfl
 have c9 := cs9 9 _ rfl
 have c10 := cs9 10 _ rfl
 have c11 := cs9 11 _ rfl
 have c12 := cs9 12 _ rfl
 clear cs9
 obtain ⟨l0, l1, _, _⟩ := two_cells L9.out
 obtain ⟨xs, al, row⟩ := O9.out
 have AL := hide al
 have ROW := hide row
 have HOL := hide O9.out.lt
 clear al row O9
 have A10 := hide (balloc (brefl w9) (.cells #[.int .i64 num, .bool ok, .string ml, .string mp, .int .i64 mca, .int .i64 mcn, .int .i64 sp, .int .i64 sm, .int .i64 so, .slice ao1 n1 k1, .slice ao2 n2 k2, .bool scl, .slice ao3 n3 k3] 81))
 have N10 := hide (heap_new w9 #[.int .i64 num, .bool ok, .string ml, .string mp, .int .i64 mca, .int .i64 mcn, .int .i64 sp, .int .i64 sm, .int .i64 so, .slice ao1 n1 k1, .slice ao2 n2 k2, .bool scl, .slice ao3 n3 k3] 81)
 have S10 := hide (row_of (w' := w9.alloc (.cells #[.int .i64 num, .bool ok, .string ml, .string mp, .int .i64 mca, .int .i64 mcn, .int .i64 sp, .int .i64 sm, .int .i64 so, .slice ao1 n1 k1, .slice ao2 n2 k2, .bool scl, .slice ao3 n3 k3] 81)) ROW.out (fun g hg => A10.out.block g (ROW.out.lt g hg).2))
 have HSZ : Hid (lb + 1 ≤ (w9.alloc (.cells #[.int .i64 num, .bool ok, .string ml, .string mp, .int .i64 mca, .int .i64 mcn, .int .i64 sp, .int .i64 sm, .int .i64 so, .slice ao1 n1 k1, .slice ao2 n2 k2, .bool scl, .slice ao3 n3 k3] 81)).heap.size) := Nat.le_trans (heap_lt N9.out) A10.out.size
 rw [HN.out] at S10
 go_wp2_with (at_builtin; go_must (refine wpList_append_where rfl _ _ 68 rfl (lb + 1) 81 i0 _ 13 168 Tryz.underlying68 hi hz0 hz1 hz2 rfl (by decide) _ _ _ rfl S10.out ⟨w9.heap.size, 0, none⟩ 1 1 [.int .i64 num, .bool ok, .string ml, .string mp, .int .i64 mca, .int .i64 mcn, .int .i64 sp, .int .i64 sm, .int .i64 so, .slice ao1 n1 k1, .slice ao2 n2 k2, .bool scl, .slice ao3 n3 k3] rfl rfl ?c1 ?c2 ?c3 ?c4 HSZ.out ?_))
 case c1 => exact cells_reads N10.out
 case c2 => intro u hu; simp only [List.mem_cons, List.not_mem_nil, or_false] at hu; rcases hu with rfl | rfl | rfl | rfl | rfl | rfl | rfl | rfl | rfl | rfl | rfl | rfl | rfl <;> rfl
 case c3 => unfold maxLen; omega
 case c4 => omega
 intro v5 w10 o5 g5 l5
 have b5 : But (fun k => some k = Value.ownBlock (.slice ao N c)) w9 w10 := (But.of A10.out).thens ⟨g5.os, g5.tape, g5.output, g5.size, fun k hk hl => g5.block k hl hk⟩ (fun _ _ h => h)
 have av5 : ∀ t, (81 : Nat) ≠ t → Av w9 (fun k => some k = Value.ownBlock (.slice ao N c)) t := fun t ht k cs hk e => by
  obtain ⟨_, _, cs', hc⟩ := HOL.out k e.symm
  rw [hk] at hc
  cases hc
  exact ht rfl
 have X10 := hide (b5.keep X9.out (av5 59 (by decide) _ _ X9.out))
 have L10 := hide (b5.keep L9.out (av5 70 (by decide) _ _ L9.out))
 have N11 := hide (b5.keep N9.out (av5 3 (by decide) _ _ N9.out))
 have C10 := hide (b5.keep C9.out (fun e => HCB.out.2.2.2 cb e.symm rfl))
 have P10 := hide (P9.out.of b5 (fun e => P9.out.av (by decide) _ _ (HOL.out _ e.symm).2.2.choose_spec rfl) (fun k e => by have := (HOL.out k e.symm).1; have h2 := HBB.out.2.2.1; simp only at h2 ⊢; omega))
 have B10 := hide (B9.out.thens b5 (fun k hk e => .inr (HSO.out k e.symm)))
 have RA10 := hide (row_av RA9.out b5 (av5 73 (by decide)))
 have RD10 := hide (row_av RD9.out b5 (av5 73 (by decide)))
 have RP10 := hide (row_av RP9.out b5 (av5 3 (by decide)))
 have AL10 := hide (AL.out.mono (fun _ _ => ClC.keeps _ _ _ _ _ _ b5 (fun t ht => av5 t (by rcases ht with rfl | rfl <;> decide))))
 have HL10 : Hid (∀ k, v5.ownBlock = some k → S k ∨ w.heap.size ≤ k) := fun k hk => by
  rcases l5 k hk with h | h
  ·
   exact .inl (HSO.out k h)
  exact .inr (Nat.le_trans (Nat.le_trans B9.out.size A10.out.size) h)
 have O10 := hide o5
 obtain ⟨q5, n5, c5', hv5⟩ : ∃ q n c', v5 = .slice q n c' := by
  rcases o5.2 with ⟨hv5, _⟩ | ⟨g, cap, cur, hv5, _⟩
  ·
   exact ⟨_, _, _, hv5⟩
  exact ⟨_, _, _, hv5⟩
 clear o5 g5 l5 b5 av5 c0 c1 c2 c3 c4 c5 c6 c7 c8 c9 c10 c11 c12 l0 l1 A10 N10 S10 HSZ X9 L9 N9 C9 P9 B9 RA9 RD9 RP9 AL ROW HOL
 obtain ⟨l0, l1, lf0, lf1⟩ := two_cells L10.out
 rw [hv5]
 go_upto_region 6 with fail
 rw [← hv5]
 have a11 := (But.refl (fun k => k = mb) w10).setCell (p := ⟨mb, 1, none⟩) (.inl rfl) v5
 have avm := fun t (ht : (70 : Nat) ≠ t) => av_one L10.out ht
 have L11 := hide (heap_setCell_same _ mb 1 _ 70 v5 L10.out)
 have X11 := hide (a11.keep X10.out (avm 59 (by decide) _ _ X10.out))
 have N12 := hide (a11.keep N11.out (avm 3 (by decide) _ _ N11.out))
 have C11 := hide (a11.keep C10.out (avm 81 (by decide) _ _ C10.out))
 have P11 := hide (P10.out.put (p := ⟨mb, 1, none⟩) HBB.out.2.1 HBB.out.1 v5)
 have B11 := hide (B10.out.setCell (p := ⟨mb, 1, none⟩) (.inl (.inr HSM.out.1)) v5)
 have RA11 := hide (row_av RA10.out a11 (avm 73 (by decide)))
 have RD11 := hide (row_av RD10.out a11 (avm 73 (by decide)))
 have RP11 := hide (row_av RP10.out a11 (avm 3 (by decide)))
 have AL11 := hide (AL10.out.mono (fun _ _ => ClC.keeps _ _ _ _ _ _ a11 (fun t ht => avm t (by rcases ht with rfl | rfl <;> decide))))
 have O11 := hide (row_av O10.out a11 (avm 81 (by decide)))
 clear a11 avm L10 X10 N11 C10 P10 B10 RA10 RD10 RP10 AL10 O10 l0 l1 lf0 lf1
 generalize w10.setCell ⟨mb, 1, none⟩ v5 = w11 at *
 have c0 := cell_in (cs := [.int .i64 num, .bool ok, .string ml, .string mp, .int .i64 mca, .int .i64 mcn, .int .i64 sp, .int .i64 sm, .int .i64 so, .slice ao1 n1 k1, .slice ao2 n2 k2, .bool scl, .slice ao3 n3 k3]) C11.out 0 _ rfl
 obtain ⟨n0, nf⟩ := one_cell N12.out
 have HX : Hid (R.2 = RC.2 ∧ ∀ b, R.1 = some b → l ++ [⟨num, ok, ⟨ml, mp, mca, mcn⟩, ⟨sp, sm, so, sa, sd, scl, spr⟩⟩] = b) := by
  cases hrc : RC.1 with
  | none => exact HEX.out ⟨⟨ml, mp, mca, mcn⟩, ⟨sp, sm, so, sa, sd, scl, spr⟩, [], []⟩ (fun a ha => by rw [hrc] at ha; cases ha)
  | some a =>
   obtain ⟨h1, h2⟩ := HV.out a hrc
   have h3 := HEX.out a (fun a' ha' => by rw [hrc] at ha'; cases ha'; rfl)
   rw [h1, h2]
   exact h3
 clear HEX HEX2 HV
 go_wp2_with fail
 go_end0
 have a12 := (But.refl (fun k => k = lb) w11).setCell (p := ⟨lb, 0, none⟩) (.inl rfl) (.int .i64 num)
 have avl := fun t (ht : (3 : Nat) ≠ t) => av_one N12.out ht
 refine ⟨rfl, l ++ [⟨num, ok, ⟨ml, mp, mca, mcn⟩, ⟨sp, sm, so, sa, sd, scl, spr⟩⟩], fun k => (k = mb ∨ k = lb) ∨ v5.ownBlock = some k, ⟨a12.keep X11.out (avl 59 (by decide) _ _ X11.out), ⟨v5, a12.keep L11.out (avl 70 (by decide) _ _ L11.out), ⟨xs ++ [[.int .i64 num, .bool ok, .string ml, .string mp, .int .i64 mca, .int .i64 mcn, .int .i64 sp, .int .i64 sm, .int .i64 so, .slice ao1 n1 k1, .slice ao2 n2 k2, .bool scl, .slice ao3 n3 k3]], ?_, ?_⟩, fun k => Iff.rfl⟩, ⟨?_, ?_⟩, HBB.out, ?_⟩, B11.out.setCell (p := ⟨lb, 0, none⟩) (.inl (.inr HSM.out.2)) (.int .i64 num), ?_, ?_, ?_⟩
 ·
  refine Al.app (AL11.out.mono (fun _ _ h => h.ahead a12 (fun k e => by have h9 : k = lb := e; omega))) (Al.one ⟨_, _, _, rfl, ?_, ?_, ?_⟩)
  ·
   exact row_av RA11.out a12 (avl 73 (by decide))
  ·
   exact row_av RD11.out a12 (avl 73 (by decide))
  exact row_but RP11.out a12 (fun g hg e => by have h9 : g = lb := e; have := (RP11.out.lt g hg).1; omega)
 ·
  rw [List.length_append, HN.out, List.flatten_append]
  simp only [List.flatten_cons, List.flatten_nil, List.append_nil, List.length_cons, List.length_nil]
  exact row_av O11.out a12 (avl 81 (by decide))
 ·
  rw [lastN_app]
  exact heap_setCell_same _ lb 0 _ 3 (.int .i64 num) N12.out
 ·
  rw [lastN_app]
  have h1 := HFI.out
  have h2 := HL0.out
  simp only
  omega
 ·
  rw [List.length_append, HN.out]
  simp only [List.length_cons, List.length_nil]
  omega
 ·
  rintro k ((rfl | rfl) | e)
  ·
   exact .inl HSM.out.1
  ·
   exact .inl HSM.out.2
  exact HL10.out k e
 ·
  rw [HX.out.1]
  exact P11.out.put (p := ⟨lb, 0, none⟩) HBB.out.2.2.2 HBB.out.2.2.1 (.int .i64 num)
 exact HX.out.2
end Go.Proofs.YtnadhplhnfpeaaaGreatDoor
