/- Part of the proof. -/
import Derived.Test.YtnadhplhnfpeaaaGreatDoorAZ
import Derived.Test.YtnadhplhnfpeaaaGreatDoorA20
namespace Go.Proofs.YtnadhplhnfpeaaaGreatDoor
open Go.RowKit Go.Sort
theorem infoPx : (Tryz.prog.info? 107).map (fun i => (i.zero, i.size, i.bytes)) = some (some (.agg #[.int .u32 0, .int .i64 0]), 2, 16) := by kernel_rfl
theorem info_partsPx : ∃ i0 : TypeInfo, Tryz.prog.info? 107 = some i0 ∧ i0.zero = some (.agg #[.int .u32 0, .int .i64 0]) ∧ i0.size = 2 ∧ i0.bytes = 16 := by
 have h := infoPx
 cases hi : Tryz.prog.info? 107 with
 | none => rw [hi] at h; cases h
 | some i0 =>
  rw [hi] at h
  simp only [Option.map_some, Option.some.injEq, Prod.mk.injEq] at h
  exact ⟨i0, rfl, h.1, h.2.1, h.2.2⟩
theorem infoNb : (Tryz.prog.info? 113).map (fun i => (i.zero, i.size, i.bytes)) = some (some (.agg #[.string ⟨#[]⟩, .string ⟨#[]⟩, .string ⟨#[]⟩, .bool false]), 4, 56) := by kernel_rfl
theorem info_partsNb : ∃ i0 : TypeInfo, Tryz.prog.info? 113 = some i0 ∧ i0.zero = some (.agg #[.string ⟨#[]⟩, .string ⟨#[]⟩, .string ⟨#[]⟩, .bool false]) ∧ i0.size = 4 ∧ i0.bytes = 56 := by
 have h := infoNb
 cases hi : Tryz.prog.info? 113 with
 | none => rw [hi] at h; cases h
 | some i0 =>
  rw [hi] at h
  simp only [Option.map_some, Option.some.injEq, Prod.mk.injEq] at h
  exact ⟨i0, rfl, h.1, h.2.1, h.2.2⟩
theorem infoLk : (Tryz.prog.info? 115).map (fun i => (i.zero, i.size, i.bytes)) = some (some (.agg #[.string ⟨#[]⟩, .int .i64 0]), 2, 24) := by kernel_rfl
theorem info_partsLk : ∃ i0 : TypeInfo, Tryz.prog.info? 115 = some i0 ∧ i0.zero = some (.agg #[.string ⟨#[]⟩, .int .i64 0]) ∧ i0.size = 2 ∧ i0.bytes = 24 := by
 have h := infoLk
 cases hi : Tryz.prog.info? 115 with
 | none => rw [hi] at h; cases h
 | some i0 =>
  rw [hi] at h
  simp only [Option.map_some, Option.some.injEq, Prod.mk.injEq] at h
  exact ⟨i0, rfl, h.1, h.2.1, h.2.2⟩
theorem push_row {α : Type} {R : World → α → List Value → Prop} {T : Nat → Prop} (hR : Keeps T R) {w w' : World} {B ty z : Nat} {v v' : Value} {l : List α} {a : α} {xs : List (List Value)} {x : List Value} (al : Al (R w) l xs) (row : w.ownsRow B ty z v l.length xs.flatten) (ht : ∀ t, T t → ty ≠ t) (g : w.grownBy w' v.ownBlock) (o : w'.ownsRow B ty z v' (l.length + 1) (xs.flatten ++ x)) (hx : R w a x) : RowOf w' B ty z R v' (l ++ [a]) := by
 have hb := grown_but g
 have ha : AvT T w (fun k => v.ownBlock = some k) := fun t h => row_av' (⟨xs, al, row⟩ : RowOf w B ty z R v l) t (ht t h)
 refine ⟨xs ++ [x], (al.mono (fun _ _ => hR _ _ _ _ _ hb ha)).app (Al.one (hR _ _ _ _ _ hb ha hx)), ?_⟩
 rw [List.length_append, List.flatten_append]
 simp only [List.flatten_cons, List.flatten_nil, List.append_nil, List.length_cons, List.length_nil]
 exact o
theorem routerPart_exec (F : Fn) (en : Int × Int) (x y : Rs) (k : Int) (s : ByteArray) (st : Sta) (hy : ∀ a, ((pAbout F x k s).exec en st).1 = some a → y = a) : (pRouterPart F x k s).exec en st = (okv y ((pMark 59).exec en ((pAbout F x k s).exec en st).2).2, ((pMark 59).exec en ((pAbout F x k s).exec en st).2).2) := by
 have h := exec_then en (pAbout F x k s) (fun c => (pMark 59).bind fun _ => Pg.ret c) st y hy
 exact h.trans (mark_ret en 59 y _)
def Rv.rs (v : Rv) : Rs := ⟨⟨v.nm, v.asn, v.id, v.nets, v.nbs, v.links⟩, v.n1⟩
structure RvOk (v : Rv) : Prop where
  nbs : v.n2 = v.nbs.map Nb.name
  links : v.n3 = v.links.map Lk.name
  many : v.nets.length ≤ 17 ∧ v.nbs.length ≤ 17 ∧ v.links.length ≤ 17
theorem RtAt.see {E : En} {b : Rb} {w : World} {v : Rv} (h : RtAt E b w v) {bx f1 rb f2 f3 c1 x1 c2 x2 c3 x3 : Nat} {nm : ByteArray} {asn id : Int} {vn vb vl : Value} {nets : List (Int × Int)} {nbs : List Nb} {links : List Lk} {n1 n2 n3 : List ByteArray} {r1 r2 r3 : Option Nat} (hb : b = ⟨bx, f1, rb, f2, f3, c1, x1, c2, x2, c3, x3⟩) (hv : v = ⟨nm, asn, id, vn, vb, vl, nets, nbs, links, n1, n2, n3, r1, r2, r3⟩) : w.heap[bx]? = some (.cells #[.pointer (some ⟨E.pb, 0, none⟩)] 59 (0, 0)) ∧ w.heap[f1]? = some (.cells #[.func (.func 59) #[] #[.pointer (some ⟨c1, 0, none⟩), .pointer (some ⟨x1, 0, none⟩)]] 96 (0, 0)) ∧ w.heap[f2]? = some (.cells #[.func (.func 59) #[] #[.pointer (some ⟨c2, 0, none⟩), .pointer (some ⟨x2, 0, none⟩)]] 96 (0, 0)) ∧ w.heap[f3]? = some (.cells #[.func (.func 59) #[] #[.pointer (some ⟨c3, 0, none⟩), .pointer (some ⟨x3, 0, none⟩)]] 96 (0, 0)) ∧ w.heap[rb]? = some (.cells #[.string nm, .int .i64 asn, .int .i64 id, vn, vb, vl] 50 (0, 0)) ∧ RowOf w E.w0.heap.size 107 2 PxC vn nets ∧ RowOf w E.w0.heap.size 113 4 NbC vb nbs ∧ RowOf w E.w0.heap.size 115 2 LkC vl links := by
 subst hb hv
 exact ⟨h.box, h.f1, h.f2, h.f3, h.mem, h.nets, h.nbs, h.links⟩
def RpTo (E : En) (b : Rb) (v : Rv) (R : Option Rs × Sta) (w w' : World) : Prop := ∃ v', RtAt E b w' v' ∧ (RvOk v' ∧ v'.nm = v.nm) ∧ But (orS E.pb (RtS b v)) w w' ∧ (∀ k, RtS b v' k → RtS b v k ∨ w.heap.size ≤ k) ∧ Ps E w' R.2 ∧ ∀ a, R.1 = some a → v'.rs = a
set_option maxHeartbeats 16000000 in
set_option maxRecDepth 100000 in
theorem routerPart_is {T : World → Prop} {F : Fn} (K : Kit12 T F) (E : En) (hT : T E.w0) (b : Rb) (w : World) (v : Rv) (st : Sta) (t : Tv) (h : Ps E w st) (hi0 : RtAt E b w v) (hv : RvOk v) (hat : At t st) (hl : v.n1.length ≤ 10000 ∧ v.nets.length ≤ 16 ∧ v.nbs.length ≤ 16 ∧ v.links.length ≤ 16) : Calls Tryz.prog 69 #[t.val, .pointer (some ⟨b.bx, 0, none⟩), .pointer (some ⟨b.f1, 0, none⟩), .pointer (some ⟨b.rb, 0, none⟩), .pointer (some ⟨b.f2, 0, none⟩), .pointer (some ⟨b.f3, 0, none⟩)] w fun e w' => e = .returned (.tuple #[]) ∧ RpTo E b v ((pRouterPart F v.rs t.k t.s).exec E.en st) w w' := by
 obtain ⟨i1, hi1, hy1, hy2, hy3⟩ := info_partsPx
 obtain ⟨i2, hi2, hz1, hz2, hz3⟩ := info_partsNb
 obtain ⟨i3, hi3, hu1, hu2, hu3⟩ := info_partsLk
 unfold RpTo
 have A0 := hide (balloc (brefl w) (.cells #[.int .i64 t.k, .string t.s, .int .i64 t.p, .int .i64 t.q] 95))
 have TK0 := hide (heap_new w #[.int .i64 t.k, .string t.s, .int .i64 t.p, .int .i64 t.q] 95)
 have P0 := hide (h.below A0.out)
 have I0 := hide (hi0.below A0.out)
 have HPB := hide h.lt
 have HW0 := hide h.1.size
 have CW := hide (word_is t)
 have HRP := hide (fun y hy => routerPart_exec F E.en v.rs y t.k t.s st hy)
 obtain ⟨R, hR⟩ : ∃ R, (pRouterPart F v.rs t.k t.s).exec E.en st = R := ⟨_, rfl⟩
 rw [hR] at HRP ⊢
 have HOLD := hide hi0.lt
 clear hR h
 obtain ⟨st2, hst2⟩ : ∃ st2, faulted t (if inB v.n1 t.s = true then 6 else 0) st = st2 := ⟨_, rfl⟩
 have CO := hide (fun W hW (hO : OcAt E W (v.o1 b)) => once_call E (v.o1 b) t st W hW hO hl.1)
 unfold OnceTo at CO
 have CO2 : Hid (∀ W, Ps E W st → OcAt E W (v.o1 b) → Calls Tryz.prog 59 #[t.val, .pointer (some ⟨b.c1, 0, none⟩), .pointer (some ⟨b.x1, 0, none⟩)] W fun e w' => e = .returned (.tuple #[]) ∧ ∃ rb, OcAt E w' ⟨b.c1, b.x1, v.n1 ++ [t.s], rb⟩ ∧ (∀ g, rb = some g → v.r1 = some g ∨ W.heap.size ≤ g) ∧ But (fun k => k = E.pb ∨ (v.o1 b).S k) W w' ∧ Ps E w' (faulted t (if inB v.n1 t.s = true then 6 else 0) st)) := CO
 rw [hst2] at CO2
 clear CO
 have HE0 : Hid (wd t.k t.s = wAs → (pAbout F v.rs t.k t.s).exec E.en st = (okv (⟨⟨v.nm, (F.num (wd (taken E.en st2).1.k (taken E.en st2).1.s) 1 65535).1, v.id, v.nets, v.nbs, v.links⟩, v.n1 ++ [t.s]⟩ : Rs) (faulted (taken E.en st2).1 (F.num (wd (taken E.en st2).1.k (taken E.en st2).1.s) 1 65535).2 (taken E.en st2).2), faulted (taken E.en st2).1 (F.num (wd (taken E.en st2).1.k (taken E.en st2).1.s) 1 65535).2 (taken E.en st2).2)) := fun h0 => by
  unfold pAbout
  rw [if_pos h0]
  show ((once v.n1 t.s).bind _).exec E.en st = _
  rw [told_exec E.en _ _ _ hat, hst2, exec_next, num_bind F _ _ E.en _ (taken_at E.en st2), exec_ret]
  rfl
 have HE1 : Hid (¬ wd t.k t.s = wAs → wd t.k t.s = wId → (pAbout F v.rs t.k t.s).exec E.en st = (okv (⟨⟨v.nm, v.asn, (F.num (wd (taken E.en st2).1.k (taken E.en st2).1.s) 1 65535).1, v.nets, v.nbs, v.links⟩, v.n1 ++ [t.s]⟩ : Rs) (faulted (taken E.en st2).1 (F.num (wd (taken E.en st2).1.k (taken E.en st2).1.s) 1 65535).2 (taken E.en st2).2), faulted (taken E.en st2).1 (F.num (wd (taken E.en st2).1.k (taken E.en st2).1.s) 1 65535).2 (taken E.en st2).2)) := fun h0 h1 => by
  unfold pAbout
  rw [if_neg h0, if_pos h1]
  show ((once v.n1 t.s).bind _).exec E.en st = _
  rw [told_exec E.en _ _ _ hat, hst2, exec_next, num_bind F _ _ E.en _ (taken_at E.en st2), exec_ret]
  rfl
 have HE2 : Hid (¬ wd t.k t.s = wAs → ¬ wd t.k t.s = wId → wd t.k t.s = wNetwork → ∀ n, (∀ a, ((pNet F v.nets).exec E.en (faulted t (if 16 ≤ v.nets.length then 2 else 0) st)).1 = some a → n = a) → ((pAbout F v.rs t.k t.s).exec E.en st).2 = ((pNet F v.nets).exec E.en (faulted t (if 16 ≤ v.nets.length then 2 else 0) st)).2 ∧ ∀ a, ((pAbout F v.rs t.k t.s).exec E.en st).1 = some a → (⟨⟨v.nm, v.asn, v.id, v.nets ++ [n], v.nbs, v.links⟩, v.n1⟩ : Rs) = a) := fun h0 h1 h2 n hy => by
  unfold pAbout
  rw [if_neg h0, if_neg h1, if_pos h2]
  show (((room v.nets.length 16).bind _).exec E.en st).2 = _ ∧ ∀ a, (((room v.nets.length 16).bind _).exec E.en st).1 = some a → _
  rw [room_bind, exec_if E.en hat (by decide)]
  exact exec_map E.en _ (fun n => (⟨⟨v.nm, v.asn, v.id, v.nets ++ [n], v.nbs, v.links⟩, v.n1⟩ : Rs)) _ n hy
 have HE3 : Hid (¬ wd t.k t.s = wAs → ¬ wd t.k t.s = wId → ¬ wd t.k t.s = wNetwork → wd t.k t.s = wNeighbor → ∀ n, (∀ a, ((pNb F v.n2).exec E.en (faulted t (if 16 ≤ v.nbs.length then 2 else 0) st)).1 = some a → n = a) → ((pAbout F v.rs t.k t.s).exec E.en st).2 = ((pNb F v.n2).exec E.en (faulted t (if 16 ≤ v.nbs.length then 2 else 0) st)).2 ∧ ∀ a, ((pAbout F v.rs t.k t.s).exec E.en st).1 = some a → (⟨⟨v.nm, v.asn, v.id, v.nets, v.nbs ++ [n], v.links⟩, v.n1⟩ : Rs) = a) := fun h0 h1 h2 h3 n hy => by
  rw [hv.nbs] at hy ⊢
  unfold pAbout
  rw [if_neg h0, if_neg h1, if_neg h2, if_pos h3]
  show (((room v.nbs.length 16).bind _).exec E.en st).2 = _ ∧ ∀ a, (((room v.nbs.length 16).bind _).exec E.en st).1 = some a → _
  rw [room_bind, exec_if E.en hat (by decide)]
  exact exec_map E.en _ (fun n => (⟨⟨v.nm, v.asn, v.id, v.nets, v.nbs ++ [n], v.links⟩, v.n1⟩ : Rs)) _ n hy
 have HE4 : Hid (¬ wd t.k t.s = wAs → ¬ wd t.k t.s = wId → ¬ wd t.k t.s = wNetwork → ¬ wd t.k t.s = wNeighbor → wd t.k t.s = wLink → ∀ n, (∀ a, ((pLk F v.n3).exec E.en (faulted t (if 16 ≤ v.links.length then 2 else 0) st)).1 = some a → n = a) → ((pAbout F v.rs t.k t.s).exec E.en st).2 = ((pLk F v.n3).exec E.en (faulted t (if 16 ≤ v.links.length then 2 else 0) st)).2 ∧ ∀ a, ((pAbout F v.rs t.k t.s).exec E.en st).1 = some a → (⟨⟨v.nm, v.asn, v.id, v.nets, v.nbs, v.links ++ [n]⟩, v.n1⟩ : Rs) = a) := fun h0 h1 h2 h3 h4 n hy => by
  rw [hv.links] at hy ⊢
  unfold pAbout
  rw [if_neg h0, if_neg h1, if_neg h2, if_neg h3, if_pos h4]
  show (((room v.links.length 16).bind _).exec E.en st).2 = _ ∧ ∀ a, (((room v.links.length 16).bind _).exec E.en st).1 = some a → _
  rw [room_bind, exec_if E.en hat (by decide)]
  exact exec_map E.en _ (fun n => (⟨⟨v.nm, v.asn, v.id, v.nets, v.nbs, v.links ++ [n]⟩, v.n1⟩ : Rs)) _ n hy
 have HED : Hid (¬ wd t.k t.s = wAs → ¬ wd t.k t.s = wId → ¬ wd t.k t.s = wNetwork → ¬ wd t.k t.s = wNeighbor → ¬ wd t.k t.s = wLink → (pAbout F v.rs t.k t.s).exec E.en st = (none, faulted t 4 st)) := fun h0 h1 h2 h3 h4 => by
  unfold pAbout
  rw [if_neg h0, if_neg h1, if_neg h2, if_neg h3, if_neg h4, exec_fail E.en hat (by decide)]
 clear hst2
 generalize (pAbout F v.rs t.k t.s).exec E.en st = RA at *
 have CX := hide (next_is E st2)
 have HZ2 := hide (fun W (hW : Ps E W st2) => taken_size hW)
 have CA := hide (fun W hW (hz : (taken E.en st2).1.s.size ≤ 1000) => as_is K E (taken E.en st2).2 (taken E.en st2).1 W hW hT hz)
 generalize faulted (taken E.en st2).1 (F.num (wd (taken E.en st2).1.k (taken E.en st2).1.s) 1 65535).2 (taken E.en st2).2 = sAs at *
 generalize (F.num (wd (taken E.en st2).1.k (taken E.en st2).1.s) 1 65535).1 = nAs at *
 generalize (taken E.en st2).2 = st3 at *
 generalize (taken E.en st2).1 = t2 at *
 have CR1 := hide (room_is E st t v.nets.length 16)
 have CR2 := hide (room_is E st t v.nbs.length 16)
 have CR3 := hide (room_is E st t v.links.length 16)
 generalize faulted t (if 16 ≤ v.nets.length then 2 else 0) st = sR1 at *
 generalize faulted t (if 16 ≤ v.nbs.length then 2 else 0) st = sR2 at *
 generalize faulted t (if 16 ≤ v.links.length then 2 else 0) st = sR3 at *
 have CN1 := hide (fun W hW (hr : RowOf W E.w0.heap.size 107 2 PxC v.vn v.nets) => network_is K E hT _ _ v.nets (by omega) sR1 W hW (rowOf_pxs hr))
 have CN2 := hide (fun W hW (hO : OcAt E W (v.o2 b)) => neighbor_is K E (v.o2 b) sR2 W hW hO (by have h1 := hv.nbs; show v.n2.length ≤ _; rw [h1, List.length_map]; omega))
 have CN3 := hide (fun W hW (hO : OcAt E W (v.o3 b)) => link_is K E hT (v.o3 b) sR3 W hW hO (by have h1 := hv.links; show v.n3.length ≤ _; rw [h1, List.length_map]; omega))
 unfold ItTo at CN2 CN3
 have CF := hide (fault_is E st t 4)
 have CD := hide (fun st' W hW => mark_d E st' 59 W hW)
 have HV := hide hv
 obtain ⟨a1, k1, hv1⟩ := hi0.nets.slice
 obtain ⟨a2, k2, hv2⟩ := hi0.nbs.slice
 obtain ⟨a3, k3, hv3⟩ := hi0.links.slice
 clear hat hT hi0 hv
 obtain ⟨bx, f1, rb, f2, f3, c1, x1, c2, x2, c3, x3⟩ := b
 obtain ⟨nm, asn, id, vn, vb, vl, nets, nbs, links, n1, n2, n3, r1, r2, r3⟩ := v
 simp only [Rv.o2, Rv.o3] at CN2 CN3
 have CN2' : Hid (∀ W, Ps E W sR2 → OcAt E W ⟨c2, x2, n2, r2⟩ → Calls Tryz.prog 73 #[.pointer (some ⟨E.pb, 0, none⟩), Oc.fn ⟨c2, x2, n2, r2⟩] W fun e w' => ∃ n : Nb, e = .returned (.agg #[.string n.name, .string n.imp, .string n.exp, .bool n.client]) ∧ n.name.size ≤ 1000 ∧ ∃ rb, OcAt E w' ⟨c2, x2, n2 ++ [n.name], rb⟩ ∧ (∀ g, rb = some g → r2 = some g ∨ W.heap.size ≤ g) ∧ But (fun k => k = E.pb ∨ Oc.S ⟨c2, x2, n2, r2⟩ k) W w' ∧ Ps E w' ((pNb F n2).exec E.en sR2).2 ∧ ∀ a, ((pNb F n2).exec E.en sR2).1 = some a → n = a) := CN2
 have CN3' : Hid (∀ W, Ps E W sR3 → OcAt E W ⟨c3, x3, n3, r3⟩ → Calls Tryz.prog 74 #[.pointer (some ⟨E.pb, 0, none⟩), Oc.fn ⟨c3, x3, n3, r3⟩] W fun e w' => ∃ s n, e = .returned (.agg #[.string s, .int .i64 n]) ∧ s.size ≤ 1000 ∧ ∃ rb, OcAt E w' ⟨c3, x3, n3 ++ [s], rb⟩ ∧ (∀ g, rb = some g → r3 = some g ∨ W.heap.size ≤ g) ∧ But (fun k => k = E.pb ∨ Oc.S ⟨c3, x3, n3, r3⟩ k) W w' ∧ Ps E w' ((pLk F n3).exec E.en sR3).2 ∧ ∀ a, ((pLk F n3).exec E.en sR3).1 = some a → (⟨s, n⟩ : Lk) = a) := CN3
 clear CN2 CN3
 simp only at HE0 HE1 HE2 HE3 HE4 CN1 CR1 CR2 CR3 hv1 hv2 hv3 CO2 hl
 generalize (pNet F nets).exec E.en sR1 = RQ1 at *
 generalize (pNb F n2).exec E.en sR2 = RQ2 at *
 generalize (pLk F n3).exec E.en sR3 = RQ3 at *
 obtain ⟨N1, hN1⟩ : ∃ N, nets.length = N := ⟨_, rfl⟩
 obtain ⟨N2, hN2⟩ : ∃ N, nbs.length = N := ⟨_, rfl⟩
 obtain ⟨N3, hN3⟩ : ∃ N, links.length = N := ⟨_, rfl⟩
 rw [hN1] at hv1 CR1
 rw [hN2] at hv2 CR2
 rw [hN3] at hv3 CR3
 have HN1 := hide hN1
 have HN2 := hide hN2
 have HN3 := hide hN3
 have HLL : Hid (n1.length ≤ 10000 ∧ N1 ≤ 16 ∧ N2 ≤ 16 ∧ N3 ≤ 16) := by rw [← hN1, ← hN2, ← hN3]; exact hl
 clear hN1 hN2 hN3 hl
 subst hv1 hv2 hv3
 obtain ⟨W0, pb, en⟩ := E
 obtain ⟨tk, tt, tp, tq⟩ := t
 obtain ⟨uk, ut, up, uq⟩ := t2
 dsimp only
 obtain ⟨v, hvv⟩ : ∃ v : Rv, v = ⟨nm, asn, id, .slice a1 N1 k1, .slice a2 N2 k2, .slice a3 N3 k3, nets, nbs, links, n1, n2, n3, r1, r2, r3⟩ := ⟨_, rfl⟩
 rw [← hvv] at I0 HOLD HV CO2 ⊢
 have HVV := hide hvv
 clear hvv
 obtain ⟨b, hbb⟩ : ∃ b : Rb, b = ⟨bx, f1, rb, f2, f3, c1, x1, c2, x2, c3, x3⟩ := ⟨_, rfl⟩
 rw [← hbb] at I0 HOLD CO2 ⊢
 have HBB := hide hbb
 clear hbb
 simp only [Tv.val, Oc.fn] at *
 go_enter_defers Tryz.func69, Tryz.ntmps69
 go_upto_region 1 with fail
 obtain ⟨tb, htb⟩ : ∃ tb, w.heap.size = tb := ⟨_, rfl⟩
 rw [htb] at TK0 ⊢
 have B0 := hide (But.of (S := orS pb (RtS b v)) A0.out)
 generalize w.alloc (.cells #[.int .i64 tk, .string tt, .int .i64 tp, .int .i64 tq] 95) = W at *
 clear htb A0
 obtain ⟨q0, _, _, _, _, _⟩ := I0.out.see HBB.out HVV.out
 obtain ⟨b0, _⟩ := one_cell q0
 clear q0
 go_upto_region 2 with fail
 clear b0
 obtain ⟨⟨c0, cc1, cc2, cc3⟩, _⟩ := four_cells TK0.out
 go_wp2_with fail
 refine (CW.out _).mono ?_
 rintro e w2 ⟨rfl, b2⟩
 have P2 := hide (P0.out.below b2)
 have B2 := hide (B0.out.trans (But.of b2))
 have TK2 := hide ((b2.block tb (heap_lt TK0.out)).trans TK0.out)
 have I2 := hide (I0.out.below b2)
 clear b2 CW c0 cc1 cc2 cc3 P0 B0 TK0 I0
 unfold wAs at HE0
 unfold wAs wId at HE1
 unfold wAs wId wNetwork at HE2
 unfold wAs wId wNetwork wNeighbor at HE3
 unfold wAs wId wNetwork wNeighbor wLink at HE4
 unfold wAs wId wNetwork wNeighbor wLink at HED
 obtain ⟨⟨c0, cc1, cc2, cc3⟩, _⟩ := four_cells TK2.out
 by_cases h0 : wd tk tt = (bs [97, 115])
 ·
  have hb0 := beq_ll (wd tk tt) [97, 115]
  rw [decide_eq_true h0] at hb0
  obtain ⟨q0, q1, q2, q3, q4, _⟩ := I2.out.see HBB.out HVV.out
  obtain ⟨b0, _⟩ := one_cell q0
  obtain ⟨g1, _⟩ := one_cell q1
  obtain ⟨g2, _⟩ := one_cell q2
  obtain ⟨g3, _⟩ := one_cell q3
  obtain ⟨⟨m0, m1, m2, m3, m4, m5⟩, _⟩ := six_cells q4
  clear q0 q1 q2 q3 q4
  go_wp2_with fail
  refine (CO2.out _ P2.out I2.out.oc1).mono ?_
  rintro e w3 ⟨rfl, rb', o3, l3, b3, p3⟩
  have P3 := hide p3
  have o3' : OcAt ⟨W0, pb, en⟩ w3 ⟨b.c1, b.x1, v.n1 ++ [tt], rb'⟩ := by rw [HBB.out, HVV.out]; exact o3
  have l3' : ∀ g, rb' = some g → v.r1 = some g ∨ w2.heap.size ≤ g := by rw [HVV.out]; exact l3
  have I3 := hide (I2.out.told1 P2.out b3 _ _ o3' l3')
  have B3 := hide (B2.out.trans (b3.mono (fun k _ e => e.elim .inl (fun e => .inr (.inr (.inr (.inl e)))))))
  have HLR : Hid (∀ g, rb' = some g → v.r1 = some g ∨ w.heap.size ≤ g) := fun g hg => (l3' g hg).imp (fun h => h) (fun h => Nat.le_trans B2.out.size h)
  have HZ := hide (HZ2.out _ P3.out)
  have HV3 : Hid ({ v with n1 := v.n1 ++ [tt], r1 := rb' } = (⟨nm, asn, id, .slice a1 N1 k1, .slice a2 N2 k2, .slice a3 N3 k3, nets, nbs, links, n1 ++ [tt], n2, n3, rb', r2, r3⟩ : Rv)) := by show _ = _; rw [HVV.out]
  clear p3 o3 l3 o3' l3' b3 c0 cc1 cc2 cc3 P2 B2 I2 TK2 CR1 CR2 CR3 CN1 CN2' CN3' CF CO2
  clear b0 g1 g2 g3 m0 m1 m2 m3 m4 m5
  go_upto_region 6 with fail
  have d4 := Below.drew (brefl w3)
  have P4 := hide (P3.out.below d4)
  have I4 := hide (I3.out.below d4)
  have B4 := hide (B3.out.trans (But.of d4))
  obtain ⟨q0, _, _, _, _, _⟩ := I4.out.see HBB.out HV3.out
  refine wp_region_noPanic ?_
  refine wp_region_held_drew (S := (fun w' => w'.cell? ⟨bx, 0, none⟩ = some (.pointer (some ⟨pb, 0, none⟩)))) (by kernel_rfl) ((one_cell q0).1) (fun hHeld => ?_)
  clear d4 P3 I3 B3 q0
  generalize w3.drew = w4 at *
  refine tak 0 (.pointer (some ⟨pb, 0, none⟩)) rfl (Or.inl ⟨by rfl, fun w hSw => by dsimp only at hSw; go_simp⟩) hHeld ?_
  simp only [Act.put, g1, g2, g4, g5, g6]
  refine tak 1 (.pointer (some ⟨pb, 0, none⟩)) rfl (Or.inl ⟨by rfl, fun w hSw => by dsimp only at hSw; go_simp⟩) hHeld ?_
  simp only [Act.put, g1, g2, g3, g4, g5, g6]
  refine rdy 2 (by kernel_rfl) rfl fun K hK => ?_
  go_simp
  go_wp2_with (refine (CX.out _ P4.out).mono ?_; rintro e w5 ⟨rfl, b5, p5⟩)
  have P5 := hide p5
  have I5 := hide (I4.out.keep b5 (fun t h1 _ => P4.out.av h1))
  have B5 := hide (B4.out.trans (b5.mono fun k _ e => .inl e))
  clear p5 b5 P4 I4 B4 CX
  obtain ⟨q0, _, _, _, _, _⟩ := I5.out.see HBB.out HV3.out
  refine hK.out _ _ ((one_cell q0).1) (fun hHeld => ?_)
  clear hK K q0
  try simp only [Act.put, g1, g2, g3, g4, g5, g6]
  refine rdy 3 (by kernel_rfl) rfl fun K hK => ?_
  go_simp
  go_wp2_with (refine (CA.out _ P5.out HZ.out).mono ?_; rintro e w6 ⟨rfl, b6, p6⟩)
  have P6 := hide p6
  have I6 := hide (I5.out.keep b6 (fun t h1 _ => P5.out.av h1))
  have B6 := hide (B5.out.trans (b6.mono fun k _ e => .inl e))
  clear p6 b6 P5 I5 B5 CA
  obtain ⟨q0, _, _, _, _, _⟩ := I6.out.see HBB.out HV3.out
  refine hK.out _ _ ((one_cell q0).1) (fun hHeld => ?_)
  clear hK K q0
  try simp only [Act.put, g1, g2, g3, g4, g5, g6]
  refine tak 4 (.pointer (some ⟨rb, 1, none⟩)) rfl (Or.inl ⟨by rfl, fun w hSw => by dsimp only at hSw; go_simp⟩) hHeld ?_
  simp only [Act.put, g1, g2, g3, g4, g5, g6]
  refine rdy 5 (by kernel_rfl) rfl fun K hK => ?_
  obtain ⟨_, _, _, _, q4, _⟩ := I6.out.see HBB.out HV3.out
  have m1 := (six_cells q4).1.2.1
  have ff := unfrozen q4 1
  go_simp
  have I7 : Hid (RtAt ⟨W0, pb, en⟩ b (w6.setCell ⟨rb, 1, none⟩ (.int .i64 nAs)) { v with n1 := v.n1 ++ [tt], r1 := rb', asn := nAs }) := by have := I6.out.set1 nAs; rw [show b.rb = rb by rw [HBB.out]] at this; exact this
  have HRB : Hid (rb ≠ pb ∧ W0.heap.size ≤ rb) := by have := I6.out.base; rw [HBB.out] at this; exact ⟨this.2, this.1⟩
  have P7 := hide (P6.out.put (p := ⟨rb, 1, none⟩) HRB.out.1 HRB.out.2 (.int .i64 nAs))
  have B7 := hide (B6.out.setCell (p := ⟨rb, 1, none⟩) (.inl (.inr (.inl (by rw [HBB.out])))) (.int .i64 nAs))
  have q0 := I7.out.box
  rw [show b.bx = bx by rw [HBB.out]] at q0
  refine hK.out _ _ ((one_cell q0).1) (fun hHeld => ?_)
  clear hK K q0 q4 m1 ff P6 I6 B6
  try simp only [Act.put, g1, g2, g3, g4, g5, g6]
  refine wpAnyH_done (by kernel_rfl) ?_ _
  refine NoPanic.normal ?_
  clear hHeld
  generalize w6.setCell ⟨rb, 1, none⟩ (.int .i64 nAs) = w7 at *
  have HX : Hid (RA.2 = sAs ∧ ∀ a, RA.1 = some a → Rv.rs { v with n1 := v.n1 ++ [tt], r1 := rb', asn := nAs } = a) := by
   have h9 := HE0.out h0
   rw [h9]
   exact ⟨rfl, fun a ha => by rw [← okv_some ha]; unfold Rv.rs; rw [HVV.out]⟩
  have HS : Hid (∀ k, RtS b { v with n1 := v.n1 ++ [tt], r1 := rb', asn := nAs } k → RtS b v k ∨ w.heap.size ≤ k) := by
   rintro k (e | e | (e | e) | e | e)
   ·
    exact .inl (.inl e)
   ·
    exact .inl (.inr (.inl e))
   ·
    exact .inl (.inr (.inr (.inl (.inl e))))
   ·
    exact (HLR.out k e).imp (fun h => .inr (.inr (.inl (.inr h)))) (fun h => h)
   ·
    exact .inl (.inr (.inr (.inr (.inl e))))
   exact .inl (.inr (.inr (.inr (.inr e))))
  clear HE0 HE1 HE2 HE3 HE4 HED
  go_wp2_with fail
  refine leaves_cons (f := 70) (args := #[.pointer (some ⟨pb, 0, none⟩), .string (bs [59])]) (by simp) (by simp [go_sem]) ?_
  refine (CD.out _ _ P7.out).mono ?_
  rintro e u' w99 ⟨rfl, rfl, b9, p9⟩
  have HRR := HRP.out _ HX.out.2
  refine ⟨.tuple #[], by simp [results, Tryz.results69, go_sem], rfl, _, I7.out.keep b9 (fun t h1 _ => P7.out.av h1), ⟨⟨HV.out.nbs, HV.out.links, HV.out.many⟩, by show v.nm = nm; rw [HVV.out]⟩, B7.out.trans (b9.mono fun k _ e => .inl e), HS.out, ?_, ?_⟩
  ·
   rw [HRR, HX.out.1]
   exact p9
  intro a ha
  rw [HRR] at ha
  exact okv_some ha
 have hb0 := beq_ll (wd tk tt) [97, 115]
 rw [decide_eq_false h0] at hb0
 by_cases h1 : wd tk tt = (bs [105, 100])
 ·
  have hb1 := beq_ll (wd tk tt) [105, 100]
  rw [decide_eq_true h1] at hb1
  obtain ⟨q0, q1, q2, q3, q4, _⟩ := I2.out.see HBB.out HVV.out
  obtain ⟨b0, _⟩ := one_cell q0
  obtain ⟨g1, _⟩ := one_cell q1
  obtain ⟨g2, _⟩ := one_cell q2
  obtain ⟨g3, _⟩ := one_cell q3
  obtain ⟨⟨m0, m1, m2, m3, m4, m5⟩, _⟩ := six_cells q4
  clear q0 q1 q2 q3 q4
  go_wp2_with fail
  refine (CO2.out _ P2.out I2.out.oc1).mono ?_
  rintro e w3 ⟨rfl, rb', o3, l3, b3, p3⟩
  have P3 := hide p3
  have o3' : OcAt ⟨W0, pb, en⟩ w3 ⟨b.c1, b.x1, v.n1 ++ [tt], rb'⟩ := by rw [HBB.out, HVV.out]; exact o3
  have l3' : ∀ g, rb' = some g → v.r1 = some g ∨ w2.heap.size ≤ g := by rw [HVV.out]; exact l3
  have I3 := hide (I2.out.told1 P2.out b3 _ _ o3' l3')
  have B3 := hide (B2.out.trans (b3.mono (fun k _ e => e.elim .inl (fun e => .inr (.inr (.inr (.inl e)))))))
  have HLR : Hid (∀ g, rb' = some g → v.r1 = some g ∨ w.heap.size ≤ g) := fun g hg => (l3' g hg).imp (fun h => h) (fun h => Nat.le_trans B2.out.size h)
  have HZ := hide (HZ2.out _ P3.out)
  have HV3 : Hid ({ v with n1 := v.n1 ++ [tt], r1 := rb' } = (⟨nm, asn, id, .slice a1 N1 k1, .slice a2 N2 k2, .slice a3 N3 k3, nets, nbs, links, n1 ++ [tt], n2, n3, rb', r2, r3⟩ : Rv)) := by show _ = _; rw [HVV.out]
  clear p3 o3 l3 o3' l3' b3 c0 cc1 cc2 cc3 P2 B2 I2 TK2 CR1 CR2 CR3 CN1 CN2' CN3' CF CO2
  clear b0 g1 g2 g3 m0 m1 m2 m3 m4 m5
  go_upto_region 9 with fail
  have d4 := Below.drew (brefl w3)
  have P4 := hide (P3.out.below d4)
  have I4 := hide (I3.out.below d4)
  have B4 := hide (B3.out.trans (But.of d4))
  obtain ⟨q0, _, _, _, _, _⟩ := I4.out.see HBB.out HV3.out
  refine wp_region_noPanic ?_
  refine wp_region_held_drew (S := (fun w' => w'.cell? ⟨bx, 0, none⟩ = some (.pointer (some ⟨pb, 0, none⟩)))) (by kernel_rfl) ((one_cell q0).1) (fun hHeld => ?_)
  clear d4 P3 I3 B3 q0
  generalize w3.drew = w4 at *
  refine tak 0 (.pointer (some ⟨pb, 0, none⟩)) rfl (Or.inl ⟨by rfl, fun w hSw => by dsimp only at hSw; go_simp⟩) hHeld ?_
  simp only [Act.put, g1, g2, g4, g5, g6]
  refine tak 1 (.pointer (some ⟨pb, 0, none⟩)) rfl (Or.inl ⟨by rfl, fun w hSw => by dsimp only at hSw; go_simp⟩) hHeld ?_
  simp only [Act.put, g1, g2, g3, g4, g5, g6]
  refine rdy 2 (by kernel_rfl) rfl fun K hK => ?_
  go_simp
  go_wp2_with (refine (CX.out _ P4.out).mono ?_; rintro e w5 ⟨rfl, b5, p5⟩)
  have P5 := hide p5
  have I5 := hide (I4.out.keep b5 (fun t h1 _ => P4.out.av h1))
  have B5 := hide (B4.out.trans (b5.mono fun k _ e => .inl e))
  clear p5 b5 P4 I4 B4 CX
  obtain ⟨q0, _, _, _, _, _⟩ := I5.out.see HBB.out HV3.out
  refine hK.out _ _ ((one_cell q0).1) (fun hHeld => ?_)
  clear hK K q0
  try simp only [Act.put, g1, g2, g3, g4, g5, g6]
  refine rdy 3 (by kernel_rfl) rfl fun K hK => ?_
  go_simp
  go_wp2_with (refine (CA.out _ P5.out HZ.out).mono ?_; rintro e w6 ⟨rfl, b6, p6⟩)
  have P6 := hide p6
  have I6 := hide (I5.out.keep b6 (fun t h1 _ => P5.out.av h1))
  have B6 := hide (B5.out.trans (b6.mono fun k _ e => .inl e))
  clear p6 b6 P5 I5 B5 CA
  obtain ⟨q0, _, _, _, _, _⟩ := I6.out.see HBB.out HV3.out
  refine hK.out _ _ ((one_cell q0).1) (fun hHeld => ?_)
  clear hK K q0
  try simp only [Act.put, g1, g2, g3, g4, g5, g6]
  refine tak 4 (.pointer (some ⟨rb, 2, none⟩)) rfl (Or.inl ⟨by rfl, fun w hSw => by dsimp only at hSw; go_simp⟩) hHeld ?_
  simp only [Act.put, g1, g2, g3, g4, g5, g6]
  refine rdy 5 (by kernel_rfl) rfl fun K hK => ?_
  obtain ⟨_, _, _, _, q4, _⟩ := I6.out.see HBB.out HV3.out
  have m2 := (six_cells q4).1.2.2.1
  have ff := unfrozen q4 2
  go_simp
  have I7 : Hid (RtAt ⟨W0, pb, en⟩ b (w6.setCell ⟨rb, 2, none⟩ (.int .i64 nAs)) { v with n1 := v.n1 ++ [tt], r1 := rb', id := nAs }) := by have := I6.out.set2 nAs; rw [show b.rb = rb by rw [HBB.out]] at this; exact this
  have HRB : Hid (rb ≠ pb ∧ W0.heap.size ≤ rb) := by have := I6.out.base; rw [HBB.out] at this; exact ⟨this.2, this.1⟩
  have P7 := hide (P6.out.put (p := ⟨rb, 2, none⟩) HRB.out.1 HRB.out.2 (.int .i64 nAs))
  have B7 := hide (B6.out.setCell (p := ⟨rb, 2, none⟩) (.inl (.inr (.inl (by rw [HBB.out])))) (.int .i64 nAs))
  have q0 := I7.out.box
  rw [show b.bx = bx by rw [HBB.out]] at q0
  refine hK.out _ _ ((one_cell q0).1) (fun hHeld => ?_)
  clear hK K q0 q4 m2 ff P6 I6 B6
  try simp only [Act.put, g1, g2, g3, g4, g5, g6]
  refine wpAnyH_done (by kernel_rfl) ?_ _
  refine NoPanic.normal ?_
  clear hHeld
  generalize w6.setCell ⟨rb, 2, none⟩ (.int .i64 nAs) = w7 at *
  have HX : Hid (RA.2 = sAs ∧ ∀ a, RA.1 = some a → Rv.rs { v with n1 := v.n1 ++ [tt], r1 := rb', id := nAs } = a) := by
   have h9 := HE1.out h0 h1
   rw [h9]
   exact ⟨rfl, fun a ha => by rw [← okv_some ha]; unfold Rv.rs; rw [HVV.out]⟩
  have HS : Hid (∀ k, RtS b { v with n1 := v.n1 ++ [tt], r1 := rb', id := nAs } k → RtS b v k ∨ w.heap.size ≤ k) := by
   rintro k (e | e | (e | e) | e | e)
   ·
    exact .inl (.inl e)
   ·
    exact .inl (.inr (.inl e))
   ·
    exact .inl (.inr (.inr (.inl (.inl e))))
   ·
    exact (HLR.out k e).imp (fun h => .inr (.inr (.inl (.inr h)))) (fun h => h)
   ·
    exact .inl (.inr (.inr (.inr (.inl e))))
   exact .inl (.inr (.inr (.inr (.inr e))))
  clear HE0 HE1 HE2 HE3 HE4 HED
  go_wp2_with fail
  refine leaves_cons (f := 70) (args := #[.pointer (some ⟨pb, 0, none⟩), .string (bs [59])]) (by simp) (by simp [go_sem]) ?_
  refine (CD.out _ _ P7.out).mono ?_
  rintro e u' w99 ⟨rfl, rfl, b9, p9⟩
  have HRR := HRP.out _ HX.out.2
  refine ⟨.tuple #[], by simp [results, Tryz.results69, go_sem], rfl, _, I7.out.keep b9 (fun t h1 _ => P7.out.av h1), ⟨⟨HV.out.nbs, HV.out.links, HV.out.many⟩, by show v.nm = nm; rw [HVV.out]⟩, B7.out.trans (b9.mono fun k _ e => .inl e), HS.out, ?_, ?_⟩
  ·
   rw [HRR, HX.out.1]
   exact p9
  intro a ha
  rw [HRR] at ha
  exact okv_some ha
 have hb1 := beq_ll (wd tk tt) [105, 100]
 rw [decide_eq_false h1] at hb1
 by_cases h2 : wd tk tt = (bs [110, 101, 116, 119, 111, 114, 107])
 ·
  have hb2 := beq_ll (wd tk tt) [110, 101, 116, 119, 111, 114, 107]
  rw [decide_eq_true h2] at hb2
  obtain ⟨q0, q1, q2, q3, q4, _⟩ := I2.out.see HBB.out HVV.out
  obtain ⟨b0, _⟩ := one_cell q0
  obtain ⟨g1, _⟩ := one_cell q1
  obtain ⟨g2, _⟩ := one_cell q2
  obtain ⟨g3, _⟩ := one_cell q3
  obtain ⟨⟨m0, m1, m2, m3, m4, m5⟩, _⟩ := six_cells q4
  clear q0 q1 q2 q3 q4
  go_wp2_with fail
  refine (CR1.out _ P2.out).mono ?_
  rintro e w3 ⟨rfl, b3, p3⟩
  have P3 := hide p3
  have I3 := hide (I2.out.keep b3 (fun t h1 _ => P2.out.av h1))
  have B3 := hide (B2.out.trans (b3.mono fun k _ e => .inl e))
  clear p3 b3 c0 cc1 cc2 cc3 P2 B2 I2 TK2 CR1 CR2 CR3 CF CO2 CX CA HZ2
  clear b0 g1 g2 g3 m0 m1 m2 m3 m4 m5
  clear CN2' CN3'
  go_upto_region 12 with fail
  have d4 := Below.drew (brefl w3)
  have P4 := hide (P3.out.below d4)
  have I4 := hide (I3.out.below d4)
  have B4 := hide (B3.out.trans (But.of d4))
  obtain ⟨q0, q1, q2, q3, q4, _⟩ := I4.out.see HBB.out HVV.out
  refine wp_region_noPanic ?_
  refine wp_region_held_drew (S := (fun w' => w'.cell? ⟨bx, 0, none⟩ = some (.pointer (some ⟨pb, 0, none⟩)))) (by kernel_rfl) ((one_cell q0).1) (fun hHeld => ?_)
  clear d4 P3 I3 B3 q0 q1 q2 q3 q4
  generalize w3.drew = w4 at *
  refine tak 0 (.pointer (some ⟨rb, 3, none⟩)) rfl (Or.inl ⟨by rfl, fun w hSw => by dsimp only at hSw; go_simp⟩) hHeld ?_
  simp only [Act.put, g1, g2, g4, g5, g6]
  refine tak 2 (.pointer (some ⟨pb, 0, none⟩)) rfl (Or.inl ⟨by rfl, fun w hSw => by dsimp only at hSw; go_simp⟩) hHeld ?_
  simp only [Act.put, g1, g2, g3, g4, g5, g6]
  refine tak 3 (.pointer (some ⟨rb, 3, none⟩)) rfl (Or.inl ⟨by rfl, fun w hSw => by dsimp only at hSw; go_simp⟩) hHeld ?_
  simp only [Act.put, g1, g2, g3, g4, g5, g6]
  refine wpAnyH_ready (rs := [1, 4]) (by kernel_rfl) (by simp) ?_
  refine AllReadyH.cons rfl (fun K hK => ?_) ?_
  focus
   obtain ⟨q0, q1, q2, q3, q4, _⟩ := I4.out.see HBB.out HVV.out
   obtain ⟨⟨m0, m1, m2, m3, m4, m5⟩, _⟩ := six_cells q4
   go_simp
   refine hK.out _ _ ((one_cell q0).1) (fun hHeld => ?_)
   clear hK K q0 q1 q2 q3 q4 m0 m1 m2 m3 m4 m5
   try simp only [Act.put, g1, g2, g3, g4, g5, g6]
   refine rdy 4 (by kernel_rfl) rfl fun K hK => ?_
   obtain ⟨q0, q1, q2, q3, q4, _⟩ := I4.out.see HBB.out HVV.out
   obtain ⟨⟨m0, m1, m2, m3, m4, m5⟩, _⟩ := six_cells q4
   go_simp
   refine hK.out _ _ ((one_cell q0).1) (fun hHeld => ?_)
   clear hK K q0 q1 q2 q3 q4 m0 m1 m2 m3 m4 m5
   try simp only [Act.put, g1, g2, g3, g4, g5, g6]
   refine rdy 5 (by kernel_rfl) rfl fun K hK => ?_
   obtain ⟨q0, q1, q2, q3, q4, q5, q6, q7⟩ := I4.out.see HBB.out HVV.out
   have Q5 := hide q5
   clear q0 q1 q2 q3 q4 q5 q6 q7
   go_simp
   go_wp2_with (refine (CN1.out _ P4.out Q5.out).mono ?_; rintro e w5 ⟨x, rfl, b5, p5, v5⟩)
   have P5 := hide p5
   have I5 := hide (I4.out.keep b5 (fun t h1 _ => P4.out.av h1))
   have B5 := hide (B4.out.trans (b5.mono fun k _ e => .inl e))
   have HQV := hide v5
   clear p5 b5 v5 Q5 P4 I4 B4 CN1
   obtain ⟨q0, q1, q2, q3, q4, _⟩ := I5.out.see HBB.out HVV.out
   refine hK.out _ _ ((one_cell q0).1) (fun hHeld => ?_)
   clear hK K q0 q1 q2 q3 q4
   try simp only [Act.put, g1, g2, g3, g4, g5, g6]
   refine rdy 6 (by kernel_rfl) rfl fun K hK => ?_
   go_simp
   have b5 := balloc (brefl w5) (.cells #[.int .u32 x.1, .int .i64 x.2] 107)
   have E6 := hide (heap_new w5 #[.int .u32 x.1, .int .i64 x.2] 107)
   have P6 := hide (P5.out.below b5)
   have I6 := hide (I5.out.below b5)
   have B6 := hide (B5.out.trans (But.of b5))
   clear b5 P5 I5 B5
   obtain ⟨q0, q1, q2, q3, q4, _⟩ := I6.out.see HBB.out HVV.out
   refine hK.out _ _ ((one_cell q0).1) (fun hHeld => ?_)
   clear hK K q0 q1 q2 q3 q4
   try simp only [Act.put, g1, g2, g3, g4, g5, g6]
   obtain ⟨al, hal⟩ : ∃ al, w5.heap.size = al := ⟨_, rfl⟩
   rw [hal] at E6 ⊢
   generalize w5.alloc (.cells #[.int .u32 x.1, .int .i64 x.2] 107) = w6 at *
   clear hal
  rotate_left
  focus
   refine AllReadyH.cons rfl (fun K hK => ?_) AllReadyH.nil
   obtain ⟨q0, q1, q2, q3, q4, _⟩ := I4.out.see HBB.out HVV.out
   obtain ⟨⟨m0, m1, m2, m3, m4, m5⟩, _⟩ := six_cells q4
   go_simp
   refine hK.out _ _ ((one_cell q0).1) (fun hHeld => ?_)
   clear hK K q0 q1 q2 q3 q4 m0 m1 m2 m3 m4 m5
   try simp only [Act.put, g1, g2, g3, g4, g5, g6]
   refine wpAnyH_ready (rs := [1, 5]) (by kernel_rfl) (by simp) ?_
   refine AllReadyH.cons rfl (fun K hK => ?_) ?_
   focus
    obtain ⟨q0, q1, q2, q3, q4, _⟩ := I4.out.see HBB.out HVV.out
    obtain ⟨⟨m0, m1, m2, m3, m4, m5⟩, _⟩ := six_cells q4
    go_simp
    refine hK.out _ _ ((one_cell q0).1) (fun hHeld => ?_)
    clear hK K q0 q1 q2 q3 q4 m0 m1 m2 m3 m4 m5
    try simp only [Act.put, g1, g2, g3, g4, g5, g6]
    refine rdy 5 (by kernel_rfl) rfl fun K hK => ?_
    obtain ⟨q0, q1, q2, q3, q4, q5, q6, q7⟩ := I4.out.see HBB.out HVV.out
    have Q5 := hide q5
    clear q0 q1 q2 q3 q4 q5 q6 q7
    go_simp
    go_wp2_with (refine (CN1.out _ P4.out Q5.out).mono ?_; rintro e w5 ⟨x, rfl, b5, p5, v5⟩)
    have P5 := hide p5
    have I5 := hide (I4.out.keep b5 (fun t h1 _ => P4.out.av h1))
    have B5 := hide (B4.out.trans (b5.mono fun k _ e => .inl e))
    have HQV := hide v5
    clear p5 b5 v5 Q5 P4 I4 B4 CN1
    obtain ⟨q0, q1, q2, q3, q4, _⟩ := I5.out.see HBB.out HVV.out
    refine hK.out _ _ ((one_cell q0).1) (fun hHeld => ?_)
    clear hK K q0 q1 q2 q3 q4
    try simp only [Act.put, g1, g2, g3, g4, g5, g6]
    refine rdy 6 (by kernel_rfl) rfl fun K hK => ?_
    go_simp
    have b5 := balloc (brefl w5) (.cells #[.int .u32 x.1, .int .i64 x.2] 107)
    have E6 := hide (heap_new w5 #[.int .u32 x.1, .int .i64 x.2] 107)
    have P6 := hide (P5.out.below b5)
    have I6 := hide (I5.out.below b5)
    have B6 := hide (B5.out.trans (But.of b5))
    clear b5 P5 I5 B5
    obtain ⟨q0, q1, q2, q3, q4, _⟩ := I6.out.see HBB.out HVV.out
    refine hK.out _ _ ((one_cell q0).1) (fun hHeld => ?_)
    clear hK K q0 q1 q2 q3 q4
    try simp only [Act.put, g1, g2, g3, g4, g5, g6]
    obtain ⟨al, hal⟩ : ∃ al, w5.heap.size = al := ⟨_, rfl⟩
    rw [hal] at E6 ⊢
    generalize w5.alloc (.cells #[.int .u32 x.1, .int .i64 x.2] 107) = w6 at *
    clear hal
   rotate_left
   refine AllReadyH.cons rfl (fun K hK => ?_) AllReadyH.nil
   obtain ⟨q0, q1, q2, q3, q4, q5, q6, q7⟩ := I4.out.see HBB.out HVV.out
   have Q5 := hide q5
   clear q0 q1 q2 q3 q4 q5 q6 q7
   go_simp
   go_wp2_with (refine (CN1.out _ P4.out Q5.out).mono ?_; rintro e w5 ⟨x, rfl, b5, p5, v5⟩)
   have P5 := hide p5
   have I5 := hide (I4.out.keep b5 (fun t h1 _ => P4.out.av h1))
   have B5 := hide (B4.out.trans (b5.mono fun k _ e => .inl e))
   have HQV := hide v5
   clear p5 b5 v5 Q5 P4 I4 B4 CN1
   obtain ⟨q0, q1, q2, q3, q4, _⟩ := I5.out.see HBB.out HVV.out
   refine hK.out _ _ ((one_cell q0).1) (fun hHeld => ?_)
   clear hK K q0 q1 q2 q3 q4
   try simp only [Act.put, g1, g2, g3, g4, g5, g6]
   refine wpAnyH_ready (rs := [1, 6]) (by kernel_rfl) (by simp) ?_
   refine AllReadyH.cons rfl (fun K hK => ?_) ?_
   focus
    obtain ⟨q0, q1, q2, q3, q4, _⟩ := I5.out.see HBB.out HVV.out
    obtain ⟨⟨m0, m1, m2, m3, m4, m5⟩, _⟩ := six_cells q4
    go_simp
    refine hK.out _ _ ((one_cell q0).1) (fun hHeld => ?_)
    clear hK K q0 q1 q2 q3 q4 m0 m1 m2 m3 m4 m5
    try simp only [Act.put, g1, g2, g3, g4, g5, g6]
    refine rdy 6 (by kernel_rfl) rfl fun K hK => ?_
    go_simp
    have b5 := balloc (brefl w5) (.cells #[.int .u32 x.1, .int .i64 x.2] 107)
    have E6 := hide (heap_new w5 #[.int .u32 x.1, .int .i64 x.2] 107)
    have P6 := hide (P5.out.below b5)
    have I6 := hide (I5.out.below b5)
    have B6 := hide (B5.out.trans (But.of b5))
    clear b5 P5 I5 B5
    obtain ⟨q0, q1, q2, q3, q4, _⟩ := I6.out.see HBB.out HVV.out
    refine hK.out _ _ ((one_cell q0).1) (fun hHeld => ?_)
    clear hK K q0 q1 q2 q3 q4
    try simp only [Act.put, g1, g2, g3, g4, g5, g6]
    obtain ⟨al, hal⟩ : ∃ al, w5.heap.size = al := ⟨_, rfl⟩
    rw [hal] at E6 ⊢
    generalize w5.alloc (.cells #[.int .u32 x.1, .int .i64 x.2] 107) = w6 at *
    clear hal
   rotate_left
   refine AllReadyH.cons rfl (fun K hK => ?_) AllReadyH.nil
   go_simp
   have b5 := balloc (brefl w5) (.cells #[.int .u32 x.1, .int .i64 x.2] 107)
   have E6 := hide (heap_new w5 #[.int .u32 x.1, .int .i64 x.2] 107)
   have P6 := hide (P5.out.below b5)
   have I6 := hide (I5.out.below b5)
   have B6 := hide (B5.out.trans (But.of b5))
   clear b5 P5 I5 B5
   obtain ⟨q0, q1, q2, q3, q4, _⟩ := I6.out.see HBB.out HVV.out
   refine hK.out _ _ ((one_cell q0).1) (fun hHeld => ?_)
   clear hK K q0 q1 q2 q3 q4
   try simp only [Act.put, g1, g2, g3, g4, g5, g6]
   obtain ⟨al, hal⟩ : ∃ al, w5.heap.size = al := ⟨_, rfl⟩
   rw [hal] at E6 ⊢
   generalize w5.alloc (.cells #[.int .u32 x.1, .int .i64 x.2] 107) = w6 at *
   clear hal
   refine rdy 1 (by kernel_rfl) rfl fun K hK => ?_
   obtain ⟨q0, q1, q2, q3, q4, _⟩ := I6.out.see HBB.out HVV.out
   obtain ⟨⟨m0, m1, m2, m3, m4, m5⟩, _⟩ := six_cells q4
   go_simp
   refine hK.out _ _ ((one_cell q0).1) (fun hHeld => ?_)
   clear hK K q0 q1 q2 q3 q4 m0 m1 m2 m3 m4 m5
   try simp only [Act.put, g1, g2, g3, g4, g5, g6]
  all_goals
   refine rdy 7 (by kernel_rfl) rfl fun K hK => ?_
   obtain ⟨q0, q1, q2, q3, q4, q5, q6, q7⟩ := I6.out.see HBB.out HVV.out
   obtain ⟨xs, al_, row⟩ := q5
   have row2 := row
   rw [HN1.out] at row2
   have hll := HLL.out
   try rw [if_pos (by rfl)]
   refine wp_append_where _ _ _ 46 rfl W0.heap.size 107 i1 _ 2 16 Tryz.underlying46 hi1 hy1 hy2 hy3 rfl (by decide) (.slice a1 N1 k1) N1 xs.flatten rfl row2 ⟨al, 0, none⟩ 1 1 [.int .u32 x.1, .int .i64 x.2] rfl rfl (cells_reads E6.out) (by intro u hu; simp only [List.mem_cons, List.not_mem_nil, or_false] at hu; rcases hu with rfl | rfl <;> rfl) (by unfold maxLen; omega) (by omega) (Nat.le_trans P6.out.1.size (Nat.le_refl _)) ?_
   intro v9 w7 o9 g9 l9
   have HROW : Hid (RowOf w7 W0.heap.size 107 2 PxC v9 (nets ++ [x])) := push_row PxC.keeps al_ row (fun _ h => h.elim) g9 (by rw [HN1.out]; exact o9) rfl
   have gb := grown_but g9
   have hrow : RowOf w6 W0.heap.size 107 2 PxC (.slice a1 N1 k1) nets := ⟨xs, al_, row⟩
   have ga := fun t (ht : (107 : Nat) ≠ t) => row_av' hrow t ht
   have e0 := gb.keep q0 (ga 59 (by decide) _ _ q0)
   have e2 := gb.keep q2 (ga 96 (by decide) _ _ q2)
   have e3 := gb.keep q3 (ga 96 (by decide) _ _ q3)
   have e4 := gb.keep q4 (ga 50 (by decide) _ _ q4)
   have P7 := hide (P6.out.of gb (fun e => by obtain ⟨_, _, cs, hc⟩ := hrow.lt _ e; exact P6.out.av (by decide) _ _ hc rfl) (fun k e => (hrow.lt k e).1))
   have B7 := hide (B6.out.thens gb (fun k hk e => .inr (.inr (.inl (by rw [HVV.out]; exact .inl e)))))
   have HL9 : Hid (∀ k, v9.ownBlock = some k → RtS b v k ∨ w.heap.size ≤ k) := fun k hk => (l9 k hk).imp (fun h => .inr (.inl (by rw [HVV.out]; exact .inl h))) (fun h => Nat.le_trans B6.out.size h)
   have g9' : w6.grownBy w7 (Value.ownBlock (Rv.vn v)) := by show w6.grownBy w7 (Value.ownBlock v.vn); rw [HVV.out]; exact g9
   have hr9 : RowOf w7 W0.heap.size 107 2 PxC v9 (Rv.nets v ++ [x]) := by show RowOf _ _ _ _ _ _ (v.nets ++ _); rw [HVV.out]; exact HROW.out
   have I7 : Hid (RtAt ⟨W0, pb, en⟩ b (w7.setCell ⟨rb, 3, none⟩ v9) { v with vn := v9, nets := v.nets ++ [x] }) := by have := I6.out.push1 g9' v9 x hr9; rw [show b.rb = rb by rw [HBB.out]] at this; exact this
   have HRB : Hid (rb ≠ pb ∧ W0.heap.size ≤ rb) := by have := I6.out.base; rw [HBB.out] at this; exact ⟨this.2, this.1⟩
   obtain ⟨qq, nq, cq, hv9⟩ := own_slice o9
   clear o9 g9 l9 gb ga hrow hr9 g9' al_ row row2 q0 q1 q2 q3 q4 q6 q7 E6 P6 I6 B6 HROW
   refine hK.out _ _ ((one_cell e0).1) (fun hHeld => ?_)
   clear hK K
   try simp only [Act.put, g1, g2, g3, g4, g5, g6]
   refine tak 8 (.pointer (some ⟨rb, 3, none⟩)) rfl (Or.inl ⟨by rfl, fun w hSw => by dsimp only at hSw; go_simp⟩) hHeld ?_
   simp only [Act.put, g1, g2, g3, g4, g5, g6]
   refine rdy 9 (by kernel_rfl) rfl fun K hK => ?_
   obtain ⟨⟨m0, m1, m2, m3, m4, m5⟩, _⟩ := six_cells e4
   have ff := unfrozen e4 3
   rw [hv9]
   go_simp
   rw [← hv9]
   have P8 := hide (P7.out.put (p := ⟨rb, 3, none⟩) HRB.out.1 HRB.out.2 v9)
   have B8 := hide (B7.out.setCell (p := ⟨rb, 3, none⟩) (.inl (.inr (.inl (by rw [HBB.out])))) v9)
   have I8 := I7
   have q0 := I8.out.box
   rw [show b.bx = bx by rw [HBB.out]] at q0
   refine hK.out _ _ ((one_cell q0).1) (fun hHeld => ?_)
   clear hK K q0  e0 e2 e3 e4 m0 m1 m2 m3 m4 m5 ff P7 B7 I7
   try simp only [Act.put, g1, g2, g3, g4, g5, g6]
   refine wpAnyH_done (by kernel_rfl) ?_ _
   refine NoPanic.normal ?_
   clear hHeld
   generalize w7.setCell ⟨rb, 3, none⟩ v9 = w8 at *
   have HX : Hid (RA.2 = RQ1.2 ∧ ∀ a, RA.1 = some a → Rv.rs { v with vn := v9, nets := v.nets ++ [x] } = a) := by
    have h9 := HE2.out h0 h1 h2 x HQV.out
    refine ⟨h9.1, fun a ha => ?_⟩
    rw [← h9.2 a ha]
    unfold Rv.rs
    rw [HVV.out]
   have HS : Hid (∀ k, RtS b { v with vn := v9, nets := v.nets ++ [x] } k → RtS b v k ∨ w.heap.size ≤ k) := by
    rintro k (e | e | e | e | e)
    ·
     exact .inl (.inl e)
    ·
     rcases e with e | e | e
     ·
      exact HL9.out k e
     ·
      exact .inl (.inr (.inl (.inr (.inl e))))
     exact .inl (.inr (.inl (.inr (.inr e))))
    ·
     exact .inl (.inr (.inr (.inl e)))
    ·
     exact .inl (.inr (.inr (.inr (.inl e))))
    exact .inl (.inr (.inr (.inr (.inr e))))
   clear HE0 HE1 HE2 HE3 HE4 HED
   go_wp2_with fail
   refine leaves_cons (f := 70) (args := #[.pointer (some ⟨pb, 0, none⟩), .string (bs [59])]) (by simp) (by simp [go_sem]) ?_
   refine (CD.out _ _ P8.out).mono ?_
   rintro e u' w99 ⟨rfl, rfl, b9, p9⟩
   have HRR := HRP.out _ HX.out.2
   refine ⟨.tuple #[], by simp [results, Tryz.results69, go_sem], rfl, _, I8.out.keep b9 (fun t h1 _ => P8.out.av h1), ⟨⟨HV.out.nbs, HV.out.links, ⟨by show (v.nets ++ [x]).length ≤ 17; rw [HVV.out, List.length_append, HN1.out]; simp only [List.length_cons, List.length_nil]; have := HLL.out; omega, HV.out.many.2.1, HV.out.many.2.2⟩⟩, by show v.nm = nm; rw [HVV.out]⟩, B8.out.trans (b9.mono fun k _ e => .inl e), HS.out, ?_, ?_⟩
   ·
    rw [HRR, HX.out.1]
    exact p9
   intro a ha
   rw [HRR] at ha
   exact okv_some ha
 have hb2 := beq_ll (wd tk tt) [110, 101, 116, 119, 111, 114, 107]
 rw [decide_eq_false h2] at hb2
 by_cases h3 : wd tk tt = (bs [110, 101, 105, 103, 104, 98, 111, 114])
 ·
  have hb3 := beq_ll (wd tk tt) [110, 101, 105, 103, 104, 98, 111, 114]
  rw [decide_eq_true h3] at hb3
  obtain ⟨q0, q1, q2, q3, q4, _⟩ := I2.out.see HBB.out HVV.out
  obtain ⟨b0, _⟩ := one_cell q0
  obtain ⟨g1, _⟩ := one_cell q1
  obtain ⟨g2, _⟩ := one_cell q2
  obtain ⟨g3, _⟩ := one_cell q3
  obtain ⟨⟨m0, m1, m2, m3, m4, m5⟩, _⟩ := six_cells q4
  clear q0 q1 q2 q3 q4
  go_wp2_with fail
  refine (CR2.out _ P2.out).mono ?_
  rintro e w3 ⟨rfl, b3, p3⟩
  have P3 := hide p3
  have I3 := hide (I2.out.keep b3 (fun t h1 _ => P2.out.av h1))
  have B3 := hide (B2.out.trans (b3.mono fun k _ e => .inl e))
  clear p3 b3 c0 cc1 cc2 cc3 P2 B2 I2 TK2 CR1 CR2 CR3 CF CO2 CX CA HZ2
  clear b0 g1 g2 g3 m0 m1 m2 m3 m4 m5
  clear CN1 CN3'
  go_upto_region 15 with fail
  have d4 := Below.drew (brefl w3)
  have P4 := hide (P3.out.below d4)
  have I4 := hide (I3.out.below d4)
  have B4 := hide (B3.out.trans (But.of d4))
  obtain ⟨q0, q1, q2, q3, q4, _⟩ := I4.out.see HBB.out HVV.out
  refine wp_region_noPanic ?_
  refine wp_region_held_drew (S := (fun w' => w'.cell? ⟨bx, 0, none⟩ = some (.pointer (some ⟨pb, 0, none⟩)) ∧ w'.cell? ⟨f2, 0, none⟩ = some (.func (.func 59) #[] #[.pointer (some ⟨c2, 0, none⟩), .pointer (some ⟨x2, 0, none⟩)]))) (by kernel_rfl) ⟨(one_cell q0).1, (one_cell q2).1⟩ (fun hHeld => ?_)
  clear d4 P3 I3 B3 q0 q1 q2 q3 q4
  generalize w3.drew = w4 at *
  refine tak 0 (.pointer (some ⟨rb, 4, none⟩)) rfl (Or.inl ⟨by rfl, fun w hSw => by obtain ⟨s0, s1⟩ := hSw; go_simp⟩) hHeld ?_
  simp only [Act.put, g1, g2, g4, g5, g6]
  refine tak 2 (.pointer (some ⟨pb, 0, none⟩)) rfl (Or.inl ⟨by rfl, fun w hSw => by obtain ⟨s0, s1⟩ := hSw; go_simp⟩) hHeld ?_
  simp only [Act.put, g1, g2, g3, g4, g5, g6]
  refine tak 3 (.func (.func 59) #[] #[.pointer (some ⟨c2, 0, none⟩), .pointer (some ⟨x2, 0, none⟩)]) rfl (Or.inl ⟨by rfl, fun w hSw => by obtain ⟨s0, s1⟩ := hSw; go_simp⟩) hHeld ?_
  simp only [Act.put, g1, g2, g3, g4, g5, g6]
  refine wpAnyH_ready (rs := [1, 4]) (by kernel_rfl) (by simp) ?_
  refine AllReadyH.cons rfl (fun K hK => ?_) ?_
  focus
   obtain ⟨q0, q1, q2, q3, q4, _⟩ := I4.out.see HBB.out HVV.out
   obtain ⟨⟨m0, m1, m2, m3, m4, m5⟩, _⟩ := six_cells q4
   go_simp
   refine hK.out _ _ ⟨(one_cell q0).1, (one_cell q2).1⟩ (fun hHeld => ?_)
   clear hK K q0 q1 q2 q3 q4 m0 m1 m2 m3 m4 m5
   try simp only [Act.put, g1, g2, g3, g4, g5, g6]
   refine rdy 4 (by kernel_rfl) rfl fun K hK => ?_
   obtain ⟨q0, q1, q2, q3, q4, q5, q6, q7⟩ := I4.out.see HBB.out HVV.out
   have qo : OcAt ⟨W0, pb, en⟩ w4 ⟨c2, x2, n2, r2⟩ := by have := I4.out.oc2; rw [HVV.out, HBB.out] at this; exact this
   have QO := hide qo
   clear q0 q1 q2 q3 q4 q5 q6 q7 qo
   go_simp
   go_wp2_with (refine (CN2'.out _ P4.out QO.out).mono ?_; rintro e w5 ⟨n, rfl, hsz, rb', o5, l5, b5, p5, v5⟩)
   have b5' : But (fun k => k = pb ∨ (v.o2 b).S k) w4 w5 := by rw [HVV.out, HBB.out]; exact b5
   have o5' : OcAt ⟨W0, pb, en⟩ w5 ⟨b.c2, b.x2, v.n2 ++ [n.name], rb'⟩ := by rw [HVV.out, HBB.out]; exact o5
   have l5' : ∀ g, rb' = some g → v.r2 = some g ∨ w4.heap.size ≤ g := by rw [HVV.out]; exact l5
   have P5 := hide p5
   have I5 := hide (I4.out.told2 P4.out b5' _ _ o5' l5')
   have B5 := hide (B4.out.trans (b5'.mono (fun k _ e => e.elim .inl (fun e => .inr (.inr (.inr (.inr (.inl e))))))))
   have HQV := hide v5
   have HLR : Hid (∀ g, rb' = some g → v.r2 = some g ∨ w.heap.size ≤ g) := fun g hg => (l5' g hg).imp (fun h => h) (fun h => Nat.le_trans B4.out.size h)
   have HV5 : Hid ({ v with n2 := v.n2 ++ [n.name], r2 := rb' } = (⟨nm, asn, id, .slice a1 N1 k1, .slice a2 N2 k2, .slice a3 N3 k3, nets, nbs, links, n1, n2 ++ [n.name], n3, r1, rb', r3⟩ : Rv)) := by show _ = _; rw [HVV.out]
   clear p5 b5 b5' v5 o5 o5' l5 l5' hsz QO P4 I4 B4 CN2'
   obtain ⟨q0, q1, q2, q3, q4, _⟩ := I5.out.see HBB.out HV5.out
   refine hK.out _ _ ⟨(one_cell q0).1, (one_cell q2).1⟩ (fun hHeld => ?_)
   clear hK K q0 q1 q2 q3 q4
   try simp only [Act.put, g1, g2, g3, g4, g5, g6]
   refine rdy 5 (by kernel_rfl) rfl fun K hK => ?_
   go_simp
   have b5 := balloc (brefl w5) (.cells #[.string n.name, .string n.imp, .string n.exp, .bool n.client] 113)
   have E6 := hide (heap_new w5 #[.string n.name, .string n.imp, .string n.exp, .bool n.client] 113)
   have P6 := hide (P5.out.below b5)
   have I6 := hide (I5.out.below b5)
   have B6 := hide (B5.out.trans (But.of b5))
   clear b5 P5 I5 B5
   obtain ⟨q0, q1, q2, q3, q4, _⟩ := I6.out.see HBB.out HV5.out
   refine hK.out _ _ ⟨(one_cell q0).1, (one_cell q2).1⟩ (fun hHeld => ?_)
   clear hK K q0 q1 q2 q3 q4
   try simp only [Act.put, g1, g2, g3, g4, g5, g6]
   obtain ⟨al, hal⟩ : ∃ al, w5.heap.size = al := ⟨_, rfl⟩
   rw [hal] at E6 ⊢
   generalize w5.alloc (.cells #[.string n.name, .string n.imp, .string n.exp, .bool n.client] 113) = w6 at *
   clear hal
  rotate_left
  focus
   refine AllReadyH.cons rfl (fun K hK => ?_) AllReadyH.nil
   obtain ⟨q0, q1, q2, q3, q4, q5, q6, q7⟩ := I4.out.see HBB.out HVV.out
   have qo : OcAt ⟨W0, pb, en⟩ w4 ⟨c2, x2, n2, r2⟩ := by have := I4.out.oc2; rw [HVV.out, HBB.out] at this; exact this
   have QO := hide qo
   clear q0 q1 q2 q3 q4 q5 q6 q7 qo
   go_simp
   go_wp2_with (refine (CN2'.out _ P4.out QO.out).mono ?_; rintro e w5 ⟨n, rfl, hsz, rb', o5, l5, b5, p5, v5⟩)
   have b5' : But (fun k => k = pb ∨ (v.o2 b).S k) w4 w5 := by rw [HVV.out, HBB.out]; exact b5
   have o5' : OcAt ⟨W0, pb, en⟩ w5 ⟨b.c2, b.x2, v.n2 ++ [n.name], rb'⟩ := by rw [HVV.out, HBB.out]; exact o5
   have l5' : ∀ g, rb' = some g → v.r2 = some g ∨ w4.heap.size ≤ g := by rw [HVV.out]; exact l5
   have P5 := hide p5
   have I5 := hide (I4.out.told2 P4.out b5' _ _ o5' l5')
   have B5 := hide (B4.out.trans (b5'.mono (fun k _ e => e.elim .inl (fun e => .inr (.inr (.inr (.inr (.inl e))))))))
   have HQV := hide v5
   have HLR : Hid (∀ g, rb' = some g → v.r2 = some g ∨ w.heap.size ≤ g) := fun g hg => (l5' g hg).imp (fun h => h) (fun h => Nat.le_trans B4.out.size h)
   have HV5 : Hid ({ v with n2 := v.n2 ++ [n.name], r2 := rb' } = (⟨nm, asn, id, .slice a1 N1 k1, .slice a2 N2 k2, .slice a3 N3 k3, nets, nbs, links, n1, n2 ++ [n.name], n3, r1, rb', r3⟩ : Rv)) := by show _ = _; rw [HVV.out]
   clear p5 b5 b5' v5 o5 o5' l5 l5' hsz QO P4 I4 B4 CN2'
   obtain ⟨q0, q1, q2, q3, q4, _⟩ := I5.out.see HBB.out HV5.out
   refine hK.out _ _ ⟨(one_cell q0).1, (one_cell q2).1⟩ (fun hHeld => ?_)
   clear hK K q0 q1 q2 q3 q4
   try simp only [Act.put, g1, g2, g3, g4, g5, g6]
   refine wpAnyH_ready (rs := [1, 5]) (by kernel_rfl) (by simp) ?_
   refine AllReadyH.cons rfl (fun K hK => ?_) ?_
   focus
    obtain ⟨q0, q1, q2, q3, q4, _⟩ := I5.out.see HBB.out HV5.out
    obtain ⟨⟨m0, m1, m2, m3, m4, m5⟩, _⟩ := six_cells q4
    go_simp
    refine hK.out _ _ ⟨(one_cell q0).1, (one_cell q2).1⟩ (fun hHeld => ?_)
    clear hK K q0 q1 q2 q3 q4 m0 m1 m2 m3 m4 m5
    try simp only [Act.put, g1, g2, g3, g4, g5, g6]
    refine rdy 5 (by kernel_rfl) rfl fun K hK => ?_
    go_simp
    have b5 := balloc (brefl w5) (.cells #[.string n.name, .string n.imp, .string n.exp, .bool n.client] 113)
    have E6 := hide (heap_new w5 #[.string n.name, .string n.imp, .string n.exp, .bool n.client] 113)
    have P6 := hide (P5.out.below b5)
    have I6 := hide (I5.out.below b5)
    have B6 := hide (B5.out.trans (But.of b5))
    clear b5 P5 I5 B5
    obtain ⟨q0, q1, q2, q3, q4, _⟩ := I6.out.see HBB.out HV5.out
    refine hK.out _ _ ⟨(one_cell q0).1, (one_cell q2).1⟩ (fun hHeld => ?_)
    clear hK K q0 q1 q2 q3 q4
    try simp only [Act.put, g1, g2, g3, g4, g5, g6]
    obtain ⟨al, hal⟩ : ∃ al, w5.heap.size = al := ⟨_, rfl⟩
    rw [hal] at E6 ⊢
    generalize w5.alloc (.cells #[.string n.name, .string n.imp, .string n.exp, .bool n.client] 113) = w6 at *
    clear hal
   rotate_left
   refine AllReadyH.cons rfl (fun K hK => ?_) AllReadyH.nil
   go_simp
   have b5 := balloc (brefl w5) (.cells #[.string n.name, .string n.imp, .string n.exp, .bool n.client] 113)
   have E6 := hide (heap_new w5 #[.string n.name, .string n.imp, .string n.exp, .bool n.client] 113)
   have P6 := hide (P5.out.below b5)
   have I6 := hide (I5.out.below b5)
   have B6 := hide (B5.out.trans (But.of b5))
   clear b5 P5 I5 B5
   obtain ⟨q0, q1, q2, q3, q4, _⟩ := I6.out.see HBB.out HV5.out
   refine hK.out _ _ ⟨(one_cell q0).1, (one_cell q2).1⟩ (fun hHeld => ?_)
   clear hK K q0 q1 q2 q3 q4
   try simp only [Act.put, g1, g2, g3, g4, g5, g6]
   obtain ⟨al, hal⟩ : ∃ al, w5.heap.size = al := ⟨_, rfl⟩
   rw [hal] at E6 ⊢
   generalize w5.alloc (.cells #[.string n.name, .string n.imp, .string n.exp, .bool n.client] 113) = w6 at *
   clear hal
   refine rdy 1 (by kernel_rfl) rfl fun K hK => ?_
   obtain ⟨q0, q1, q2, q3, q4, _⟩ := I6.out.see HBB.out HV5.out
   obtain ⟨⟨m0, m1, m2, m3, m4, m5⟩, _⟩ := six_cells q4
   go_simp
   refine hK.out _ _ ⟨(one_cell q0).1, (one_cell q2).1⟩ (fun hHeld => ?_)
   clear hK K q0 q1 q2 q3 q4 m0 m1 m2 m3 m4 m5
   try simp only [Act.put, g1, g2, g3, g4, g5, g6]
  all_goals
   refine rdy 6 (by kernel_rfl) rfl fun K hK => ?_
   obtain ⟨q0, q1, q2, q3, q4, q5, q6, q7⟩ := I6.out.see HBB.out HV5.out
   obtain ⟨xs, al_, row⟩ := q6
   have row2 := row
   rw [HN2.out] at row2
   have hll := HLL.out
   try rw [if_pos (by rfl)]
   refine wp_append_where _ _ _ 47 rfl W0.heap.size 113 i2 _ 4 56 Tryz.underlying47 hi2 hz1 hz2 hz3 rfl (by decide) (.slice a2 N2 k2) N2 xs.flatten rfl row2 ⟨al, 0, none⟩ 1 1 [.string n.name, .string n.imp, .string n.exp, .bool n.client] rfl rfl (cells_reads E6.out) (by intro u hu; simp only [List.mem_cons, List.not_mem_nil, or_false] at hu; rcases hu with rfl | rfl | rfl | rfl <;> rfl) (by unfold maxLen; omega) (by omega) (Nat.le_trans P6.out.1.size (Nat.le_refl _)) ?_
   intro v9 w7 o9 g9 l9
   have HROW : Hid (RowOf w7 W0.heap.size 113 4 NbC v9 (nbs ++ [n])) := push_row NbC.keeps al_ row (fun _ h => h.elim) g9 (by rw [HN2.out]; exact o9) rfl
   have gb := grown_but g9
   have hrow : RowOf w6 W0.heap.size 113 4 NbC (.slice a2 N2 k2) nbs := ⟨xs, al_, row⟩
   have ga := fun t (ht : (113 : Nat) ≠ t) => row_av' hrow t ht
   have e0 := gb.keep q0 (ga 59 (by decide) _ _ q0)
   have e2 := gb.keep q2 (ga 96 (by decide) _ _ q2)
   have e3 := gb.keep q3 (ga 96 (by decide) _ _ q3)
   have e4 := gb.keep q4 (ga 50 (by decide) _ _ q4)
   have P7 := hide (P6.out.of gb (fun e => by obtain ⟨_, _, cs, hc⟩ := hrow.lt _ e; exact P6.out.av (by decide) _ _ hc rfl) (fun k e => (hrow.lt k e).1))
   have B7 := hide (B6.out.thens gb (fun k hk e => .inr (.inr (.inl (by rw [HVV.out]; exact .inr (.inl e))))))
   have HL9 : Hid (∀ k, v9.ownBlock = some k → RtS b v k ∨ w.heap.size ≤ k) := fun k hk => (l9 k hk).imp (fun h => .inr (.inl (by rw [HVV.out]; exact .inr (.inl h)))) (fun h => Nat.le_trans B6.out.size h)
   have g9' : w6.grownBy w7 (Value.ownBlock (Rv.vb { v with n2 := v.n2 ++ [n.name], r2 := rb' })) := by show w6.grownBy w7 (Value.ownBlock v.vb); rw [HVV.out]; exact g9
   have hr9 : RowOf w7 W0.heap.size 113 4 NbC v9 (Rv.nbs { v with n2 := v.n2 ++ [n.name], r2 := rb' } ++ [n]) := by show RowOf _ _ _ _ _ _ (v.nbs ++ _); rw [HVV.out]; exact HROW.out
   have I7 : Hid (RtAt ⟨W0, pb, en⟩ b (w7.setCell ⟨rb, 4, none⟩ v9) { v with n2 := v.n2 ++ [n.name], r2 := rb', vb := v9, nbs := v.nbs ++ [n] }) := by have := I6.out.push2 g9' v9 n hr9; rw [show b.rb = rb by rw [HBB.out]] at this; exact this
   have HRB : Hid (rb ≠ pb ∧ W0.heap.size ≤ rb) := by have := I6.out.base; rw [HBB.out] at this; exact ⟨this.2, this.1⟩
   obtain ⟨qq, nq, cq, hv9⟩ := own_slice o9
   clear o9 g9 l9 gb ga hrow hr9 g9' al_ row row2 q0 q1 q2 q3 q4 q5 q7 E6 P6 I6 B6 HROW
   refine hK.out _ _ ⟨(one_cell e0).1, (one_cell e2).1⟩ (fun hHeld => ?_)
   clear hK K
   try simp only [Act.put, g1, g2, g3, g4, g5, g6]
   refine tak 7 (.pointer (some ⟨rb, 4, none⟩)) rfl (Or.inl ⟨by rfl, fun w hSw => by obtain ⟨s0, s1⟩ := hSw; go_simp⟩) hHeld ?_
   simp only [Act.put, g1, g2, g3, g4, g5, g6]
   refine rdy 8 (by kernel_rfl) rfl fun K hK => ?_
   obtain ⟨⟨m0, m1, m2, m3, m4, m5⟩, _⟩ := six_cells e4
   have ff := unfrozen e4 4
   rw [hv9]
   go_simp
   rw [← hv9]
   have P8 := hide (P7.out.put (p := ⟨rb, 4, none⟩) HRB.out.1 HRB.out.2 v9)
   have B8 := hide (B7.out.setCell (p := ⟨rb, 4, none⟩) (.inl (.inr (.inl (by rw [HBB.out])))) v9)
   have I8 := I7
   have q0 := I8.out.box
   rw [show b.bx = bx by rw [HBB.out]] at q0
   have q2 := I8.out.f2
   rw [show b.f2 = f2 by rw [HBB.out], show b.c2 = c2 by rw [HBB.out], show b.x2 = x2 by rw [HBB.out]] at q2
   refine hK.out _ _ ⟨(one_cell q0).1, (one_cell q2).1⟩ (fun hHeld => ?_)
   clear hK K q0 q2 e0 e2 e3 e4 m0 m1 m2 m3 m4 m5 ff P7 B7 I7
   try simp only [Act.put, g1, g2, g3, g4, g5, g6]
   refine wpAnyH_done (by kernel_rfl) ?_ _
   refine NoPanic.normal ?_
   clear hHeld
   generalize w7.setCell ⟨rb, 4, none⟩ v9 = w8 at *
   have HX : Hid (RA.2 = RQ2.2 ∧ ∀ a, RA.1 = some a → Rv.rs { v with n2 := v.n2 ++ [n.name], r2 := rb', vb := v9, nbs := v.nbs ++ [n] } = a) := by
    have h9 := HE3.out h0 h1 h2 h3 n HQV.out
    refine ⟨h9.1, fun a ha => ?_⟩
    rw [← h9.2 a ha]
    unfold Rv.rs
    rw [HVV.out]
   have HS : Hid (∀ k, RtS b { v with n2 := v.n2 ++ [n.name], r2 := rb', vb := v9, nbs := v.nbs ++ [n] } k → RtS b v k ∨ w.heap.size ≤ k) := by
    rintro k (e | e | e | e | e)
    ·
     exact .inl (.inl e)
    ·
     rcases e with e | e | e
     ·
      exact .inl (.inr (.inl (.inl e)))
     ·
      exact HL9.out k e
     exact .inl (.inr (.inl (.inr (.inr e))))
    ·
     exact .inl (.inr (.inr (.inl e)))
    ·
     rcases e with e | e
     ·
      exact .inl (.inr (.inr (.inr (.inl (.inl e)))))
     exact (HLR.out k e).imp (fun h => .inr (.inr (.inr (.inl (.inr h))))) (fun h => h)
    exact .inl (.inr (.inr (.inr (.inr e))))
   clear HE0 HE1 HE2 HE3 HE4 HED
   go_wp2_with fail
   refine leaves_cons (f := 70) (args := #[.pointer (some ⟨pb, 0, none⟩), .string (bs [59])]) (by simp) (by simp [go_sem]) ?_
   refine (CD.out _ _ P8.out).mono ?_
   rintro e u' w99 ⟨rfl, rfl, b9, p9⟩
   have HRR := HRP.out _ HX.out.2
   refine ⟨.tuple #[], by simp [results, Tryz.results69, go_sem], rfl, _, I8.out.keep b9 (fun t h1 _ => P8.out.av h1), ⟨⟨by show v.n2 ++ [n.name] = (v.nbs ++ [n]).map Nb.name; rw [List.map_append, ← HV.out.nbs]; rfl, HV.out.links, ⟨HV.out.many.1, by show (v.nbs ++ [n]).length ≤ 17; rw [HVV.out, List.length_append, HN2.out]; simp only [List.length_cons, List.length_nil]; have := HLL.out; omega, HV.out.many.2.2⟩⟩, by show v.nm = nm; rw [HVV.out]⟩, B8.out.trans (b9.mono fun k _ e => .inl e), HS.out, ?_, ?_⟩
   ·
    rw [HRR, HX.out.1]
    exact p9
   intro a ha
   rw [HRR] at ha
   exact okv_some ha
 have hb3 := beq_ll (wd tk tt) [110, 101, 105, 103, 104, 98, 111, 114]
 rw [decide_eq_false h3] at hb3
 by_cases h4 : wd tk tt = (bs [108, 105, 110, 107])
 ·
  have hb4 := beq_ll (wd tk tt) [108, 105, 110, 107]
  rw [decide_eq_true h4] at hb4
  obtain ⟨q0, q1, q2, q3, q4, _⟩ := I2.out.see HBB.out HVV.out
  obtain ⟨b0, _⟩ := one_cell q0
  obtain ⟨g1, _⟩ := one_cell q1
  obtain ⟨g2, _⟩ := one_cell q2
  obtain ⟨g3, _⟩ := one_cell q3
  obtain ⟨⟨m0, m1, m2, m3, m4, m5⟩, _⟩ := six_cells q4
  clear q0 q1 q2 q3 q4
  go_wp2_with fail
  refine (CR3.out _ P2.out).mono ?_
  rintro e w3 ⟨rfl, b3, p3⟩
  have P3 := hide p3
  have I3 := hide (I2.out.keep b3 (fun t h1 _ => P2.out.av h1))
  have B3 := hide (B2.out.trans (b3.mono fun k _ e => .inl e))
  clear p3 b3 c0 cc1 cc2 cc3 P2 B2 I2 TK2 CR1 CR2 CR3 CF CO2 CX CA HZ2
  clear b0 g1 g2 g3 m0 m1 m2 m3 m4 m5
  clear CN1 CN2'
  go_upto_region 18 with fail
  have d4 := Below.drew (brefl w3)
  have P4 := hide (P3.out.below d4)
  have I4 := hide (I3.out.below d4)
  have B4 := hide (B3.out.trans (But.of d4))
  obtain ⟨q0, q1, q2, q3, q4, _⟩ := I4.out.see HBB.out HVV.out
  refine wp_region_noPanic ?_
  refine wp_region_held_drew (S := (fun w' => w'.cell? ⟨bx, 0, none⟩ = some (.pointer (some ⟨pb, 0, none⟩)) ∧ w'.cell? ⟨f3, 0, none⟩ = some (.func (.func 59) #[] #[.pointer (some ⟨c3, 0, none⟩), .pointer (some ⟨x3, 0, none⟩)]))) (by kernel_rfl) ⟨(one_cell q0).1, (one_cell q3).1⟩ (fun hHeld => ?_)
  clear d4 P3 I3 B3 q0 q1 q2 q3 q4
  generalize w3.drew = w4 at *
  refine tak 0 (.pointer (some ⟨rb, 5, none⟩)) rfl (Or.inl ⟨by rfl, fun w hSw => by obtain ⟨s0, s1⟩ := hSw; go_simp⟩) hHeld ?_
  simp only [Act.put, g1, g2, g4, g5, g6]
  refine tak 2 (.pointer (some ⟨pb, 0, none⟩)) rfl (Or.inl ⟨by rfl, fun w hSw => by obtain ⟨s0, s1⟩ := hSw; go_simp⟩) hHeld ?_
  simp only [Act.put, g1, g2, g3, g4, g5, g6]
  refine tak 3 (.func (.func 59) #[] #[.pointer (some ⟨c3, 0, none⟩), .pointer (some ⟨x3, 0, none⟩)]) rfl (Or.inl ⟨by rfl, fun w hSw => by obtain ⟨s0, s1⟩ := hSw; go_simp⟩) hHeld ?_
  simp only [Act.put, g1, g2, g3, g4, g5, g6]
  refine wpAnyH_ready (rs := [1, 4]) (by kernel_rfl) (by simp) ?_
  refine AllReadyH.cons rfl (fun K hK => ?_) ?_
  focus
   obtain ⟨q0, q1, q2, q3, q4, _⟩ := I4.out.see HBB.out HVV.out
   obtain ⟨⟨m0, m1, m2, m3, m4, m5⟩, _⟩ := six_cells q4
   go_simp
   refine hK.out _ _ ⟨(one_cell q0).1, (one_cell q3).1⟩ (fun hHeld => ?_)
   clear hK K q0 q1 q2 q3 q4 m0 m1 m2 m3 m4 m5
   try simp only [Act.put, g1, g2, g3, g4, g5, g6]
   refine rdy 4 (by kernel_rfl) rfl fun K hK => ?_
   obtain ⟨q0, q1, q2, q3, q4, q5, q6, q7⟩ := I4.out.see HBB.out HVV.out
   have qo : OcAt ⟨W0, pb, en⟩ w4 ⟨c3, x3, n3, r3⟩ := by have := I4.out.oc3; rw [HVV.out, HBB.out] at this; exact this
   have QO := hide qo
   clear q0 q1 q2 q3 q4 q5 q6 q7 qo
   go_simp
   go_wp2_with (refine (CN3'.out _ P4.out QO.out).mono ?_; rintro e w5 ⟨s, nk, rfl, hsz, rb', o5, l5, b5, p5, v5⟩)
   have b5' : But (fun k => k = pb ∨ (v.o3 b).S k) w4 w5 := by rw [HVV.out, HBB.out]; exact b5
   have o5' : OcAt ⟨W0, pb, en⟩ w5 ⟨b.c3, b.x3, v.n3 ++ [s], rb'⟩ := by rw [HVV.out, HBB.out]; exact o5
   have l5' : ∀ g, rb' = some g → v.r3 = some g ∨ w4.heap.size ≤ g := by rw [HVV.out]; exact l5
   have P5 := hide p5
   have I5 := hide (I4.out.told3 P4.out b5' _ _ o5' l5')
   have B5 := hide (B4.out.trans (b5'.mono (fun k _ e => e.elim .inl (fun e => .inr (.inr (.inr (.inr (.inr e))))))))
   have HQV := hide v5
   have HLR : Hid (∀ g, rb' = some g → v.r3 = some g ∨ w.heap.size ≤ g) := fun g hg => (l5' g hg).imp (fun h => h) (fun h => Nat.le_trans B4.out.size h)
   have HV5 : Hid ({ v with n3 := v.n3 ++ [s], r3 := rb' } = (⟨nm, asn, id, .slice a1 N1 k1, .slice a2 N2 k2, .slice a3 N3 k3, nets, nbs, links, n1, n2, n3 ++ [s], r1, r2, rb'⟩ : Rv)) := by show _ = _; rw [HVV.out]
   clear p5 b5 b5' v5 o5 o5' l5 l5' hsz QO P4 I4 B4 CN3'
   obtain ⟨q0, q1, q2, q3, q4, _⟩ := I5.out.see HBB.out HV5.out
   refine hK.out _ _ ⟨(one_cell q0).1, (one_cell q3).1⟩ (fun hHeld => ?_)
   clear hK K q0 q1 q2 q3 q4
   try simp only [Act.put, g1, g2, g3, g4, g5, g6]
   refine rdy 5 (by kernel_rfl) rfl fun K hK => ?_
   go_simp
   have b5 := balloc (brefl w5) (.cells #[.string s, .int .i64 nk] 115)
   have E6 := hide (heap_new w5 #[.string s, .int .i64 nk] 115)
   have P6 := hide (P5.out.below b5)
   have I6 := hide (I5.out.below b5)
   have B6 := hide (B5.out.trans (But.of b5))
   clear b5 P5 I5 B5
   obtain ⟨q0, q1, q2, q3, q4, _⟩ := I6.out.see HBB.out HV5.out
   refine hK.out _ _ ⟨(one_cell q0).1, (one_cell q3).1⟩ (fun hHeld => ?_)
   clear hK K q0 q1 q2 q3 q4
   try simp only [Act.put, g1, g2, g3, g4, g5, g6]
   obtain ⟨al, hal⟩ : ∃ al, w5.heap.size = al := ⟨_, rfl⟩
   rw [hal] at E6 ⊢
   generalize w5.alloc (.cells #[.string s, .int .i64 nk] 115) = w6 at *
   clear hal
  rotate_left
  focus
   refine AllReadyH.cons rfl (fun K hK => ?_) AllReadyH.nil
   obtain ⟨q0, q1, q2, q3, q4, q5, q6, q7⟩ := I4.out.see HBB.out HVV.out
   have qo : OcAt ⟨W0, pb, en⟩ w4 ⟨c3, x3, n3, r3⟩ := by have := I4.out.oc3; rw [HVV.out, HBB.out] at this; exact this
   have QO := hide qo
   clear q0 q1 q2 q3 q4 q5 q6 q7 qo
   go_simp
   go_wp2_with (refine (CN3'.out _ P4.out QO.out).mono ?_; rintro e w5 ⟨s, nk, rfl, hsz, rb', o5, l5, b5, p5, v5⟩)
   have b5' : But (fun k => k = pb ∨ (v.o3 b).S k) w4 w5 := by rw [HVV.out, HBB.out]; exact b5
   have o5' : OcAt ⟨W0, pb, en⟩ w5 ⟨b.c3, b.x3, v.n3 ++ [s], rb'⟩ := by rw [HVV.out, HBB.out]; exact o5
   have l5' : ∀ g, rb' = some g → v.r3 = some g ∨ w4.heap.size ≤ g := by rw [HVV.out]; exact l5
   have P5 := hide p5
   have I5 := hide (I4.out.told3 P4.out b5' _ _ o5' l5')
   have B5 := hide (B4.out.trans (b5'.mono (fun k _ e => e.elim .inl (fun e => .inr (.inr (.inr (.inr (.inr e))))))))
   have HQV := hide v5
   have HLR : Hid (∀ g, rb' = some g → v.r3 = some g ∨ w.heap.size ≤ g) := fun g hg => (l5' g hg).imp (fun h => h) (fun h => Nat.le_trans B4.out.size h)
   have HV5 : Hid ({ v with n3 := v.n3 ++ [s], r3 := rb' } = (⟨nm, asn, id, .slice a1 N1 k1, .slice a2 N2 k2, .slice a3 N3 k3, nets, nbs, links, n1, n2, n3 ++ [s], r1, r2, rb'⟩ : Rv)) := by show _ = _; rw [HVV.out]
   clear p5 b5 b5' v5 o5 o5' l5 l5' hsz QO P4 I4 B4 CN3'
   obtain ⟨q0, q1, q2, q3, q4, _⟩ := I5.out.see HBB.out HV5.out
   refine hK.out _ _ ⟨(one_cell q0).1, (one_cell q3).1⟩ (fun hHeld => ?_)
   clear hK K q0 q1 q2 q3 q4
   try simp only [Act.put, g1, g2, g3, g4, g5, g6]
   refine wpAnyH_ready (rs := [1, 5]) (by kernel_rfl) (by simp) ?_
   refine AllReadyH.cons rfl (fun K hK => ?_) ?_
   focus
    obtain ⟨q0, q1, q2, q3, q4, _⟩ := I5.out.see HBB.out HV5.out
    obtain ⟨⟨m0, m1, m2, m3, m4, m5⟩, _⟩ := six_cells q4
    go_simp
    refine hK.out _ _ ⟨(one_cell q0).1, (one_cell q3).1⟩ (fun hHeld => ?_)
    clear hK K q0 q1 q2 q3 q4 m0 m1 m2 m3 m4 m5
    try simp only [Act.put, g1, g2, g3, g4, g5, g6]
    refine rdy 5 (by kernel_rfl) rfl fun K hK => ?_
    go_simp
    have b5 := balloc (brefl w5) (.cells #[.string s, .int .i64 nk] 115)
    have E6 := hide (heap_new w5 #[.string s, .int .i64 nk] 115)
    have P6 := hide (P5.out.below b5)
    have I6 := hide (I5.out.below b5)
    have B6 := hide (B5.out.trans (But.of b5))
    clear b5 P5 I5 B5
    obtain ⟨q0, q1, q2, q3, q4, _⟩ := I6.out.see HBB.out HV5.out
    refine hK.out _ _ ⟨(one_cell q0).1, (one_cell q3).1⟩ (fun hHeld => ?_)
    clear hK K q0 q1 q2 q3 q4
    try simp only [Act.put, g1, g2, g3, g4, g5, g6]
    obtain ⟨al, hal⟩ : ∃ al, w5.heap.size = al := ⟨_, rfl⟩
    rw [hal] at E6 ⊢
    generalize w5.alloc (.cells #[.string s, .int .i64 nk] 115) = w6 at *
    clear hal
   rotate_left
   refine AllReadyH.cons rfl (fun K hK => ?_) AllReadyH.nil
   go_simp
   have b5 := balloc (brefl w5) (.cells #[.string s, .int .i64 nk] 115)
   have E6 := hide (heap_new w5 #[.string s, .int .i64 nk] 115)
   have P6 := hide (P5.out.below b5)
   have I6 := hide (I5.out.below b5)
   have B6 := hide (B5.out.trans (But.of b5))
   clear b5 P5 I5 B5
   obtain ⟨q0, q1, q2, q3, q4, _⟩ := I6.out.see HBB.out HV5.out
   refine hK.out _ _ ⟨(one_cell q0).1, (one_cell q3).1⟩ (fun hHeld => ?_)
   clear hK K q0 q1 q2 q3 q4
   try simp only [Act.put, g1, g2, g3, g4, g5, g6]
   obtain ⟨al, hal⟩ : ∃ al, w5.heap.size = al := ⟨_, rfl⟩
   rw [hal] at E6 ⊢
   generalize w5.alloc (.cells #[.string s, .int .i64 nk] 115) = w6 at *
   clear hal
   refine rdy 1 (by kernel_rfl) rfl fun K hK => ?_
   obtain ⟨q0, q1, q2, q3, q4, _⟩ := I6.out.see HBB.out HV5.out
   obtain ⟨⟨m0, m1, m2, m3, m4, m5⟩, _⟩ := six_cells q4
   go_simp
   refine hK.out _ _ ⟨(one_cell q0).1, (one_cell q3).1⟩ (fun hHeld => ?_)
   clear hK K q0 q1 q2 q3 q4 m0 m1 m2 m3 m4 m5
   try simp only [Act.put, g1, g2, g3, g4, g5, g6]
  all_goals
   refine rdy 6 (by kernel_rfl) rfl fun K hK => ?_
   obtain ⟨q0, q1, q2, q3, q4, q5, q6, q7⟩ := I6.out.see HBB.out HV5.out
   obtain ⟨xs, al_, row⟩ := q7
   have row2 := row
   rw [HN3.out] at row2
   have hll := HLL.out
   try rw [if_pos (by rfl)]
   refine wp_append_where _ _ _ 48 rfl W0.heap.size 115 i3 _ 2 24 Tryz.underlying48 hi3 hu1 hu2 hu3 rfl (by decide) (.slice a3 N3 k3) N3 xs.flatten rfl row2 ⟨al, 0, none⟩ 1 1 [.string s, .int .i64 nk] rfl rfl (cells_reads E6.out) (by intro u hu; simp only [List.mem_cons, List.not_mem_nil, or_false] at hu; rcases hu with rfl | rfl <;> rfl) (by unfold maxLen; omega) (by omega) (Nat.le_trans P6.out.1.size (Nat.le_refl _)) ?_
   intro v9 w7 o9 g9 l9
   have HROW : Hid (RowOf w7 W0.heap.size 115 2 LkC v9 (links ++ [(⟨s, nk⟩ : Lk)])) := push_row LkC.keeps al_ row (fun _ h => h.elim) g9 (by rw [HN3.out]; exact o9) rfl
   have gb := grown_but g9
   have hrow : RowOf w6 W0.heap.size 115 2 LkC (.slice a3 N3 k3) links := ⟨xs, al_, row⟩
   have ga := fun t (ht : (115 : Nat) ≠ t) => row_av' hrow t ht
   have e0 := gb.keep q0 (ga 59 (by decide) _ _ q0)
   have e2 := gb.keep q2 (ga 96 (by decide) _ _ q2)
   have e3 := gb.keep q3 (ga 96 (by decide) _ _ q3)
   have e4 := gb.keep q4 (ga 50 (by decide) _ _ q4)
   have P7 := hide (P6.out.of gb (fun e => by obtain ⟨_, _, cs, hc⟩ := hrow.lt _ e; exact P6.out.av (by decide) _ _ hc rfl) (fun k e => (hrow.lt k e).1))
   have B7 := hide (B6.out.thens gb (fun k hk e => .inr (.inr (.inl (by rw [HVV.out]; exact .inr (.inr e))))))
   have HL9 : Hid (∀ k, v9.ownBlock = some k → RtS b v k ∨ w.heap.size ≤ k) := fun k hk => (l9 k hk).imp (fun h => .inr (.inl (by rw [HVV.out]; exact .inr (.inr h)))) (fun h => Nat.le_trans B6.out.size h)
   have g9' : w6.grownBy w7 (Value.ownBlock (Rv.vl { v with n3 := v.n3 ++ [s], r3 := rb' })) := by show w6.grownBy w7 (Value.ownBlock v.vl); rw [HVV.out]; exact g9
   have hr9 : RowOf w7 W0.heap.size 115 2 LkC v9 (Rv.links { v with n3 := v.n3 ++ [s], r3 := rb' } ++ [(⟨s, nk⟩ : Lk)]) := by show RowOf _ _ _ _ _ _ (v.links ++ _); rw [HVV.out]; exact HROW.out
   have I7 : Hid (RtAt ⟨W0, pb, en⟩ b (w7.setCell ⟨rb, 5, none⟩ v9) { v with n3 := v.n3 ++ [s], r3 := rb', vl := v9, links := v.links ++ [(⟨s, nk⟩ : Lk)] }) := by have := I6.out.push3 g9' v9 (⟨s, nk⟩ : Lk) hr9; rw [show b.rb = rb by rw [HBB.out]] at this; exact this
   have HRB : Hid (rb ≠ pb ∧ W0.heap.size ≤ rb) := by have := I6.out.base; rw [HBB.out] at this; exact ⟨this.2, this.1⟩
   obtain ⟨qq, nq, cq, hv9⟩ := own_slice o9
   clear o9 g9 l9 gb ga hrow hr9 g9' al_ row row2 q0 q1 q2 q3 q4 q5 q6 E6 P6 I6 B6 HROW
   refine hK.out _ _ ⟨(one_cell e0).1, (one_cell e3).1⟩ (fun hHeld => ?_)
   clear hK K
   try simp only [Act.put, g1, g2, g3, g4, g5, g6]
   refine tak 7 (.pointer (some ⟨rb, 5, none⟩)) rfl (Or.inl ⟨by rfl, fun w hSw => by obtain ⟨s0, s1⟩ := hSw; go_simp⟩) hHeld ?_
   simp only [Act.put, g1, g2, g3, g4, g5, g6]
   refine rdy 8 (by kernel_rfl) rfl fun K hK => ?_
   obtain ⟨⟨m0, m1, m2, m3, m4, m5⟩, _⟩ := six_cells e4
   have ff := unfrozen e4 5
   rw [hv9]
   go_simp
   rw [← hv9]
   have P8 := hide (P7.out.put (p := ⟨rb, 5, none⟩) HRB.out.1 HRB.out.2 v9)
   have B8 := hide (B7.out.setCell (p := ⟨rb, 5, none⟩) (.inl (.inr (.inl (by rw [HBB.out])))) v9)
   have I8 := I7
   have q0 := I8.out.box
   rw [show b.bx = bx by rw [HBB.out]] at q0
   have q3 := I8.out.f3
   rw [show b.f3 = f3 by rw [HBB.out], show b.c3 = c3 by rw [HBB.out], show b.x3 = x3 by rw [HBB.out]] at q3
   refine hK.out _ _ ⟨(one_cell q0).1, (one_cell q3).1⟩ (fun hHeld => ?_)
   clear hK K q0 q3 e0 e2 e3 e4 m0 m1 m2 m3 m4 m5 ff P7 B7 I7
   try simp only [Act.put, g1, g2, g3, g4, g5, g6]
   refine wpAnyH_done (by kernel_rfl) ?_ _
   refine NoPanic.normal ?_
   clear hHeld
   generalize w7.setCell ⟨rb, 5, none⟩ v9 = w8 at *
   have HX : Hid (RA.2 = RQ3.2 ∧ ∀ a, RA.1 = some a → Rv.rs { v with n3 := v.n3 ++ [s], r3 := rb', vl := v9, links := v.links ++ [(⟨s, nk⟩ : Lk)] } = a) := by
    have h9 := HE4.out h0 h1 h2 h3 h4 (⟨s, nk⟩ : Lk) HQV.out
    refine ⟨h9.1, fun a ha => ?_⟩
    rw [← h9.2 a ha]
    unfold Rv.rs
    rw [HVV.out]
   have HS : Hid (∀ k, RtS b { v with n3 := v.n3 ++ [s], r3 := rb', vl := v9, links := v.links ++ [(⟨s, nk⟩ : Lk)] } k → RtS b v k ∨ w.heap.size ≤ k) := by
    rintro k (e | e | e | e | e)
    ·
     exact .inl (.inl e)
    ·
     rcases e with e | e | e
     ·
      exact .inl (.inr (.inl (.inl e)))
     ·
      exact .inl (.inr (.inl (.inr (.inl e))))
     exact HL9.out k e
    ·
     exact .inl (.inr (.inr (.inl e)))
    ·
     exact .inl (.inr (.inr (.inr (.inl e))))
    rcases e with e | e
    ·
     exact .inl (.inr (.inr (.inr (.inr (.inl e)))))
    exact (HLR.out k e).imp (fun h => .inr (.inr (.inr (.inr (.inr h))))) (fun h => h)
   clear HE0 HE1 HE2 HE3 HE4 HED
   go_wp2_with fail
   refine leaves_cons (f := 70) (args := #[.pointer (some ⟨pb, 0, none⟩), .string (bs [59])]) (by simp) (by simp [go_sem]) ?_
   refine (CD.out _ _ P8.out).mono ?_
   rintro e u' w99 ⟨rfl, rfl, b9, p9⟩
   have HRR := HRP.out _ HX.out.2
   refine ⟨.tuple #[], by simp [results, Tryz.results69, go_sem], rfl, _, I8.out.keep b9 (fun t h1 _ => P8.out.av h1), ⟨⟨HV.out.nbs, by show v.n3 ++ [s] = (v.links ++ [(⟨s, nk⟩ : Lk)]).map Lk.name; rw [List.map_append, ← HV.out.links]; rfl, ⟨HV.out.many.1, HV.out.many.2.1, by show (v.links ++ [_]).length ≤ 17; rw [HVV.out, List.length_append, HN3.out]; simp only [List.length_cons, List.length_nil]; have := HLL.out; omega⟩⟩, by show v.nm = nm; rw [HVV.out]⟩, B8.out.trans (b9.mono fun k _ e => .inl e), HS.out, ?_, ?_⟩
   ·
    rw [HRR, HX.out.1]
    exact p9
   intro a ha
   rw [HRR] at ha
   exact okv_some ha
 have hb4 := beq_ll (wd tk tt) [108, 105, 110, 107]
 rw [decide_eq_false h4] at hb4
 obtain ⟨q0, q1, q2, q3, q4, _⟩ := I2.out.see HBB.out HVV.out
 obtain ⟨b0, _⟩ := one_cell q0
 obtain ⟨g1, _⟩ := one_cell q1
 obtain ⟨g2, _⟩ := one_cell q2
 obtain ⟨g3, _⟩ := one_cell q3
 obtain ⟨⟨m0, m1, m2, m3, m4, m5⟩, _⟩ := six_cells q4
 clear q0 q1 q2 q3 q4
 have HX : Hid (RA.2 = faulted ⟨tk, tt, tp, tq⟩ 4 st ∧ ∀ a, RA.1 = some a → v.rs = a) := by
  have h9 := HED.out h0 h1 h2 h3 h4
  rw [h9]
  exact ⟨rfl, fun a ha => by cases ha⟩
 clear HE0 HE1 HE2 HE3 HE4 HED CR1 CR2 CR3 CN1 CN2' CN3' CO2 CX CA HZ2
 go_wp2_with fail
 refine (CF.out _ P2.out).mono ?_
 rintro e w3 ⟨rfl, b3, p3⟩
 have P3 := hide p3
 have I3 := hide (I2.out.keep b3 (fun t h1 _ => P2.out.av h1))
 have B3 := hide (B2.out.trans (b3.mono fun k _ e => .inl e))
 have HS : Hid (∀ k, RtS b v k → RtS b v k ∨ w.heap.size ≤ k) := fun k e => .inl e
 clear p3 b3 CF P2 B2 TK2 I2 c0 cc1 cc2 cc3
 clear b0 g1 g2 g3 m0 m1 m2 m3 m4 m5
 go_wp2_with fail
 refine leaves_cons (f := 70) (args := #[.pointer (some ⟨pb, 0, none⟩), .string (bs [59])]) (by simp) (by simp [go_sem]) ?_
 refine (CD.out _ _ P3.out).mono ?_
 rintro e u' w99 ⟨rfl, rfl, b9, p9⟩
 have HRR := HRP.out _ HX.out.2
 refine ⟨.tuple #[], by simp [results, Tryz.results69, go_sem], rfl, v, I3.out.keep b9 (fun t h1 _ => P3.out.av h1), ⟨HV.out, by show v.nm = nm; rw [HVV.out]⟩, B3.out.trans (b9.mono fun k _ e => .inl e), HS.out, ?_, ?_⟩
 ·
  rw [HRR, HX.out.1]
  exact p9
 intro a ha
 rw [HRR] at ha
 exact okv_some ha
end Go.Proofs.YtnadhplhnfpeaaaGreatDoor
