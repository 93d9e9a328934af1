/- Part of the proof. -/
import Derived.Test.YtnadhplhnfpeaaaGreatDoorAZ
import Derived.Test.YtnadhplhnfpeaaaGreatDoorAT2
import Derived.Test.YtnadhplhnfpeaaaGreatDoorRows
import Derived.ProofKit
import Derived.OpenShut
import Derived.Lib.SmallJoins
import Derived.LaidSub
import Derived.LaidMore
import Derived.Lib.LaidTab
import Derived.Shelf.Vars
import Derived.HandedShaped
import Derived.SizedLaws
namespace Go.Proofs.YtnadhplhnfpeaaaGreatDoor
open Go.RowKit Go.Sort
theorem flat_get {z : Nat} : ∀ (xs : List (List Value)), (∀ x ∈ xs, x.length = z) → ∀ (j i : Nat) (x : List Value) (u : Value), xs[j]? = some x → x[i]? = some u → xs.flatten[j * z + i]? = some u
  | [], _, _, _, _, _, h, _ => by simp at h
  | y :: ys, hz, 0, i, x, u, hx, hu => by
    simp only [List.getElem?_cons_zero, Option.some.injEq] at hx
    subst hx
    rw [Nat.zero_mul, Nat.zero_add, List.flatten_cons, List.getElem?_append_left (List.getElem?_eq_some_iff.1 hu).1]
    exact hu
  | y :: ys, hz, j + 1, i, x, u, hx, hu => by
    have hy := hz y (List.mem_cons_self ..)
    rw [List.flatten_cons, Nat.succ_mul, List.getElem?_append_right (by omega), show j * z + z + i - y.length = j * z + i by omega]
    exact flat_get ys (fun x hx => hz x (List.mem_cons_of_mem _ hx)) j i x u (by simpa using hx) hu
theorem Al.at_ {α : Type} {R : α → List Value → Prop} : ∀ {l : List α} {xs : List (List Value)}, Al R l xs → ∀ (j : Nat) (hj : j < l.length), ∃ x, xs[j]? = some x ∧ R l[j] x
  | [], _, _, j, hj => by simp at hj
  | _ :: _, [], h, _, _ => h.elim
  | a :: l, x :: xs, ⟨h1, h2⟩, 0, hj => ⟨x, rfl, h1⟩
  | a :: l, x :: xs, ⟨h1, h2⟩, j + 1, hj => by
    obtain ⟨y, h3, h4⟩ := h2.at_ j (by simpa using hj)
    exact ⟨y, by simpa using h3, by simpa using h4⟩
theorem Al.all {α : Type} {R : α → List Value → Prop} {z : Nat} (hR : ∀ a x, R a x → x.length = z) : ∀ {l : List α} {xs : List (List Value)}, Al R l xs → ∀ x ∈ xs, x.length = z
  | [], [], _, x, hx => by simp at hx
  | _ :: _, _ :: _, ⟨h1, h2⟩, x, hx => by
    rcases List.mem_cons.1 hx with rfl | hx
    · exact hR _ _ h1
    · exact h2.all hR x hx
  | [], _ :: _, h, _, _ => h.elim
  | _ :: _, [], h, _, _ => h.elim
theorem RowOf.imp {α : Type} {R R' : World → α → List Value → Prop} {w : World} {B ty z : Nat} {v : Value} {l : List α} (h : RowOf w B ty z R v l) (hi : ∀ a x, R w a x → R' w a x) : RowOf w B ty z R' v l := by
 obtain ⟨xs, h1, h2⟩ := h
 exact ⟨xs, h1.mono hi, h2⟩
theorem rd_own {α : Type} {R : World → α → List Value → Prop} {z : Nat} (hz : 0 < z) {w : World} (hR : ∀ a x, R w a x → x.length = z) {B ty : Nat} {v : Value} {l : List α} {xs : List (List Value)} (ha : Al (R w) l xs) (h : w.ownsRow B ty z v l.length xs.flatten) : Rd w z R v l := by
 rcases h.2 with ⟨hv, h0⟩ | ⟨g, cap, cur, hv, _⟩
 ·
  exact ⟨none, 0, by rw [hv, h0], .inl (List.length_eq_zero_iff.1 h0)⟩
 refine ⟨_, cap, hv, .inr ⟨g, 0, rfl, fun j hj => ?_⟩⟩
 obtain ⟨x, h3, h4⟩ := ha.at_ j hj
 refine ⟨x, h4, fun e => ?_, fun i u hu => ?_⟩
 ·
  have := hR _ _ h4
  rw [e] at this
  simp at this
  omega
 rw [hv] at h
 have hf := flat_get xs (ha.all hR) j i x u h3 hu
 have k := h.cells (g := g) rfl (j * z + i) u hf
 have e : (⟨g, 0, none⟩ : Addr).add (j * z + i) = ⟨g, 0 + j * z + i, none⟩ := by
  by_cases h0 : j * z + i = 0
  ·
   simp [Addr.add, h0, Nat.zero_add]
  simp only [Addr.add, h0, Nat.zero_add]
  rfl
 rw [e] at k
 exact k
theorem rd_row {α : Type} {R : World → α → List Value → Prop} {z : Nat} (hz : 0 < z) {w : World} (hR : ∀ a x, R w a x → x.length = z) {B ty : Nat} {v : Value} {l : List α} (h : RowOf w B ty z R v l) : Rd w z R v l := by
 obtain ⟨xs, ha, ho⟩ := h
 exact rd_own hz hR ha ho
theorem al_map {α : Type} (enc : α → List Value) : ∀ l : List α, Al (fun a x => x = enc a) l (l.map enc)
  | [] => trivial
  | _ :: l => ⟨rfl, al_map enc l⟩
theorem rd_flat {α : Type} (enc : α → List Value) {z : Nat} (hz : 0 < z) (he : ∀ a, (enc a).length = z) {w : World} {B ty : Nat} {v : Value} {l : List α} (h : w.ownsRow B ty z v l.length (l.flatMap enc)) : Rd w z (fun _ a x => x = enc a) v l :=
  rd_own (R := fun _ a x => x = enc a) hz (fun a x hx => by rw [hx]; exact he a) (al_map enc l) (by rw [← List.flatMap_def]; exact h)
theorem rd_prs {w : World} {B ty : Nat} {v : Value} {l : List (Int × Int)} (h : w.ownsRow B ty 2 v l.length (prs l)) : Rd w 2 PrR v l := rd_flat (fun x : Int × Int => [.int .i64 x.1, .int .i64 x.2]) (by decide) (fun _ => rfl) h
theorem ints_flat (l : List Int) : l.flatMap (fun n => [Value.int .i64 n]) = ints l := by
 induction l with
 | nil => rfl
 | cons a l ih => rw [List.flatMap_cons, ih]; rfl
theorem rd_ints {w : World} {B ty : Nat} {v : Value} {l : List Int} (h : w.ownsRow B ty 1 v l.length (ints l)) : Rd w 1 InR v l := by
 refine rd_flat (B := B) (ty := ty) (fun n : Int => [.int .i64 n]) (by decide) (fun _ => rfl) ?_
 rw [ints_flat]
 exact h
theorem rd_rgs {w : World} {B ty : Nat} {v : Value} {l : List Rg} (h : w.ownsRow B ty 5 v l.length (rgs l)) : Rd w 5 RgR v l := rd_flat Rg.enc (by decide) (fun _ => rfl) h
theorem cl_rd {B : Nat} {w : World} {c : Cl} {x : List Value} (h : ClC B w c x) : ClR w c x := by
 obtain ⟨va, vd, vp, h0, h1, h2, h3⟩ := h
 exact ⟨va, vd, vp, h0, rd_prs h1, rd_prs h2, rd_ints h3⟩
theorem ClR.len {w : World} {c : Cl} {x : List Value} (h : ClR w c x) : x.length = 13 := by obtain ⟨va, vd, vp, rfl, _⟩ := h; rfl
theorem LsR.len {w : World} {c : Ls} {x : List Value} (h : LsR w c x) : x.length = 2 := by obtain ⟨v, rfl, _⟩ := h; rfl
theorem MpR.len {w : World} {c : Mp} {x : List Value} (h : MpR w c x) : x.length = 2 := by obtain ⟨v, rfl, _⟩ := h; rfl
theorem RtR.len {w : World} {c : Rt} {x : List Value} (h : RtR w c x) : x.length = 6 := by obtain ⟨a, b, c, rfl, _⟩ := h; rfl
theorem ls_rd {w : World} {l : Ls} {x : List Value} (h : LsC w l x) : LsR w l x := by
 obtain ⟨v, h0, h1⟩ := h
 exact ⟨v, h0, rd_rgs h1⟩
theorem mp_rd {w : World} {m : Mp} {x : List Value} (h : MpC w m x) : MpR w m x := by
 obtain ⟨v, h0, h1⟩ := h
 exact ⟨v, h0, rd_row (R := ClR) (by decide) (fun _ _ h => h.len) (h1.imp (fun _ _ => cl_rd))⟩
theorem rt_rd {w : World} {r : Rt} {x : List Value} (h : RtC w r x) : RtR w r x := by
 obtain ⟨vn, vb, vl, h0, h1, h2, h3⟩ := h
 exact ⟨vn, vb, vl, h0, rd_row (R := PxR) (by decide) (fun _ _ h => by rw [h]; rfl) h1, rd_row (R := NbR) (by decide) (fun _ _ h => by rw [h]; rfl) h2, rd_row (R := LkR) (by decide) (fun _ _ h => by rw [h]; rfl) h3⟩
theorem cf_rd {w : World} {B : Nat} {c : Cf} {v1 v2 v3 : Value} (h : CfRows w B c v1 v2 v3) : CfR w c v1 v2 v3 :=
  ⟨rd_row (R := LsR) (by decide) (fun _ _ h => h.len) (h.1.imp (fun _ _ => ls_rd)), rd_row (R := MpR) (by decide) (fun _ _ h => h.len) (h.2.1.imp (fun _ _ => mp_rd)), rd_row (R := RtR) (by decide) (fun _ _ h => h.len) (h.2.2.imp (fun _ _ => rt_rd))⟩
def scF : Nat → Nat → List UInt8 → Nat → Option (List Lx.Tok)
  | _, _, [], _ => some []
  | 0, _, _ :: _, _ => none
  | n + 1, b, c :: r, f => match Lx.stp (c :: r) f with
    | .fault _ _ => none
    | .go k f' t => (scF n (b + k) ((c :: r).drop k) f').map (Lx.tokOf b t ++ ·)
theorem scF_sc : ∀ (n b : Nat) (r : List UInt8) (f : Nat) (ts : List Lx.Tok), scF n b r f = some ts → Lx.Sc b r f ts none
  | 0, b, [], f, ts, h => by simp only [scF, Option.some.injEq] at h; subst h; exact .nil _ _
  | _ + 1, b, [], f, ts, h => by simp only [scF, Option.some.injEq] at h; subst h; exact .nil _ _
  | 0, _, _ :: _, _, _, h => by simp [scF] at h
  | n + 1, b, c :: r, f, ts, h => by
    unfold scF at h
    split at h
    · cases h
    · rename_i k f' t hs
      cases hm : scF n (b + k) ((c :: r).drop k) f' with
      | none => rw [hm] at h; cases h
      | some ts' =>
        rw [hm] at h
        cases h
        exact .more (by simp) hs (scF_sc n _ _ _ _ hm)
def sA : ByteArray := ⟨#[114, 111, 117, 116, 101, 114, 32, 114, 49, 32, 123, 32, 97, 115, 32, 54, 53, 48, 48, 49, 59, 32, 105, 100, 32, 49, 59, 32, 125]⟩
def sB : ByteArray := ⟨#[114, 111, 117, 116, 101, 114, 32, 114, 49, 32, 123, 32, 97, 115, 32, 48, 59, 32, 125]⟩
def tkA : List Lx.Tok := [⟨0, [114, 111, 117, 116, 101, 114], 0⟩, ⟨0, [114, 49], 7⟩, ⟨2, [123], 10⟩, ⟨0, [97, 115], 12⟩, ⟨0, [54, 53, 48, 48, 49], 15⟩, ⟨2, [59], 20⟩, ⟨0, [105, 100], 22⟩, ⟨0, [49], 25⟩, ⟨2, [59], 26⟩, ⟨2, [125], 28⟩]
def tkB : List Lx.Tok := [⟨0, [114, 111, 117, 116, 101, 114], 0⟩, ⟨0, [114, 49], 7⟩, ⟨2, [123], 10⟩, ⟨0, [97, 115], 12⟩, ⟨0, [48], 15⟩, ⟨2, [59], 16⟩, ⟨2, [125], 18⟩]
theorem scA : Lx.Sc 0 (Lx.lst sA) 2 tkA none := scF_sc 40 _ _ _ _ (by kernel_rfl)
theorem scB : Lx.Sc 0 (Lx.lst sB) 2 tkB none := scF_sc 40 _ _ _ _ (by kernel_rfl)
def rtA : Rt := ⟨⟨#[114, 49]⟩, 65001, 1, [], [], []⟩
theorem parA : par sA tkA = (some ⟨[], [], [rtA]⟩, .good [] (1, 29)) := by kernel_rfl
theorem parB : par sB tkB = (none, .bad 1 16 7) := by kernel_rfl
theorem resA {c : Cf} {p q x : Int} (h : PRes sA c p q x) : x = 0 ∧ c = ⟨[], [], [rtA]⟩ := by
 rcases res_of h scA (by decide) with ⟨m, h1, _, _, h2⟩ | ⟨_, _, _, h1, _⟩
 ·
  rw [parA] at h1; cases h1; exact ⟨h2, rfl⟩
 rw [parA] at h1; cases h1
theorem resB {c : Cf} {p q x : Int} (h : PRes sB c p q x) : x = 7 ∧ p = 1 ∧ q = 16 := by
 rcases res_of h scB (by decide) with ⟨m, h1, _, _, h2⟩ | ⟨p1, q1, e, h1, _, _, h2, h3, h4⟩
 ·
  rw [parB] at h1; cases h1
 rw [parB] at h1; cases h1; exact ⟨h4, h2, h3⟩
def ParseTo (s : ByteArray) (w : World) (e : Ending) (w' : World) : Prop := ∃ c a1 n1 k1 a2 n2 k2 a3 n3 k3 p q x, e = .returned (.tuple #[.agg #[.slice a1 n1 k1, .slice a2 n2 k2, .slice a3 n3 k3], .agg #[.int .i64 p, .int .i64 q], .int .i64 x]) ∧ CfR w' c (.slice a1 n1 k1) (.slice a2 n2 k2) (.slice a3 n3 k3) ∧ PRes s c p q x ∧ Below w.heap.size w w'
theorem parse_any (s : ByteArray) (hs : s.size ≤ 100000) (w : World) (hT : Ar.Y4.Pt w) : Calls Tryz.prog 11 #[.string s] w (ParseTo s w) := by
 refine (cfgParse_is FU (by decide) s hs w hT).mono ?_
 rintro e w' ⟨c, v1, v2, v3, p, q, x, rfl, h1, h2, h3⟩
 have h4 := cf_rd h1
 obtain ⟨a1, k1, rfl⟩ := h4.1.slice
 obtain ⟨a2, k2, rfl⟩ := h4.2.1.slice
 obtain ⟨a3, k3, rfl⟩ := h4.2.2.slice
 exact ⟨c, a1, _, k1, a2, _, k2, a3, _, k3, p, q, x, rfl, h4, h2, h3⟩
theorem two_cells2 {w : World} {b y : Nat} {x0 x1 : Value} (h : w.heap[b]? = some (.cells #[x0, x1] y (0, 0))) : w.cell? ⟨b, 0, none⟩ = some x0 ∧ w.cell? ⟨b, 1, none⟩ = some x1 := ⟨cell_of h 0 rfl, cell_of h 1 rfl⟩
set_option maxHeartbeats 2000000 in
set_option maxRecDepth 100000 in
theorem lives_is (w : World) (hT : Ar.Y4.Pt w) : Calls Tryz.prog 6 #[] w fun e w' => e = .returned (.bool true) ∧ Below w.heap.size w w' := by
 have CA : Hid (Calls Tryz.prog 11 #[.string sA] w fun e w' => ∃ a1 n1 k1 a2 n2 k2 g o k, e = .returned (.tuple #[.agg #[.slice a1 n1 k1, .slice a2 n2 k2, .slice (some ⟨g, o, none⟩) 1 k], .agg #[.int .i64 0, .int .i64 0], .int .i64 0]) ∧ w'.cell? ⟨g, o + 1, none⟩ = some (.int .i64 65001) ∧ g < w'.heap.size ∧ Below w.heap.size w w') := by
  refine (parse_any sA (by decide) w hT).mono ?_
  rintro e w' ⟨c, a1, n1, k1, a2, n2, k2, a3, n3, k3, p, q, x, rfl, h1, h2, h3⟩
  obtain ⟨rfl, rfl⟩ := resA h2
  obtain ⟨rfl, rfl⟩ := res_zero h2
  obtain ⟨ao, k, e3⟩ := h1.2.2.slice
  cases e3
  obtain ⟨g, o, xs, rfl, hg, ⟨vn, vb, vl, rfl, _⟩, ha⟩ := h1.2.2.at_ (j := 0) (by simp)
  have b1 := ha 1 _ rfl
  rw [Nat.zero_mul, Nat.add_zero] at b1
  exact ⟨a1, n1, k1, a2, n2, k2, g, o, _, rfl, b1, hg, h3⟩
 have CB : Hid (∀ W, Below w.heap.size w W → Calls Tryz.prog 11 #[.string sB] W fun e w' => ∃ a1 n1 k1 a2 n2 k2 a3 n3 k3, e = .returned (.tuple #[.agg #[.slice a1 n1 k1, .slice a2 n2 k2, .slice a3 n3 k3], .agg #[.int .i64 1, .int .i64 16], .int .i64 7]) ∧ Below W.heap.size W w') := by
  intro W hW
  refine (parse_any sB (by decide) W (hT.on hW)).mono ?_
  rintro e w' ⟨c, a1, n1, k1, a2, n2, k2, a3, n3, k3, p, q, x, rfl, h1, h2, h3⟩
  obtain ⟨rfl, rfl, rfl⟩ := resB h2
  exact ⟨a1, n1, k1, a2, n2, k2, a3, n3, k3, rfl, h3⟩
 clear hT
 unfold sA at CA
 unfold sB at CB
 go_enter Tryz.func6, Tryz.ntmps6
 go_wp2_with fail
 refine CA.out.mono ?_
 rintro e w1 ⟨a1, n1, k1, a2, n2, k2, g, o, k, rfl, z1, hg, hb⟩
 have A2 := balloc (balloc (brefl w1) (.cells #[.slice a1 n1 k1, .slice a2 n2 k2, .slice (some ⟨g, o, none⟩) 1 k] 33)) (.cells #[.int .i64 0, .int .i64 0] 35)
 have N2 := hide ((balloc (brefl (w1.alloc (.cells #[.slice a1 n1 k1, .slice a2 n2 k2, .slice (some ⟨g, o, none⟩) 1 k] 33))) (.cells #[.int .i64 0, .int .i64 0] 35)).block w1.heap.size (by rw [size_alloc]; omega) |>.trans (heap_new w1 #[.slice a1 n1 k1, .slice a2 n2 k2, .slice (some ⟨g, o, none⟩) 1 k] 33))
 have z2 := (A2.cell (p := ⟨g, o + 1, none⟩) hg).trans z1
 have G2 : Hid (g < ((w1.alloc (.cells #[.slice a1 n1 k1, .slice a2 n2 k2, .slice (some ⟨g, o, none⟩) 1 k] 33)).alloc (.cells #[.int .i64 0, .int .i64 0] 35)).heap.size) := Nat.lt_of_lt_of_le hg A2.size
 have B2 := hide (bthen hb A2)
 clear A2 hb z1 hg CA
 go_upto_region 2 with fail
 obtain ⟨t, ht⟩ : ∃ t, w1.heap.size = t := ⟨_, rfl⟩
 rw [ht] at N2 ⊢
 generalize (w1.alloc (.cells #[.slice a1 n1 k1, .slice a2 n2 k2, .slice (some ⟨g, o, none⟩) 1 k] 33)).alloc (.cells #[.int .i64 0, .int .i64 0] 35) = W2 at *
 clear ht
 go_wp2_with fail
 refine (CB.out W2 B2.out).mono ?_
 rintro e w3 ⟨b1, m1, l1, b2, m2, l2, b3, m3, l3, rfl, hb3⟩
 have A4 := bthen hb3 (balloc (balloc (brefl w3) (.cells #[.slice b1 m1 l1, .slice b2 m2 l2, .slice b3 m3 l3] 33)) (.cells #[.int .i64 1, .int .i64 16] 35))
 have N4 := heap_new (w3.alloc (.cells #[.slice b1 m1 l1, .slice b2 m2 l2, .slice b3 m3 l3] 33)) #[.int .i64 1, .int .i64 16] 35
 rw [size_alloc] at N4
 have z4 := (A4.cell (p := ⟨g, o + 1, none⟩) G2.out).trans z2
 have N4' := hide ((A4.block t (heap_lt N2.out)).trans N2.out)
 have B4 := hide (bthen B2.out A4)
 clear A4 z2 N2 G2 B2 hb3 CB
 go_upto_region 3 with fail
 obtain ⟨u, hu⟩ : ∃ u, w3.heap.size + 1 = u := ⟨_, rfl⟩
 rw [hu] at N4 ⊢
 generalize (w3.alloc (.cells #[.slice b1 m1 l1, .slice b2 m2 l2, .slice b3 m3 l3] 33)).alloc (.cells #[.int .i64 1, .int .i64 16] 35) = W4 at *
 clear hu
 have c2 := cell_of N4'.out 2 rfl
 obtain ⟨d0, d1⟩ := two_cells2 N4
 clear N4 N4'
 go_wp2_with fail
 go_ret
 exact ⟨rfl, B4.out⟩
theorem boxes2 (w : World) (x y : Array Value) (t u : TypeId) : Below w.heap.size w ((w.alloc (.cells x t)).alloc (.cells y u)) ∧ ((w.alloc (.cells x t)).alloc (.cells y u)).heap[w.heap.size]? = some (.cells x t (0, 0)) ∧ ((w.alloc (.cells x t)).alloc (.cells y u)).heap[w.heap.size + 1]? = some (.cells y u (0, 0)) := by
 refine ⟨balloc (balloc (brefl w) _) _, ?_, ?_⟩
 ·
  exact ((balloc (brefl (w.alloc (.cells x t))) (.cells y u)).block w.heap.size (by rw [size_alloc]; omega)).trans (heap_new w x t)
 have h := heap_new (w.alloc (.cells x t)) y u
 rw [size_alloc] at h
 exact h
end Go.Proofs.YtnadhplhnfpeaaaGreatDoor
namespace Go.Proofs.YtnadhplhnfpeaaaGreatDoor
open Go.ChangeShapes Go.WideShapes Go.ChangeAt Go.RowKit Go.Joins Go.Deep
theorem own : ownKnob Tryz.prog.godebug = none := by kernel_rfl
theorem range_of {W : World} {l : List (String × DataW Unit)} (D : DataW Unit) (hl : (l.filter fun x => x.1 == "strconv.ErrRange") = [("strconv.ErrRange", D)]) (hD : ∃ nm d, D = .iface nm d)
    (hH : laidMetH Tryz.prog [("strconv.ErrRange", D)] W → laidMet Tryz.prog [("strconv.ErrRange", D)] W) (h : laidMetH Tryz.prog l W) : ∃ ev, W.cell? ⟨1, 0, none⟩ = some ev ∧ (ev = .nilIface ∨ ∃ te pe, ev = .iface te pe) := by
 have h1 := h.filter fun x => x.1 == "strconv.ErrRange"
 rw [hl] at h1
 have h2 := hH h1
 obtain ⟨nm, d, rfl⟩ := hD
 obtain ⟨ps, ⟨g', t', cs, fuel, p, q, hg', ht', hvar, hd, _, _⟩, _⟩ := h2
 have hg : Tryz.prog.globalNamed "strconv.ErrRange" = some 1 := by kernel_rfl
 obtain rfl := Option.some.inj (hg.symm.trans hg')
 have hty : (Tryz.prog.globals[1]?).map (·.type) = some 52 := by kernel_rfl
 obtain rfl := Option.some.inj (hty.symm.trans ht')
 obtain ⟨f2, u, v, hcs, _, _⟩ := iface_of_trod Tryz.underlying52 hd
 refine ⟨.iface u v, ?_, .inr ⟨u, v, rfl⟩⟩
 have h0 : W.cell? ⟨1, 0, none⟩ = cs[0]? := by simpa using World.var?_cell hg hvar 0
 rw [h0, ← Array.getElem?_toList, hcs]
 rfl
theorem returns_both {H : Type} {enc : TypeId × Value → H} {a : Assume} {C : Checked} {os : Os} {f : FuncId} {fn : Func} {s : ChangeSpec} {conds : List PathCond} {apart fresh handsOn again : Bool} {X : World → Array Value → Prop}
    (hX : ∀ (w w' : World) (args : Array Value), w.heap = w'.heap → X w args → X w' args)
    (own : ownKnob C.prog.godebug = none) (started : os.Started) (noInit : C.prog.inits.idxOf? f = none) (hfn : C.prog.funcs[f]? = some fn)
    (witness : ∃ (w : World) (tape : Tape) (i : Input), w.os = os ∧ (w.forCall tape i).Shaped C.prog ∧ i.vars = [] ∧ Input.okWide C.prog (w.forCall tape i) .any w.heap.size f i ∧
      ((s.pre enc C.prog fn conds apart (w.forCall tape i).memory i.args ∧ X (w.forCall tape i).memory i.args) ∧ sizedMet enc C.prog fn (OpenSpec.ofChange s) apart (w.forCall tape i).memory i.args) ∧ a.holds C.prog (lone (Frame.enter C.prog f i.args .normal) [] (w.forCall tape i)))
    (contract : ∀ (W : World) (base : Nat) (args : Array Value) (ds gs : List (DataW H)) (before : List MemPlace),
      (∀ (j : Nat) t v, fn.params[j]? = some t → args[j]? = some v → Value.okWide C.prog W .any base t v) →
      DataW.Whole enc C.prog fn.params.toList s.vars apart W args.toList ds gs before → X W args → W.ShapedOpen C.prog → (DataW.weightsEach C.prog (fn.params.toList ++ s.plain.varTypes C.prog) (ds ++ gs)).all (· ≤ reachBytes) = true →
      Calls C.prog f args W fun e W' => ∃ v, e = .returned v ∧ s.post enc C.prog fn apart fresh handsOn again W args v W') :
    ReturnsInHanded a C os f .any (fun w args => (s.pre enc C.prog fn conds apart w args ∧ X w args) ∧ sizedMet enc C.prog fn (OpenSpec.ofChange s) apart w args) (s.post enc C.prog fn apart fresh handsOn again) := by
  refine returnsInHanded_of_calls own started noInit witness ?_
  intro w tape i _ hsh _ hok hpre _
  obtain ⟨_, _, _, fn', hfn', _, _, _, _, hval⟩ := hok
  obtain rfl : fn' = fn := Option.some.inj (hfn'.symm.trans hfn)
  obtain ⟨⟨⟨ds, gs, before, hw, _⟩, hx⟩, hz⟩ := hpre
  refine (contract (w.forCall tape i) w.heap.size i.args ds gs before hval (DataW.Whole.of_heap (w' := w.forCall tape i) (by rfl) hw) (hX _ _ _ (by rfl) hx) hsh (hz.weights hw)).mono fun e W' ⟨v, he, hp⟩ => ?_
  subst he
  exact ChangeSpec.post_blind hp
theorem maxLen_of {W : World} (h : W.ShapedOpen Tryz.prog) : ∃ m, W.cell? ⟨2, 0, none⟩ = some (.int .i64 m) :=
  cell_of_shapedOpen_int (zero := #[.int .i64 0]) (t := 3) h (of_decide_eq_true (by kernel_rfl)) (by kernel_rfl) rfl (by kernel_rfl) (by kernel_rfl) Tryz.underlying3
end Go.Proofs.YtnadhplhnfpeaaaGreatDoor
