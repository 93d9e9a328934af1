/- Part of the proof. -/
import Derived.Test.YtnadhplhnfpeaaaGreatDoorAZ
import Derived.Test.YtnadhplhnfpeaaaGreatDoorA26
import Derived.Test.YtnadhplhnfpeaaaGreatDoorA42
namespace Go.Proofs.YtnadhplhnfpeaaaGreatDoor
open Go.RowKit Go.Sort
def tvOf (l : List UInt8) (t : Lx.Tok) : Tv := ⟨(t.kind : Int), Lx.txt t.s, ((Lx.plc l t.at_).1 : Nat), ((Lx.plc l t.at_).2 : Nat)⟩
theorem cells_tvs (l : List UInt8) (ts : List Lx.Tok) : Lx.Tok.cells l ts = tvs (ts.map (tvOf l)) := by
 unfold Lx.Tok.cells tvs
 rw [List.flatMap_map]
 rfl
def scL (s : ByteArray) (ts : List Tv) (p q c : Int) : Prop := ∃ toks, Lx.Is s toks p q c ∧ ts = toks.map (tvOf (Lx.lst s))
def enL (s : ByteArray) : Int × Int := (((Lx.plc (Lx.lst s) s.size).1 : Nat), ((Lx.plc (Lx.lst s) s.size).2 : Nat))
theorem scL_few {s : ByteArray} {ts : List Tv} {p q c : Int} (h : scL s ts p q c) : ts.length ≤ 100000 ∧ ∀ t ∈ ts, t.s.size ≤ 1000 := by
 obtain ⟨toks, h, rfl⟩ := h
 have key : toks.length ≤ 8192 ∧ ∀ t ∈ toks, t.s.length ≤ 64 := by
  rcases h with ⟨_, rfl, _⟩ | ⟨h8, ts', o, hs, ⟨_, rfl, _⟩ | ⟨b, e, _, rfl, _⟩⟩
  ·
   simp
  ·
   refine ⟨?_, fun t ht => ?_⟩
   ·
    have h1 := hs.count
    rw [Lx.lst_size] at h1
    omega
   rcases hs.good t ht with ⟨_, _, _, h⟩ | ⟨_, _, h⟩ | ⟨_, c, h, _⟩
   ·
    omega
   ·
    omega
   rw [h]; simp
  simp
 refine ⟨by rw [List.length_map]; omega, fun t ht => ?_⟩
 obtain ⟨k, hk, rfl⟩ := List.mem_map.1 ht
 have h2 := key.2 k hk
 have h3 : (Lx.txt k.s).size = k.s.length := by simp [ByteArray.size]
 show (Lx.txt k.s).size ≤ 1000
 omega
theorem kitL : KitL scL enL where
  scan := fun s hs w => by
    refine (Lx.scan_is s hs w).mono ?_
    rintro e w' ⟨v, ts, p, q, c, h1, h2, h3, h4⟩
    refine ⟨v, ts.map (tvOf (Lx.lst s)), p, q, c, h1, ?_, ⟨ts, h3, rfl⟩, h4⟩
    rw [List.length_map, ← cells_tvs]
    exact h2
  few := fun h => scL_few h
  end_ := fun s hs w => Lx.end_is s hs w
theorem cfgParse_is (f : Nat) (hf : 100000 < f) (s : ByteArray) (hs : s.size ≤ 100000) (w : World) (hT : Ar.Y4.Pt w) : Calls Tryz.prog 11 #[.string s] w fun e w' => ∃ c v1 v2 v3 p q x, e = .returned (.tuple #[.agg #[v1, v2, v3], .agg #[.int .i64 p, .int .i64 q], .int .i64 x]) ∧ CfRows w' w.heap.size c v1 v2 v3 ∧ Res scL enL Kn.fn12 f s c p q x ∧ Below w.heap.size w w' :=
  parse_is Kn.kit12 kitL (fun _ _ h hb => h.on hb) f hf s hs w hT
end Go.Proofs.YtnadhplhnfpeaaaGreatDoor
namespace Go.Proofs.YtnadhplhnfpeaaaGreatDoor
abbrev FU : Nat := 100001
def PRes (s : ByteArray) (c : Cf) (p q x : Int) : Prop := Res scL enL Kn.fn12 FU s c p q x
def par (s : ByteArray) (ts : List Lx.Tok) : Option Cf × Sta := (pCf Kn.fn12 FU FU .nil).run (enL s) (ts.map (tvOf (Lx.lst s))) (0, 0)
theorem cf_ends (F : Fn) (f g : Nat) (c : Cf) {en : Int × Int} {r : List Tv} {l : Int × Int} {y : Cf} {st : Sta} (h : (pCf F f g c).run en r l = (some y, st)) : ∃ m, st = .good [] m := by
 induction g generalizing c r l with
 | zero => cases h
 | succ g ih =>
  cases r with
  | nil => cases h; exact ⟨_, rfl⟩
  | cons t r =>
   have h' : ((pItem F f c t.k t.s).bind fun d => pCf F f g d).run en r (t.p, t.q) = (some y, st) := h
   rw [run_bind] at h'
   cases hi : (pItem F f c t.k t.s).run en r (t.p, t.q) with
   | mk o st1 =>
    rw [hi] at h'
    cases o with
    | none => cases h'
    | some d =>
     obtain ⟨u, r', l', rfl, _⟩ := run_some _ _ _ _ hi
     exact ih d h'
theorem tv_bare {l l' : List UInt8} {ts ts' : List Lx.Tok} (h : ts.map Lx.Tok.bare = ts'.map Lx.Tok.bare) : (ts.map (tvOf l)).map Tv.bare = (ts'.map (tvOf l')).map Tv.bare := by
 have k : ∀ (l : List UInt8) (ts : List Lx.Tok), (ts.map (tvOf l)).map Tv.bare = (ts.map Lx.Tok.bare).map fun x => ((x.1 : Int), Lx.txt x.2) := by
  intro l ts
  rw [List.map_map, List.map_map]
  rfl
 rw [k, k, h]
theorem res_of {s : ByteArray} {c : Cf} {p q x : Int} (h : PRes s c p q x) {ts : List Lx.Tok} (hs : Lx.Sc 0 (Lx.lst s) 2 ts none) (h8 : s.size ≤ 8192) : (∃ m, par s ts = (some c, .good [] m) ∧ p = 0 ∧ q = 0 ∧ x = 0) ∨ ∃ p1 q1 e, par s ts = (none, .bad p1 q1 e) ∧ e ≠ 0 ∧ c = .nil ∧ p = p1 ∧ q = q1 ∧ x = e := by
 obtain ⟨tv, p0, q0, c0, ⟨toks, hi, rfl⟩, h⟩ := h
 obtain ⟨rfl, rfl, rfl, rfl⟩ := hi.det (Lx.Is.of h8 hs)
 rcases h with ⟨h0, _⟩ | ⟨_, h⟩
 ·
  exact absurd rfl h0
 rcases h with ⟨p1, q1, e, h1, he, h2⟩ | ⟨r, m, h1, h2⟩
 ·
  refine .inr ⟨p1, q1, e, ?_, he, h2⟩
  show (pCf Kn.fn12 FU FU .nil).run _ _ _ = _
  cases hr : (pCf Kn.fn12 FU FU .nil).run (enL s) (toks.map (tvOf (Lx.lst s))) (0, 0) with
  | mk o st =>
   rw [hr] at h1
   obtain rfl : st = _ := h1
   cases o with
   | none => rfl
   | some y =>
    obtain ⟨m, h⟩ := cf_ends _ _ _ _ hr
    cases h
 obtain ⟨m', hm⟩ := cf_ends _ _ _ _ h1
 exact .inl ⟨m', by rw [← hm]; exact h1, h2⟩
theorem res_ok {s : ByteArray} {c : Cf} {p q : Int} (h : PRes s c p q 0) : ∃ ts m, s.size ≤ 8192 ∧ Lx.Sc 0 (Lx.lst s) 2 ts none ∧ par s ts = (some c, .good [] m) := by
 have h' := h
 obtain ⟨tv, p0, q0, c0, ⟨toks, hi, rfl⟩, h0⟩ := h'
 have hc0 : c0 = 0 := by
  rcases h0 with ⟨h, _, _, _, hx⟩ | ⟨h, _⟩
  ·
   exact hx.symm
  exact h
 obtain ⟨h8, hs, _, _⟩ := hi.ok hc0
 rcases res_of h hs h8 with ⟨m, hp, _⟩ | ⟨_, _, e, _, he, _, _, _, hx⟩
 ·
  exact ⟨toks, m, h8, hs, hp⟩
 exact absurd hx.symm he
theorem res_zero {s : ByteArray} {c : Cf} {p q : Int} (h : PRes s c p q 0) : p = 0 ∧ q = 0 := by
 obtain ⟨ts, m, h8, hs, hp⟩ := res_ok h
 rcases res_of h hs h8 with ⟨_, _, hp, hq, _⟩ | ⟨_, _, e, _, he, _, _, _, hx⟩
 ·
  exact ⟨hp, hq⟩
 exact absurd hx.symm he
end Go.Proofs.YtnadhplhnfpeaaaGreatDoor
namespace Go.Proofs.YtnadhplhnfpeaaaGreatDoor
open Go.RowKit Go.Sort
def Rd {α : Type} (w : World) (z : Nat) (R : World → α → List Value → Prop) (v : Value) (l : List α) : Prop :=
  ∃ ao c, v = .slice ao l.length c ∧ (l = [] ∨ ∃ b off, ao = some ⟨b, off, none⟩ ∧ ∀ j (h : j < l.length), ∃ xs, R w l[j] xs ∧ xs ≠ [] ∧ ∀ i u, xs[i]? = some u → w.cell? ⟨b, off + j * z + i, none⟩ = some u)
def Mono {α : Type} (R : World → α → List Value → Prop) : Prop := ∀ w w' a x, Below w.heap.size w w' → R w a x → R w' a x
theorem Rd.below {α : Type} {w w' : World} {z : Nat} {R : World → α → List Value → Prop} {v : Value} {l : List α} (hR : Mono R) (h : Rd w z R v l) (hb : Below w.heap.size w w') : Rd w' z R v l := by
 obtain ⟨ao, c, hv, h⟩ := h
 refine ⟨ao, c, hv, ?_⟩
 rcases h with h | ⟨b, off, h, hr⟩
 ·
  exact .inl h
 refine .inr ⟨b, off, h, fun j hj => ?_⟩
 obtain ⟨xs, h1, h2, h3⟩ := hr j hj
 refine ⟨xs, hR _ _ _ _ hb h1, h2, fun i u hu => ?_⟩
 have k := h3 i u hu
 exact (hb.cell (p := ⟨b, off + j * z + i, none⟩) (World.block_lt_of_cell? w _ k)).trans k
theorem Rd.slice {α : Type} {w : World} {z : Nat} {R : World → α → List Value → Prop} {v : Value} {l : List α} (h : Rd w z R v l) : ∃ ao c, v = .slice ao l.length c := by
 obtain ⟨ao, c, hv, _⟩ := h
 exact ⟨ao, c, hv⟩
theorem Rd.at_ {α : Type} {w : World} {z : Nat} {R : World → α → List Value → Prop} {ao : Option Addr} {n c : Nat} {l : List α} (h : Rd w z R (.slice ao n c) l) {j : Nat} (hj : j < l.length) : ∃ b off xs, ao = some ⟨b, off, none⟩ ∧ b < w.heap.size ∧ R w l[j] xs ∧ ∀ i u, xs[i]? = some u → w.cell? ⟨b, off + j * z + i, none⟩ = some u := by
 obtain ⟨ao', c', hv, h⟩ := h
 cases hv
 rcases h with h | ⟨b, off, h, hr⟩
 ·
  rw [h] at hj; simp at hj
 obtain ⟨xs, h1, h2, h3⟩ := hr j hj
 refine ⟨b, off, xs, h, ?_, h1, h3⟩
 cases xs with
 | nil => exact absurd rfl h2
 | cons x xs => exact World.block_lt_of_cell? w _ (h3 0 x rfl)
def RgR (_ : World) (r : Rg) (x : List Value) : Prop := x = [.int .u32 r.ad, .int .i64 r.bits, .int .i64 r.ge, .int .i64 r.le, .bool r.ok]
def PrR (_ : World) (p : Int × Int) (x : List Value) : Prop := x = [.int .i64 p.1, .int .i64 p.2]
def PxR (_ : World) (p : Int × Int) (x : List Value) : Prop := x = [.int .u32 p.1, .int .i64 p.2]
def InR (_ : World) (n : Int) (x : List Value) : Prop := x = [.int .i64 n]
def NbR (_ : World) (n : Nb) (x : List Value) : Prop := x = [.string n.name, .string n.imp, .string n.exp, .bool n.client]
def LkR (_ : World) (n : Lk) (x : List Value) : Prop := x = [.string n.name, .int .i64 n.cost]
def ClR (w : World) (c : Cl) (x : List Value) : Prop := ∃ va vd vp, x = [.int .i64 c.n, .bool c.ok, .string c.m.list, .string c.m.path, .int .i64 c.m.ca, .int .i64 c.m.cn, .int .i64 c.s.pref, .int .i64 c.s.med, .int .i64 c.s.org, va, vd, .bool c.s.clr, vp] ∧ Rd w 2 PrR va c.s.add ∧ Rd w 2 PrR vd c.s.del ∧ Rd w 1 InR vp c.s.prep
def LsR (w : World) (l : Ls) (x : List Value) : Prop := ∃ v, x = [.string l.name, v] ∧ Rd w 5 RgR v l.rules
def MpR (w : World) (m : Mp) (x : List Value) : Prop := ∃ v, x = [.string m.name, v] ∧ Rd w 13 ClR v m.cls
def RtR (w : World) (r : Rt) (x : List Value) : Prop := ∃ vn vb vl, x = [.string r.name, .int .i64 r.asn, .int .i64 r.id, vn, vb, vl] ∧ Rd w 2 PxR vn r.nets ∧ Rd w 4 NbR vb r.nbs ∧ Rd w 2 LkR vl r.links
def CfR (w : World) (c : Cf) (v1 v2 v3 : Value) : Prop := Rd w 2 LsR v1 c.lists ∧ Rd w 2 MpR v2 c.maps ∧ Rd w 6 RtR v3 c.routers
theorem RgR.mono : Mono RgR := fun _ _ _ _ _ h => h
theorem PrR.mono : Mono PrR := fun _ _ _ _ _ h => h
theorem PxR.mono : Mono PxR := fun _ _ _ _ _ h => h
theorem InR.mono : Mono InR := fun _ _ _ _ _ h => h
theorem NbR.mono : Mono NbR := fun _ _ _ _ _ h => h
theorem LkR.mono : Mono LkR := fun _ _ _ _ _ h => h
theorem ClR.mono : Mono ClR := fun _ _ _ _ hb ⟨va, vd, vp, h0, h1, h2, h3⟩ => ⟨va, vd, vp, h0, h1.below PrR.mono hb, h2.below PrR.mono hb, h3.below InR.mono hb⟩
theorem LsR.mono : Mono LsR := fun _ _ _ _ hb ⟨v, h0, h1⟩ => ⟨v, h0, h1.below RgR.mono hb⟩
theorem MpR.mono : Mono MpR := fun _ _ _ _ hb ⟨v, h0, h1⟩ => ⟨v, h0, h1.below ClR.mono hb⟩
theorem RtR.mono : Mono RtR := fun _ _ _ _ hb ⟨vn, vb, vl, h0, h1, h2, h3⟩ => ⟨vn, vb, vl, h0, h1.below PxR.mono hb, h2.below NbR.mono hb, h3.below LkR.mono hb⟩
set_option maxHeartbeats 4000000 in
set_option maxRecDepth 100000 in
theorem sameRules_is (v1 v2 : Value) (l : List Rg) (w : World) (h1 : Rd w 5 RgR v1 l) (h2 : Rd w 5 RgR v2 l) (hz : l.length ≤ 100000) :
    Calls Tryz.prog 22 #[v1, v2] w fun e w' => e = .returned (.bool true) ∧ Below w.heap.size w w' := by
 obtain ⟨ao, ca, rfl⟩ := h1.slice
 obtain ⟨bo, cb, rfl⟩ := h2.slice
 have H1 := hide h1
 have H2 := hide h2
 clear h1 h2
 go_enter Tryz.func22, Tryz.ntmps22
 go_wp2_with fail
 go_loopw [5] (fun v wr => ∃ k : Nat, v = .int .i64 k ∧ k ≤ l.length ∧ Hid (Below w.heap.size w wr)) (fun v _ => l.length - (intOf v).toNat)
 case atStart => exact ⟨0, rfl, Nat.zero_le _, brefl w⟩
 case round =>
  obtain ⟨k, rfl, hk, HBR⟩ := hrel
  by_cases hkl : k < l.length
  ·
   have hkl' : (k : Int) < (l.length : Int) := by omega
   obtain ⟨b, off, xs, rfl, hbw, hx, ha⟩ := (Rd.below RgR.mono H1.out HBR.out).at_ hkl
   obtain ⟨b2, off2, ys, rfl, hbw2, hy, hc⟩ := (Rd.below RgR.mono H2.out HBR.out).at_ hkl
   generalize l[k] = y at *
   unfold RgR at hx hy
   subst hx hy
   obtain ⟨y0, y1, y2, y3, y4⟩ := y
   have a0 := ha 0 _ rfl
   have c0 := hc 0 _ rfl
   have a1 := ha 1 _ rfl
   have c1 := hc 1 _ rfl
   have a2 := ha 2 _ rfl
   have c2 := hc 2 _ rfl
   have a3 := ha 3 _ rfl
   have c3 := hc 3 _ rfl
   have a4 := ha 4 _ rfl
   have c4 := hc 4 _ rfl
   simp only [Nat.add_zero] at a0 c0
   clear ha hc
   have ra0 := fun dd os => cell_regrown a0 dd os
   have rc0 := fun dd os => cell_regrown c0 dd os
   have ra1 := fun dd os => cell_regrown a1 dd os
   have rc1 := fun dd os => cell_regrown c1 dd os
   have ra2 := fun dd os => cell_regrown a2 dd os
   have rc2 := fun dd os => cell_regrown c2 dd os
   have ra3 := fun dd os => cell_regrown a3 dd os
   have rc3 := fun dd os => cell_regrown c3 dd os
   have ra4 := fun dd os => cell_regrown a4 dd os
   have rc4 := fun dd os => cell_regrown c4 dd os
   go_wp2_with fail
   refine wp_region_quiet_below (by kernel_rfl) (by kernel_rfl) ?_
   repeat (go_big_quiet_step (fail))
   refine wpQuiet_nil ?_
   rintro _ ⟨⟨dd, os⟩, rfl⟩
   have hb1 := below_regrown wr dd os
   generalize Sort.grow (redrawn wr dd) os = w1 at hb1
   have B1 := hide (bthen HBR.out hb1)
   clear hb1 ra0 rc0 a0 c0 ra1 rc1 a1 c1 ra2 rc2 a2 c2 ra3 rc3 a3 c3 ra4 rc4 a4 c4
   go_wp2_with fail
   exact ⟨⟨k + 1, by go_num, by omega, B1⟩, by simp [intOf] <;> omega⟩
  have hkl' : ¬ (k : Int) < (l.length : Int) := by omega
  go_wp2_with fail
  go_ret
  exact ⟨rfl, HBR.out⟩
set_option maxHeartbeats 4000000 in
set_option maxRecDepth 100000 in
theorem sameComms_is (v1 v2 : Value) (l : List (Int × Int)) (w : World) (h1 : Rd w 2 PrR v1 l) (h2 : Rd w 2 PrR v2 l) (hz : l.length ≤ 100000) :
    Calls Tryz.prog 45 #[v1, v2] w fun e w' => e = .returned (.bool true) ∧ Below w.heap.size w w' := by
 obtain ⟨ao, ca, rfl⟩ := h1.slice
 obtain ⟨bo, cb, rfl⟩ := h2.slice
 have H1 := hide h1
 have H2 := hide h2
 clear h1 h2
 go_enter Tryz.func45, Tryz.ntmps45
 go_wp2_with fail
 go_loopw [5] (fun v wr => ∃ k : Nat, v = .int .i64 k ∧ k ≤ l.length ∧ Hid (Below w.heap.size w wr)) (fun v _ => l.length - (intOf v).toNat)
 case atStart => exact ⟨0, rfl, Nat.zero_le _, brefl w⟩
 case round =>
  obtain ⟨k, rfl, hk, HBR⟩ := hrel
  by_cases hkl : k < l.length
  ·
   have hkl' : (k : Int) < (l.length : Int) := by omega
   obtain ⟨b, off, xs, rfl, hbw, hx, ha⟩ := (Rd.below PrR.mono H1.out HBR.out).at_ hkl
   obtain ⟨b2, off2, ys, rfl, hbw2, hy, hc⟩ := (Rd.below PrR.mono H2.out HBR.out).at_ hkl
   generalize l[k] = y at *
   unfold PrR at hx hy
   subst hx hy
   obtain ⟨y0, y1⟩ := y
   have a0 := ha 0 _ rfl
   have c0 := hc 0 _ rfl
   have a1 := ha 1 _ rfl
   have c1 := hc 1 _ rfl
   simp only [Nat.add_zero] at a0 c0
   clear ha hc
   have ra0 := fun dd os => cell_regrown a0 dd os
   have rc0 := fun dd os => cell_regrown c0 dd os
   have ra1 := fun dd os => cell_regrown a1 dd os
   have rc1 := fun dd os => cell_regrown c1 dd os
   go_wp2_with fail
   refine wp_region_quiet_below (by kernel_rfl) (by kernel_rfl) ?_
   repeat (go_big_quiet_step (fail))
   refine wpQuiet_nil ?_
   rintro _ ⟨⟨dd, os⟩, rfl⟩
   have hb1 := below_regrown wr dd os
   generalize Sort.grow (redrawn wr dd) os = w1 at hb1
   have B1 := hide (bthen HBR.out hb1)
   clear hb1 ra0 rc0 a0 c0 ra1 rc1 a1 c1
   go_wp2_with fail
   exact ⟨⟨k + 1, by go_num, by omega, B1⟩, by simp [intOf] <;> omega⟩
  have hkl' : ¬ (k : Int) < (l.length : Int) := by omega
  go_wp2_with fail
  go_ret
  exact ⟨rfl, HBR.out⟩
set_option maxHeartbeats 4000000 in
set_option maxRecDepth 100000 in
theorem samePrefixes_is (v1 v2 : Value) (l : List (Int × Int)) (w : World) (h1 : Rd w 2 PxR v1 l) (h2 : Rd w 2 PxR v2 l) (hz : l.length ≤ 100000) :
    Calls Tryz.prog 46 #[v1, v2] w fun e w' => e = .returned (.bool true) ∧ Below w.heap.size w w' := by
 obtain ⟨ao, ca, rfl⟩ := h1.slice
 obtain ⟨bo, cb, rfl⟩ := h2.slice
 have H1 := hide h1
 have H2 := hide h2
 clear h1 h2
 go_enter Tryz.func46, Tryz.ntmps46
 go_wp2_with fail
 go_loopw [5] (fun v wr => ∃ k : Nat, v = .int .i64 k ∧ k ≤ l.length ∧ Hid (Below w.heap.size w wr)) (fun v _ => l.length - (intOf v).toNat)
 case atStart => exact ⟨0, rfl, Nat.zero_le _, brefl w⟩
 case round =>
  obtain ⟨k, rfl, hk, HBR⟩ := hrel
  by_cases hkl : k < l.length
  ·
   have hkl' : (k : Int) < (l.length : Int) := by omega
   obtain ⟨b, off, xs, rfl, hbw, hx, ha⟩ := (Rd.below PxR.mono H1.out HBR.out).at_ hkl
   obtain ⟨b2, off2, ys, rfl, hbw2, hy, hc⟩ := (Rd.below PxR.mono H2.out HBR.out).at_ hkl
   generalize l[k] = y at *
   unfold PxR at hx hy
   subst hx hy
   obtain ⟨y0, y1⟩ := y
   have a0 := ha 0 _ rfl
   have c0 := hc 0 _ rfl
   have a1 := ha 1 _ rfl
   have c1 := hc 1 _ rfl
   simp only [Nat.add_zero] at a0 c0
   clear ha hc
   have ra0 := fun dd os => cell_regrown a0 dd os
   have rc0 := fun dd os => cell_regrown c0 dd os
   have ra1 := fun dd os => cell_regrown a1 dd os
   have rc1 := fun dd os => cell_regrown c1 dd os
   go_wp2_with fail
   refine wp_region_quiet_below (by kernel_rfl) (by kernel_rfl) ?_
   repeat (go_big_quiet_step (fail))
   refine wpQuiet_nil ?_
   rintro _ ⟨⟨dd, os⟩, rfl⟩
   have hb1 := below_regrown wr dd os
   generalize Sort.grow (redrawn wr dd) os = w1 at hb1
   have B1 := hide (bthen HBR.out hb1)
   clear hb1 ra0 rc0 a0 c0 ra1 rc1 a1 c1
   go_wp2_with fail
   exact ⟨⟨k + 1, by go_num, by omega, B1⟩, by simp [intOf] <;> omega⟩
  have hkl' : ¬ (k : Int) < (l.length : Int) := by omega
  go_wp2_with fail
  go_ret
  exact ⟨rfl, HBR.out⟩
theorem cell_of {w : World} {b : Nat} {cs : Array Value} {t : TypeId} (h : w.heap[b]? = some (.cells cs t (0, 0))) (i : Nat) {u : Value} (hi : cs[i]? = some u) : w.cell? ⟨b, i, none⟩ = some u := by
 simp [World.cell?, h, hi]
theorem two_boxes (w : World) (x y : Array Value) (t : TypeId) : Below w.heap.size w ((w.alloc (.cells x t)).alloc (.cells y t)) ∧ ((w.alloc (.cells x t)).alloc (.cells y t)).heap[w.heap.size]? = some (.cells x t (0, 0)) ∧ ((w.alloc (.cells x t)).alloc (.cells y t)).heap[w.heap.size + 1]? = some (.cells y t (0, 0)) := by
 refine ⟨balloc (balloc (brefl w) _) _, ?_, ?_⟩
 ·
  exact ((balloc (brefl (w.alloc (.cells x t))) (.cells y t)).block w.heap.size (by rw [size_alloc]; omega)).trans (heap_new w x t)
 have h := heap_new (w.alloc (.cells x t)) y t
 rw [size_alloc] at h
 exact h
def clV (c : Cl) (va vd vp : Value) : Value := .agg #[.int .i64 c.n, .bool c.ok, .string c.m.list, .string c.m.path, .int .i64 c.m.ca, .int .i64 c.m.cn, .int .i64 c.s.pref, .int .i64 c.s.med, .int .i64 c.s.org, va, vd, .bool c.s.clr, vp]
set_option maxHeartbeats 4000000 in
set_option maxRecDepth 100000 in
theorem sameClause_is {c : Cl} {va vd vp vb ve vq : Value} (w : World) (h1 : Rd w 2 PrR va c.s.add) (h2 : Rd w 2 PrR vd c.s.del) (h3 : Rd w 1 InR vp c.s.prep) (h4 : Rd w 2 PrR vb c.s.add) (h5 : Rd w 2 PrR ve c.s.del) (h6 : Rd w 1 InR vq c.s.prep) (hz : c.s.add.length ≤ 100000 ∧ c.s.del.length ≤ 100000 ∧ c.s.prep.length ≤ 100000) :
    Calls Tryz.prog 23 #[clV c va vd vp, clV c vb ve vq] w fun e w' => e = .returned (.bool true) ∧ Below w.heap.size w w' := by
 obtain ⟨n, ok, ⟨ml, mp, ca, cn⟩, ⟨pref, med, org, add, del, clr, prep⟩⟩ := c
 simp only [clV] at *
 obtain ⟨oa, ka, rfl⟩ := h1.slice
 obtain ⟨od, kd, rfl⟩ := h2.slice
 obtain ⟨op, kp, rfl⟩ := h3.slice
 obtain ⟨ob, kb, rfl⟩ := h4.slice
 obtain ⟨oe, ke, rfl⟩ := h5.slice
 obtain ⟨oq, kq, rfl⟩ := h6.slice
 obtain ⟨z1, z2, z3⟩ := hz
 have TB := two_boxes w #[.int .i64 n, .bool ok, .string ml, .string mp, .int .i64 ca, .int .i64 cn, .int .i64 pref, .int .i64 med, .int .i64 org, .slice oa add.length ka, .slice od del.length kd, .bool clr, .slice op prep.length kp] #[.int .i64 n, .bool ok, .string ml, .string mp, .int .i64 ca, .int .i64 cn, .int .i64 pref, .int .i64 med, .int .i64 org, .slice ob add.length kb, .slice oe del.length ke, .bool clr, .slice oq prep.length kq] 81
 obtain ⟨N1, hN1⟩ : ∃ N, add.length = N := ⟨_, rfl⟩
 obtain ⟨N2, hN2⟩ : ∃ N, del.length = N := ⟨_, rfl⟩
 obtain ⟨N3, hN3⟩ : ∃ N, prep.length = N := ⟨_, rfl⟩
 have B0 := hide TB.1
 have HA := hide TB.2.1
 have HB := hide TB.2.2
 have R1 := hide (h1.below PrR.mono TB.1)
 have R2 := hide (h2.below PrR.mono TB.1)
 have R3 := hide (h3.below InR.mono TB.1)
 have R4 := hide (h4.below PrR.mono TB.1)
 have R5 := hide (h5.below PrR.mono TB.1)
 have R6 := hide (h6.below InR.mono TB.1)
 have HL : Hid (add.length = N1 ∧ del.length = N2 ∧ prep.length = N3) := ⟨hN1, hN2, hN3⟩
 simp only [hN1, hN2, hN3] at z1 z2 z3 B0 HA HB R1 R2 R3 R4 R5 R6 ⊢
 clear TB h1 h2 h3 h4 h5 h6 hN1 hN2 hN3
 go_enter Tryz.func23, Tryz.ntmps23
 go_upto_region 1 with fail
 obtain ⟨p, hp⟩ : ∃ p, w.heap.size = p := ⟨_, rfl⟩
 obtain ⟨q, hq⟩ : ∃ q, w.heap.size + 1 = q := ⟨_, rfl⟩
 rw [hp] at HA
 rw [hq] at HB
 rw [hq, hp]
 generalize (w.alloc (.cells #[.int .i64 n, .bool ok, .string ml, .string mp, .int .i64 ca, .int .i64 cn, .int .i64 pref, .int .i64 med, .int .i64 org, .slice oa N1 ka, .slice od N2 kd, .bool clr, .slice op N3 kp] 81)).alloc (.cells #[.int .i64 n, .bool ok, .string ml, .string mp, .int .i64 ca, .int .i64 cn, .int .i64 pref, .int .i64 med, .int .i64 org, .slice ob N1 kb, .slice oe N2 ke, .bool clr, .slice oq N3 kq] 81) = W at *
 clear hp hq
 have a0 := cell_of HA.out 0 rfl
 have a1 := cell_of HA.out 1 rfl
 have a2 := cell_of HA.out 2 rfl
 have a3 := cell_of HA.out 3 rfl
 have a4 := cell_of HA.out 4 rfl
 have a5 := cell_of HA.out 5 rfl
 have a6 := cell_of HA.out 6 rfl
 have a7 := cell_of HA.out 7 rfl
 have a8 := cell_of HA.out 8 rfl
 have a9 := cell_of HA.out 9 rfl
 have a10 := cell_of HA.out 10 rfl
 have a11 := cell_of HA.out 11 rfl
 have a12 := cell_of HA.out 12 rfl
 have b0 := cell_of HB.out 0 rfl
 have b1 := cell_of HB.out 1 rfl
 have b2 := cell_of HB.out 2 rfl
 have b3 := cell_of HB.out 3 rfl
 have b4 := cell_of HB.out 4 rfl
 have b5 := cell_of HB.out 5 rfl
 have b6 := cell_of HB.out 6 rfl
 have b7 := cell_of HB.out 7 rfl
 have b8 := cell_of HB.out 8 rfl
 have b9 := cell_of HB.out 9 rfl
 have b10 := cell_of HB.out 10 rfl
 have b11 := cell_of HB.out 11 rfl
 have b12 := cell_of HB.out 12 rfl
 go_upto_region 3 with fail
 clear a0 b0 a1 b1 a2 b2 a3 b3 a4 b4 a5 b5 a6 b6 a7 b7 a8 b8 a9 b9 a10 b10 a11 b11 a12 b12
 go_wp2_with fail
 go_loopw [5] (fun v wr => ∃ k : Nat, v = .int .i64 k ∧ k ≤ N3 ∧ Hid (Below W.heap.size W wr)) (fun v _ => N3 - (intOf v).toNat)
 case atStart => exact ⟨0, rfl, Nat.zero_le _, brefl W⟩
 case round =>
  obtain ⟨k, rfl, hk, HBR⟩ := hrel
  have HA' := hide ((HBR.out.block p (heap_lt HA.out)).trans HA.out)
  have HB' := hide ((HBR.out.block q (heap_lt HB.out)).trans HB.out)
  have a12 := cell_of HA'.out 12 rfl
  have b12 := cell_of HB'.out 12 rfl
  by_cases hkl : k < N3
  ·
   have hkl' : (k : Int) < (N3 : Int) := by omega
   obtain ⟨b, off, xs, rfl, hbw, hx, ha⟩ := (Rd.below InR.mono R3.out HBR.out).at_ (j := k) (by rw [HL.out.2.2]; exact hkl)
   obtain ⟨b2, off2, ys, rfl, hbw2, hy, hc⟩ := (Rd.below InR.mono R6.out HBR.out).at_ (j := k) (by rw [HL.out.2.2]; exact hkl)
   generalize prep[k]'(by rw [HL.out.2.2]; exact hkl) = y at *
   unfold InR at hx hy
   subst hx hy
   have c0 := ha 0 _ rfl
   have d0 := hc 0 _ rfl
   simp only [Nat.add_zero, Nat.mul_one] at c0 d0
   clear ha hc
   have ra := fun dd os => cell_regrown a12 dd os
   have rb := fun dd os => cell_regrown b12 dd os
   have rc := fun dd os => cell_regrown c0 dd os
   have rd := fun dd os => cell_regrown d0 dd os
   go_wp2_with fail
   refine wp_region_quiet_below (by kernel_rfl) (by kernel_rfl) ?_
   repeat (go_big_quiet_step (fail))
   refine wpQuiet_nil ?_
   rintro _ ⟨⟨dd, os⟩, rfl⟩
   have hb1 := below_regrown wr dd os
   generalize Sort.grow (redrawn wr dd) os = w1 at hb1
   have B1 := hide (bthen HBR.out hb1)
   clear hb1 ra rb rc rd a12 b12 c0 d0 HA' HB'
   go_wp2_with fail
   exact ⟨⟨k + 1, by go_num, by omega, B1⟩, by simp [intOf] <;> omega⟩
  have hkl' : ¬ (k : Int) < (N3 : Int) := by omega
  have C1 := hide (fun W hb => sameComms_is (.slice oa N1 ka) (.slice ob N1 kb) add W (Rd.below PrR.mono R1.out hb) (Rd.below PrR.mono R4.out hb) (by rw [HL.out.1]; exact z1))
  have C2 := hide (fun W hb => sameComms_is (.slice od N2 kd) (.slice oe N2 ke) del W (Rd.below PrR.mono R2.out hb) (Rd.below PrR.mono R5.out hb) (by rw [HL.out.2.1]; exact z2))
  have a9 := cell_of HA'.out 9 rfl
  have b9 := cell_of HB'.out 9 rfl
  go_wp2_with fail
  refine (C1.out wr HBR.out).mono ?_
  rintro e w1 ⟨rfl, hb1⟩
  have B1 := hide (bthen HBR.out hb1)
  have a10 := cell_of ((hb1.block p (heap_lt HA'.out)).trans HA'.out) 10 rfl
  have b10 := cell_of ((hb1.block q (heap_lt HB'.out)).trans HB'.out) 10 rfl
  clear hb1 a9 b9 a12 b12 HA' HB'
  go_wp2_with fail
  refine (C2.out w1 B1.out).mono ?_
  rintro e w2 ⟨rfl, hb2⟩
  have B2 := hide (bthen B0.out (bthen B1.out hb2))
  clear hb2 a10 b10
  go_wp2_with fail
  go_ret
  exact ⟨rfl, B2.out⟩
end Go.Proofs.YtnadhplhnfpeaaaGreatDoor
