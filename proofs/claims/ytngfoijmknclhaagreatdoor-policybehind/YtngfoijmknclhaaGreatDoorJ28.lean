/- Whether a clause is met: metBy, mayRoute. -/
import Derived.Test.YtngfoijmknclhaaGreatDoorJ26
import Derived.Test.YtngfoijmknclhaaGreatDoorJ27
namespace Go.Proofs.YtngfoijmknclhaaGreatDoor
open Go.RowKit Go.Sort
set_option maxHeartbeats 4000000 in
set_option maxRecDepth 100000 in
theorem asked_fn {W0 : World} {b7 b8 b9 f1 f2 f3 : Nat} {c1 c2 c3 : Array Value} {L M : ByteArray → Bool} {H : Cm.Co.C → Bool} (h7 : W0.cell? ⟨b7, 0, none⟩ = some (.func (.func f1) #[] c1)) (h8 : W0.cell? ⟨b8, 0, none⟩ = some (.func (.func f2) #[] c2)) (h9 : W0.cell? ⟨b9, 0, none⟩ = some (.func (.func f3) #[] c3)) (k1 : FnS W0 f1 c1 L) (k2 : FnS W0 f2 c2 M) (k3 : FnC W0 f3 c3 H) :
    FnIs W0 65 #[.pointer (some ⟨b7, 0, none⟩), .pointer (some ⟨b8, 0, none⟩), .pointer (some ⟨b9, 0, none⟩)] KlV (fun _ => True) (fun c => holdsP L M H c.ls c.pt c.ca c.cn) where
  enter := fun args w => by go_simp
  ok := fun W a x hW hx _ => by
    obtain ⟨xs, h1, rfl⟩ := hx
    obtain ⟨ao, dl, pr, ca, cd, cr, rfl, _, _⟩ := h1
    show Calls Tryz.prog 65 #[.agg #[.int .i64 a.n, .bool a.ok, .string a.ls, .string a.pt, .int .i64 a.ca, .int .i64 a.cn, .int .i64 a.s.pf, .int .i64 a.s.md, .int .i64 a.s.og, .slice ao a.s.add.length ca, .slice dl a.s.del.length cd, .bool a.s.clr, .slice pr a.s.pre.length cr], .pointer (some ⟨b7, 0, none⟩), .pointer (some ⟨b8, 0, none⟩), .pointer (some ⟨b9, 0, none⟩)] W _
    have A1 := balloc (brefl W) (.cells #[.int .i64 a.n, .bool a.ok, .string a.ls, .string a.pt, .int .i64 a.ca, .int .i64 a.cn, .int .i64 a.s.pf, .int .i64 a.s.md, .int .i64 a.s.og, .slice ao a.s.add.length ca, .slice dl a.s.del.length cd, .bool a.s.clr, .slice pr a.s.pre.length cr] 45)
    have N1 := heap_new W #[.int .i64 a.n, .bool a.ok, .string a.ls, .string a.pt, .int .i64 a.ca, .int .i64 a.cn, .int .i64 a.s.pf, .int .i64 a.s.md, .int .i64 a.s.og, .slice ao a.s.add.length ca, .slice dl a.s.del.length cd, .bool a.s.clr, .slice pr a.s.pre.length cr] 45
    have n2 := cell_of N1 2 rfl
    have n3 := cell_of N1 3 rfl
    have n4 := cell_of N1 4 rfl
    have n5 := cell_of N1 5 rfl
    have B1 := hide A1
    have q7 := ((bthen hW A1).cell (p := ⟨b7, 0, none⟩) (World.block_lt_of_cell? W0 _ h7)).trans h7
    have q8 := ((bthen hW A1).cell (p := ⟨b8, 0, none⟩) (World.block_lt_of_cell? W0 _ h8)).trans h8
    have q9 := ((bthen hW A1).cell (p := ⟨b9, 0, none⟩) (World.block_lt_of_cell? W0 _ h9)).trans h9
    have C := hide (holds_is a.ls a.pt a.ca a.cn _ (k1.from (bthen hW A1)) (k2.from (bthen hW A1)) (k3.from (bthen hW A1)))
    clear hW h7 h8 h9 k1 k2 k3 A1 N1
    generalize holdsP L M H a.ls a.pt a.ca a.cn = r at *
    obtain ⟨n, ok, ls, pt, qa, qn, ⟨pf, md, og, ad, de, clr, pre⟩⟩ := a
    simp only at *
    generalize ad.length = na at *
    generalize de.length = nd at *
    generalize pre.length = np at *
    go_enter Tryz.func65, Tryz.ntmps65
    go_upto_region 1 with fail
    generalize W.alloc (.cells #[.int .i64 n, .bool ok, .string ls, .string pt, .int .i64 qa, .int .i64 qn, .int .i64 pf, .int .i64 md, .int .i64 og, .slice ao na ca, .slice dl nd cd, .bool clr, .slice pr np cr] 45) = W1 at *
    go_wp2_with fail
    refine C.out.mono ?_
    rintro e w1 ⟨rfl, hb⟩
    have B2 := hide (bthen B1.out hb)
    clear hb
    go_wp2_with fail
    go_ret
    exact ⟨rfl, B2.out⟩
/-- A route: a prefix with attributes, where they lie. -/
def AtV (a : At) (po co ko : Option Addr) (cp cc ck : Nat) : Value := .agg #[.int .i64 a.pf, .int .i64 a.md, .int .i64 a.og, .slice po a.path.length cp, .slice co a.comms.length cc, .int .i64 a.fr, .slice ko a.cl.length ck]
def routeOk (pa pb : Int) (a : At) : Bool := Pl.Ad.may pa pb && At.may a
/-- Is a clause met by a route that may be? -/
def metP (ls : List Ll) (pa pb : Int) (a : At) (g : ByteArray → Bool) (c : Kl) : Bool := holdsP (letsP ls pa pb) g (Cm.Co.has a.comms) c.ls c.pt c.ca c.cn
set_option maxHeartbeats 4000000 in
set_option maxRecDepth 100000 in
theorem mayRoute_is (pa pb : Int) (a : At) (po co ko : Option Addr) (cp cc ck : Nat) (w : World) (hp : 0 ≤ pa ∧ pa ≤ 4294967295) (hA : At.lies w a po co ko) (hCA : At.came a po co ko cp cc ck) (h1 : a.path.length ≤ 100) (h2 : a.comms.length ≤ 100) (h3 : a.cl.length ≤ 100) :
    Calls Tryz.prog 26 #[.agg #[.int .u32 pa, .int .i64 pb], AtV a po co ko cp cc ck] w fun e w' => e = .returned (.bool (routeOk pa pb a)) ∧ Below w.heap.size w w' := by
  obtain ⟨ma, hma⟩ : ∃ x, At.may a = x := ⟨_, rfl⟩
  obtain ⟨mp, hmp⟩ : ∃ x, Pl.Ad.may pa pb = x := ⟨_, rfl⟩
  have CP := hide (fun W' => Pl.may_is pa pb mp hmp W' hp.1 hp.2)
  have CM := hide (fun W' (hb : Below w.heap.size w W') => mayA_is a po co ko cp cc ck ma hma W' (At.lies_below hA hb) h1 h2 h3 hCA.2.2.2)
  have HR : Hid (routeOk pa pb a = (mp && ma)) := by show _ = _; unfold routeOk; rw [hma, hmp]
  unfold AtV
  have A1 := balloc (brefl w) (.cells #[.int .u32 pa, .int .i64 pb] 26)
  have N1 := hide (heap_new w #[.int .u32 pa, .int .i64 pb] 26)
  have A2 := balloc A1 (.cells #[.int .i64 a.pf, .int .i64 a.md, .int .i64 a.og, .slice po a.path.length cp, .slice co a.comms.length cc, .int .i64 a.fr, .slice ko a.cl.length ck] 30)
  have N2 := hide (heap_new (w.alloc (.cells #[.int .u32 pa, .int .i64 pb] 26)) #[.int .i64 a.pf, .int .i64 a.md, .int .i64 a.og, .slice po a.path.length cp, .slice co a.comms.length cc, .int .i64 a.fr, .slice ko a.cl.length ck] 30)
  have N1' := hide (((balloc (brefl (w.alloc (.cells #[.int .u32 pa, .int .i64 pb] 26))) (.cells #[.int .i64 a.pf, .int .i64 a.md, .int .i64 a.og, .slice po a.path.length cp, .slice co a.comms.length cc, .int .i64 a.fr, .slice ko a.cl.length ck] 30)).block w.heap.size (heap_lt N1.out)).trans N1.out)
  have SZ : Hid ((w.alloc (.cells #[.int .u32 pa, .int .i64 pb] 26)).heap.size = w.heap.size + 1) := sizeA _ _
  have B2 := hide A2
  clear hma hmp hA hCA h1 h2 h3 hp A1 A2 N1
  rw [SZ.out] at N2
  generalize routeOk pa pb a = R at *
  generalize a.path.length = np at *
  generalize a.comms.length = nc at *
  generalize a.cl.length = nk at *
  go_enter Tryz.func26, Tryz.ntmps26
  go_upto_region 1 with fail
  generalize (w.alloc (.cells #[.int .u32 pa, .int .i64 pb] 26)).alloc (.cells #[.int .i64 a.pf, .int .i64 a.md, .int .i64 a.og, .slice po np cp, .slice co nc cc, .int .i64 a.fr, .slice ko nk ck] 30) = W2 at *
  have n0 := cell_of N1'.out 0 rfl
  have n1 := cell_of N1'.out 1 rfl
  go_wp2_with fail
  refine (CP.out W2).mono ?_
  rintro e w3 ⟨rfl, hb3⟩
  have N3 := hide ((hb3.block (w.heap.size + 1) (heap_lt N2.out)).trans N2.out)
  have B3 := hide (bthen B2.out hb3)
  clear hb3 n0 n1
  cases mp with
  | false =>
    go_wp2_with fail
    go_ret
    exact ⟨ret_bool HR.out.symm, B3.out⟩
  | true =>
    obtain ⟨c0, c1, c2, c3, c4, c5, c6⟩ := seven_cells N3.out
    go_wp2_with fail
    refine (CM.out _ B3.out).mono ?_
    rintro e w4 ⟨rfl, hb4⟩
    have B4 := hide (bthen B3.out hb4)
    clear hb4
    go_wp2_with fail
    go_ret
    exact ⟨ret_bool HR.out.symm, B4.out⟩
end Go.Proofs.YtngfoijmknclhaaGreatDoor
