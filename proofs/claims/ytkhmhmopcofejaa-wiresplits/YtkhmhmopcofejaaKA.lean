import Derived.Test.YtkhmhmopcofejaaRG
import Derived.Laws.BytesArg
/- Bytes in memory; what the laws of stage 10 ask of the program; the law's examples. -/
namespace Go.Proofs.Ytkhmhmopcofejaa
open Go.RowKit Go.Sort

/-- Bytes that lie there. -/
def Bs.reads (w : World) (b off : Nat) (l : List UInt8) : Prop := ∀ j (h : j < l.length), w.cell? ⟨b, off + j, none⟩ = some (.int .u8 (l[j].toNat : Int))
def Bs.slot (w : World) (ao : Option Addr) (l : List UInt8) : Prop := l = [] ∨ ∃ b off, ao = some ⟨b, off, none⟩ ∧ Bs.reads w b off l
theorem Bs.slot_below {w w' : World} {ao : Option Addr} {l : List UInt8} (h : Bs.slot w ao l) (hb : Below w.heap.size w w') : Bs.slot w' ao l := by
  rcases h with h | ⟨b, off, h, hr⟩
  · exact .inl h
  · exact .inr ⟨b, off, h, fun j hj => (hb.cell (p := ⟨b, off + j, none⟩) (block_lt_of_cell (hr j hj))).trans (hr j hj)⟩
theorem Bs.slot_at {w : World} {ao : Option Addr} {l : List UInt8} (h : Bs.slot w ao l) {k : Nat} (hk : k < l.length) : ∃ b off, ao = some ⟨b, off, none⟩ ∧ Bs.reads w b off l := by
  rcases h with h | h
  · rw [h] at hk; simp at hk
  · exact h
/-- A slice that came in, or was made: nil has no room. -/
def camB (ao : Option Addr) (len cap : Nat) : Prop := (ao = none → cap = 0) ∧ (∀ ad, ao = some ad → ad.spot = none) ∧ len ≤ cap
theorem str_nil (W : World) : (convert 31 9 (.slice none 0 0)).run Try.prog W = .ok (.string ⟨#[]⟩) W := by
  have := run_convert_bytes_nil (P := Try.prog) (w := W) 31 5 Try.underlying31 Try.underlying5 0 0 9 Try.underlying9
  exact this
/-- Bytes as a text. -/
theorem str_at {W : World} {ao : Option Addr} {n c : Nat} {l : List UInt8} {t : ByteArray} (ht : t = ⟨l.toArray⟩) (hn : n = l.length) (h : Bs.slot W ao l) (hc : camB ao n c) : (convert 31 9 (.slice ao n c)).run Try.prog W = .ok (.string t) W := by
  subst ht hn
  cases ao with
  | none =>
    have hl : l = [] := by
      rcases h with h | ⟨b, off, h, _⟩
      · exact h
      · cases h
    subst hl
    rw [hc.1 rfl]
    exact str_nil W
  | some ad =>
    obtain ⟨b, off, sp⟩ := ad
    obtain rfl : sp = none := hc.2.1 _ rfl
    refine run_convert_bytes_back W _ _ _ ⟨b, off, none⟩ c l Try.underlying31 Try.underlying5 Try.underlying9 ?_
    intro j hj
    have hr : Bs.reads W b off l := by
      rcases h with h | ⟨b', off', h, hr⟩
      · subst h; simp at hj
      · simp only [Option.some.injEq, Addr.mk.injEq, and_true] at h
        rw [h.1, h.2]
        exact hr
    rw [show (⟨b, off, none⟩ : Addr).add j = ⟨b, off + j, none⟩ by unfold Addr.add; split <;> simp_all]
    exact hr j hj
/-- Cells from B on that may be written. -/
def WrB (B : Nat) (w : World) (o : Option Addr) (n : Nat) : Prop := n = 0 ∨ ∃ g off, o = some ⟨g, off, none⟩ ∧ B ≤ g ∧ ∀ j, j < n → (w.cell? ⟨g, off + j, none⟩).isSome = true ∧ w.frozen? ⟨g, off + j, none⟩ = false
/-- A slice within another: nil has no room. -/
def camU (ao : Option Addr) (len cap : Nat) : Prop := (ao = none → cap = 0) ∧ len ≤ cap
theorem camB.u {ao : Option Addr} {len cap : Nat} (h : camB ao len cap) : camU ao len cap := ⟨h.1, h.2.2⟩
/-- The slices of an update that came in, or were made. -/
def Up.came (u : Up) (wo tq po co ko : Option Addr) (cw ct cp cc ck : Nat) : Prop := camU wo u.wd.length cw ∧ camU tq u.td.length ct ∧ camU po u.at_.path.length cp ∧ camU co u.at_.comms.length cc ∧ camU ko u.at_.cl.length ck
/-- New bytes. -/
def NewB (w : World) (l : List UInt8) (o : Option Addr) (c : Nat) (w' : World) : Prop := Bs.slot w' o l ∧ WrB w.heap.size w' o l.length ∧ camB o l.length c ∧ Below w.heap.size w w'
def EncGood (w : World) (u : Up) (e : Ending) (w' : World) : Prop :=
  (u.may ∧ ∃ o c, e = .returned (.tuple #[.slice o u.enc.length c, .int .i64 0]) ∧ NewB w u.enc o c w') ∨ (¬ u.may ∧ ∃ o c, e = .returned (.tuple #[.slice o 0 c, .int .i64 1]) ∧ Below w.heap.size w w')
def DecGood (w : World) (l : List UInt8) (e : Ending) (w' : World) : Prop :=
  ∃ (r : Up) (q : Int) (wo tq po co ko : Option Addr) (cw ct cp cc ck : Nat), e = .returned (.tuple #[.agg #[.slice wo r.wd.length cw, .slice tq r.td.length ct, .int .i64 r.at_.pf, .int .i64 r.at_.md, .int .i64 r.at_.og, .slice po r.at_.path.length cp, .slice co r.at_.comms.length cc, .int .i64 r.at_.fr, .slice ko r.at_.cl.length ck], .int .i64 q]) ∧ DecTo l r q ∧ Up.lies w' r wo tq po co ko ∧ Up.came r wo tq po co ko cw ct cp cc ck ∧ Below w.heap.size w w'
def alive : List UInt8 := frame 4 []
/-- What stage 10's laws ask of the program. -/
structure Kit10 : Prop where
  may : ∀ (u : Up) (wo tq po co ko : Option Addr) (cw ct cp cc ck : Nat) (r : Bool), (r = true ↔ u.may) → u.fits → u.Few → ∀ W, Up.lies W u wo tq po co ko → Up.came u wo tq po co ko cw ct cp cc ck → Calls Try.prog 13 #[.agg #[.slice wo u.wd.length cw, .slice tq u.td.length ct, .int .i64 u.at_.pf, .int .i64 u.at_.md, .int .i64 u.at_.og, .slice po u.at_.path.length cp, .slice co u.at_.comms.length cc, .int .i64 u.at_.fr, .slice ko u.at_.cl.length ck]] W fun e w' => e = .returned (.bool r) ∧ Below W.heap.size W w'
  encode : ∀ (u : Up) (wo tq po co ko : Option Addr) (cw ct cp cc ck : Nat), u.fits → u.Few → ∀ W, Up.lies W u wo tq po co ko → Up.came u wo tq po co ko cw ct cp cc ck → Calls Try.prog 11 #[.agg #[.slice wo u.wd.length cw, .slice tq u.td.length ct, .int .i64 u.at_.pf, .int .i64 u.at_.md, .int .i64 u.at_.og, .slice po u.at_.path.length cp, .slice co u.at_.comms.length cc, .int .i64 u.at_.fr, .slice ko u.at_.cl.length ck]] W (EncGood W u)
  decode : ∀ (ao : Option Addr) (c : Nat) (l : List UInt8), l.length ≤ 70000 → ∀ W, Bs.slot W ao l → camB ao l.length c → Calls Try.prog 14 #[.slice ao l.length c] W (DecGood W l)
  alive : ∀ W, Calls Try.prog 18 #[] W fun e w' => ∃ o c, e = .returned (.slice o 19 c) ∧ NewB W alive o c w'
  prefix_ : ∀ (ao : Option Addr) (c : Nat) (l : List UInt8) (p : Int × Int), l.length ≤ 6000 → 0 ≤ p.1 → p.1 ≤ 4294967295 → ∀ W, Bs.slot W ao l → camB ao l.length c → Calls Try.prog 21 #[.slice ao l.length c, .agg #[.int .u32 p.1, .int .i64 p.2]] W fun e w' => ∃ o c m, e = .returned (.slice o m c) ∧ m = (if Gp p then l ++ pfx p else l).length ∧ Bs.slot w' o (if Gp p then l ++ pfx p else l) ∧ camB o m c ∧ Below W.heap.size W w'
theorem gp_ten : Gp (167772160, 8) := by decide
theorem pfx_ten : pfx (167772160, 8) = [8, 10] := by decide
theorem alive_at : alive.length = 19 ∧ ∃ h : 18 < alive.length, (alive[18]).toNat = 4 := by decide
set_option maxHeartbeats 1000000 in
set_option maxRecDepth 100000 in
theorem lives10_is (K : Kit10) (w : World) : Calls Try.prog 9 #[] w fun e w' => e = .returned (.bool true) ∧ Below w.heap.size w w' := by
  have CA := hide (K.alive w)
  have CP := hide (fun W => K.prefix_ none 0 [] (167772160, 8) (by decide) (by decide) (by decide) W (.inl rfl) ⟨fun _ => rfl, fun _ h => (by cases h), Nat.le_refl _⟩)
  clear K
  go_enter Try.func9, Try.ntmps9
  go_wp2_with fail
  refine CA.out.mono ?_
  rintro e w1 ⟨o, c, rfl, hs, _, hc, hb1⟩
  have B1 := hide hb1
  obtain ⟨b, off, rfl, hrd⟩ := Bs.slot_at hs (k := 18) (by rw [alive_at.1]; decide)
  obtain ⟨h18, e18⟩ := alive_at.2
  have c18 := hrd 18 h18
  rw [e18] at c18
  have c18' : w1.cell? ⟨b, off + 18, none⟩ = some (.int .u8 4) := c18
  clear hs hc hb1 hrd h18 e18 c18 CA
  go_wp2_with fail
  refine (CP.out _).mono ?_
  rintro e w2 ⟨o2, c2, m, rfl, hm, hs2, hc2, hb2⟩
  rw [if_pos gp_ten, List.nil_append, pfx_ten] at hm hs2
  have B2 := hide (bthen B1.out hb2)
  have hst := str_at (t := ⟨#[8, 10]⟩) rfl hm hs2 hc2
  clear hb2 hs2 hc2 CP c18'
  have HM := hide hm
  clear hm
  go_wp2_with fail
  go_ret
  exact ⟨rfl, B2.out⟩
end Go.Proofs.Ytkhmhmopcofejaa
