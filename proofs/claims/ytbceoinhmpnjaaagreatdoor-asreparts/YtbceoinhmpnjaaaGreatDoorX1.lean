import Derived.Test.YtbceoinhmpnjaaaGreatDoorW5
import Derived.Test.YtbceoinhmpnjaaaGreatDoorY5
/- The program meets what the laws ask of it. -/
namespace Go.Proofs.YtbceoinhmpnjaaaGreatDoor
open Go.RowKit Go.Sort

/-- The library's table of powers of ten reads as it was laid. -/
def PowTab (w : World) : Prop := Lib.TabIs Tryz.prog w "internal/strconv.uint64pow10" .u64 Lib.pow10Tab
def T5 (w : World) : Prop := Y4.Pt w ∧ PowTab w
theorem T5.on {w w' : World} (h : T5 w) (hb : Below w.heap.size w w') : T5 w' := ⟨h.1.on hb, Lib.tabBelow_of_tabIs h.2 w' hb⟩
theorem contains_dig (c : UInt8) : ([48, 49, 50, 51, 52, 53, 54, 55, 56, 57] : List UInt8).contains c = Ad.dig c := by
  rw [Bool.eq_iff_iff]
  unfold Ad.dig
  simp only [List.contains_cons, List.contains_nil, Bool.or_false, Bool.or_eq_true, beq_iff_eq, Bool.and_eq_true, decide_eq_true_eq]
  have h : ∀ n : Nat, n < 256 → ((n = 48 ∨ n = 49 ∨ n = 50 ∨ n = 51 ∨ n = 52 ∨ n = 53 ∨ n = 54 ∨ n = 55 ∨ n = 56 ∨ n = 57) ↔ (48 ≤ n ∧ n ≤ 57)) := fun n _ => by omega
  have e : ∀ k : UInt8, c = k ↔ c.toNat = k.toNat := fun k => ⟨fun h => by rw [h], fun h => UInt8.toNat_inj.1 h⟩
  simp only [e]
  exact h c.toNat c.toNat_lt
theorem trims : Trims := {
  blank := fun r W => by
    have h := Any.strings_TrimLeft_laid (P := Tryz.prog) Tryz.lays161 (by kernel_rfl) (tx r) ⟨#[32]⟩ W (by decide) (ascii_of_all (by decide))
    refine Calls.mono (P := Tryz.prog) (f := 55) h ?_
    rintro e w' ⟨rfl, hb⟩
    refine ⟨?_, hb⟩
    have : Lib.trimLeftS (tx r).data.toList [32] = Px.skip r := by
      unfold Lib.trimLeftS Px.skip
      congr 1
      funext c
      rw [Bool.eq_iff_iff]
      simp
    show Ending.returned (Value.string ⟨(Lib.trimLeftS (tx r).data.toList [32]).toArray⟩) = _
    rw [this]
  digs := fun r W => by
    have h := Any.strings_TrimLeft_laid (P := Tryz.prog) Tryz.lays161 (by kernel_rfl) (tx r) ⟨#[48, 49, 50, 51, 52, 53, 54, 55, 56, 57]⟩ W (by decide) (ascii_of_all (by decide))
    refine Calls.mono (P := Tryz.prog) (f := 55) h ?_
    rintro e w' ⟨rfl, hb⟩
    refine ⟨?_, hb⟩
    have : Lib.trimLeftS (tx r).data.toList [48, 49, 50, 51, 52, 53, 54, 55, 56, 57] = r.dropWhile Ad.dig := by
      unfold Lib.trimLeftS
      congr 1
      funext c
      exact contains_dig c
    show Ending.returned (Value.string ⟨(Lib.trimLeftS (tx r).data.toList [48, 49, 50, 51, 52, 53, 54, 55, 56, 57]).toArray⟩) = _
    rw [this] }
theorem readKit : ReadKit T5 := { trims := trims, on := fun h hb => h.on hb, path := fun s y q hs h w hT => Y4.parse_is s y q hs h w hT.1 }
theorem textKit : TextKit T5 := {
  on := fun h hb => h.on hb
  itoa := fun n t h0 h1 ht w hT => by
    subst ht
    refine (Tryz.strconv_Itoa n (by omega) (by omega) w hT.2).mono ?_
    rintro e w' ⟨rfl, k, os, rfl⟩
    exact ⟨rfl, (show Grows w _ from ⟨k, os, rfl⟩).below⟩
  joinNone := Tryz.strings_Join_none
  join := Tryz.strings_Join }
theorem mayOk : MayOk := fun ao ca l b h W hS hl => Y4.may_is ao ca l b h W hS hl
theorem tx_of (s : ByteArray) : tx s.data.toList = s := rfl
theorem kit5 : Kit5 T5 Rep5 := {
  on := fun h hb => h.on hb
  rep := fun h hb => h.on hb
  some := fun h => by
    obtain ⟨a, _, _, _, h1, _⟩ := h
    exact ⟨_, h1⟩
  parse := fun s _ W hT => parse_is5 readKit s.data.toList W hT
  text := fun v x t ht W hT hR => text_is5 textKit v x t ht W hT hR
  size := fun v x W _ hR => size_is5 v x W hR
  meets := fun v x ao ca l b hb W _ hR hS hl => meets_is5 mayOk v x ao ca l b hb W hR hS hl
  whole := fun v x ao ca l b hb W _ hR hS hl => whole_is5 mayOk v x ao ca l b hb W hR hS hl }
end Go.Proofs.YtbceoinhmpnjaaaGreatDoor
