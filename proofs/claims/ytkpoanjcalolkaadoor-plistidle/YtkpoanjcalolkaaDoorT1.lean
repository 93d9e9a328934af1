import Derived.Test.YtkpoanjcalolkaaDoorA2
import Derived.Test.YtkpoanjcalolkaaDoorB1
import Derived.Test.YtkpoanjcalolkaaDoorS1
import Derived.Test.YtkpoanjcalolkaaDoorW1
/- The contract of addr's Text, over whatever Itoa writes. -/
namespace Go.Proofs.YtkpoanjcalolkaaDoor
open Go.RowKit

/-- The number of eight bits at place j of an address, the highest first. -/
def Ad.oct (a : Int) (j : Nat) : Int := a / 2 ^ (24 - 8 * j) % 256
/-- The mark behind number j. -/
def Ad.mark (j : Nat) : UInt8 := if j = 3 then 47 else 46
/-- The first k numbers of an address, with their marks. -/
def Ad.textTo (dg : Int → List UInt8) (a : Int) : Nat → List UInt8
  | 0 => []
  | k + 1 => Ad.textTo dg a k ++ dg (Ad.oct a k) ++ [Ad.mark k]
def Ad.text (dg : Int → List UInt8) (a b : Int) : List UInt8 := Ad.textTo dg a 4 ++ dg b

theorem Ad.mask (x : Int) (h0 : 0 ≤ x) (h1 : x ≤ 4294967295) : wrap64 (bits .and .u32 x 255) = x % 256 := by
  have := u32_and x 255 h0 (by omega) (by decide) (by decide)
  rw [this]
  have e : x.toNat &&& (255 : Int).toNat = x.toNat % 256 := nat_mask8 x.toNat
  rw [e]
  have : ((x.toNat % 256 : Nat) : Int) = x % 256 := by omega
  rw [this]
  unfold wrap64
  omega

theorem Ad.at0 : (⟨#[46, 46, 46, 47]⟩ : ByteArray)[0]'(by decide) = 46 := rfl
theorem Ad.at1 : (⟨#[46, 46, 46, 47]⟩ : ByteArray)[1]'(by decide) = 46 := rfl
theorem Ad.at2 : (⟨#[46, 46, 46, 47]⟩ : ByteArray)[2]'(by decide) = 46 := rfl
theorem Ad.at3 : (⟨#[46, 46, 46, 47]⟩ : ByteArray)[3]'(by decide) = 47 := rfl

theorem Ad.textTo_len (dg : Int → List UInt8) (hdg : ∀ n, (dg n).length ≤ 100) (a : Int) : ∀ k, (Ad.textTo dg a k).length ≤ 101 * k
  | 0 => by simp [Ad.textTo]
  | k + 1 => by
    have := Ad.textTo_len dg hdg a k
    have := hdg (Ad.oct a k)
    simp [Ad.textTo]
    omega

set_option maxHeartbeats 1000000 in
theorem text_yes (dg : Int → List UInt8) (a b : Int) (w : World) (ha : 0 ≤ a) (ha2 : a ≤ 4294967295) (hm : Ad.may a b = true)
    (hdg : ∀ n, (dg n).length ≤ 100)
    (hI : ∀ (n : Int) (W : World), (n = b ∨ ∃ j, j < 4 ∧ n = Ad.oct a j) → Below w.heap.size w W → Calls Tryd.prog 33 #[.int .i64 n] W fun e w' => e = .returned (.string ⟨(dg n).toArray⟩) ∧ Below W.heap.size W w') :
    Calls Tryd.prog 32 #[.agg #[.int .u32 a, .int .i64 b]] w fun e w' => e = .returned (.string ⟨(Ad.text dg a b).toArray⟩) ∧ Below w.heap.size w w' := by
  have HI := hide hI
  have HD := hide hdg
  have HL := hide (Ad.textTo_len dg hdg a)
  have M0 := hide (Ad.mask (a / 16777216) (by omega) (by omega))
  have M1 := hide (Ad.mask (a / 65536) (by omega) (by omega))
  have M2 := hide (Ad.mask (a / 256) (by omega) (by omega))
  have M3 := hide (Ad.mask a ha ha2)
  clear hI hdg
  go_enter Tryd.func32, Tryd.ntmps32
  go_wp2_with fail
  refine (may_is _ _ _ hm _ ha ha2).mono ?_
  rintro e w1 ⟨rfl, hb1⟩
  obtain ⟨hc1, hf1⟩ := bcell hb1
  have hz0 : w.heap.size < w1.heap.size := by have := hb1.size; simp at this; omega
  have p0 : w1.cell? ⟨w.heap.size, 0, none⟩ = some (.int .u32 a) := by simp [hc1, go_sem]
  have p1 : w1.cell? ⟨w.heap.size, 1, none⟩ = some (.int .i64 b) := by simp [hc1, go_sem]
  have B1 : Hid (Below w.heap.size w w1) := bthen (balloc (brefl w) _) hb1
  clear hc1 hf1 hb1
  go_wp2_with fail
  go_loopw [9] (fun i wr => ∃ k : Nat, k ≤ 4 ∧ i = .int .i64 k ∧ Below w1.heap.size w1 wr ∧ Lib.IsBuilder 70 5 w1.heap.size w1.heap.size (Lib.byteCells (Ad.textTo dg a k)) wr) (fun i _ => 4 - (intOf i).toNat)
  case atStart =>
    exact ⟨0, by omega, rfl, (Below.refl _ _).alloc (Nat.le_refl _) _, Lib.fresh_isBuilder 70 5 w1⟩
  case round =>
    obtain ⟨k, hk, rfl, hbr, hbu⟩ := hrel
    have p0' := (hbr.cell (p := ⟨w.heap.size, 0, none⟩) hz0).trans p0
    have p1' := (hbr.cell (p := ⟨w.heap.size, 1, none⟩) hz0).trans p1
    have BU := hide hbu
    clear hbu
    by_cases hlt : k < 4
    · have hk' : k = 0 ∨ k = 1 ∨ k = 2 ∨ k = 3 := by omega
      rcases hk' with rfl | rfl | rfl | rfl
      all_goals
        go_wp2_with fail
        first | rw [M0.out, show a / 16777216 % 256 = Ad.oct a 0 from rfl] | rw [M1.out, show a / 65536 % 256 = Ad.oct a 1 from rfl] | rw [M2.out, show a / 256 % 256 = Ad.oct a 2 from rfl] | rw [M3.out, show a % 256 = Ad.oct a 3 from by simp [Ad.oct]]
        refine (HI.out _ _ (.inr ⟨_, ?_, rfl⟩) (bthen B1.out hbr)).mono ?_
        · decide
        rintro e w2 ⟨rfl, hb2⟩
        have BU2 := hide (builder_below BU.out hb2)
        have hb12 := hide (hbr.trans (hb2.mono hbr.size))
        clear hb2
        go_wp2_with fail
        refine (writeString_any _ _ _ _ _ BU2.out ?_ hb12.out.size).mono ?_
        · rw [Lib.byteCells_length]
          have := HL.out 0
          have := HL.out 1
          have := HL.out 2
          have := HL.out 3
          have := HD.out (Ad.oct a 0)
          have := HD.out (Ad.oct a 1)
          have := HD.out (Ad.oct a 2)
          have := HD.out (Ad.oct a 3)
          simp only [ByteArray.size, List.size_toArray]
          omega
        rintro e w3 ⟨rfl, BU3, hb3⟩
        have hb13 := hide (hb12.out.trans (hb3.mono (Nat.le_refl _)))
        have BU3' := hide BU3
        clear hb3 BU3
        go_wp2_with fail
        refine (writeByte_any _ _ _ _ _ BU3'.out ?_ hb13.out.size).mono ?_
        · rw [List.length_append, Lib.byteCells_length, Lib.strCells_length]
          have := HL.out 0
          have := HL.out 1
          have := HL.out 2
          have := HL.out 3
          have := HD.out (Ad.oct a 0)
          have := HD.out (Ad.oct a 1)
          have := HD.out (Ad.oct a 2)
          have := HD.out (Ad.oct a 3)
          simp only [ByteArray.size, List.size_toArray]
          omega
        rintro e w4 ⟨rfl, BU4, hb4⟩
        have hb14 := hide (hb13.out.trans (hb4.mono (Nat.le_refl _)))
        have BU4' := hide BU4
        clear hb4 BU4
        go_wp2_with fail
        refine ⟨⟨_, ?_, by go_num, hb14.out, ?_⟩, by simp [intOf]⟩
        · decide
        · have := BU4'.out
          simpa [Ad.textTo, Lib.byteCells, Lib.strCells, Ad.mark, Ad.at0, Ad.at1, Ad.at2, Ad.at3] using this
    · have hk4 : k = 4 := by omega
      subst hk4
      go_wp2_with fail
      refine (HI.out _ _ (.inl rfl) (bthen B1.out hbr)).mono ?_
      rintro e w2 ⟨rfl, hb2⟩
      have BU2 := hide (builder_below BU.out hb2)
      have hb12 := hide (hbr.trans (hb2.mono hbr.size))
      clear hb2
      go_wp2_with fail
      refine (writeString_any _ _ _ _ _ BU2.out ?_ hb12.out.size).mono ?_
      · rw [Lib.byteCells_length]
        have := HL.out 4
        have := HD.out b
        simp only [ByteArray.size, List.size_toArray]
        omega
      rintro e w3 ⟨rfl, BU3, hb3⟩
      have hb13 := hide (hb12.out.trans (hb3.mono (Nat.le_refl _)))
      have BU3' : Hid (Lib.IsBuilder 70 5 w1.heap.size w1.heap.size (Lib.byteCells (Ad.text dg a b)) w3) := by
        simpa [Ad.text, Lib.byteCells, Lib.strCells, Hid] using BU3
      clear hb3 BU3
      go_wp2_with fail
      refine (Tryd.Builder_String_any _ _ _ _ BU3'.out hb13.out.size).mono ?_
      rintro e w4 ⟨rfl, hb4⟩
      have hb14 := hide (hb13.out.trans (hb4.mono (Nat.le_refl _)))
      clear hb4
      go_wp2_with fail
      go_ret
      exact ⟨rfl, bthen B1.out hb14.out⟩
end Go.Proofs.YtkpoanjcalolkaaDoor
