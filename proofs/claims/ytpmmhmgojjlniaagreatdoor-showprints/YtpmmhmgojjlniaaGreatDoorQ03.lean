/- The contracts of strings.Builder's WriteByte and WriteString over this translation. -/
import Derived.Test.YtpmmhmgojjlniaaGreatDoorQ02
import Derived.Test.YtpmmhmgojjlniaaGreatDoorProg
import Derived.WalkKit
import Derived.WalkSpells
import Derived.WalkLawsBesides
import Derived.Lib.Builder
import Derived.Lib.AppendStr
import Derived.Lib.UnsafeStr
import Derived.Laws.Externs
import Derived.Laws.IdiomCopy
import Derived.Lib.IndexLaws
import Derived.Lib.IndexBytes
import Derived.Deep.QuietTactic
import Derived.BigQuiet
import Derived.Lib.QuietBelow
import Derived.Deep.Cut
import Derived.RegionTactic
import Derived.Laws.StructEq
import Derived.Sort.Grow
import Derived.Deep.RegionHeldLaw
import Derived.Lib.ItoaLen
import Derived.Lib.AppendIntMem
import Derived.Laws.IdiomStrings
import Derived.Laws.Concat
import Derived.Lib.Join
namespace Go.Proofs.YtpmmhmgojjlniaaGreatDoor.Ax
open Go.RowKit
theorem infoByte : (Tryz.prog.info? 5).map (fun i => (i.zero, i.size, i.bytes)) = some (some (.int .u8 0), 1, 1) := by kernel_rfl

theorem block_lt {w : World} {b : Nat} {o : Obj} (h : w.heap[b]? = some o) : b < w.heap.size := by
  rcases Nat.lt_or_ge b w.heap.size with h' | h'
  · exact h'
  · simp [Array.getElem?_eq_none h'] at h

end Go.Proofs.YtpmmhmgojjlniaaGreatDoor.Ax
namespace Go.Proofs.YtpmmhmgojjlniaaGreatDoor.Ax
open Go.RowKit
/-- The number of eight bits at place j of an address, the highest first. -/
def Ad.oct (a : Int) (j : Nat) : Int := a / 2 ^ (24 - 8 * j) % 256
/-- The mark behind number j. -/
def Ad.mark (j : Nat) : UInt8 := if j = 3 then 47 else 46
/-- The first k numbers of an address, with their marks. -/
def Ad.textTo (dg : Int → List UInt8) (a : Int) : Nat → List UInt8
  | 0 => []
  | k + 1 => Ad.textTo dg a k ++ dg (Ad.oct a k) ++ [Ad.mark k]
def Ad.text (dg : Int → List UInt8) (a b : Int) : List UInt8 := Ad.textTo dg a 4 ++ dg b

theorem Ad.mask (x : Int) (h0 : 0 ≤ x) (h1 : x ≤ 4294967295) : wrap64 (bits .and .u32 x 255) = x % 256 := by
  have := u32_and x 255 h0 (by omega) (by decide) (by decide)
  rw [this]
  have e : x.toNat &&& (255 : Int).toNat = x.toNat % 256 := nat_mask8 x.toNat
  rw [e]
  have : ((x.toNat % 256 : Nat) : Int) = x % 256 := by omega
  rw [this]
  unfold wrap64
  omega

theorem Ad.at0 : (⟨#[46, 46, 46, 47]⟩ : ByteArray)[0]'(by decide) = 46 := rfl
theorem Ad.at1 : (⟨#[46, 46, 46, 47]⟩ : ByteArray)[1]'(by decide) = 46 := rfl
theorem Ad.at2 : (⟨#[46, 46, 46, 47]⟩ : ByteArray)[2]'(by decide) = 46 := rfl
theorem Ad.at3 : (⟨#[46, 46, 46, 47]⟩ : ByteArray)[3]'(by decide) = 47 := rfl

theorem Ad.textTo_len (dg : Int → List UInt8) (hdg : ∀ n, (dg n).length ≤ 100) (a : Int) : ∀ k, (Ad.textTo dg a k).length ≤ 101 * k
  | 0 => by simp [Ad.textTo]
  | k + 1 => by
    have := Ad.textTo_len dg hdg a k
    have := hdg (Ad.oct a k)
    simp [Ad.textTo]
    omega

end Go.Proofs.YtpmmhmgojjlniaaGreatDoor.Ax
namespace Go.Proofs.YtpmmhmgojjlniaaGreatDoor.Ax
open Go.RowKit
/-- A rule: its prefix, from, to, and whether it lets. -/
abbrev Ad.R : Type := Int × Int × Int × Int × Bool
def Ad.rmay (r : Ad.R) : Bool := Ad.may r.1 r.2.1 && decide (r.2.1 ≤ r.2.2.1) && decide (r.2.2.1 ≤ r.2.2.2.1) && decide (r.2.2.2.1 ≤ 32)
def Ad.rwhy (l : List Ad.R) : Int := if 16 < l.length then 2 else if l.all Ad.rmay = true then 0 else 1
/-- A rule's five cells. -/
def Ad.encR (r : Ad.R) : List Value := [.int .u32 r.1, .int .i64 r.2.1, .int .i64 r.2.2.1, .int .i64 r.2.2.2.1, .bool r.2.2.2.2]

set_option maxHeartbeats 1000000 in
theorem rmay_any (a b g l : Int) (p : Bool) (w : World) (ha : 0 ≤ a) (ha2 : a ≤ 4294967295) :
    Calls Tryz.prog 145 #[.agg #[.int .u32 a, .int .i64 b, .int .i64 g, .int .i64 l, .bool p]] w fun e w' => e = .returned (.bool (Ad.rmay (a, b, g, l, p))) ∧ Below w.heap.size w w' := by
  cases hm : Ad.may a b
  · go_enter Tryz.func145, Tryz.ntmps145
    go_wp2_with fail
    refine (may_is _ _ _ hm _ ha ha2).mono ?_
    rintro e w1 ⟨rfl, hb1⟩
    go_wp2_with fail
    go_ret
    exact ⟨ret_bool (by simp [Ad.rmay, hm]), bthen (balloc (brefl w) _) hb1⟩
  · by_cases h1 : b ≤ g
    · by_cases h2 : g ≤ l
      · go_enter Tryz.func145, Tryz.ntmps145
        go_wp2_with fail
        refine (may_is _ _ _ hm _ ha ha2).mono ?_
        rintro e w1 ⟨rfl, hb1⟩
        obtain ⟨hc1, hf1⟩ := bcell hb1
        go_wp2_with fail
        go_ret
        exact ⟨ret_bool (by simp [Ad.rmay, hm]; omega), bthen (balloc (brefl w) _) hb1⟩
      · have hd : decide (g ≤ l) = false := by simpa using h2
        go_enter Tryz.func145, Tryz.ntmps145
        go_wp2_with fail
        refine (may_is _ _ _ hm _ ha ha2).mono ?_
        rintro e w1 ⟨rfl, hb1⟩
        obtain ⟨hc1, hf1⟩ := bcell hb1
        go_wp2_with fail
        go_ret
        exact ⟨ret_bool (by simp [Ad.rmay, hm]; omega), bthen (balloc (brefl w) _) hb1⟩
    · have hd : decide (b ≤ g) = false := by simpa using h1
      go_enter Tryz.func145, Tryz.ntmps145
      go_wp2_with fail
      refine (may_is _ _ _ hm _ ha ha2).mono ?_
      rintro e w1 ⟨rfl, hb1⟩
      obtain ⟨hc1, hf1⟩ := bcell hb1
      go_wp2_with fail
      go_ret
      exact ⟨ret_bool (by simp [Ad.rmay, hm]; omega), bthen (balloc (brefl w) _) hb1⟩

theorem rmay_is (a b g l : Int) (p r : Bool) (h : Ad.rmay (a, b, g, l, p) = r) (w : World) (ha : 0 ≤ a) (ha2 : a ≤ 4294967295) :
    Calls Tryz.prog 145 #[.agg #[.int .u32 a, .int .i64 b, .int .i64 g, .int .i64 l, .bool p]] w fun e w' => e = .returned (.bool r) ∧ Below w.heap.size w w' := by
  rw [← h]; exact rmay_any a b g l p w ha ha2

def Ad.cellsR (l : List Ad.R) : List Value := l.flatMap Ad.encR
def Ad.fitsR (l : List Ad.R) : Prop := ∀ x ∈ l, 0 ≤ x.1 ∧ x.1 ≤ 4294967295
def Ad.readsR (w : World) (b off : Nat) (l : List Ad.R) : Prop := ∀ j u, (Ad.cellsR l)[j]? = some u → w.cell? ⟨b, off + j, none⟩ = some u

theorem Ad.cellsR_get (l : List Ad.R) (i j : Nat) (h : i < l.length) (hj : j < 5) : (Ad.cellsR l)[i * 5 + j]? = (Ad.encR l[i])[j]? := by
  induction l generalizing i with
  | nil => simp at h
  | cons x l ih =>
    cases i with
    | zero =>
      simp only [Ad.cellsR, List.flatMap_cons, Nat.zero_mul, Nat.zero_add, List.getElem_cons_zero]
      rw [List.getElem?_append_left (by simp [Ad.encR]; omega)]
    | succ i =>
      have := ih i (by simpa using h)
      simp only [Ad.cellsR, List.flatMap_cons, List.getElem_cons_succ] at *
      rw [List.getElem?_append_right (by simp [Ad.encR]; omega)]
      rw [← this]
      congr 1
      simp [Ad.encR]; omega

theorem Ad.readsR_at {w : World} {b off : Nat} {l : List Ad.R} (h : Ad.readsR w b off l) (i : Nat) (hi : i < l.length) :
    w.cell? ⟨b, off + i * 5, none⟩ = some (.int .u32 l[i].1) ∧ w.cell? ⟨b, off + i * 5 + 1, none⟩ = some (.int .i64 l[i].2.1) ∧ w.cell? ⟨b, off + i * 5 + 2, none⟩ = some (.int .i64 l[i].2.2.1) ∧ w.cell? ⟨b, off + i * 5 + 3, none⟩ = some (.int .i64 l[i].2.2.2.1) ∧ w.cell? ⟨b, off + i * 5 + 4, none⟩ = some (.bool l[i].2.2.2.2) := by
  have g := fun j hj => Ad.cellsR_get l i j hi hj
  have k := fun j u hj (hu : (Ad.encR l[i])[j]? = some u) => h (i * 5 + j) u ((g j hj).trans hu)
  refine ⟨k 0 _ (by decide) rfl, ?_, ?_, ?_, ?_⟩
  · rw [Nat.add_assoc]; exact k 1 _ (by decide) rfl
  · rw [Nat.add_assoc]; exact k 2 _ (by decide) rfl
  · rw [Nat.add_assoc]; exact k 3 _ (by decide) rfl
  · rw [Nat.add_assoc]; exact k 4 _ (by decide) rfl

theorem Ad.readsR_below {w w' : World} {b off : Nat} {l : List Ad.R} (h : Ad.readsR w b off l) (hb : Below w.heap.size w w') : Ad.readsR w' b off l := by
  intro j u hu
  have := h j u hu
  rw [hb.cell (p := ⟨b, off + j, none⟩) (block_lt_of_cell this)]
  exact this

/-- A slice at which a list of rules lies: nil has none. -/
def Ad.slotR (w : World) (ao : Option Addr) (l : List Ad.R) : Prop := l = [] ∨ ∃ b off, ao = some ⟨b, off, none⟩ ∧ Ad.readsR w b off l

theorem Ad.slotR_at {w : World} {ao : Option Addr} {l : List Ad.R} (h : Ad.slotR w ao l) {k : Nat} (hk : k < l.length) : ∃ b off, ao = some ⟨b, off, none⟩ ∧ Ad.readsR w b off l := by
  rcases h with h | h
  · rw [h] at hk; simp at hk
  · exact h

theorem Ad.rwhy_ok (l : List Ad.R) (h : l.length ≤ 16) (ha : ∀ j (hj : j < l.length), Ad.rmay l[j] = true) : Ad.rwhy l = 0 := by
  have hn : l.all Ad.rmay = true := by
    rw [List.all_eq_true]
    intro x hx
    obtain ⟨j, hj, rfl⟩ := List.getElem_of_mem hx
    exact ha j hj
  rw [Ad.rwhy, if_neg (by omega), if_pos hn]

theorem Ad.rwhy_bad (l : List Ad.R) (h : l.length ≤ 16) (k : Nat) (hk : k < l.length) (ha : Ad.rmay l[k] = false) : Ad.rwhy l = 1 := by
  have hn : l.all Ad.rmay = false := by
    rw [List.all_eq_false]
    exact ⟨l[k], List.getElem_mem hk, by simp [ha]⟩
  rw [Ad.rwhy, if_neg (by omega), if_neg (by rw [hn]; decide)]

end Go.Proofs.YtpmmhmgojjlniaaGreatDoor.Ax
namespace Go.Proofs.YtpmmhmgojjlniaaGreatDoor.Ax
open Go.RowKit
def Ad.cutX (a b : Int) : Int := bits BinOp.andNot IntKind.u32 a (4294967295 / 2 ^ b.toNat)
def Ad.mayX (a b : Int) : Bool := decide (0 ≤ b) && decide (b ≤ 32) && decide (Ad.cutX a b = a)
def Ad.rmayX (r : Ad.R) : Bool := Ad.mayX r.1 r.2.1 && decide (r.2.1 ≤ r.2.2.1) && decide (r.2.2.1 ≤ r.2.2.2.1) && decide (r.2.2.2.1 ≤ 32)
def Ad.rwhyX (l : List Ad.R) : Int := if 16 < l.length then 2 else if l.all Ad.rmayX = true then 0 else 1
set_option maxHeartbeats 400000 in
theorem cutX_any (a b : Int) (w : World) (hb : 0 ≤ b) (hb2 : b ≤ 32) :
    Calls Tryz.prog 159 #[.int .u32 a, .int .i64 b] w fun e w' => e = .returned (.int .u32 (Ad.cutX a b)) ∧ w' = w := by
  go_enter Tryz.func159, Tryz.ntmps159
  go_wp2
  go_ret
  exact ⟨ret_int rfl, rfl⟩

set_option maxHeartbeats 400000 in
theorem mayX_any (a b : Int) (w : World) :
    Calls Tryz.prog 85 #[.agg #[.int .u32 a, .int .i64 b]] w fun e w' => e = .returned (.bool (Ad.mayX a b)) ∧ Below w.heap.size w w' := by
  by_cases h0 : 0 ≤ b
  · by_cases h1 : b ≤ 32
    · go_enter Tryz.func85, Tryz.ntmps85
      go_wp2
      go_quiet ((go_at_call 159; exact Calls.quiet_of_same (cutX_any _ _ _ (by omega) (by omega))))
      go_wp2
      go_ret
      exact ⟨ret_bool (by simp [Ad.mayX, h0, h1, Bool.beq_eq_decide_eq]), below_drewN ((Below.refl _ _).alloc (Nat.le_refl _) _) _⟩
    · have hd : decide (b ≤ 32) = false := by simpa using h1
      go_enter Tryz.func85, Tryz.ntmps85
      go_wp2
      go_quiet (fail)
      go_wp2
      go_ret
      exact ⟨ret_bool (by simp [Ad.mayX]; omega), below_drewN ((Below.refl _ _).alloc (Nat.le_refl _) _) _⟩
  · have hd : decide (0 ≤ b) = false := by simpa using h0
    go_enter Tryz.func85, Tryz.ntmps85
    go_wp2
    go_quiet (fail)
    go_wp2
    go_ret
    exact ⟨ret_bool (by simp [Ad.mayX]; omega), below_drewN ((Below.refl _ _).alloc (Nat.le_refl _) _) _⟩

theorem mayX_is (a b : Int) (r : Bool) (h : Ad.mayX a b = r) (w : World) :
    Calls Tryz.prog 85 #[.agg #[.int .u32 a, .int .i64 b]] w fun e w' => e = .returned (.bool r) ∧ Below w.heap.size w w' := by
  rw [← h]; exact mayX_any a b w

set_option maxHeartbeats 1000000 in
theorem rmayX_any (a b g l : Int) (p : Bool) (w : World) :
    Calls Tryz.prog 145 #[.agg #[.int .u32 a, .int .i64 b, .int .i64 g, .int .i64 l, .bool p]] w fun e w' => e = .returned (.bool (Ad.rmayX (a, b, g, l, p))) ∧ Below w.heap.size w w' := by
  cases hm : Ad.mayX a b
  · go_enter Tryz.func145, Tryz.ntmps145
    go_wp2_with fail
    refine (mayX_is _ _ _ hm _).mono ?_
    rintro e w1 ⟨rfl, hb1⟩
    go_wp2_with fail
    go_ret
    exact ⟨ret_bool (by simp [Ad.rmayX, hm]), bthen (balloc (brefl w) _) hb1⟩
  · by_cases h1 : b ≤ g
    · by_cases h2 : g ≤ l
      · go_enter Tryz.func145, Tryz.ntmps145
        go_wp2_with fail
        refine (mayX_is _ _ _ hm _).mono ?_
        rintro e w1 ⟨rfl, hb1⟩
        obtain ⟨hc1, hf1⟩ := bcell hb1
        go_wp2_with fail
        go_ret
        exact ⟨ret_bool (by simp [Ad.rmayX, hm]; omega), bthen (balloc (brefl w) _) hb1⟩
      · have hd : decide (g ≤ l) = false := by simpa using h2
        go_enter Tryz.func145, Tryz.ntmps145
        go_wp2_with fail
        refine (mayX_is _ _ _ hm _).mono ?_
        rintro e w1 ⟨rfl, hb1⟩
        obtain ⟨hc1, hf1⟩ := bcell hb1
        go_wp2_with fail
        go_ret
        exact ⟨ret_bool (by simp [Ad.rmayX, hm]; omega), bthen (balloc (brefl w) _) hb1⟩
    · have hd : decide (b ≤ g) = false := by simpa using h1
      go_enter Tryz.func145, Tryz.ntmps145
      go_wp2_with fail
      refine (mayX_is _ _ _ hm _).mono ?_
      rintro e w1 ⟨rfl, hb1⟩
      obtain ⟨hc1, hf1⟩ := bcell hb1
      go_wp2_with fail
      go_ret
      exact ⟨ret_bool (by simp [Ad.rmayX, hm]; omega), bthen (balloc (brefl w) _) hb1⟩

theorem rmayX_is (a b g l : Int) (p r : Bool) (h : Ad.rmayX (a, b, g, l, p) = r) (w : World) :
    Calls Tryz.prog 145 #[.agg #[.int .u32 a, .int .i64 b, .int .i64 g, .int .i64 l, .bool p]] w fun e w' => e = .returned (.bool r) ∧ Below w.heap.size w w' := by
  rw [← h]; exact rmayX_any a b g l p w

theorem Ad.rwhyX_ok (l : List Ad.R) (h : l.length ≤ 16) (ha : ∀ j (hj : j < l.length), Ad.rmayX l[j] = true) : Ad.rwhyX l = 0 := by
  have hn : l.all Ad.rmayX = true := by
    rw [List.all_eq_true]
    intro x hx
    obtain ⟨j, hj, rfl⟩ := List.getElem_of_mem hx
    exact ha j hj
  rw [Ad.rwhyX, if_neg (by omega), if_pos hn]

theorem Ad.rwhyX_bad (l : List Ad.R) (h : l.length ≤ 16) (k : Nat) (hk : k < l.length) (ha : Ad.rmayX l[k] = false) : Ad.rwhyX l = 1 := by
  have hn : l.all Ad.rmayX = false := by
    rw [List.all_eq_false]
    exact ⟨l[k], List.getElem_mem hk, by simp [ha]⟩
  rw [Ad.rwhyX, if_neg (by omega), if_neg (by rw [hn]; decide)]

set_option maxHeartbeats 1000000 in
theorem pmayX_row (ao : Option Addr) (cap : Nat) (l : List Ad.R) (w : World) (hR : Ad.slotR w ao l) (hlen : l.length ≤ 16) :
    Calls Tryz.prog 73 #[.slice ao l.length cap] w fun e w' => e = .returned (.int .i64 (Ad.rwhyX l)) ∧ Below w.heap.size w w' := by
  have HR := hide hR
  clear hR
  have hgt : ¬ (16 : Int) < (l.length : Int) := by omega
  go_enter Tryz.func73, Tryz.ntmps73
  go_wp2_with fail
  go_loopw [10] (fun i wr => ∃ k : Nat, k ≤ l.length ∧ i = .int .i64 k ∧ (∀ j (hj : j < l.length), j < k → Ad.rmayX l[j] = true) ∧ Below w.heap.size w wr) (fun i _ => l.length - (intOf i).toNat)
  case atStart => exact ⟨0, Nat.zero_le _, rfl, fun j _ hj => absurd hj (Nat.not_lt_zero _), brefl w⟩
  case round =>
    obtain ⟨k, hk, rfl, hall, hbr⟩ := hrel
    have HALL := hide hall
    clear hall
    by_cases hlt : k < l.length
    · obtain ⟨b, off, rfl, hrd⟩ := Ad.slotR_at HR.out hlt
      obtain ⟨e0, e1, e2, e3, e4⟩ := Ad.readsR_at (Ad.readsR_below hrd hbr) k hlt
      clear hrd
      generalize hxx : l[k] = x at *
      obtain ⟨a, d, g, t, p⟩ := x
      have HX := hide hxx
      clear hxx
      cases hm : Ad.rmayX (a, d, g, t, p)
      · go_wp2_with fail
        refine (rmayX_is _ _ _ _ _ _ hm _).mono ?_
        rintro e w1 ⟨rfl, hb1⟩
        go_wp2_with fail
        go_ret
        exact ⟨ret_int (Ad.rwhyX_bad l hlen k hlt (by rw [HX.out]; exact hm)).symm, bthen (balloc hbr _) hb1⟩
      · go_wp2_with fail
        refine (rmayX_is _ _ _ _ _ _ hm _).mono ?_
        rintro e w1 ⟨rfl, hb1⟩
        go_wp2_with fail
        refine ⟨⟨k + 1, by omega, by go_num, fun j hj hjk => ?_, bthen (balloc hbr _) hb1⟩, by simp [intOf]; omega⟩
        rcases Nat.lt_succ_iff_lt_or_eq.1 hjk with h1 | rfl
        · exact HALL.out j hj h1
        · rw [HX.out]; exact hm
    · go_wp2_with fail
      go_ret
      exact ⟨ret_int (Ad.rwhyX_ok l hlen fun j hj => HALL.out j hj (by omega)).symm, hbr⟩
end Go.Proofs.YtpmmhmgojjlniaaGreatDoor.Ax
namespace Go.Proofs.YtpmmhmgojjlniaaGreatDoor.Cm
open Go.RowKit Go.Sort
theorem hide {p : Prop} (h : p) : Hid p := h

theorem heap_lt {w : World} {b : Nat} {o : Obj} (h : w.heap[b]? = some o) : b < w.heap.size := by
  rcases Nat.lt_or_ge b w.heap.size with h' | h'
  · exact h'
  · simp [Array.getElem?_eq_none h'] at h

/-- An owned row is owned still behind what leaves all old blocks as they were. -/
theorem row_below {w w' : World} {B e size n : Nat} {v : Value} {xs : List Value} (h : w.ownsRow B e size v n xs) (hb : Below w.heap.size w w') : w'.ownsRow B e size v n xs := by
  obtain ⟨h1, h2⟩ := h
  refine ⟨h1, ?_⟩
  rcases h2 with h2 | ⟨g, cap, cur, hv, hB, hg, r⟩
  · exact .inl h2
  · exact .inr ⟨g, cap, cur, hv, hB, (hb.block g (heap_lt hg)).trans hg, r⟩

theorem ret_int {k : IntKind} {a b : Int} (h : a = b) : Ending.returned (.int k a) = .returned (.int k b) := by rw [h]
theorem ret_bool {a b : Bool} (h : a = b) : Ending.returned (.bool a) = .returned (.bool b) := by rw [h]
theorem bcell {W w1 : World} (hb : Below W.heap.size W w1) : (∀ b o, b < W.heap.size → w1.cell? ⟨b, o, none⟩ = W.cell? ⟨b, o, none⟩) ∧ (∀ b o, b < W.heap.size → w1.frozen? ⟨b, o, none⟩ = W.frozen? ⟨b, o, none⟩) :=
  ⟨fun b o h => hb.cell (p := ⟨b, o, none⟩) h, fun b o h => hb.frozen (p := ⟨b, o, none⟩) h⟩
theorem bthen {w W w1 : World} (h : Below w.heap.size w W) (hb : Below W.heap.size W w1) : Below w.heap.size w w1 := h.trans (hb.mono h.size)
theorem balloc {w W : World} (h : Below w.heap.size w W) (o : Obj) : Below w.heap.size w (W.alloc o) := h.alloc h.size o
theorem brefl (w : World) : Below w.heap.size w w := Below.refl _ _
theorem bset {w W : World} (h : Below w.heap.size w W) {p : Addr} (hp : w.heap.size ≤ p.block) (u : Value) : Below w.heap.size w (W.setCell p u) := h.setCell hp u

/-- Some draws on, some blocks behind. -/
def Grows (w w' : World) : Prop := ∃ q os, w' = grow (w.drewN q) os
theorem Grows.refl (w : World) : Grows w w := ⟨0, #[], by rw [grow_empty]; rfl⟩
theorem Grows.trans {a b c : World} (h : Grows a b) (k : Grows b c) : Grows a c := by
  obtain ⟨q, os, rfl⟩ := h
  obtain ⟨q', os', rfl⟩ := k
  refine ⟨q + q', os ++ os', ?_⟩
  rw [← grow_grow, ← World.drewN_drewN]
  rfl
theorem Grows.alloc {a b : World} (h : Grows a b) (o : Obj) : Grows a (b.alloc o) := h.trans ⟨0, #[o], rfl⟩
theorem Grows.below {a b : World} (h : Grows a b) : Below a.heap.size a b := by
  obtain ⟨q, os, rfl⟩ := h
  exact ⟨rfl, rfl, rfl, by simp [grow], fun k hk => by simp [grow, Array.getElem?_append, hk]⟩

/-- A community's two cells read there. -/
def Two (w : World) (n : Nat) (a b : Int) : Prop := w.cell? ⟨n, 0, none⟩ = some (.int .i64 a) ∧ w.cell? ⟨n, 1, none⟩ = some (.int .i64 b) ∧ n < w.heap.size ∧ n < w.heap.size + 1
theorem two_of {W : World} {n : Nat} {a b : Int} (h0 : W.cell? ⟨n, 0, none⟩ = some (.int .i64 a)) (h1 : W.cell? ⟨n, 1, none⟩ = some (.int .i64 b)) : Two W n a b :=
  ⟨h0, h1, block_lt_of_cell h0, Nat.lt_succ_of_lt (block_lt_of_cell h0)⟩
theorem two_below {W w1 : World} {n : Nat} {a b : Int} (hb : Below W.heap.size W w1) (h : Two W n a b) : Two w1 n a b :=
  two_of ((hb.cell (p := ⟨n, 0, none⟩) h.2.2.1).trans h.1) ((hb.cell (p := ⟨n, 1, none⟩) h.2.2.1).trans h.2.1)
theorem two_new (W : World) (a b : Int) (t : TypeId) : Two (W.alloc (.cells #[.int .i64 a, .int .i64 b] t)) W.heap.size a b := two_of (by simp) (by simp)

abbrev Co.C : Type := Int × Int
theorem row_slice {w : World} {B e size n : Nat} {v : Value} {xs : List Value} (h : w.ownsRow B e size v n xs) : ∃ ao cap, v = .slice ao n cap := by
  rcases h.2 with ⟨rfl, rfl⟩ | ⟨g, cap, cur, rfl, _⟩
  · exact ⟨none, 0, rfl⟩
  · exact ⟨_, cap, rfl⟩
theorem guardC : Tryz.prog.eqGuardType Tryz.prog.depth 53 = false := by kernel_rfl
theorem eqC (a b c d : Int) (w : World) : (binOp .eql 53 (.agg #[.int .i64 a, .int .i64 b]) (.agg #[.int .i64 c, .int .i64 d])).run Tryz.prog w = .ok (.bool (a == c && b == d)) w := by
  have u3 := Tryz.underlying3
  have a3 := Tryz.isAgg3
  have z3 := Tryz.sizeOf3
  have hS : Tryz.prog.underlying 53 = some (.struct (Tryz.prog.fieldsOf 53)) := by kernel_rfl
  have hp : Tryz.prog.stoodInHeld 53 = false := by kernel_rfl
  rw [run_eql_struct, show (10000 : Nat) = 9999 + 1 from rfl, run_equalIn_agg w 9999 53 _ _ hS hp]
  simp only [Program.fieldsOf, Tryz.underlying53]
  go_simp
  by_cases h1 : a = c <;> by_cases h2 : b = d <;> simp [h1, h2]
end Go.Proofs.YtpmmhmgojjlniaaGreatDoor.Cm
namespace Go.Proofs.YtpmmhmgojjlniaaGreatDoor.Cm
open Go.RowKit Go.Sort
def Co.may (c : Co.C) : Bool := decide (1 ≤ c.1 ∧ c.1 ≤ 65535 ∧ 0 ≤ c.2 ∧ c.2 ≤ 65535)
theorem may_any (a b : Int) (w : World) : Calls Tryz.prog 215 #[.agg #[.int .i64 a, .int .i64 b]] w fun e w' => e = .returned (.bool (Co.may (a, b))) ∧ Grows w w' := by
  by_cases h0 : 1 ≤ a
  · have h0d : decide (1 ≤ a) = true := by simpa using h0
    by_cases h1 : a ≤ 65535
    · have h1d : decide (a ≤ 65535) = true := by simpa using h1
      by_cases h2 : 0 ≤ b
      · have h2d : decide (0 ≤ b) = true := by simpa using h2
        by_cases h3 : b ≤ 65535
        · have h3d : decide (b ≤ 65535) = true := by simpa using h3
          go_enter Tryz.func215, Tryz.ntmps215
          go_wp2_with fail
          go_ret
          exact ⟨ret_bool (by simp [Co.may]; omega), (Grows.refl w).alloc _⟩
        · have h3d : decide (b ≤ 65535) = false := by simpa using h3
          go_enter Tryz.func215, Tryz.ntmps215
          go_wp2_with fail
          go_ret
          exact ⟨ret_bool (by simp [Co.may]; omega), (Grows.refl w).alloc _⟩
      · have h2d : decide (0 ≤ b) = false := by simpa using h2
        go_enter Tryz.func215, Tryz.ntmps215
        go_wp2_with fail
        go_ret
        exact ⟨ret_bool (by simp [Co.may]; omega), (Grows.refl w).alloc _⟩
    · have h1d : decide (a ≤ 65535) = false := by simpa using h1
      go_enter Tryz.func215, Tryz.ntmps215
      go_wp2_with fail
      go_ret
      exact ⟨ret_bool (by simp [Co.may]; omega), (Grows.refl w).alloc _⟩
  · have h0d : decide (1 ≤ a) = false := by simpa using h0
    go_enter Tryz.func215, Tryz.ntmps215
    go_wp2_with fail
    go_ret
    exact ⟨ret_bool (by simp [Co.may]; omega), (Grows.refl w).alloc _⟩
theorem may_is (a b : Int) (r : Bool) (h : Co.may (a, b) = r) (w : World) : Calls Tryz.prog 215 #[.agg #[.int .i64 a, .int .i64 b]] w fun e w' => e = .returned (.bool r) ∧ Below w.heap.size w w' := by
  subst h
  exact (may_any a b w).mono fun e w' ⟨h1, h2⟩ => ⟨h1, h2.below⟩

end Go.Proofs.YtpmmhmgojjlniaaGreatDoor.Cm
namespace Go.Proofs.YtpmmhmgojjlniaaGreatDoor.Ar
open Go.RowKit Go.Sort
theorem hide {p : Prop} (h : p) : Hid p := h

theorem heap_lt {w : World} {b : Nat} {o : Obj} (h : w.heap[b]? = some o) : b < w.heap.size := by
  rcases Nat.lt_or_ge b w.heap.size with h' | h'
  · exact h'
  · simp [Array.getElem?_eq_none h'] at h

/-- An owned row is owned still behind what leaves all old blocks as they were. -/
theorem row_below {w w' : World} {B e size n : Nat} {v : Value} {xs : List Value} (h : w.ownsRow B e size v n xs) (hb : Below w.heap.size w w') : w'.ownsRow B e size v n xs := by
  obtain ⟨h1, h2⟩ := h
  refine ⟨h1, ?_⟩
  rcases h2 with h2 | ⟨g, cap, cur, hv, hB, hg, r⟩
  · exact .inl h2
  · exact .inr ⟨g, cap, cur, hv, hB, (hb.block g (heap_lt hg)).trans hg, r⟩

theorem ret_int {k : IntKind} {a b : Int} (h : a = b) : Ending.returned (.int k a) = .returned (.int k b) := by rw [h]
theorem ret_bool {a b : Bool} (h : a = b) : Ending.returned (.bool a) = .returned (.bool b) := by rw [h]
theorem bcell {W w1 : World} (hb : Below W.heap.size W w1) : (∀ b o, b < W.heap.size → w1.cell? ⟨b, o, none⟩ = W.cell? ⟨b, o, none⟩) ∧ (∀ b o, b < W.heap.size → w1.frozen? ⟨b, o, none⟩ = W.frozen? ⟨b, o, none⟩) :=
  ⟨fun b o h => hb.cell (p := ⟨b, o, none⟩) h, fun b o h => hb.frozen (p := ⟨b, o, none⟩) h⟩
theorem bthen {w W w1 : World} (h : Below w.heap.size w W) (hb : Below W.heap.size W w1) : Below w.heap.size w w1 := h.trans (hb.mono h.size)
theorem balloc {w W : World} (h : Below w.heap.size w W) (o : Obj) : Below w.heap.size w (W.alloc o) := h.alloc h.size o
theorem brefl (w : World) : Below w.heap.size w w := Below.refl _ _
theorem bset {w W : World} (h : Below w.heap.size w W) {p : Addr} (hp : w.heap.size ≤ p.block) (u : Value) : Below w.heap.size w (W.setCell p u) := h.setCell hp u

/-- Some draws on, some blocks behind. -/
def Grows (w w' : World) : Prop := ∃ q os, w' = grow (w.drewN q) os
theorem Grows.refl (w : World) : Grows w w := ⟨0, #[], by rw [grow_empty]; rfl⟩
theorem Grows.trans {a b c : World} (h : Grows a b) (k : Grows b c) : Grows a c := by
  obtain ⟨q, os, rfl⟩ := h
  obtain ⟨q', os', rfl⟩ := k
  refine ⟨q + q', os ++ os', ?_⟩
  rw [← grow_grow, ← World.drewN_drewN]
  rfl
theorem Grows.alloc {a b : World} (h : Grows a b) (o : Obj) : Grows a (b.alloc o) := h.trans ⟨0, #[o], rfl⟩
theorem Grows.below {a b : World} (h : Grows a b) : Below a.heap.size a b := by
  obtain ⟨q, os, rfl⟩ := h
  exact ⟨rfl, rfl, rfl, by simp [grow], fun k hk => by simp [grow, Array.getElem?_append, hk]⟩

/-- A run's two cells read there. -/
def Two (w : World) (n : Nat) (a b : Int) : Prop := w.cell? ⟨n, 0, none⟩ = some (.int .i64 a) ∧ w.cell? ⟨n, 1, none⟩ = some (.int .i64 b) ∧ n < w.heap.size ∧ n < w.heap.size + 1
theorem two_of {W : World} {n : Nat} {a b : Int} (h0 : W.cell? ⟨n, 0, none⟩ = some (.int .i64 a)) (h1 : W.cell? ⟨n, 1, none⟩ = some (.int .i64 b)) : Two W n a b :=
  ⟨h0, h1, block_lt_of_cell h0, Nat.lt_succ_of_lt (block_lt_of_cell h0)⟩
theorem two_below {W w1 : World} {n : Nat} {a b : Int} (hb : Below W.heap.size W w1) (h : Two W n a b) : Two w1 n a b :=
  two_of ((hb.cell (p := ⟨n, 0, none⟩) h.2.2.1).trans h.1) ((hb.cell (p := ⟨n, 1, none⟩) h.2.2.1).trans h.2.1)
theorem two_new (W : World) (a b : Int) (t : TypeId) : Two (W.alloc (.cells #[.int .i64 a, .int .i64 b] t)) W.heap.size a b := two_of (by simp) (by simp)

theorem row_slice {w : World} {B e size n : Nat} {v : Value} {xs : List Value} (h : w.ownsRow B e size v n xs) : ∃ ao cap, v = .slice ao n cap := by
  rcases h.2 with ⟨rfl, rfl⟩ | ⟨g, cap, cur, rfl, _⟩
  · exact ⟨none, 0, rfl⟩
  · exact ⟨_, cap, rfl⟩
/-- Numbers' cells. -/
def Is.cells (l : List Int) : List Value := l.map fun n => .int .i64 n
def Is.reads (w : World) (b off : Nat) (l : List Int) : Prop := ∀ j (h : j < l.length), w.cell? ⟨b, off + j, none⟩ = some (.int .i64 l[j])
/-- A slice at which numbers lie: nil has none. -/
def Is.slot (w : World) (ao : Option Addr) (l : List Int) : Prop := l = [] ∨ ∃ b off, ao = some ⟨b, off, none⟩ ∧ Is.reads w b off l
theorem Is.cells_length (l : List Int) : (Is.cells l).length = l.length := by simp [Is.cells]
theorem Is.cells_app (x y : List Int) : Is.cells (x ++ y) = Is.cells x ++ Is.cells y := by simp [Is.cells]
theorem Is.cells_one (l : List Int) : ∀ u ∈ Is.cells l, u.oneCell' = true := by
  intro u hu
  simp only [Is.cells, List.mem_map] at hu
  obtain ⟨x, _, rfl⟩ := hu
  rfl
theorem Is.reads_below {w w' : World} {b off : Nat} {l : List Int} (h : Is.reads w b off l) (hb : Below w.heap.size w w') : Is.reads w' b off l := by
  intro j hj
  have := h j hj
  rw [hb.cell (p := ⟨b, off + j, none⟩) (block_lt_of_cell this)]
  exact this
theorem Is.slot_at {w : World} {ao : Option Addr} {l : List Int} (h : Is.slot w ao l) {k : Nat} (hk : k < l.length) : ∃ b off, ao = some ⟨b, off, none⟩ ∧ Is.reads w b off l := by
  rcases h with h | h
  · rw [h] at hk; simp at hk
  · exact h
/-- A number of an AS. -/
def Is.as (n : Int) : Bool := decide (0 < n) && decide (n < 65536)
theorem Is.as_iff (n : Int) : Is.as n = true ↔ 0 < n ∧ n < 65536 := by simp [Is.as]
theorem Is.as_not (n : Int) : Is.as n = false ↔ n ≤ 0 ∨ 65536 ≤ n := by
  rw [← Bool.not_eq_true, Is.as_iff]; omega
def Is.may (l : List Int) : Bool := decide (l.length ≤ 16) && l.all Is.as
theorem Is.may_iff (l : List Int) : Is.may l = true ↔ l.length ≤ 16 ∧ ∀ j (h : j < l.length), Is.as l[j] = true := by
  rw [Is.may, Bool.and_eq_true, decide_eq_true_iff, List.all_eq_true]
  constructor
  · exact fun h => ⟨h.1, fun j hj => h.2 _ (List.getElem_mem hj)⟩
  · intro h
    refine ⟨h.1, fun x hx => ?_⟩
    obtain ⟨j, hj, rfl⟩ := List.getElem_of_mem hx
    exact h.2 j hj

end Go.Proofs.YtpmmhmgojjlniaaGreatDoor.Ar
namespace Go.Proofs.YtpmmhmgojjlniaaGreatDoor.Ar
open Go.RowKit Go.Sort
/-- Two texts joined make a third one. -/
def Adds (x y z : ByteArray) : Prop := ∀ W : World, (Op.stringOp .add x y).run Tryz.prog W = .ok (.string z) W
theorem adds_mk (x y z : ByteArray) (h : x.size + y.size ≤ maxLen) (hz : x ++ y = z) : Adds x y z := by
  intro W
  subst hz
  exact run_string_add_sum W x y h
theorem ba_app (a b : List UInt8) : (⟨a.toArray⟩ : ByteArray) ++ ⟨b.toArray⟩ = ⟨(a ++ b).toArray⟩ := by
  apply ByteArray.ext
  simp [ByteArray.data_append]
theorem adds_list (x y : List UInt8) (h1 : x.length ≤ 100000) (h2 : y.length ≤ 100000) : Adds ⟨x.toArray⟩ ⟨y.toArray⟩ ⟨(x ++ y).toArray⟩ :=
  adds_mk _ _ _ (by show x.toArray.size + y.toArray.size ≤ maxLen; simp; unfold maxLen; omega) (ba_app x y)

theorem one_byte (W : World) (d : Int) (h0 : 0 ≤ d) (h1 : d < 256) : (convert 72 9 (.slice (some ⟨W.heap.size, 0, none⟩) 1 1)).run Tryz.prog (W.alloc (.cells #[.int .u8 d] 5)) = .ok (.string ⟨[UInt8.ofNat d.toNat].toArray⟩) (W.alloc (.cells #[.int .u8 d] 5)) := by
  refine run_convert_bytes_back (W.alloc (.cells #[.int .u8 d] 5)) _ _ _ ⟨W.heap.size, 0, none⟩ 1 [UInt8.ofNat d.toNat] Tryz.underlying72 Tryz.underlying5 Tryz.underlying9 ?_
  intro j hj
  simp at hj
  subst hj
  have e : (((UInt8.ofNat d.toNat).toNat : Nat) : Int) = d := by
    rw [UInt8.toNat_ofNat']
    omega
  simp [Addr.add, go_sem]
  omega

theorem dec_step (u d : Nat) (hd : d < 10) (hu : 0 < u) : Lib.decDigits (10 * u + d) = Lib.decDigits u ++ [UInt8.ofNat (48 + d)] := by
  rw [Lib.decDigits, dif_neg (by omega)]
  have e1 : (10 * u + d) / 10 = u := by omega
  have e2 : (10 * u + d) % 10 = d := by omega
  rw [e1, e2]

theorem itoa_len (n : Int) (h0 : 0 ≤ n) (h1 : n ≤ 65535) : (Lib.itoa n).length ≤ 21 := Lib.itoa_length_le n (by omega) (by omega)
def Is.text (l : List Int) : List UInt8 := if Is.may l = true then Lib.join (l.map Lib.itoa) [32] else []
/-- What stands behind the first k. -/
def Is.joinTo (l : List Int) (k : Nat) : List UInt8 := Lib.join ((l.take k).map Lib.itoa) [32]
theorem Is.joinTo_one (l : List Int) (h : 0 < l.length) : Is.joinTo l 1 = Lib.itoa l[0] := by
  cases l with
  | nil => simp at h
  | cons x r => simp [Is.joinTo, Lib.join_one]
theorem Is.joinTo_succ (l : List Int) (m : Nat) (h : m + 1 < l.length) : Is.joinTo l (m + 1 + 1) = Is.joinTo l (m + 1) ++ [32] ++ Lib.itoa l[m + 1] := by
  cases l with
  | nil => simp at h
  | cons x r =>
    have h' : m < r.length := by simpa using h
    unfold Is.joinTo
    rw [List.take_succ_cons, List.map_cons, Lib.join_cons, List.take_succ_cons, List.map_cons, Lib.join_cons, List.map_take, List.map_take, Lib.joinTail_take_succ [32] (r.map Lib.itoa) m (Lib.itoa r[m]) (by simp [h'])]
    simp [List.append_assoc]
theorem Is.joinTo_len (l : List Int) (hm : Is.may l = true) : ∀ k, k ≤ l.length → (Is.joinTo l k).length ≤ 22 * k
  | 0, _ => by simp [Is.joinTo, Lib.join]
  | 1, h => by
    rw [Is.joinTo_one l h]
    have := (Is.as_iff _).1 (((Is.may_iff l).1 hm).2 0 h)
    have := itoa_len l[0] (by omega) (by omega)
    omega
  | m + 2, h => by
    rw [Is.joinTo_succ l m h]
    have h1 := Is.joinTo_len l hm (m + 1) (by omega)
    have := (Is.as_iff _).1 (((Is.may_iff l).1 hm).2 (m + 1) h)
    have h2 := itoa_len l[m + 1] (by omega) (by omega)
    rw [List.length_append, List.length_append, List.length_singleton]
    omega

end Go.Proofs.YtpmmhmgojjlniaaGreatDoor.Ar
