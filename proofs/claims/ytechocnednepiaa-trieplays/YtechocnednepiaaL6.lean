/- The law's made and lives. -/
import Derived.Test.YtechocnednepiaaL5
namespace Go.Proofs.Ytechocnednepiaa
open Go.RowKit

/-- A step: its kind, its number, its prefix, its address. -/
abbrev Opn := Int × Int × Pf × Int
def Opn.enc (x : Opn) : List Value := [.int .i64 x.1, .int .i64 x.2.1, .int .u32 x.2.2.1.1, .int .i64 x.2.2.1.2, .int .u32 x.2.2.2]
def Opn.reads (w : World) (b off : Nat) (l : List Opn) : Prop := ∀ i (h : i < l.length), w.cell? ⟨b, off + i * 5, none⟩ = some (.int .i64 l[i].1) ∧ w.cell? ⟨b, off + i * 5 + 1, none⟩ = some (.int .i64 l[i].2.1) ∧ w.cell? ⟨b, off + i * 5 + 2, none⟩ = some (.int .u32 l[i].2.2.1.1) ∧ w.cell? ⟨b, off + i * 5 + 3, none⟩ = some (.int .i64 l[i].2.2.1.2) ∧ w.cell? ⟨b, off + i * 5 + 4, none⟩ = some (.int .u32 l[i].2.2.2)
def Opn.rowAt (w : World) (ao : Option Addr) (l : List Opn) : Prop := l = [] ∨ ∃ b off, ao = some ⟨b, off, none⟩ ∧ b < w.heap.size ∧ Opn.reads w b off l
def Opn.fits (l : List Opn) : Prop := ∀ x ∈ l, (0 ≤ x.2.2.1.1 ∧ x.2.2.1.1 ≤ 4294967295) ∧ (0 ≤ x.2.2.2 ∧ x.2.2.2 ≤ 4294967295)
theorem Opn.reads_below {w w' : World} {b off : Nat} {l : List Opn} (h : Opn.reads w b off l) (hl : b < w.heap.size) (hb : Below w.heap.size w w') : Opn.reads w' b off l := by
  intro i hi
  obtain ⟨h0, h1, h2, h3, h4⟩ := h i hi
  exact ⟨(hb.cell (p := ⟨b, off + i * 5, none⟩) hl).trans h0, (hb.cell (p := ⟨b, off + i * 5 + 1, none⟩) hl).trans h1, (hb.cell (p := ⟨b, off + i * 5 + 2, none⟩) hl).trans h2, (hb.cell (p := ⟨b, off + i * 5 + 3, none⟩) hl).trans h3, (hb.cell (p := ⟨b, off + i * 5 + 4, none⟩) hl).trans h4⟩
theorem rowAt_belowO {w w' : World} {ao : Option Addr} {l : List Opn} (h : Opn.rowAt w ao l) (hb : Below w.heap.size w w') : Opn.rowAt w' ao l := by
  rcases h with h | ⟨b, off, h, hl, hr⟩
  · exact .inl h
  · exact .inr ⟨b, off, h, Nat.lt_of_lt_of_le hl hb.size, Opn.reads_below hr hl hb⟩
/-- What made hands back. -/
def Made (w : World) (e : Ending) (w' : World) : Prop :=
  ∃ (T : Nat) (t : Nt) (ao : Option Addr) (cap : Nat) (l : Prs), e = .returned (.tuple #[.pointer (some ⟨T, 0, none⟩), .slice ao l.length cap]) ∧ St w w' T t ao cap l ∧ l.length ≤ 40
theorem st_new (w : World) : St w (w.alloc (.cells #[.pointer none, .int .i64 0] 75)) w.heap.size .nil none 0 [] :=
  ⟨tri_new 75 89 _ w, ⟨.inl rfl, ⟨fun _ => rfl, fun ad e => (by cases e)⟩, Nat.le_refl _⟩, rfl, fun a e => (by cases e), fun k hk => (by simp [Nt.own] at hk; omega), balloc (brefl w) _, by simp⟩
set_option maxHeartbeats 4000000 in
set_option maxRecDepth 100000 in
theorem made_is (ao : Option Addr) (cap : Nat) (os : List Opn) (w : World) (hR : Opn.rowAt w ao os) (hf : Opn.fits os) :
    Calls Try.prog 14 #[.slice ao os.length cap] w (Made w) := by
  have HR := hide hR
  have HF := hide hf
  have HS := hide (st_new w)
  clear hR hf
  go_enter Try.func14, Try.ntmps14
  go_wp2_with fail
  refine (new_is w).mono ?_
  rintro e w1 ⟨rfl, hw1⟩
  rw [← hw1] at HS
  clear hw1
  generalize w.heap.size = T at HS ⊢
  go_wp2_with fail
  go_loopw [5, 6] (fun v5 v6 wr => ∃ (t : Nt) (ao' : Option Addr) (cap' k : Nat) (l : Prs), v5 = .slice ao' l.length cap' ∧ v6 = .int .i64 k ∧ k ≤ os.length ∧ k ≤ 30 ∧ l.length ≤ k ∧ Hid (St w wr T t ao' cap' l)) (fun _ v6 _ => os.length - (intOf v6).toNat)
  case atStart => exact ⟨.nil, none, 0, 0, [], rfl, rfl, Nat.zero_le _, Nat.zero_le _, Nat.zero_le _, HS⟩
  case round =>
    obtain ⟨t, ao', cap', k, l, rfl, rfl, hk, hk3, hl, ST⟩ := hrel
    clear HS
    by_cases hlt : k < os.length
    · by_cases h30 : k < 30
      · have hlt' : (k : Int) < (os.length : Int) := by omega
        have h30' : (k : Int) < 30 := by omega
        obtain ⟨b, off, rfl, hbl, hr⟩ : ∃ b off, ao = some ⟨b, off, none⟩ ∧ b < w.heap.size ∧ Opn.reads w b off os := by
          rcases HR.out with h | h
          · rw [h] at hlt; simp at hlt
          · exact h
        obtain ⟨e0, e1, e2, e3, e4⟩ := Opn.reads_below hr hbl ST.out.below k hlt
        have HFk := hide (HF.out os[k] (List.getElem_mem hlt))
        generalize os[k] = x at *
        obtain ⟨x0, x1, ⟨x2, x3⟩, x4⟩ := x
        have CS := hide (step_is ST.out x0 x1 x4 (x2, x3) HFk.out.1.1 HFk.out.1.2 (by omega))
        clear hr hbl
        go_wp2_with fail
        refine CS.out.mono ?_
        rintro e w2 ⟨t2, ao2, cap2, l2, rfl, hst, hl2⟩
        have HST := hide hst
        clear hst
        go_wp2_with fail
        exact ⟨⟨t2, ao2, cap2, k + 1, l2, rfl, by go_num, by omega, by omega, by omega, HST⟩, by simp [intOf]; omega⟩
      · go_wp2_with fail
        go_ret2
        exact ⟨T, t, ao', cap', l, rfl, ST.out, by omega⟩
    · go_wp2_with fail
      go_ret2
      exact ⟨T, t, ao', cap', l, rfl, ST.out, by omega⟩
end Go.Proofs.Ytechocnednepiaa
