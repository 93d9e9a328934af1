import Derived.Test.YtechocnednepiaaGh
import Derived.Test.YtechocnednepiaaGi
import Derived.Test.YtechocnednepiaaGj
/- The law's asks, joined. -/
namespace Go.Proofs.Ytechocnednepiaa
open Go.RowKit

theorem asks_is {w0 w : World} {T : Nat} {t : Nt} {ao : Option Addr} {cap : Nat} {l : Prs} (hS : St w0 w T t ao cap l) (k v a : Int) (p : Pf) (h0 : 0 ≤ p.1) (h1 : p.1 ≤ 4294967295) (ha0 : 0 ≤ a) (ha1 : a ≤ 4294967295) (hlen : l.length ≤ 1000) :
    Calls Try.prog 12 #[.pointer (some ⟨T, 0, none⟩), .slice ao l.length cap, .agg #[.int .i64 k, .int .i64 v, .int .u32 p.1, .int .i64 p.2, .int .u32 a]] w fun e w' => e = .returned (.bool true) ∧ Below w.heap.size w w' := by
  cases hm : Ad.may p.1 p.2
  · exact asks_1 hS k v a p h0 h1 ha0 ha1 hlen hm
  · cases hpl : (place l p).2
    · exact asks_2 hS k v a p h0 h1 ha0 ha1 hlen hm hpl
    · exact asks_3 hS k v a p h0 h1 ha0 ha1 hlen hm hpl

end Go.Proofs.Ytechocnednepiaa

/- The law TriePlays. -/
namespace Go.Proofs.Ytechocnednepiaa
open Go.RowKit

set_option maxHeartbeats 4000000 in
set_option maxRecDepth 100000 in
theorem law_plays (ao : Option Addr) (cap : Nat) (os : List Opn) (w : World) (hR : Opn.rowAt w ao os) (hf : Opn.fits os) :
    Calls Try.prog 3 #[.slice ao os.length cap] w fun e w' => e = .returned (.bool true) ∧ Below w.heap.size w w' := by
  have HR := hide hR
  have HF := hide hf
  have HS := hide (st_new w)
  clear hR hf
  go_enter Try.func3, Try.ntmps3
  go_wp2_with fail
  refine (new_is w).mono ?_
  rintro e w1 ⟨rfl, hw1⟩
  rw [← hw1] at HS
  clear hw1
  generalize hT : w.heap.size = T at HS ⊢
  have HT := hide hT
  clear hT
  go_wp2_with fail
  go_loopw [4, 5] (fun v4 v5 wr => ∃ (t : Nt) (ao' : Option Addr) (cap' k : Nat) (l : Prs), v4 = .slice ao' l.length cap' ∧ v5 = .int .i64 k ∧ k ≤ os.length ∧ k ≤ 40 ∧ l.length ≤ k ∧ Hid (St w wr T t ao' cap' l)) (fun _ v5 _ => os.length - (intOf v5).toNat)
  case atStart => exact ⟨.nil, none, 0, 0, [], rfl, rfl, Nat.zero_le _, Nat.zero_le _, Nat.zero_le _, HS⟩
  case round =>
    obtain ⟨t, ao', cap', k, l, rfl, rfl, hk, hk3, hl, ST⟩ := hrel
    clear HS
    by_cases hlt : k < os.length
    · by_cases h40 : k < 40
      · have hlt' : (k : Int) < (os.length : Int) := by omega
        have h40' : (k : Int) < 40 := by omega
        obtain ⟨b, off, rfl, hbl, hr⟩ : ∃ b off, ao = some ⟨b, off, none⟩ ∧ b < w.heap.size ∧ Opn.reads w b off os := by
          rcases HR.out with h | h
          · rw [h] at hlt; simp at hlt
          · exact h
        have HRD := hide (fun W (hW : Below w.heap.size w W) => Opn.reads_below hr hbl hW k hlt)
        obtain ⟨e0, e1, e2, e3, e4⟩ := HRD.out _ ST.out.below
        have HFk := hide (HF.out os[k] (List.getElem_mem hlt))
        generalize os[k] = x at *
        obtain ⟨x0, x1, ⟨x2, x3⟩, x4⟩ := x
        have CS := hide (step_is ST.out x0 x1 x4 (x2, x3) HFk.out.1.1 HFk.out.1.2 (by omega))
        clear hr hbl
        go_wp2_with fail
        refine CS.out.mono ?_
        rintro e w2 ⟨t2, ao2, cap2, l2, rfl, hst, hl2⟩
        have HST := hide hst
        have CE := hide (same_is hst (by omega))
        clear hst CS
        go_wp2_with fail
        refine CE.out.mono ?_
        rintro e w3 ⟨rfl, hb3⟩
        have HS3 := hide (HST.out.next hb3)
        obtain ⟨e0, e1, e2, e3, e4⟩ := HRD.out _ HS3.out.below
        have CA := hide (asks_is HS3.out x0 x1 x4 (x2, x3) HFk.out.1.1 HFk.out.1.2 HFk.out.2.1 HFk.out.2.2 (by omega))
        clear hb3 CE
        go_wp2_with fail
        refine CA.out.mono ?_
        rintro e w4 ⟨rfl, hb4⟩
        have HS4 := hide (HS3.out.next hb4)
        clear hb4 CA
        go_wp2_with fail
        exact ⟨⟨t2, ao2, cap2, k + 1, l2, rfl, by go_num, by omega, by omega, by omega, HS4⟩, by simp [intOf]; omega⟩
      · go_wp2_with fail
        refine (lives_is _).mono ?_
        rintro e w5 ⟨rfl, hb5⟩
        have B5 := hide (bthen ST.out.below hb5)
        clear hb5
        go_wp2_with fail
        go_ret
        exact ⟨rfl, B5.out⟩
    · go_wp2_with fail
      refine (lives_is _).mono ?_
      rintro e w5 ⟨rfl, hb5⟩
      have B5 := hide (bthen ST.out.below hb5)
      clear hb5
      go_wp2_with fail
      go_ret
      exact ⟨rfl, B5.out⟩

end Go.Proofs.Ytechocnednepiaa

