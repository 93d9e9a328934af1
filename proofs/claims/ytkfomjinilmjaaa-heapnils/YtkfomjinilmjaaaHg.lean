/- The contracts of a heap's rise, sink and settle. -/
import Derived.Test.YtkfomjinilmjaaaHf
namespace Go.Proofs.Ytkfomjinilmjaaa
open Go.RowKit Go.Maps

/-- While rows are moved. -/
structure Se (w0 : World) (h f : Nat) (T : Int) (ao : Option Addr) (cap m n : Nat) (R0 : List RwS) (w : World) (R : List RwS) (φ : ByteArray → Option Nat) : Prop where
  hm : Hm w h f R T φ ao cap m n
  idx : Idx R φ
  len : R.length = R0.length
  mem : ∀ x, x ∈ R ↔ x ∈ R0
  keep : Keep (Own h m ao) w0 w
section
variable {lt : Int → Int → Bool} {w0 w : World} {h f : Nat} {R0 R : List RwS} {T : Int} {φ : ByteArray → Option Nat} {ao : Option Addr} {cap m n : Nat}
theorem Se.start (H : Hm w h f R T φ ao cap m n) (hI : Idx R φ) : Se w h f T ao cap m n R w R φ := ⟨H, hI, rfl, fun _ => Iff.rfl, Keep.refl _ _⟩
theorem Se.below {w' : World} (S : Se w0 h f T ao cap m n R0 w R φ) (hb : Below w.heap.size w w') : Se w0 h f T ao cap m n R0 w' R φ := ⟨S.hm.below hb, S.idx, S.len, S.mem, S.keep.then hb⟩
theorem Se.swap {w' : World} {i j : Nat} {a b : RwS} (S : Se w0 h f T ao cap m n R0 w R φ) (hi : R[i]? = some a) (hj : R[j]? = some b) (hne : i ≠ j) (H : Hm w' h f ((R.set i b).set j a) T (upd (upd φ b.k (some i)) a.k (some j)) ao cap m n) (K : Keep (Own h m ao) w w') :
    Se w0 h f T ao cap m n R0 w' ((R.set i b).set j a) (upd (upd φ b.k (some i)) a.k (some j)) :=
  ⟨H, S.idx.swap hi hj hne, by rw [List.length_set, List.length_set]; exact S.len, fun x => (mem_swap hi hj hne x).trans (S.mem x), S.keep.trans K⟩
set_option maxHeartbeats 2000000 in
set_option maxRecDepth 100000 in
theorem rise_is (O : Ords lt) (LI : LessIs f lt) (S : Se w0 h f T ao cap m n R0 w R φ) {i : Nat} (hi : i < R.length) (hV : InvR lt R i) (hR : R.length ≤ 1000) (hn : n ≤ 100000) :
    Calls Try.prog 50 #[.pointer (some ⟨h, 0, none⟩), .int .i64 i] w fun e w' => ∃ (i' : Nat) (R' : List RwS) (φ' : ByteArray → Option Nat), e = .returned (.int .i64 i') ∧ i' < R'.length ∧ Se w0 h f T ao cap m n R0 w' R' φ' ∧ InvS lt R' i' := by
  have HS := hide S
  have HV := hide hV
  have HLI := hide LI
  have hR0 : R0.length ≤ 1000 := by rw [← S.len]; exact hR
  clear S hV LI
  go_enter Try.func50, Try.ntmps50
  go_wp2_with fail
  go_loopw [1] (fun v1 wr => ∃ (k : Nat) (R' : List RwS) (φ' : ByteArray → Option Nat), v1 = .int .i64 k ∧ k < R'.length ∧ Hid (Se w0 h f T ao cap m n R0 wr R' φ') ∧ Hid (InvR lt R' k)) (fun v1 _ => (intOf v1).toNat)
  case atStart => exact ⟨i, R, φ, rfl, hi, HS, HV⟩
  case round =>
    obtain ⟨k, R', φ', rfl, hk, S1, V1⟩ := hrel
    have hlen := S1.out.len
    have hk1 : k ≤ 1000 := by omega
    clear HS HV
    rcases Nat.eq_zero_or_pos k with rfl | hpos
    · have HF : Hid (InvS lt R' 0) := rise_exit V1.out (fun h => absurd h (by omega))
      clear V1 hlen hk1
      go_wp2_with fail
      go_ret
      exact ⟨0, R', φ', by simp, hk, S1.out, HF.out⟩
    · obtain ⟨q, hqe⟩ : ∃ q, (k - 1) / 2 = q := ⟨_, rfl⟩
      have hq : q < R'.length := by omega
      have hq1 : q ≤ 1000 := by omega
      have hwq : wrap64 (q : Int) = (q : Int) := by unfold wrap64; omega
      have hx := List.getElem?_eq_getElem hk
      have hp := List.getElem?_eq_getElem hq
      have hpos' : (0 : Int) < (k : Int) := by omega
      have hdiv : ((k : Int) - 1).tdiv 2 = (q : Int) := by
        rw [Int.tdiv_eq_ediv_of_nonneg (by omega)]
        omega
      have CA := hide (ahead_is S1.out.hm HLI.out hx hp (by omega))
      cases ha : ahd lt R'[k] R'[q]
      · have HF : Hid (InvS lt R' k) := rise_exit V1.out (fun _ a b h1 h2 => by rw [hqe] at h2; rw [hx] at h1; rw [hp] at h2; cases h1; cases h2; exact ha)
        rw [ha] at CA
        clear V1 hlen ha hx hp hqe
        go_wp2_with fail
        refine CA.out.mono ?_
        rintro e w1 ⟨rfl, hb1⟩
        have S2 := hide (S1.out.below hb1)
        clear hb1 S1 CA
        go_wp2_with fail
        go_ret
        exact ⟨k, R', φ', rfl, hk, S2.out, HF.out⟩
      · have HV2 : Hid (InvR lt ((R'.set k R'[q]).set q R'[k]) q) := by
          have := rise_step O V1.out hpos hx (by rw [hqe]; exact hp) ha
          rw [hqe] at this
          exact this
        have CS : Hid (∀ W, Below wr.heap.size wr W → Calls Try.prog 58 #[.pointer (some ⟨h, 0, none⟩), .int .i64 k, .int .i64 q] W fun e w' => e = .returned (.tuple #[]) ∧ Se w0 h f T ao cap m n R0 w' ((R'.set k R'[q]).set q R'[k]) (upd (upd φ' R'[q].k (some k)) R'[k].k (some q))) := fun W hW =>
          (swap_is (S1.out.below hW).hm (S1.out.below hW).idx hx hp (by omega) (by omega) hn).mono fun e w' ⟨h1, h2, h3⟩ => ⟨h1, (S1.out.below hW).swap hx hp (by omega) h2 h3⟩
        have hl2 : q < ((R'.set k R'[q]).set q R'[k]).length := by rw [List.length_set, List.length_set]; exact hq
        have hqk : q < k := by omega
        rw [ha] at CA
        generalize (R'.set k R'[q]).set q R'[k] = R2 at *
        generalize upd (upd φ' R'[q].k (some k)) R'[k].k (some q) = φ2 at *
        clear V1 hlen ha hx hp hqe
        go_wp2_with fail
        refine CA.out.mono ?_
        rintro e w1 ⟨rfl, hb1⟩
        have CS2 := hide (CS.out w1 hb1)
        clear hb1 S1 CA CS
        go_wp2_with fail
        refine CS2.out.mono ?_
        rintro e w2 ⟨rfl, hs2⟩
        have S2 := hide hs2
        clear hs2 CS2
        go_wp2_with fail
        exact ⟨⟨q, R2, φ2, rfl, hl2, S2, HV2⟩, by simp [intOf]; omega⟩
end
end Go.Proofs.Ytkfomjinilmjaaa
