/- The contract of a heap's Sort. -/
import Derived.Test.YtkfomjinilmjaaaSa
namespace Go.Proofs.Ytkfomjinilmjaaa
open Go.RowKit Go.Maps

/-- What Sort hands back. -/
def Sorted (w : World) (L : List RwS) (e : Ending) (w' : World) : Prop :=
  ∃ (ar : Option Addr) (cr : Nat) (ks : List ByteArray), e = .returned (.slice ar ks.length cr) ∧ Ks.slot w' ar ks ∧ Alls ltI L ks ∧ Below w.heap.size w w'
set_option maxHeartbeats 4000000 in
set_option maxRecDepth 100000 in
theorem sort_is {w : World} {al : Option Addr} {cl : Nat} {keys : List ByteArray} {P : Nat} {rs : List Int} (hK : Ks.slot w al keys) (hS : Rk.slot w P rs) (hn : keys.length ≤ 60) (hsz : ∀ k ∈ keys, k.size ≤ 200) (hrs : (rs.length : Int) ≤ 9223372036854775807) :
    Calls Try.prog 24 #[.slice al keys.length cl, .func (.func 22) #[] #[.pointer (some ⟨P, 0, none⟩)], .func (.func 9) #[] #[]] w (Sorted w (grw (rkOf rs) keys)) := by
  have CN := hide (new_is ltI 9 w)
  have HK := hide hK
  have HS0 := hide hS
  have HSZ := hide hsz
  have hfn := fun w => fn_eql w 49 _ _ _ (.func 22) #[] #[.pointer (some ⟨P, 0, none⟩)] Try.underlying49
  have CR : Hid (∀ W, Below w.heap.size w W → ∀ k : ByteArray, k.size ≤ 200 → Calls Try.prog 22 #[.string k, .pointer (some ⟨P, 0, none⟩)] W fun e w' => e = .returned (.int .i64 (rkOf rs k)) ∧ Below W.heap.size W w') := fun W hW k hk => rankFn_is (Rk.below hS hW) hk hrs
  clear hK hS hsz
  go_enter Try.func24, Try.ntmps24
  go_wp2_with fail
  refine CN.out.mono ?_
  intro e w1 hm
  obtain ⟨h, m, rfl, S1, _, _⟩ := HS.made hm (brefl w)
  have HS1 := hide S1
  clear hm S1 CN hfn
  go_wp2_with fail
  go_loopw [18] (fun v18 wr => ∃ (i : Nat) (ah : Option Addr), v18 = .int .i64 i ∧ i ≤ keys.length ∧ Hid (HS ltI w wr h 9 (grw (rkOf rs) (keys.take i)) ((grw (rkOf rs) (keys.take i)).length : Int) ah m)) (fun v18 _ => keys.length - (intOf v18).toNat)
  case atStart => exact ⟨0, none, rfl, Nat.zero_le _, HS1⟩
  case round =>
    obtain ⟨i, ah, rfl, hi, S2⟩ := hrel
    clear HS1
    have hlg := (grw_ok (rkOf rs) keys i hi).len
    by_cases hlt : i < keys.length
    · have hlt' : (i : Int) < (keys.length : Int) := by omega
      obtain ⟨b, off, rfl, hbl, hr⟩ : ∃ b off, al = some ⟨b, off, none⟩ ∧ b < wr.heap.size ∧ ∀ j (h : j < keys.length), wr.cell? ⟨b, off + j, none⟩ = some (.string keys[j]) := by
        rcases Ks.below HK.out S2.out.below with h | h
        · rw [h] at hlt; simp at hlt
        · exact h
      have e0 := hr i hlt
      have HG := hide (grw_succ (rkOf rs) keys i hlt)
      have hks := HSZ.out keys[i] (List.getElem_mem hlt)
      clear hr
      generalize keys[i] = k at *
      generalize grw (rkOf rs) (keys.take i) = L at *
      have CRk := hide (rank_is S2.out.hp (by omega) hks)
      cases hrow : rowOf L k with
      | some x =>
        rw [hrow] at CRk HG
        simp only [Option.isSome_some, if_true] at CRk HG
        clear hrow
        go_wp2_with fail
        refine CRk.out.mono ?_
        rintro e w2 ⟨rfl, hw⟩
        have hw' := hw.symm
        clear hw
        subst hw'
        go_wp2_with fail
        exact ⟨⟨i + 1, ah, by go_num, by omega, by rw [HG.out]; exact S2⟩, by simp [intOf]; omega⟩
      | none =>
        rw [hrow] at CRk HG
        simp only [Option.isSome_none, Bool.false_eq_true, if_false] at CRk HG
        have HW : Hid (without L k = L) := without_no (rowOf_none.1 hrow)
        clear hrow
        have CF := hide (CR.out wr S2.out.below k hks)
        generalize rkOf rs k = r at *
        go_wp2_with fail
        refine CRk.out.mono ?_
        rintro e w2 ⟨rfl, hw⟩
        have hw' := hw.symm
        clear hw
        subst hw'
        clear CRk
        go_wp2_with fail
        refine CF.out.mono ?_
        rintro e w3 ⟨rfl, hb3⟩
        have S3 := hide (S2.out.next hb3)
        have CS := hide (set_is ordsI lessI S3.out.hp (by omega) hks r S3.out.t0 (by omega) S3.out.top)
        clear hb3 CF S2
        go_wp2_with fail
        refine CS.out.mono ?_
        intro e w4 hs4
        obtain ⟨rfl, ao4, S4, _, _⟩ := S3.out.set hs4
        rw [HW.out] at S4
        have S5 : Hid (HS ltI w w4 h 9 (grw (rkOf rs) (keys.take (i + 1))) ((grw (rkOf rs) (keys.take (i + 1))).length : Int) ao4 m) := by
          rw [HG.out, List.length_append]
          exact S4
        clear hs4 S4 CS S3
        go_wp2_with fail
        exact ⟨⟨i + 1, ao4, by go_num, by omega, S5⟩, by simp [intOf]; omega⟩
    · have hlt' : ¬ (i : Int) < (keys.length : Int) := by omega
      obtain rfl : i = keys.length := by omega
      rw [List.take_length] at S2 hlg
      have CD := hide (drain_is ordsI lessI S2.out.hp (by omega))
      go_wp2_with fail
      refine CD.out.mono ?_
      rintro e w2 ⟨ar, cr, ks, rfl, hsl, _, hall, _, hk2⟩
      have HSL := hide hsl
      have HAL := hide hall
      have B2 := hide (hk2.below' S2.out.below (fun j hj => S2.out.base j hj) S2.out.below.size)
      clear hsl hall hk2
      go_wp2_with fail
      go_ret
      exact ⟨ar, cr, ks, rfl, HSL.out, HAL.out, B2.out⟩
end Go.Proofs.Ytkfomjinilmjaaa
