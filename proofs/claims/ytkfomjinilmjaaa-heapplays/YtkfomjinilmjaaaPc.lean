/- The law's alike. -/
import Derived.Test.YtkfomjinilmjaaaRc
import Derived.Test.YtkfomjinilmjaaaPb
namespace Go.Proofs.Ytkfomjinilmjaaa
open Go.RowKit Go.Maps

/-- A heap and the plain list. -/
structure HL (w0 w : World) (h : Nat) (L : List RwS) (T : Int) (ao : Option Addr) (m : Nat) (al : Option Addr) (cl : Nat) : Prop where
  hs : HS ltI w0 w h 9 L T ao m
  good : Th.Good w al cl L
  apart : ∀ a, al = some a → ¬ Own h m ao a.block
theorem HL.next {w0 w w' : World} {h : Nat} {L : List RwS} {T : Int} {ao : Option Addr} {m : Nat} {al : Option Addr} {cl : Nat} (S : HL w0 w h L T ao m al cl) (hb : Below w.heap.size w w') : HL w0 w' h L T ao m al cl := ⟨S.hs.next hb, S.good.below hb, S.apart⟩
set_option maxHeartbeats 8000000 in
set_option maxRecDepth 100000 in
theorem alike_is {w0 w : World} {h : Nat} {L : List RwS} {T : Int} {ao : Option Addr} {m : Nat} {al : Option Addr} {cl : Nat} (S : HL w0 w h L T ao m al cl) (hn : L.length ≤ 900) {k : ByteArray} (hk : k.size ≤ 200) :
    Calls Try.prog 18 #[.pointer (some ⟨h, 0, none⟩), .slice al L.length cl, .string k] w fun e w' => e = .returned (.bool true) ∧ Below w.heap.size w w' := by
  have CF := hide (first_is ordsI S.hs.hp (by omega))
  have CRF : Hid (∀ W, Below w.heap.size w W → Calls Try.prog 17 #[.slice al L.length cl] W (RefFirst L W)) := fun W hW => refFirst_is (S.good.below hW).row S.hs.hp.turn (by omega)
  have CR : Hid (∀ W, Below w.heap.size w W → Calls Try.prog 21 #[.pointer (some ⟨h, 0, none⟩), .string k] W fun e w' => e = .returned (.tuple #[.int .i64 (match rowOf L k with | some a => a.r | none => 0), .bool (rowOf L k).isSome]) ∧ w' = W) := fun W hW => rank_is (S.hs.hp.below hW) (by omega) hk
  have CAt : Hid (∀ W, Below w.heap.size w W → Calls Try.prog 23 #[.slice al L.length cl, .string k] W fun e w' => e = .returned (.int .i64 (atI L k)) ∧ w' = W) := fun W hW => refAt_is (S.good.below hW).row (by omega) k
  have CL : Hid (∀ W, Below w.heap.size w W → Calls Try.prog 20 #[.pointer (some ⟨h, 0, none⟩)] W fun e w' => e = .returned (.int .i64 (L.length : Nat)) ∧ w' = W) := fun W hW => len_is (S.hs.hp.below hW) (by omega)
  have CAL : Hid (∀ W, Below w.heap.size w W → Calls Try.prog 19 #[.pointer (some ⟨h, 0, none⟩)] W (AllTo ltI W L)) := fun W hW => all_is ordsI lessI (S.hs.hp.below hW) (by omega)
  have CRA : Hid (∀ W, Below w.heap.size w W → Calls Try.prog 26 #[.slice al L.length cl] W (RefAll W L)) := fun W hW => refAll_is (S.good.below hW) S.hs.hp.once S.hs.hp.turn (by omega)
  have HON := hide S.hs.hp.once
  have HTU := hide S.hs.hp.turn
  have HG := hide S.good
  have hll : ((L.length : Int) == (L.length : Int)) = true := by simp
  clear S
  go_enter Try.func18, Try.ntmps18
  go_wp2_with fail
  refine CF.out.mono ?_
  rintro e w1 ⟨hf, hb1⟩
  have B1 := hide hb1
  clear hb1 CF
  rcases hf with ⟨hL, rfl⟩ | ⟨x, hF, rfl⟩
  · have E0 := True.intro
    have E1 := True.intro
    have hrow : rowOf L k = none := by rw [hL]; rfl
    have HL0 := hide hL
    clear hL
    have hm0 : ¬ (0 : Int) ≤ -1 := by decide
    have hm2 : decide ((0 : Int) ≤ -1) = false := by decide
    go_wp2_with fail
    refine (CRF.out _ B1.out).mono ?_
    rintro e w2 ⟨hb2, hrf⟩
    have B := hide (bthen B1.out hb2)
    clear hb2
    rcases hrf with ⟨h00, rfl⟩ | ⟨j, y, _, hy, _⟩
    · clear h00
      go_wp2_with fail
      have hix : ix L k = none := ix_none.2 hrow
      rw [hrow] at CR
      rw [atI_none hix] at CAt
      simp only [Option.isSome_none] at CR
      have hm1 : ¬ (0 : Int) ≤ -1 := by decide
      clear hix hrow
      refine (CR.out _ B.out).mono ?_
      rintro e w3 ⟨rfl, hw⟩
      have hw' := hw.symm
      clear hw
      subst hw'
      go_wp2_with fail
      refine (CAt.out _ B.out).mono ?_
      rintro e w4 ⟨rfl, hw⟩
      have hw' := hw.symm
      clear hw
      subst hw'

      clear E0 E1
      go_wp2_with fail
      refine (CL.out _ B.out).mono ?_
      rintro e w5 ⟨rfl, hw⟩
      have hw' := hw.symm
      clear hw
      subst hw'
      go_wp2_with fail
      refine (CAL.out _ B.out).mono ?_
      rintro e w6 ⟨ar, cr, ks, rfl, hsl, _, hall, hb6⟩
      have B6 := hide (bthen B.out hb6)
      have SL6 := hide hsl
      have AL6 := hide hall
      clear hsl hall hb6
      go_wp2_with fail
      refine (CRA.out _ B6.out).mono ?_
      rintro e w7 ⟨ar2, cr2, ks2, rfl, hsl2, hall2, hb7⟩
      have hks : ks.length ≤ 900 := by have := alls_len AL6.out HON.out HTU.out; omega
      have CSM := hide (refSame_is (c1 := cr) (c2 := cr2) (Ks.below SL6.out hb7) hsl2 (by omega) (AL6.out.one HTU.out hall2))
      have B7 := hide (bthen B6.out hb7)
      clear hsl2 hall2 hb7
      go_wp2_with fail
      refine CSM.out.mono ?_
      rintro e w8 ⟨rfl, hb8⟩
      have B8 := hide (bthen B7.out hb8)
      clear hb8
      go_wp2_with fail
      go_ret
      exact ⟨rfl, B8.out⟩
    · rw [HL0.out] at hy; simp at hy
  · go_wp2_with fail
    refine (CRF.out _ B1.out).mono ?_
    rintro e w2 ⟨hb2, hrf⟩
    have B := hide (bthen B1.out hb2)
    clear hb2
    rcases hrf with ⟨hL, _⟩ | ⟨j, y, rfl, hy, hFy⟩
    · rw [hL] at hF; exact absurd hF.1 (by simp)
    have hxy := hF.one HTU.out hFy
    subst hxy
    have hjl := get_lt hy
    have hjl' : (j : Int) < (L.length : Int) := by omega
    have hj0 : (0 : Int) ≤ (j : Int) := by omega
    obtain ⟨b, off, rfl, hr⟩ : ∃ b off, al = some ⟨b, off, none⟩ ∧ Th.reads w2 b off L := by
      rcases (HG.out.below B.out).row with h | h
      · rw [h] at hjl; simp at hjl
      · exact h
    obtain ⟨E0, E1⟩ := Th.reads_at hr j hjl
    rw [(List.getElem?_eq_some_iff.1 hy).2] at E0 E1
    clear hr hF hFy hy
    obtain ⟨xk, xr, xt⟩ := x
    simp only at E0 E1
    have hbe : (xk != xk) = false := by rw [bne, (Go.MapKept.bytes_beq xk xk).2 rfl]; rfl
    have hbr : (xr != xr) = false := by simp
    go_wp2_with fail
    cases hrow : rowOf L k with
    | none =>
      have hix : ix L k = none := ix_none.2 hrow
      rw [hrow] at CR
      rw [atI_none hix] at CAt
      simp only [Option.isSome_none] at CR
      have hm1 : ¬ (0 : Int) ≤ -1 := by decide
      clear hix hrow
      refine (CR.out _ B.out).mono ?_
      rintro e w3 ⟨rfl, hw⟩
      have hw' := hw.symm
      clear hw
      subst hw'
      go_wp2_with fail
      refine (CAt.out _ B.out).mono ?_
      rintro e w4 ⟨rfl, hw⟩
      have hw' := hw.symm
      clear hw
      subst hw'

      clear E0 E1
      go_wp2_with fail
      refine (CL.out _ B.out).mono ?_
      rintro e w5 ⟨rfl, hw⟩
      have hw' := hw.symm
      clear hw
      subst hw'
      go_wp2_with fail
      refine (CAL.out _ B.out).mono ?_
      rintro e w6 ⟨ar, cr, ks, rfl, hsl, _, hall, hb6⟩
      have B6 := hide (bthen B.out hb6)
      have SL6 := hide hsl
      have AL6 := hide hall
      clear hsl hall hb6
      go_wp2_with fail
      refine (CRA.out _ B6.out).mono ?_
      rintro e w7 ⟨ar2, cr2, ks2, rfl, hsl2, hall2, hb7⟩
      have hks : ks.length ≤ 900 := by have := alls_len AL6.out HON.out HTU.out; omega
      have CSM := hide (refSame_is (c1 := cr) (c2 := cr2) (Ks.below SL6.out hb7) hsl2 (by omega) (AL6.out.one HTU.out hall2))
      have B7 := hide (bthen B6.out hb7)
      clear hsl2 hall2 hb7
      go_wp2_with fail
      refine CSM.out.mono ?_
      rintro e w8 ⟨rfl, hb8⟩
      have B8 := hide (bthen B7.out hb8)
      clear hb8
      go_wp2_with fail
      go_ret
      exact ⟨rfl, B8.out⟩
    | some z =>
      obtain ⟨i, hix⟩ : ∃ i, ix L k = some i := by
        cases e : ix L k with
        | none => rw [ix_none.1 e] at hrow; cases hrow
        | some i => exact ⟨i, rfl⟩
      obtain ⟨z', hz', _, hz2⟩ := ix_some hix
      rw [hrow, Option.some.injEq] at hz2
      subst hz2
      rw [hrow] at CR
      rw [atI_some hix] at CAt
      simp only [Option.isSome_some] at CR
      have hzl := get_lt hz'
      have hzl' : (i : Int) < (L.length : Int) := by omega
      have hi0 : (0 : Int) ≤ (i : Int) := by omega
      obtain ⟨bz, oz, e2, HRZ⟩ : ∃ b' off', some (⟨b, off, none⟩ : Addr) = some ⟨b', off', none⟩ ∧ Hid (∀ W, Below w.heap.size w W → W.cell? ⟨b', off' + i * 2 + 1, none⟩ = some (.int .i64 z.r)) := by
        rcases HG.out.row with h | ⟨b, off, e, hr⟩
        · rw [h] at hzl; simp at hzl
        · refine ⟨b, off, e, fun W hW => ?_⟩
          have h2 := (Th.reads_at hr i hzl).2
          rw [hW.cell (p := ⟨b, off + i * 2 + 1, none⟩) (block_lt_of_cell h2), h2, (List.getElem?_eq_some_iff.1 hz').2]
      cases e2
      clear hix hrow hz' hzl
      obtain ⟨zk, zr, zt⟩ := z
      simp only at HRZ CR
      have hzz : (zr != zr) = false := by simp
      refine (CR.out _ B.out).mono ?_
      rintro e w3 ⟨rfl, hw⟩
      have hw' := hw.symm
      clear hw
      subst hw'
      go_wp2_with fail
      refine (CAt.out _ B.out).mono ?_
      rintro e w4 ⟨rfl, hw⟩
      have hw' := hw.symm
      clear hw
      subst hw'
      have ez := HRZ.out _ B.out

      clear E0 E1
      go_wp2_with fail
      refine (CL.out _ B.out).mono ?_
      rintro e w5 ⟨rfl, hw⟩
      have hw' := hw.symm
      clear hw
      subst hw'
      go_wp2_with fail
      refine (CAL.out _ B.out).mono ?_
      rintro e w6 ⟨ar, cr, ks, rfl, hsl, _, hall, hb6⟩
      have B6 := hide (bthen B.out hb6)
      have SL6 := hide hsl
      have AL6 := hide hall
      clear hsl hall hb6
      go_wp2_with fail
      refine (CRA.out _ B6.out).mono ?_
      rintro e w7 ⟨ar2, cr2, ks2, rfl, hsl2, hall2, hb7⟩
      have hks : ks.length ≤ 900 := by have := alls_len AL6.out HON.out HTU.out; omega
      have CSM := hide (refSame_is (c1 := cr) (c2 := cr2) (Ks.below SL6.out hb7) hsl2 (by omega) (AL6.out.one HTU.out hall2))
      have B7 := hide (bthen B6.out hb7)
      clear hsl2 hall2 hb7
      go_wp2_with fail
      refine CSM.out.mono ?_
      rintro e w8 ⟨rfl, hb8⟩
      have B8 := hide (bthen B7.out hb8)
      clear hb8
      go_wp2_with fail
      go_ret
      exact ⟨rfl, B8.out⟩
end Go.Proofs.Ytkfomjinilmjaaa
