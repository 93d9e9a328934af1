/- The contracts of sink and settle, of two numbers by texts. -/
import Derived.Test.YtkfomjinilmjaaaJg
import Derived.Test.YtkfomjinilmjaaaHh
namespace Go.Proofs.Ytkfomjinilmjaaa
open Go.RowKit Go.Maps

/-- The first one of a row and those below it that were looked at. -/
structure Best2 (lt : ByteArray → ByteArray → Bool) (R : List RwP) (k b F : Nat) : Prop where
  isIn : F < R.length
  either : F = k ∨ (2 * k + 1 ≤ F ∧ F < b)
  up : F ≠ k → ∀ y x, R[F]? = some y → R[k]? = some x → ahd lt y x = true
  all : ∀ c a y, 2 * k + 1 ≤ c → c < b → R[c]? = some a → R[F]? = some y → ahd lt a y = false
theorem best_start2 {lt : ByteArray → ByteArray → Bool} {R : List RwP} {k : Nat} (h : k < R.length) : Best2 lt R k (2 * k + 1) k := ⟨h, .inl rfl, fun e => absurd rfl e, fun c a y h1 h2 => by omega⟩
theorem Best2.yes {lt : ByteArray → ByteArray → Bool} (O : Ords lt) {R : List RwP} {k b F : Nat} {x y : RwP} (B : Best2 lt R k b F) (h0 : 2 * k + 1 ≤ b) (hx : R[b]? = some x) (hy : R[F]? = some y) (ha : ahd lt x y = true) : Best2 lt R k (b + 1) b := by
  refine ⟨get_lt hx, .inr ⟨h0, by omega⟩, fun _ y' x' h1 h2 => ?_, fun c a y' h1 h2 h3 h4 => ?_⟩
  · rw [hx] at h1; cases h1
    by_cases e : F = k
    · subst e
      rw [hy] at h2; cases h2
      exact ha
    · exact ahd_trans O ha (B.up e y x' hy h2)
  · rw [hx] at h4; cases h4
    by_cases e : c = b
    · subst e
      rw [hx] at h3; cases h3
      exact ahd_irr O _
    · have h5 := B.all c a y h1 (by omega) h3 hy
      cases e2 : ahd lt a x
      · rfl
      · rw [ahd_trans O e2 ha] at h5; cases h5
theorem Best2.no {lt : ByteArray → ByteArray → Bool} {R : List RwP} {k b F : Nat} {x y : RwP} (B : Best2 lt R k b F) (hx : R[b]? = some x) (hy : R[F]? = some y) (ha : ahd lt x y = false) : Best2 lt R k (b + 1) F := by
  refine ⟨B.isIn, B.either.imp id (fun h => ⟨h.1, by omega⟩), B.up, fun c a y' h1 h2 h3 h4 => ?_⟩
  by_cases e : c = b
  · subst e
    rw [hx] at h3; cases h3
    rw [hy] at h4; cases h4
    exact ha
  · exact B.all c a y' h1 (by omega) h3 h4
theorem Best2.stay {lt : ByteArray → ByteArray → Bool} {R : List RwP} {k b : Nat} (B : Best2 lt R k b k) (hb : 2 * k + 2 < b ∨ R.length ≤ b) (V : InvS lt R k) : HO lt R :=
  sink_exit V fun c a y h0 hc h1 h2 => B.all c a y (by omega) (by have := get_lt h1; omega) h1 h2
theorem Best2.go {lt : ByteArray → ByteArray → Bool} (O : Ords lt) {R : List RwP} {k b F : Nat} {x y : RwP} (B : Best2 lt R k b F) (hb : 2 * k + 2 < b ∨ R.length ≤ b) (hb3 : b ≤ 2 * k + 3) (V : InvS lt R k) (hne : F ≠ k) (hx : R[k]? = some x) (hy : R[F]? = some y) : InvS lt ((R.set k y).set F x) F := by
  have h1 : 2 * k + 1 ≤ F ∧ F < b := B.either.resolve_left hne
  exact sink_step O V (by omega) (by omega) hx hy (B.up hne y x hy hx) fun s c h0 hs _ h2 => B.all s c y (by omega) (by have := get_lt h2; omega) h2 hy
section
variable {lt : ByteArray → ByteArray → Bool} {w0 w : World} {h f : Nat} {R0 R : List RwP} {T : Int} {φ : Int × Int → Option Nat} {ao : Option Addr} {cap m n : Nat}
set_option maxHeartbeats 4000000 in
set_option maxRecDepth 100000 in
theorem sink2_is (O : Ords lt) (LI : LessIs2 f lt) (S : Se2 w0 h f T ao cap m n R0 w R φ) {i : Nat} (hi : i < R.length) (hV : InvS lt R i) (hR : R.length ≤ 1000) (hn : n ≤ 100000) :
    Calls Try.prog 54 #[.pointer (some ⟨h, 0, none⟩), .int .i64 i] w fun e w' => ∃ (R' : List RwP) (φ' : Int × Int → Option Nat), e = .returned (.tuple #[]) ∧ Se2 w0 h f T ao cap m n R0 w' R' φ' ∧ HO lt R' := by
  have HS := hide S
  have HV := hide hV
  have HLI := hide LI
  have hR0 : R0.length ≤ 1000 := by rw [← S.len]; exact hR
  clear S hV LI
  go_enter Try.func54, Try.ntmps54
  go_wp2_with fail
  go_loopw [1] (fun v1 wr => ∃ (k : Nat) (R' : List RwP) (φ' : Int × Int → Option Nat), v1 = .int .i64 k ∧ k < R'.length ∧ Hid (Se2 w0 h f T ao cap m n R0 wr R' φ') ∧ Hid (InvS lt R' k)) (fun v1 _ => R0.length - (intOf v1).toNat)
  case atStart => exact ⟨i, R, φ, rfl, hi, HS, HV⟩
  case round =>
    obtain ⟨k, R', φ', rfl, hk, S1, V1⟩ := hrel
    have hlen := S1.out.len
    have hk1 : k ≤ 1000 := by omega
    have hk2 : R'.length ≤ 1000 := by omega
    have HB0 := hide (best_start2 (lt := lt) hk)
    clear HS HV
    have HLEN := hide hlen
    clear hlen
    go_wp2_with fail
    go_loopw [4, 5] (fun v4 v5 wl => ∃ (b F : Nat), v4 = .int .i64 F ∧ v5 = .int .i64 b ∧ 2 * k + 1 ≤ b ∧ b ≤ 2 * k + 3 ∧ F ≤ 1000 ∧ Hid (Best2 lt R' k b F) ∧ Hid (Se2 w0 h f T ao cap m n R0 wl R' φ')) (fun _ v5 _ => 2 * k + 3 - (intOf v5).toNat)
    case atStart => exact ⟨2 * k + 1, k, rfl, by go_num, by omega, by omega, by omega, HB0, S1⟩
    case round =>
      obtain ⟨b, F, rfl, rfl, hb1, hb2, hF, BB, S2⟩ := hrel
      clear HB0 S1
      obtain ⟨c0, c1, c2, c3, _⟩ := four_cells S2.out.hm.top
      by_cases h1 : b ≤ 2 * k + 2
      · have h1' : (b : Int) ≤ 2 * (k : Int) + 2 := by omega
        by_cases h2 : b < R'.length
        · have h2' : (b : Int) < (R'.length : Int) := by omega
          have hx := List.getElem?_eq_getElem h2
          have hy := List.getElem?_eq_getElem BB.out.isIn
          have CA := hide (ahead2_is S2.out.hm HLI.out hx hy (by omega))
          cases ha : ahd lt R'[b] (R'[F]'BB.out.isIn)
          · have B2 := hide (BB.out.no hx hy ha)
            rw [ha] at CA
            clear BB hx hy ha
            go_wp2_with fail
            refine CA.out.mono ?_
            rintro e w1 ⟨rfl, hb1'⟩
            have S3 := hide (S2.out.below hb1')
            clear hb1' S2 CA c0 c1 c2 c3
            go_wp2_with fail
            exact ⟨⟨b + 1, F, rfl, by go_num, by omega, by omega, by omega, B2, S3⟩, by simp [intOf]; omega⟩
          · have B2 := hide (BB.out.yes O hb1 hx hy ha)
            rw [ha] at CA
            clear BB hx hy ha
            go_wp2_with fail
            refine CA.out.mono ?_
            rintro e w1 ⟨rfl, hb1'⟩
            have S3 := hide (S2.out.below hb1')
            clear hb1' S2 CA c0 c1 c2 c3
            go_wp2_with fail
            exact ⟨⟨b + 1, b, rfl, by go_num, by omega, by omega, by omega, B2, S3⟩, by simp [intOf]; omega⟩
        · have h2' : ¬ (b : Int) < (R'.length : Int) := by omega
          have HE : Hid (2 * k + 2 < b ∨ R'.length ≤ b) := by show _ ∨ _; omega
          by_cases hF0 : F = k
          · have HO2 : Hid (HO lt R') := by
              have := BB.out
              rw [hF0] at this
              exact this.stay HE.out V1.out
            have hFk : (F : Int) = (k : Int) := by omega
            have hFk' : ((F : Int) == (k : Int)) = true := by simp [hFk]
            clear BB V1 HE
            go_wp2_with fail
            first | go_end0 | refine bodyPost_ret (results_none rfl _ _ _) rfl ?_
            exact ⟨rfl, R', ⟨φ', S2.out⟩, HO2.out⟩
          · have hx := List.getElem?_eq_getElem hk
            have hy := List.getElem?_eq_getElem BB.out.isIn
            have V2 := hide (BB.out.go O HE.out hb2 V1.out hF0 hx hy)
            have hlF : F < ((R'.set k (R'[F]'BB.out.isIn)).set F R'[k]).length := by rw [List.length_set, List.length_set]; exact BB.out.isIn
            have CS : Hid (Calls Try.prog 60 #[.pointer (some ⟨h, 0, none⟩), .int .i64 k, .int .i64 F] wr fun e w' => e = .returned (.tuple #[]) ∧ Se2 w0 h f T ao cap m n R0 w' ((R'.set k (R'[F]'BB.out.isIn)).set F R'[k]) (upd (upd φ' (R'[F]'BB.out.isIn).k (some k)) R'[k].k (some F))) :=
              (swap2_is S2.out.hm S2.out.idx hx hy (fun e => hF0 e.symm) (by omega) hn).mono fun e w' ⟨h1, h2, h3⟩ => ⟨h1, S2.out.swap hx hy (fun e => hF0 e.symm) h2 h3⟩
            have hFk : 2 * k + 1 ≤ F := by have := BB.out.either; omega
            have hFl : F < R0.length := by rw [← HLEN.out]; exact BB.out.isIn
            generalize (R'.set k (R'[F]'BB.out.isIn)).set F R'[k] = R2 at *
            generalize upd (upd φ' (R'[F]'BB.out.isIn).k (some k)) R'[k].k (some F) = φ2 at *
            have hne : ((F : Int) == (k : Int)) = false := by simp; omega
            clear V1 BB HE hx hy
            go_wp2_with fail
            refine CS.out.mono ?_
            rintro e w2 ⟨rfl, hs2⟩
            have S3 := hide hs2
            clear hs2 CS S2
            go_wp2_with fail
            exact ⟨⟨F, R2, φ2, rfl, hlF, S3, V2⟩, by simp [intOf]; omega⟩
      · have h1' : ¬ (b : Int) ≤ 2 * (k : Int) + 2 := by omega
        have HE : Hid (2 * k + 2 < b ∨ R'.length ≤ b) := by show _ ∨ _; omega
        by_cases hF0 : F = k
        · have HO2 : Hid (HO lt R') := by
            have := BB.out
            rw [hF0] at this
            exact this.stay HE.out V1.out
          have hFk : (F : Int) = (k : Int) := by omega
          have hFk' : ((F : Int) == (k : Int)) = true := by simp [hFk]
          clear BB V1 HE
          go_wp2_with fail
          first | go_end0 | refine bodyPost_ret (results_none rfl _ _ _) rfl ?_
          exact ⟨rfl, R', ⟨φ', S2.out⟩, HO2.out⟩
        · have hx := List.getElem?_eq_getElem hk
          have hy := List.getElem?_eq_getElem BB.out.isIn
          have V2 := hide (BB.out.go O HE.out hb2 V1.out hF0 hx hy)
          have hlF : F < ((R'.set k (R'[F]'BB.out.isIn)).set F R'[k]).length := by rw [List.length_set, List.length_set]; exact BB.out.isIn
          have CS : Hid (Calls Try.prog 60 #[.pointer (some ⟨h, 0, none⟩), .int .i64 k, .int .i64 F] wr fun e w' => e = .returned (.tuple #[]) ∧ Se2 w0 h f T ao cap m n R0 w' ((R'.set k (R'[F]'BB.out.isIn)).set F R'[k]) (upd (upd φ' (R'[F]'BB.out.isIn).k (some k)) R'[k].k (some F))) :=
            (swap2_is S2.out.hm S2.out.idx hx hy (fun e => hF0 e.symm) (by omega) hn).mono fun e w' ⟨h1, h2, h3⟩ => ⟨h1, S2.out.swap hx hy (fun e => hF0 e.symm) h2 h3⟩
          have hFk : 2 * k + 1 ≤ F := by have := BB.out.either; omega
          have hFl : F < R0.length := by rw [← HLEN.out]; exact BB.out.isIn
          generalize (R'.set k (R'[F]'BB.out.isIn)).set F R'[k] = R2 at *
          generalize upd (upd φ' (R'[F]'BB.out.isIn).k (some k)) R'[k].k (some F) = φ2 at *
          have hne : ((F : Int) == (k : Int)) = false := by simp; omega
          clear V1 BB HE hx hy
          go_wp2_with fail
          refine CS.out.mono ?_
          rintro e w2 ⟨rfl, hs2⟩
          have S3 := hide hs2
          clear hs2 CS S2
          go_wp2_with fail
          exact ⟨⟨F, R2, φ2, rfl, hlF, S3, V2⟩, by simp [intOf]; omega⟩
set_option maxRecDepth 100000 in
theorem settle2_is (O : Ords lt) (LI : LessIs2 f lt) (S : Se2 w0 h f T ao cap m n R0 w R φ) {i : Nat} (hi : i < R.length) (hV : InvR lt R i) (hR : R.length ≤ 1000) (hn : n ≤ 100000) :
    Calls Try.prog 46 #[.pointer (some ⟨h, 0, none⟩), .int .i64 i] w fun e w' => ∃ (R' : List RwP) (φ' : Int × Int → Option Nat), e = .returned (.tuple #[]) ∧ Se2 w0 h f T ao cap m n R0 w' R' φ' ∧ HO lt R' := by
  have CR := hide (rise2_is O LI S hi hV hR hn)
  have HL := hide S.len
  clear S hV
  go_enter Try.func46, Try.ntmps46
  go_wp2_with fail
  refine CR.out.mono ?_
  rintro e w1 ⟨i', R', φ', rfl, hi', S1, V1⟩
  have CS := hide (sink2_is O LI S1 hi' V1 (by rw [S1.len, ← HL.out]; exact hR) hn)
  clear S1 V1 CR
  go_wp2_with fail
  refine CS.out.mono ?_
  rintro e w2 ⟨R2, φ2, rfl, S2, h2⟩
  have HS2 := hide S2
  clear S2 CS
  go_wp2_with fail
  go_end0
  exact ⟨R2, φ2, rfl, HS2.out, h2⟩
end
end Go.Proofs.Ytkfomjinilmjaaa
