/- The contract of a heap's Set. -/
import Derived.Test.YtkfomjinilmjaaaHl
namespace Go.Proofs.Ytkfomjinilmjaaa
open Go.RowKit Go.Maps

section
variable {lt : Int → Int → Bool} {w w' : World} {h f : Nat} {R L : List RwS} {T : Int} {φ : ByteArray → Option Nat} {ao ao' : Option Addr} {cap cap' m n : Nat}
theorem Hm.turned (H : Hm w h f R T φ ao cap m n) (T' : Int) : Hm (w.setCell ⟨h, 3, none⟩ (.int .i64 T')) h f R T' φ ao cap m n := by
  refine ⟨heap_setCell_same w h 3 _ 66 (.int .i64 T') H.top, ?_, H.mp.kept (heap_setCell_other _ _ m _ (Ne.symm H.hm)), H.hm, H.hg, H.sm⟩
  rcases H.row with e | ⟨g, cur, e, hg, r⟩
  · exact .inl e
  · exact .inr ⟨g, cur, e, (heap_setCell_other _ _ g _ (H.hg _ e).1).trans hg, r⟩
theorem Near.own (hN : Near w ao ao') : ∀ i, Own h m ao' i → Own h m ao i ∨ w.heap.size ≤ i := by
  rintro i (rfl | rfl | ⟨a, rfl, rfl⟩)
  · exact .inl (.inl rfl)
  · exact .inl (.inr (.inl rfl))
  · rcases hN a rfl with ⟨b, hb, e⟩ | e
    · exact .inl (.inr (.inr ⟨b, hb, e.symm⟩))
    · exact .inr e
theorem Hm.grown (H : Hm w h f R T φ ao cap m n) (hR' : RowAt w' ao' cap' (R ++ [rz])) (hg : w.grownBy w' (ao.map (·.block))) (hN : Near w ao ao') :
    Hm (w'.setCell ⟨h, 1, none⟩ (.slice ao' (R.length + 1) cap')) h f (R ++ [rz]) T φ ao' cap' m n := by
  have hb : ∀ b, b ≠ h ∨ True → (∀ a, ao = some a → a.block ≠ b) → b < w.heap.size → w'.heap[b]? = w.heap[b]? := fun b _ h1 h2 => hg.block b h2 (fun e => by
    cases ao with
    | none => cases e
    | some a => exact h1 a rfl (Option.some.inj e).symm)
  have hgb : ∀ a, ao' = some a → a.block ≠ h ∧ a.block ≠ m := fun a e => by
    rcases hN a e with ⟨b, e1, e2⟩ | e2
    · rw [e2]; exact H.hg b e1
    · exact ⟨fun e3 => by have := lt_of_block H.top; omega, fun e3 => by have := H.mp.lt; omega⟩
  refine ⟨?_, ?_, H.mp.kept ?_, H.hm, hgb, fun x hx => ?_⟩
  · have ht := (hb h (.inr trivial) (fun a e => (H.hg a e).1) (lt_of_block H.top)).trans H.top
    rw [List.length_append, List.length_singleton]
    exact heap_setCell_same w' h 1 _ 66 (.slice ao' (R.length + 1) cap') ht
  · rcases hR' with e | ⟨g, cur, e, h1, r⟩
    · exact .inl e
    · exact .inr ⟨g, cur, e, (heap_setCell_other _ _ g _ (hgb _ e).1).trans h1, r⟩
  · rw [heap_setCell_other _ _ m _ (Ne.symm H.hm)]
    exact hb m (.inr trivial) (fun a e => (H.hg a e).2) H.mp.lt
  · rcases List.mem_append.1 hx with hx | hx
    · exact H.sm x hx
    · rw [List.mem_singleton] at hx
      subst hx
      exact Nat.zero_le _
theorem set_snoc (R : List RwS) (y x : RwS) : (R ++ [y]).set R.length x = R ++ [x] := by simp
/-- What Set hands back. -/
def SetTo (lt : Int → Int → Bool) (w : World) (h f : Nat) (L : List RwS) (T : Int) (ao : Option Addr) (m : Nat) (k : ByteArray) (r : Int) (e : Ending) (w' : World) : Prop :=
  e = .returned (.bool (rowOf L k).isSome) ∧ ∃ ao', Hp lt w' h f (without L k ++ [⟨k, r, T + 1⟩]) (T + 1) ao' m ∧ Keep (Own h m ao) w w' ∧ Near w ao ao'
set_option maxHeartbeats 2000000 in
set_option maxRecDepth 100000 in
theorem set_is (O : Ords lt) (LI : LessIs f lt) (H : Hp lt w h f L T ao m) (hn : L.length ≤ 900) {k : ByteArray} (hk : k.size ≤ 200) (r : Int) (hT0 : 0 ≤ T) (hT : T ≤ 100000) (hTop : ∀ x ∈ L, x.t ≤ T) :
    Calls Try.prog 13 #[.pointer (some ⟨h, 0, none⟩), .string k, .int .i64 r] w (SetTo lt w h f L T ao m k r) := by
  obtain ⟨R, φ, cap, U, H, hI, G⟩ := H
  replace G := G.top_any hTop
  have CF := hide (find_is H hk)
  have hrow := idx_row hI G k
  have HLI := hide LI
  have hRl : R.length ≤ 900 := by rw [G.len]; exact hn
  cases e : φ k with
  | some i =>
    rw [e] at hrow CF
    obtain ⟨a, ha, hr⟩ := hrow
    simp only [Option.getD_some, Option.isSome_some] at CF
    have HE : Hid ((rowOf L k).isSome = true) := by show _ = _; rw [hr]; rfl
    have hak : a.k = k := (rowOf_some hr).2
    have HAK := hide hak
    have H1 := hide (H.turned (T + 1))
    have CL : Hid (Calls Try.prog 37 #[.pointer (some ⟨h, 0, none⟩), .int .i64 i, .agg #[.string k, .int .i64 r, .int .i64 (T + 1)]] (w.setCell ⟨h, 3, none⟩ (.int .i64 (T + 1))) fun e w' => e = .returned (.tuple #[]) ∧ Hm w' h f (R.set i ⟨k, r, T + 1⟩) (T + 1) (upd φ k (some i)) ao cap m R.length ∧ Keep (Own h m ao) (w.setCell ⟨h, 3, none⟩ (.int .i64 (T + 1))) w') :=
      lay_is H1.out (get_lt ha) ⟨k, r, T + 1⟩ hk (by omega) (Nat.le_refl _) (fun e2 => by rw [e] at e2; cases e2) (by omega)
    have K1 : Hid (Keep (Own h m ao) w (w.setCell ⟨h, 3, none⟩ (.int .i64 (T + 1)))) := (Keep.refl _ w).setCell (.inl (.inl rfl)) _
    have HI2 := hide (hI.set (x := (⟨k, r, T + 1⟩ : RwS)) ha hak.symm)
    have HV2 := hide (inv_set (x := (⟨k, r, T + 1⟩ : RwS)) O G.ho (get_lt ha))
    have HM2 := hide (fun y => mem_set (x := (⟨k, r, T + 1⟩ : RwS)) hI ha y)
    have hil := get_lt ha
    have HG := hide G
    have HA := hide ha
    have HI := hide hI
    obtain ⟨c0, c1, c2, c3, hfz⟩ := four_cells H.top
    have fz3 := hfz 3
    rw [hak] at HM2
    clear H hI G ha hr e LI hak hfz H1
    go_enter Try.func13, Try.ntmps13
    go_wp2_with fail
    refine CF.out.mono ?_
    rintro e w1 ⟨rfl, hw⟩
    have hw' := hw.symm
    clear hw
    subst hw'
    go_wp2_with fail
    refine CL.out.mono ?_
    rintro e w2 ⟨rfl, h2, k2⟩
    have CS := hide (settle_is O HLI.out (Se.start h2 HI2.out) (by rw [List.length_set]; exact hil) HV2.out (by rw [List.length_set]; omega) (by omega))
    have K2 := hide (K1.out.trans k2)
    clear h2 k2 CL c0 c1 c2 c3 fz3
    go_wp2_with fail
    refine CS.out.mono ?_
    rintro e w3 ⟨R3, φ3, rfl, S3, h3⟩
    have H3 := hide S3.hm
    have I3 := hide S3.idx
    have L3 : Hid (R3.length = R.length) := by have := S3.len; rwa [List.length_set] at this
    have M3 := hide S3.mem
    have K3 := hide (K2.out.trans S3.keep)
    clear S3 CS
    go_wp2_with fail
    go_ret
    refine ⟨by rw [HE.out]; rfl, ao, ⟨R3, φ3, cap, T + 1, by rw [L3.out]; exact H3.out, I3.out, ?_⟩, K3.out, fun a e => .inl ⟨a, e, rfl⟩⟩
    obtain ⟨j, hj⟩ := List.mem_iff_getElem?.1 ((HG.out.mem a).1 (List.mem_iff_getElem?.2 ⟨i, HA.out⟩))
    have hlen := without_len (HG.out.once HI.out) hj
    rw [HAK.out] at hlen
    refine HG.out.set (T' := T + 1) (x := ⟨k, r, T + 1⟩) (by omega) rfl h3 (by rw [L3.out, hlen, HG.out.len]; have := get_lt hj; omega) fun y => (M3.out y).trans (HM2.out y)
  | none =>
    rw [e] at hrow CF
    simp only at hrow
    simp only [Option.getD_none, Option.isSome_none] at CF
    have HE : Hid ((rowOf L k).isSome = false) := by show _ = _; rw [hrow]; rfl
    have HW : Hid (without L k = L) := without_no (rowOf_none.1 hrow)
    have HNK : Hid (∀ x ∈ L, x.k ≠ k) := rowOf_none.1 hrow
    have HNe := hide e
    have HG := hide G
    have HI := hide hI
    have HH := hide H
    obtain ⟨c0, c1, c2, c3, hfz⟩ := four_cells H.top
    have HA := hide (H.below (balloc (brefl w) (.cells #[.string ⟨#[]⟩, .int .i64 0, .int .i64 0] 70)))
    have HBA := hide (balloc (brefl w) (.cells #[.string ⟨#[]⟩, .int .i64 0, .int .i64 0] 70))
    have HNA := hide (heap_alloc_new w (.cells #[.string ⟨#[]⟩, .int .i64 0, .int .i64 0] 70))
    clear H hI G hrow e LI hfz
    go_enter Try.func13, Try.ntmps13
    go_wp2_with fail
    refine CF.out.mono ?_
    rintro e w1 ⟨rfl, hw⟩
    have hw' := hw.symm
    clear hw
    subst hw'
    go_wp2_with (at_builtin; go_must (refine append_row rfl _ _ rfl rfl HA.out.row _ _ rfl HNA.out (by omega) ?_))
    intro ao1 cap1 w1 hR1 hg1 hloc
    have HNr := hide hloc
    have H1 := hide (HA.out.grown hR1 hg1 HNr.out)
    have K1 : Hid (Keep (Own h m ao) w w1) := (Keep.of HBA.out).trans (Keep.grown hg1 (fun k e => by
      cases ao with
      | none => cases e
      | some a => exact .inr (.inr ⟨a, rfl, Option.some.inj e⟩)))
    have HN1 : Hid (Near w ao ao1) := fun a e => (HNr.out a e).imp id (fun h => by have := HBA.out.size; omega)
    have ht : Hid (w1.heap[h]? = w.heap[h]?) := (hg1.block h (lt_of_block HA.out.top) (fun e => by
      cases ao with
      | none => cases e
      | some a => exact (HA.out.hg a rfl).1 (Option.some.inj e).symm)).trans (HBA.out.block h (lt_of_block HH.out.top))
    obtain ⟨d0, d1, d2, d3, hfz⟩ := four_cells (ht.out.trans HH.out.top)
    have fz1 := hfz 1
    have fz3 := hfz 3
    clear hR1 hg1 hloc HNr HNA HBA HA c0 c1 c2 c3 hfz
    have H2 := hide (H1.out.turned (T + 1))
    have K2 : Hid (Keep (Own h m ao) w ((w1.setCell ⟨h, 1, none⟩ (.slice ao1 (R.length + 1) cap1)).setCell ⟨h, 3, none⟩ (.int .i64 (T + 1)))) := (K1.out.setCell (.inl (.inl rfl)) _).setCell (.inl (.inl rfl)) _
    go_wp2_with fail
    generalize (w1.setCell ⟨h, 1, none⟩ (.slice ao1 (R.length + 1) cap1)).setCell ⟨h, 3, none⟩ (.int .i64 (T + 1)) = W2 at *
    have CL : Hid (Calls Try.prog 37 #[.pointer (some ⟨h, 0, none⟩), .int .i64 R.length, .agg #[.string k, .int .i64 r, .int .i64 (T + 1)]] W2 fun e w' => e = .returned (.tuple #[]) ∧ Hm w' h f (R ++ [⟨k, r, T + 1⟩]) (T + 1) (upd φ k (some R.length)) ao1 cap1 m (R.length + 1) ∧ Keep (Own h m ao1) W2 w') := by
      have := lay_is (n' := R.length + 1) H2.out (i := R.length) (by simp) ⟨k, r, T + 1⟩ hk (by simp; omega) (by omega) (fun _ => Nat.le_refl _) (by omega)
      rw [set_snoc] at this
      exact this
    refine CL.out.mono ?_
    rintro e w3 ⟨rfl, h3, k3⟩
    have HI3 := hide (HI.out.snoc (x := (⟨k, r, T + 1⟩ : RwS)) HNe.out)
    have CS := hide (settle_is O HLI.out (Se.start h3 HI3.out) (i := R.length) (by simp) (inv_snoc HG.out.ho) (by simp; omega) (by omega))
    have K3 := hide (K2.out.trans' k3 (fun i hi => HN1.out.own i hi))
    clear h3 k3 CL d0 d1 d2 d3 fz1 fz3
    go_wp2_with fail
    refine CS.out.mono ?_
    rintro e w4 ⟨R4, φ4, rfl, S4, h4⟩
    have H4 := hide S4.hm
    have I4 := hide S4.idx
    have L4 : Hid (R4.length = R.length + 1) := by have := S4.len; rwa [List.length_append, List.length_singleton] at this
    have M4 := hide S4.mem
    have K4 := hide (K3.out.trans' S4.keep (fun i hi => HN1.out.own i hi))
    clear S4 CS
    go_wp2_with fail
    go_ret
    refine ⟨by rw [HE.out]; rfl, ao1, ⟨R4, φ4, cap1, T + 1, by rw [L4.out]; exact H4.out, I4.out, ?_⟩, K4.out, HN1.out⟩
    refine HG.out.set (T' := T + 1) (x := ⟨k, r, T + 1⟩) (by omega) rfl h4 (by rw [L4.out, HW.out, HG.out.len]) fun y => (M4.out y).trans ?_
    rw [List.mem_append, List.mem_singleton]
    constructor
    · rintro (hy | hy)
      · exact .inr ⟨hy, HNK.out y ((HG.out.mem y).1 hy)⟩
      · exact .inl hy
    · rintro (hy | ⟨hy, _⟩)
      · exact .inr hy
      · exact .inl hy
end
end Go.Proofs.Ytkfomjinilmjaaa
