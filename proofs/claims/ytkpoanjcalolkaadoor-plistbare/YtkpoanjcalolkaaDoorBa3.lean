/- The contract of plist's Bare. -/
import Derived.Test.YtkpoanjcalolkaaDoorBa1
import Derived.Test.YtkpoanjcalolkaaDoorBa2
import Derived.Deep.AppendLies
namespace Go.Proofs.YtkpoanjcalolkaaDoor
open Go.RowKit

set_option maxHeartbeats 4000000 in
theorem bare_bad (ao : Option Addr) (ca : Nat) (a : List Ad.R) (x : Int) (w : World) (hRa : Ad.slotR w ao a) (hfa : Ad.fitsR a) (hx : Hid (Ad.rwhy a = x)) (hx0 : (x != 0) = true) :
    Calls Tryd.prog 24 #[.slice ao a.length ca] w fun e w' => e = .returned (.tuple #[.slice none 0 0, .int .i64 x]) ∧ Below w.heap.size w w' := by
  have HRA := hide hRa
  have HFA := hide hfa
  clear hRa hfa
  go_enter Tryd.func24, Tryd.ntmps24
  go_wp2_with fail
  refine (pmay_is ao ca a x hx.out _ HRA.out HFA.out).mono ?_
  rintro e w1 ⟨rfl, hb1⟩
  go_wp2_with fail
  exact bodyPost_ret (v := .tuple #[.slice none 0 0, .int .i64 x]) (by simp [results, Tryd.results24, go_sem]) rfl ⟨rfl, hb1⟩

theorem Ad.bare_fit {l : List Ad.R} {k : Nat} {b : List Ad.R} (hk : k < l.length) (h : Ad.BareAt l k b) (hx : Ad.rwhy l = 0) (hf : Ad.fitsR l) : Ad.rwhy (b ++ [l[k]!]) = 0 ∧ Ad.fitsR (b ++ [l[k]!]) := by
  have hs : (b ++ [l[k]!]).Sublist l := by
    have h1 := (Ad.bare_sub l k b (by omega) h).append (List.Sublist.refl [l[k]!])
    rw [← Ad.takeR_snoc l k hk] at h1
    exact h1.trans (List.take_sublist _ _)
  have h2 := (Ad.rwhy_iff l).1 hx
  refine ⟨(Ad.rwhy_iff _).2 ⟨Nat.le_trans hs.length_le h2.1, List.all_eq_true.2 fun r hr => List.all_eq_true.1 h2.2 r (hs.subset hr)⟩, fun r hr => hf r (hs.subset hr)⟩

set_option maxHeartbeats 8000000 in
set_option maxRecDepth 100000 in
theorem bare_good (ao : Option Addr) (ca : Nat) (l : List Ad.R) (w : World) (hRa : Ad.slotR w ao l) (hfa : Ad.fitsR l) (hx : Hid (Ad.rwhy l = 0)) :
    Calls Tryd.prog 24 #[.slice ao l.length ca] w fun e w' => ∃ b bo bc, e = .returned (.tuple #[.slice bo b.length bc, .int .i64 0]) ∧ Ad.BareAt l l.length b ∧ Ad.slotR w' bo b ∧ Below w.heap.size w w' := by
  have HRA := hide hRa
  have HFA := hide hfa
  clear hRa hfa
  have hlen := Ad.rwhy_len l hx.out
  go_enter Tryd.func24, Tryd.ntmps24
  go_wp2_with fail
  refine (pmay_is ao ca l 0 hx.out _ HRA.out HFA.out).mono ?_
  rintro e w1 ⟨rfl, hb1⟩
  have B1 := hide hb1
  clear hb1
  go_wp2_with fail
  go_loopw [5, 16] (fun v5 v16 wr => ∃ (k : Nat) (b : List Ad.R) (bo : Option Addr) (bc : Nat), v16 = .int .i64 k ∧ v5 = .slice bo b.length bc ∧ k ≤ l.length ∧ Ad.BareAt l k b ∧ wr.ownsRow w.heap.size 32 5 (.slice bo b.length bc) b.length (Ad.cellsR b) ∧ Below w.heap.size w wr) (fun _ v16 _ => l.length - (intOf v16).toNat)
  case atStart => exact ⟨0, [], none, 0, rfl, rfl, Nat.zero_le _, rfl, World.ownsRow_nil _ _ _ _, B1.out⟩
  case round =>
    obtain ⟨k, b, bo, bc, rfl, rfl, hk, hba, hown, hbr⟩ := hrel
    have HBA := hide hba
    have HO := hide hown
    have HB := hide hbr
    clear hba hown hbr
    by_cases hkl : k < l.length
    · have hkl' : (k : Int) < (l.length : Int) := by omega
      obtain ⟨bb, off, rfl, hrd⟩ := Ad.slotR_at HRA.out hkl
      obtain ⟨e0, e1, e2, e3, e4⟩ := Ad.readsR_at (Ad.readsR_below hrd HB.out) k hkl
      clear hrd
      have HFI := hide (Ad.bare_fit hkl HBA.out hx.out HFA.out)
      have hbl : Hid (b.length ≤ 16) := by
        show _ ≤ _
        have h1 := (Ad.rwhy_iff _).1 HFI.out.1
        rw [List.length_append] at h1
        omega
      obtain ⟨y, hy⟩ : ∃ y, y = l[k]! := ⟨_, rfl⟩
      have HY := hide hy
      rw [← Ad.get_bang l k hkl, ← hy] at e0 e1 e2 e3 e4
      rw [← hy] at HFI
      clear hy
      obtain ⟨y0, y1, y2, y3, y4⟩ := y
      simp only at e0 e1 e2 e3 e4
      obtain ⟨N, hN⟩ : ∃ N, N = wr.heap.size := ⟨_, rfl⟩
      go_wp2_with (at_builtin; go_must (refine append_rule (w0 := w) rfl _ _ rfl _ b.length b rfl ?c0 ⟨wr.heap.size + 1, 0, none⟩ 1 (y0, y1, y2, y3, y4) ?c1 ?c2 ?c3 ?c4 ?_))
      case c0 => exact (HO.out.alloc _).alloc _
      case c1 => simp [Act.eval]
      case c2 =>
        intro j u hu
        have hh := heap_alloc_last (wr.alloc (.cells #[.int .u32 y0, .int .i64 y1, .int .i64 y2, .int .i64 y3, .bool y4] 32)) (.cells #[.int .u32 y0, .int .i64 y1, .int .i64 y2, .int .i64 y3, .bool y4] 32)
        rw [show (wr.alloc (.cells #[.int .u32 y0, .int .i64 y1, .int .i64 y2, .int .i64 y3, .bool y4] 32)).heap.size = wr.heap.size + 1 by simp] at hh
        exact World.news_of_block hh j u hu
      case c3 => have := hbl.out; omega
      case c4 => exact balloc (balloc HB.out _) _
      intro v' w2 hnew hold hb2
      obtain ⟨no, nc, rfl⟩ := row_slice hnew
      have hl1 : b.length + 1 = (b ++ [(y0, y1, y2, y3, y4)]).length := by simp
      rw [hl1] at hnew ⊢
      have HN := hide hnew
      have HO2 := hide hold
      have B2 := hide hb2
      have CI := hide (idle_good no nc (b ++ [(y0, y1, y2, y3, y4)]) b.length w2 (Ad.slotR_own hnew) HFI.out.2 HFI.out.1)
      clear hnew hold hb2 e0 e1 e2 e3 e4 hl1
      generalize hL : b ++ [(y0, y1, y2, y3, y4)] = L at *
      have HL := hide hL
      clear hL
      go_wp2_with fail
      refine CI.out.mono ?_
      rintro e w3 ⟨r, rfl, hid, hb3⟩
      have HID := hide hid
      have B3 := hide (bthen B2.out hb3)
      have HN3 := hide (row_below HN.out hb3)
      have HO3 := hide (row_below HO2.out hb3)
      clear hid hb3
      cases r
      · go_wp2_with fail
        refine ⟨⟨k + 1, L, no, nc, by go_num, rfl, by omega, ?_, HN3.out, B3.out⟩, by simp [intOf] <;> omega⟩
        refine ⟨b, HBA.out, .inl ⟨?_, ?_⟩⟩
        · rw [← HY.out, HL.out]; exact HID.out
        · rw [← HY.out, HL.out]
      · go_wp2_with fail
        refine ⟨⟨k + 1, b, bo, bc, by go_num, rfl, by omega, ?_, HO3.out, B3.out⟩, by simp [intOf] <;> omega⟩
        refine ⟨b, HBA.out, .inr ⟨?_, rfl⟩⟩
        rw [← HY.out, HL.out]; exact HID.out
    · have hkl' : ¬ (k : Int) < (l.length : Int) := by omega
      have hkE : k = l.length := by omega
      subst hkE
      go_wp2_with fail
      exact bodyPost_ret (v := .tuple #[.slice bo b.length bc, .int .i64 0]) (by simp [results, Tryd.results24, go_sem]) rfl ⟨b, bo, ⟨bc, rfl⟩, HBA.out, Ad.slotR_own HO.out, HB.out⟩
end Go.Proofs.YtkpoanjcalolkaaDoor
