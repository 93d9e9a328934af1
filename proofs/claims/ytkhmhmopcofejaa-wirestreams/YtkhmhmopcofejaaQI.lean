import Derived.Test.YtkhmhmopcofejaaQH
/- The parts of an update's bytes; rows of prefixes in new memory. -/
namespace Go.Proofs.Ytkhmhmopcofejaa
open Go.RowKit Go.Sort

theorem frame_drop (k : Nat) (d : List UInt8) : (frame k d).drop 19 = d := by
  unfold frame
  rw [List.drop_left' (by simp [ff, num_length])]
def n1 (l : List UInt8) : Nat := val ((l.drop 19).take 2)
def n2 (l : List UInt8) : Nat := val ((l.drop (21 + n1 l)).take 2)
def p1 (l : List UInt8) : List UInt8 := (l.drop 21).take (n1 l)
def p2 (l : List UInt8) : List UInt8 := (l.drop (23 + n1 l)).take (n2 l)
def p3 (l : List UInt8) : List UInt8 := l.drop (23 + n1 l + n2 l)
/-- A head that is an update's, of just these bytes. -/
def hdU (l : List UInt8) : Prop := hdOk l ∧ hdN l = l.length ∧ kd l = 2
theorem enc_head {v : Up} (hv : v.may) {l : List UInt8} (he : v.enc = l) : hdU l := by
  subst he
  have hb := Up.body_length hv
  have hl : v.enc.length = 19 + v.body.length := Up.enc_length
  have h1 : v.enc.take 16 = List.replicate 16 255 := by
    unfold Up.enc frame
    rw [List.append_assoc, List.append_assoc, List.take_left' (by rfl)]
    rfl
  have h2 : hdN v.enc = 19 + v.body.length := by
    unfold hdN Up.enc frame
    rw [List.append_assoc, List.append_assoc, List.drop_left' (by rfl), List.take_left' (num_length _ _), val_num _ _ (by omega)]
  have h3 : kd v.enc = 2 := by
    unfold kd Up.enc frame
    rw [List.append_assoc, List.drop_left' (by rw [List.length_append, num_length]; rfl)]
    rfl
  refine ⟨⟨h1, by omega, by omega, ?_, ?_⟩, by omega, h3⟩
  · show 1 ≤ kd v.enc; omega
  · show kd v.enc ≤ 4; omega
theorem enc_parts {v : Up} (hv : v.may) {l : List UInt8} (he : v.enc = l) : 23 + n1 l + n2 l ≤ l.length ∧ p1 l = pfxs v.wd ∧ p2 l = v.ab ∧ p3 l = pfxs v.td := by
  have hb := Up.body_length hv
  have h1 := pfxs_length hv.1
  have h2 := pfxs_length hv.2.1
  have h3 := Up.ab_length hv
  have e0 : l.drop 19 = v.body := by rw [← he]; exact frame_drop 2 v.body
  have e1 : n1 l = (pfxs v.wd).length := by
    unfold n1
    rw [e0]
    unfold Up.body
    rw [List.take_left' (num_length _ _), val_num _ _ (by omega)]
  have e2 : l.drop 21 = pfxs v.wd ++ (num v.ab.length 2 ++ (v.ab ++ pfxs v.td)) := by
    rw [show 21 = 19 + 2 from rfl, ← List.drop_drop, e0]
    unfold Up.body
    rw [List.drop_left' (num_length _ _)]
  have e3 : l.drop (21 + n1 l) = num v.ab.length 2 ++ (v.ab ++ pfxs v.td) := by
    rw [← List.drop_drop, e2, e1, List.drop_left]
  have e4 : n2 l = v.ab.length := by
    unfold n2
    rw [e3, List.take_left' (num_length _ _), val_num _ _ (by omega)]
  have e5 : l.drop (23 + n1 l) = v.ab ++ pfxs v.td := by
    rw [show 23 + n1 l = 21 + n1 l + 2 by omega, ← List.drop_drop, e3, List.drop_left' (num_length _ _)]
  have e6 : l.drop (23 + n1 l + n2 l) = pfxs v.td := by rw [← List.drop_drop, e5, e4, List.drop_left]
  refine ⟨?_, ?_, ?_, e6⟩
  · have hl : l.length = 19 + v.body.length := by rw [← he]; exact Up.enc_length
    rw [e1, e4, hl]
    unfold Up.body
    simp only [List.length_append, num_length]
    omega
  · unfold p1
    rw [e2, e1, List.take_left]
  · unfold p2
    rw [e5, e4, List.take_left]
/-- No update has these bytes. -/
def NoUp (l : List UInt8) : Prop := ∀ v : Up, v.may → v.enc ≠ l
theorem no_head {l : List UInt8} (h : ¬ hdU l) : NoUp l := fun _v hv he => h (enc_head hv he)
theorem no_short {l : List UInt8} (h : l.length < 23 + n1 l + n2 l) : NoUp l := fun v hv he => by have := (enc_parts hv he).1; omega
theorem no_p1 {l : List UInt8} (h : ¬ ∃ m, (∀ p ∈ m, Gp p) ∧ pfxs m = p1 l) : NoUp l := fun v hv he => h ⟨v.wd, hv.1.2.1, (enc_parts hv he).2.1.symm⟩
theorem no_p3 {l : List UInt8} (h : ¬ ∃ m, (∀ p ∈ m, Gp p) ∧ pfxs m = p3 l) : NoUp l := fun v hv he => h ⟨v.td, hv.2.1.2.1, (enc_parts hv he).2.2.2.symm⟩
theorem no_p2 {l : List UInt8} (h : NoAt (p2 l)) : NoUp l := by
  intro v hv he
  have e := (enc_parts hv he).2.2.1
  unfold Up.ab at e
  by_cases ht : v.td = []
  · rw [if_pos ht] at e
    exact h.2 e
  · rw [if_neg ht] at e
    exact h.1 v.at_ (Up.may_fits hv ht) e.symm
theorem is_up {l : List UInt8} {u : Up} (h1 : ∀ p ∈ u.wd, Gp p) (h2 : pfxs u.wd = p1 l) (h3 : ∀ p ∈ u.td, Gp p) (h4 : pfxs u.td = p3 l) (h5 : IsAt (p2 l) u.at_) : ∀ v : Up, v.may → v.enc = l → u = v := by
  intro v hv he
  obtain ⟨_, e1, e2, e3⟩ := enc_parts hv he
  obtain ⟨uw, ut, ua⟩ := u
  obtain ⟨vw, vt, va⟩ := v
  simp only at *
  obtain rfl : uw = vw := pfxs_inj h1 hv.1.2.1 (h2.trans e1)
  obtain rfl : ut = vt := pfxs_inj h3 hv.2.1.2.1 (h4.trans e3)
  congr 1
  unfold Up.ab at e2
  simp only at e2
  by_cases ht : ut = []
  · rw [if_pos ht] at e2
    have h6 := hv.2.2.2
    rw [if_pos ht] at h6
    rw [h5.2 e2]
    exact h6.symm
  · rw [if_neg ht] at e2
    exact h5.1 va (Up.may_fits hv ht) e2.symm
/-- A row of prefixes in new memory. -/
structure Pw (w : World) (N : Nat) (ao : Option Addr) (c : Nat) (l : List (Int × Int)) : Prop where
  row : Ax.Ad.rowAt w ao l
  cam : camB ao l.length c
  far : Far w ao N
theorem Pw.kept {w w' : World} {N x c : Nat} {ao : Option Addr} {l : List (Int × Int)} (h : Pw w N ao c l) (hg : w.grownBy w' (some x)) (hx : x < N) : Pw w' N ao c l := by
  refine ⟨?_, h.cam, h.far.mono hg.size⟩
  rcases h.row with e | ⟨b, off, e, hr⟩
  · exact .inl e
  · exact .inr ⟨b, off, e, fun j u hu => hg.cell (a := ⟨b, off + j, none⟩) (hr j u hu) (h.far.ne hx ⟨b, off, none⟩ e)⟩
theorem pw_own {w : World} {B N : Nat} {v : Value} {L : List (Int × Int)} (h : w.ownsRow B 56 2 v L.length (Ax.Ad.cells L)) (hN : N ≤ B) : ∃ o c, v = .slice o L.length c ∧ Pw w N o c L := by
  obtain ⟨o, c, rfl⟩ := row_slice h
  refine ⟨o, c, rfl, Ax.Ad.rowAt_own h, ?_, own_far h hN⟩
  have hc := own_came h
  refine ⟨hc.1, hc.2, ?_⟩
  rcases h.2 with ⟨hv, h0⟩ | ⟨g, cap, cur, hv, _, _, hn, _⟩
  · rw [h0]; exact Nat.zero_le _
  · simp only [Value.slice.injEq] at hv; rw [hv.2.2]; exact hn
end Go.Proofs.Ytkhmhmopcofejaa
