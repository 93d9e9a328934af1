/- Part of the proof. -/
import Derived.Test.YtnadhplhnfpeaaaGreatDoorAZ
import Derived.Test.YtnadhplhnfpeaaaGreatDoorAT3
namespace Go.Proofs.YtnadhplhnfpeaaaGreatDoor.Lx
open Go.RowKit Go.Sort
set_option maxRecDepth 100000 in
theorem refLetter_is (c : UInt8) (w : World) : Calls Tryz.prog 25 #[.int .u8 (c.toNat : Int)] w fun e w' => e = .returned (.bool (ltr c)) ∧ w = w' := by
 go_enter Tryz.func25, Tryz.ntmps25
 go_wp2_with fail
 all_goals
  go_ret
  refine ⟨ret_bool ?_, rfl⟩
  unfold ltr
  rw [Bool.eq_iff_iff]
  simp only [Bool.or_eq_true, decide_eq_true_eq, beq_iff_eq, true_iff]
  try omega
def txo (l : List UInt8) (a : Nat) : Nat × Int :=
  match l.drop (a + 1 + tw txc l (a + 1)) with
  | [] => (a, 3)
  | d :: _ => if d.toNat = 10 then (a, 3) else if d.toNat ≠ 34 then (a + 1 + tw txc l (a + 1), 4) else if 64 < tw txc l (a + 1) then (a, 2) else (a + 1 + tw txc l (a + 1), 0)
set_option maxHeartbeats 1000000 in
set_option maxRecDepth 100000 in
theorem refText_is (s : ByteArray) (a : Nat) (hs : s.size ≤ 100000) (ha : a < s.size) (w : World) :
    Calls Tryz.prog 26 #[.string s, .int .i64 (a : Int)] w fun e w' => e = .returned (.tuple #[.int .i64 ((txo (lst s) a).1 : Nat), .int .i64 (txo (lst s) a).2]) ∧ w = w' := by
 go_enter Tryz.func26, Tryz.ntmps26
 go_wp2_with fail
 go_loopw [6] (fun v6 wr => ∃ i : Nat, v6 = .int .i64 (i : Int) ∧ a + 1 ≤ i ∧ i ≤ s.size ∧ i + tw txc (lst s) i = a + 1 + tw txc (lst s) (a + 1) ∧ w = wr) (fun v6 _ => s.size - (intOf v6).toNat)
 case atStart => exact ⟨a + 1, by go_num, by omega, by omega, rfl, rfl⟩
 case round =>
  obtain ⟨i, rfl, hi, his, hit, rfl⟩ := hrel
  rcases Nat.lt_or_ge i s.size with hlt | hge
  ·
   have hil : i < (lst s).length := by simpa using hlt
   have h1 : (i : Int) < (s.size : Int) := by omega
   have hne : ¬ (i : Int) = (s.size : Int) := by omega
   have hget : s[i] = (lst s)[i] := rfl
   have hx256 : (lst s)[i].toNat < 256 := (lst s)[i].toNat_lt
   obtain ⟨c, hc⟩ : ∃ c, (lst s)[i] = c := ⟨_, rfl⟩
   cases ht : txc c with
   | true =>
    have hw := tw_step (p := txc) hil (by rw [hc]; exact ht)
    obtain ⟨k1, k2, k3⟩ := (txc_iff c).1 ht
    rw [hc] at hget hx256
    have e1 : (32 : Int) ≤ (s[i].toNat : Int) := by rw [hget]; omega
    have e2 : (s[i].toNat : Int) ≤ 126 := by rw [hget]; omega
    have e3 : ¬ (s[i].toNat : Int) = 34 := by rw [hget]; omega
    clear hget
    go_wp2_with fail
    exact ⟨⟨i + 1, by go_num, by omega, by omega, by omega, trivial⟩, by simp [intOf]; omega⟩
   | false =>
    have hw := tw_stop (p := txc) hil (by rw [hc]; exact ht)
    have hn := mt (txc_iff c).2 (by rw [ht]; decide)
    have hi' : a + 1 + tw txc (lst s) (a + 1) = i := by omega
    have HO : Hid (txo (lst s) a = if c.toNat = 10 then (a, 3) else if c.toNat ≠ 34 then (i, 4) else if 64 < i - a - 1 then (a, 2) else (i, 0)) := by
     show _ = _
     unfold txo
     rw [hi', List.drop_eq_getElem_cons hil, hc, show tw txc (lst s) (a + 1) = i - a - 1 by omega]
    clear hi' hit hw
    rw [hc] at hget hx256
    by_cases k10 : c.toNat = 10
    ·
     have e1 : ¬ (32 : Int) ≤ (s[i].toNat : Int) := by rw [hget, k10]; decide
     have e2 : (s[i].toNat : Int) = 10 := by rw [hget, k10]; rfl
     have HO' := HO.out
     rw [if_pos k10] at HO'
     clear HO hget
     go_wp2_with fail
     exact bodyPost_ret (v := .tuple #[.int .i64 (a : Int), .int .i64 3]) (by simp [results, Tryz.results26, go_sem]) rfl ⟨by first | rfl | rw [HO'], rfl⟩
    have e2 : ¬ (s[i].toNat : Int) = 10 := by rw [hget]; omega
    by_cases k34 : c.toNat = 34
    ·
     have e3 : (s[i].toNat : Int) = 34 := by rw [hget, k34]; rfl
     have e4 : (32 : Int) ≤ (s[i].toNat : Int) := by rw [e3]; decide
     have e5 : (s[i].toNat : Int) ≤ 126 := by rw [e3]; decide
     have HO' := HO.out
     rw [if_neg k10, if_neg (by simp [k34])] at HO'
     clear HO hget
     by_cases h64 : 64 < i - a - 1
     ·
      rw [if_pos h64] at HO'
      have e6 : (64 : Int) < (i : Int) - (a : Int) - 1 := by omega
      go_wp2_with fail
      exact bodyPost_ret (v := .tuple #[.int .i64 (a : Int), .int .i64 2]) (by simp [results, Tryz.results26, go_sem]) rfl ⟨by first | rfl | rw [HO'], rfl⟩
     rw [if_neg h64] at HO'
     have e6 : ¬ (64 : Int) < (i : Int) - (a : Int) - 1 := by omega
     go_wp2_with fail
     exact bodyPost_ret (v := .tuple #[.int .i64 (i : Int), .int .i64 0]) (by simp [results, Tryz.results26, go_sem]) rfl ⟨by first | rfl | rw [HO'], rfl⟩
    have e3 : ¬ (s[i].toNat : Int) = 34 := by rw [hget]; omega
    have HO' := HO.out
    rw [if_neg k10, if_pos k34] at HO'
    clear HO
    have e7 : ¬ (32 : Int) ≤ (s[i].toNat : Int) ∨ ((32 : Int) ≤ (s[i].toNat : Int) ∧ ¬ (s[i].toNat : Int) ≤ 126) := by rw [hget]; omega
    clear hget hn
    rcases e7 with e7 | ⟨e7, e8⟩
    focus
     skip
    rotate_left
    all_goals
     go_wp2_with fail
     all_goals first | (exfalso; rename_i hh; rcases hh with hh | hh <;> rw [beq_iff_eq] at hh <;> omega) | exact bodyPost_ret (v := .tuple #[.int .i64 (i : Int), .int .i64 4]) (by simp [results, Tryz.results26, go_sem]) rfl ⟨by first | rfl | rw [HO'], rfl⟩
  obtain rfl : i = s.size := by omega
  have hw := tw_end (p := txc) (l := lst s) (i := s.size) (by simp)
  have HO : Hid (txo (lst s) a = (a, 3)) := by
   show _ = _
   unfold txo
   rw [show a + 1 + tw txc (lst s) (a + 1) = s.size by omega, List.drop_of_length_le (by simp)]
  clear hit hw
  have HO' := HO.out
  clear HO
  have h1 : ¬ (s.size : Int) < (s.size : Int) := by omega
  go_wp2_with fail
  exact bodyPost_ret (v := .tuple #[.int .i64 (a : Int), .int .i64 3]) (by simp [results, Tryz.results26, go_sem]) rfl ⟨by first | rfl | rw [HO'], rfl⟩
theorem stp_text {l : List UInt8} {k : Nat} (h : k < l.length) (hc : l[k].toNat = 34) (ho : (txo l k).2 = 0) : stp (l.drop k) 2 = .go ((txo l k).1 + 1 - k) 1 (some (1, (l.drop (k + 1)).take ((txo l k).1 - (k + 1)))) ∧ k + 1 ≤ (txo l k).1 ∧ (txo l k).1 < l.length := by
 have hb : blk l[k] = false := by unfold blk; rw [hc]; decide
 have hm : mrk l[k] = false := by unfold mrk; rw [hc]; decide
 have e1 : (l.drop (k + 1)).takeWhile txc = (l.drop (k + 1)).take (tw txc l (k + 1)) := (take_takeWhile txc _).symm
 have hle := tw_le txc l (k + 1)
 have hpart := List.take_append_drop (tw txc l (k + 1)) (l.drop (k + 1))
 rw [← e1, List.drop_drop] at hpart
 have hlen : ((l.drop (k + 1)).takeWhile txc).length = tw txc l (k + 1) := rfl
 unfold txo at ho ⊢
 cases hd : l.drop (k + 1 + tw txc l (k + 1)) with
 | nil => rw [hd] at ho; simp at ho
 | cons d r =>
  have hlen2 := congrArg List.length hd
  rw [List.length_drop, List.length_cons] at hlen2
  rw [hd] at ho hpart
  simp only at ho ⊢
  split at ho
  ·
   simp at ho
  rename_i h10
  split at ho
  ·
   simp at ho
  rename_i h34
  split at ho
  ·
   simp at ho
  rename_i h64
  rw [if_neg h10, if_neg h34, if_neg h64]
  simp only
  refine ⟨?_, by omega, by omega⟩
  have ed : d = 34 := UInt8.toNat_inj.1 (by simpa using h34)
  subst ed
  have hq : (l.drop (k + 1)).takeWhile inq = (l.drop (k + 1)).takeWhile txc := by
   rw [← hpart, takeWhile_stop (by decide)]
   rw [hpart]
   exact takeWhile_all (fun c hc => txc_inq (mem_takeWhile c hc))
  rw [List.drop_eq_getElem_cons h]
  simp only [stp, bgn]
  rw [if_neg (by rw [hb]; decide), if_neg (by rw [hc]; decide), if_neg (by rw [hm]; decide), if_pos ⟨hc, by decide⟩]
  unfold quo
  rw [hq, hlen, List.drop_drop, hd]
  simp only
  rw [if_neg (by decide), if_neg h64, if_neg (by rw [takeWhile_all (fun c hc => mem_takeWhile c hc), hlen]; omega), e1]
  congr 1
  ·
   omega
  congr 3
  omega
theorem stp_mrk {l : List UInt8} {k : Nat} {f : Nat} (h : k < l.length) (hb : blk l[k] = false) (hc : ¬ l[k].toNat = 35) (hm : mrk l[k] = true) : stp (l.drop k) f = .go 1 2 (some (2, [l[k]])) := by
 rw [List.drop_eq_getElem_cons h]
 simp only [stp, bgn]
 rw [if_neg (by rw [hb]; decide), if_neg hc, if_pos hm]
theorem stp_word {l : List UInt8} {k : Nat} (h : k < l.length) (hb : blk l[k] = false) (hc : ¬ l[k].toNat = 35) (hm : mrk l[k] = false) (hq : ¬ l[k].toNat = 34) (hl : ltr l[k] = true) : stp (l.drop k) 2 = if 32 < tw ltr l k then .fault 0 2 else .go (tw ltr l k) 0 (some (0, (l.drop k).take (tw ltr l k))) := by
 have e1 : (l.drop k).takeWhile ltr = (l.drop k).take (tw ltr l k) := (take_takeWhile ltr _).symm
 rw [← e1]
 unfold tw
 rw [List.drop_eq_getElem_cons h]
 simp only [stp, bgn]
 rw [if_neg (by rw [hb]; decide), if_neg hc, if_neg (by rw [hm]; decide), if_neg (fun e => hq e.1), if_pos ⟨hl, by decide⟩]
 rfl
def RIs (s : ByteArray) (ts : List Tok) : Prop := ts = [] ∨ (Sc 0 (lst s) 2 ts none ∧ s.size ≤ 8192)
end Go.Proofs.YtnadhplhnfpeaaaGreatDoor.Lx
