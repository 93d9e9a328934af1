/- The law AspathTexts, over the contracts of the program's functions. -/
import Derived.Test.YtnbedjgjkoeflaaDoorJ1
namespace Go.Proofs.YtnbedjgjkoeflaaDoor
open Go.RowKit Go.Sort

theorem Is.parse_len (l : List UInt8) (y : List Int) (q : Int) (h : Is.parse l = (y, q)) : y.length ≤ 16 := by
  unfold Is.parse at h
  split at h
  · simp at h; rw [h.1]; decide
  · split at h
    · split at h
      · split at h
        · simp at h; rw [h.1]; decide
        · simp only [Prod.mk.injEq] at h
          rw [← h.1, List.length_map]
          omega
      · simp at h; rw [h.1]; decide
    · simp at h; rw [h.1]; decide
theorem Is.text_len (l : List Int) : (Is.text l).length ≤ 352 := by
  unfold Is.text
  split
  · rename_i hm
    have h1 := Is.joinTo_len l hm l.length (Nat.le_refl _)
    have h2 := ((Is.may_iff l).1 hm).1
    unfold Is.joinTo at h1
    rw [List.take_length] at h1
    omega
  · decide
theorem Is.parse_text (l : List Int) (hm : Is.may l = true) : Is.parse (Is.text l) = (l, 0) := by
  unfold Is.text
  rw [if_pos hm]
  have hmi := (Is.may_iff l).1 hm
  have has : ∀ n ∈ l, Is.as n = true := by
    intro n hn
    obtain ⟨k, hk, rfl⟩ := List.getElem_of_mem hn
    exact hmi.2 k hk
  have hnat : ∀ n ∈ l, Ad.isNum (Lib.itoa n) = true ∧ Ad.num (Lib.itoa n) = n ∧ Ad.digs (Lib.itoa n) = true := by
    intro n hn
    have := (Is.as_iff n).1 (has n hn)
    exact Ad.itoa_nat n (by omega)
  cases hl : l with
  | nil => decide
  | cons a r =>
    rw [← hl]
    have hne : l.map Lib.itoa ≠ [] := by rw [hl]; simp
    have hsp : Sp.split (Lib.join (l.map Lib.itoa) [32]) = l.map Lib.itoa := by
      refine Sp.split_join _ hne fun f hf => ?_
      obtain ⟨n, hn, rfl⟩ := List.mem_map.1 hf
      exact Ad.digs_not _ (hnat n hn).2.2 32 (by decide)
    have hj : Lib.join (l.map Lib.itoa) [32] ≠ [] := by
      intro e
      rw [e] at hsp
      have h1 : (l.map Lib.itoa) = [[]] := by rw [← hsp]; rfl
      have h2 : ([] : List UInt8) ∈ l.map Lib.itoa := by rw [h1]; simp
      obtain ⟨n, hn, h3⟩ := List.mem_map.1 h2
      have := (hnat n hn).1
      rw [h3] at this
      exact absurd this (by decide)
    have h1 : (l.map Lib.itoa).all Ad.isNum = true := by
      rw [List.all_eq_true]
      intro f hf
      obtain ⟨n, hn, rfl⟩ := List.mem_map.1 hf
      exact (hnat n hn).1
    have h2 : (l.map Lib.itoa).map Ad.num = l := by
      rw [List.map_map]
      conv => rhs; rw [← List.map_id l]
      exact List.map_congr_left fun n hn => (hnat n hn).2.1
    have h3 : l.all Is.as = true := List.all_eq_true.2 has
    unfold Is.parse
    rw [if_neg hj, hsp, if_pos h1, h2, if_pos h3, List.length_map, if_neg (by omega)]

set_option maxHeartbeats 4000000 in
theorem texts_long {T : World → Prop} (K : Kit T) (ao : Option Addr) (ca na : Nat) (s : ByteArray) (w : World) (hT : T w) (h : 300 < na ∨ (na ≤ 300 ∧ 2000 < s.size)) :
    Calls Tryd.prog 3 #[.slice ao na ca, .string s] w fun e w' => e = .returned (.bool true) ∧ Below w.heap.size w w' := by
  have CL := hide (lives_is K w hT)
  clear hT
  rcases h with h | ⟨h1, h⟩
  · have F1 := hide (fun W => few_is ao na ca false (by simp; omega) W)
    clear h
    go_enter Tryd.func3, Tryd.ntmps3
    go_wp2_with fail
    refine (F1.out _).mono ?_
    rintro e w1 ⟨rfl, rfl⟩
    go_wp2_with fail
    refine CL.out.mono ?_
    rintro e w2 ⟨rfl, hb2⟩
    go_wp2_with fail
    go_ret
    exact ⟨rfl, hb2⟩
  · have F1 := hide (fun W => few_is ao na ca true (by simp; omega) W)
    have h' : (2000 : Int) < (s.size : Int) := by omega
    clear h h1
    go_enter Tryd.func3, Tryd.ntmps3
    go_wp2_with fail
    refine (F1.out _).mono ?_
    rintro e w1 ⟨rfl, rfl⟩
    go_wp2_with fail
    refine CL.out.mono ?_
    rintro e w2 ⟨rfl, hb2⟩
    go_wp2_with fail
    go_ret
    exact ⟨rfl, hb2⟩

set_option maxHeartbeats 8000000 in
theorem texts_short {T T2 : World → Prop} (K : Kit T) (K2 : ParseKit T2) (ao : Option Addr) (ca : Nat) (l : List Int) (s : ByteArray) (y z : List Int) (q q' : Int) (m : Bool) (t : ByteArray) (w : World) (hT : T w) (hT2 : T2 w) (hA : Is.slot w ao l) (hl : l.length ≤ 300) (hs : s.size ≤ 2000)
    (hy : Is.parse s.data.toList = (y, q)) (hm : Is.may l = m) (ht : t = ⟨(Is.text l).toArray⟩) (hz : Is.parse t.data.toList = (z, q')) (hq : m = true → q' = 0 ∧ z = l) :
    Calls Tryd.prog 3 #[.slice ao l.length ca, .string s] w fun e w' => e = .returned (.bool true) ∧ Below w.heap.size w w' := by
  have hyl := Is.parse_len _ y q hy
  have hts : t.size ≤ 2000 := by rw [ht]; exact Nat.le_trans (Is.text_len l) (by decide)
  have F1 := hide (fun W => few_is ao l.length ca true (by simpa using hl) W)
  have CP := hide (fun W (hW : Below w.heap.size w W) => K2.parse s y q hs hy W (K2.on hT2 hW))
  have CP2 := hide (fun W => refParse_is s y q W hs hy)
  have CM := hide (fun W (hW : Below w.heap.size w W) => K.may ao ca l m hm W (K.on hT hW) (Is.slot_below hA hW) (by omega))
  have CM2 := hide (fun W (hW : Below w.heap.size w W) => refMay_is ao ca l m hm W (Is.slot_below hA hW) (by omega))
  have CT := hide (fun W (hW : Below w.heap.size w W) => K.text ao ca l t ht W (K.on hT hW) (Is.slot_below hA hW) (by omega))
  have CT2 := hide (fun W (hW : Below w.heap.size w W) => refText_is ao ca l t ht W (Is.slot_below hA hW) (by omega))
  have CZ := hide (fun W (hW : Below w.heap.size w W) => K2.parse t z q' hts hz W (K2.on hT2 hW))
  have CL := hide (fun W (hW : Below w.heap.size w W) => lives_is K W (K.on hT hW))
  have HA := hide (fun W (hW : Below w.heap.size w W) => Is.slot_below hA hW)
  have hs' : ¬ (2000 : Int) < (s.size : Int) := by omega
  have HQ := hide hq
  clear hT hT2 hA hy hm ht hz hts hq
  go_enter Tryd.func3, Tryd.ntmps3
  go_wp2_with fail
  refine (F1.out _).mono ?_
  rintro e w1 ⟨rfl, rfl⟩
  go_wp2_with fail
  refine (CP.out _ (brefl _)).mono ?_
  rintro e w2 ⟨o1, c1, rfl, hown, hb2⟩
  have P2 := hide (Is.slot_own hown)
  have B2 := hide hb2
  clear hown hb2 CP
  go_wp2_with fail
  refine (CP2.out _).mono ?_
  rintro e w3 ⟨o2, c2, rfl, hown, hb3⟩
  have P3 := hide (Is.slot_below P2.out hb3)
  have Q3 := hide (Is.slot_own hown)
  have B3 := hide (bthen B2.out hb3)
  clear hown hb3 CP2 P2 B2
  go_wp2_with fail
  refine (CM.out _ B3.out).mono ?_
  rintro e w4 ⟨rfl, hb4⟩
  have P4 := hide (Is.slot_below P3.out hb4)
  have Q4 := hide (Is.slot_below Q3.out hb4)
  have B4 := hide (bthen B3.out hb4)
  clear hb4 P3 Q3 B3
  go_wp2_with fail
  refine (CM2.out _ B4.out).mono ?_
  rintro e w5 ⟨rfl, rfl⟩
  go_wp2_with fail
  refine (CT.out _ B4.out).mono ?_
  rintro e w6 ⟨rfl, hb6⟩
  have P6 := hide (Is.slot_below P4.out hb6)
  have Q6 := hide (Is.slot_below Q4.out hb6)
  have B6 := hide (bthen B4.out hb6)
  clear hb6 P4 Q4 B4
  go_wp2_with fail
  refine (CT2.out _ B6.out).mono ?_
  rintro e w7 ⟨rfl, hb7⟩
  have CS := hide (same_is o1 o2 c1 c2 y y true (by simp) w7 (Is.slot_below P6.out hb7) (Is.slot_below Q6.out hb7) (by omega))
  have B7 := hide (bthen B6.out hb7)
  clear hb7 P6 Q6 B6
  go_wp2_with fail
  refine CS.out.mono ?_
  rintro e w8 ⟨rfl, hb8⟩
  have B8 := hide (bthen B7.out hb8)
  clear hb8 B7 CS
  go_wp2_with fail
  refine (CT.out _ B8.out).mono ?_
  rintro e w9 ⟨rfl, hb9⟩
  have B9 := hide (bthen B8.out hb9)
  clear hb9 B8
  go_wp2_with fail
  refine (CZ.out _ B9.out).mono ?_
  rintro e w10 ⟨o3, c3, rfl, hown, hb10⟩
  have Z10 := hide (Is.slot_own hown)
  have B10 := hide (bthen B9.out hb10)
  clear hown hb10 B9 CZ
  go_wp2_with fail
  refine (CM.out _ B10.out).mono ?_
  rintro e w11 ⟨rfl, hb11⟩
  have Z11 := hide (Is.slot_below Z10.out hb11)
  have B11 := hide (bthen B10.out hb11)
  clear hb11 B10 Z10
  cases m
  · go_wp2_with fail
    refine (CL.out _ B11.out).mono ?_
    rintro e w12 ⟨rfl, hb12⟩
    go_wp2_with fail
    go_ret
    exact ⟨rfl, bthen B11.out hb12⟩
  · obtain ⟨rfl, rfl⟩ := HQ.out rfl
    have CS := hide (same_is o3 ao c3 ca z z true (by simp) w11 Z11.out (HA.out _ B11.out) (by omega))
    go_wp2_with fail
    refine CS.out.mono ?_
    rintro e w12 ⟨rfl, hb12⟩
    have B12 := hide (bthen B11.out hb12)
    clear hb12 CS
    go_wp2_with fail
    refine (CL.out _ B12.out).mono ?_
    rintro e w13 ⟨rfl, hb13⟩
    go_wp2_with fail
    go_ret
    exact ⟨rfl, bthen B12.out hb13⟩

theorem texts_law {T T2 : World → Prop} (K : Kit T) (K2 : ParseKit T2) (ao : Option Addr) (ca : Nat) (l : List Int) (s : ByteArray) (w : World) (hT : T w) (hT2 : T2 w) (hA : Is.slot w ao l) :
    Calls Tryd.prog 3 #[.slice ao l.length ca, .string s] w fun e w' => e = .returned (.bool true) ∧ Below w.heap.size w w' := by
  by_cases ha : l.length ≤ 300
  · by_cases hb : s.size ≤ 2000
    · obtain ⟨z, q', hz⟩ : ∃ z q', Is.parse (⟨(Is.text l).toArray⟩ : ByteArray).data.toList = (z, q') := ⟨_, _, rfl⟩
      refine texts_short K K2 ao ca l s _ z _ q' _ ⟨(Is.text l).toArray⟩ w hT hT2 hA ha hb rfl rfl rfl hz fun hm => ?_
      have h : Is.parse (⟨(Is.text l).toArray⟩ : ByteArray).data.toList = (l, 0) := Is.parse_text l hm
      rw [hz] at h
      simp only [Prod.mk.injEq] at h
      exact ⟨h.2, h.1⟩
    · exact texts_long K ao ca _ s w hT (.inr ⟨ha, by omega⟩)
  · exact texts_long K ao ca _ s w hT (.inl (by omega))
end Go.Proofs.YtnbedjgjkoeflaaDoor
