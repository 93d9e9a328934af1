/- Part of the proof. -/
import Derived.Test.YtnadhplhnfpeaaaGreatDoorAZ
import Derived.Test.YtnadhplhnfpeaaaGreatDoorA30
import Derived.Test.YtnadhplhnfpeaaaGreatDoorA35
import Derived.Test.YtnadhplhnfpeaaaGreatDoorA36
import Derived.Test.YtnadhplhnfpeaaaGreatDoorA37
import Derived.Test.YtnadhplhnfpeaaaGreatDoorProg
import Derived.WalkKit
import Derived.WalkSpells
import Derived.WalkLawsBesides
import Derived.Deep.QuietTactic
import Derived.BigQuiet
import Derived.Lib.QuietBelow
import Derived.Deep.Cut
import Derived.Lib.Builder
import Derived.RegionTactic
import Derived.Laws.StructEq
import Derived.Sort.Grow
namespace Go.Proofs.YtnadhplhnfpeaaaGreatDoor.Cm
open Go.RowKit
def Co.parse (l : List UInt8) : Int × Int × Int :=
  if l = Co.nE then (65535, 65281, 0) else if l = Co.nA then (65535, 65282, 0) else if l = Co.lo then (65535, 65283, 0) else
  match Ad.cutL l 58 with
  | none => (0, 0, 4)
  | some p => if (Ad.isNum p.1 && Ad.isNum p.2) = true then (if Co.may (Ad.num p.1, Ad.num p.2) = true then (Ad.num p.1, Ad.num p.2, 0) else (0, 0, 7)) else (0, 0, 4)
theorem ba_ext {s : ByteArray} {l : List UInt8} (h : s.data.toList = l) : s = ⟨l.toArray⟩ := by
 apply ByteArray.ext
 rw [← h]
def Cells (w : World) (n : Nat) : Prop := Two w n 0 0 ∧ w.frozen? ⟨n, 0, none⟩ = false ∧ w.frozen? ⟨n, 1, none⟩ = false
theorem cells_new (w : World) : Cells (w.alloc (.cells #[.int .i64 0, .int .i64 0] 73)) w.heap.size := ⟨two_new w 0 0 73, by simp [go_sem], by simp [go_sem]⟩
theorem cells_below {w w' : World} {n : Nat} (h : Cells w n) (hb : Below w.heap.size w w') : Cells w' n :=
  ⟨two_below hb h.1, (hb.frozen (p := ⟨n, 0, none⟩) h.1.2.2.1).trans h.2.1, (hb.frozen (p := ⟨n, 1, none⟩) h.1.2.2.1).trans h.2.2⟩
theorem bset2 {w W : World} (h : Below w.heap.size w W) (v0 v1 : Value) : Below w.heap.size w ((W.setCell ⟨w.heap.size, 0, none⟩ v0).setCell ⟨w.heap.size, 1, none⟩ v1) := bset (bset h (p := ⟨w.heap.size, 0, none⟩) (Nat.le_refl _) v0) (p := ⟨w.heap.size, 1, none⟩) (Nat.le_refl _) v1
set_option maxHeartbeats 2000000 in
theorem parse_nA (w : World) : Calls Tryz.prog 119 #[.string ⟨#[110, 111, 45, 97, 100, 118, 101, 114, 116, 105, 115, 101]⟩] w fun e w' => e = .returned (.tuple #[.agg #[.int .i64 65535, .int .i64 65282], .int .i64 0]) ∧ Below w.heap.size w w' := by
 go_enter Tryz.func119, Tryz.ntmps119
 go_wp2_with fail
 have C0 := hide (cells_new w)
 have B0 := hide (balloc (brefl w) (.cells #[.int .i64 0, .int .i64 0] 73))
 refine (noAdv_is _).mono ?_
 rintro e w1 ⟨rfl, hb1⟩
 obtain ⟨⟨p0, p1, p2, p3⟩, f0, f1⟩ := cells_below C0.out hb1
 have B1 := hide (bthen B0.out hb1)
 clear hb1
 go_wp2_with fail
 exact bodyPost_ret (v := .tuple #[.agg #[.int .i64 65535, .int .i64 65282], .int .i64 0]) (by simp [results, Tryz.results119, go_sem, p0, p1]) rfl ⟨rfl, bset2 B1.out _ _⟩
set_option maxHeartbeats 2000000 in
theorem parse_lo (w : World) : Calls Tryz.prog 119 #[.string ⟨#[108, 111, 99, 97, 108]⟩] w fun e w' => e = .returned (.tuple #[.agg #[.int .i64 65535, .int .i64 65283], .int .i64 0]) ∧ Below w.heap.size w w' := by
 go_enter Tryz.func119, Tryz.ntmps119
 go_wp2_with fail
 have C0 := hide (cells_new w)
 have B0 := hide (balloc (brefl w) (.cells #[.int .i64 0, .int .i64 0] 73))
 refine (local_is _).mono ?_
 rintro e w1 ⟨rfl, hb1⟩
 obtain ⟨⟨p0, p1, p2, p3⟩, f0, f1⟩ := cells_below C0.out hb1
 have B1 := hide (bthen B0.out hb1)
 clear hb1
 go_wp2_with fail
 exact bodyPost_ret (v := .tuple #[.agg #[.int .i64 65535, .int .i64 65283], .int .i64 0]) (by simp [results, Tryz.results119, go_sem, p0, p1]) rfl ⟨rfl, bset2 B1.out _ _⟩
theorem neq_list {s : ByteArray} {l : List UInt8} (h : s.data.toList ≠ l) : (s.toList == l) = false := by
 rw [ByteArray.toList_eq]
 simpa using h
theorem dec_len : ∀ (k u : Nat), u < 10 ^ (k + 1) → (Lib.decDigits u).length ≤ k + 1
  | 0, u, h => by rw [Lib.decDigits_one (by simpa using h)]; simp
  | k + 1, u, h => by
    by_cases h10 : u < 10
    · rw [Lib.decDigits_one h10]; simp
    · have h2 : u / 10 < 10 ^ (k + 1) := by
        rw [Nat.pow_succ] at h
        exact Nat.div_lt_of_lt_mul (by rw [Nat.mul_comm]; exact h)
      have h3 := dec_len k (u / 10) h2
      have e : u = 10 * (u / 10) + u % 10 := by omega
      rw [e, dec_step _ _ (by omega) (by omega), List.length_append]
      simp
      omega
theorem isNum_digs {l : List UInt8} (h : Ad.isNum l = true) : Ad.digs l = true := by
 unfold Ad.isNum at h
 rw [Bool.and_eq_true] at h
 exact h.2
theorem num_big (t : ByteArray) (h : Ad.isNum t.data.toList = true) (h5 : 5 < t.size) : 99999 < Ad.num t.data.toList := by
 have hd := (Ad.num_bd _ (isNum_digs h)).1
 rcases Int.lt_or_le 99999 (Ad.num t.data.toList) with h1 | h1
 ·
  exact h1
 exfalso
 have h2 := Ad.itoa_num _ h
 obtain ⟨u, hu⟩ := Int.eq_ofNat_of_zero_le hd
 rw [hu] at h1 h2
 have h3 : Lib.itoa (u : Int) = Lib.decDigits u := Lib.itoa_nonneg u
 have h4 := dec_len 4 u (by omega)
 rw [← h3, h2, Ad.size_list] at h4
 omega
theorem Co.may_big {a b : Int} (h : 99999 < a ∨ 99999 < b) : Co.may (a, b) = false := by
 cases hm : Co.may (a, b)
 ·
  rfl
 have := (Co.may_iff a b).1 hm
 omega
set_option maxHeartbeats 8000000 in
set_option maxRecDepth 100000 in
theorem parse_other (s : ByteArray) (a b q : Int) (w : World) (hs : s.size ≤ 2000) (h1 : s.data.toList ≠ Co.nE) (h2 : s.data.toList ≠ Co.nA) (h3 : s.data.toList ≠ Co.lo) (h : Co.parse s.data.toList = (a, b, q)) :
    Calls Tryz.prog 119 #[.string s] w fun e w' => e = .returned (.tuple #[.agg #[.int .i64 a, .int .i64 b], .int .i64 q]) ∧ Below w.heap.size w w' := by
 have e1 : (s.toList == [110, 111, 45, 101, 120, 112, 111, 114, 116]) = false := neq_list h1
 have e2 : (s.toList == [110, 111, 45, 97, 100, 118, 101, 114, 116, 105, 115, 101]) = false := neq_list h2
 have e3 : (s.toList == [108, 111, 99, 97, 108]) = false := neq_list h3
 have HP : Hid ((match Ad.cutL s.data.toList 58 with | none => ((0, 0, 4) : Int × Int × Int) | some p => if (Ad.isNum p.1 && Ad.isNum p.2) = true then (if Co.may (Ad.num p.1, Ad.num p.2) = true then (Ad.num p.1, Ad.num p.2, 0) else (0, 0, 7)) else (0, 0, 4)) = (a, b, q)) := by
  show _ = _
  unfold Co.parse at h
  rw [if_neg h1, if_neg h2, if_neg h3] at h
  exact h
 have C0 := hide (cells_new w)
 have B0 := hide (balloc (brefl w) (.cells #[.int .i64 0, .int .i64 0] 73))
 clear h h1 h2 h3
 go_enter Tryz.func119, Tryz.ntmps119
 go_wp2_with fail
 generalize w.alloc (.cells #[.int .i64 0, .int .i64 0] 73) = W0 at *
 refine (cut_is s W0 hs).mono ?_
 rintro e w1 ⟨t, r, f, rfl, hc, ht, hr, hb1⟩
 have C1 := hide (cells_below C0.out hb1)
 have B1 := hide (bthen B0.out hb1)
 clear hb1 C0 B0 e1 e2 e3
 have HQ : Hid ((Ad.isNum t.data.toList = true → Ad.isNum r.data.toList = true → (if Co.may (Ad.num t.data.toList, Ad.num r.data.toList) = true then (Ad.num t.data.toList, Ad.num r.data.toList, 0) else (0, 0, 7)) = (a, b, q)) ∧ (Ad.isNum t.data.toList = false ∨ Ad.isNum r.data.toList = false → ((0, 0, 4) : Int × Int × Int) = (a, b, q))) := by
  have hp := HP.out
  rcases hc with ⟨hc, rfl, rfl⟩ | hc
  ·
   rw [hc] at hp
   exact ⟨fun _ h => absurd h (by decide), fun _ => hp⟩
  rw [hc] at hp
  simp only at hp
  refine ⟨fun h1 h2 => ?_, fun h => ?_⟩
  ·
   rw [h1, h2] at hp
   exact hp
  rw [if_neg] at hp
  ·
   exact hp
  rcases h with h | h <;> rw [h] <;> simp
 clear HP hc
 obtain ⟨P, hP⟩ : ∃ P, Ad.isNum t.data.toList = P := ⟨_, rfl⟩
 obtain ⟨Q, hQ⟩ : ∃ Q, Ad.isNum r.data.toList = Q := ⟨_, rfl⟩
 have CT := hide (fun W => isNumber_any t W (by unfold maxLen; omega))
 have CR := hide (fun W => isNumber_any r W (by unfold maxLen; omega))
 rw [hP] at CT
 rw [hQ] at CR
 cases P
 ·
  obtain ⟨rfl, rfl, rfl⟩ : (0 : Int) = a ∧ (0 : Int) = b ∧ (4 : Int) = q := by
   have := HQ.out.2 (.inl hP)
   simpa using this
  clear hP hQ HQ
  go_wp2_with fail
  refine (CT.out _).mono ?_
  rintro e w2 ⟨rfl, rfl⟩
  obtain ⟨⟨p0, p1, p2, p3⟩, f0, f1⟩ := C1.out
  go_wp2_with fail
  exact bodyPost_ret (v := .tuple #[.agg #[.int .i64 0, .int .i64 0], .int .i64 4]) (by simp [results, Tryz.results119, go_sem, p0, p1]) rfl ⟨rfl, bset2 B1.out _ _⟩
 cases Q
 ·
  obtain ⟨rfl, rfl, rfl⟩ : (0 : Int) = a ∧ (0 : Int) = b ∧ (4 : Int) = q := by
   have := HQ.out.2 (.inr hQ)
   simpa using this
  clear hP hQ HQ
  go_wp2_with fail
  refine (CT.out _).mono ?_
  rintro e w2 ⟨rfl, rfl⟩
  go_wp2_with fail
  refine (CR.out _).mono ?_
  rintro e w2 ⟨rfl, rfl⟩
  obtain ⟨⟨p0, p1, p2, p3⟩, f0, f1⟩ := C1.out
  go_wp2_with fail
  exact bodyPost_ret (v := .tuple #[.agg #[.int .i64 0, .int .i64 0], .int .i64 4]) (by simp [results, Tryz.results119, go_sem, p0, p1]) rfl ⟨rfl, bset2 B1.out _ _⟩
 have hpq := HQ.out.1 hP hQ
 have HDT := hide (isNum_digs hP)
 have HDR := hide (isNum_digs hQ)
 have HBT := hide (num_big t hP)
 have HBR := hide (num_big r hQ)
 clear hP hQ HQ
 by_cases ht5 : 5 < t.size
 ·
  have hm := Co.may_big (b := Ad.num r.data.toList) (.inl (HBT.out ht5))
  obtain ⟨rfl, rfl, rfl⟩ : (0 : Int) = a ∧ (0 : Int) = b ∧ (7 : Int) = q := by
   rw [hm] at hpq
   simpa using hpq
  have ht5' : (5 : Int) < (t.size : Int) := by omega
  clear hpq hm
  go_wp2_with fail
  refine (CT.out _).mono ?_
  rintro e w2 ⟨rfl, rfl⟩
  go_wp2_with fail
  refine (CR.out _).mono ?_
  rintro e w2 ⟨rfl, rfl⟩
  obtain ⟨⟨p0, p1, p2, p3⟩, f0, f1⟩ := C1.out
  go_wp2_with fail
  exact bodyPost_ret (v := .tuple #[.agg #[.int .i64 0, .int .i64 0], .int .i64 7]) (by simp [results, Tryz.results119, go_sem, p0, p1]) rfl ⟨rfl, bset2 B1.out _ _⟩
 have ht5' : ¬ (5 : Int) < (t.size : Int) := by omega
 by_cases hr5 : 5 < r.size
 ·
  have hm := Co.may_big (a := Ad.num t.data.toList) (.inr (HBR.out hr5))
  obtain ⟨rfl, rfl, rfl⟩ : (0 : Int) = a ∧ (0 : Int) = b ∧ (7 : Int) = q := by
   rw [hm] at hpq
   simpa using hpq
  have hr5' : (5 : Int) < (r.size : Int) := by omega
  clear hpq hm
  go_wp2_with fail
  refine (CT.out _).mono ?_
  rintro e w2 ⟨rfl, rfl⟩
  go_wp2_with fail
  refine (CR.out _).mono ?_
  rintro e w2 ⟨rfl, rfl⟩
  obtain ⟨⟨p0, p1, p2, p3⟩, f0, f1⟩ := C1.out
  go_wp2_with fail
  exact bodyPost_ret (v := .tuple #[.agg #[.int .i64 0, .int .i64 0], .int .i64 7]) (by simp [results, Tryz.results119, go_sem, p0, p1]) rfl ⟨rfl, bset2 B1.out _ _⟩
 have hr5' : ¬ (5 : Int) < (r.size : Int) := by omega
 obtain ⟨m, hm⟩ : ∃ m, Ad.num t.data.toList = m := ⟨_, rfl⟩
 obtain ⟨n, hn⟩ : ∃ n, Ad.num r.data.toList = n := ⟨_, rfl⟩
 rw [hm, hn] at hpq
 have CM := hide (fun W => number_is t m hm W (by omega) HDT.out)
 have CN := hide (fun W => number_is r n hn W (by omega) HDR.out)
 clear hm hn HBT HBR HDT HDR
 obtain ⟨u, hu⟩ : ∃ u, Co.may (m, n) = u := ⟨_, rfl⟩
 rw [hu] at hpq
 have HU := hide hu
 clear hu
 cases u
 ·
  obtain ⟨rfl, rfl, rfl⟩ : (0 : Int) = a ∧ (0 : Int) = b ∧ (7 : Int) = q := by simpa using hpq
  clear hpq
  go_wp2_with fail
  refine (CT.out _).mono ?_
  rintro e w2 ⟨rfl, rfl⟩
  go_wp2_with fail
  refine (CR.out _).mono ?_
  rintro e w2 ⟨rfl, rfl⟩
  go_wp2_with fail
  refine (CM.out _).mono ?_
  rintro e w2 ⟨rfl, rfl⟩
  go_wp2_with fail
  refine (CN.out _).mono ?_
  rintro e w2 ⟨rfl, rfl⟩
  go_wp2_with fail
  have C2 := hide (cells_below C1.out (balloc (brefl w2) (.cells #[.int .i64 m, .int .i64 n] 73)))
  have B2 := hide (balloc B1.out (.cells #[.int .i64 m, .int .i64 n] 73))
  refine (may_is m n false HU.out _).mono ?_
  rintro e w3 ⟨rfl, hb3⟩
  obtain ⟨⟨p0, p1, p2, p3⟩, f0, f1⟩ := cells_below C2.out hb3
  have B3 := hide (bthen B2.out hb3)
  clear hb3
  go_wp2_with fail
  exact bodyPost_ret (v := .tuple #[.agg #[.int .i64 0, .int .i64 0], .int .i64 7]) (by simp [results, Tryz.results119, go_sem, p0, p1]) rfl ⟨rfl, bset2 B3.out _ _⟩
 obtain ⟨rfl, rfl, rfl⟩ : m = a ∧ n = b ∧ (0 : Int) = q := by simpa using hpq
 clear hpq
 go_wp2_with fail
 refine (CT.out _).mono ?_
 rintro e w2 ⟨rfl, rfl⟩
 go_wp2_with fail
 refine (CR.out _).mono ?_
 rintro e w2 ⟨rfl, rfl⟩
 go_wp2_with fail
 refine (CM.out _).mono ?_
 rintro e w2 ⟨rfl, rfl⟩
 go_wp2_with fail
 refine (CN.out _).mono ?_
 rintro e w2 ⟨rfl, rfl⟩
 go_wp2_with fail
 have C2 := hide (cells_below C1.out (balloc (brefl w2) (.cells #[.int .i64 m, .int .i64 n] 73)))
 have T2 := hide (two_new w2 m n 73)
 have B2 := hide (balloc B1.out (.cells #[.int .i64 m, .int .i64 n] 73))
 refine (may_is m n true HU.out _).mono ?_
 rintro e w3 ⟨rfl, hb3⟩
 obtain ⟨⟨p0, p1, p2, p3⟩, f0, f1⟩ := cells_below C2.out hb3
 obtain ⟨t0, t1, t2, t3⟩ := two_below hb3 T2.out
 have B3 := hide (bthen B2.out hb3)
 clear hb3
 go_wp2_with fail
 exact bodyPost_ret (v := .tuple #[.agg #[.int .i64 m, .int .i64 n], .int .i64 0]) (by simp [results, Tryz.results119, go_sem, p0, p1]) rfl ⟨rfl, bset2 B3.out _ _⟩
theorem parse_is (s : ByteArray) (a b q : Int) (w : World) (hs : s.size ≤ 2000) (h : Co.parse s.data.toList = (a, b, q)) :
    Calls Tryz.prog 119 #[.string s] w fun e w' => e = .returned (.tuple #[.agg #[.int .i64 a, .int .i64 b], .int .i64 q]) ∧ Below w.heap.size w w' := by
 by_cases h1 : s.data.toList = Co.nE
 ·
  unfold Co.parse at h
  rw [if_pos h1] at h
  obtain rfl := ba_ext h1
  obtain ⟨rfl, rfl, rfl⟩ : (65535 : Int) = a ∧ (65281 : Int) = b ∧ (0 : Int) = q := by simpa using h
  exact parse_nE w
 by_cases h2 : s.data.toList = Co.nA
 ·
  unfold Co.parse at h
  rw [if_neg h1, if_pos h2] at h
  obtain rfl := ba_ext h2
  obtain ⟨rfl, rfl, rfl⟩ : (65535 : Int) = a ∧ (65282 : Int) = b ∧ (0 : Int) = q := by simpa using h
  exact parse_nA w
 by_cases h3 : s.data.toList = Co.lo
 ·
  unfold Co.parse at h
  rw [if_neg h1, if_neg h2, if_pos h3] at h
  obtain rfl := ba_ext h3
  obtain ⟨rfl, rfl, rfl⟩ : (65535 : Int) = a ∧ (65283 : Int) = b ∧ (0 : Int) = q := by simpa using h
  exact parse_lo w
 exact parse_other s a b q w hs h1 h2 h3 h
end Go.Proofs.YtnadhplhnfpeaaaGreatDoor.Cm
namespace Go.Proofs.YtnadhplhnfpeaaaGreatDoor.Kn
open Go.RowKit Go.Sort
def pfxF (s : ByteArray) : Int × Int × Int := Ax.Ad.parse s.data.toList
def comF (s : ByteArray) : Int × Int × Int := Cm.Co.parse s.data.toList
theorem pfxF_is (s : ByteArray) (hs : s.size ≤ 1000) (w : World) : Calls Tryz.prog 102 #[.string s] w fun e w' => e = .returned (.tuple #[.agg #[.int .u32 (pfxF s).1, .int .i64 (pfxF s).2.1], .int .i64 (pfxF s).2.2]) ∧ Below w.heap.size w w' :=
  Ax.parse_any s _ _ _ w (by omega) rfl
theorem comF_is (s : ByteArray) (hs : s.size ≤ 1000) (w : World) : Calls Tryz.prog 119 #[.string s] w fun e w' => e = .returned (.tuple #[.agg #[.int .i64 (comF s).1, .int .i64 (comF s).2.1], .int .i64 (comF s).2.2]) ∧ Below w.heap.size w w' :=
  Cm.parse_is s _ _ _ w (by omega) rfl
def mayF (r : Rg) : Bool := Ax.Ad.rmayX (r.ad, r.bits, r.ge, r.le, r.ok)
theorem mayF_is (r : Rg) (g : Nat) (w : World) (hg : w.heap[g]? = some (.cells #[.int .u32 r.ad, .int .i64 r.bits, .int .i64 r.ge, .int .i64 r.le, .bool r.ok] 109 (0, 0))) :
    Calls Tryz.prog 90 #[.slice (some ⟨g, 0, none⟩) 1 1] w fun e w' => ∃ z, e = .returned (.int .i64 z) ∧ (z = 0 ↔ mayF r = true) ∧ Below w.heap.size w w' := by
 refine (Ax.pmayX_row (some ⟨g, 0, none⟩) 1 [(r.ad, r.bits, r.ge, r.le, r.ok)] w (.inr ⟨g, 0, rfl, ?_⟩) (by simp)).mono ?_
 ·
  intro j u hu
  have hj : j < 5 := by
   have := (List.getElem?_eq_some_iff.1 hu).1
   rw [Ax.Ad.cellsR_length] at this
   simpa using this
  have hc : Ax.Ad.cellsR [(r.ad, r.bits, r.ge, r.le, r.ok)] = [.int .u32 r.ad, .int .i64 r.bits, .int .i64 r.ge, .int .i64 r.le, .bool r.ok] := rfl
  rw [hc] at hu
  simp only [World.cell?, hg, Nat.zero_add]
  simpa using hu
 rintro e w' ⟨rfl, hb⟩
 refine ⟨_, rfl, ?_, hb⟩
 unfold Ax.Ad.rwhyX mayF
 rw [if_neg (by simp)]
 simp
def fn12 : Fn := { nam := nmF, num := numF, pfx := pfxF, com := comF, asr := Ar.asF, may := mayF }
theorem kit12 : Kit12 Ar.Y4.Pt fn12 where
  nam := fun s hs w => nameFault_is s hs w
  num := fun s a b hs w0 w hT hw => number_is s a b hs w0 w hT hw
  pfx := fun s hs _ w _ _ => pfxF_is s hs w
  com := fun s hs _ w _ _ => comF_is s hs w
  asr := fun s _ w0 w hT hw => Ar.asF_is s w0 w hT hw
  may := fun r g w hg => mayF_is r g w hg
  fits := fun s a b => num_fits s a b
end Go.Proofs.YtnadhplhnfpeaaaGreatDoor.Kn
namespace Go.Proofs.YtnadhplhnfpeaaaGreatDoor.Lx
open Go.RowKit Go.Sort
theorem hide {p : Prop} (h : p) : Hid p := h
theorem heap_lt {w : World} {b : Nat} {o : Obj} (h : w.heap[b]? = some o) : b < w.heap.size := by
 rcases Nat.lt_or_ge b w.heap.size with h' | h'
 ·
  exact h'
 simp [Array.getElem?_eq_none h'] at h
theorem row_below {w w' : World} {B e size n : Nat} {v : Value} {xs : List Value} (h : w.ownsRow B e size v n xs) (hb : Below w.heap.size w w') : w'.ownsRow B e size v n xs := by
 obtain ⟨h1, h2⟩ := h
 refine ⟨h1, ?_⟩
 rcases h2 with h2 | ⟨g, cap, cur, hv, hB, hg, r⟩
 ·
  exact .inl h2
 exact .inr ⟨g, cap, cur, hv, hB, (hb.block g (heap_lt hg)).trans hg, r⟩
theorem ret_bool {a b : Bool} (h : a = b) : Ending.returned (.bool a) = .returned (.bool b) := by rw [h]
theorem bthen {w W w1 : World} (h : Below w.heap.size w W) (hb : Below W.heap.size W w1) : Below w.heap.size w w1 := h.trans (hb.mono h.size)
theorem balloc {w W : World} (h : Below w.heap.size w W) (o : Obj) : Below w.heap.size w (W.alloc o) := h.alloc h.size o
theorem brefl (w : World) : Below w.heap.size w w := Below.refl _ _
theorem bset {w W : World} (h : Below w.heap.size w W) {p : Addr} (hp : w.heap.size ≤ p.block) (u : Value) : Below w.heap.size w (W.setCell p u) := h.setCell hp u
theorem heap_new (w : World) (x : Array Value) (t : TypeId) : (w.alloc (.cells x t)).heap[w.heap.size]? = some (.cells x t (0, 0)) := heap_alloc_new w _
theorem row_slice {w : World} {B e s n : Nat} {v : Value} {xs : List Value} (h : w.ownsRow B e s v n xs) : ∃ o c, v = .slice o n c := by
 rcases h.2 with ⟨hv, h0⟩ | ⟨g, cap, cur, hv, _⟩
 ·
  exact ⟨none, 0, by rw [hv, h0]⟩
 exact ⟨_, _, hv⟩
abbrev lst (s : ByteArray) : List UInt8 := s.data.toList
theorem lst_size (s : ByteArray) : (lst s).length = s.size := by simp
def plS (p : Nat × Nat) (c : UInt8) : Nat × Nat := if c = 10 then (p.1 + 1, 1) else (p.1, p.2 + 1)
def plc (l : List UInt8) (k : Nat) : Nat × Nat := (l.take k).foldl plS (1, 1)
theorem plc_zero (l : List UInt8) : plc l 0 = (1, 1) := rfl
theorem plc_succ {l : List UInt8} {k : Nat} (h : k < l.length) : plc l (k + 1) = plS (plc l k) l[k] := by
 unfold plc
 rw [List.take_succ_eq_append_getElem h, List.foldl_append]
 rfl
theorem plc_over {l : List UInt8} {k : Nat} (h : l.length ≤ k) : plc l k = plc l l.length := by
 unfold plc
 rw [List.take_of_length_le h, List.take_length]
theorem plc_bounds (l : List UInt8) (k : Nat) (h : k ≤ l.length) : (plc l k).1 ≤ k + 1 ∧ 1 ≤ (plc l k).1 ∧ (plc l k).2 ≤ k + 1 ∧ 1 ≤ (plc l k).2 := by
 induction k with
 | zero => rw [plc_zero]; decide
 | succ k ih =>
  have := ih (by omega)
  rw [plc_succ (by omega)]
  unfold plS
  split <;> (simp only; omega)
def ltr (c : UInt8) : Bool := decide (97 ≤ c.toNat ∧ c.toNat ≤ 122) || decide (48 ≤ c.toNat ∧ c.toNat ≤ 57) || decide (c.toNat = 46) || decide (c.toNat = 58) || decide (c.toNat = 47) || decide (c.toNat = 45) || decide (c.toNat = 95)
def blk (c : UInt8) : Bool := decide (c.toNat = 32) || decide (c.toNat = 9) || decide (c.toNat = 13) || decide (c.toNat = 10)
def mrk (c : UInt8) : Bool := decide (c.toNat = 123) || decide (c.toNat = 125) || decide (c.toNat = 59)
def txc (c : UInt8) : Bool := decide (32 ≤ c.toNat) && (decide (c.toNat ≤ 126) && decide (c.toNat ≠ 34))
def inq (c : UInt8) : Bool := decide (c.toNat ≠ 34) && decide (c.toNat ≠ 10)
def rmk (c : UInt8) : Bool := decide (c.toNat ≠ 10)
inductive Stp where
  | fault (n : Nat) (e : Int)
  | go (n : Nat) (a : Nat) (t : Option (Nat × List UInt8))
def quo (r : List UInt8) : Stp :=
  match r.drop (r.takeWhile inq).length with
  | [] => .fault 0 3
  | d :: _ => if d.toNat ≠ 34 then .fault 0 3 else if 64 < (r.takeWhile inq).length then .fault 0 2 else if ((r.takeWhile inq).takeWhile txc).length < (r.takeWhile inq).length then .fault (1 + ((r.takeWhile inq).takeWhile txc).length) 4 else .go ((r.takeWhile inq).length + 2) 1 (some (1, r.takeWhile inq))
def wrd (l : List UInt8) : Stp := if 32 < (l.takeWhile ltr).length then .fault 0 2 else .go (l.takeWhile ltr).length 0 (some (0, l.takeWhile ltr))
def bgn : List UInt8 → Nat → Stp
  | [], _ => .fault 0 4
  | c :: r, a => if mrk c = true then .go 1 2 (some (2, [c])) else if c.toNat = 34 ∧ a ≠ 0 then quo r else if ltr c = true ∧ a ≠ 1 then wrd (c :: r) else .fault 0 4
def stp : List UInt8 → Nat → Stp
  | [], a => .go 0 a none
  | c :: r, a => if blk c = true then .go 1 2 none else if c.toNat = 35 then .go ((c :: r).takeWhile rmk).length 2 none else bgn (c :: r) a
structure Tok where
  kind : Nat
  s : List UInt8
  at_ : Nat
def tokOf (b : Nat) : Option (Nat × List UInt8) → List Tok
  | none => []
  | some (k, s) => [⟨k, s, b⟩]
inductive Sc : Nat → List UInt8 → Nat → List Tok → Option (Nat × Int) → Prop
  | nil (b : Nat) (f : Nat) : Sc b [] f [] none
  | bad {b : Nat} {r : List UInt8} {f : Nat} {n : Nat} {e : Int} : r ≠ [] → stp r f = .fault n e → Sc b r f [] (some (b + n, e))
  | more {b : Nat} {r : List UInt8} {f f' : Nat} {n : Nat} {t : Option (Nat × List UInt8)} {ts : List Tok} {o : Option (Nat × Int)} : r ≠ [] → stp r f = .go n f' t → Sc (b + n) (r.drop n) f' ts o → Sc b r f (tokOf b t ++ ts) o
theorem Sc.det {b : Nat} {r : List UInt8} {f : Nat} {ts ts' : List Tok} {o o' : Option (Nat × Int)} (h : Sc b r f ts o) (h' : Sc b r f ts' o') : ts = ts' ∧ o = o' := by
 induction h generalizing ts' o' with
 | nil b f =>
  cases h' with
  | nil => exact ⟨rfl, rfl⟩
  | bad h _ => exact absurd rfl h
  | more h _ _ => exact absurd rfl h
 | bad hr hs =>
  cases h' with
  | nil => exact absurd rfl hr
  | bad _ hs' => rw [hs] at hs'; cases hs'; exact ⟨rfl, rfl⟩
  | more _ hs' _ => rw [hs] at hs'; cases hs'
 | more hr hs _ ih =>
  cases h' with
  | nil => exact absurd rfl hr
  | bad _ hs' => rw [hs] at hs'; cases hs'
  | more _ hs' hm =>
   rw [hs] at hs'
   cases hs'
   obtain ⟨rfl, rfl⟩ := ih hm
   exact ⟨rfl, rfl⟩
theorem takeWhile_cons_len {p : UInt8 → Bool} {c : UInt8} {r : List UInt8} (h : p c = true) : 1 ≤ ((c :: r).takeWhile p).length := by rw [List.takeWhile_cons_of_pos h]; simp
theorem takeWhile_le (p : UInt8 → Bool) (r : List UInt8) : (r.takeWhile p).length ≤ r.length := (List.takeWhile_prefix p).length_le
theorem mem_takeWhile {p : UInt8 → Bool} {l : List UInt8} : ∀ c ∈ l.takeWhile p, p c = true := by
 induction l with
 | nil => intro c h; simp at h
 | cons a l ih =>
  intro c h
  rw [List.takeWhile_cons] at h
  split at h
  ·
   rcases List.mem_cons.1 h with rfl | h
   ·
    assumption
   exact ih c h
  simp at h
theorem quo_go {r : List UInt8} {n f' : Nat} {t : Option (Nat × List UInt8)} (h : quo r = .go n f' t) : ∃ s q, r = s ++ 34 :: q ∧ (∀ c ∈ s, txc c = true) ∧ s.length ≤ 64 ∧ n = s.length + 2 ∧ f' = 1 ∧ t = some (1, s) ∧ s = r.takeWhile inq := by
 unfold quo at h
 split at h
 ·
  cases h
 rename_i d tl hd
 split at h
 ·
  cases h
 rename_i h34
 split at h
 ·
  cases h
 rename_i h64
 split at h
 ·
  cases h
 rename_i hall
 cases h
 have ed : d = 34 := UInt8.toNat_inj.1 (by simpa using h34)
 refine ⟨r.takeWhile inq, tl, ?_, ?_, by omega, rfl, rfl, rfl, rfl⟩
 ·
  have h := List.take_append_drop (r.takeWhile inq).length r
  rw [← List.prefix_iff_eq_take.1 (List.takeWhile_prefix inq), hd, ed] at h
  exact h.symm
 have he : (r.takeWhile inq).takeWhile txc = r.takeWhile inq := (List.takeWhile_prefix txc).eq_of_length_le (by omega)
 intro c hc
 rw [← he] at hc
 exact mem_takeWhile c hc
theorem stp_pos {r : List UInt8} {f f' : Nat} {n : Nat} {t : Option (Nat × List UInt8)} (hr : r ≠ []) (h : stp r f = .go n f' t) : 1 ≤ n ∧ n ≤ r.length := by
 cases r with
 | nil => exact absurd rfl hr
 | cons c r =>
  have hc1 : (c :: r).length = r.length + 1 := rfl
  simp only [stp, bgn] at h
  split at h
  ·
   cases h; omega
  split at h
  ·
   rename_i hb h35
   cases h
   exact ⟨takeWhile_cons_len (by unfold rmk; rw [decide_eq_true_eq, h35]; decide), takeWhile_le _ _⟩
  split at h
  ·
   cases h; omega
  split at h
  ·
   obtain ⟨s, q, rfl, _, _, rfl, _⟩ := quo_go h
   simp only [List.length_cons, List.length_append]
   omega
  split at h
  ·
   rename_i hl
   unfold wrd at h
   split at h
   ·
    cases h
   cases h
   exact ⟨takeWhile_cons_len hl.1, takeWhile_le _ _⟩
  cases h
theorem two_cells {w : World} {b y : Nat} {x0 x1 : Value} (h : w.heap[b]? = some (.cells #[x0, x1] y (0, 0))) : w.cell? ⟨b, 0, none⟩ = some x0 ∧ w.cell? ⟨b, 1, none⟩ = some x1 ∧ w.frozen? ⟨b, 0, none⟩ = false ∧ w.frozen? ⟨b, 1, none⟩ = false := by
 simp [World.cell?, World.frozen?, h]
theorem set0 {w : World} {b t : Nat} {x0 x1 : Value} (h : w.heap[b]? = some (.cells #[x0, x1] t (0, 0))) (v : Value) : (w.setCell ⟨b, 0, none⟩ v).heap[b]? = some (.cells #[v, x1] t (0, 0)) := heap_setCell_same w b 0 _ t v h
theorem set1 {w : World} {b t : Nat} {x0 x1 : Value} (h : w.heap[b]? = some (.cells #[x0, x1] t (0, 0))) (v : Value) : (w.setCell ⟨b, 1, none⟩ v).heap[b]? = some (.cells #[x0, v] t (0, 0)) := heap_setCell_same w b 1 _ t v h
theorem set_far {w : World} {b o j : Nat} {v : Value} {x : Obj} (h : w.heap[j]? = some x) (hn : j ≠ b) : (w.setCell ⟨b, o, none⟩ v).heap[j]? = some x := (Below.heap_setCell w ⟨b, o, none⟩ v j hn).trans h
theorem plc_ten {l : List UInt8} {k : Nat} (h : k < l.length) (hc : l[k].toNat = 10) : plc l (k + 1) = ((plc l k).1 + 1, 1) := by
 rw [plc_succ h]
 unfold plS
 rw [if_pos (UInt8.toNat_inj.1 hc)]
theorem plc_one {l : List UInt8} {k : Nat} (h : k < l.length) (hc : ¬ l[k].toNat = 10) : plc l (k + 1) = ((plc l k).1, (plc l k).2 + 1) := by
 rw [plc_succ h]
 unfold plS
 rw [if_neg (fun e => hc (by rw [e]; rfl))]
set_option maxHeartbeats 1000000 in
set_option maxRecDepth 100000 in
theorem refPlace_is (s : ByteArray) (k : Int) (hs : s.size ≤ 100000) (w : World) :
    Calls Tryz.prog 15 #[.string s, .int .i64 k] w fun e w' => e = .returned (.agg #[.int .i64 ((plc (lst s) k.toNat).1 : Nat), .int .i64 ((plc (lst s) k.toNat).2 : Nat)]) ∧ Below w.heap.size w w' := by
 have B0 := hide (balloc (balloc (brefl w) (.cells #[.int .i64 0, .int .i64 0] 35)) (.cells #[.int .i64 1, .int .i64 1] 35))
 have NP := hide (heap_new (w.alloc (.cells #[.int .i64 0, .int .i64 0] 35)) #[.int .i64 1, .int .i64 1] 35)
 have NQ := hide (((balloc (brefl (w.alloc (.cells #[.int .i64 0, .int .i64 0] 35))) (.cells #[.int .i64 1, .int .i64 1] 35)).block w.heap.size (by simp)).trans (heap_new w #[.int .i64 0, .int .i64 0] 35))
 have HS : Hid ((w.alloc (.cells #[.int .i64 0, .int .i64 0] 35)).heap.size = w.heap.size + 1) := by show _ = _; simp
 rw [HS.out] at NP
 clear HS
 go_enter Tryz.func15, Tryz.ntmps15
 go_wp2_with fail
 generalize (w.alloc (.cells #[.int .i64 0, .int .i64 0] 35)).alloc (.cells #[.int .i64 1, .int .i64 1] 35) = W at *
 obtain ⟨p, hp⟩ : ∃ p, w.heap.size + 1 = p := ⟨_, rfl⟩
 obtain ⟨q, hq⟩ : ∃ q, w.heap.size = q := ⟨_, rfl⟩
 have HPQ : Hid (p ≠ q ∧ q ≠ p ∧ w.heap.size ≤ p ∧ w.heap.size ≤ q) := ⟨by omega, by omega, by omega, by omega⟩
 rw [hp] at NP
 rw [hq] at NQ
 rw [hp, hq]
 clear hp hq
 go_loopw [6] (fun v6 wr => ∃ i : Nat, v6 = .int .i64 i ∧ i ≤ s.size ∧ i ≤ k.toNat ∧ Hid (wr.heap[p]? = some (.cells #[.int .i64 ((plc (lst s) i).1 : Nat), .int .i64 ((plc (lst s) i).2 : Nat)] 35 (0, 0))) ∧ Hid (wr.heap[q]? = some (.cells #[.int .i64 0, .int .i64 0] 35 (0, 0))) ∧ Hid (Below w.heap.size w wr)) (fun v6 _ => s.size - (intOf v6).toNat)
 case atStart => exact ⟨0, rfl, Nat.zero_le _, Nat.zero_le _, NP, NQ, B0⟩
 case round =>
  obtain ⟨i, rfl, hi, hik, HP, HQ, HB⟩ := hrel
  obtain ⟨c0, c1, f0, f1⟩ := two_cells HP.out
  have hbd := plc_bounds (lst s) i (by simpa using hi)
  by_cases hc : i < s.size ∧ (i : Int) < k
  ·
   have h1 : (i : Int) < (s.size : Int) := by omega
   have h2 : (i : Int) < k := hc.2
   have hil : i < (lst s).length := by simpa using hc.1
   have hget : s[i] = (lst s)[i] := rfl
   have hx256 : (lst s)[i].toNat < 256 := (lst s)[i].toNat_lt
   by_cases h10 : (lst s)[i].toNat = 10
   ·
    have HT := hide (plc_ten hil h10)
    have e10 : (s[i].toNat : Int) = 10 := by rw [hget, h10]; rfl
    generalize plc (lst s) i = pp at *
    obtain ⟨pa, pb⟩ := pp
    simp only at *
    have HP3 := hide (set1 (set0 (set1 HP.out (.int .i64 ((pb : Int) + 1))) (.int .i64 ((pa : Int) + 1))) (.int .i64 1))
    have HQ3 := hide (set_far (o := 1) (v := .int .i64 1) (set_far (o := 0) (v := .int .i64 ((pa : Int) + 1)) (set_far (o := 1) (v := .int .i64 ((pb : Int) + 1)) HQ.out HPQ.out.2.1) HPQ.out.2.1) HPQ.out.2.1)
    have HB3 := hide (bset (bset (bset HB.out (p := ⟨p, 1, none⟩) HPQ.out.2.2.1 (.int .i64 ((pb : Int) + 1))) (p := ⟨p, 0, none⟩) HPQ.out.2.2.1 (.int .i64 ((pa : Int) + 1))) (p := ⟨p, 1, none⟩) HPQ.out.2.2.1 (.int .i64 1))
    clear hget h10
    go_wp2_with fail
    refine ⟨⟨i + 1, by go_num, hc.1, by omega, ?_, HQ3, HB3⟩, by simp [intOf]; omega⟩
    rw [HT.out]
    exact HP3
   have HT := hide (plc_one hil h10)
   have e10 : ¬ (s[i].toNat : Int) = 10 := by rw [hget]; omega
   generalize plc (lst s) i = pp at *
   obtain ⟨pa, pb⟩ := pp
   simp only at *
   have HP3 := hide (set1 HP.out (.int .i64 ((pb : Int) + 1)))
   have HQ3 := hide (set_far (o := 1) (v := .int .i64 ((pb : Int) + 1)) HQ.out HPQ.out.2.1)
   have HB3 := hide (bset HB.out (p := ⟨p, 1, none⟩) HPQ.out.2.2.1 (.int .i64 ((pb : Int) + 1)))
   clear hget h10
   go_wp2_with fail
   refine ⟨⟨i + 1, by go_num, hc.1, by omega, ?_, HQ3, HB3⟩, by simp [intOf]; omega⟩
   rw [HT.out]
   exact HP3
  have HE : Hid (plc (lst s) k.toNat = plc (lst s) i) := by
   show _ = _
   rcases Nat.lt_or_ge i s.size with h | h
   ·
    rw [show k.toNat = i by omega]
   obtain rfl : i = s.size := by omega
   rw [← lst_size s]
   exact plc_over (by rw [lst_size]; omega)
  have hcc : (decide ((i : Int) < (s.size : Int)) && decide ((i : Int) < k)) = false := by
   rw [Bool.and_eq_false_iff, decide_eq_false_iff_not, decide_eq_false_iff_not]
   omega
  generalize plc (lst s) i = pp at *
  obtain ⟨pa, pb⟩ := pp
  simp only at *
  obtain ⟨z0, z1, y0, y1⟩ := two_cells HQ.out
  have HQ3 := hide (set1 (set0 HQ.out (.int .i64 (pa : Int))) (.int .i64 (pb : Int)))
  have HB3 := hide (bset (bset HB.out (p := ⟨q, 0, none⟩) HPQ.out.2.2.2 (.int .i64 (pa : Int))) (p := ⟨q, 1, none⟩) HPQ.out.2.2.2 (.int .i64 (pb : Int)))
  obtain ⟨t0, t1, _, _⟩ := two_cells HQ3.out
  by_cases h1 : (i : Int) < (s.size : Int)
  all_goals
   first
    | (have h2 : ¬ (i : Int) < k := by omega)
    | skip
   go_wp2_with fail
   refine bodyPost_ret (v := .agg #[.int .i64 (pa : Int), .int .i64 (pb : Int)]) ?_ rfl ⟨by rw [HE.out], HB3.out⟩
   simp [results, Tryz.results15, go_sem, t0, t1]
def tw (p : UInt8 → Bool) (l : List UInt8) (i : Nat) : Nat := ((l.drop i).takeWhile p).length
theorem tw_step {p : UInt8 → Bool} {l : List UInt8} {i : Nat} (h : i < l.length) (hp : p l[i] = true) : tw p l i = tw p l (i + 1) + 1 := by
 unfold tw
 rw [List.drop_eq_getElem_cons h, List.takeWhile_cons_of_pos hp, List.length_cons]
theorem tw_stop {p : UInt8 → Bool} {l : List UInt8} {i : Nat} (h : i < l.length) (hp : p l[i] = false) : tw p l i = 0 := by
 unfold tw
 rw [List.drop_eq_getElem_cons h, List.takeWhile_cons_of_neg (by rw [hp]; decide)]
 rfl
theorem tw_end {p : UInt8 → Bool} {l : List UInt8} {i : Nat} (h : l.length ≤ i) : tw p l i = 0 := by
 unfold tw
 rw [List.drop_of_length_le h]
 rfl
theorem tw_le (p : UInt8 → Bool) (l : List UInt8) (i : Nat) : tw p l i ≤ l.length - i := by
 have := takeWhile_le p (l.drop i)
 rw [List.length_drop] at this
 exact this
theorem txc_iff (c : UInt8) : txc c = true ↔ 32 ≤ c.toNat ∧ c.toNat ≤ 126 ∧ c.toNat ≠ 34 := by
 unfold txc
 simp only [Bool.and_eq_true, decide_eq_true_eq]
end Go.Proofs.YtnadhplhnfpeaaaGreatDoor.Lx
