/- Part of the proof. -/
import Derived.Test.YtnadhplhnfpeaaaGreatDoorAZ
import Derived.Test.YtnadhplhnfpeaaaGreatDoorA40
import Derived.Test.YtnadhplhnfpeaaaGreatDoorAS
namespace Go.Proofs.YtnadhplhnfpeaaaGreatDoor.Lx
open Go.RowKit Go.Sort
theorem last_same (s : ByteArray) (k : Nat) (hk : k ≤ s.size) : ∀ j, j ≤ k → Lib.lastIdx (s.extract 0 k) 10 j = Lib.lastIdx s 10 j
  | 0, _ => rfl
  | j + 1, h => by
    have h1 : j < (s.extract 0 k).size := by rw [ByteArray.size_extract]; omega
    have e : (s.extract 0 k).data[j]! = s.data[j]! := by
      rw [LastIndex.byteBang _ _ h1, LastIndex.byteBang _ _ (by omega)]
      rw [ByteArray.getElem_extract]
      simp
    rw [Lib.lastIdx, Lib.lastIdx, e, last_same s k hk j (by omega)]
theorem plc_last (s : ByteArray) (k : Nat) (hk : k ≤ s.size) : ((plc (lst s) k).1 : Int) = ((((lst s).take k).count 10 : Nat) : Int) + 1 ∧ ((plc (lst s) k).2 : Int) = (k : Int) - Lib.lastIdx s 10 k := by
 induction k with
 | zero => exact ⟨rfl, rfl⟩
 | succ k ih =>
  obtain ⟨h1, h2⟩ := ih (by omega)
  have hl : k < (lst s).length := by rw [lst_size]; omega
  have eb : s.data[k]! = (lst s)[k] := LastIndex.byteBang s k (by omega)
  rw [List.take_succ_eq_append_getElem hl, List.count_append, List.count_singleton, Lib.lastIdx, eb, plc_succ hl]
  unfold plS
  by_cases hc : (lst s)[k] = 10
  ·
   rw [if_pos hc, hc]
   simp only [beq_self_eq_true, if_true]
   rw [if_pos (by decide)]
   constructor <;> push_cast <;> omega
  have hn : ¬ ((lst s)[k].toNat : Int) = 10 := fun e => hc (UInt8.toNat_inj.1 (by simpa using Int.ofNat.inj e))
  rw [if_neg hc, if_neg hn]
  have hb : ((lst s)[k] == 10) = false := by simpa using hc
  rw [hb]
  simp only [Bool.false_eq_true, if_false]
  constructor <;> push_cast <;> omega
theorem last_bounds (s : ByteArray) (k : Nat) : -1 ≤ Lib.lastIdx s 10 k ∧ Lib.lastIdx s 10 k ≤ k := by
 induction k with
 | zero => show -1 ≤ (-1 : Int) ∧ (-1 : Int) ≤ ((0 : Nat) : Int); omega
 | succ k ih =>
  rw [Lib.lastIdx]
  split <;> omega
set_option maxHeartbeats 2000000 in
set_option maxRecDepth 100000 in
theorem place_is (s : ByteArray) (k : Int) (hs : s.size ≤ 100000) (w : World) : Calls Tryz.prog 36 #[.string s, .int .i64 k] w fun e w' => e = .returned (.agg #[.int .i64 ((plc (lst s) k.toNat).1 : Nat), .int .i64 ((plc (lst s) k.toNat).2 : Nat)]) ∧ Below w.heap.size w w' := by
 obtain ⟨K, hK, hKk, hplc⟩ : ∃ K, K ≤ s.size ∧ (k < 0 ∧ K = 0 ∨ 0 ≤ k ∧ k ≤ (s.size : Int) ∧ k = (K : Int) ∨ (s.size : Int) < k ∧ K = s.size) ∧ plc (lst s) k.toNat = plc (lst s) K := by
  rcases Int.lt_or_le k 0 with h | h
  ·
   exact ⟨0, Nat.zero_le _, .inl ⟨h, rfl⟩, by rw [Int.toNat_of_nonpos (by omega)]⟩
  rcases Int.lt_or_le (s.size : Int) k with h' | h'
  ·
   refine ⟨s.size, Nat.le_refl _, .inr (.inr ⟨h', rfl⟩), ?_⟩
   rw [← lst_size s]
   exact plc_over (by rw [lst_size]; omega)
  exact ⟨k.toNat, by omega, .inr (.inl ⟨h, h', by omega⟩), rfl⟩
 rw [hplc]
 clear hplc
 obtain ⟨m1, m2⟩ := plc_last s K hK
 have e0 : lst (s.extract 0 K) = (lst s).take K := by rw [extract_txt, List.drop_zero, Nat.sub_zero]
 have eZ : (s.extract 0 K).size = K := by rw [ByteArray.size_extract]; omega
 have CC := hide (Tryz.strings_Count_one (s.extract 0 K) 10)
 have CL := hide (Tryz.strings_LastIndexByte (s.extract 0 K) 10 (by rw [eZ]; omega))
 have e1 : Lib.countByte (s.extract 0 K).data.toList 10 = ((lst s).take K).count 10 := by rw [← e0]; rfl
 have e2 : Lib.lastIndexByte (s.extract 0 K) 10 = Lib.lastIdx s 10 K := by
  unfold Lib.lastIndexByte
  rw [eZ]
  exact last_same s K hK K (Nat.le_refl _)
 rw [e1] at CC
 rw [e2] at CL
 have hb := last_bounds s K
 have hcb : ((lst s).take K).count 10 ≤ 100000 := Nat.le_trans List.count_le_length (by rw [List.length_take]; omega)
 have M1 := hide m1
 have M2 := hide m2
 have EZ := hide eZ
 generalize plc (lst s) K = pp at *
 generalize ((lst s).take K).count 10 = ct at *
 generalize Lib.lastIdx s 10 K = li at *
 clear e0 e1 e2 m1 m2 eZ
 obtain ⟨A, hA⟩ : ∃ A, s.extract 0 K = A := ⟨_, rfl⟩
 rw [hA] at CC CL EZ
 have HA := hide hA
 clear hA
 have N0 := hide (heap_new w #[.int .i64 0, .int .i64 0] 35)
 have B0 := hide (balloc (brefl w) (.cells #[.int .i64 0, .int .i64 0] 35))
 obtain ⟨p, hp⟩ : ∃ p, w.heap.size = p := ⟨_, rfl⟩
 have HPW : Hid (w.heap.size ≤ p) := Nat.le_of_eq hp
 rw [hp] at N0
 have HMM : Hid (s.extract 0 (min (max k 0) (s.size : Int)).toNat = A) := by
  show _ = _
  rw [← HA.out]
  congr 1
  omega
 have HMN : Hid (∀ n : Nat, (n : Int) = k → s.extract 0 (min (n : Int) (s.size : Int)).toNat = A) := by
  rintro n hn
  rw [← HA.out]
  congr 1
  omega
 have hK9 := hK
 clear HA hKk hK
 go_enter Tryz.func36, Tryz.ntmps36
 go_upto_region 1 with fail
 generalize w.alloc (.cells #[.int .i64 0, .int .i64 0] 35) = W at *
 clear hp
 have hmin : (min (max k 0) (s.size : Int)) ≤ (s.size : Int) := by omega
 have hmin0 : 0 ≤ (min (max k 0) (s.size : Int)) := by omega
 go_upto_region 2 with fail
 rw [HMM.out]
 have hEZ := EZ.out
 clear hmin hmin0 HMM HMN
 generalize (min (max k 0) (s.size : Int)) = mm
 have hsz : (A.size : Int) = (K : Int) := by omega
 have hKm : (K : Int) ≤ 100000 := by omega
 clear hEZ EZ
 go_wp2_with fail
 refine (CC.out _).mono ?_
 rintro e w1 ⟨rfl, rfl⟩
 clear CC
 obtain ⟨z0, z1, y0, y1⟩ := two_cells N0.out
 obtain ⟨cti, hcti⟩ : ∃ cti : Int, (ct : Int) = cti := ⟨_, rfl⟩
 obtain ⟨Ki, hKi⟩ : ∃ Ki : Int, (K : Int) = Ki := ⟨_, rfl⟩
 have hcb1 : 0 ≤ cti ∧ cti ≤ 100000 := by omega
 have hKb : 0 ≤ Ki ∧ Ki ≤ 100000 := by omega
 have M1' : Hid ((pp.1 : Int) = cti + 1) := by rw [← hcti]; exact M1
 have M2' : Hid ((pp.2 : Int) = Ki - li) := by rw [← hKi]; exact M2
 rw [hcti]
 rw [hKi] at hsz hb
 clear hcti hKi M1 M2 hcb hKm
 go_wp2_with fail
 refine (CL.out _).mono ?_
 rintro e w1 ⟨rfl, rfl⟩
 clear CL
 go_wp2_with fail
 refine bodyPost_ret (v := .agg #[.int .i64 (cti + 1), .int .i64 (Ki - li)]) ?_ rfl ⟨by rw [M1'.out, M2'.out], bset (bset B0.out (p := ⟨p, 0, none⟩) HPW.out (.int .i64 (cti + 1))) (p := ⟨p, 1, none⟩) HPW.out (.int .i64 (Ki - li))⟩
 obtain ⟨t0, t1, _, _⟩ := two_cells (set1 (set0 N0.out (.int .i64 (cti + 1))) (.int .i64 (Ki - li)))
 simp [results, Tryz.results36, go_sem, t0, t1]
set_option maxHeartbeats 2000000 in
set_option maxRecDepth 100000 in
theorem end_is (s : ByteArray) (hs : s.size ≤ 100000) (w : World) : Calls Tryz.prog 20 #[.string s] w fun e w' => e = .returned (.agg #[.int .i64 ((plc (lst s) s.size).1 : Nat), .int .i64 ((plc (lst s) s.size).2 : Nat)]) ∧ Below w.heap.size w w' := by
 have CP := hide (place_is s (s.size : Int) hs)
 rw [Int.toNat_natCast] at CP
 generalize plc (lst s) s.size = pp at *
 obtain ⟨pa, pb⟩ := pp
 simp only at CP ⊢
 generalize (pa : Int) = pi at *
 generalize (pb : Int) = qi at *
 have N0 := hide (heap_new w #[.int .i64 0, .int .i64 0] 35)
 have B0 := hide (balloc (brefl w) (.cells #[.int .i64 0, .int .i64 0] 35))
 obtain ⟨p, hp⟩ : ∃ p, w.heap.size = p := ⟨_, rfl⟩
 have HPW : Hid (w.heap.size ≤ p) := Nat.le_of_eq hp
 rw [hp] at N0
 go_enter Tryz.func20, Tryz.ntmps20
 go_upto_region 1 with fail
 generalize w.alloc (.cells #[.int .i64 0, .int .i64 0] 35) = W at *
 clear hp
 go_wp2_with fail
 refine (CP.out _).mono ?_
 rintro e w1 ⟨rfl, hb⟩
 have N1 := hide ((hb.block p (heap_lt N0.out)).trans N0.out)
 have B1 := hide (bthen B0.out hb)
 clear hb N0 B0 CP
 obtain ⟨z0, z1, y0, y1⟩ := two_cells N1.out
 go_wp2_with fail
 refine bodyPost_ret (v := .agg #[.int .i64 pi, .int .i64 qi]) ?_ rfl ⟨rfl, bset (bset B1.out (p := ⟨p, 0, none⟩) HPW.out (.int .i64 pi)) (p := ⟨p, 1, none⟩) HPW.out (.int .i64 qi)⟩
 obtain ⟨t0, t1, _, _⟩ := two_cells (set1 (set0 N1.out (.int .i64 pi)) (.int .i64 qi))
 simp [results, Tryz.results20, go_sem, t0, t1]
set_option maxHeartbeats 1000000 in
theorem clone_is (s : ByteArray) (hs : s.size ≤ 100000) (w : World) : Calls Tryz.prog 35 #[.string s] w fun e w' => e = .returned (.string s) ∧ Below w.heap.size w w' := by
 have C := hide (Tryz.stringslite_Clone s w (by omega))
 go_enter Tryz.func35, Tryz.ntmps35
 go_wp2_with fail
 refine C.out.mono ?_
 rintro e w1 ⟨rfl, hb⟩
 go_wp2_with fail
 go_ret
 exact ⟨rfl, hb⟩
theorem row_set {w : World} {B e size n : Nat} {v : Value} {xs : List Value} (h : w.ownsRow B e size v n xs) {p : Addr} (hp : p.block < B) (u : Value) : (w.setCell p u).ownsRow B e size v n xs := by
 obtain ⟨h1, h2⟩ := h
 refine ⟨h1, ?_⟩
 rcases h2 with h2 | ⟨g, cap, cur, hv, hB, hg, r⟩
 ·
  exact .inl h2
 exact .inr ⟨g, cap, cur, hv, hB, (Below.heap_setCell w p u g (by omega)).trans hg, r⟩
theorem row_set5 {w : World} {B e size n : Nat} {v : Value} {xs : List Value} (h : w.ownsRow B e size v n xs) {b : Nat} (hp : b < B) (v0 v1 v2 v3 v4 : Value) : (set5 w b v0 v1 v2 v3 v4).ownsRow B e size v n xs :=
  row_set (row_set (row_set (row_set (row_set h (p := ⟨b, 0, none⟩) hp v0) (p := ⟨b, 1, none⟩) hp v1) (p := ⟨b, 2, none⟩) hp v2) (p := ⟨b, 3, none⟩) hp v3) (p := ⟨b, 4, none⟩) hp v4
theorem row_base {w : World} {B B' e size n : Nat} {v : Value} {xs : List Value} (h : w.ownsRow B e size v n xs) (hb : B' ≤ B) : w.ownsRow B' e size v n xs := by
 obtain ⟨h1, h2⟩ := h
 refine ⟨h1, ?_⟩
 rcases h2 with h2 | ⟨g, cap, cur, hv, hB, r⟩
 ·
  exact .inl h2
 exact .inr ⟨g, cap, cur, hv, Nat.le_trans hb hB, r⟩
theorem blk_iff (c : UInt8) : blk c = true ↔ c.toNat = 32 ∨ c.toNat = 9 ∨ c.toNat = 13 ∨ c.toNat = 10 := by
 unfold blk
 simp only [Bool.or_eq_true, decide_eq_true_eq, or_assoc]
theorem bool_not {b : Bool} (h : ¬ b = true) : b = false := by cases b <;> simp_all
theorem rmk_iff (c : UInt8) : rmk c = true ↔ ¬ c.toNat = 10 := by
 unfold rmk
 rw [decide_eq_true_eq]
def Lin (l : List UInt8) (k line start : Nat) : Prop := start ≤ k ∧ plc l k = (line, k - start + 1)
theorem Lin.zero (l : List UInt8) : Lin l 0 1 0 := ⟨Nat.le_refl _, rfl⟩
theorem Lin.ten {l : List UInt8} {k line start : Nat} (h : Lin l k line start) (hk : k < l.length) (hc : l[k].toNat = 10) : Lin l (k + 1) (line + 1) (k + 1) := by
 refine ⟨Nat.le_refl _, ?_⟩
 rw [plc_ten hk hc, h.2, Nat.sub_self]
theorem Lin.one {l : List UInt8} {k line start : Nat} (h : Lin l k line start) (hk : k < l.length) (hc : ¬ l[k].toNat = 10) : Lin l (k + 1) line start := by
 have := h.1
 refine ⟨by omega, ?_⟩
 rw [plc_one hk hc, h.2, show k + 1 - start = k - start + 1 by omega]
theorem Lin.more {l : List UInt8} {k line start : Nat} (h : Lin l k line start) (n : Nat) (hn : k + n ≤ l.length) (hc : ∀ c ∈ (l.drop k).take n, ¬ c.toNat = 10) : Lin l (k + n) line start := by
 induction n with
 | zero => exact h
 | succ n ih =>
  have hk : k + n < l.length := by omega
  have h1 := ih (by omega) (fun c hc' => hc c (List.mem_of_mem_take (i := n) (by rw [List.take_take, Nat.min_eq_left (Nat.le_succ _)]; exact hc')))
  refine h1.one hk (hc _ ?_)
  rw [List.mem_iff_getElem]
  refine ⟨n, by rw [List.length_take, List.length_drop]; omega, ?_⟩
  rw [List.getElem_take, List.getElem_drop]
theorem bgn_line {r : List UInt8} {f n f' : Nat} {t : Option (Nat × List UInt8)} (h : bgn r f = .go n f' t) (hs : stp r f = bgn r f) : (∀ c ∈ r.take n, ¬ c.toNat = 10) ∧ n ≤ r.length ∧ 1 ≤ n := by
 have hne : r ≠ [] := by rintro rfl; cases h
 obtain ⟨s, rfl⟩ := bgn_go h
 obtain ⟨hg, ht, hl⟩ := stp_good (hs.trans h)
 have hp := stp_pos hne (hs.trans h)
 refine ⟨?_, hp.2, hp.1⟩
 rw [ht]
 intro c hc e
 rcases hg with ⟨rfl, _, hw, _⟩ | ⟨rfl, hw, _⟩ | ⟨rfl, d, rfl, hm⟩
 ·
  rw [wr, if_neg (by decide)] at hc
  have := (ltr_facts (hw c hc)).1
  have hb := (blk_iff c).2 (.inr (.inr (.inr e)))
  rw [hb] at this
  cases this
 ·
  rw [wr, if_pos rfl] at hc
  rcases List.mem_append.1 hc with hc | hc
  ·
   rcases List.mem_append.1 hc with hc | hc
   ·
    simp at hc
    subst hc
    cases e
   have := hw c hc
   unfold txc at this
   simp only [Bool.and_eq_true, decide_eq_true_eq] at this
   omega
  simp at hc
  subst hc
  cases e
 rw [wr, if_neg (by decide)] at hc
 simp at hc
 subst hc
 have := (mrk_facts hm).1
 have hb := (blk_iff c).2 (.inr (.inr (.inr e)))
 rw [hb] at this
 cases this
theorem bgn_kind {r : List UInt8} {f n f' : Nat} {t : Option (Nat × List UInt8)} (h : bgn r f = .go n f' t) (hs : stp r f = bgn r f) : ∃ s, t = some (f', s) ∧ f' ≤ 2 ∧ s.length ≤ 64 := by
 obtain ⟨s, rfl⟩ := bgn_go h
 have hg := (stp_good (hs.trans h)).1
 refine ⟨s, rfl, ?_, good_size hg⟩
 rcases hg with ⟨rfl, _⟩ | ⟨rfl, _⟩ | ⟨rfl, _⟩ <;> decide
end Go.Proofs.YtnadhplhnfpeaaaGreatDoor.Lx
