/- Keys that are sorted: the rank of a key, the list that comes of keys. -/
import Derived.Test.YtkfomjinilmjaaaRa
namespace Go.Proofs.Ytkfomjinilmjaaa
open Go.RowKit Go.Maps

/-- The sum of the first bytes of a key. -/
def bsum (k : ByteArray) (i : Nat) : Int := ((k.data.toList.take i).foldl (fun n b => n + b.toNat) 0 : Nat)
theorem bsum_zero (k : ByteArray) : bsum k 0 = 0 := by simp [bsum]
theorem bsum_succ (k : ByteArray) (i : Nat) (h : i < k.data.toList.length) : bsum k (i + 1) = bsum k i + (k.data.toList[i].toNat : Int) := by
  unfold bsum
  rw [List.take_succ_eq_append_getElem h, List.foldl_append]
  simp
theorem bsum_bd (k : ByteArray) (i : Nat) : 0 ≤ bsum k i ∧ bsum k i ≤ 255 * i := by
  induction i with
  | zero => simp [bsum]
  | succ i ih =>
    by_cases h : i < k.data.toList.length
    · rw [bsum_succ k i h]
      have := k.data.toList[i].toNat_lt
      omega
    · have e : k.data.toList.take (i + 1) = k.data.toList.take i := by rw [List.take_of_length_le (by omega), List.take_of_length_le (by omega)]
      have : bsum k (i + 1) = bsum k i := by unfold bsum; rw [e]
      rw [this]
      omega
/-- The rank of a key. -/
def rkOf (rs : List Int) (k : ByteArray) : Int := if rs = [] then 0 else rs.getD ((bsum k k.size).toNat % rs.length) 0
/-- The rows that come of keys, each once. -/
def grw (rk : ByteArray → Int) (keys : List ByteArray) : List RwS := keys.foldl (fun L k => if (rowOf L k).isSome then L else L ++ [⟨k, rk k, (L.length : Int) + 1⟩]) []
theorem grw_succ (rk : ByteArray → Int) (keys : List ByteArray) (i : Nat) (h : i < keys.length) : grw rk (keys.take (i + 1)) = if (rowOf (grw rk (keys.take i)) keys[i]).isSome then grw rk (keys.take i) else grw rk (keys.take i) ++ [⟨keys[i], rk keys[i], ((grw rk (keys.take i)).length : Int) + 1⟩] := by
  unfold grw
  rw [List.take_succ_eq_append_getElem h, List.foldl_append]
  rfl
structure GrwOk (L : List RwS) (n : Nat) : Prop where
  len : L.length ≤ n
  once : Once L
  turn : L.Pairwise fun a b => a.t < b.t
  top : ∀ x ∈ L, x.t ≤ L.length
theorem grw_ok (rk : ByteArray → Int) (keys : List ByteArray) : ∀ i, i ≤ keys.length → GrwOk (grw rk (keys.take i)) i := by
  intro i
  induction i with
  | zero => intro _; exact ⟨Nat.le_refl _, fun i j a b h => by simp [grw] at h, by simp [grw], fun x hx => by simp [grw] at hx⟩
  | succ i ih =>
    intro hi
    have G := ih (by omega)
    rw [grw_succ rk keys i (by omega)]
    cases e : (rowOf (grw rk (keys.take i)) keys[i]).isSome
    · have hno : ∀ x ∈ grw rk (keys.take i), x.k ≠ keys[i] := rowOf_none.1 (by simpa using e)
      simp only [Bool.false_eq_true, if_false]
      generalize grw rk (keys.take i) = L at *
      refine ⟨by simp; have := G.len; omega, ?_, ?_, ?_⟩
      · intro p q a b ha hb hk
        have hp := get_lt ha
        have hq := get_lt hb
        rw [List.length_append, List.length_singleton] at hp hq
        by_cases e1 : p = L.length
        · by_cases e2 : q = L.length
          · omega
          · exfalso
            subst e1
            rw [List.getElem?_append_right (Nat.le_refl _), Nat.sub_self, List.getElem?_cons_zero, Option.some.injEq] at ha
            rw [List.getElem?_append_left (by omega)] at hb
            subst ha
            exact hno b (List.mem_iff_getElem?.2 ⟨q, hb⟩) hk.symm
        · by_cases e2 : q = L.length
          · exfalso
            subst e2
            rw [List.getElem?_append_right (Nat.le_refl _), Nat.sub_self, List.getElem?_cons_zero, Option.some.injEq] at hb
            rw [List.getElem?_append_left (by omega)] at ha
            subst hb
            exact hno a (List.mem_iff_getElem?.2 ⟨p, ha⟩) hk
          · rw [List.getElem?_append_left (by omega)] at ha hb
            exact G.once p q a b ha hb hk
      · refine List.pairwise_append.2 ⟨G.turn, List.pairwise_singleton _ _, fun a ha b hb => ?_⟩
        rw [List.mem_singleton] at hb
        subst hb
        have := G.top a ha
        simp only
        omega
      · intro x hx
        rw [List.length_append, List.length_singleton]
        rcases List.mem_append.1 hx with hx | hx
        · have := G.top x hx; omega
        · rw [List.mem_singleton] at hx; subst hx; simp
    · simp only [if_true]
      exact ⟨by have := G.len; omega, G.once, G.turn, G.top⟩
/-- Where ranks lie. -/
def Rk.slot (w : World) (P : Nat) (rs : List Int) : Prop := ∃ ar cr, w.heap[P]? = some (.cells #[.slice ar rs.length cr] 48 (0, 0)) ∧ (rs = [] ∨ ∃ b off, ar = some ⟨b, off, none⟩ ∧ b < w.heap.size ∧ ∀ j (h : j < rs.length), w.cell? ⟨b, off + j, none⟩ = some (.int .i64 rs[j]))
theorem Rk.below {w w' : World} {P : Nat} {rs : List Int} (h : Rk.slot w P rs) (hb : Below w.heap.size w w') : Rk.slot w' P rs := by
  obtain ⟨ar, cr, h1, h2⟩ := h
  refine ⟨ar, cr, (hb.block P (lt_of_block h1)).trans h1, ?_⟩
  rcases h2 with h2 | ⟨b, off, e, hl, h⟩
  · exact .inl h2
  · exact .inr ⟨b, off, e, Nat.lt_of_lt_of_le hl hb.size, fun j hj => (hb.cell (p := ⟨b, off + j, none⟩) hl).trans (h j hj)⟩
theorem one_cell1 {w : World} {b y : Nat} {x0 : Value} (h : w.heap[b]? = some (.cells #[x0] y (0, 0))) : w.cell? ⟨b, 0, none⟩ = some x0 := by rw [cell_of_row w b 0 _ y _ h]; rfl
set_option maxHeartbeats 2000000 in
set_option maxRecDepth 100000 in
theorem rankFn_is {w : World} {P : Nat} {rs : List Int} (hS : Rk.slot w P rs) {k : ByteArray} (hk : k.size ≤ 200) (hrs : (rs.length : Int) ≤ 9223372036854775807) :
    Calls Try.prog 22 #[.string k, .pointer (some ⟨P, 0, none⟩)] w fun e w' => e = .returned (.int .i64 (rkOf rs k)) ∧ Below w.heap.size w w' := by
  obtain ⟨ar, cr, hP, hrow⟩ := hS
  have p0 := one_cell1 hP
  have HROW := hide hrow
  have hsz : k.data.toList.length = k.size := rfl
  have HSZ := hide hsz
  clear hP hrow hsz
  go_enter Try.func22, Try.ntmps22
  go_wp2_with fail
  go_loopw [4, 5] (fun v4 v5 wr => ∃ i : Nat, i ≤ k.size ∧ v5 = .int .i64 i ∧ v4 = .int .i64 (bsum k i) ∧ wr = w) (fun _ v5 _ => k.size - (intOf v5).toNat)
  case atStart => exact ⟨0, Nat.zero_le _, rfl, by rw [bsum_zero], rfl⟩
  case round =>
    obtain ⟨i, hi, rfl, rfl, rfl⟩ := hrel
    have hb := bsum_bd k i
    by_cases hlt : i < k.size
    · have hlt' : (i : Int) < (k.size : Int) := by omega
      have HT := hide (bsum_succ k i (by rw [HSZ.out]; exact hlt))
      have hb2 := bsum_bd k (i + 1)
      go_wp2_with fail
      refine ⟨⟨i + 1, by omega, by go_num, ?_, by simp⟩, by simp [intOf]; omega⟩
      rw [HT.out]
      have hk2 : (k.data.toList[i]'(by rw [HSZ.out]; exact hlt)).toNat = k[i].toNat := rfl
      have hk3 := k[i].toNat_lt
      rw [hk2]
      congr 1
      unfold wrap64
      omega
    · obtain rfl : i = k.size := by omega
      have hlt' : ¬ (k.size : Int) < (k.size : Int) := by omega
      cases rs with
      | nil =>
        have HR : Hid (rkOf [] k = 0) := rfl
        have h00 : (((([] : List Int).length : Nat) : Int) == 0) = true := by decide
        go_wp2_with fail
        go_ret
        exact ⟨by rw [HR.out]; rfl, brefl _⟩
      | cons r0 rs' =>
        obtain ⟨n, hn⟩ : ∃ n, (r0 :: rs').length = n := ⟨_, rfl⟩
        have hn0 : 0 < n := by rw [← hn]; simp
        have hq : (bsum k k.size).toNat % n < n := Nat.mod_lt _ hn0
        obtain ⟨b, off, rfl, hbl, hr⟩ : ∃ b off, ar = some ⟨b, off, none⟩ ∧ b < wr.heap.size ∧ ∀ j (h : j < (r0 :: rs').length), wr.cell? ⟨b, off + j, none⟩ = some (.int .i64 (r0 :: rs')[j]) := by
          rcases HROW.out with h | h
          · cases h
          · exact h
        have e0 : wr.cell? ⟨b, off + (bsum k k.size).toNat % n, none⟩ = some (.int .i64 ((r0 :: rs').getD ((bsum k k.size).toNat % n) 0)) := by
          rw [hr _ (by rw [hn]; exact hq), List.getD_eq_getElem?_getD, List.getElem?_eq_getElem (by rw [hn]; exact hq)]
          rfl
        have HR : Hid (rkOf (r0 :: rs') k = (r0 :: rs').getD ((bsum k k.size).toNat % n) 0) := by
          show _ = _
          unfold rkOf
          rw [if_neg (by simp), hn]
        generalize (r0 :: rs').getD ((bsum k k.size).toNat % n) 0 = z at *
        rw [hn] at p0 hrs
        have hmod : (bsum k k.size).tmod (n : Int) = (((bsum k k.size).toNat % n : Nat) : Int) := by
          rw [Int.tmod_eq_emod_of_nonneg hb.1]
          have : bsum k k.size = ((bsum k k.size).toNat : Int) := by omega
          rw [this]
          simp
        obtain ⟨q, hqe⟩ : ∃ q, (bsum k k.size).toNat % n = q := ⟨_, rfl⟩
        rw [hqe] at e0 hmod hq
        have hqn : (q : Int) < (n : Int) := by omega
        have hne : ((n : Int) == 0) = false := by simp; omega
        have hne2 : ¬ (n : Int) = 0 := by omega
        have HB := hide (brefl wr)
        clear hr hn hqe hlt
        generalize bsum k k.size = s at *
        go_wp2_with fail
        go_region
        go_wp2_with fail
        go_ret
        exact ⟨by rw [HR.out]; rfl, HB.out.drew⟩
end Go.Proofs.Ytkfomjinilmjaaa
