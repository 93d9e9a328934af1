/- The law ShowOnes. -/
import Derived.Test.YtpmmhmgojjlniaaGreatDoorO22
import Derived.Test.YtpmmhmgojjlniaaGreatDoorO23
import Derived.Test.YtpmmhmgojjlniaaGreatDoorO34
import Derived.Test.YtpmmhmgojjlniaaGreatDoorO40
import Derived.Test.YtpmmhmgojjlniaaGreatDoorO42
import Derived.Test.YtpmmhmgojjlniaaGreatDoorRows
import Derived.ProofKit
import Derived.OpenShut
import Derived.Lib.SmallJoins
import Derived.LaidSub
import Derived.LaidMore
import Derived.Lib.LaidTab
import Derived.Shelf.Vars
import Derived.HandedShaped
import Derived.SizedLaws
namespace Go.Proofs.YtpmmhmgojjlniaaGreatDoor
open Go.RowKit Go.Sort

theorem small_parts {c : Cf} (h : small c = true) : (c.lists.length ≤ 20 ∧ c.maps.length ≤ 20 ∧ c.routers.length ≤ 12) ∧ (∀ a ∈ c.lists, a.name.size ≤ 100 ∧ a.rules.length ≤ 20) ∧
    (∀ a ∈ c.maps, (a.name.size ≤ 100 ∧ a.cls.length ≤ 20) ∧ ∀ x ∈ a.cls, x.m.list.size ≤ 100 ∧ x.m.path.size ≤ 100 ∧ x.s.add.length ≤ 20 ∧ x.s.del.length ≤ 20 ∧ x.s.prep.length ≤ 30) ∧
    ∀ a ∈ c.routers, (a.name.size ≤ 100 ∧ a.nets.length ≤ 20 ∧ a.nbs.length ≤ 20 ∧ a.links.length ≤ 20) ∧ (∀ n ∈ a.nbs, n.name.size + n.imp.size + n.exp.size ≤ 200) ∧ ∀ k ∈ a.links, k.name.size ≤ 100 := by
  simp only [small, lsSm, mpSm, clSm, rtSm, nbSm, lkSm, Bool.and_eq_true, Bool.not_eq_true', Bool.or_eq_false_iff, decide_eq_false_iff_not, List.all_eq_true, Nat.not_lt] at h
  obtain ⟨⟨⟨⟨⟨h1, h2⟩, h3⟩, h4⟩, h5⟩, h6⟩ := h
  refine ⟨⟨h1, h2, h3⟩, h4, fun a ha => ⟨(h5 a ha).1, fun x hx => ?_⟩, fun a ha => ?_⟩
  · obtain ⟨⟨⟨⟨g1, g2⟩, g3⟩, g4⟩, g5⟩ := (h5 a ha).2 x hx
    exact ⟨g1, g2, g3, g4, g5⟩
  · obtain ⟨⟨⟨⟨⟨g1, g2⟩, g3⟩, g4⟩, g5⟩, g6⟩ := h6 a ha
    exact ⟨⟨g1, g2, g3, g4⟩, g5, g6⟩
theorem small_g {c : Cf} (h : small c = true) : GCf c := by
  obtain ⟨⟨h1, h2, h3⟩, h4, h5, h6⟩ := small_parts h
  refine ⟨by omega, fun a ha => Nat.le_trans (h4 a ha).1 (by decide), by omega, fun a ha => ?_, by omega, fun a ha => ?_⟩
  · obtain ⟨⟨g1, g2⟩, g3⟩ := h5 a ha
    exact ⟨by omega, fun x hx => by
      obtain ⟨k1, k2, k3, k4, k5⟩ := g3 x hx
      exact ⟨by omega, by omega, by omega, by omega⟩, by omega⟩
  · obtain ⟨⟨g1, g2, g3, g4⟩, g5, g6⟩ := h6 a ha
    exact ⟨by omega, by omega, fun n hn => by have := g5 n hn; exact ⟨by omega, by omega, by omega⟩, by omega, fun k hk => by have := g6 k hk; exact Nat.le_trans this (by decide), by omega⟩
theorem small_p {c : Cf} (h : small c = true) : PathSz c := fun m hm x hx => by
  have := (((small_parts h).2.2.1 m hm).2 x hx).2.1
  omega
theorem small_n {c : Cf} (h : small c = true) : c.lists.length ≤ 900 ∧ c.maps.length ≤ 900 ∧ c.routers.length ≤ 900 := by
  have := (small_parts h).1
  omega
/-- The texts of a kind's parts. -/
def partsOf (c : Cf) : Nat → List (List UInt8)
  | 0 => c.lists.map (listB 0)
  | 1 => c.maps.map (mapB 0)
  | _ => c.routers.map (routerB 0)
theorem parts_len (c : Cf) (K : Nat) : (nmsOf c K).length = (partsOf c K).length := by
  match K with
  | 0 => simp [nmsOf, partsOf]
  | 1 => simp [nmsOf, partsOf]
  | K + 2 => simp [nmsOf, partsOf]
theorem mem_one {α : Type} {l : List α} {i : Nat} {a : α} (h : a ∈ (l.drop i).take 1) : a ∈ l := List.mem_of_mem_drop (List.mem_of_mem_take h)
theorem one_sub (c : Cf) (K i : Nat) : (∀ a ∈ (oneOf c K i).lists, a ∈ c.lists) ∧ (∀ a ∈ (oneOf c K i).maps, a ∈ c.maps) ∧ (∀ a ∈ (oneOf c K i).routers, a ∈ c.routers) := by
  match K with
  | 0 => exact ⟨fun a h => mem_one h, fun a h => (by cases h), fun a h => (by cases h)⟩
  | 1 => exact ⟨fun a h => (by cases h), fun a h => mem_one h, fun a h => (by cases h)⟩
  | K + 2 => exact ⟨fun a h => (by cases h), fun a h => (by cases h), fun a h => mem_one h⟩
theorem one_len (c : Cf) (K i : Nat) : (oneOf c K i).lists.length ≤ 1 ∧ (oneOf c K i).maps.length ≤ 1 ∧ (oneOf c K i).routers.length ≤ 1 := by
  match K with
  | 0 => exact ⟨List.length_take_le .., Nat.zero_le _, Nat.zero_le _⟩
  | 1 => exact ⟨Nat.zero_le _, List.length_take_le .., Nat.zero_le _⟩
  | K + 2 => exact ⟨Nat.zero_le _, Nat.zero_le _, List.length_take_le ..⟩
theorem one_g {c : Cf} (h : GCf c) (K i : Nat) : GCf (oneOf c K i) := by
  obtain ⟨_, h2, _, h4, _, h6⟩ := h
  obtain ⟨s1, s2, s3⟩ := one_sub c K i
  obtain ⟨l1, l2, l3⟩ := one_len c K i
  exact ⟨by omega, fun a ha => h2 a (s1 a ha), by omega, fun a ha => h4 a (s2 a ha), by omega, fun a ha => h6 a (s3 a ha)⟩
theorem one_w {c : Cf} (h : Wide c) (K i : Nat) : Wide (oneOf c K i) := ⟨fun a ha => h.1 a ((one_sub c K i).1 a ha), fun a ha => h.2 a ((one_sub c K i).2.2 a ha)⟩
theorem one_p {c : Cf} (h : PathSz c) (K i : Nat) : PathSz (oneOf c K i) := fun m hm => h m ((one_sub c K i).2.1 m hm)
theorem uniq_one {α κ : Type} [DecidableEq κ] (key : α → κ) {l : List α} (h : l.length ≤ 1) : uniq key l = true := by
  match l, h with
  | [], _ => rfl
  | [a], _ => rfl
theorem one_ok {c : Cf} (h : cfOk c = true) (K i : Nat) : cfOk (oneOf c K i) = true := by
  obtain ⟨s1, s2, s3⟩ := one_sub c K i
  obtain ⟨l1, l2, l3⟩ := one_len c K i
  simp only [cfOk, Bool.and_eq_true, decide_eq_true_eq, List.all_eq_true] at h ⊢
  obtain ⟨⟨⟨⟨h1, h2⟩, _⟩, ⟨h3, h4⟩, _⟩, ⟨h5, h6⟩, _⟩ := h
  exact ⟨⟨⟨⟨by omega, fun a ha => h2 a (s1 a ha)⟩, uniq_one _ l1⟩, ⟨by omega, fun a ha => h4 a (s2 a ha)⟩, uniq_one _ l2⟩, ⟨by omega, fun a ha => h6 a (s3 a ha)⟩, uniq_one _ l3⟩
theorem flat_one {α : Type} (f : α → List UInt8) (l : List α) (i : Nat) (h : i < l.length) : ((l.drop i).take 1).flatMap f = f l[i] := by
  rw [drop_one l i h, List.flatMap_cons, List.flatMap_nil, List.append_nil]
theorem one_text (c : Cf) (K i : Nat) (h : i < (partsOf c K).length) : cfgB (oneOf c K i) = (partsOf c K)[i] := by
  match K, h with
  | 0, h =>
    have h' : i < c.lists.length := by simpa [partsOf] using h
    show ((c.lists.drop i).take 1).flatMap (listB 0) ++ [] ++ [] = _
    rw [flat_one _ _ _ h', List.append_nil, List.append_nil]
    simp [partsOf]
  | 1, h =>
    have h' : i < c.maps.length := by simpa [partsOf] using h
    show [] ++ ((c.maps.drop i).take 1).flatMap (mapB 0) ++ [] = _
    rw [flat_one _ _ _ h', List.append_nil, List.nil_append]
    simp [partsOf]
  | K + 2, h =>
    have h' : i < c.routers.length := by simpa [partsOf] using h
    show [] ++ [] ++ ((c.routers.drop i).take 1).flatMap (routerB 0) = _
    rw [flat_one _ _ _ h', List.nil_append, List.nil_append]
    simp [partsOf]
/-- What stands there behind so many kinds, and so many parts of the next one. -/
def allT (c : Cf) (K i : Nat) : List UInt8 := ((List.range K).flatMap fun k => (partsOf c k).flatten) ++ ((partsOf c K).take i).flatten
theorem allT_next (c : Cf) (K : Nat) : allT c K (partsOf c K).length = allT c (K + 1) 0 := by
  unfold allT
  rw [List.take_length, List.range_succ, List.flatMap_append, List.take_zero]
  simp
theorem allT_more (c : Cf) (K i : Nat) (h : i < (partsOf c K).length) : allT c K (i + 1) = allT c K i ++ (partsOf c K)[i] := by
  unfold allT
  rw [List.take_succ_eq_append_getElem h, List.flatten_append, ← List.append_assoc]
  simp
theorem allT_all (c : Cf) : allT c 3 0 = cfgB c := by
  unfold allT cfgB
  simp [List.range_succ, partsOf, List.flatMap_def]
theorem allT_len (c : Cf) {K i : Nat} (hK : K < 3) : (allT c K i).length ≤ (cfgB c).length := by
  have h1 : (allT c K i).length ≤ (allT c (K + 1) 0).length := by
    rw [← allT_next]
    unfold allT
    rw [List.length_append, List.length_append, List.take_length]
    have : (((partsOf c K).take i).flatten).length ≤ ((partsOf c K).flatten).length := by
      conv => rhs; rw [← List.take_append_drop i (partsOf c K), List.flatten_append, List.length_append]
      omega
    omega
  have h2 : ∀ k, (allT c k 0).length ≤ (allT c (k + 1) 0).length := fun k => by
    rw [← allT_next]
    unfold allT
    rw [List.length_append, List.length_append, List.take_zero]
    simp
  have h3 := allT_all c
  rw [← h3]
  match K, hK with
  | 0, _ => exact Nat.le_trans h1 (Nat.le_trans (h2 1) (h2 2))
  | 1, _ => exact Nat.le_trans h1 (h2 2)
  | 2, _ => exact h1
theorem one_pr {c : Cf} (h : prE c = 0) (K i : Nat) (hK : K < 3) (hi : i < (partsOf c K).length) : prE (oneOf c K i) = 0 ∧ prT (oneOf c K i) = ⟨((partsOf c K)[i]).toArray⟩ := by
  have hok : cfOk c = true := by
    cases hc : cfOk c with
    | true => rfl
    | false => unfold prE at h; rw [if_pos hc] at h; cases h
  have hlen : (cfgB c).length ≤ 8192 := by
    unfold prE at h
    rw [if_neg (by rw [hok]; decide)] at h
    by_cases g : 8192 < (cfgB c).length
    · rw [if_pos g] at h; cases h
    · omega
  have h1 := allT_len c (K := K) (i := i + 1) hK
  rw [allT_more c K i hi, List.length_append] at h1
  have e : prE (oneOf c K i) = 0 := by
    unfold prE
    rw [one_ok hok, one_text c K i hi, if_neg (by decide), if_neg (by omega)]
  refine ⟨e, ?_⟩
  unfold prT
  rw [if_pos e, one_text c K i hi]
theorem names_is (c : Cf) (v1 v2 v3 : Value) (w : World) (hc : CfR w c v1 v2 v3) (hn : c.lists.length ≤ 900 ∧ c.maps.length ≤ 900 ∧ c.routers.length ≤ 900) (K : Nat) (hK : K < 3) :
    Calls Tryz.prog 18 #[.agg #[v1, v2, v3], .int .i64 K] w fun e w' => ∃ o ca, e = .returned (.slice o (partsOf c K).length ca) ∧ Below w.heap.size w w' := by
  have key : Calls Tryz.prog 18 #[.agg #[v1, v2, v3], .int .i64 K] w fun e w' => TextsAre w e w' (nmsOf c K) := by
    match K, hK with
    | 0, _ => exact names0_is c v1 v2 v3 w hc hn
    | 1, _ => exact names1_is c v1 v2 v3 w hc hn
    | 2, _ => exact names2_is c v1 v2 v3 w hc hn
  refine key.mono ?_
  rintro e w' ⟨v, B, rfl, _, ho, hb⟩
  obtain ⟨o, ca, rfl⟩ := Ar.row_slice ho
  rw [← parts_len]
  exact ⟨o, ca, rfl, hb⟩
theorem one_is (c : Cf) (v1 v2 v3 : Value) (w : World) (hc : CfR w c v1 v2 v3) (hn : c.lists.length ≤ 900 ∧ c.maps.length ≤ 900 ∧ c.routers.length ≤ 900) (K i : Nat) (hK : K < 3) (hi : i < (partsOf c K).length) :
    Calls Tryz.prog 20 #[.agg #[v1, v2, v3], .int .i64 K, .int .i64 i] w fun e w' => ∃ u1 u2 u3, e = .returned (.agg #[u1, u2, u3]) ∧ CfR w (oneOf c K i) u1 u2 u3 ∧ Below w.heap.size w w' := by
  match K, hK with
  | 0, _ => exact (one0_is c v1 v2 v3 w hc i (by simpa [partsOf] using hi) hn.1)
  | 1, _ => exact (one1_is c v1 v2 v3 w hc i (by simpa [partsOf] using hi) hn.2.1)
  | 2, _ => exact (one2_is c v1 v2 v3 w hc i (by simpa [partsOf] using hi) hn.2.2)
end Go.Proofs.YtpmmhmgojjlniaaGreatDoor
namespace Go.Proofs.YtpmmhmgojjlniaaGreatDoor
open Go.RowKit Go.Sort

theorem adds_any (x y : List UInt8) (h : x.length + y.length ≤ 100000) (W : World) : (Op.stringOp .add ⟨x.toArray⟩ ⟨y.toArray⟩).run Tryz.prog W = .ok (.string ⟨(x ++ y).toArray⟩) W :=
  Ax.adds_mk ⟨x.toArray⟩ ⟨y.toArray⟩ ⟨(x ++ y).toArray⟩ (by
    have : (100000 : Nat) ≤ maxLen := by decide
    show x.toArray.size + y.toArray.size ≤ maxLen
    simp only [List.size_toArray]
    omega) (by apply ByteArray.ext; simp) W
theorem parts_few {c : Cf} (h : small c = true) (K : Nat) : (partsOf c K).length ≤ 900 := by
  obtain ⟨h1, h2, h3⟩ := small_n h
  match K with
  | 0 => simpa [partsOf] using h1
  | 1 => simpa [partsOf] using h2
  | K + 2 => simpa [partsOf] using h3
theorem part_is (c : Cf) (hs : small c = true) (hw : Wide c) (he : prE c = 0) (K i : Nat) (hK : K < 3) (hi : i < (partsOf c K).length) (u1 u2 u3 : Value) (W : World) (hP : Ar.Y4.Pt W) (ht : Tab W) (hr : CfR W (oneOf c K i) u1 u2 u3) :
    Calls Tryz.prog 10 #[.agg #[u1, u2, u3]] W fun e w' => e = .returned (.tuple #[.string ⟨((partsOf c K)[i]).toArray⟩, .int .i64 0]) ∧ Below W.heap.size W w' := by
  have h := print_is (oneOf c K i) u1 u2 u3 W hP ht hr (one_g (small_g hs) K i) (one_w hw K i) (one_p (small_p hs) K i)
  rw [(one_pr he K i hK hi).1, (one_pr he K i hK hi).2] at h
  exact h
set_option maxHeartbeats 16000000 in
set_option maxRecDepth 100000 in
theorem ones_is (c : Cf) (v1 v2 v3 : Value) (w : World) (hP : Ar.Y4.Pt w) (ht : Tab w) (hc : CfR w c v1 v2 v3) (hw : Wide c) :
    Calls Tryz.prog 7 #[.agg #[v1, v2, v3]] w fun e w' => e = .returned (.bool true) ∧ Below w.heap.size w w' := by
  have HC := hide hc
  obtain ⟨h1, h2, h3⟩ := hc
  obtain ⟨o1, k1, rfl⟩ := h1.slice
  obtain ⟨o2, k2, rfl⟩ := h2.slice
  obtain ⟨o3, k3, rfl⟩ := h3.slice
  have A := balloc (brefl w) (.cells #[.slice o1 c.lists.length k1, .slice o2 c.maps.length k2, .slice o3 c.routers.length k3] 26)
  have N := hide (heap_new w #[.slice o1 c.lists.length k1, .slice o2 c.maps.length k2, .slice o3 c.routers.length k3] 26)
  have CS := hide (fun W (hb : Below w.heap.size w W) => small_is c _ _ _ W (HC.out.below hb) hw)
  have CL := hide (fun W (hb : Below w.heap.size w W) => lives_is W (hP.on hb) (ht.on hb))
  have CP := hide (fun (hs : small c = true) W (hb : Below w.heap.size w W) => print_is c _ _ _ W (hP.on hb) (ht.on hb) (HC.out.below hb) (small_g hs) hw (small_p hs))
  have CN := hide (fun (hs : small c = true) K (hK : K < 3) W (hb : Below w.heap.size w W) => names_is c _ _ _ W (HC.out.below hb) (small_n hs) K hK)
  have CO := hide (fun (hs : small c = true) K i (hK : K < 3) (hi : i < (partsOf c K).length) W (hb : Below w.heap.size w W) => one_is c _ _ _ W (HC.out.below hb) (small_n hs) K i hK hi)
  have CQ := hide (fun (hs : small c = true) (he : prE c = 0) K i (hK : K < 3) (hi : i < (partsOf c K).length) (u1 u2 u3 : Value) W (hb : Below w.heap.size w W) (hr : CfR W (oneOf c K i) u1 u2 u3) =>
    part_is c hs hw he K i hK hi u1 u2 u3 W (hP.on hb) (ht.on hb) hr)
  have HA := hide A
  have hwl : w.heap.size < (w.alloc (.cells #[.slice o1 c.lists.length k1, .slice o2 c.maps.length k2, .slice o3 c.routers.length k3] 26)).heap.size := by rw [size_alloc]; omega
  clear h1 h2 h3 A hP ht hw
  go_enter Tryz.func7, Tryz.ntmps7
  go_upto_region 1 with fail
  obtain ⟨bc, hbc⟩ : ∃ q, w.heap.size = q := ⟨_, rfl⟩
  rw [hbc] at N hwl ⊢
  obtain ⟨w0, hw0⟩ : ∃ q, w.alloc (.cells #[.slice o1 c.lists.length k1, .slice o2 c.maps.length k2, .slice o3 c.routers.length k3] 26) = q := ⟨_, rfl⟩
  rw [hw0] at N HA hwl ⊢
  clear hw0
  have n0 := cell_of N.out 0 rfl
  have n1 := cell_of N.out 1 rfl
  have n2 := cell_of N.out 2 rfl
  have C1 := hide (CS.out w0 HA.out)
  have HBC := hide hbc
  clear hbc
  cases hsm : small c with
  | false =>
    rw [hsm] at C1
    clear hsm CP CN CO CQ
    go_wp2_with fail
    refine C1.out.mono ?_
    rintro e w1 ⟨rfl, hb1⟩
    have C2 := hide (CL.out w1 (bthen HA.out hb1))
    have HB1 := hide (bthen HA.out hb1)
    clear hb1 C1
    go_wp2_with fail
    refine C2.out.mono ?_
    rintro e w2 ⟨rfl, hb2⟩
    have HB2 := hide (bthen HB1.out hb2)
    clear hb2 C2
    go_wp2_with fail
    go_ret
    exact ⟨rfl, by first | exact HB2.out | (rw [← HBC.out]; exact HB2.out)⟩
  | true =>
    rw [hsm] at C1
    have HS := hide hsm
    clear hsm
    go_wp2_with fail
    refine C1.out.mono ?_
    rintro e w1 ⟨rfl, hb1⟩
    have HB1 := hide (bthen HA.out hb1)
    have N1 := hide ((hb1.block bc hwl).trans N.out)
    clear hb1 C1 n0 n1 n2
    have n0 := cell_of N1.out 0 rfl
    have n1 := cell_of N1.out 1 rfl
    have n2 := cell_of N1.out 2 rfl
    have C2 := hide (CP.out HS.out w1 HB1.out)
    go_wp2_with fail
    refine C2.out.mono ?_
    rintro e w2 ⟨rfl, hb2⟩
    have HB2 := hide (bthen HB1.out hb2)
    have N2 := hide ((hb2.block bc (heap_lt N1.out)).trans N1.out)
    clear hb2 C2 CP n0 n1 n2 N1
    by_cases he : prE c = 0
    · have HE := hide he
      have HT : Hid (prT c = ⟨(cfgB c).toArray⟩) := by show _ = _; unfold prT; rw [if_pos he]
      have HLN : Hid ((cfgB c).length ≤ 8192) := by
        show _ ≤ _
        unfold prE at he
        by_cases hk : cfOk c = false
        · rw [if_pos hk] at he; cases he
        · rw [if_neg hk] at he
          by_cases g : 8192 < (cfgB c).length
          · rw [if_pos g] at he; cases he
          · omega
      rw [he, HT.out]
      clear he HT
      go_wp2_with fail
      go_loopw [5, 6] (fun v5 v6 wr => ∃ K : Nat, v6 = .int .i64 K ∧ K ≤ 3 ∧ v5 = .string ⟨(allT c K 0).toArray⟩ ∧ Hid (Below w.heap.size w wr) ∧ Hid (wr.heap[bc]? = some (.cells #[.slice o1 c.lists.length k1, .slice o2 c.maps.length k2, .slice o3 c.routers.length k3] 26 (0, 0)))) (fun _ v6 _ => 3 - (intOf v6).toNat)
      case atStart => exact ⟨0, rfl, by omega, rfl, HB2.out, N2.out⟩
      case round =>
        obtain ⟨K, rfl, hK, rfl, HBR, NR⟩ := hrel
        by_cases hk3 : K < 3
        · have hk3' : (K : Int) < 3 := by omega
          have HK3 := hide hk3
          have n0 := cell_of NR.out 0 rfl
          have n1 := cell_of NR.out 1 rfl
          have n2 := cell_of NR.out 2 rfl
          have C3 := hide (CN.out HS.out K hk3 wr HBR.out)
          go_wp2_with fail
          refine C3.out.mono ?_
          rintro e w3 ⟨on, cn, rfl, hb3⟩
          have HB3 := hide (bthen HBR.out hb3)
          have N3 := hide ((hb3.block bc (heap_lt NR.out)).trans NR.out)
          clear hb3 C3 n0 n1 n2 NR HBR
          go_wp2_with fail
          obtain ⟨nn, hnn⟩ : ∃ n, (partsOf c K).length = n := ⟨_, rfl⟩
          have HNN := hide hnn
          have hnn9 : nn ≤ 900 := by rw [← hnn]; exact parts_few HS.out K
          rw [hnn]
          clear hnn
          go_loopw [5, 8] (fun v5 v8 wq => ∃ i : Nat, v8 = .int .i64 i ∧ i ≤ nn ∧ v5 = .string ⟨(allT c K i).toArray⟩ ∧ Hid (Below w.heap.size w wq) ∧ Hid (wq.heap[bc]? = some (.cells #[.slice o1 c.lists.length k1, .slice o2 c.maps.length k2, .slice o3 c.routers.length k3] 26 (0, 0)))) (fun _ v8 _ => nn - (intOf v8).toNat)
          case atStart => exact ⟨0, rfl, Nat.zero_le _, rfl, HB3.out, N3.out⟩
          case round =>
            clear HB3 N3
            obtain ⟨i, rfl, hi, rfl, HBQ, NQ⟩ := hrel
            by_cases hin : i < nn
            · have hin' : (i : Int) < (nn : Int) := by omega
              have HIN := hide (show i < (partsOf c K).length by rw [HNN.out]; exact hin)
              have n0 := cell_of NQ.out 0 rfl
              have n1 := cell_of NQ.out 1 rfl
              have n2 := cell_of NQ.out 2 rfl
              have C4 := hide (CO.out HS.out K i HK3.out HIN.out wr HBQ.out)
              go_wp2_with fail
              refine C4.out.mono ?_
              rintro e w4 ⟨u1, u2, u3, rfl, hr4, hb4⟩
              have HB4 := hide (bthen HBQ.out hb4)
              have N4 := hide ((hb4.block bc (heap_lt NQ.out)).trans NQ.out)
              have C5 := hide (CQ.out HS.out HE.out K i HK3.out HIN.out u1 u2 u3 w4 HB4.out (hr4.below hb4))
              have HAD := hide (fun W => adds_any (allT c K i) ((partsOf c K)[i]'HIN.out) (by
                have h1 := allT_len c (K := K) (i := i + 1) HK3.out
                rw [allT_more c K i HIN.out, List.length_append] at h1
                have := HLN.out
                omega) W)
              rw [← allT_more c K i HIN.out] at HAD
              clear hb4 hr4 C4 n0 n1 n2 NQ HBQ
              obtain ⟨tp, htp⟩ : ∃ x : ByteArray, ⟨((partsOf c K)[i]'HIN.out).toArray⟩ = x := ⟨_, rfl⟩
              obtain ⟨ta, hta⟩ : ∃ x : ByteArray, ⟨(allT c K i).toArray⟩ = x := ⟨_, rfl⟩
              obtain ⟨tb, htb⟩ : ∃ x : ByteArray, ⟨(allT c K (i + 1)).toArray⟩ = x := ⟨_, rfl⟩
              rw [htp] at C5 HAD
              rw [hta, htb] at HAD
              rw [hta]
              have HTB := hide htb
              clear htp hta htb
              go_wp2_with fail
              refine C5.out.mono ?_
              rintro e w5 ⟨rfl, hb5⟩
              have HB5 := hide (bthen HB4.out hb5)
              have N5 := hide ((hb5.block bc (heap_lt N4.out)).trans N4.out)
              have had := HAD.out
              clear hb5 C5 HB4 N4 HAD
              go_wp2_with fail
              exact ⟨⟨i + 1, by go_num, by omega, by rw [HTB.out], HB5, N5⟩, by simp [intOf] <;> omega⟩
            · have hin' : ¬ (i : Int) < (nn : Int) := by omega
              obtain rfl : i = nn := by omega
              have HAN := hide (allT_next c K)
              rw [HNN.out] at HAN
              go_wp2_with fail
              exact ⟨⟨K + 1, by go_num, by have := HK3.out; omega, by rw [HAN.out], HBQ, NQ⟩, by have := HK3.out; simp [intOf] <;> omega⟩
        · have hk3' : ¬ (K : Int) < 3 := by omega
          obtain rfl : K = 3 := by omega
          have C6 := hide (CL.out wr HBR.out)
          have HAL := hide (allT_all c)
          rw [HAL.out]
          obtain ⟨tx, htx⟩ : ∃ x : ByteArray, ⟨(cfgB c).toArray⟩ = x := ⟨_, rfl⟩
          rw [htx]
          clear htx HAL HB2
          have heq : (tx == tx) = true := (Go.MapKept.bytes_beq tx tx).2 rfl
          go_wp2_with fail
          refine C6.out.mono ?_
          rintro e w6 ⟨rfl, hb6⟩
          have HB6 := hide (bthen HBR.out hb6)
          clear hb6 C6
          go_wp2_with fail
          go_ret
          exact ⟨rfl, HB6.out⟩
    · have C3 := hide (CL.out w2 HB2.out)
      clear CN CO CQ
      go_wp2_with fail
      refine C3.out.mono ?_
      rintro e w3 ⟨rfl, hb3⟩
      have HB3 := hide (bthen HB2.out hb3)
      clear hb3 C3
      go_wp2_with fail
      go_ret
      exact ⟨rfl, HB3.out⟩
end Go.Proofs.YtpmmhmgojjlniaaGreatDoor
namespace Go.Proofs.YtpmmhmgojjlniaaGreatDoor
open Go.ChangeShapes Go.WideShapes Go.ChangeAt Go.RowKit Go.Joins Go.Deep

theorem own : ownKnob Tryz.prog.godebug = none := by kernel_rfl
theorem range_of {W : World} {l : List (String × DataW Unit)} (D : DataW Unit) (hl : (l.filter fun x => x.1 == "strconv.ErrRange") = [("strconv.ErrRange", D)]) (hD : ∃ nm d, D = .iface nm d)
    (hH : laidMetH Tryz.prog [("strconv.ErrRange", D)] W → laidMet Tryz.prog [("strconv.ErrRange", D)] W) (h : laidMetH Tryz.prog l W) : ∃ ev, W.cell? ⟨3, 0, none⟩ = some ev ∧ (ev = .nilIface ∨ ∃ te pe, ev = .iface te pe) := by
  have h1 := h.filter fun x => x.1 == "strconv.ErrRange"
  rw [hl] at h1
  have h2 := hH h1
  obtain ⟨nm, d, rfl⟩ := hD
  obtain ⟨ps, ⟨g', t', cs, fuel, p, q, hg', ht', hvar, hd, _, _⟩, _⟩ := h2
  have hg : Tryz.prog.globalNamed "strconv.ErrRange" = some 3 := by kernel_rfl
  obtain rfl := Option.some.inj (hg.symm.trans hg')
  have hty : (Tryz.prog.globals[3]?).map (·.type) = some 249 := by kernel_rfl
  obtain rfl := Option.some.inj (hty.symm.trans ht')
  obtain ⟨f2, u, v, hcs, _, _⟩ := iface_of_trod Tryz.underlying249 hd
  refine ⟨.iface u v, ?_, .inr ⟨u, v, rfl⟩⟩
  have h0 : W.cell? ⟨3, 0, none⟩ = cs[0]? := by simpa using World.var?_cell hg hvar 0
  rw [h0, ← Array.getElem?_toList, hcs]
  rfl
/-- A row that lists variables, and whose proof asks the world's shape besides. -/
theorem returns_both {H : Type} {enc : TypeId × Value → H} {a : Assume} {C : Checked} {os : Os} {f : FuncId} {fn : Func} {s : ChangeSpec} {conds : List PathCond} {apart fresh handsOn again : Bool} {X : World → Array Value → Prop}
    (hX : ∀ (w w' : World) (args : Array Value), w.heap = w'.heap → X w args → X w' args)
    (own : ownKnob C.prog.godebug = none) (started : os.Started) (noInit : C.prog.inits.idxOf? f = none) (hfn : C.prog.funcs[f]? = some fn)
    (witness : ∃ (w : World) (tape : Tape) (i : Input), w.os = os ∧ (w.forCall tape i).Shaped C.prog ∧ i.vars = [] ∧ Input.okWide C.prog (w.forCall tape i) .any w.heap.size f i ∧
      ((s.pre enc C.prog fn conds apart (w.forCall tape i).memory i.args ∧ X (w.forCall tape i).memory i.args) ∧ sizedMet enc C.prog fn (OpenSpec.ofChange s) apart (w.forCall tape i).memory i.args) ∧ a.holds C.prog (lone (Frame.enter C.prog f i.args .normal) [] (w.forCall tape i)))
    (contract : ∀ (W : World) (base : Nat) (args : Array Value) (ds gs : List (DataW H)) (before : List MemPlace),
      (∀ (j : Nat) t v, fn.params[j]? = some t → args[j]? = some v → Value.okWide C.prog W .any base t v) →
      DataW.Whole enc C.prog fn.params.toList s.vars apart W args.toList ds gs before → X W args → W.ShapedOpen C.prog → (DataW.weightsEach C.prog (fn.params.toList ++ s.plain.varTypes C.prog) (ds ++ gs)).all (· ≤ reachBytes) = true →
      Calls C.prog f args W fun e W' => ∃ v, e = .returned v ∧ s.post enc C.prog fn apart fresh handsOn again W args v W') :
    ReturnsInHanded a C os f .any (fun w args => (s.pre enc C.prog fn conds apart w args ∧ X w args) ∧ sizedMet enc C.prog fn (OpenSpec.ofChange s) apart w args) (s.post enc C.prog fn apart fresh handsOn again) := by
  refine returnsInHanded_of_calls own started noInit witness ?_
  intro w tape i _ hsh _ hok hpre _
  obtain ⟨_, _, _, fn', hfn', _, _, _, _, hval⟩ := hok
  obtain rfl : fn' = fn := Option.some.inj (hfn'.symm.trans hfn)
  obtain ⟨⟨⟨ds, gs, before, hw, _⟩, hx⟩, hz⟩ := hpre
  refine (contract (w.forCall tape i) w.heap.size i.args ds gs before hval (DataW.Whole.of_heap (w' := w.forCall tape i) (by rfl) hw) (hX _ _ _ (by rfl) hx) hsh (hz.weights hw)).mono fun e W' ⟨v, he, hp⟩ => ?_
  subst he
  exact ChangeSpec.post_blind hp
/-- What the parser asks of package variables. -/
theorem laidOut : laidOutB Tryz.prog = true := by kernel_rfl
theorem tab_of {W : World} {l : List (String × DataW Unit)} (hl : (l.filter fun x => x.1 == "internal/strconv.uint64pow10") = [("internal/strconv.uint64pow10", Lib.tabData .u64 Lib.pow10Tab)]) (h : laidMetH Tryz.prog l W) : Tab W := by
  have h1 := h.filter fun x => x.1 == "internal/strconv.uint64pow10"
  rw [hl] at h1
  have h2 : laidMet Tryz.prog [("internal/strconv.uint64pow10", Lib.tabData .u64 Lib.pow10Tab)] W := h1
  exact Lib.tabIs_of_head (g := (Tryz.prog.globalNamed "internal/strconv.uint64pow10").getD 0) (t := 350) (e := 319) (n := 20) (by kernel_rfl) (by kernel_rfl) (by kernel_rfl) (by kernel_rfl) (by kernel_rfl) (by kernel_rfl) h2
/-- The first argument fits into an address space; the second one. -/
theorem fit_of0 {H : Type} {f : Func} {l : List TypeId} {vs : List TypeId} {d : DataW H} {r : List (DataW H)} (hp : f.params = (26 :: l).toArray) (h : (DataW.weightsEach Tryz.prog (f.params.toList ++ vs) (d :: r)).all (· ≤ reachBytes) = true) : Fit 26 d := by
  intro n hn
  rw [hp] at h
  refine of_decide_eq_true (List.all_eq_true.1 h n ?_)
  show n ∈ DataW.weightsEach Tryz.prog (26 :: (l ++ vs)) (d :: r)
  simp only [DataW.weightsEach, List.mem_append]
  exact .inl hn
theorem fit_of1 {H : Type} {f : Func} {l : List TypeId} {u : TypeId} {vs : List TypeId} {d e : DataW H} {r : List (DataW H)} (hp : f.params = (u :: 26 :: l).toArray) (h : (DataW.weightsEach Tryz.prog (f.params.toList ++ vs) (e :: d :: r)).all (· ≤ reachBytes) = true) : Fit 26 d := by
  intro n hn
  rw [hp] at h
  refine of_decide_eq_true (List.all_eq_true.1 h n ?_)
  show n ∈ DataW.weightsEach Tryz.prog (u :: 26 :: (l ++ vs)) (e :: d :: r)
  simp only [DataW.weightsEach, List.mem_append]
  exact .inr (.inl hn)
theorem maxLen_of {W : World} (h : W.ShapedOpen Tryz.prog) : ∃ m, W.cell? ⟨0, 0, none⟩ = some (.int .i64 m) :=
  cell_of_shapedOpen_int (zero := #[.int .i64 0]) (t := 3) h (of_decide_eq_true (by kernel_rfl)) (by kernel_rfl) rfl (by kernel_rfl) (by kernel_rfl) Tryz.underlying3
end Go.Proofs.YtpmmhmgojjlniaaGreatDoor
