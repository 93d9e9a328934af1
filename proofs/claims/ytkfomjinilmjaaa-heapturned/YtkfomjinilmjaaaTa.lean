/- What the law HeapTurned speaks of: lists of steps, two heaps and two lists; inOrder. -/
import Derived.Test.YtkfomjinilmjaaaRc
import Derived.Test.YtkfomjinilmjaaaPb
namespace Go.Proofs.Ytkfomjinilmjaaa
open Go.RowKit Go.Maps

theorem once_snoc {L : List RwS} {x : RwS} (h : Once L) (hno : ∀ y ∈ L, y.k ≠ x.k) : Once (L ++ [x]) := by
  intro p q a b ha hb hk
  have hp := get_lt ha
  have hq := get_lt hb
  rw [List.length_append, List.length_singleton] at hp hq
  by_cases e1 : p = L.length
  · by_cases e2 : q = L.length
    · omega
    · exfalso
      subst e1
      rw [List.getElem?_append_right (Nat.le_refl _), Nat.sub_self, List.getElem?_cons_zero, Option.some.injEq] at ha
      rw [List.getElem?_append_left (by omega)] at hb
      subst ha
      exact hno b (List.mem_iff_getElem?.2 ⟨q, hb⟩) hk.symm
  · by_cases e2 : q = L.length
    · exfalso
      subst e2
      rw [List.getElem?_append_right (Nat.le_refl _), Nat.sub_self, List.getElem?_cons_zero, Option.some.injEq] at hb
      rw [List.getElem?_append_left (by omega)] at ha
      subst hb
      exact hno a (List.mem_iff_getElem?.2 ⟨p, ha⟩) hk
    · rw [List.getElem?_append_left (by omega)] at ha hb
      exact h p q a b ha hb hk
/-- A step of a list, or none. -/
def stp (os : List Opn) (i : Nat) : Opn := os.getD i (0, 0, ⟨#[]⟩)
theorem stp_at {os : List Opn} {i : Nat} (h : i < os.length) : stp os i = os[i] := by
  unfold stp
  rw [List.getD_eq_getElem?_getD, List.getElem?_eq_getElem h]
  rfl
/-- The rows behind steps that set. -/
def opl (z : Int → Int) (os : List Opn) : Nat → List RwS
  | 0 => []
  | i + 1 => without (opl z os i) (stp os i).2.2 ++ [⟨(stp os i).2.2, z (stp os i).2.1, (i : Int) + 1⟩]
structure OplOk (L : List RwS) (n : Nat) : Prop where
  len : L.length ≤ n
  once : Once L
  turn : L.Pairwise fun a b => a.t < b.t
  top : ∀ x ∈ L, x.t ≤ n
theorem opl_ok (z : Int → Int) (os : List Opn) (i : Nat) : OplOk (opl z os i) i := by
  induction i with
  | zero => exact ⟨Nat.le_refl _, fun i j a b h => by simp [opl] at h, by simp [opl], fun x hx => by simp [opl] at hx⟩
  | succ i ih =>
    unfold opl
    generalize opl z os i = L at *
    generalize stp os i = o at *
    have hlw : (without L o.2.2).length ≤ L.length := List.length_filter_le _ _
    refine ⟨by rw [List.length_append, List.length_singleton]; have := ih.len; omega, once_snoc (ih.once.without ih.turn _) (fun y hy => (mem_without.1 hy).2), ?_, fun x hx => ?_⟩
    · refine List.pairwise_append.2 ⟨List.Pairwise.filter _ ih.turn, List.pairwise_singleton _ _, fun a ha b hb => ?_⟩
      rw [List.mem_singleton] at hb
      subst hb
      have := ih.top a (mem_without.1 ha).1
      simp only
      omega
    · rcases List.mem_append.1 hx with hx | hx
      · have := ih.top x (mem_without.1 hx).1
        omega
      · rw [List.mem_singleton] at hx
        subst hx
        simp
/-- A row without its rank. -/
def zr (x : RwS) : RwS := ⟨x.k, 0, x.t⟩
theorem without_zr (L : List RwS) (k : ByteArray) : without (L.map zr) k = (without L k).map zr := by
  unfold without
  rw [List.filter_map]
  rfl
theorem opl_zero (os : List Opn) (i : Nat) : opl (fun _ => 0) os i = (opl id os i).map zr := by
  induction i with
  | zero => rfl
  | succ i ih =>
    unfold opl
    rw [ih, without_zr, List.map_append]
    rfl
theorem alls_zero {L : List RwS} {ks : List ByteArray} (h : Alls noI L ks) : Alls ltI (L.map zr) ks := by
  induction h with
  | nil => exact .nil
  | @cons L x ks f _ ih =>
    rw [← without_zr] at ih
    refine Alls.cons (x := zr x) ⟨List.mem_map_of_mem f.1, fun y hy => ?_⟩ ih
    obtain ⟨y', hy', rfl⟩ := List.mem_map.1 hy
    have := f.2 y' hy'
    rw [ahd_false] at this ⊢
    refine ⟨by simp [ltI, zr], .inr ?_⟩
    rcases this.2 with h | h
    · simp [noI] at h
    · exact h
/-- Two heaps and two lists that the call made. -/
structure HT (w0 w : World) (h m : Nat) (ao : Option Addr) (L1 : List RwS) (T1 : Int) (h2 m2 : Nat) (ao2 : Option Addr) (L2 : List RwS) (T2 : Int) (al : Option Addr) (cl : Nat) (L3 : List RwS) (am : Option Addr) (cm : Nat) (M : List RwS) : Prop where
  a : HS gtI w0 w h 27 L1 T1 ao m
  b : HS noI w0 w h2 35 L2 T2 ao2 m2
  gl : Th.Good w al cl L3
  gm : Th.Good w am cm M
  dab : ∀ g, Own h m ao g → ¬ Own h2 m2 ao2 g
  dla : ∀ a, al = some a → ¬ Own h m ao a.block
  dlb : ∀ a, al = some a → ¬ Own h2 m2 ao2 a.block
  dma : ∀ a, am = some a → ¬ Own h m ao a.block
  dmb : ∀ a, am = some a → ¬ Own h2 m2 ao2 a.block
section
variable {w0 w w' : World} {h m : Nat} {ao : Option Addr} {L1 : List RwS} {T1 : Int} {h2 m2 : Nat} {ao2 : Option Addr} {L2 : List RwS} {T2 : Int} {al : Option Addr} {cl : Nat} {L3 : List RwS} {am : Option Addr} {cm : Nat} {M : List RwS} {e : Ending} {k : ByteArray} {r t : Int}
theorem HT.next (S : HT w0 w h m ao L1 T1 h2 m2 ao2 L2 T2 al cl L3 am cm M) (hb : Below w.heap.size w w') : HT w0 w' h m ao L1 T1 h2 m2 ao2 L2 T2 al cl L3 am cm M :=
  ⟨S.a.next hb, S.b.next hb, S.gl.below hb, S.gm.below hb, S.dab, S.dla, S.dlb, S.dma, S.dmb⟩
theorem HT.seta (S : HT w0 w h m ao L1 T1 h2 m2 ao2 L2 T2 al cl L3 am cm M) (hs : SetTo gtI w h 27 L1 T1 ao m k r e w') :
    e = .returned (.bool (rowOf L1 k).isSome) ∧ ∃ ao', HT w0 w' h m ao' (without L1 k ++ [⟨k, r, T1 + 1⟩]) (T1 + 1) h2 m2 ao2 L2 T2 al cl L3 am cm M := by
  obtain ⟨he, ao', S2, hk, hn⟩ := S.a.set hs
  refine ⟨he, ao', ⟨S2, S.b.other hk (fun b hb => S.a.base b hb) (fun b hb hO => S.dab b hO hb), S.gl.kept hk S.dla, S.gm.kept hk S.dma, fun g hO hB => ?_, fun a e hO => ?_, S.dlb, fun a e hO => ?_, S.dmb⟩⟩
  · rcases hn.own g hO with e | e
    · exact S.dab g e hB
    · have := S.b.hp.old g hB; omega
  · rcases hn.own _ hO with e2 | e2
    · exact S.dla a e e2
    · have := S.gl.old a e; omega
  · rcases hn.own _ hO with e2 | e2
    · exact S.dma a e e2
    · have := S.gm.old a e; omega
theorem HT.setb (S : HT w0 w h m ao L1 T1 h2 m2 ao2 L2 T2 al cl L3 am cm M) (hs : SetTo noI w h2 35 L2 T2 ao2 m2 k r e w') :
    e = .returned (.bool (rowOf L2 k).isSome) ∧ ∃ ao', HT w0 w' h m ao L1 T1 h2 m2 ao' (without L2 k ++ [⟨k, r, T2 + 1⟩]) (T2 + 1) al cl L3 am cm M := by
  obtain ⟨he, ao', S2, hk, hn⟩ := S.b.set hs
  refine ⟨he, ao', ⟨S.a.other hk (fun b hb => S.b.base b hb) (fun b hb hO => S.dab b hb hO), S2, S.gl.kept hk S.dlb, S.gm.kept hk S.dmb, fun g hO hB => ?_, S.dla, fun a e hO => ?_, S.dma, fun a e hO => ?_⟩⟩
  · rcases hn.own g hB with e | e
    · exact S.dab g hO e
    · have := S.a.hp.old g hO; omega
  · rcases hn.own _ hO with e2 | e2
    · exact S.dlb a e e2
    · have := S.gl.old a e; omega
  · rcases hn.own _ hO with e2 | e2
    · exact S.dmb a e e2
    · have := S.gm.old a e; omega
theorem HT.setl (S : HT w0 w h m ao L1 T1 h2 m2 ao2 L2 T2 al cl L3 am cm M) (hs : RefSet w L3 k r t e w') :
    ∃ al' cl', e = .returned (.tuple #[.slice al' (without L3 k ++ [(⟨k, r, t⟩ : RwS)]).length cl', .bool (rowOf L3 k).isSome]) ∧ HT w0 w' h m ao L1 T1 h2 m2 ao2 L2 T2 al' cl' (without L3 k ++ [⟨k, r, t⟩]) am cm M := by
  obtain ⟨al', cl', he, hg, hb, hnew⟩ := hs
  exact ⟨al', cl', he, ⟨S.a.next hb, S.b.next hb, hg, S.gm.below hb, S.dab, fun a e hO => by have := hnew a e; have := S.a.hp.old _ hO; omega, fun a e hO => by have := hnew a e; have := S.b.hp.old _ hO; omega, S.dma, S.dmb⟩⟩
theorem HT.setm (S : HT w0 w h m ao L1 T1 h2 m2 ao2 L2 T2 al cl L3 am cm M) (hs : RefSet w M k r t e w') :
    ∃ am' cm', e = .returned (.tuple #[.slice am' (without M k ++ [(⟨k, r, t⟩ : RwS)]).length cm', .bool (rowOf M k).isSome]) ∧ HT w0 w' h m ao L1 T1 h2 m2 ao2 L2 T2 al cl L3 am' cm' (without M k ++ [⟨k, r, t⟩]) := by
  obtain ⟨al', cl', he, hg, hb, hnew⟩ := hs
  exact ⟨al', cl', he, ⟨S.a.next hb, S.b.next hb, S.gl.below hb, hg, S.dab, S.dla, S.dlb, fun a e hO => by have := hnew a e; have := S.a.hp.old _ hO; omega, fun a e hO => by have := hnew a e; have := S.b.hp.old _ hO; omega⟩⟩
theorem HT.popa (S : HT w0 w h m ao L1 T1 h2 m2 ao2 L2 T2 al cl L3 am cm M) (hp : Hp gtI w' h 27 (without L1 k) T1 ao m) (hk : Keep (Own h m ao) w w') : HT w0 w' h m ao (without L1 k) T1 h2 m2 ao2 L2 T2 al cl L3 am cm M :=
  ⟨S.a.without hp hk, S.b.other hk (fun b hb => S.a.base b hb) (fun b hb hO => S.dab b hO hb), S.gl.kept hk S.dla, S.gm.kept hk S.dma, S.dab, S.dla, S.dlb, S.dma, S.dmb⟩
theorem HT.dropl (S : HT w0 w h m ao L1 T1 h2 m2 ao2 L2 T2 al cl L3 am cm M) {al' : Option Addr} {cl' : Nat} (hg : Th.Good w' al' cl' (without L3 k)) (hb : Below w.heap.size w w') (hnr : Near w al al') : HT w0 w' h m ao L1 T1 h2 m2 ao2 L2 T2 al' cl' (without L3 k) am cm M := by
  refine ⟨S.a.next hb, S.b.next hb, hg, S.gm.below hb, S.dab, fun a e hO => ?_, fun a e hO => ?_, S.dma, S.dmb⟩
  · rcases hnr a e with ⟨b, hb', e2⟩ | e2
    · rw [e2] at hO
      exact S.dla b hb' hO
    · have := S.a.hp.old _ hO
      omega
  · rcases hnr a e with ⟨b, hb', e2⟩ | e2
    · rw [e2] at hO
      exact S.dlb b hb' hO
    · have := S.b.hp.old _ hO
      omega
end
/-- The greatest one of those that were looked at. -/
structure Gst (L : List RwS) (i : Nat) (j : Nat) : Prop where
  lt : j < L.length
  low : ∀ p x y, p < i → L[p]? = some x → L[j]? = some y → x.r ≤ y.r
  first : ∀ p x y, p < j → L[p]? = some x → L[j]? = some y → x.r < y.r
theorem Gst.fst {L : List RwS} {j : Nat} {y : RwS} (B : Gst L L.length j) (ht : L.Pairwise fun a b => a.t < b.t) (hy : L[j]? = some y) : Fst gtI L y := by
  refine ⟨List.mem_iff_getElem?.2 ⟨j, hy⟩, fun x hx => ?_⟩
  obtain ⟨p, hp⟩ := List.mem_iff_getElem?.1 hx
  have h1 := B.low p x y (get_lt hp) hp hy
  rw [ahd_false]
  refine ⟨by simp [gtI]; omega, ?_⟩
  rcases Nat.lt_trichotomy p j with h | h | h
  · have := B.first p x y h hp hy
    left
    simp [gtI]; omega
  · subst h
    rw [hp, Option.some.injEq] at hy
    subst hy
    exact .inr (Int.le_refl _)
  · have := pw_get ht hy hp h
    right; omega
set_option maxHeartbeats 4000000 in
set_option maxRecDepth 100000 in
theorem inOrder_is {w : World} {asl : Option Addr} {cs : Nat} {ks : List ByteArray} {ao : Option Addr} {cap : Nat} {os : List Opn} (hK : Ks.slot w asl ks) (hR : Opn.rowAt w ao os) (n : Nat) (hn : n = min os.length 40) (hA : Alls ltI (opl (fun _ => 0) os n) ks) :
    Calls Try.prog 29 #[.slice asl ks.length cs, .slice ao os.length cap] w fun e w' => e = .returned (.bool true) ∧ Below w.heap.size w w' := by
  have HK := hide hK
  have HRW := hide hR
  have HA := hide hA
  have HN := hide hn
  clear hK hR hA hn
  go_enter Try.func29, Try.ntmps29
  go_wp2_with fail
  go_loopw [5, 6] (fun v5 v6 wr => ∃ (i : Nat) (al : Option Addr) (cl : Nat), v6 = .int .i64 i ∧ i ≤ os.length ∧ i ≤ 40 ∧ v5 = .slice al (opl (fun _ => 0) os i).length cl ∧ Hid (Th.Good wr al cl (opl (fun _ => 0) os i)) ∧ Hid (Below w.heap.size w wr)) (fun _ v6 _ => os.length - (intOf v6).toNat)
  case atStart => exact ⟨0, none, 0, rfl, Nat.zero_le _, Nat.zero_le _, rfl, good_nil _, brefl w⟩
  case round =>
    obtain ⟨i, al, cl, rfl, hi, hi4, rfl, GD, BEL⟩ := hrel
    have hok := opl_ok (fun _ => 0) os i
    have hlg := hok.len
    have HON := hide hok.once
    have HTU := hide hok.turn
    clear hok
    by_cases hlt : i < os.length
    · by_cases h40 : i < 40
      · have hlt' : (i : Int) < (os.length : Int) := by omega
        have h40' : (i : Int) < 40 := by omega
        obtain ⟨b, off, rfl, hbl, hr⟩ : ∃ b off, ao = some ⟨b, off, none⟩ ∧ b < w.heap.size ∧ Opn.reads w b off os := by
          rcases HRW.out with h | h
          · rw [h] at hlt; simp at hlt
          · exact h
        obtain ⟨_, _, e2⟩ := Opn.reads_below hr hbl BEL.out i hlt
        have HS1 : Hid (opl (fun _ => 0) os (i + 1) = without (opl (fun _ => 0) os i) os[i].2.2 ++ [⟨os[i].2.2, 0, (i : Int) + 1⟩]) := by
          show _ = _
          rw [← stp_at hlt]
          rfl
        clear hr
        generalize os[i] = x at *
        obtain ⟨x0, x1, x2⟩ := x
        simp only at e2 HS1
        generalize opl (fun _ => 0) os i = L at *
        have CS := hide (refSet_is GD.out HON.out (by omega) x2 0 ((i : Int) + 1))
        clear GD
        go_wp2_with fail
        refine CS.out.mono ?_
        rintro e w2 ⟨al2, cl2, rfl, hg2, hb2, _⟩
        rw [← HS1.out] at hg2 ⊢
        have G2 := hide hg2
        have B2 := hide (bthen BEL.out hb2)
        clear hg2 hb2 CS
        go_wp2_with fail
        exact ⟨⟨i + 1, al2, cl2, by go_num, by omega, by omega, rfl, G2, B2⟩, by simp [intOf]; omega⟩
      · have hlt' : (i : Int) < (os.length : Int) := by omega
        have h40' : ¬ (i : Int) < 40 := by omega
        obtain rfl : n = i := by have := HN.out; omega
        generalize opl (fun _ => 0) os n = L at *
        have CA := hide (refAll_is GD.out HON.out HTU.out (by omega))
        have hks : ks.length ≤ 40 := by have := alls_len HA.out HON.out HTU.out; omega
        go_wp2_with fail
        refine CA.out.mono ?_
        rintro e w3 ⟨ar3, cr3, ks3, rfl, hsl, hall, hb3⟩
        have CE := hide (refSame_is (c1 := cs) (c2 := cr3) (Ks.below HK.out (bthen BEL.out hb3)) hsl (by omega) (HA.out.one HTU.out hall))
        have B3 := hide (bthen BEL.out hb3)
        clear hsl hall hb3 CA
        go_wp2_with fail
        refine CE.out.mono ?_
        rintro e w4 ⟨rfl, hb4⟩
        have B4 := hide (bthen B3.out hb4)
        clear hb4
        go_wp2_with fail
        go_ret
        exact ⟨rfl, B4.out⟩
    · have hlt' : ¬ (i : Int) < (os.length : Int) := by omega
      obtain rfl : n = i := by have := HN.out; omega
      generalize opl (fun _ => 0) os n = L at *
      have CA := hide (refAll_is GD.out HON.out HTU.out (by omega))
      have hks : ks.length ≤ 40 := by have := alls_len HA.out HON.out HTU.out; omega
      go_wp2_with fail
      refine CA.out.mono ?_
      rintro e w3 ⟨ar3, cr3, ks3, rfl, hsl, hall, hb3⟩
      have CE := hide (refSame_is (c1 := cs) (c2 := cr3) (Ks.below HK.out (bthen BEL.out hb3)) hsl (by omega) (HA.out.one HTU.out hall))
      have B3 := hide (bthen BEL.out hb3)
      clear hsl hall hb3 CA
      go_wp2_with fail
      refine CE.out.mono ?_
      rintro e w4 ⟨rfl, hb4⟩
      have B4 := hide (bthen B3.out hb4)
      clear hb4
      go_wp2_with fail
      go_ret
      exact ⟨rfl, B4.out⟩
end Go.Proofs.Ytkfomjinilmjaaa
