/- How long a configuration's text is. -/
import Derived.Test.YtpmmhmgojjlniaaGreatDoorQ01
import Derived.Test.YtpmmhmgojjlniaaGreatDoorQ21
import Derived.Test.YtpmmhmgojjlniaaGreatDoorQ27
import Derived.Test.YtpmmhmgojjlniaaGreatDoorQ28
import Derived.Test.YtpmmhmgojjlniaaGreatDoorQ32
import Derived.Test.YtpmmhmgojjlniaaGreatDoorQ39
import Derived.Test.YtpmmhmgojjlniaaGreatDoorQ41
namespace Go.Proofs.YtpmmhmgojjlniaaGreatDoor
open Go.RowKit Go.Sort
theorem joinTail_len (s : List UInt8) (r : List (List UInt8)) : (Lib.joinTail s r).length = (r.map fun x => s.length + x.length).sum := by
  unfold Lib.joinTail
  rw [List.length_flatten, List.map_map]
  congr 1
  apply List.map_congr_left
  intro x _
  simp
theorem sayT_len (xs : List ByteArray) : (sayT xs).size ≤ (xs.map fun x => x.size + 1).sum + 1 := by
  have hw : (wordsT xs).size ≤ (xs.map fun x => x.size + 1).sum := by
    unfold wordsT
    show (Lib.join _ _).toArray.size ≤ _
    rw [List.size_toArray]
    cases xs with
    | nil => simp [Lib.join_nil]
    | cons x r =>
      rw [List.map_cons, Lib.join_cons, List.length_append, joinTail_len, List.map_map, List.map_cons, List.sum_cons]
      have e : (r.map ((fun x => [(32 : UInt8)].length + x.length) ∘ fun x : ByteArray => x.data.toList)) = r.map fun x => x.size + 1 := by
        apply List.map_congr_left
        intro y _
        show 1 + y.data.toList.length = y.data.size + 1
        rw [Array.length_toList]
        omega
      rw [e]
      show x.data.toList.length + _ ≤ x.data.size + 1 + _
      rw [Array.length_toList]
      omega
  unfold sayT
  rw [ByteArray.size_append]
  show _ + 1 ≤ _
  omega
theorem sum_le {α : Type} (f : α → Nat) (k : Nat) (l : List α) (h : ∀ a ∈ l, f a ≤ k) : (l.map f).sum ≤ l.length * k := by
  induction l with
  | nil => simp
  | cons a l ih =>
    rw [List.map_cons, List.sum_cons, List.length_cons, Nat.add_mul]
    have h1 := h a (List.mem_cons_self ..)
    have h2 := ih fun b hb => h b (List.mem_cons_of_mem _ hb)
    omega
theorem flat_len {α : Type} (f : α → List UInt8) (k : Nat) (l : List α) (h : ∀ a ∈ l, (f a).length ≤ k) : (l.flatMap f).length ≤ l.length * k := by
  rw [List.length_flatMap]
  exact sum_le _ _ _ h
theorem le_mul16 {n k m : Nat} (h : n ≤ m) : n * k ≤ m * k := Nat.mul_le_mul_right k h
theorem ruleT_size (r : Rg) : (ruleT r).size ≤ 200 := by
  show (Ax.Ad.rtext _).toArray.size ≤ 200
  rw [List.size_toArray]
  unfold Ax.Ad.rtext
  split
  · rename_i hm
    obtain ⟨r1, r2, r3, r4⟩ := (Ax.Ad.rmay_iff _).1 hm
    simp only at r1 r2 r3 r4 ⊢
    obtain ⟨b0, b1, _⟩ := (Ax.Ad.may_iff _ _).1 r1
    have L1 := Ax.Ad.textI_len r.ad r.bits b0 b1
    have L0 := Ax.Ad.tword_len r.ok
    have Lg := Ax.Ad.itoa_len3 r.ge (by omega) (by omega)
    have Ll := Ax.Ad.itoa_len3 r.le (by omega) (by omega)
    have G : (Ax.Ad.tge r.bits r.ge).length ≤ 7 := by
      unfold Ax.Ad.tge
      split
      · simp
      · simp; omega
    have L : (Ax.Ad.tle r.ge r.le).length ≤ 7 := by
      unfold Ax.Ad.tle
      split
      · simp
      · simp; omega
    simp only [List.length_append]
    omega
  · simp
theorem addrT_size (p : Int × Int) : (addrT p).size ≤ 100 := by
  show (Ax.Ad.textA _ _).toArray.size ≤ 100
  rw [List.size_toArray]
  unfold Ax.Ad.textA
  split
  · rename_i hm
    obtain ⟨b0, b1, _⟩ := (Ax.Ad.may_iff _ _).1 hm
    exact Ax.Ad.textI_len _ _ b0 b1
  · simp
theorem numT_size (n : Int) (h0 : -1 ≤ n) (h1 : n ≤ 1048576) : (numT n).size ≤ 21 := by
  show (Lib.itoa n).toArray.size ≤ 21
  rw [List.size_toArray]
  exact Lib.itoa_length_le n (by omega) (by omega)
theorem commT_size (c : Int × Int) : (commT c).size ≤ 60 := by
  show (Cm.Co.text _ _).toArray.size ≤ 60
  rw [List.size_toArray]
  unfold Cm.Co.text
  split
  · rename_i hm
    have hm : 1 ≤ c.1 ∧ c.1 ≤ 65535 ∧ 0 ≤ c.2 ∧ c.2 ≤ 65535 := of_decide_eq_true hm
    have L1 := Lib.itoa_length_le c.1 (by omega) (by omega)
    have L2 := Lib.itoa_length_le c.2 (by omega) (by omega)
    split
    · decide
    · split
      · decide
      · split
        · decide
        · unfold Cm.Co.plain
          simp only [List.length_append, List.length_cons, List.length_nil]
          omega
  · simp
theorem nmOk_size {s : ByteArray} (h : nmOk s = true) : s.size ≤ 12 := by
  have h : Kn.nmF s = 0 := of_decide_eq_true h
  unfold Kn.nmF at h
  split at h
  · split at h
    · cases h
    · split at h
      · cases h
      · split at h
        · cases h
        · omega
  · cases h
theorem lackOk_size {s : ByteArray} (h : lackOk s = true) : s.size ≤ 12 := by
  unfold lackOk at h
  rcases Bool.or_eq_true _ _ ▸ h with h | h
  · have h : s = ⟨#[]⟩ := of_decide_eq_true h
    rw [h]
    exact Nat.zero_le _
  · exact nmOk_size h
theorem inR_iff {n a b : Int} : inR n a b = true ↔ a ≤ n ∧ n ≤ b := by simp [inR]
/-- What is known of a clause that may be. -/
structure ClF (c : Cl) : Prop where
  n : 1 ≤ c.n ∧ c.n ≤ 65535
  list : c.m.list.size ≤ 12
  pref : -1 ≤ c.s.pref ∧ c.s.pref ≤ 1048576
  med : -1 ≤ c.s.med ∧ c.s.med ≤ 1048576
  org : -1 ≤ c.s.org ∧ c.s.org ≤ 2
  add : c.s.add.length ≤ 8
  del : c.s.del.length ≤ 8
  prep : c.s.prep.length ≤ 16 ∧ ∀ n ∈ c.s.prep, 1 ≤ n ∧ n ≤ 65535
theorem clF_of {c : Cl} (h : clOk c = true) : ClF c := by
  simp only [clOk, matchOk, setOk, Bool.and_eq_true, inR_iff, decide_eq_true_eq, List.all_eq_true] at h
  obtain ⟨⟨hn, ⟨hl, _⟩, _⟩, ⟨⟨⟨⟨hp, hm⟩, ho⟩, ha, _⟩, hd, _⟩, hr, hq⟩ := h
  exact ⟨hn, lackOk_size hl, hp, hm, ho, by omega, by omega, by omega, fun n h => hq n h⟩
/-- What is known of a router that may be. -/
structure RtF (r : Rt) : Prop where
  asn : 1 ≤ r.asn ∧ r.asn ≤ 65535
  id : 1 ≤ r.id ∧ r.id ≤ 65535
  nets : r.nets.length ≤ 16
  nbs : r.nbs.length ≤ 16 ∧ ∀ n ∈ r.nbs, n.name.size ≤ 12 ∧ n.imp.size ≤ 12 ∧ n.exp.size ≤ 12
  links : r.links.length ≤ 16 ∧ ∀ k ∈ r.links, k.name.size ≤ 12 ∧ 0 ≤ k.cost ∧ k.cost ≤ 65536
theorem rtF_of {r : Rt} (h : rtOk r = true) : RtF r := by
  simp only [rtOk, netsOk, nbsOk, linksOk, nbOk, lkOk, Bool.and_eq_true, inR_iff, decide_eq_true_eq, List.all_eq_true] at h
  obtain ⟨⟨⟨⟨⟨ha, hi⟩, hn, _⟩, _⟩, ⟨hb, hb2⟩, _⟩, ⟨hl, hl2⟩, _⟩ := h
  exact ⟨ha, hi, by omega, ⟨by omega, fun n h => ⟨nmOk_size (hb2 n h).1, lackOk_size (hb2 n h).2.1, lackOk_size (hb2 n h).2.2⟩⟩, ⟨by omega, fun k h => ⟨nmOk_size (hl2 k h).1, (hl2 k h).2⟩⟩⟩
/-- What is known of a configuration that may be. -/
structure CfF (c : Cf) : Prop where
  lists : c.lists.length ≤ 16 ∧ ∀ a ∈ c.lists, a.name.size ≤ 12 ∧ a.rules.length ≤ 16
  maps : c.maps.length ≤ 16 ∧ ∀ a ∈ c.maps, a.name.size ≤ 12 ∧ a.cls.length ≤ 16 ∧ ∀ x ∈ a.cls, ClF x
  routers : c.routers.length ≤ 8 ∧ ∀ a ∈ c.routers, a.name.size ≤ 12 ∧ RtF a
theorem cfF_of {c : Cf} (h : cfOk c = true) : CfF c := by
  simp only [cfOk, rulesOk, clsOk, Bool.and_eq_true, decide_eq_true_eq, List.all_eq_true] at h
  obtain ⟨⟨⟨⟨h1, h2⟩, _⟩, ⟨h3, h4⟩, _⟩, ⟨h5, h6⟩, _⟩ := h
  exact ⟨⟨by omega, fun a ha => ⟨nmOk_size (h2 a ha).1, by have := (h2 a ha).2.1; omega⟩⟩, ⟨by omega, fun a ha => ⟨nmOk_size (h4 a ha).1, by have := (h4 a ha).2.1.1; omega, fun x hx => clF_of ((h4 a ha).2.1.2 x hx)⟩⟩, ⟨by omega, fun a ha => ⟨nmOk_size (h6 a ha).1, rtF_of (h6 a ha).2⟩⟩⟩
theorem say2_size (x y : ByteArray) : (sayT [x, y]).size ≤ x.size + y.size + 3 := by
  have := sayT_len [x, y]
  simp only [List.map_cons, List.map_nil, List.sum_cons, List.sum_nil] at this
  omega
theorem sayRow_size {α : Type} (x : ByteArray) (l : List α) (f : α → ByteArray) (k : Nat) (h : ∀ a ∈ l, (f a).size ≤ k) : (sayT (x :: l.map f)).size ≤ x.size + 2 + l.length * (k + 1) := by
  have h1 := sayT_len (x :: l.map f)
  rw [List.map_cons, List.sum_cons, List.map_map] at h1
  have h2 := sum_le ((fun x : ByteArray => x.size + 1) ∘ f) (k + 1) l fun a ha => Nat.add_le_add_right (h a ha) 1
  omega
theorem orgT_size (n : Int) : (orgT n).size ≤ 4 := by
  unfold orgT
  split
  · decide
  · split <;> decide
theorem setSz_of {s : Se} (hp : -1 ≤ s.pref ∧ s.pref ≤ 1048576) (hm : -1 ≤ s.med ∧ s.med ≤ 1048576) (ha : s.add.length ≤ 8) (hd : s.del.length ≤ 8) (hq : s.prep.length ≤ 16 ∧ ∀ n ∈ s.prep, 1 ≤ n ∧ n ≤ 65535) (d : Nat) : SetSz s ∧ (setB d s).length ≤ 7 * (d + 1000) := by
  have a1 := say2_size ⟨#[115, 101, 116, 32, 112, 114, 101, 102]⟩ (numT s.pref)
  have a2 := say2_size ⟨#[115, 101, 116, 32, 109, 101, 100]⟩ (numT s.med)
  have a3 := say2_size ⟨#[115, 101, 116, 32, 111, 114, 105, 103, 105, 110]⟩ (orgT s.org)
  have a4 : (sayT [⟨#[115, 101, 116, 32, 99, 111, 109, 109, 117, 110, 105, 116, 121, 32, 99, 108, 101, 97, 114]⟩]).size ≤ 100 := by rw [sayT_one]; decide
  have a5 := sayRow_size ⟨#[115, 101, 116, 32, 99, 111, 109, 109, 117, 110, 105, 116, 121, 32, 100, 101, 108]⟩ s.del commT 60 fun c _ => commT_size c
  have a6 := sayRow_size ⟨#[115, 101, 116, 32, 99, 111, 109, 109, 117, 110, 105, 116, 121, 32, 97, 100, 100]⟩ s.add commT 60 fun c _ => commT_size c
  have a7 := sayRow_size ⟨#[115, 101, 116, 32, 112, 114, 101, 112, 101, 110, 100]⟩ s.prep numT 21 fun n h => numT_size n (by have := hq.2 n h; omega) (by have := hq.2 n h; omega)
  have b1 := numT_size s.pref hp.1 hp.2
  have b2 := numT_size s.med hm.1 hm.2
  have b3 := orgT_size s.org
  have z1 : (⟨#[115, 101, 116, 32, 112, 114, 101, 102]⟩ : ByteArray).size = 8 := rfl
  have z2 : (⟨#[115, 101, 116, 32, 109, 101, 100]⟩ : ByteArray).size = 7 := rfl
  have z3 : (⟨#[115, 101, 116, 32, 111, 114, 105, 103, 105, 110]⟩ : ByteArray).size = 10 := rfl
  have z5 : (⟨#[115, 101, 116, 32, 99, 111, 109, 109, 117, 110, 105, 116, 121, 32, 100, 101, 108]⟩ : ByteArray).size = 17 := rfl
  have z6 : (⟨#[115, 101, 116, 32, 99, 111, 109, 109, 117, 110, 105, 116, 121, 32, 97, 100, 100]⟩ : ByteArray).size = 17 := rfl
  have z7 : (⟨#[115, 101, 116, 32, 112, 114, 101, 112, 101, 110, 100]⟩ : ByteArray).size = 11 := rfl
  rw [z1] at a1
  rw [z2] at a2
  rw [z3] at a3
  rw [z5] at a5
  rw [z6] at a6
  rw [z7] at a7
  have l1 := numB_len d ⟨#[115, 101, 116, 32, 112, 114, 101, 102]⟩ s.pref
  have l2 := numB_len d ⟨#[115, 101, 116, 32, 109, 101, 100]⟩ s.med
  have l3 := orgB_len d s.org
  have l4 := clrB_len d s.clr
  have l5 := rowB_len d ⟨#[115, 101, 116, 32, 99, 111, 109, 109, 117, 110, 105, 116, 121, 32, 100, 101, 108]⟩ s.del commT
  have l6 := rowB_len d ⟨#[115, 101, 116, 32, 99, 111, 109, 109, 117, 110, 105, 116, 121, 32, 97, 100, 100]⟩ s.add commT
  have l7 := rowB_len d ⟨#[115, 101, 116, 32, 112, 114, 101, 112, 101, 110, 100]⟩ s.prep numT
  obtain ⟨hq1, _⟩ := hq
  refine ⟨⟨by omega, by omega, by omega, by omega, by omega, by omega, by omega⟩, ?_⟩
  unfold setB
  simp only [List.length_append]
  omega
theorem matchSz_of {m : Mt} (h1 : m.list.size ≤ 12) (h2 : m.path.size ≤ 10000) (d : Nat) : MatchSz m ∧ (matchB d m).length ≤ 3 * (d + 10100) := by
  have a1 := say2_size ⟨#[109, 97, 116, 99, 104, 32, 112, 114, 101, 102, 105, 120]⟩ m.list
  have a2 := say2_size ⟨#[109, 97, 116, 99, 104, 32, 112, 97, 116, 104]⟩ (inQ m.path)
  have a3 := say2_size ⟨#[109, 97, 116, 99, 104, 32, 99, 111, 109, 109, 117, 110, 105, 116, 121]⟩ (commT (m.ca, m.cn))
  have b2 : (inQ m.path).size = m.path.size + 2 := by
    unfold inQ
    rw [ByteArray.size_append, ByteArray.size_append]
    show 1 + _ + 1 = _
    omega
  have b3 := commT_size (m.ca, m.cn)
  have z1 : (⟨#[109, 97, 116, 99, 104, 32, 112, 114, 101, 102, 105, 120]⟩ : ByteArray).size = 12 := rfl
  have z2 : (⟨#[109, 97, 116, 99, 104, 32, 112, 97, 116, 104]⟩ : ByteArray).size = 10 := rfl
  have z3 : (⟨#[109, 97, 116, 99, 104, 32, 99, 111, 109, 109, 117, 110, 105, 116, 121]⟩ : ByteArray).size = 15 := rfl
  rw [z1] at a1
  rw [z2] at a2
  rw [z3] at a3
  refine ⟨⟨by omega, by omega, by omega, by omega⟩, ?_⟩
  have a : (mlB d m.list).length ≤ d + 10100 := by
    unfold mlB; split
    · exact Nat.zero_le _
    · rw [lineB_len]; omega
  have b : (mpB d m.path).length ≤ d + 10100 := by
    unfold mpB; split
    · exact Nat.zero_le _
    · rw [lineB_len]; omega
  have c : (mcB d m.ca m.cn).length ≤ d + 10100 := by
    unfold mcB; split
    · exact Nat.zero_le _
    · rw [lineB_len]; omega
  unfold matchB
  rw [List.length_append, List.length_append]
  omega
theorem rulesB_len (d : Nat) (l : List Rg) (h : l.length ≤ 16) : (rulesB d l).length ≤ 16 * (d + 300) := by
  refine Nat.le_trans (flat_len (ruleB d) (d + 300) l fun r _ => ?_) (le_mul16 h)
  unfold ruleB
  rw [lineB_len, sayT_one, ByteArray.size_append]
  have := ruleT_size r
  show d + (_ + 1) + 1 ≤ _
  omega
theorem listB_len (d : Nat) (a : Ls) (h : a.name.size ≤ 12) (h2 : a.rules.length ≤ 16) : (listB d a).length ≤ 18 * (d + 400) := by
  unfold listB
  rw [blockB_len]
  have := rulesB_len (d + 1) a.rules h2
  have e : (preT a.name).size = 12 + a.name.size := by unfold preT; rw [ByteArray.size_append]; rfl
  omega
theorem rtIn_len (d : Nat) (r : Rt) (h : RtF r) : (rtIn d r).length ≤ 60 * (d + 300) := by
  obtain ⟨ha, hi, hn, ⟨hb, hb2⟩, hl, hl2⟩ := h
  have a1 := say2_size ⟨#[97, 115]⟩ (numT r.asn)
  have a2 := say2_size ⟨#[105, 100]⟩ (numT r.id)
  have b1 := numT_size r.asn (by omega) (by omega)
  have b2 := numT_size r.id (by omega) (by omega)
  have z1 : (⟨#[97, 115]⟩ : ByteArray).size = 2 := rfl
  have z2 : (⟨#[105, 100]⟩ : ByteArray).size = 2 := rfl
  have l1 : (asB d r.asn).length ≤ d + 100 := by unfold asB; rw [lineB_len]; omega
  have l2 : (idB d r.id).length ≤ d + 100 := by unfold idB; rw [lineB_len]; omega
  have l3 : (r.nets.flatMap (netB d)).length ≤ 16 * (d + 300) := by
    refine Nat.le_trans (flat_len (netB d) (d + 300) _ fun p _ => ?_) (le_mul16 hn)
    have := say2_size ⟨#[110, 101, 116, 119, 111, 114, 107]⟩ (addrT p)
    have z : (⟨#[110, 101, 116, 119, 111, 114, 107]⟩ : ByteArray).size = 7 := rfl
    have := addrT_size p
    unfold netB
    rw [lineB_len]
    omega
  have l4 : (r.nbs.flatMap (nbB d)).length ≤ 16 * (d + 300) := by
    refine Nat.le_trans (flat_len (nbB d) (d + 300) _ fun n hn => ?_) (le_mul16 hb)
    obtain ⟨g1, g2, g3⟩ := hb2 n hn
    have := sayT_len (nbT n)
    have hs : ((nbT n).map fun x => x.size + 1).sum ≤ 200 := by
      unfold nbT
      rw [List.map_append, List.map_append, List.map_append, List.sum_append, List.sum_append, List.sum_append]
      have q1 : (([⟨#[110, 101, 105, 103, 104, 98, 111, 114]⟩, n.name] : List ByteArray).map fun x => x.size + 1).sum ≤ 30 := by
        show 8 + 1 + (n.name.size + 1 + 0) ≤ _
        omega
      have q2 : ((if n.imp = ⟨#[]⟩ then ([] : List ByteArray) else [⟨#[105, 109, 112, 111, 114, 116]⟩, n.imp]).map fun x => x.size + 1).sum ≤ 30 := by
        split
        · exact Nat.zero_le _
        · show 6 + 1 + (n.imp.size + 1 + 0) ≤ _
          omega
      have q3 : ((if n.exp = ⟨#[]⟩ then ([] : List ByteArray) else [⟨#[101, 120, 112, 111, 114, 116]⟩, n.exp]).map fun x => x.size + 1).sum ≤ 30 := by
        split
        · exact Nat.zero_le _
        · show 6 + 1 + (n.exp.size + 1 + 0) ≤ _
          omega
      have q4 : ((if n.client = true then ([⟨#[99, 108, 105, 101, 110, 116]⟩] : List ByteArray) else []).map fun x => x.size + 1).sum ≤ 30 := by
        split <;> decide
      first | omega | (simp only [List.sum_append] at *; omega)
    unfold nbB
    rw [lineB_len]
    omega
  have l5 : (r.links.flatMap (lnkB d)).length ≤ 16 * (d + 300) := by
    refine Nat.le_trans (flat_len (lnkB d) (d + 300) _ fun k hk => ?_) (le_mul16 hl)
    obtain ⟨g1, g2, g3⟩ := hl2 k hk
    have := sayT_len [⟨#[108, 105, 110, 107]⟩, k.name, ⟨#[99, 111, 115, 116]⟩, numT k.cost]
    have hs : (([⟨#[108, 105, 110, 107]⟩, k.name, ⟨#[99, 111, 115, 116]⟩, numT k.cost] : List ByteArray).map fun x => x.size + 1).sum ≤ 100 := by
      have := numT_size k.cost (by omega) (by omega)
      show 4 + 1 + (k.name.size + 1 + (4 + 1 + ((numT k.cost).size + 1 + 0))) ≤ _
      omega
    unfold lnkB
    rw [lineB_len]
    omega
  unfold rtIn
  simp only [List.length_append]
  omega
theorem routerB_len (d : Nat) (r : Rt) (h : RtF r) (hn : r.name.size ≤ 12) : (routerB d r).length ≤ 62 * (d + 400) := by
  unfold routerB
  rw [blockB_len]
  have := rtIn_len (d + 1) r h
  have e : (rouT r.name).size = 7 + r.name.size := by unfold rouT; rw [ByteArray.size_append]; rfl
  omega
theorem clIn_len (d : Nat) (c : Cl) (h : ClF c) (hp : c.m.path.size ≤ 10000) : (clIn d c).length ≤ 10 * (d + 10100) := by
  have a := (setSz_of h.pref h.med h.add h.del h.prep d).2
  have b := (matchSz_of h.list hp d).2
  unfold clIn
  rw [List.length_append]
  omega
end Go.Proofs.YtpmmhmgojjlniaaGreatDoor
namespace Go.Proofs.YtpmmhmgojjlniaaGreatDoor
open Go.RowKit Go.Sort
set_option maxHeartbeats 2000000 in
set_option maxRecDepth 100000 in
/-- A writer that has written nothing. -/
theorem string_zero (B b : Nat) (d : Int) (w : World) (h : IsWr B b [] d w) :
    Calls Tryz.prog 24 #[.pointer (some ⟨b, 0, none⟩)] w fun e w' => e = .returned (.string ⟨#[]⟩) ∧ Below B w w' := by
  obtain ⟨p, hB, v, hbk, hown, hne⟩ : ∃ p, WrAt B b p [] d w := by
    rcases h with h | h
    · exact ⟨_, h⟩
    · exact ⟨_, h⟩
  rcases hown.2 with ⟨rfl, _⟩ | ⟨g, cap, cur, rfl, hbg, hg, hnc, hcm, hcs, htake⟩
  · exact string_none B b p d w hbk
  · have hUS := usNone
    have c1 : w.drew.cell? ⟨b, 1, none⟩ = some (.slice (some ⟨g, 0, none⟩) 0 cap) := by
      have : w.drew.heap[b]? = some (.cells #[p, .slice (some ⟨g, 0, none⟩) 0 cap, .int .i64 d] 76 (0, 0)) := hbk
      rw [Lib.cell_of_heap this]; rfl
    by_cases hc0 : cap = 0
    · subst hc0
      have hg' : w.drew.heap[g]? = some (.cells cur 5 (0, 0)) := hg
      have hsh : w.drew.shape? (⟨g, 0, none⟩ : Addr).block = some (5, 0) := by
        have e : cur.size = 0 := by rw [hcs, Nat.zero_mul]
        simp [World.shape?, hg', e]
      have hSD := Lib.run_unsafeSliceData_zero (P := Tryz.prog) (w := w.drew) #[72] 123 5 Tryz.underlying123 ⟨g, 0, none⟩ 0 (5, 0) hsh
      have hbl : b < w.drew.heap.size := heap_lt hbk
      have c2 : (w.alloc (.view ⟨g, 0, none⟩ 5)).cell? ⟨b, 1, none⟩ = some (.slice (some ⟨g, 0, none⟩) 0 0) := by
        have : (w.alloc (.view ⟨g, 0, none⟩ 5)).heap[b]? = some (.cells #[p, .slice (some ⟨g, 0, none⟩) 0 0, .int .i64 d] 76 (0, 0)) := (Lib.alloc_old w _ b (heap_lt hbk)).trans hbk
        rw [Lib.cell_of_heap this]; rfl
      have hBl : B ≤ w.drew.heap.size := Nat.le_trans hB (Nat.le_of_lt hbl)
      have mixed : Tryz.prog.follows Departure.mixedOrders = true := by kernel_rfl
      go_enter Tryz.func24, Tryz.ntmps24
      go_wp2
      go_region_o
      all_goals (go_wp2; go_ret; exact ⟨rfl, (Below.drew (Below.refl B w)).alloc hBl _⟩)
    · have hSD : (Builtin.unsafeSliceData_ #[72] 123 #[.slice (some ⟨g, 0, none⟩) 0 cap]).run Tryz.prog w.drew = .ok (.pointer (some ⟨g, 0, none⟩)) w.drew :=
        Lib.run_unsafeSliceData_row _ _ _ _ _ _ hc0
      have mixed : Tryz.prog.follows Departure.mixedOrders = true := by kernel_rfl
      go_enter Tryz.func24, Tryz.ntmps24
      go_wp2
      go_region_o
      all_goals (go_wp2; go_ret; exact ⟨rfl, Below.drew (Below.refl B w)⟩)
/-- What Print tells: its error, its text. -/
def prE (c : Cf) : Int := if cfOk c = false then 1 else if 8192 < (cfgB c).length then 2 else 0
def prT (c : Cf) : ByteArray := if prE c = 0 then ⟨(cfgB c).toArray⟩ else ⟨#[]⟩
/-- Paths are short enough to be written. -/
def PathSz (c : Cf) : Prop := ∀ m ∈ c.maps, ∀ x ∈ m.cls, x.m.path.size ≤ 10000
theorem clW_of {c : Cl} (h : ClF c) (hp : c.m.path.size ≤ 10000) : ClW c :=
  ⟨⟨by have := h.n; omega, by have := h.n; omega⟩, h.pref, h.med, fun n hn => by have := h.prep.2 n hn; omega, ⟨by have := h.add; omega, by have := h.del; omega, by have := h.prep.1; omega⟩,
    (setSz_of h.pref h.med h.add h.del h.prep 0).1, (matchSz_of h.list hp 0).1, Nat.le_trans (numT_size c.n (by have := h.n; omega) (by have := h.n; omega)) (by decide)⟩
theorem clauseB_len (d : Nat) (c : Cl) (h : ClF c) (hp : c.m.path.size ≤ 10000) : (clauseB d c).length ≤ 12 * (d + 10200) := by
  have h1 := clIn_len (d + 1) c h hp
  have h2 := numT_size c.n (by have := h.n; omega) (by have := h.n; omega)
  have h3 : (clHead c).size ≤ 28 := by
    unfold clHead
    rw [ByteArray.size_append]
    have : (preC c.ok).size ≤ 7 := by unfold preC; split <;> decide
    omega
  unfold clauseB
  rw [blockB_len]
  omega
theorem mapB_len (d : Nat) (m : Mp) (h : m.name.size ≤ 12) (h2 : m.cls.length ≤ 16) (h3 : ∀ x ∈ m.cls, ClF x ∧ x.m.path.size ≤ 10000) : (mapB d m).length ≤ 17 * (12 * (d + 10300)) := by
  have h4 : (clausesB (d + 1) m.cls).length ≤ 16 * (12 * (d + 1 + 10200)) := Nat.le_trans (flat_len (clauseB (d + 1)) _ m.cls fun x hx => clauseB_len (d + 1) x (h3 x hx).1 (h3 x hx).2) (le_mul16 h2)
  have e : (mapT m.name).size = 10 + m.name.size := by unfold mapT; rw [ByteArray.size_append]; rfl
  unfold mapB
  rw [blockB_len]
  omega
theorem cfW_of {c : Cf} (h : cfOk c = true) (hw : Wide c) (hp : PathSz c) : CfW c := by
  obtain ⟨⟨a1, a2⟩, ⟨b1, b2⟩, c1, c2⟩ := cfF_of h
  refine ⟨fun a ha => ⟨fun r hr => hw.1 a ha r hr, by have := (a2 a ha).2; omega, fun r _ => Nat.le_trans (ruleT_size r) (by decide), by have := (a2 a ha).1; omega⟩, fun a ha => ⟨fun x hx => clW_of ((b2 a ha).2.2 x hx) (hp a ha x hx), by have := (b2 a ha).2.1; omega, by have := (b2 a ha).1; omega⟩, fun a ha => ?_, ?_, by omega, by omega, by omega⟩
  · obtain ⟨g1, g2⟩ := c2 a ha
    exact ⟨fun p hp => (hw.2 a ha).1 p hp, fun k hk => by have := (g2.links.2 k hk).2; omega, by have := g2.asn; omega, by have := g2.id; omega, ⟨by have := g2.nets; omega, by have := g2.nbs.1; omega, by have := g2.links.1; omega⟩, by omega⟩
  · have l1 : (c.lists.flatMap (listB 0)).length ≤ 16 * (18 * (0 + 400)) := Nat.le_trans (flat_len (listB 0) _ _ fun a ha => listB_len 0 a (a2 a ha).1 (a2 a ha).2) (le_mul16 a1)
    have l2 : (c.maps.flatMap (mapB 0)).length ≤ 16 * (17 * (12 * (0 + 10300))) := Nat.le_trans (flat_len (mapB 0) _ _ fun a ha => mapB_len 0 a (b2 a ha).1 (b2 a ha).2.1 fun x hx => ⟨(b2 a ha).2.2 x hx, hp a ha x hx⟩) (le_mul16 b1)
    have l3 : (c.routers.flatMap (routerB 0)).length ≤ 8 * (62 * (0 + 400)) := Nat.le_trans (flat_len (routerB 0) _ _ fun a ha => routerB_len 0 a (c2 a ha).2 (c2 a ha).1) (le_mul16 c1)
    unfold cfgB
    rw [List.length_append, List.length_append]
    omega
theorem nil_owns (w : World) (B : Nat) : w.ownsRow B 5 1 (.slice none 0 0) 0 [] := ⟨by simp, .inl ⟨rfl, rfl⟩⟩
set_option maxHeartbeats 4000000 in
set_option maxRecDepth 100000 in
theorem print_is (c : Cf) (v1 v2 v3 : Value) (w : World) (hP : Ar.Y4.Pt w) (ht : Tab w) (hc : CfR w c v1 v2 v3) (hg : GCf c) (hw : Wide c) (hp : PathSz c) :
    Calls Tryz.prog 10 #[.agg #[v1, v2, v3]] w fun e w' => e = .returned (.tuple #[.string (prT c), .int .i64 (prE c)]) ∧ Below w.heap.size w w' := by
  have HC := hide hc
  obtain ⟨h1, h2, h3⟩ := hc
  obtain ⟨o1, k1, rfl⟩ := h1.slice
  obtain ⟨o2, k2, rfl⟩ := h2.slice
  obtain ⟨o3, k3, rfl⟩ := h3.slice
  have A := balloc (brefl w) (.cells #[.slice o1 c.lists.length k1, .slice o2 c.maps.length k2, .slice o3 c.routers.length k3] 26)
  have N := hide (heap_new w #[.slice o1 c.lists.length k1, .slice o2 c.maps.length k2, .slice o3 c.routers.length k3] 26)
  have CM := hide (fun W (hb : Below w.heap.size w W) => may_is c _ _ _ W (hP.on hb) (HC.out.below hb) hg)
  have HA := hide A
  clear h1 h2 h3 A
  go_enter Tryz.func10, Tryz.ntmps10
  go_upto_region 1 with fail
  obtain ⟨bc, hbc⟩ : ∃ q, w.heap.size = q := ⟨_, rfl⟩
  rw [hbc] at N ⊢
  obtain ⟨w0, hw0⟩ : ∃ q, w.alloc (.cells #[.slice o1 c.lists.length k1, .slice o2 c.maps.length k2, .slice o3 c.routers.length k3] 26) = q := ⟨_, rfl⟩
  rw [hw0] at N HA ⊢
  clear hw0
  have n0 := cell_of N.out 0 rfl
  have n1 := cell_of N.out 1 rfl
  have n2 := cell_of N.out 2 rfl
  go_wp2_with fail
  refine (CM.out w0 HA.out).mono ?_
  rintro e w1 ⟨rfl, hb1⟩
  have N1 := hide ((hb1.block bc (heap_lt N.out)).trans N.out)
  have HB1 := hide (bthen HA.out hb1)
  clear hb1 CM n0 n1 n2
  cases hok : cfOk c with
  | false =>
    have E1 : Hid (prE c = 1) := by show _ = _; unfold prE; rw [if_pos hok]
    have T1 : Hid (prT c = ⟨#[]⟩) := by show _ = _; unfold prT; rw [E1.out, if_neg (by decide)]
    clear hok HC hg hw hp hP ht
    go_wp2_with fail
    exact bodyPost_ret (v := .tuple #[.string ⟨#[]⟩, .int .i64 1]) (by simp [results, Tryz.results10, go_sem]) rfl ⟨by rw [E1.out, T1.out], HB1.out⟩
  | true =>
    have HW := hide (cfW_of hok hw hp)
    have HLEN : Hid (prE c = if 8192 < (cfgB c).length then 2 else 0) := by show _ = _; unfold prE; rw [if_neg (by rw [hok]; decide)]
    have HTX : Hid (prT c = if prE c = 0 then ⟨(cfgB c).toArray⟩ else ⟨#[]⟩) := rfl
    have HT := hide ht
    clear hok hg hw hp hP ht
    have n0 := cell_of N1.out 0 rfl
    have n1 := cell_of N1.out 1 rfl
    have n2 := cell_of N1.out 2 rfl
    have A2 := balloc (brefl w1) (.cells #[.pointer none, .slice none 0 0, .int .i64 0] 76)
    have M := heap_new w1 #[.pointer none, .slice none 0 0, .int .i64 0] 76
    have N2 := hide ((A2.block bc (heap_lt N1.out)).trans N1.out)
    have HB2 := hide (bthen HB1.out A2)
    have hwb : w.heap.size ≤ w1.heap.size := HB1.out.size
    have IS : Hid (IsWr w.heap.size w1.heap.size (Lib.byteCells []) ((0 : Nat) : Int) (w1.alloc (.cells #[.pointer none, .slice none 0 0, .int .i64 0] 76))) := .inl ⟨hwb, _, M, nil_owns _ _, fun h => by cases h⟩
    clear n0 n1 n2 M A2
    go_upto_region 4 with fail
    obtain ⟨b, hb⟩ : ∃ q, w1.heap.size = q := ⟨_, rfl⟩
    rw [hb] at IS ⊢
    clear hb hwb
    obtain ⟨w2, hw2⟩ : ∃ q, w1.alloc (.cells #[.pointer none, .slice none 0 0, .int .i64 0] 76) = q := ⟨_, rfl⟩
    rw [hw2] at N2 HB2 IS ⊢
    clear hw2
    have CG := hide (config_is w w2 b c _ _ _ HB2.out HC.out HT.out HW.out IS.out)
    have n0 := cell_of N2.out 0 rfl
    have n1 := cell_of N2.out 1 rfl
    have n2 := cell_of N2.out 2 rfl
    go_wp2_with fail
    refine CG.out.mono ?_
    rintro e w3 ⟨rfl, h3, hb3, hk3⟩
    have I3 := hide h3
    have B3 := hide (HB2.out.trans hb3)
    have CL := hide (len_is w.heap.size b _ _ w3 h3)
    have HL : Hid ((Lib.byteCells (cfgB c)).length = (cfgB c).length) := Lib.byteCells_length _
    rw [HL.out] at CL
    clear h3 hb3 hk3 CG n0 n1 n2 N2 HL
    by_cases hl : 8192 < (cfgB c).length
    · have hl' : (8192 : Int) < ((cfgB c).length : Int) := by omega
      have E1 : Hid (prE c = 2) := by show _ = _; rw [HLEN.out, if_pos hl]
      have T1 : Hid (prT c = ⟨#[]⟩) := by show _ = _; rw [HTX.out, E1.out, if_neg (by decide)]
      clear HLEN HTX hl
      go_upto_region 5 with fail
      go_wp2_with (refine CL.out.mono ?_; rintro e w4 ⟨rfl, rfl⟩)
      exact bodyPost_ret (v := .tuple #[.string ⟨#[]⟩, .int .i64 2]) (by simp [results, Tryz.results10, go_sem]) rfl ⟨by rw [E1.out, T1.out], B3.out⟩
    · have hl' : ¬ (8192 : Int) < ((cfgB c).length : Int) := by omega
      have E1 : Hid (prE c = 0) := by show _ = _; rw [HLEN.out, if_neg hl]
      have T1 : Hid (prT c = ⟨(cfgB c).toArray⟩) := by show _ = _; rw [HTX.out, E1.out, if_pos rfl]
      have CS : Hid (Calls Tryz.prog 24 #[.pointer (some ⟨b, 0, none⟩)] w3 fun e w' => e = .returned (.string ⟨(cfgB c).toArray⟩) ∧ Below w.heap.size w3 w') := by
        by_cases h0 : cfgB c = []
        · rw [h0]
          have := I3.out
          rw [h0] at this
          exact string_zero w.heap.size b _ w3 this
        · exact string_is w.heap.size b _ _ w3 I3.out h0
      clear HLEN HTX hl I3
      go_upto_region 5 with fail
      go_wp2_with (refine CL.out.mono ?_; rintro e w4 ⟨rfl, rfl⟩)
      refine CS.out.mono ?_
      rintro e w5 ⟨rfl, hb5⟩
      have B5 := hide (B3.out.trans hb5)
      clear hb5 CS
      go_wp2_with fail
      exact bodyPost_ret (v := .tuple #[.string ⟨(cfgB c).toArray⟩, .int .i64 0]) (by simp [results, Tryz.results10, go_sem]) rfl ⟨by rw [E1.out, T1.out], B5.out⟩
end Go.Proofs.YtpmmhmgojjlniaaGreatDoor
namespace Go.Proofs.YtpmmhmgojjlniaaGreatDoor
section
variable {F : Fn}
theorem may_bits {a b : Int} (h : Ax.Ad.may a b = true) : 0 ≤ b ∧ b ≤ 32 := by
  simp only [Ax.Ad.may, decide_eq_true_eq] at h
  omega
end
end Go.Proofs.YtpmmhmgojjlniaaGreatDoor
namespace Go.Proofs.YtpmmhmgojjlniaaGreatDoor
section
variable {F : Fn}
def noneB (s : ByteArray) : Prop := s = bs []
instance (s : ByteArray) : Decidable (noneB s) := inferInstanceAs (Decidable (_ = _))
def noC (m : Mt) : Prop := m.ca = 0 ∧ m.cn = 0
instance (m : Mt) : Decidable (noC m) := inferInstanceAs (Decidable (_ ∧ _))
end
end Go.Proofs.YtpmmhmgojjlniaaGreatDoor
namespace Go.Proofs.YtpmmhmgojjlniaaGreatDoor
theorem lst_say (xs : List ByteArray) : lst (sayT xs) = Lib.join (xs.map lst) [32] ++ [59] := by
  unfold sayT wordsT lst
  simp
end Go.Proofs.YtpmmhmgojjlniaaGreatDoor
namespace Go.Proofs.YtpmmhmgojjlniaaGreatDoor
theorem mayX_may {a b : Int} (ha : U32 a) (h : Ax.Ad.mayX a b = true) : Ax.Ad.may a b = true := by
  simp only [Ax.Ad.mayX, Bool.and_eq_true, decide_eq_true_eq] at h
  obtain ⟨⟨h0, h1⟩, h2⟩ := h
  unfold Ax.Ad.cutX at h2
  rw [Ax.Ad.cut_bits a b ha.1 ha.2 h0 h1] at h2
  simp only [Ax.Ad.may, decide_eq_true_eq]
  exact ⟨h0, h1, h2⟩
theorem may_mayX {a b : Int} (ha : U32 a) (h : Ax.Ad.may a b = true) : Ax.Ad.mayX a b = true := by
  simp only [Ax.Ad.may, decide_eq_true_eq] at h
  obtain ⟨h0, h1, h2⟩ := h
  simp only [Ax.Ad.mayX, Bool.and_eq_true, decide_eq_true_eq]
  refine ⟨⟨h0, h1⟩, ?_⟩
  unfold Ax.Ad.cutX
  rw [Ax.Ad.cut_bits a b ha.1 ha.2 h0 h1]
  exact h2
theorem rgOk_may {r : Rg} (ha : U32 r.ad) (h : rgOk r = true) : Ax.Ad.rmay (rgT r) = true := by
  simp only [rgOk, Ax.Ad.rmayX, rgT, Bool.and_eq_true] at h
  simp only [Ax.Ad.rmay, rgT, Bool.and_eq_true]
  exact ⟨⟨⟨mayX_may ha h.1.1.1, h.1.1.2⟩, h.1.2⟩, h.2⟩
end Go.Proofs.YtpmmhmgojjlniaaGreatDoor
