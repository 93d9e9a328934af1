import Derived.Test.YtpkikfojiibdaaaGreatDoorE1
import Derived.Test.YtpkikfojiibdaaaGreatDoorCT1
/- The texts of attributes. -/
namespace Go.Proofs.YtpkikfojiibdaaaGreatDoor
open Go.RowKit

def tPref : List UInt8 := [112, 114, 101, 102, 32]
def tMed : List UInt8 := [32, 109, 101, 100, 32]
def tOrigin : List UInt8 := [32, 111, 114, 105, 103, 105, 110, 32]
def tPath : List UInt8 := [32, 112, 97, 116, 104, 32, 91]
def tComms : List UInt8 := [93, 32, 99, 111, 109, 109, 115, 32, 91]
def tFrom : List UInt8 := [32, 102, 114, 111, 109, 32]
def tCl : List UInt8 := [32, 99, 108, 117, 115, 116, 101, 114, 115, 32, 91]
/-- An origin's name. -/
def At.name (o : Int) : List UInt8 := if o = 0 then [105, 103, 112] else if o = 1 then [101, 103, 112] else [110, 111, 110, 101]
/-- What every text of attributes begins with. -/
def At.head (a : At) : List UInt8 := tPref ++ Lib.itoa a.pf ++ tMed ++ Lib.itoa a.md ++ tOrigin ++ At.name a.og ++ tPath ++ Is.text a.path ++ tComms ++ Cm.Co.texts a.comms ++ [93]
def At.frm (f : Int) : List UInt8 := if f = 0 then [] else tFrom ++ Lib.itoa f
def At.clt (l : List Int) : List UInt8 := if l = [] then [] else tCl ++ Lib.join (l.map Lib.itoa) [32] ++ [93]
def At.text (a : At) : List UInt8 := if At.may a = true then At.head a ++ At.frm a.fr ++ At.clt a.cl else []

theorem Cl.may {l : List Int} (h : Cl.ok l = true) : Is.may l = true := by
  obtain ⟨h1, h2, _⟩ := (Cl.ok_iff l).1 h
  exact (Is.may_iff l).2 ⟨by omega, h2⟩
/-- Cut where a sign comes first. -/
theorem cut_same {c : UInt8} {x y r s : List UInt8} (hx : c ∉ x) (hy : c ∉ y) (h : x ++ c :: r = y ++ c :: s) : x = y ∧ r = s := by
  have h1 := Ad.cutL_app x c r hx
  rw [h, Ad.cutL_app y c s hy] at h1
  simp only [Option.some.injEq, Prod.mk.injEq] at h1
  exact ⟨h1.1.symm, h1.2.symm⟩
theorem itoa_no {n : Int} (h : 0 ≤ n) {c : UInt8} (hc : c.toNat < 48 ∨ 57 < c.toNat) : c ∉ Lib.itoa n := by
  have hd := (Ad.itoa_nat n h).2.2
  intro hm
  have := List.all_eq_true.1 hd c hm
  simp at this
  omega
theorem itoa_inj {m n : Int} (hm : 0 ≤ m) (hn : 0 ≤ n) (h : Lib.itoa m = Lib.itoa n) : m = n := by
  have h1 := (Ad.itoa_nat m hm).2.1
  rw [h, (Ad.itoa_nat n hn).2.1] at h1
  exact h1.symm
theorem name_no (o : Int) : (32 : UInt8) ∉ At.name o := by
  unfold At.name
  split
  · decide
  · split <;> decide
theorem name_inj {o q : Int} (ho : 0 ≤ o ∧ o ≤ 2) (hq : 0 ≤ q ∧ q ≤ 2) (h : At.name o = At.name q) : o = q := by
  have e : (o = 0 ∨ o = 1 ∨ o = 2) ∧ (q = 0 ∨ q = 1 ∨ q = 2) := by omega
  obtain ⟨h1 | h1 | h1, h2 | h2 | h2⟩ := e <;> subst h1 <;> subst h2 <;> first | rfl | (exact absurd h (by decide))
theorem itoa_ne {n : Int} (h : 0 ≤ n) : Lib.itoa n ≠ [] := by
  have h1 := (Ad.itoa_nat n h).1
  intro e
  rw [e] at h1
  simp [Ad.isNum] at h1
/-- Words with blanks between are told apart. -/
theorem join_inj {x y : List (List UInt8)} (hx : ∀ f ∈ x, (32 : UInt8) ∉ f ∧ f ≠ []) (hy : ∀ f ∈ y, (32 : UInt8) ∉ f ∧ f ≠ []) (h : Lib.join x [32] = Lib.join y [32]) : x = y := by
  have hn : ∀ z : List (List UInt8), z ≠ [] → (∀ f ∈ z, (32 : UInt8) ∉ f ∧ f ≠ []) → Lib.join z [32] ≠ [] := by
    intro z hz hf he
    cases z with
    | nil => exact hz rfl
    | cons f z =>
      have h1 := Sp.split_join (f :: z) hz (fun g hg => (hf g hg).1)
      rw [he] at h1
      have h2 : Sp.split [] = [[]] := Sp.split_one [] (by simp)
      rw [h2] at h1
      simp only [List.cons.injEq] at h1
      exact (hf f (by simp)).2 h1.1.symm
  by_cases e1 : x = []
  · by_cases e2 : y = []
    · rw [e1, e2]
    · refine absurd ?_ (hn y e2 hy)
      rw [← h, e1]
      rfl
  · by_cases e2 : y = []
    · refine absurd ?_ (hn x e1 hx)
      rw [h, e2]
      rfl
    · have h1 := Sp.split_join x e1 (fun f hf => (hx f hf).1)
      rw [h, Sp.split_join y e2 (fun f hf => (hy f hf).1)] at h1
      exact h1.symm
theorem map_inj_on {α β : Type} {f : α → β} : ∀ {x y : List α}, (∀ a ∈ x, ∀ b ∈ y, f a = f b → a = b) → x.map f = y.map f → x = y
  | [], [], _, _ => rfl
  | [], _ :: _, _, h => by simp at h
  | _ :: _, [], _, h => by simp at h
  | a :: x, b :: y, hi, h => by
    simp only [List.map_cons, List.cons.injEq] at h
    rw [hi a (by simp) b (by simp) h.1, map_inj_on (fun a ha b hb => hi a (by simp [ha]) b (by simp [hb])) h.2]
theorem nums_inj {x y : List Int} (hx : ∀ n ∈ x, 0 ≤ n) (hy : ∀ n ∈ y, 0 ≤ n) (h : Lib.join (x.map Lib.itoa) [32] = Lib.join (y.map Lib.itoa) [32]) : x = y := by
  refine map_inj_on (fun a ha b hb => itoa_inj (hx a ha) (hy b hb)) (join_inj ?_ ?_ h)
  · intro f hf
    obtain ⟨n, hn, rfl⟩ := List.mem_map.1 hf
    exact ⟨itoa_no (hx n hn) (by decide), itoa_ne (hx n hn)⟩
  · intro f hf
    obtain ⟨n, hn, rfl⟩ := List.mem_map.1 hf
    exact ⟨itoa_no (hy n hn) (by decide), itoa_ne (hy n hn)⟩
theorem may_pos {l : List Int} (h : Is.may l = true) : ∀ n ∈ l, 0 ≤ n := by
  intro n hn
  obtain ⟨j, hj, rfl⟩ := List.mem_iff_getElem.1 hn
  have := (Is.as_iff _).1 (((Is.may_iff l).1 h).2 j hj)
  omega
theorem tx_kinds {c : Cm.Co.C} (h : Cm.Co.may c = true) : (c = (65535, 65281) ∧ Cm.Co.tx c = Cm.Co.nE) ∨ (c = (65535, 65282) ∧ Cm.Co.tx c = Cm.Co.nA) ∨ (c = (65535, 65283) ∧ Cm.Co.tx c = Cm.Co.lo) ∨ (Cm.Co.tx c = Lib.itoa c.1 ++ 58 :: Lib.itoa c.2 ∧ 0 ≤ c.1 ∧ 0 ≤ c.2) := by
  obtain ⟨a, b⟩ := c
  have hm := (Cm.Co.may_iff a b).1 h
  unfold Cm.Co.tx Cm.Co.text
  simp only [h, if_true]
  by_cases h1 : a = 65535 ∧ b = 65281
  · exact .inl ⟨by rw [h1.1, h1.2], by rw [if_pos h1]⟩
  · by_cases h2 : a = 65535 ∧ b = 65282
    · exact .inr (.inl ⟨by rw [h2.1, h2.2], by rw [if_neg h1, if_pos h2]⟩)
    · by_cases h3 : a = 65535 ∧ b = 65283
      · exact .inr (.inr (.inl ⟨by rw [h3.1, h3.2], by rw [if_neg h1, if_neg h2, if_pos h3]⟩))
      · exact .inr (.inr (.inr ⟨by rw [if_neg h1, if_neg h2, if_neg h3]; simp [Cm.Co.plain], by omega, by omega⟩))
theorem tx_ok {c : Cm.Co.C} (h : Cm.Co.may c = true) : (32 : UInt8) ∉ Cm.Co.tx c ∧ (93 : UInt8) ∉ Cm.Co.tx c ∧ Cm.Co.tx c ≠ [] := by
  rcases tx_kinds h with ⟨_, e⟩ | ⟨_, e⟩ | ⟨_, e⟩ | ⟨e, h1, h2⟩ <;> rw [e]
  · decide
  · decide
  · decide
  · have a1 := itoa_no h1 (c := 32) (by decide)
    have a2 := itoa_no h2 (c := 32) (by decide)
    have a3 := itoa_no h1 (c := 93) (by decide)
    have a4 := itoa_no h2 (c := 93) (by decide)
    refine ⟨?_, ?_, by simp⟩
    · simp [a1, a2]
    · simp [a3, a4]
theorem tx_inj {c d : Cm.Co.C} (hc : Cm.Co.may c = true) (hd : Cm.Co.may d = true) (h : Cm.Co.tx c = Cm.Co.tx d) : c = d := by
  have no : ∀ {x : List UInt8} {a b : Int}, (58 : UInt8) ∉ x → x = Lib.itoa a ++ 58 :: Lib.itoa b → False := fun hx e => hx (by rw [e]; simp)
  rcases tx_kinds hc with ⟨e1, e⟩ | ⟨e1, e⟩ | ⟨e1, e⟩ | ⟨e, h1, h2⟩ <;> rcases tx_kinds hd with ⟨f1, f⟩ | ⟨f1, f⟩ | ⟨f1, f⟩ | ⟨f, g1, g2⟩ <;> rw [e, f] at h
  case inr.inr.inr.inr.inr.inr =>
    obtain ⟨k1, k2⟩ := cut_same (itoa_no h1 (by decide)) (itoa_no g1 (by decide)) h
    exact Prod.ext (itoa_inj h1 g1 k1) (itoa_inj h2 g2 k2)
  all_goals first
    | (rw [e1, f1]; done)
    | exact absurd h (by decide)
    | exact (no (by decide) h).elim
    | exact (no (by decide) h.symm).elim
theorem set_may {l : List Cm.Co.C} (h : Cm.Co.set l = true) : ∀ c ∈ l, Cm.Co.may c = true := by
  intro c hc
  obtain ⟨j, hj, rfl⟩ := List.mem_iff_getElem.1 hc
  have := ((Cm.Co.set_iff l).1 h).2 j hj
  cases hm : Cm.Co.may l[j]
  · rw [Cm.Co.ok_may l j hj hm] at this
    cases this
  · rfl
theorem join_no {c : UInt8} (hc : c ≠ 32) : ∀ {x : List (List UInt8)}, (∀ f ∈ x, c ∉ f) → c ∉ Lib.join x [32]
  | [], _ => by simp [Lib.join]
  | [f], h => by
    have := h f (by simp)
    simpa [Lib.join] using this
  | f :: g :: x, h => by
    have ih := join_no hc (x := g :: x) (fun k hk => h k (by simp [List.mem_cons.1 hk]))
    have h1 := h f (by simp)
    unfold Lib.join List.intercalate at ih ⊢
    rw [show List.intersperse [32] (f :: g :: x) = f :: [32] :: List.intersperse [32] (g :: x) from rfl, List.flatten_cons, List.flatten_cons, List.mem_append, List.mem_append]
    rintro (k | k | k)
    · exact h1 k
    · exact hc (List.mem_singleton.1 k)
    · exact ih k
theorem texts_inj {x y : List Cm.Co.C} (hx : Cm.Co.set x = true) (hy : Cm.Co.set y = true) (h : Cm.Co.texts x = Cm.Co.texts y) : x = y := by
  unfold Cm.Co.texts at h
  rw [if_pos hx, if_pos hy] at h
  refine map_inj_on (fun a ha b hb => tx_inj (set_may hx a ha) (set_may hy b hb)) (join_inj ?_ ?_ h)
  · intro f hf
    obtain ⟨c, hc, rfl⟩ := List.mem_map.1 hf
    have := tx_ok (set_may hx c hc)
    exact ⟨this.1, this.2.2⟩
  · intro f hf
    obtain ⟨c, hc, rfl⟩ := List.mem_map.1 hf
    have := tx_ok (set_may hy c hc)
    exact ⟨this.1, this.2.2⟩
theorem texts_no {x : List Cm.Co.C} (hx : Cm.Co.set x = true) : (93 : UInt8) ∉ Cm.Co.texts x := by
  unfold Cm.Co.texts
  rw [if_pos hx]
  refine join_no (by decide) fun f hf => ?_
  obtain ⟨c, hc, rfl⟩ := List.mem_map.1 hf
  exact (tx_ok (set_may hx c hc)).2.1
theorem nums_no {x : List Int} (hx : ∀ n ∈ x, 0 ≤ n) : (93 : UInt8) ∉ Lib.join (x.map Lib.itoa) [32] := by
  refine join_no (by decide) fun f hf => ?_
  obtain ⟨n, hn, rfl⟩ := List.mem_map.1 hf
  exact itoa_no (hx n hn) (by decide)
theorem text_path {p : List Int} (h : Is.may p = true) : Is.text p = Lib.join (p.map Lib.itoa) [32] := by
  unfold Is.text
  rw [if_pos h]
/-- What stands behind the communities. -/
theorem tail_inj {f g : Int} {l m : List Int} (hf : 0 ≤ f) (hg : 0 ≤ g) (hl : ∀ n ∈ l, 0 ≤ n) (hm : ∀ n ∈ m, 0 ≤ n) (h : At.frm f ++ At.clt l = At.frm g ++ At.clt m) : f = g ∧ l = m := by
  have hc : ∀ {x y : List Int}, (∀ n ∈ x, 0 ≤ n) → (∀ n ∈ y, 0 ≤ n) → At.clt x = At.clt y → x = y := by
    intro x y hx hy h
    unfold At.clt at h
    by_cases e1 : x = []
    · by_cases e2 : y = []
      · rw [e1, e2]
      · rw [if_pos e1, if_neg e2] at h
        simp [tCl] at h
    · by_cases e2 : y = []
      · rw [if_neg e1, if_pos e2] at h
        simp [tCl] at h
      · rw [if_neg e1, if_neg e2, List.append_assoc, List.append_assoc, List.append_cancel_left_eq] at h
        exact nums_inj hx hy (cut_same (nums_no hx) (nums_no hy) h).1
  have hk : ∀ x : List Int, At.clt x = [] ∨ ∃ r, At.clt x = 32 :: 99 :: r := by
    intro x
    unfold At.clt
    split
    · exact .inl rfl
    · exact .inr ⟨_, rfl⟩
  by_cases e1 : f = 0
  · by_cases e2 : g = 0
    · subst e1 e2
      exact ⟨rfl, hc hl hm (by simpa [At.frm] using h)⟩
    · unfold At.frm at h
      rw [if_pos e1, if_neg e2, List.nil_append] at h
      rcases hk l with k | ⟨r, k⟩ <;> rw [k] at h <;> simp [tFrom] at h
  · by_cases e2 : g = 0
    · unfold At.frm at h
      rw [if_neg e1, if_pos e2, List.nil_append] at h
      rcases hk m with k | ⟨r, k⟩ <;> rw [k] at h <;> simp [tFrom] at h
    · unfold At.frm at h
      rw [if_neg e1, if_neg e2, List.append_assoc, List.append_assoc, List.append_cancel_left_eq] at h
      have n1 := itoa_no hf (c := 32) (by decide)
      have n2 := itoa_no hg (c := 32) (by decide)
      rcases hk l with k | ⟨r, k⟩ <;> rcases hk m with k' | ⟨r', k'⟩
      · rw [k, k', List.append_nil, List.append_nil] at h
        exact ⟨itoa_inj hf hg h, hc hl hm (by rw [k, k'])⟩
      · rw [k, k', List.append_nil] at h
        exact absurd (by rw [h]; simp) n1
      · rw [k, k', List.append_nil] at h
        exact absurd (by rw [← h]; simp) n2
      · rw [k, k'] at h
        obtain ⟨h1, h2⟩ := cut_same n1 n2 h
        exact ⟨itoa_inj hf hg h1, hc hl hm (by rw [k, k', h2])⟩
theorem full_eq (a : At) (t : List UInt8) : At.head a ++ t = tPref ++ (Lib.itoa a.pf ++ 32 :: ([109, 101, 100, 32] ++ (Lib.itoa a.md ++ 32 :: ([111, 114, 105, 103, 105, 110, 32] ++ (At.name a.og ++ 32 :: ([112, 97, 116, 104, 32, 91] ++ (Is.text a.path ++ 93 :: ([32, 99, 111, 109, 109, 115, 32, 91] ++ (Cm.Co.texts a.comms ++ 93 :: t))))))))) := by
  simp [At.head, tMed, tOrigin, tPath, tComms]
theorem At.text_inj {a b : At} (ha : At.may a = true) (hb : At.may b = true) (h : At.text a = At.text b) : a = b := by
  unfold At.text at h
  rw [if_pos ha, if_pos hb, List.append_assoc, List.append_assoc, full_eq, full_eq, List.append_cancel_left_eq] at h
  unfold At.may at ha hb
  simp only [Bool.and_eq_true, decide_eq_true_eq] at ha hb
  obtain ⟨⟨a1, a2, a3, a4, a5, a6, a7, a8⟩, pa, ca, ka⟩ := ha
  obtain ⟨⟨b1, b2, b3, b4, b5, b6, b7, b8⟩, pb, cb, kb⟩ := hb
  obtain ⟨h1, h⟩ := cut_same (itoa_no a1 (by decide)) (itoa_no b1 (by decide)) h
  rw [List.append_cancel_left_eq] at h
  obtain ⟨h2, h⟩ := cut_same (itoa_no a3 (by decide)) (itoa_no b3 (by decide)) h
  rw [List.append_cancel_left_eq] at h
  obtain ⟨h3, h⟩ := cut_same (name_no _) (name_no _) h
  rw [List.append_cancel_left_eq, text_path pa, text_path pb] at h
  obtain ⟨h4, h⟩ := cut_same (nums_no (may_pos pa)) (nums_no (may_pos pb)) h
  rw [List.append_cancel_left_eq] at h
  obtain ⟨h5, h⟩ := cut_same (texts_no ca) (texts_no cb) h
  obtain ⟨h6, h7⟩ := tail_inj a7 b7 (may_pos (Cl.may ka)) (may_pos (Cl.may kb)) h
  obtain ⟨x1, x2, x3, x4, x5, x6, x7⟩ := a
  obtain ⟨y1, y2, y3, y4, y5, y6, y7⟩ := b
  simp only [At.mk.injEq]
  exact ⟨itoa_inj a1 b1 h1, itoa_inj a3 b3 h2, name_inj ⟨a5, a6⟩ ⟨b5, b6⟩ h3, nums_inj (may_pos pa) (may_pos pb) h4, texts_inj ca cb h5, h6, h7⟩
end Go.Proofs.YtpkikfojiibdaaaGreatDoor

/- The document's Text. -/
namespace Go.Proofs.YtpkikfojiibdaaaGreatDoor
open Go.RowKit

theorem is_len {l : List Int} (h : Is.may l = true) : (Is.text l).length ≤ 352 := by
  rw [text_path h]
  have h1 := Is.joinTo_len l h l.length (Nat.le_refl _)
  have h2 := ((Is.may_iff l).1 h).1
  unfold Is.joinTo at h1
  rw [List.take_length] at h1
  omega
theorem co_len (l : List Cm.Co.C) (h : l.length ≤ 8) : (Cm.Co.texts l).length ≤ 408 := by
  unfold Cm.Co.texts
  split
  · have := Cm.Co.join_len l
    omega
  · simp
theorem itoa_len' {n : Int} (h0 : 0 ≤ n) (h1 : n ≤ 4294967295) : (Lib.itoa n).length ≤ 21 := Lib.itoa_length_le n (by omega) (by omega)
theorem name_len (o : Int) : (At.name o).length ≤ 4 := by
  unfold At.name
  split
  · decide
  · split <;> decide
/-- What stands behind the first k reflectors. -/
def At.cltTo (l : List Int) (k : Nat) : List UInt8 := if k = 0 then [] else tCl ++ Is.joinTo l k ++ (if k = l.length then [93] else [])
theorem cltTo_end (l : List Int) : At.cltTo l l.length = At.clt l := by
  unfold At.cltTo At.clt
  cases l with
  | nil => rfl
  | cons x l => simp [Is.joinTo]
theorem nm_cell {w : World} {g : Nat} (o : Int) (ho : 0 ≤ o ∧ o ≤ 2) (h : w.heap[g]? = some (.cells #[.string ⟨#[105, 103, 112]⟩, .string ⟨#[101, 103, 112]⟩, .string ⟨#[110, 111, 110, 101]⟩] 9 (0, 0))) : w.cell? ⟨g, o.toNat, none⟩ = some (.string ⟨(At.name o).toArray⟩) := by
  have e : o = 0 ∨ o = 1 ∨ o = 2 := by omega
  rcases e with rfl | rfl | rfl <;> (unfold World.cell?; rw [h]; rfl)
/-- The texts that stand on the way. -/
structure Wy (a : At) (t0 t1 nm tp tc u1 u2 u3 u4 u5 u6 u7 u8 u9 u10 : ByteArray) : Prop where
  e0 : t0 = ⟨(Lib.itoa a.pf).toArray⟩
  e1 : t1 = ⟨(Lib.itoa a.md).toArray⟩
  en : nm = ⟨(At.name a.og).toArray⟩
  ep : tp = ⟨(Is.text a.path).toArray⟩
  ec : tc = ⟨(Cm.Co.texts a.comms).toArray⟩
  a1 : Adds ⟨#[112, 114, 101, 102, 32]⟩ t0 u1
  a2 : Adds u1 ⟨#[32, 109, 101, 100, 32]⟩ u2
  a3 : Adds u2 t1 u3
  a4 : Adds u3 ⟨#[32, 111, 114, 105, 103, 105, 110, 32]⟩ u4
  a5 : Adds u4 nm u5
  a6 : Adds u5 ⟨#[32, 112, 97, 116, 104, 32, 91]⟩ u6
  a7 : Adds u6 tp u7
  a8 : Adds u7 ⟨#[93, 32, 99, 111, 109, 109, 115, 32, 91]⟩ u8
  a9 : Adds u8 tc u9
  a10 : Adds u9 ⟨#[93]⟩ u10
  eu : u10 = ⟨(At.head a).toArray⟩
theorem wy_of {a : At} (hm : At.may a = true) : ∃ t0 t1 nm tp tc u1 u2 u3 u4 u5 u6 u7 u8 u9 u10, Wy a t0 t1 nm tp tc u1 u2 u3 u4 u5 u6 u7 u8 u9 u10 := by
  unfold At.may at hm
  simp only [Bool.and_eq_true, decide_eq_true_eq] at hm
  obtain ⟨⟨a1, a2, a3, a4, a5, a6, a7, a8⟩, pa, ca, ka⟩ := hm
  have l0 := itoa_len' a1 (by omega)
  have l1 := itoa_len' a3 (by omega)
  have l2 := name_len a.og
  have l3 := is_len pa
  have l4 := co_len a.comms ((Cm.Co.set_iff _).1 ca).1
  refine ⟨⟨(Lib.itoa a.pf).toArray⟩, ⟨(Lib.itoa a.md).toArray⟩, ⟨(At.name a.og).toArray⟩, ⟨(Is.text a.path).toArray⟩, ⟨(Cm.Co.texts a.comms).toArray⟩,
    ⟨(tPref ++ Lib.itoa a.pf).toArray⟩, ⟨(tPref ++ Lib.itoa a.pf ++ tMed).toArray⟩, ⟨(tPref ++ Lib.itoa a.pf ++ tMed ++ Lib.itoa a.md).toArray⟩, ⟨(tPref ++ Lib.itoa a.pf ++ tMed ++ Lib.itoa a.md ++ tOrigin).toArray⟩,
    ⟨(tPref ++ Lib.itoa a.pf ++ tMed ++ Lib.itoa a.md ++ tOrigin ++ At.name a.og).toArray⟩, ⟨(tPref ++ Lib.itoa a.pf ++ tMed ++ Lib.itoa a.md ++ tOrigin ++ At.name a.og ++ tPath).toArray⟩,
    ⟨(tPref ++ Lib.itoa a.pf ++ tMed ++ Lib.itoa a.md ++ tOrigin ++ At.name a.og ++ tPath ++ Is.text a.path).toArray⟩, ⟨(tPref ++ Lib.itoa a.pf ++ tMed ++ Lib.itoa a.md ++ tOrigin ++ At.name a.og ++ tPath ++ Is.text a.path ++ tComms).toArray⟩,
    ⟨(tPref ++ Lib.itoa a.pf ++ tMed ++ Lib.itoa a.md ++ tOrigin ++ At.name a.og ++ tPath ++ Is.text a.path ++ tComms ++ Cm.Co.texts a.comms).toArray⟩, ⟨(At.head a).toArray⟩,
    rfl, rfl, rfl, rfl, rfl, adds_list tPref _ ?_ ?_, adds_list _ tMed ?_ ?_, adds_list _ _ ?_ ?_, adds_list _ tOrigin ?_ ?_, adds_list _ _ ?_ ?_, adds_list _ tPath ?_ ?_, adds_list _ _ ?_ ?_, adds_list _ tComms ?_ ?_, adds_list _ _ ?_ ?_, adds_list _ [93] ?_ ?_, rfl⟩
  all_goals (try simp [tPref, tMed, tOrigin, tPath, tComms])
  all_goals (try omega)
theorem head_len {a : At} (hm : At.may a = true) : (At.head a).length ≤ 900 := by
  unfold At.may at hm
  simp only [Bool.and_eq_true, decide_eq_true_eq] at hm
  obtain ⟨⟨a1, a2, a3, a4, a5, a6, a7, a8⟩, pa, ca, ka⟩ := hm
  have l0 := itoa_len' a1 (by omega)
  have l1 := itoa_len' a3 (by omega)
  have l2 := name_len a.og
  have l3 := is_len pa
  have l4 := co_len a.comms ((Cm.Co.set_iff _).1 ca).1
  simp [At.head, tPref, tMed, tOrigin, tPath, tComms]
  omega
theorem frm_len {f : Int} (h0 : 0 ≤ f) (h1 : f ≤ 65535) : (At.frm f).length ≤ 30 := by
  unfold At.frm
  have := itoa_len' h0 (by omega)
  split
  · simp
  · simp [tFrom]
    omega
theorem cltTo_len {l : List Int} (h : Cl.ok l = true) (k : Nat) (hk : k ≤ l.length) : (At.cltTo l k).length ≤ 200 := by
  have h1 := Is.joinTo_len l (Cl.may h) k hk
  have h2 := ((Cl.ok_iff l).1 h).1
  unfold At.cltTo
  split
  · simp
  · split <;> simp [tCl] <;> omega
theorem cltTo_one {l : List Int} (h : 0 < l.length) : At.cltTo l 1 = tCl ++ Lib.itoa l[0] ++ (if 1 = l.length then [93] else []) := by
  unfold At.cltTo
  rw [if_neg (by decide), Is.joinTo_one l h]
theorem cltTo_succ {l : List Int} {m : Nat} (h : m + 1 < l.length) : At.cltTo l (m + 1 + 1) = At.cltTo l (m + 1) ++ [32] ++ Lib.itoa l[m + 1] ++ (if m + 1 + 1 = l.length then [93] else []) := by
  unfold At.cltTo
  rw [if_neg (show ¬ m + 1 + 1 = 0 by omega), if_neg (show ¬ m + 1 = 0 by omega), Is.joinTo_succ l m h, if_neg (show ¬ m + 1 = l.length by omega)]
  simp
end Go.Proofs.YtpkikfojiibdaaaGreatDoor

