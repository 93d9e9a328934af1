import Derived.Test.YtechocnednepiaaFe
import Derived.Test.YtechocnednepiaaFc
import Derived.Test.YtechocnednepiaaGf
import Derived.Test.YtechocnednepiaaL9
/- A trie's text: its length, the program's Fold. -/
namespace Go.Proofs.Ytechocnednepiaa
open Go.RowKit

def num : Value → Tx
  | .int _ n => Lib.itoa n
  | _ => []
/-- A trie's text. -/
def Nt.txt : Nt → Tx
  | .nil => []
  | .nd _ lo hi v is => brk lo lo.txt ++ (brk hi hi.txt ++ (if is then num v else []))
/-- Values from 0 to 1000 where there are some. -/
def Nt.small : Nt → Prop
  | .nil => True
  | .nd _ lo hi v is => (∃ n, v = .int .i64 n ∧ (is = true → 0 ≤ n ∧ n ≤ 1000)) ∧ lo.small ∧ hi.small
theorem small_of {z : Value} (hz : ∃ n, z = .int .i64 n) : ∀ (t : Nt) (c : Pf) (d : Nat), t.wf z d → (∀ x ∈ t.list c, ∃ n, x.2 = .int .i64 n ∧ 0 ≤ n ∧ n ≤ 1000) → t.small
  | .nil, _, _, _, _ => trivial
  | .nd b lo hi v is, c, d, hw, h => by
    refine ⟨?_, small_of hz lo (half c false) _ hw.2.2.2.1 fun x hx => h x (by simp [Nt.list, hx]), small_of hz hi (half c true) _ hw.2.2.2.2 fun x hx => h x (by simp [Nt.list, hx])⟩
    cases is
    · obtain ⟨n, e⟩ := hz
      exact ⟨n, by rw [hw.2.1 rfl, e], fun h => by cases h⟩
    · obtain ⟨n, e, e1⟩ := h (c, v) (by simp [Nt.list, one])
      exact ⟨n, e, fun _ => e1⟩
theorem brk_len {t : Nt} {s : Tx} {L m : Nat} (h : s.length ≤ L * m) (hL : t ≠ .nil → 1 ≤ L) : (brk t s).length ≤ L * (m + 2) := by
  cases t with
  | nil => simp [brk]
  | nd b lo hi v is =>
    have h1 := hL (by simp)
    have h2 : L * (m + 2) = L * m + L * 2 := Nat.mul_add _ _ _
    simp only [brk, bk, List.length_cons, List.length_append, List.length_nil]
    omega
theorem list_pos {z : Value} {t : Nt} {c : Pf} {d : Nat} (hw : t.wf z d) (h : t ≠ .nil) : 1 ≤ (t.list c).length := by
  cases hl : t.list c with
  | nil => exact absurd (nil_of t c d hw hl) h
  | cons x l => simp
theorem txt_len {z : Value} : ∀ (t : Nt) (c : Pf) (d : Nat), t.wf z d → t.small → t.txt.length ≤ (t.list c).length * (30 + 2 * d)
  | .nil, _, _, _, _ => by simp [Nt.txt]
  | .nd b lo hi v is, c, d, hw, hs => by
    obtain ⟨⟨n, rfl, hn⟩, s1, s2⟩ := hs
    have hi0 : (if is then num (.int .i64 n) else []).length ≤ (if is then 1 else 0) * 30 := by
      cases is
      · simp
      · obtain ⟨h0, h1⟩ := hn rfl
        have := Lib.itoa_length_le n (by omega) (by omega)
        simp [num]
        omega
    simp only [Nt.txt, Nt.list, List.length_append, one_length]
    rw [Nat.add_mul, Nat.add_mul]
    have hi1 : (if is = true then 1 else 0) * 30 ≤ (if is = true then 1 else 0) * (30 + 2 * d) := Nat.mul_le_mul_left _ (by omega)
    cases d with
    | zero =>
      obtain ⟨rfl, rfl⟩ := hw.2.2.1 rfl
      simp only [brk, List.length_nil]
      omega
    | succ d =>
      have e1 := brk_len (txt_len lo (half c false) d hw.2.2.2.1 s1) (list_pos hw.2.2.2.1)
      have e2 := brk_len (txt_len hi (half c true) d hw.2.2.2.2 s2) (list_pos hw.2.2.2.2)
      have e3 : 30 + 2 * d + 2 = 30 + 2 * (d + 1) := by omega
      rw [e3] at e1 e2
      omega
theorem txt_le {z : Value} {t : Nt} {c : Pf} {d : Nat} (hw : t.wf z d) (hs : t.small) (hd : d ≤ 32) (hn : (t.list c).length ≤ 1000) : t.txt.length ≤ 100000 := by
  have h1 := txt_len t c d hw hs
  have h2 : (t.list c).length * (30 + 2 * d) ≤ 1000 * (30 + 2 * 32) := Nat.mul_le_mul hn (by omega)
  omega
theorem foldX_is {z : Value} : ∀ (t : Nt) (c : Pf) (d : Nat) (w : World), t ≠ .nil → t.At 89 w → t.small → t.wf z d → d ≤ 32 → (t.list c).length ≤ 1000 →
    Calls Try.prog 46 #[t.ptr, .func (.func 16) #[] #[]] w fun e w' => e = .returned (tv t.txt) ∧ Below w.heap.size w w' := by
  intro t
  induction t with
  | nil => intro c d w h; exact absurd rfl h
  | nd b lo hi v is ih1 ih2 =>
    intro c d w _ hl hs hw hd hlen
    obtain ⟨⟨n, rfl, hn⟩, s1, s2⟩ := hs
    have e : ((Nt.nd b lo hi (.int .i64 n) is).list c).length = (if is then 1 else 0) + ((lo.list (half c false)).length + (hi.list (half c true)).length) := by
      simp only [Nt.list, List.length_append, one_length]
    exact fold_txt (s1 := lo.txt) (s2 := hi.txt) hl (txt_le (c := half c false) (d := d - 1) hw.2.2.2.1 s1 (by omega) (by rw [e] at hlen; omega)) (txt_le (c := half c true) (d := d - 1) hw.2.2.2.2 s2 (by omega) (by rw [e] at hlen; omega)) hn rfl
      (fun hne W hW => ih1 (half c false) _ W hne (hl.2.1.below hW) s1 hw.2.2.2.1 (by omega) (by omega)) (fun hne W hW => ih2 (half c true) _ W hne (hl.2.2.below hW) s2 hw.2.2.2.2 (by omega) (by omega))
set_option maxRecDepth 100000 in
theorem foldXT_is {z : Value} {w : World} {T : Nat} {t : Nt} (hT : Tri 75 89 z w T t) (hs : t.small) (hlen : (t.list (0, 0)).length ≤ 1000) :
    Calls Try.prog 15 #[.pointer (some ⟨T, 0, none⟩), .func (.func 16) #[] #[]] w fun e w' => e = .returned (tv t.txt) ∧ Below w.heap.size w w' := by
  obtain ⟨c0, c1, _⟩ := top_cells hT.top
  have hfn := fun w => fn_eql w 42 _ _ _ (.func 16) #[] #[] Try.underlying42
  cases t with
  | nil =>
    simp only [ptr_none] at c0
    have CC := hide (fun W => join_is none 0 [] 0 false W (.inl rfl) (by simp) (by simp) (fun h => by cases h))
    have HE : Hid (tv (jn [] ++ if false = true then Lib.itoa 0 else []) = tv Nt.nil.txt) := by show _ = _; simp [jn, Nt.txt]
    simp only [List.length_nil] at CC
    rw [HE.out] at CC
    generalize tv Nt.nil.txt = R at *
    clear hT hlen HE
    go_enter Try.func15, Try.ntmps15
    go_wp2_with fail
    refine (CC.out _).mono ?_
    rintro e w2 ⟨rfl, hb⟩
    go_wp2_with fail
    go_ret
    exact ⟨rfl, hb⟩
  | nd b lo hi v is =>
    have CF := hide (foldX_is _ (0, 0) 32 w (by simp) hT.lies hs hT.wf (by omega) hlen)
    simp only [ptr_nd] at c0 CF
    clear hT hlen hs
    generalize tv (Nt.txt (Nt.nd b lo hi v is)) = R at *
    go_enter Try.func15, Try.ntmps15
    go_wp2_with fail
    refine CF.out.mono ?_
    rintro e w2 ⟨rfl, hb⟩
    go_wp2_with fail
    go_ret
    exact ⟨rfl, hb⟩
end Go.Proofs.Ytechocnednepiaa

/- The document's Fold: what a half has, what a prefix itself has. -/
namespace Go.Proofs.Ytechocnednepiaa
open Go.RowKit

theorem sub_kid (t : Nt) {c : Pf} (hc : Gd c) (hl : c.2 ≤ 31) (s : Bool) : t.sub c (half c s) = t.kid s := by
  have := sub_half hc hl s t c hc (In.refl hc)
  rw [sub_self] at this
  rw [this]
  cases t <;> rfl
theorem kid_list {z : Value} {l : Prs} {t : Nt} {c : Pf} (hc : Gd c) (hl : c.2 ≤ 31) (hw : t.wf z (left c)) (h : t.list c = (l.map em).filter fun x => decide (In c x.1)) (s : Bool) : (t.kid s).list (half c s) = (l.map em).filter fun x => decide (In (half c s) x.1) := by
  have h1 := Nt.sub_filter t c (half c s) hc (gd_half hc hl s) (in_half hc hl s) hw
  rw [sub_kid t hc hl, h, List.filter_filter] at h1
  rw [h1]
  congr 1
  funext x
  by_cases e : In (half c s) x.1
  · simp [e, (in_half hc hl s).trans e]
  · simp [e]
theorem kid_wf {z : Value} {t : Nt} {c : Pf} (hw : t.wf z (left c)) (s : Bool) : (t.kid s).wf z (left (half c s)) := by
  rw [left_half]
  cases t with
  | nil => exact trivial
  | nd b lo hi v is =>
    cases s
    · exact hw.2.2.2.1
    · exact hw.2.2.2.2
theorem kid_small {t : Nt} (h : t.small) (s : Bool) : (t.kid s).small := by
  cases t with
  | nil => exact trivial
  | nd b lo hi v is =>
    cases s
    · exact h.2.1
    · exact h.2.2
theorem kid_dn {z : Value} {l : Prs} {t : Nt} {c : Pf} (hg : ∀ x ∈ l, Gd x.1) (hc : Gd c) (hl : c.2 ≤ 31) (hw : t.wf z (left c)) (h : t.list c = (l.map em).filter fun x => decide (In c x.1)) (s : Bool) :
    refDnL l (half c s) = ((t.kid s).list (half c s)).map Prod.fst := by
  rw [kid_list hc hl hw h s, dns_eq hg (gd_half hc hl s)]
/-- What a prefix itself puts into the text. -/
def ownT (l : Prs) (c : Pf) : Tx := if (place l c).2 then (match l[(place l c).1]? with | some x => Lib.itoa x.2 | none => []) else []
theorem own_look {z : Value} {l : Prs} {t : Nt} {c : Pf} (hs : SortedP l) (hc : Gd c) (hw : t.wf z (left c)) (h : t.list c = (l.map em).filter fun x => decide (In c x.1)) :
    ownT l c = match t with | .nil => [] | .nd _ _ _ v is => if is then num v else [] := by
  have h1 : look (l.map em) c = look (t.list c) c := by
    rw [h]
    unfold look
    rw [List.find?_filter]
    congr 2
    funext x
    by_cases e : x.1 = c
    · simp [e, In.refl hc]
    · simp [e]
  rw [Nt.sub_look t c c hc hc (In.refl hc) hw, sub_self, look_place hs] at h1
  unfold ownT
  cases hp : (place l c).2
  · rw [hp] at h1
    simp only [Bool.false_eq_true, if_false] at h1 ⊢
    cases t with
    | nil => rfl
    | nd b lo hi v is =>
      cases is
      · rfl
      · simp at h1
  · rw [hp] at h1
    simp only [if_true] at h1 ⊢
    cases hx : l[(place l c).1]? with
    | none =>
      rw [List.getElem?_eq_none_iff] at hx
      have := place_lt hp
      omega
    | some x =>
      rw [hx] at h1
      cases t with
      | nil => simp at h1
      | nd b lo hi v is =>
        cases is
        · simp at h1
        · simp only [Option.map_some, if_true, Option.some.injEq] at h1
          subst h1
          simp [num]
/-- The text of the halves ahead of the half number k. -/
def Nt.pre (t : Nt) (k : Nat) : Tx := (if 0 < k then brk (t.kid false) (t.kid false).txt else []) ++ (if 1 < k then brk (t.kid true) (t.kid true).txt else [])
theorem txt_pre {z : Value} {l : Prs} {t : Nt} {c : Pf} (hs : SortedP l) (hc : Gd c) (hw : t.wf z (left c)) (h : t.list c = (l.map em).filter fun x => decide (In c x.1)) : t.txt = t.pre 2 ++ ownT l c := by
  rw [own_look hs hc hw h]
  cases t with
  | nil => rfl
  | nd b lo hi v is => simp [Nt.txt, Nt.pre, Nt.kid]
theorem pre_last {z : Value} {t : Nt} {c : Pf} (hw : t.wf z (left c)) (hl : ¬ c.2 ≤ 31) : t.pre 2 = [] := by
  cases t with
  | nil => rfl
  | nd b lo hi v is =>
    obtain ⟨rfl, rfl⟩ := Nt.kids_nil hw hl
    rfl
theorem unit_step {u i n : Int} (h : u * Ad.sz i = Ad.sz n) (hu : 0 < u) (h0 : 0 ≤ i) (h1 : i ≤ 31) (hn : 1 ≤ n) : u * 2 * Ad.sz (i + 1) = Ad.sz n ∧ u * 2 ≤ 2147483648 := by
  have e : u * 2 * Ad.sz (i + 1) = Ad.sz n := by rw [← h, Ad.sz_half i h0 h1]; simp [Int.mul_assoc]
  refine ⟨e, ?_⟩
  have hp := Ad.sz_pos (i + 1)
  have h2 : u * 2 * 1 ≤ u * 2 * Ad.sz (i + 1) := Int.mul_le_mul_of_nonneg_left (by omega) (by omega)
  have h3 : 2 * Ad.sz n ≤ 4294967296 := by
    obtain ⟨k, hk, e2⟩ := Ad.sz_dvd 1 n hn
    have e3 : Ad.sz 1 = 2147483648 := by decide
    rw [e3] at e2
    have hq := Ad.sz_pos n
    have : 1 * Ad.sz n ≤ k * Ad.sz n := Int.mul_le_mul_of_nonneg_right (by omega) (by omega)
    omega
  omega
end Go.Proofs.Ytechocnednepiaa

