/- Rows of tokens; what the laws ask of the program. -/
import Derived.Test.YtdkfamlnmjhcfaaA3
import Derived.Laws.OwnMore
namespace Go.Proofs.Ytdkfamlnmjhcfaa
open Go.RowKit Go.Sort

def Tv.enc (t : Tv) : List Value := [.int .i64 t.k, .string t.s, .int .i64 t.p, .int .i64 t.q]
def Tv.cells (l : List Tv) : List Value := l.flatMap Tv.enc
theorem Tok.cells_tv (l : List UInt8) (ts : List Tok) : Tok.cells l ts = Tv.cells (ts.map (Tok.tv l)) := by
  induction ts with
  | nil => rfl
  | cons t ts ih =>
    show Tok.enc l t ++ Tok.cells l ts = _
    rw [ih]
    rfl
theorem Tv.cells_length (l : List Tv) : (Tv.cells l).length = l.length * 4 := by
  induction l with
  | nil => rfl
  | cons t l ih => show (Tv.enc t ++ Tv.cells l).length = _; rw [List.length_append, ih, List.length_cons]; simp [Tv.enc]; omega
theorem Tv.cells_get (l : List Tv) (j i : Nat) (h : j < l.length) (hi : i < 4) : (Tv.cells l)[j * 4 + i]? = (Tv.enc l[j])[i]? := by
  induction l generalizing j with
  | nil => simp at h
  | cons t l ih =>
    show (Tv.enc t ++ Tv.cells l)[j * 4 + i]? = _
    cases j with
    | zero => rw [Nat.zero_mul, Nat.zero_add, List.getElem?_append_left (by simpa [Tv.enc] using hi)]; rfl
    | succ j =>
      rw [List.getElem?_append_right (by simp [Tv.enc]; omega), show (j + 1) * 4 + i - (Tv.enc t).length = j * 4 + i by simp [Tv.enc]; omega]
      rw [ih j (by simpa using h)]
      rfl
/-- Tokens of one's own lie there. -/
theorem Tv.of_row {w : World} {B E : Nat} {v : Value} {l : List Tv} (h : w.ownsRow B E 4 v l.length (Tv.cells l)) : (l = [] ∧ ∃ c, v = .slice none 0 c ∨ ∃ g, v = .slice (some ⟨g, 0, none⟩) 0 c) ∨ ∃ g c, v = .slice (some ⟨g, 0, none⟩) l.length c ∧ B ≤ g ∧ ∀ j (h : j < l.length), Tv.at_ w g (j * 4) l[j] := by
  rcases h.2 with ⟨hv, h0⟩ | ⟨g, cap, cur, hv, hB, hg, r⟩
  · exact .inl ⟨List.length_eq_zero_iff.1 h0, 0, .inl hv⟩
  · refine .inr ⟨g, cap, hv, hB, fun j hj => ?_⟩
    rw [hv] at h
    have k : ∀ i, i < 4 → w.cell? ⟨g, j * 4 + i, none⟩ = (Tv.enc l[j])[i]? := fun i hi => by rw [h.cellAt _ (by omega), Tv.cells_get l j i hj hi]
    exact ⟨k 0 (by decide), k 1 (by decide), k 2 (by decide), k 3 (by decide)⟩
theorem Tv.slot_row {w : World} {B E : Nat} {v : Value} {l : List Tv} (h : w.ownsRow B E 4 v l.length (Tv.cells l)) : ∃ ao c, v = .slice ao l.length c ∧ Tv.slot w ao l := by
  rcases Tv.of_row h with ⟨hl, c, hv | ⟨g, hv⟩⟩ | ⟨g, c, hv, _, hr⟩
  · exact ⟨none, c, by rw [hv, hl]; rfl, .inl hl⟩
  · exact ⟨_, c, by rw [hv, hl]; rfl, .inl hl⟩
  · exact ⟨_, c, hv, .inr ⟨g, 0, rfl, fun j hj => by rw [Nat.zero_add]; exact hr j hj⟩⟩
/-- What the laws ask of the program. -/
structure Kit11 : Prop where
  scan : ∀ (s : ByteArray), s.size ≤ 100000 → ∀ w, Calls Try.prog 11 #[.string s] w (ScanTo 38 s w)
  join : ∀ (B : Nat) (v : Value) (l : List Tv), l.length ≤ 100000 → (∀ t ∈ l, t.s.size ≤ 1000) → ∀ w : World, w.ownsRow B 38 4 v l.length (Tv.cells l) → Calls Try.prog 8 #[v] w fun e w' => e = .returned (.string (txt (join l))) ∧ Below w.heap.size w w'
  place : ∀ (s : ByteArray) (k : Int), s.size ≤ 100000 → ∀ w, Calls Try.prog 12 #[.string s, .int .i64 k] w fun e w' => e = .returned (.agg #[.int .i64 ((plc (lst s) k.toNat).1 : Nat), .int .i64 ((plc (lst s) k.toNat).2 : Nat)]) ∧ Below w.heap.size w w'
  end_ : ∀ (s : ByteArray), s.size ≤ 100000 → ∀ w, Calls Try.prog 14 #[.string s] w fun e w' => e = .returned (.agg #[.int .i64 ((plc (lst s) s.size).1 : Nat), .int .i64 ((plc (lst s) s.size).2 : Nat)]) ∧ Below w.heap.size w w'
/-- A scan tells one thing. -/
theorem Is.det {s : ByteArray} {ts ts' : List Tok} {p q c p' q' c' : Int} (h : Is s ts p q c) (h' : Is s ts' p' q' c') : ts = ts' ∧ p = p' ∧ q = q' ∧ c = c' := by
  rcases h with ⟨h8, rfl, rfl, rfl, rfl⟩ | ⟨h8, t1, o1, s1, r1⟩
  · rcases h' with ⟨_, rfl, rfl, rfl, rfl⟩ | ⟨h8', _⟩
    · exact ⟨rfl, rfl, rfl, rfl⟩
    · omega
  · rcases h' with ⟨h8', _⟩ | ⟨_, t2, o2, s2, r2⟩
    · omega
    · obtain ⟨rfl, rfl⟩ := s1.det s2
      rcases r1 with ⟨rfl, rfl, rfl, rfl, rfl⟩ | ⟨b, e, rfl, rfl, rfl, rfl, rfl⟩
      · rcases r2 with ⟨_, rfl, rfl, rfl, rfl⟩ | ⟨b, e, h, _⟩
        · exact ⟨rfl, rfl, rfl, rfl⟩
        · cases h
      · rcases r2 with ⟨h, _⟩ | ⟨b', e', h, rfl, rfl, rfl, rfl⟩
        · cases h
        · cases h; exact ⟨rfl, rfl, rfl, rfl⟩
theorem as5 : Is ⟨#[97, 115, 32, 53, 59]⟩ [⟨0, [97, 115], 0⟩, ⟨0, [53], 3⟩, ⟨2, [59], 4⟩] 0 0 0 := by
  refine .inr ⟨by decide, _, none, ?_, .inl ⟨rfl, rfl, rfl, rfl, rfl⟩⟩
  refine Sc.more (b := 0) (t := some (0, [97, 115])) (n := 2) (f' := 0) (ts := [⟨0, [53], 3⟩, ⟨2, [59], 4⟩]) (by simp) (by rfl) ?_
  refine Sc.more (t := none) (n := 1) (f' := 2) (ts := [⟨0, [53], 3⟩, ⟨2, [59], 4⟩]) (by simp) (by rfl) ?_
  refine Sc.more (t := some (0, [53])) (n := 1) (f' := 0) (ts := [⟨2, [59], 4⟩]) (by simp) (by rfl) ?_
  refine Sc.more (t := some (2, [59])) (n := 1) (f' := 2) (ts := []) (by simp) (by rfl) ?_
  exact .nil _ _
end Go.Proofs.Ytdkfamlnmjhcfaa
