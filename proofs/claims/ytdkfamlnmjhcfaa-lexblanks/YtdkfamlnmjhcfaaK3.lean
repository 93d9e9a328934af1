/- What a scan without a fault tells. -/
import Derived.Test.YtdkfamlnmjhcfaaK2
namespace Go.Proofs.Ytdkfamlnmjhcfaa
open Go.RowKit Go.Sort

theorem txt_size (l : List UInt8) : (txt l).size = l.length := by show l.toArray.size = _; simp
theorem stp_code {r : List UInt8} {f : Nat} {n : Nat} {e : Int} (h : stp r f = .fault n e) : e ≠ 0 := by
  cases r with
  | nil => simp [stp] at h
  | cons c r =>
    simp only [stp] at h
    split at h
    · cases h
    · split at h
      · cases h
      · exact (bgn_fault h).1
theorem Sc.code {b : Nat} {r : List UInt8} {f : Nat} {ts : List Tok} {o : Option (Nat × Int)} (h : Sc b r f ts o) : ∀ x e, o = some (x, e) → e ≠ 0 := by
  induction h with
  | nil => intro x e h; cases h
  | bad _ hs => intro x e h; cases h; exact stp_code hs
  | more _ _ _ ih => exact ih
theorem Is.ok {s : ByteArray} {ts : List Tok} {p q c : Int} (h : Is s ts p q c) (hc : c = 0) : s.size ≤ 8192 ∧ Sc 0 (lst s) 2 ts none ∧ p = 0 ∧ q = 0 := by
  rcases h with ⟨_, _, _, _, rfl⟩ | ⟨h8, ts', o, hs, ⟨rfl, rfl, rfl, rfl, _⟩ | ⟨b, e, rfl, _, _, _, rfl⟩⟩
  · cases hc
  · exact ⟨h8, hs, rfl, rfl⟩
  · exact absurd hc (hs.code _ _ rfl)
theorem Is.no {s : ByteArray} {ts : List Tok} {p q c : Int} (h : Is s ts p q c) (hc : ¬ c = 0) : ts = [] := by
  rcases h with ⟨_, rfl, _⟩ | ⟨h8, ts', o, hs, ⟨rfl, rfl, rfl, rfl, h⟩ | ⟨b, e, rfl, h, _⟩⟩
  · rfl
  · exact absurd h hc
  · exact h
theorem Is.of {s : ByteArray} {ts : List Tok} (h8 : s.size ≤ 8192) (h : Sc 0 (lst s) 2 ts none) : Is s ts 0 0 0 := .inr ⟨h8, ts, none, h, .inl ⟨rfl, rfl, rfl, rfl, rfl⟩⟩
/-- What is joined, and scanned again. -/
theorem back {s : ByteArray} {ts : List Tok} (h : Sc 0 (lst s) 2 ts none) (h8 : (jn (ts.map Tok.bare)).length ≤ 8192) : ∃ ts2, Is (txt (jn (ts.map Tok.bare))) ts2 0 0 0 ∧ ts2.map Tok.bare = ts.map Tok.bare := by
  obtain ⟨ts2, h1, h2⟩ := jn_scan (ts.map Tok.bare) (by
    intro t ht
    obtain ⟨t', ht', rfl⟩ := List.mem_map.1 ht
    exact h.good t' ht') 0
  exact ⟨ts2, Is.of (by rw [txt_size]; exact h8) h1, h2⟩
theorem good_size {k : Nat} {s : List UInt8} (h : Good k s) : s.length ≤ 64 := by
  rcases h with ⟨_, _, _, h⟩ | ⟨_, _, h⟩ | ⟨_, c, rfl, _⟩
  · omega
  · exact h
  · simp
theorem bare_at {ts ts2 : List Tok} (h : ts2.map Tok.bare = ts.map Tok.bare) (i : Nat) (h1 : i < ts.length) (h2 : i < ts2.length) : ts2[i].kind = ts[i].kind ∧ ts2[i].s = ts[i].s := by
  have e : (ts2.map Tok.bare)[i]? = (ts.map Tok.bare)[i]? := by rw [h]
  simp only [List.getElem?_map, List.getElem?_eq_getElem h1, List.getElem?_eq_getElem h2, Option.map_some, Option.some.injEq, Tok.bare, Prod.mk.injEq] at e
  exact e
theorem row_tv {w : World} {B E : Nat} {v : Value} {l : List UInt8} {ts : List Tok} (h : w.ownsRow B E 4 v ts.length (Tok.cells l ts)) : w.ownsRow B E 4 v (ts.map (Tok.tv l)).length (Tv.cells (ts.map (Tok.tv l))) := by
  rw [List.length_map, ← Tok.cells_tv]
  exact h
/-- A token's cells, where tokens of one's own lie. -/
theorem tok_at {w : World} {B E : Nat} {v : Value} {l : List UInt8} {ts : List Tok} (h : w.ownsRow B E 4 v ts.length (Tok.cells l ts)) (i : Nat) (hi : i < ts.length) : ∃ g c, v = .slice (some ⟨g, 0, none⟩) ts.length c ∧ w.cell? ⟨g, i * 4, none⟩ = some (.int .i64 (ts[i].kind : Int)) ∧ w.cell? ⟨g, i * 4 + 1, none⟩ = some (.string (txt ts[i].s)) ∧ w.cell? ⟨g, i * 4 + 2, none⟩ = some (.int .i64 ((plc l ts[i].at_).1 : Nat)) ∧ w.cell? ⟨g, i * 4 + 3, none⟩ = some (.int .i64 ((plc l ts[i].at_).2 : Nat)) := by
  rcases Tv.of_row (row_tv h) with ⟨h0, _⟩ | ⟨g, c, hv, _, hr⟩
  · have := congrArg List.length h0
    simp at this
    subst this
    simp at hi
  · rw [List.length_map] at hv
    obtain ⟨a, b, c', d⟩ := hr i (by rw [List.length_map]; exact hi)
    rw [List.getElem_map] at a b c' d
    exact ⟨g, c, hv, a, b, c', d⟩
/-- The program's Join of tokens that were scanned. -/
theorem Kit11.joined (K : Kit11) {l : List UInt8} {ts : List Tok} (hg : ∀ t ∈ ts, Good t.kind t.s) (hn : ts.length ≤ 100000) {B : Nat} {v : Value} {w : World} (h : w.ownsRow B 38 4 v ts.length (Tok.cells l ts)) : Calls Try.prog 8 #[v] w fun e w' => e = .returned (.string (txt (jn (ts.map Tok.bare)))) ∧ Below w.heap.size w w' := by
  have := K.join B v (ts.map (Tok.tv l)) (by rw [List.length_map]; exact hn) (by
    intro t ht
    obtain ⟨t', ht', rfl⟩ := List.mem_map.1 ht
    have := good_size (hg t' ht')
    show (txt t'.s).size ≤ 1000
    rw [txt_size]
    omega) w (row_tv h)
  rw [join_jn] at this
  exact this
end Go.Proofs.Ytdkfamlnmjhcfaa
