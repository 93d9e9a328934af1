/- Tokens in memory; a scan, step by step. -/
import Derived.Test.YtdkfamlnmjhcfaaB2
import Derived.Deep.RegionHeldLaw
namespace Go.Proofs.Ytdkfamlnmjhcfaa
open Go.RowKit Go.Sort

/-- Bytes as a text. -/
abbrev txt (l : List UInt8) : ByteArray := ⟨l.toArray⟩
theorem lst_txt (l : List UInt8) : lst (txt l) = l := rfl
theorem txt_lst (s : ByteArray) : txt (lst s) = s := rfl
theorem extract_txt (s : ByteArray) (a b : Nat) : s.extract a b = txt (((lst s).drop a).take (b - a)) := by
  apply ByteArray.ext
  rw [ByteArray.data_extract]
  apply Array.ext'
  rw [Array.toList_extract, List.extract_eq_take_drop]
/-- A token's cells: its kind, its text, its place. -/
def Tok.enc (l : List UInt8) (t : Tok) : List Value := [.int .i64 (t.kind : Int), .string (txt t.s), .int .i64 ((plc l t.at_).1 : Nat), .int .i64 ((plc l t.at_).2 : Nat)]
def Tok.cells (l : List UInt8) (ts : List Tok) : List Value := ts.flatMap (Tok.enc l)
theorem Tok.cells_length (l : List UInt8) (ts : List Tok) : (Tok.cells l ts).length = ts.length * 4 := by
  induction ts with
  | nil => rfl
  | cons t ts ih => simp only [Tok.cells, List.flatMap_cons, List.length_append, List.length_cons] at *; rw [ih]; simp [Tok.enc]; omega
theorem Tok.cells_app (l : List UInt8) (ts : List Tok) (t : Tok) : Tok.cells l (ts ++ [t]) = Tok.cells l ts ++ Tok.enc l t := by simp [Tok.cells]

theorem infoR : (Try.prog.info? 27).map (fun i => (i.zero, i.size, i.bytes)) = some (some (.agg #[.int .i64 0, .string ⟨#[]⟩, .int .i64 0, .int .i64 0]), 4, 40) := by kernel_rfl
theorem info_partsR : ∃ i0 : TypeInfo, Try.prog.info? 27 = some i0 ∧ i0.zero = some (.agg #[.int .i64 0, .string ⟨#[]⟩, .int .i64 0, .int .i64 0]) ∧ i0.size = 4 ∧ i0.bytes = 40 := by
  have h := infoR
  cases hi : Try.prog.info? 27 with
  | none => rw [hi] at h; cases h
  | some i0 =>
    rw [hi] at h
    simp only [Option.map_some, Option.some.injEq, Prod.mk.injEq] at h
    exact ⟨i0, rfl, h.1, h.2.1, h.2.2⟩
theorem infoL : (Try.prog.info? 38).map (fun i => (i.zero, i.size, i.bytes)) = some (some (.agg #[.int .i64 0, .string ⟨#[]⟩, .int .i64 0, .int .i64 0]), 4, 40) := by kernel_rfl
theorem info_partsL : ∃ i0 : TypeInfo, Try.prog.info? 38 = some i0 ∧ i0.zero = some (.agg #[.int .i64 0, .string ⟨#[]⟩, .int .i64 0, .int .i64 0]) ∧ i0.size = 4 ∧ i0.bytes = 40 := by
  have h := infoL
  cases hi : Try.prog.info? 38 with
  | none => rw [hi] at h; cases h
  | some i0 =>
    rw [hi] at h
    simp only [Option.map_some, Option.some.injEq, Prod.mk.injEq] at h
    exact ⟨i0, rfl, h.1, h.2.1, h.2.2⟩
theorem enc_reads {w : World} {g E : Nat} {l : List UInt8} {t : Tok} (hc : w.heap[g]? = some (.cells #[.int .i64 (t.kind : Int), .string (txt t.s), .int .i64 ((plc l t.at_).1 : Nat), .int .i64 ((plc l t.at_).2 : Nat)] E (0, 0))) (j : Nat) (u : Value) (hu : (Tok.enc l t)[j]? = some u) : w.cell? ((⟨g, 0, none⟩ : Addr).add j) = some u := by
  match j, hu with
  | 0, hu => simp [Tok.enc] at hu; subst hu; simp [Addr.add, World.cell?, hc]
  | 1, hu => simp [Tok.enc] at hu; subst hu; simp [Addr.add, World.cell?, hc]
  | 2, hu => simp [Tok.enc] at hu; subst hu; simp [Addr.add, World.cell?, hc]
  | 3, hu => simp [Tok.enc] at hu; subst hu; simp [Addr.add, World.cell?, hc]
  | j + 4, hu => simp [Tok.enc] at hu
theorem enc_one {l : List UInt8} {t : Tok} (u : Value) (hu : u ∈ Tok.enc l t) : u.oneCell' = true := by
  simp [Tok.enc] at hu
  rcases hu with rfl | rfl | rfl | rfl <;> rfl
/-- A token of the document's behind tokens. -/
theorem app_tokR {w : World} {o : Oper} {a : Act} {K : Act → World → Prop} {Q : Exit → Act → World → Prop} (s x : Operand)
    (ho : o.op = .call { callee := .builtin .append, args := #[s, x], argTypes := #[22, 22] }) (B : Nat) (v : Value) (l : List UInt8) (xs : List Tok) (hs : a.eval s = v) (hown : w.ownsRow B 27 4 v xs.length (Tok.cells l xs))
    (t : Tok) (g c : Nat) (hx : a.eval x = .slice (some ⟨g, 0, none⟩) 1 c) (hc : w.heap[g]? = some (.cells #[.int .i64 (t.kind : Int), .string (txt t.s), .int .i64 ((plc l t.at_).1 : Nat), .int .i64 ((plc l t.at_).2 : Nat)] 27 (0, 0))) (hn : xs.length ≤ 100000) (hB : B ≤ w.heap.size)
    (h : ∀ v' w', w'.ownsRow B 27 4 v' (xs ++ [t]).length (Tok.cells l (xs ++ [t])) → w.grownBy w' v.ownBlock → K (a.put o.dst v') w') : Oper.wp Try.prog o a w K Q := by
  obtain ⟨i0, hi, hz0, hz1, hz2⟩ := info_partsR
  refine wp_append_own w s x 22 ho B 27 i0 _ 4 40 Try.underlying22 hi hz0 hz1 hz2 rfl (by decide) v xs.length (Tok.cells l xs) hs hown ⟨g, 0, none⟩ 1 c (Tok.enc l t) hx rfl (enc_reads hc) enc_one (by unfold maxLen; omega) (by omega) hB ?_
  intro v' w' ho' hg _
  refine h v' w' ?_ hg
  rw [List.length_append, Tok.cells_app]
  exact ho'
/-- The like of the program's. -/
theorem app_tokL {w : World} {o : Oper} {a : Act} {K : Act → World → Prop} {Q : Exit → Act → World → Prop} (s x : Operand)
    (ho : o.op = .call { callee := .builtin .append, args := #[s, x], argTypes := #[29, 29] }) (B : Nat) (v : Value) (l : List UInt8) (xs : List Tok) (hs : a.eval s = v) (hown : w.ownsRow B 38 4 v xs.length (Tok.cells l xs))
    (t : Tok) (g c : Nat) (hx : a.eval x = .slice (some ⟨g, 0, none⟩) 1 c) (hc : w.heap[g]? = some (.cells #[.int .i64 (t.kind : Int), .string (txt t.s), .int .i64 ((plc l t.at_).1 : Nat), .int .i64 ((plc l t.at_).2 : Nat)] 38 (0, 0))) (hn : xs.length ≤ 100000) (hB : B ≤ w.heap.size)
    (h : ∀ v' w', w'.ownsRow B 38 4 v' (xs ++ [t]).length (Tok.cells l (xs ++ [t])) → w.grownBy w' v.ownBlock → K (a.put o.dst v') w') : Oper.wp Try.prog o a w K Q := by
  obtain ⟨i0, hi, hz0, hz1, hz2⟩ := info_partsL
  refine wp_append_own w s x 29 ho B 38 i0 _ 4 40 Try.underlying29 hi hz0 hz1 hz2 rfl (by decide) v xs.length (Tok.cells l xs) hs hown ⟨g, 0, none⟩ 1 c (Tok.enc l t) hx rfl (enc_reads hc) enc_one (by unfold maxLen; omega) (by omega) hB ?_
  intro v' w' ho' hg _
  refine h v' w' ?_ hg
  rw [List.length_append, Tok.cells_app]
  exact ho'

/-- What is scanned behind a place comes behind what was scanned. -/
def Inv (l : List UInt8) (k : Nat) (f : Nat) (acc : List Tok) : Prop := ∀ ts o, Sc k (l.drop k) f ts o → Sc 0 l 2 (acc ++ ts) o
theorem Inv.start (l : List UInt8) : Inv l 0 2 [] := fun ts o h => by simpa using h
theorem drop_ne {l : List UInt8} {k : Nat} (h : k < l.length) : l.drop k ≠ [] := fun e => by have := congrArg List.length e; simp at this; omega
theorem Inv.go {l : List UInt8} {k n : Nat} {f f' : Nat} {acc : List Tok} {t : Option (Nat × List UInt8)} (h : Inv l k f acc) (hk : k < l.length) (hs : stp (l.drop k) f = .go n f' t) : Inv l (k + n) f' (acc ++ tokOf k t) := by
  intro ts o hsc
  rw [List.append_assoc]
  exact h _ _ (.more (drop_ne hk) hs (by rw [List.drop_drop]; exact hsc))
theorem Inv.fault {l : List UInt8} {k n : Nat} {f : Nat} {acc : List Tok} {e : Int} (h : Inv l k f acc) (hk : k < l.length) (hs : stp (l.drop k) f = .fault n e) : Sc 0 l 2 acc (some (k + n, e)) := by
  have := h _ _ (.bad (drop_ne hk) hs)
  rwa [List.append_nil] at this
theorem Inv.stop {l : List UInt8} {k : Nat} {f : Nat} {acc : List Tok} (h : Inv l k f acc) (hk : l.length ≤ k) : Sc 0 l 2 acc none := by
  have := h [] none (by rw [List.drop_of_length_le hk]; exact .nil _ _)
  rwa [List.append_nil] at this
theorem stp_blk {l : List UInt8} {k : Nat} {f : Nat} (h : k < l.length) (hb : blk l[k] = true) : stp (l.drop k) f = .go 1 2 none := by
  rw [List.drop_eq_getElem_cons h]
  simp only [stp]
  rw [if_pos hb]
theorem stp_rmk {l : List UInt8} {k : Nat} {f : Nat} (h : k < l.length) (hb : blk l[k] = false) (hc : l[k].toNat = 35) : stp (l.drop k) f = .go (tw rmk l k) 2 none := by
  unfold tw
  rw [List.drop_eq_getElem_cons h]
  simp only [stp]
  rw [if_neg (by rw [hb]; decide), if_pos hc]
theorem stp_bgn {l : List UInt8} {k : Nat} {f : Nat} (h : k < l.length) (hb : blk l[k] = false) (hc : ¬ l[k].toNat = 35) : stp (l.drop k) f = bgn (l.drop k) f := by
  rw [List.drop_eq_getElem_cons h]
  simp only [stp]
  rw [if_neg (by rw [hb]; decide), if_neg hc]
/-- A token, and the kind of what it is, are one. -/
theorem bgn_go {l : List UInt8} {f n f' : Nat} {t : Option (Nat × List UInt8)} (h : bgn l f = .go n f' t) : ∃ s, t = some (f', s) := by
  cases l with
  | nil => cases h
  | cons c r =>
    simp only [bgn] at h
    split at h
    · cases h; exact ⟨_, rfl⟩
    · split at h
      · obtain ⟨s, _, _, _, _, _, rfl, rfl, _⟩ := quo_go h
        exact ⟨s, rfl⟩
      · split at h
        · unfold wrd at h
          split at h
          · cases h
          · cases h; exact ⟨_, rfl⟩
        · cases h
theorem quo_fault {r : List UInt8} {n : Nat} {e : Int} (h : quo r = .fault n e) : e ≠ 0 ∧ n ≤ r.length ∧ 0 ≤ e ∧ e ≤ 12 := by
  unfold quo at h
  have h1 := takeWhile_le inq r
  have h2 := takeWhile_le txc (r.takeWhile inq)
  split at h
  · cases h; exact ⟨by decide, by omega, by decide, by decide⟩
  · split at h
    · cases h; exact ⟨by decide, by omega, by decide, by decide⟩
    · split at h
      · cases h; exact ⟨by decide, by omega, by decide, by decide⟩
      · split at h
        · cases h; exact ⟨by decide, by omega, by decide, by decide⟩
        · cases h
theorem bgn_fault {l : List UInt8} {f n : Nat} {e : Int} (h : bgn l f = .fault n e) : e ≠ 0 ∧ n ≤ l.length ∧ 0 ≤ e ∧ e ≤ 12 := by
  cases l with
  | nil => cases h; exact ⟨by decide, by omega, by decide, by decide⟩
  | cons c r =>
    simp only [bgn] at h
    split at h
    · cases h
    · split at h
      · have := quo_fault h
        rw [List.length_cons]
        exact ⟨this.1, by omega, this.2.2⟩
      · split at h
        · unfold wrd at h
          split at h
          · cases h; exact ⟨by decide, by omega, by decide, by decide⟩
          · cases h
        · cases h; exact ⟨by decide, by omega, by decide, by decide⟩
/-- What a scan tells. -/
def Is (s : ByteArray) (ts : List Tok) (p q c : Int) : Prop :=
  (8192 < s.size ∧ ts = [] ∧ p = 1 ∧ q = 1 ∧ c = 2) ∨ (s.size ≤ 8192 ∧ ∃ ts' o, Sc 0 (lst s) 2 ts' o ∧ ((o = none ∧ ts = ts' ∧ p = 0 ∧ q = 0 ∧ c = 0) ∨ ∃ b e, o = some (b, e) ∧ ts = [] ∧ p = ((plc (lst s) b).1 : Nat) ∧ q = ((plc (lst s) b).2 : Nat) ∧ c = e))
def ScanTo (E : Nat) (s : ByteArray) (w : World) (e : Ending) (w' : World) : Prop :=
  ∃ v ts p q c, e = .returned (.tuple #[v, .agg #[.int .i64 p, .int .i64 q], .int .i64 c]) ∧ w'.ownsRow w.heap.size E 4 v ts.length (Tok.cells (lst s) ts) ∧ Is s ts p q c ∧ Below w.heap.size w w'
end Go.Proofs.Ytdkfamlnmjhcfaa
