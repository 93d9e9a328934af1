/- Part of the proof. -/
import Derived.Test.YtnadhplhnfpeaaaGreatDoorAZ
import Derived.Test.YtnadhplhnfpeaaaGreatDoorA38
import Derived.Deep.RegionHeldLaw
import Derived.Laws.OwnMore
namespace Go.Proofs.YtnadhplhnfpeaaaGreatDoor.Lx
open Go.RowKit Go.Sort
abbrev txt (l : List UInt8) : ByteArray := ⟨l.toArray⟩
theorem lst_txt (l : List UInt8) : lst (txt l) = l := rfl
theorem extract_txt (s : ByteArray) (a b : Nat) : s.extract a b = txt (((lst s).drop a).take (b - a)) := by
 apply ByteArray.ext
 rw [ByteArray.data_extract]
 apply Array.ext'
 rw [Array.toList_extract, List.extract_eq_take_drop]
def Tok.enc (l : List UInt8) (t : Tok) : List Value := [.int .i64 (t.kind : Int), .string (txt t.s), .int .i64 ((plc l t.at_).1 : Nat), .int .i64 ((plc l t.at_).2 : Nat)]
def Tok.cells (l : List UInt8) (ts : List Tok) : List Value := ts.flatMap (Tok.enc l)
theorem Tok.cells_app (l : List UInt8) (ts : List Tok) (t : Tok) : Tok.cells l (ts ++ [t]) = Tok.cells l ts ++ Tok.enc l t := by simp [Tok.cells]
theorem infoR : (Tryz.prog.info? 84).map (fun i => (i.zero, i.size, i.bytes)) = some (some (.agg #[.int .i64 0, .string ⟨#[]⟩, .int .i64 0, .int .i64 0]), 4, 40) := by kernel_rfl
theorem info_partsR : ∃ i0 : TypeInfo, Tryz.prog.info? 84 = some i0 ∧ i0.zero = some (.agg #[.int .i64 0, .string ⟨#[]⟩, .int .i64 0, .int .i64 0]) ∧ i0.size = 4 ∧ i0.bytes = 40 := by
 have h := infoR
 cases hi : Tryz.prog.info? 84 with
 | none => rw [hi] at h; cases h
 | some i0 =>
  rw [hi] at h
  simp only [Option.map_some, Option.some.injEq, Prod.mk.injEq] at h
  exact ⟨i0, rfl, h.1, h.2.1, h.2.2⟩
theorem infoL : (Tryz.prog.info? 95).map (fun i => (i.zero, i.size, i.bytes)) = some (some (.agg #[.int .i64 0, .string ⟨#[]⟩, .int .i64 0, .int .i64 0]), 4, 40) := by kernel_rfl
theorem info_partsL : ∃ i0 : TypeInfo, Tryz.prog.info? 95 = some i0 ∧ i0.zero = some (.agg #[.int .i64 0, .string ⟨#[]⟩, .int .i64 0, .int .i64 0]) ∧ i0.size = 4 ∧ i0.bytes = 40 := by
 have h := infoL
 cases hi : Tryz.prog.info? 95 with
 | none => rw [hi] at h; cases h
 | some i0 =>
  rw [hi] at h
  simp only [Option.map_some, Option.some.injEq, Prod.mk.injEq] at h
  exact ⟨i0, rfl, h.1, h.2.1, h.2.2⟩
theorem enc_reads {w : World} {g E : Nat} {l : List UInt8} {t : Tok} (hc : w.heap[g]? = some (.cells #[.int .i64 (t.kind : Int), .string (txt t.s), .int .i64 ((plc l t.at_).1 : Nat), .int .i64 ((plc l t.at_).2 : Nat)] E (0, 0))) (j : Nat) (u : Value) (hu : (Tok.enc l t)[j]? = some u) : w.cell? ((⟨g, 0, none⟩ : Addr).add j) = some u := by
 match j, hu with
 | 0, hu => simp [Tok.enc] at hu; subst hu; simp [Addr.add, World.cell?, hc]
 | 1, hu => simp [Tok.enc] at hu; subst hu; simp [Addr.add, World.cell?, hc]
 | 2, hu => simp [Tok.enc] at hu; subst hu; simp [Addr.add, World.cell?, hc]
 | 3, hu => simp [Tok.enc] at hu; subst hu; simp [Addr.add, World.cell?, hc]
 | j + 4, hu => simp [Tok.enc] at hu
theorem enc_one {l : List UInt8} {t : Tok} (u : Value) (hu : u ∈ Tok.enc l t) : u.oneCell' = true := by
 simp [Tok.enc] at hu
 rcases hu with rfl | rfl | rfl | rfl <;> rfl
theorem app_tokR {w : World} {o : Oper} {a : Act} {K : Act → World → Prop} {Q : Exit → Act → World → Prop} (s x : Operand)
    (ho : o.op = .call { callee := .builtin .append, args := #[s, x], argTypes := #[40, 40] }) (B : Nat) (v : Value) (l : List UInt8) (xs : List Tok) (hs : a.eval s = v) (hown : w.ownsRow B 84 4 v xs.length (Tok.cells l xs))
    (t : Tok) (g c : Nat) (hx : a.eval x = .slice (some ⟨g, 0, none⟩) 1 c) (hc : w.heap[g]? = some (.cells #[.int .i64 (t.kind : Int), .string (txt t.s), .int .i64 ((plc l t.at_).1 : Nat), .int .i64 ((plc l t.at_).2 : Nat)] 84 (0, 0))) (hn : xs.length ≤ 100000) (hB : B ≤ w.heap.size)
    (h : ∀ v' w', w'.ownsRow B 84 4 v' (xs ++ [t]).length (Tok.cells l (xs ++ [t])) → w.grownBy w' v.ownBlock → K (a.put o.dst v') w') : Oper.wp Tryz.prog o a w K Q := by
  obtain ⟨i0, hi, hz0, hz1, hz2⟩ := info_partsR
  refine wp_append_own w s x 40 ho B 84 i0 _ 4 40 Tryz.underlying40 hi hz0 hz1 hz2 rfl (by decide) v xs.length (Tok.cells l xs) hs hown ⟨g, 0, none⟩ 1 c (Tok.enc l t) hx rfl (enc_reads hc) enc_one (by unfold maxLen; omega) (by omega) hB ?_
  intro v' w' ho' hg _
  refine h v' w' ?_ hg
  rw [List.length_append, Tok.cells_app]
  exact ho'
theorem app_tokL {w : World} {o : Oper} {a : Act} {K : Act → World → Prop} {Q : Exit → Act → World → Prop} (s x : Operand)
    (ho : o.op = .call { callee := .builtin .append, args := #[s, x], argTypes := #[56, 56] }) (B : Nat) (v : Value) (l : List UInt8) (xs : List Tok) (hs : a.eval s = v) (hown : w.ownsRow B 95 4 v xs.length (Tok.cells l xs))
    (t : Tok) (g c : Nat) (hx : a.eval x = .slice (some ⟨g, 0, none⟩) 1 c) (hc : w.heap[g]? = some (.cells #[.int .i64 (t.kind : Int), .string (txt t.s), .int .i64 ((plc l t.at_).1 : Nat), .int .i64 ((plc l t.at_).2 : Nat)] 95 (0, 0))) (hn : xs.length ≤ 100000) (hB : B ≤ w.heap.size)
    (h : ∀ v' w', w'.ownsRow B 95 4 v' (xs ++ [t]).length (Tok.cells l (xs ++ [t])) → w.grownBy w' v.ownBlock → K (a.put o.dst v') w') : Oper.wp Tryz.prog o a w K Q := by
  obtain ⟨i0, hi, hz0, hz1, hz2⟩ := info_partsL
  refine wp_append_own w s x 56 ho B 95 i0 _ 4 40 Tryz.underlying56 hi hz0 hz1 hz2 rfl (by decide) v xs.length (Tok.cells l xs) hs hown ⟨g, 0, none⟩ 1 c (Tok.enc l t) hx rfl (enc_reads hc) enc_one (by unfold maxLen; omega) (by omega) hB ?_
  intro v' w' ho' hg _
  refine h v' w' ?_ hg
  rw [List.length_append, Tok.cells_app]
  exact ho'
def Inv (l : List UInt8) (k : Nat) (f : Nat) (acc : List Tok) : Prop := ∀ ts o, Sc k (l.drop k) f ts o → Sc 0 l 2 (acc ++ ts) o
theorem Inv.start (l : List UInt8) : Inv l 0 2 [] := fun ts o h => by simpa using h
theorem drop_ne {l : List UInt8} {k : Nat} (h : k < l.length) : l.drop k ≠ [] := fun e => by have := congrArg List.length e; simp at this; omega
theorem Inv.go {l : List UInt8} {k n : Nat} {f f' : Nat} {acc : List Tok} {t : Option (Nat × List UInt8)} (h : Inv l k f acc) (hk : k < l.length) (hs : stp (l.drop k) f = .go n f' t) : Inv l (k + n) f' (acc ++ tokOf k t) := by
 intro ts o hsc
 rw [List.append_assoc]
 exact h _ _ (.more (drop_ne hk) hs (by rw [List.drop_drop]; exact hsc))
theorem Inv.fault {l : List UInt8} {k n : Nat} {f : Nat} {acc : List Tok} {e : Int} (h : Inv l k f acc) (hk : k < l.length) (hs : stp (l.drop k) f = .fault n e) : Sc 0 l 2 acc (some (k + n, e)) := by
 have := h _ _ (.bad (drop_ne hk) hs)
 rwa [List.append_nil] at this
theorem Inv.stop {l : List UInt8} {k : Nat} {f : Nat} {acc : List Tok} (h : Inv l k f acc) (hk : l.length ≤ k) : Sc 0 l 2 acc none := by
 have := h [] none (by rw [List.drop_of_length_le hk]; exact .nil _ _)
 rwa [List.append_nil] at this
theorem stp_blk {l : List UInt8} {k : Nat} {f : Nat} (h : k < l.length) (hb : blk l[k] = true) : stp (l.drop k) f = .go 1 2 none := by
 rw [List.drop_eq_getElem_cons h]
 simp only [stp]
 rw [if_pos hb]
theorem stp_rmk {l : List UInt8} {k : Nat} {f : Nat} (h : k < l.length) (hb : blk l[k] = false) (hc : l[k].toNat = 35) : stp (l.drop k) f = .go (tw rmk l k) 2 none := by
 unfold tw
 rw [List.drop_eq_getElem_cons h]
 simp only [stp]
 rw [if_neg (by rw [hb]; decide), if_pos hc]
theorem stp_bgn {l : List UInt8} {k : Nat} {f : Nat} (h : k < l.length) (hb : blk l[k] = false) (hc : ¬ l[k].toNat = 35) : stp (l.drop k) f = bgn (l.drop k) f := by
 rw [List.drop_eq_getElem_cons h]
 simp only [stp]
 rw [if_neg (by rw [hb]; decide), if_neg hc]
theorem bgn_go {l : List UInt8} {f n f' : Nat} {t : Option (Nat × List UInt8)} (h : bgn l f = .go n f' t) : ∃ s, t = some (f', s) := by
 cases l with
 | nil => cases h
 | cons c r =>
  simp only [bgn] at h
  split at h
  ·
   cases h; exact ⟨_, rfl⟩
  split at h
  ·
   obtain ⟨s, _, _, _, _, _, rfl, rfl, _⟩ := quo_go h
   exact ⟨s, rfl⟩
  split at h
  ·
   unfold wrd at h
   split at h
   ·
    cases h
   cases h; exact ⟨_, rfl⟩
  cases h
theorem quo_fault {r : List UInt8} {n : Nat} {e : Int} (h : quo r = .fault n e) : e ≠ 0 ∧ n ≤ r.length ∧ 0 ≤ e ∧ e ≤ 12 := by
 unfold quo at h
 have h1 := takeWhile_le inq r
 have h2 := takeWhile_le txc (r.takeWhile inq)
 split at h
 ·
  cases h; exact ⟨by decide, by omega, by decide, by decide⟩
 split at h
 ·
  cases h; exact ⟨by decide, by omega, by decide, by decide⟩
 split at h
 ·
  cases h; exact ⟨by decide, by omega, by decide, by decide⟩
 split at h
 ·
  cases h; exact ⟨by decide, by omega, by decide, by decide⟩
 cases h
theorem bgn_fault {l : List UInt8} {f n : Nat} {e : Int} (h : bgn l f = .fault n e) : e ≠ 0 ∧ n ≤ l.length ∧ 0 ≤ e ∧ e ≤ 12 := by
 cases l with
 | nil => cases h; exact ⟨by decide, by omega, by decide, by decide⟩
 | cons c r =>
  simp only [bgn] at h
  split at h
  ·
   cases h
  split at h
  ·
   have := quo_fault h
   rw [List.length_cons]
   exact ⟨this.1, by omega, this.2.2⟩
  split at h
  ·
   unfold wrd at h
   split at h
   ·
    cases h; exact ⟨by decide, by omega, by decide, by decide⟩
   cases h
  cases h; exact ⟨by decide, by omega, by decide, by decide⟩
def Is (s : ByteArray) (ts : List Tok) (p q c : Int) : Prop :=
  (8192 < s.size ∧ ts = [] ∧ p = 1 ∧ q = 1 ∧ c = 2) ∨ (s.size ≤ 8192 ∧ ∃ ts' o, Sc 0 (lst s) 2 ts' o ∧ ((o = none ∧ ts = ts' ∧ p = 0 ∧ q = 0 ∧ c = 0) ∨ ∃ b e, o = some (b, e) ∧ ts = [] ∧ p = ((plc (lst s) b).1 : Nat) ∧ q = ((plc (lst s) b).2 : Nat) ∧ c = e))
def ScanTo (E : Nat) (s : ByteArray) (w : World) (e : Ending) (w' : World) : Prop :=
  ∃ v ts p q c, e = .returned (.tuple #[v, .agg #[.int .i64 p, .int .i64 q], .int .i64 c]) ∧ w'.ownsRow w.heap.size E 4 v ts.length (Tok.cells (lst s) ts) ∧ Is s ts p q c ∧ Below w.heap.size w w'
structure Tv where
  k : Int
  s : ByteArray
  p : Int
  q : Int
def Tok.tv (l : List UInt8) (t : Tok) : Tv := ⟨(t.kind : Int), txt t.s, ((plc l t.at_).1 : Nat), ((plc l t.at_).2 : Nat)⟩
def Tv.at_ (w : World) (b off : Nat) (x : Tv) : Prop := w.cell? ⟨b, off, none⟩ = some (.int .i64 x.k) ∧ w.cell? ⟨b, off + 1, none⟩ = some (.string x.s) ∧ w.cell? ⟨b, off + 2, none⟩ = some (.int .i64 x.p) ∧ w.cell? ⟨b, off + 3, none⟩ = some (.int .i64 x.q)
def Tv.slot (w : World) (ao : Option Addr) (l : List Tv) : Prop := l = [] ∨ ∃ b off, ao = some ⟨b, off, none⟩ ∧ ∀ j (h : j < l.length), Tv.at_ w b (off + j * 4) l[j]
theorem Tv.slot_below {w w' : World} {ao : Option Addr} {l : List Tv} (h : Tv.slot w ao l) (hb : Below w.heap.size w w') : Tv.slot w' ao l := by
 rcases h with h | ⟨b, off, h, hr⟩
 ·
  exact .inl h
 refine .inr ⟨b, off, h, fun j hj => ?_⟩
 have hlt := World.block_lt_of_cell? w _ (hr j hj).1
 have k : ∀ o, w'.cell? ⟨b, o, none⟩ = w.cell? ⟨b, o, none⟩ := fun o => hb.cell (p := ⟨b, o, none⟩) hlt
 unfold Tv.at_
 simp only [k]
 exact hr j hj
def Tv.own (t : Tv) : List UInt8 := if t.k = 2 then lst t.s ++ [10] else if t.k = 1 then [34] ++ lst t.s ++ [34] else lst t.s
def Tv.piece (t : Tv) (more : Bool) : List UInt8 := if t.k = 2 then t.own else if more then t.own ++ [32] else t.own
def join : List Tv → List UInt8
  | [] => []
  | t :: r => t.piece (!r.isEmpty) ++ join r
theorem join_drop {l : List Tv} {i : Nat} (h : i < l.length) : join (l.drop i) = l[i].piece (decide (i + 1 < l.length)) ++ join (l.drop (i + 1)) := by
 rw [List.drop_eq_getElem_cons h, join]
 congr 2
 by_cases h' : i + 1 < l.length
 ·
  rw [decide_eq_true h']
  cases hd : l.drop (i + 1) with
  | nil => have := congrArg List.length hd; simp at this; omega
  | cons a r => rfl
 rw [decide_eq_false h', List.drop_of_length_le (by omega)]
 rfl
theorem lst_append (a b : ByteArray) : lst (a ++ b) = lst a ++ lst b := by simp [lst]
theorem one_size (c : UInt8) : (ByteArray.mk #[c]).size = 1 := rfl
theorem str_ret {a b : ByteArray} (h : lst a = lst b) : Ending.returned (.string a) = .returned (.string b) := by
 rw [show a = b from ByteArray.ext (Array.ext' h)]
set_option maxHeartbeats 1000000 in
set_option maxRecDepth 100000 in
theorem refJoin_is (ao : Option Addr) (c : Nat) (l : List Tv) (hl : l.length ≤ 100000) (hz : ∀ t ∈ l, t.s.size ≤ 100000) (w : World) (hr : Tv.slot w ao l) :
    Calls Tryz.prog 14 #[.slice ao l.length c] w fun e w' => e = .returned (.string (txt (join l))) ∧ w = w' := by
 have HR := hide hr
 have HZ := hide hz
 clear hr hz
 obtain ⟨N, hN⟩ : ∃ N, l.length = N := ⟨_, rfl⟩
 have HN := hide hN
 rw [hN] at hl ⊢
 clear hN
 go_enter Tryz.func14, Tryz.ntmps14
 go_wp2_with fail
 go_loopw [3, 4] (fun v3 v4 wr => ∃ (i : Nat) (x : ByteArray), v4 = .int .i64 (i : Int) ∧ v3 = .string x ∧ i ≤ N ∧ x.size ≤ i * 100010 ∧ Hid (lst x ++ join (l.drop i) = join l) ∧ w = wr) (fun _ v4 _ => N - (intOf v4).toNat)
 case atStart => exact ⟨0, _, rfl, rfl, Nat.zero_le _, Nat.zero_le _, rfl, rfl⟩
 case round =>
  obtain ⟨i, x, rfl, rfl, hi, hxz, HX, rfl⟩ := hrel
  rcases Nat.lt_or_ge i N with hlt | hge
  ·
   have hil : i < l.length := by have := HN.out; omega
   have h1 : (i : Int) < (N : Int) := by omega
   have HD := hide (join_drop hil)
   obtain ⟨b, off, rfl, hat⟩ : ∃ b off, ao = some ⟨b, off, none⟩ ∧ ∀ j (h : j < l.length), Tv.at_ w b (off + j * 4) l[j] := by
    rcases HR.out with h | h
    ·
     rw [h] at hil; simp at hil
    exact h
   obtain ⟨c0, c1, _, _⟩ := hat i hil
   clear hat
   have htz := HZ.out l[i] (List.getElem_mem hil)
   have HL : Hid (decide (i + 1 < l.length) = decide (i + 1 < N)) := by show _ = _; rw [HN.out]
   generalize l[i] = t at *
   obtain ⟨tk, tt, tp, tq⟩ := t
   simp only at c0 c1 htz
   by_cases k2 : tk = 2
   ·
    subst k2
    have HE : Hid (lst (x ++ tt ++ ⟨#[10]⟩) ++ join (l.drop (i + 1)) = join l) := by
     show _ = _
     rw [← HX.out, HD.out, lst_append, lst_append]
     simp [Tv.piece, Tv.own, lst]
    clear HX HD
    have hov1 : ¬ 9223372036854775807 < x.size + tt.size + 1 := by omega
    have hov0 : ¬ 9223372036854775807 < x.size + tt.size := by omega
    have hov2 : ¬ 9223372036854775807 < x.size + 1 + tt.size := by omega
    have hov3 : ¬ 9223372036854775807 < x.size + 1 + tt.size + 1 := by omega
    have hov4 : ¬ 9223372036854775807 < x.size + 1 + tt.size + 1 + 1 := by omega
    have hov5 : ¬ 9223372036854775807 < x.size + 1 := by omega
    go_wp2_with fail
    exact ⟨⟨i + 1, _, by go_num, rfl, by omega, by simp only [ByteArray.size_append, one_size]; omega, HE, trivial⟩, by simp [intOf]; omega⟩
   have b2 : (tk == 2) = false := by rw [beq_eq_false_iff_ne]; exact k2
   by_cases k1 : tk = 1
   ·
    subst k1
    by_cases hm : i + 1 < N
    focus
     have HE : Hid (lst (x ++ ⟨#[34]⟩ ++ tt ++ ⟨#[34]⟩ ++ ⟨#[32]⟩) ++ join (l.drop (i + 1)) = join l) := by
      show _ = _
      rw [← HX.out, HD.out, HL.out, decide_eq_true hm]
      simp [Tv.piece, Tv.own, lst]
     have hm' : (i : Int) < (N : Int) - 1 := by omega
    rotate_left
    focus
     have HE : Hid (lst (x ++ ⟨#[34]⟩ ++ tt ++ ⟨#[34]⟩) ++ join (l.drop (i + 1)) = join l) := by
      show _ = _
      rw [← HX.out, HD.out, HL.out, decide_eq_false hm]
      simp [Tv.piece, Tv.own, lst]
     have hm' : ¬ (i : Int) < (N : Int) - 1 := by omega
    all_goals
     clear HX HD
     have hov1 : ¬ 9223372036854775807 < x.size + tt.size + 1 := by omega
     have hov0 : ¬ 9223372036854775807 < x.size + tt.size := by omega
     have hov2 : ¬ 9223372036854775807 < x.size + 1 + tt.size := by omega
     have hov3 : ¬ 9223372036854775807 < x.size + 1 + tt.size + 1 := by omega
     have hov4 : ¬ 9223372036854775807 < x.size + 1 + tt.size + 1 + 1 := by omega
     have hov5 : ¬ 9223372036854775807 < x.size + 1 := by omega
     go_wp2_with fail
     exact ⟨⟨i + 1, _, by go_num, rfl, by omega, by simp only [ByteArray.size_append, one_size]; omega, HE, trivial⟩, by simp [intOf]; omega⟩
   have b1 : (tk == 1) = false := by rw [beq_eq_false_iff_ne]; exact k1
   by_cases hm : i + 1 < N
   ·
    have HE : Hid (lst (x ++ tt ++ ⟨#[32]⟩) ++ join (l.drop (i + 1)) = join l) := by
     show _ = _
     rw [← HX.out, HD.out, HL.out, decide_eq_true hm]
     simp [Tv.piece, Tv.own, lst, k1, k2]
    have hm' : (i : Int) < (N : Int) - 1 := by omega
    clear HX HD
    have hov1 : ¬ 9223372036854775807 < x.size + tt.size + 1 := by omega
    have hov0 : ¬ 9223372036854775807 < x.size + tt.size := by omega
    have hov2 : ¬ 9223372036854775807 < x.size + 1 + tt.size := by omega
    have hov3 : ¬ 9223372036854775807 < x.size + 1 + tt.size + 1 := by omega
    have hov4 : ¬ 9223372036854775807 < x.size + 1 + tt.size + 1 + 1 := by omega
    have hov5 : ¬ 9223372036854775807 < x.size + 1 := by omega
    go_wp2_with fail
    exact ⟨⟨i + 1, _, by go_num, rfl, by omega, by simp only [ByteArray.size_append, one_size]; omega, HE, trivial⟩, by simp [intOf]; omega⟩
   have HE : Hid (lst (x ++ tt) ++ join (l.drop (i + 1)) = join l) := by
    show _ = _
    rw [← HX.out, HD.out, HL.out, decide_eq_false hm]
    simp [Tv.piece, Tv.own, lst, k1, k2]
   have hm' : ¬ (i : Int) < (N : Int) - 1 := by omega
   clear HX HD
   have hov1 : ¬ 9223372036854775807 < x.size + tt.size + 1 := by omega
   have hov0 : ¬ 9223372036854775807 < x.size + tt.size := by omega
   have hov2 : ¬ 9223372036854775807 < x.size + 1 + tt.size := by omega
   have hov3 : ¬ 9223372036854775807 < x.size + 1 + tt.size + 1 := by omega
   have hov4 : ¬ 9223372036854775807 < x.size + 1 + tt.size + 1 + 1 := by omega
   have hov5 : ¬ 9223372036854775807 < x.size + 1 := by omega
   go_wp2_with fail
   exact ⟨⟨i + 1, _, by go_num, rfl, by omega, by simp only [ByteArray.size_append]; omega, HE, trivial⟩, by simp [intOf]; omega⟩
  obtain rfl : i = N := by omega
  have h1 : ¬ (i : Int) < (i : Int) := by omega
  have HE : Hid (lst x = join l) := by
   show _ = _
   rw [← HX.out, List.drop_of_length_le (by have := HN.out; omega)]
   simp [join]
  clear HX
  go_wp2_with fail
  go_ret
  exact ⟨str_ret HE.out, rfl⟩
def Good (k : Nat) (s : List UInt8) : Prop := (k = 0 ∧ s ≠ [] ∧ (∀ c ∈ s, ltr c = true) ∧ s.length ≤ 32) ∨ (k = 1 ∧ (∀ c ∈ s, txc c = true) ∧ s.length ≤ 64) ∨ (k = 2 ∧ ∃ c, s = [c] ∧ mrk c = true)
def wr (k : Nat) (s : List UInt8) : List UInt8 := if k = 1 then [34] ++ s ++ [34] else s
theorem take_takeWhile (p : UInt8 → Bool) (l : List UInt8) : l.take (l.takeWhile p).length = l.takeWhile p := (List.prefix_iff_eq_take.1 (List.takeWhile_prefix p)).symm
theorem takeWhile_stop {p : UInt8 → Bool} {c : UInt8} (hc : p c = false) (l r : List UInt8) : (l ++ c :: r).takeWhile p = l.takeWhile p := by
 induction l with
 | nil => rw [List.nil_append, List.takeWhile_cons_of_neg (by rw [hc]; decide)]; rfl
 | cons a l ih =>
  rw [List.cons_append, List.takeWhile_cons, List.takeWhile_cons, ih]
theorem takeWhile_all {p : UInt8 → Bool} {l : List UInt8} (h : ∀ c ∈ l, p c = true) : l.takeWhile p = l := by
 induction l with
 | nil => rfl
 | cons a l ih => rw [List.takeWhile_cons_of_pos (h a (List.mem_cons_self ..)), ih (fun c hc => h c (List.mem_cons_of_mem _ hc))]
theorem ltr_facts {c : UInt8} (h : ltr c = true) : blk c = false ∧ ¬ c.toNat = 35 ∧ mrk c = false ∧ ¬ c.toNat = 34 := by
 unfold ltr at h
 unfold blk mrk
 simp only [Bool.or_eq_true, decide_eq_true_eq, Bool.or_eq_false_iff, decide_eq_false_iff_not] at *
 omega
theorem mrk_facts {c : UInt8} (h : mrk c = true) : blk c = false ∧ ¬ c.toNat = 35 := by
 unfold mrk at h
 unfold blk
 simp only [Bool.or_eq_true, decide_eq_true_eq, Bool.or_eq_false_iff, decide_eq_false_iff_not] at *
 omega
theorem txc_inq {c : UInt8} (h : txc c = true) : inq c = true := by
 unfold txc at h
 unfold inq
 simp only [Bool.and_eq_true, decide_eq_true_eq] at *
 omega
theorem stp_good {r : List UInt8} {f f' : Nat} {n k : Nat} {s : List UInt8} (h : stp r f = .go n f' (some (k, s))) : Good k s ∧ r.take n = wr k s ∧ n = (wr k s).length := by
 cases r with
 | nil => simp [stp] at h
 | cons c r =>
  simp only [stp, bgn] at h
  split at h
  ·
   simp at h
  split at h
  ·
   simp at h
  split at h
  ·
   rename_i hm
   simp at h
   obtain ⟨rfl, _, rfl, rfl⟩ := h
   exact ⟨.inr (.inr ⟨rfl, c, rfl, hm⟩), rfl, rfl⟩
  split at h
  ·
   rename_i h34
   obtain ⟨s', q, rfl, ht, h64, rfl, _, hk, _⟩ := quo_go h
   cases hk
   have ec : c = 34 := UInt8.toNat_inj.1 h34.1
   refine ⟨.inr (.inl ⟨rfl, ht, h64⟩), ?_, by simp [wr]⟩
   rw [List.take_succ_cons, ec, List.take_append]
   simp [wr]
   exact List.take_of_length_le (Nat.le_succ _)
  split at h
  ·
   rename_i hl
   unfold wrd at h
   split at h
   ·
    cases h
   rename_i h32
   simp at h
   obtain ⟨rfl, _, rfl, rfl⟩ := h
   refine ⟨.inl ⟨rfl, ?_, mem_takeWhile, by omega⟩, take_takeWhile _ _, rfl⟩
   rw [List.takeWhile_cons_of_pos hl.1]
   simp
  cases h
theorem good_stp {k : Nat} {s q : List UInt8} (h : Good k s) (hq : k = 0 → ∀ c r, q = c :: r → ltr c = false) : stp (wr k s ++ q) 2 = .go (wr k s).length k (some (k, s)) := by
 rcases h with ⟨rfl, hs, hl, hz⟩ | ⟨rfl, hl, hz⟩ | ⟨rfl, c, rfl, hm⟩
 ·
  cases s with
  | nil => exact absurd rfl hs
  | cons c s =>
   have hlc := hl c (List.mem_cons_self ..)
   obtain ⟨h1, h2, h3, h4⟩ := ltr_facts hlc
   have ht : (c :: (s ++ q)).takeWhile ltr = c :: s := by
    rw [← List.cons_append]
    cases q with
    | nil => rw [List.append_nil]; exact takeWhile_all hl
    | cons d q => rw [takeWhile_stop (hq rfl d q rfl)]; exact takeWhile_all hl
   show stp (c :: (s ++ q)) 2 = _
   simp only [stp, bgn]
   rw [if_neg (by rw [h1]; decide), if_neg h2, if_neg (by rw [h3]; decide), if_neg (fun h => h4 h.1), if_pos ⟨hlc, by decide⟩, wrd, ht, if_neg (by omega)]
   rfl
 ·
  have ht : (s ++ [34] ++ q).takeWhile inq = s := by
   rw [List.append_assoc, List.singleton_append, takeWhile_stop (by decide)]
   exact takeWhile_all (fun c hc => txc_inq (hl c hc))
  show stp (34 :: (s ++ [34] ++ q)) 2 = _
  simp only [stp, bgn]
  rw [if_neg (by decide), if_neg (by decide), if_neg (by decide), if_pos (by decide), quo, ht, List.append_assoc, List.drop_left]
  simp only [List.singleton_append]
  rw [if_neg (by decide), if_neg (by omega), takeWhile_all hl, if_neg (by omega)]
  simp [wr]
 obtain ⟨h1, h2⟩ := mrk_facts hm
 show stp (c :: q) 2 = _
 simp only [stp, bgn]
 rw [if_neg (by rw [h1]; decide), if_neg h2, if_pos hm]
 rfl
theorem Sc.good {b : Nat} {r : List UInt8} {f : Nat} {ts : List Tok} {o : Option (Nat × Int)} (h : Sc b r f ts o) : ∀ t ∈ ts, Good t.kind t.s := by
 induction h with
 | nil => intro t ht; simp at ht
 | bad => intro t ht; simp at ht
 | @more b r f f' n t ts o hr hs _ ih =>
  intro t' ht'
  rcases List.mem_append.1 ht' with h | h
  ·
   cases t with
   | none => simp [tokOf] at h
   | some x =>
    obtain ⟨k, s⟩ := x
    simp [tokOf] at h
    subst h
    exact (stp_good hs).1
  exact ih t' h
theorem Sc.count {b : Nat} {r : List UInt8} {f : Nat} {ts : List Tok} {o : Option (Nat × Int)} (h : Sc b r f ts o) : ts.length ≤ r.length := by
 induction h with
 | nil => simp
 | bad => simp
 | @more b r f f' n t ts o hr hs _ ih =>
  have := stp_pos hr hs
  rw [List.length_drop] at ih
  rw [List.length_append]
  have : (tokOf b t).length ≤ 1 := by cases t <;> simp [tokOf]
  omega
def Tok.bare (t : Tok) : Nat × List UInt8 := (t.kind, t.s)
def jn : List (Nat × List UInt8) → List UInt8
  | [] => []
  | (k, s) :: r => wr k s ++ (if k = 2 then [10] else if r.isEmpty then [] else [32]) ++ jn r
theorem join_jn (l : List UInt8) (ts : List Tok) : join (ts.map (Tok.tv l)) = jn (ts.map Tok.bare) := by
 induction ts with
 | nil => rfl
 | cons t ts ih =>
  rw [List.map_cons, List.map_cons, join, ih]
  show _ = wr t.kind t.s ++ _ ++ _
  congr 1
  have e2 : ((t.kind : Int) = 2) ↔ t.kind = 2 := by omega
  have e1 : ((t.kind : Int) = 1) ↔ t.kind = 1 := by omega
  unfold Tv.piece Tv.own Tok.tv wr
  simp only [e1, e2, List.isEmpty_map]
  by_cases h2 : t.kind = 2
  ·
   simp [h2, lst]
  by_cases h1 : t.kind = 1
  ·
   cases ts <;> simp [h1, lst]
  cases ts <;> simp [h1, h2, lst]
theorem jn_scan : ∀ (l : List (Nat × List UInt8)), (∀ t ∈ l, Good t.1 t.2) → ∀ b, ∃ ts, Sc b (jn l) 2 ts none ∧ ts.map Tok.bare = l
  | [], _, b => ⟨[], .nil _ _, rfl⟩
  | (k, s) :: r, hg, b => by
    have hgood := hg (k, s) (List.mem_cons_self ..)
    have hr : ∀ t ∈ r, Good t.1 t.2 := fun t ht => hg t (List.mem_cons_of_mem _ ht)
    have hw : wr k s ≠ [] := by
      rcases hgood with ⟨h, hs, _⟩ | ⟨h, _⟩ | ⟨h, c, hs, _⟩
      · simp only at h hs; subst h; simpa [wr] using hs
      · simp only at h; subst h; simp [wr]
      · simp only at h hs; subst h; rw [hs]; simp [wr]
    by_cases hlast : k ≠ 2 ∧ r = []
    · obtain ⟨h2, rfl⟩ := hlast
      refine ⟨[⟨k, s, b⟩], ?_, rfl⟩
      have e : jn [(k, s)] = wr k s ++ [] := by simp [jn, h2]
      rw [e]
      have h := good_stp (q := []) hgood (by intro _ c r h; cases h)
      have hm := Sc.more (b := b) (ts := []) (o := none) (by simpa using hw) h (by rw [List.append_nil, List.drop_length]; exact .nil _ _)
      simpa [tokOf] using hm
    · obtain ⟨c, hc, e⟩ : ∃ c : UInt8, blk c = true ∧ jn ((k, s) :: r) = wr k s ++ c :: jn r := by
        by_cases h2 : k = 2
        · exact ⟨10, by decide, by simp [jn, h2]⟩
        · refine ⟨32, by decide, ?_⟩
          cases r with
          | nil => exact absurd ⟨h2, rfl⟩ hlast
          | cons a r => simp [jn, h2]
      obtain ⟨ts, h1, h2⟩ := jn_scan r hr (b + (wr k s).length + 1)
      refine ⟨⟨k, s, b⟩ :: ts, ?_, by rw [List.map_cons, h2]; rfl⟩
      rw [e]
      have hcl : ltr c = false := by
        cases hl : ltr c
        · rfl
        · rw [(ltr_facts hl).1] at hc; cases hc
      have hs := good_stp (q := c :: jn r) hgood (by intro _ c' r' h; cases h; exact hcl)
      refine Sc.more (b := b) (t := some (k, s)) (by simp) hs ?_
      rw [List.drop_left]
      have hb : ∀ f, stp (c :: jn r) f = .go 1 2 none := fun f => by simp only [stp]; rw [if_pos hc]
      exact Sc.more (t := none) (by simp) (hb _) h1
def Tv.enc (t : Tv) : List Value := [.int .i64 t.k, .string t.s, .int .i64 t.p, .int .i64 t.q]
def Tv.cells (l : List Tv) : List Value := l.flatMap Tv.enc
theorem Tok.cells_tv (l : List UInt8) (ts : List Tok) : Tok.cells l ts = Tv.cells (ts.map (Tok.tv l)) := by
 induction ts with
 | nil => rfl
 | cons t ts ih =>
  show Tok.enc l t ++ Tok.cells l ts = _
  rw [ih]
  rfl
theorem Tv.cells_get (l : List Tv) (j i : Nat) (h : j < l.length) (hi : i < 4) : (Tv.cells l)[j * 4 + i]? = (Tv.enc l[j])[i]? := by
 induction l generalizing j with
 | nil => simp at h
 | cons t l ih =>
  show (Tv.enc t ++ Tv.cells l)[j * 4 + i]? = _
  cases j with
  | zero => rw [Nat.zero_mul, Nat.zero_add, List.getElem?_append_left (by simpa [Tv.enc] using hi)]; rfl
  | succ j =>
   rw [List.getElem?_append_right (by simp [Tv.enc]; omega), show (j + 1) * 4 + i - (Tv.enc t).length = j * 4 + i by simp [Tv.enc]; omega]
   rw [ih j (by simpa using h)]
   rfl
theorem Tv.of_row {w : World} {B E : Nat} {v : Value} {l : List Tv} (h : w.ownsRow B E 4 v l.length (Tv.cells l)) : (l = [] ∧ ∃ c, v = .slice none 0 c ∨ ∃ g, v = .slice (some ⟨g, 0, none⟩) 0 c) ∨ ∃ g c, v = .slice (some ⟨g, 0, none⟩) l.length c ∧ B ≤ g ∧ ∀ j (h : j < l.length), Tv.at_ w g (j * 4) l[j] := by
 rcases h.2 with ⟨hv, h0⟩ | ⟨g, cap, cur, hv, hB, hg, r⟩
 ·
  exact .inl ⟨List.length_eq_zero_iff.1 h0, 0, .inl hv⟩
 refine .inr ⟨g, cap, hv, hB, fun j hj => ?_⟩
 rw [hv] at h
 have k : ∀ i, i < 4 → w.cell? ⟨g, j * 4 + i, none⟩ = (Tv.enc l[j])[i]? := fun i hi => by rw [h.cellAt _ (by omega), Tv.cells_get l j i hj hi]
 exact ⟨k 0 (by decide), k 1 (by decide), k 2 (by decide), k 3 (by decide)⟩
theorem Tv.slot_row {w : World} {B E : Nat} {v : Value} {l : List Tv} (h : w.ownsRow B E 4 v l.length (Tv.cells l)) : ∃ ao c, v = .slice ao l.length c ∧ Tv.slot w ao l := by
 rcases Tv.of_row h with ⟨hl, c, hv | ⟨g, hv⟩⟩ | ⟨g, c, hv, _, hr⟩
 ·
  exact ⟨none, c, by rw [hv, hl]; rfl, .inl hl⟩
 ·
  exact ⟨_, c, by rw [hv, hl]; rfl, .inl hl⟩
 exact ⟨_, c, hv, .inr ⟨g, 0, rfl, fun j hj => by rw [Nat.zero_add]; exact hr j hj⟩⟩
theorem Is.det {s : ByteArray} {ts ts' : List Tok} {p q c p' q' c' : Int} (h : Is s ts p q c) (h' : Is s ts' p' q' c') : ts = ts' ∧ p = p' ∧ q = q' ∧ c = c' := by
 rcases h with ⟨h8, rfl, rfl, rfl, rfl⟩ | ⟨h8, t1, o1, s1, r1⟩
 ·
  rcases h' with ⟨_, rfl, rfl, rfl, rfl⟩ | ⟨h8', _⟩
  ·
   exact ⟨rfl, rfl, rfl, rfl⟩
  omega
 rcases h' with ⟨h8', _⟩ | ⟨_, t2, o2, s2, r2⟩
 ·
  omega
 obtain ⟨rfl, rfl⟩ := s1.det s2
 rcases r1 with ⟨rfl, rfl, rfl, rfl, rfl⟩ | ⟨b, e, rfl, rfl, rfl, rfl, rfl⟩
 ·
  rcases r2 with ⟨_, rfl, rfl, rfl, rfl⟩ | ⟨b, e, h, _⟩
  ·
   exact ⟨rfl, rfl, rfl, rfl⟩
  cases h
 rcases r2 with ⟨h, _⟩ | ⟨b', e', h, rfl, rfl, rfl, rfl⟩
 ·
  cases h
 cases h; exact ⟨rfl, rfl, rfl, rfl⟩
theorem txt_size (l : List UInt8) : (txt l).size = l.length := by show l.toArray.size = _; simp
theorem stp_code {r : List UInt8} {f : Nat} {n : Nat} {e : Int} (h : stp r f = .fault n e) : e ≠ 0 := by
 cases r with
 | nil => simp [stp] at h
 | cons c r =>
  simp only [stp] at h
  split at h
  ·
   cases h
  split at h
  ·
   cases h
  exact (bgn_fault h).1
theorem Sc.code {b : Nat} {r : List UInt8} {f : Nat} {ts : List Tok} {o : Option (Nat × Int)} (h : Sc b r f ts o) : ∀ x e, o = some (x, e) → e ≠ 0 := by
 induction h with
 | nil => intro x e h; cases h
 | bad _ hs => intro x e h; cases h; exact stp_code hs
 | more _ _ _ ih => exact ih
theorem Is.ok {s : ByteArray} {ts : List Tok} {p q c : Int} (h : Is s ts p q c) (hc : c = 0) : s.size ≤ 8192 ∧ Sc 0 (lst s) 2 ts none ∧ p = 0 ∧ q = 0 := by
 rcases h with ⟨_, _, _, _, rfl⟩ | ⟨h8, ts', o, hs, ⟨rfl, rfl, rfl, rfl, _⟩ | ⟨b, e, rfl, _, _, _, rfl⟩⟩
 ·
  cases hc
 ·
  exact ⟨h8, hs, rfl, rfl⟩
 exact absurd hc (hs.code _ _ rfl)
theorem Is.of {s : ByteArray} {ts : List Tok} (h8 : s.size ≤ 8192) (h : Sc 0 (lst s) 2 ts none) : Is s ts 0 0 0 := .inr ⟨h8, ts, none, h, .inl ⟨rfl, rfl, rfl, rfl, rfl⟩⟩
theorem back {s : ByteArray} {ts : List Tok} (h : Sc 0 (lst s) 2 ts none) (h8 : (jn (ts.map Tok.bare)).length ≤ 8192) : ∃ ts2, Is (txt (jn (ts.map Tok.bare))) ts2 0 0 0 ∧ ts2.map Tok.bare = ts.map Tok.bare := by
 obtain ⟨ts2, h1, h2⟩ := jn_scan (ts.map Tok.bare) (by
   intro t ht
   obtain ⟨t', ht', rfl⟩ := List.mem_map.1 ht
   exact h.good t' ht') 0
 exact ⟨ts2, Is.of (by rw [txt_size]; exact h8) h1, h2⟩
theorem good_size {k : Nat} {s : List UInt8} (h : Good k s) : s.length ≤ 64 := by
 rcases h with ⟨_, _, _, h⟩ | ⟨_, _, h⟩ | ⟨_, c, rfl, _⟩
 ·
  omega
 ·
  exact h
 simp
theorem row_tv {w : World} {B E : Nat} {v : Value} {l : List UInt8} {ts : List Tok} (h : w.ownsRow B E 4 v ts.length (Tok.cells l ts)) : w.ownsRow B E 4 v (ts.map (Tok.tv l)).length (Tv.cells (ts.map (Tok.tv l))) := by
 rw [List.length_map, ← Tok.cells_tv]
 exact h
end Go.Proofs.YtnadhplhnfpeaaaGreatDoor.Lx
