/- Mathematics of the grammar: what is parsed behind a configuration. -/
import Derived.Test.YtpmmhmgojjlniaaGreatDoorO01
import Derived.WalkKit
import Derived.WalkSpells
import Derived.WalkLawsBesides
import Derived.Deep.QuietTactic
import Derived.BigQuiet
import Derived.Lib.QuietBelow
import Derived.Deep.Cut
import Derived.RegionTactic
import Derived.Laws.StructEq
import Derived.Sort.Grow
import Derived.Deep.RegionHeldLaw
import Derived.Deep.RegionHeld3
namespace Go.Proofs.YtpmmhmgojjlniaaGreatDoor

def Cf.app (c d : Cf) : Cf := ⟨c.lists ++ d.lists, c.maps ++ d.maps, c.routers ++ d.routers⟩
def Cf.nil : Cf := ⟨[], [], []⟩
theorem Cf.app_nil (c : Cf) : c.app .nil = c := by cases c; simp [Cf.app, Cf.nil]
theorem Cf.nil_app (c : Cf) : Cf.nil.app c = c := by cases c; simp [Cf.app, Cf.nil]
section
variable (F : Fn)
theorem new_other {α : Type} (body : ByteArray → Pg α) (old old' : List ByteArray) {en : Int × Int} {r : List Tv} {l : Int × Int} {y : α} {st : Sta} (h : ((pNew F old).bind body).run en r l = (some y, st)) : ((pNew F old').bind body).run en r l = (some y, st) ∨ ∃ p q, ((pNew F old').bind body).run en r l = (none, .bad p q 6) := by
  cases r with
  | nil => cases h
  | cons t r =>
    have h1 : (((pName F t.k t.s).bind fun x => if inB old t.s = true then Pg.fail 6 else .ret x).bind body).run en r (t.p, t.q) = (some y, st) := h
    have e1 : ((pNew F old').bind body).run en (t :: r) l = (((pName F t.k t.s).bind fun x => if inB old' t.s = true then Pg.fail 6 else .ret x).bind body).run en r (t.p, t.q) := rfl
    rw [e1]
    unfold pName chk at h1 ⊢
    by_cases hn : F.nam (wd t.k t.s) = 0
    · rw [if_pos hn] at h1 ⊢
      by_cases h2 : inB old' t.s = true
      · right
        refine ⟨t.p, t.q, ?_⟩
        simp only [Pg.bind]
        rw [if_pos h2]
        rfl
      · left
        rw [← h1]
        simp only [Pg.bind]
        rw [if_neg h2]
        by_cases h3 : inB old t.s = true
        · simp only [Pg.bind] at h1
          rw [if_pos h3] at h1
          cases h1
        · rw [if_neg h3]
    · rw [if_neg hn] at h1
      cases h1
theorem room_bind {α : Type} (n m : Nat) (h : Unit → Pg α) : (room n m).bind h = if m ≤ n then Pg.fail 2 else h () := by
  unfold room
  split <;> rfl
/-- One of a kind, in one row or in another. -/
theorem kind_other {α β : Type} (n n' most : Nat) (old old' : List ByteArray) (body : ByteArray → Pg α) (out out' : α → β) {en : Int × Int} {r : List Tv} {l : Int × Int} {y : β} {st : Sta}
    (h : ((room n most).bind fun _ => ((pNew F old).bind body).bind fun x => Pg.ret (out x)).run en r l = (some y, st)) :
    (∃ x, y = out x ∧ ((room n' most).bind fun _ => ((pNew F old').bind body).bind fun x => Pg.ret (out' x)).run en r l = (some (out' x), st)) ∨ ∃ p q, ((room n' most).bind fun _ => ((pNew F old').bind body).bind fun x => Pg.ret (out' x)).run en r l = (none, .bad p q 2) ∨ ((room n' most).bind fun _ => ((pNew F old').bind body).bind fun x => Pg.ret (out' x)).run en r l = (none, .bad p q 6) := by
  rw [room_bind] at h ⊢
  split at h
  · cases h
  · split
    · exact .inr ⟨_, _, .inl rfl⟩
    · rw [run_bind] at h ⊢
      cases hb : ((pNew F old).bind body).run en r l with
      | mk o st1 =>
        rw [hb] at h
        cases o with
        | none => cases h
        | some x =>
          obtain ⟨u, r', l', rfl, _⟩ := run_some _ _ _ _ hb
          cases h
          rcases new_other F body old old' hb with h2 | ⟨p, q, h2⟩
          · rw [h2]
            exact .inl ⟨x, rfl, rfl⟩
          · rw [h2]
            exact .inr ⟨p, q, .inr rfl⟩
/-- An item behind more. -/
theorem item_app (f : Nat) (c d : Cf) (k : Int) (s : ByteArray) {en : Int × Int} {r : List Tv} {l : Int × Int} {y : Cf} {st : Sta} (h : (pItem F f d k s).run en r l = (some y, st)) : (pItem F f (c.app d) k s).run en r l = (some (c.app y), st) ∨ ∃ p q, (pItem F f (c.app d) k s).run en r l = (none, .bad p q 2) ∨ (pItem F f (c.app d) k s).run en r l = (none, .bad p q 6) := by
  unfold pItem at h ⊢
  split at h
  · rename_i h1
    rw [if_pos h1]
    rcases kind_other F _ (c.app d).lists.length 16 _ ((c.app d).lists.map Ls.name) _ _ (fun x => (⟨(c.app d).lists ++ [x], (c.app d).maps, (c.app d).routers⟩ : Cf)) h with ⟨x, rfl, h2⟩ | h2
    · refine .inl (h2.trans ?_)
      simp only [Cf.app, List.append_assoc]
    · exact .inr h2
  · rename_i h1
    rw [if_neg h1]
    split at h
    · rename_i h1
      rw [if_pos h1]
      rcases kind_other F _ (c.app d).maps.length 16 _ ((c.app d).maps.map Mp.name) _ _ (fun x => (⟨(c.app d).lists, (c.app d).maps ++ [x], (c.app d).routers⟩ : Cf)) h with ⟨x, rfl, h2⟩ | h2
      · refine .inl (h2.trans ?_)
        simp only [Cf.app, List.append_assoc]
      · exact .inr h2
    · rename_i h1
      rw [if_neg h1]
      split at h
      · rename_i h1
        rw [if_pos h1]
        rcases kind_other F _ (c.app d).routers.length 8 _ ((c.app d).routers.map Rt.name) _ _ (fun x => (⟨(c.app d).lists, (c.app d).maps, (c.app d).routers ++ [x]⟩ : Cf)) h with ⟨x, rfl, h2⟩ | h2
        · refine .inl (h2.trans ?_)
          simp only [Cf.app, List.append_assoc]
        · exact .inr h2
      · cases h
/-- What is parsed behind a configuration: as it is by itself, or too many, or twice. -/
theorem cf_app (f g G : Nat) (c d : Cf) {en en' : Int × Int} {r r' : List Tv} {l l' m : Int × Int} {y : Cf} (h : (pCf F f g d).run en r l = (some y, .good [] m)) (hr : r.map Tv.bare = r'.map Tv.bare) (hG : r'.length < G) : (∃ m', (pCf F f G (c.app d)).run en' r' l' = (some (c.app y), .good [] m')) ∨ ∃ p q, (pCf F f G (c.app d)).run en' r' l' = (none, .bad p q 2) ∨ (pCf F f G (c.app d)).run en' r' l' = (none, .bad p q 6) := by
  induction g generalizing d r r' l l' G with
  | zero => cases h
  | succ g ih =>
    obtain ⟨G, rfl⟩ : ∃ G0, G = G0 + 1 := ⟨G - 1, by omega⟩
    cases r with
    | nil =>
      cases r' with
      | nil => cases h; exact .inl ⟨l', rfl⟩
      | cons t r' => simp at hr
    | cons t r =>
      cases r' with
      | nil => simp at hr
      | cons t' r' =>
        simp only [List.map_cons, List.cons.injEq] at hr
        have hk : t.k = t'.k := congrArg Prod.fst hr.1
        have hs : t.s = t'.s := congrArg Prod.snd hr.1
        have h' : ((pItem F f d t.k t.s).bind fun d => pCf F f g d).run en r (t.p, t.q) = (some y, .good [] m) := h
        show (∃ m', ((pItem F f (c.app d) t'.k t'.s).bind fun d => pCf F f G d).run en' r' (t'.p, t'.q) = (some (c.app y), .good [] m')) ∨ ∃ p q, ((pItem F f (c.app d) t'.k t'.s).bind fun d => pCf F f G d).run en' r' (t'.p, t'.q) = (none, .bad p q 2) ∨ ((pItem F f (c.app d) t'.k t'.s).bind fun d => pCf F f G d).run en' r' (t'.p, t'.q) = (none, .bad p q 6)
        rw [run_bind] at h' ⊢
        rw [hk, hs] at h'
        cases hi : (pItem F f d t'.k t'.s).run en r (t.p, t.q) with
        | mk o st1 =>
          rw [hi] at h'
          cases o with
          | none => cases h'
          | some d2 =>
            obtain ⟨u, r1, l1, rfl, hu⟩ := run_some _ _ _ _ hi
            have hl := run_like (pItem F f (c.app d) t'.k t'.s) en en' (t.p, t.q) (t'.p, t'.q) hr.2
            rcases item_app F f c d _ _ hi with h2 | ⟨p, q, h2 | h2⟩
            · rw [h2] at hl
              cases hj : (pItem F f (c.app d) t'.k t'.s).run en' r' (t'.p, t'.q) with
              | mk o st2 =>
                rw [hj] at hl
                obtain ⟨rfl, hlk⟩ := hl
                obtain ⟨u2, r2, l2, rfl, hu2⟩ := run_some _ _ _ _ hj
                refine ih (d := d2) (G := G) h' hlk ?_
                have h3 := congrArg List.length hu2
                simp only [List.length_append, List.length_cons] at h3 hG
                omega
            · rw [h2] at hl
              cases hj : (pItem F f (c.app d) t'.k t'.s).run en' r' (t'.p, t'.q) with
              | mk o st2 =>
                rw [hj] at hl
                obtain ⟨rfl, hlk⟩ := hl
                obtain ⟨p2, q2, e2, rfl⟩ := run_none _ _ _ _ hj
                obtain rfl : (2 : Int) = e2 := hlk
                exact .inr ⟨_, _, .inl rfl⟩
            · rw [h2] at hl
              cases hj : (pItem F f (c.app d) t'.k t'.s).run en' r' (t'.p, t'.q) with
              | mk o st2 =>
                rw [hj] at hl
                obtain ⟨rfl, hlk⟩ := hl
                obtain ⟨p2, q2, e2, rfl⟩ := run_none _ _ _ _ hj
                obtain rfl : (6 : Int) = e2 := hlk
                exact .inr ⟨_, _, .inr rfl⟩
end
end Go.Proofs.YtpmmhmgojjlniaaGreatDoor
namespace Go.Proofs.YtpmmhmgojjlniaaGreatDoor
open Go.RowKit Go.Sort

theorem hide {p : Prop} (h : p) : Hid p := h
theorem heap_lt {w : World} {b : Nat} {o : Obj} (h : w.heap[b]? = some o) : b < w.heap.size := by
  rcases Nat.lt_or_ge b w.heap.size with h' | h'
  · exact h'
  · simp [Array.getElem?_eq_none h'] at h
theorem ret_bool {a b : Bool} (h : a = b) : Ending.returned (.bool a) = .returned (.bool b) := by rw [h]
theorem bthen {w W w1 : World} (h : Below w.heap.size w W) (hb : Below W.heap.size W w1) : Below w.heap.size w w1 := h.trans (hb.mono h.size)
theorem balloc {w W : World} (h : Below w.heap.size w W) (o : Obj) : Below w.heap.size w (W.alloc o) := h.alloc h.size o
theorem brefl (w : World) : Below w.heap.size w w := Below.refl _ _
theorem heap_new (w : World) (x : Array Value) (t : TypeId) : (w.alloc (.cells x t)).heap[w.heap.size]? = some (.cells x t (0, 0)) := heap_alloc_new w _
theorem size_alloc (w : World) (o : Obj) : (w.alloc o).heap.size = w.heap.size + 1 := by simp
theorem size_setCell (w : World) (a : Addr) (u : Value) : (w.setCell a u).heap.size = w.heap.size := by simp [World.setCell]
theorem row_of {w w' : World} {B e size n : Nat} {v : Value} {xs : List Value} (h : w.ownsRow B e size v n xs) (hk : ∀ g, v.ownBlock = some g → w'.heap[g]? = w.heap[g]?) : w'.ownsRow B e size v n xs := by
  obtain ⟨h1, h2⟩ := h
  refine ⟨h1, ?_⟩
  rcases h2 with h2 | ⟨g, cap, cur, hv, hB, hg, r⟩
  · exact .inl h2
  · exact .inr ⟨g, cap, cur, hv, hB, (hk g (by rw [hv]; rfl)).trans hg, r⟩
/-- Of what there was, all but the blocks of S is as it was. -/
structure But (S : Nat → Prop) (w w' : World) : Prop where
  os : w'.os = w.os
  tape : w'.tape = w.tape
  output : w'.output = w.output
  size : w.heap.size ≤ w'.heap.size
  block : ∀ k, ¬ S k → k < w.heap.size → w'.heap[k]? = w.heap[k]?
theorem But.refl (S : Nat → Prop) (w : World) : But S w w := ⟨rfl, rfl, rfl, Nat.le_refl _, fun _ _ _ => rfl⟩
theorem But.trans {S : Nat → Prop} {u v w : World} (h : But S u v) (k : But S v w) : But S u w :=
  ⟨k.os.trans h.os, k.tape.trans h.tape, k.output.trans h.output, Nat.le_trans h.size k.size, fun i hi hl => (k.block i hi (Nat.lt_of_lt_of_le hl h.size)).trans (h.block i hi hl)⟩
theorem But.mono {S S' : Nat → Prop} {u v : World} (h : But S u v) (hs : ∀ k, k < u.heap.size → S k → S' k) : But S' u v := ⟨h.os, h.tape, h.output, h.size, fun k hk hl => h.block k (fun e => hk (hs k hl e)) hl⟩
theorem But.thens {S S' : Nat → Prop} {u v w : World} (h : But S u v) (k : But S' v w) (hs : ∀ i, i < u.heap.size → S' i → S i) : But S u w :=
  ⟨k.os.trans h.os, k.tape.trans h.tape, k.output.trans h.output, Nat.le_trans h.size k.size, fun i hi hl => (k.block i (fun e => hi (hs i hl e)) (Nat.lt_of_lt_of_le hl h.size)).trans (h.block i hi hl)⟩
theorem But.of {S : Nat → Prop} {w w' : World} (h : Below w.heap.size w w') : But S w w' := ⟨h.os, h.tape, h.output, h.size, fun k _ hk => h.block k hk⟩
theorem But.below {S : Nat → Prop} {N : Nat} {w w' : World} (h : But S w w') (hN : ∀ k, S k → N ≤ k) (hS : N ≤ w.heap.size) : Below N w w' := ⟨h.os, h.tape, h.output, h.size, fun k hk => h.block k (fun e => by have := hN k e; omega) (by omega)⟩
theorem But.alloc {S : Nat → Prop} {w w' : World} (h : But S w w') (o : Obj) : But S w (w'.alloc o) := h.trans (But.of (balloc (brefl _) o))
theorem But.drew {S : Nat → Prop} {w w' : World} (h : But S w w') : But S w w'.drew := h.trans (But.of (Below.drew (brefl _)))
theorem But.setCell {S : Nat → Prop} {w w' : World} (h : But S w w') {p : Addr} (hp : S p.block ∨ w.heap.size ≤ p.block) (u : Value) : But S w (w'.setCell p u) :=
  ⟨h.os, h.tape, h.output, by rw [size_setCell]; exact h.size, fun k hk hl => by
    rw [Below.heap_setCell _ _ _ _ (by
      rintro rfl
      rcases hp with e | e
      · exact hk e
      · omega)]
    exact h.block k hk hl⟩
theorem But.grown {S : Nat → Prop} {u w w' : World} {row : Option Nat} (h : But S u w) (hg : w.grownBy w' row) (hr : ∀ k, row = some k → S k ∨ u.heap.size ≤ k) : But S u w' :=
  ⟨hg.os.trans h.os, hg.tape.trans h.tape, hg.output.trans h.output, Nat.le_trans h.size hg.size, fun k hk hl => (hg.block k (Nat.lt_of_lt_of_le hl h.size) (fun e => by
    rcases hr k e.symm with h1 | h1
    · exact hk h1
    · omega)).trans (h.block k hk hl)⟩
theorem But.cell {S : Nat → Prop} {w w' : World} (h : But S w w') {p : Addr} (hb : ¬ S p.block) (hl : p.block < w.heap.size) : w'.cell? p = w.cell? p := World.cell?_of_block (w := w) (h.block p.block hb hl)
theorem But.keep {S : Nat → Prop} {w w' : World} (h : But S w w') {g : Nat} {o : Obj} (hg : w.heap[g]? = some o) (hs : ¬ S g) : w'.heap[g]? = some o := (h.block g hs (heap_lt hg)).trans hg
abbrev but1 (b : Nat) : Nat → Prop := fun k => k = b

def Tv.val (t : Tv) : Value := .agg #[.int .i64 t.k, .string t.s, .int .i64 t.p, .int .i64 t.q]
def Tv.at_ (w : World) (b off : Nat) (x : Tv) : Prop := w.cell? ⟨b, off, none⟩ = some (.int .i64 x.k) ∧ w.cell? ⟨b, off + 1, none⟩ = some (.string x.s) ∧ w.cell? ⟨b, off + 2, none⟩ = some (.int .i64 x.p) ∧ w.cell? ⟨b, off + 3, none⟩ = some (.int .i64 x.q)
def Tv.slot (w : World) (ao : Option Addr) (l : List Tv) : Prop := l = [] ∨ ∃ b off, ao = some ⟨b, off, none⟩ ∧ ∀ j (h : j < l.length), Tv.at_ w b (off + j * 4) l[j]
/-- Where a parser works: the world that it was laid in, its block, the place behind the text. -/
structure En where
  w0 : World
  pb : Nat
  en : Int × Int
/-- The cells of a parser that stands so. -/
def PsV (E : En) (ao : Option Addr) (n c : Nat) (a1 a2 e : Int) : Sta → Prop
  | .good r _ => r.length = n ∧ n ≤ c ∧ n ≤ 100000 ∧ (∀ t ∈ r, t.s.size ≤ 1000) ∧ Tv.slot E.w0 ao r ∧ a1 = 0 ∧ a2 = 0 ∧ e = 0
  | .bad p q x => ao = none ∧ n = 0 ∧ c = 0 ∧ a1 = p ∧ a2 = q ∧ e = x ∧ x ≠ 0
def Ps (E : En) (w : World) (st : Sta) : Prop := Below E.w0.heap.size E.w0 w ∧ E.w0.heap.size ≤ E.pb ∧ ∃ ao n c a1 a2 e, w.heap[E.pb]? = some (.cells #[.slice ao n c, .int .i64 E.en.1, .int .i64 E.en.2, .int .i64 a1, .int .i64 a2, .int .i64 e] 105 (0, 0)) ∧ PsV E ao n c a1 a2 e st
theorem Ps.lt {E : En} {w : World} {st : Sta} (h : Ps E w st) : E.pb < w.heap.size := by
  obtain ⟨_, _, ao, n, c, a1, a2, e, hg, _⟩ := h
  exact heap_lt hg
theorem Ps.of {E : En} {w w' : World} {st : Sta} (h : Ps E w st) {S : Nat → Prop} (hb : But S w w') (hp : ¬ S E.pb) (hs : ∀ k, S k → E.w0.heap.size ≤ k) : Ps E w' st := by
  have hlt := h.lt
  obtain ⟨h1, h2, ao, n, c, a1, a2, e, hg, hv⟩ := h
  exact ⟨h1.trans (hb.below hs h1.size), h2, ao, n, c, a1, a2, e, hb.keep hg hp, hv⟩
theorem Ps.below {E : En} {w w' : World} {st : Sta} (h : Ps E w st) (hb : Below w.heap.size w w') : Ps E w' st := h.of (S := fun _ => False) (But.of hb) (fun h => h) (fun _ h => h.elim)
theorem Ps.alloc {E : En} {w : World} {st : Sta} (h : Ps E w st) (o : Obj) : Ps E (w.alloc o) st := h.below (balloc (brefl _) o)
/-- A token taken. -/
def taken (en : Int × Int) : Sta → Tv × Sta
  | .good (t :: r) _ => (t, .good r (t.p, t.q))
  | .good [] _ => (⟨0, bs [], en.1, en.2⟩, .bad en.1 en.2 3)
  | .bad p q e => (⟨0, bs [], en.1, en.2⟩, .bad p q e)
/-- A fault told. -/
def faulted (t : Tv) (e : Int) : Sta → Sta
  | .good r l => if e = 0 then .good r l else .bad t.p t.q e
  | .bad p q x => .bad p q x
theorem six_cells {w : World} {b y : Nat} {x0 x1 x2 x3 x4 x5 : Value} (h : w.heap[b]? = some (.cells #[x0, x1, x2, x3, x4, x5] y (0, 0))) : (w.cell? ⟨b, 0, none⟩ = some x0 ∧ w.cell? ⟨b, 1, none⟩ = some x1 ∧ w.cell? ⟨b, 2, none⟩ = some x2 ∧ w.cell? ⟨b, 3, none⟩ = some x3 ∧ w.cell? ⟨b, 4, none⟩ = some x4 ∧ w.cell? ⟨b, 5, none⟩ = some x5) ∧ w.frozen? ⟨b, 0, none⟩ = false ∧ w.frozen? ⟨b, 3, none⟩ = false ∧ w.frozen? ⟨b, 4, none⟩ = false ∧ w.frozen? ⟨b, 5, none⟩ = false := by
  simp [World.cell?, World.frozen?, h]
theorem four_cells {w : World} {b y : Nat} {x0 x1 x2 x3 : Value} (h : w.heap[b]? = some (.cells #[x0, x1, x2, x3] y (0, 0))) : (w.cell? ⟨b, 0, none⟩ = some x0 ∧ w.cell? ⟨b, 1, none⟩ = some x1 ∧ w.cell? ⟨b, 2, none⟩ = some x2 ∧ w.cell? ⟨b, 3, none⟩ = some x3) ∧ w.frozen? ⟨b, 0, none⟩ = false ∧ w.frozen? ⟨b, 1, none⟩ = false ∧ w.frozen? ⟨b, 2, none⟩ = false ∧ w.frozen? ⟨b, 3, none⟩ = false := by
  simp [World.cell?, World.frozen?, h]
theorem set_far {w : World} {b o j : Nat} {v : Value} {x : Obj} (h : w.heap[j]? = some x) (hn : j ≠ b) : (w.setCell ⟨b, o, none⟩ v).heap[j]? = some x := (Below.heap_setCell w ⟨b, o, none⟩ v j hn).trans h
end Go.Proofs.YtpmmhmgojjlniaaGreatDoor
namespace Go.Proofs.YtpmmhmgojjlniaaGreatDoor
open Go.RowKit Go.Sort

/-- Things that lie in a row, each in so many cells. -/
def Rd {α : Type} (w : World) (z : Nat) (R : World → α → List Value → Prop) (v : Value) (l : List α) : Prop :=
  ∃ ao c, v = .slice ao l.length c ∧ l.length ≤ c ∧ (l = [] ∨ ∃ b off, ao = some ⟨b, off, none⟩ ∧ ∀ j (h : j < l.length), ∃ xs, R w l[j] xs ∧ xs ≠ [] ∧ ∀ i u, xs[i]? = some u → w.cell? ⟨b, off + j * z + i, none⟩ = some u)
/-- What is kept by whatever leaves all old blocks. -/
def Mono {α : Type} (R : World → α → List Value → Prop) : Prop := ∀ w w' a x, Below w.heap.size w w' → R w a x → R w' a x
theorem Rd.below {α : Type} {w w' : World} {z : Nat} {R : World → α → List Value → Prop} {v : Value} {l : List α} (hR : Mono R) (h : Rd w z R v l) (hb : Below w.heap.size w w') : Rd w' z R v l := by
  obtain ⟨ao, c, hv, hc, h⟩ := h
  refine ⟨ao, c, hv, hc, ?_⟩
  rcases h with h | ⟨b, off, h, hr⟩
  · exact .inl h
  · refine .inr ⟨b, off, h, fun j hj => ?_⟩
    obtain ⟨xs, h1, h2, h3⟩ := hr j hj
    refine ⟨xs, hR _ _ _ _ hb h1, h2, fun i u hu => ?_⟩
    have k := h3 i u hu
    exact (hb.cell (p := ⟨b, off + j * z + i, none⟩) (World.block_lt_of_cell? w _ k)).trans k
theorem Rd.slice {α : Type} {w : World} {z : Nat} {R : World → α → List Value → Prop} {v : Value} {l : List α} (h : Rd w z R v l) : ∃ ao c, v = .slice ao l.length c := by
  obtain ⟨ao, c, hv, _⟩ := h
  exact ⟨ao, c, hv⟩
theorem Rd.cap {α : Type} {w : World} {z : Nat} {R : World → α → List Value → Prop} {ao : Option Addr} {n c : Nat} {l : List α} (h : Rd w z R (.slice ao n c) l) : l.length ≤ c := by
  obtain ⟨ao', c', hv, hc, _⟩ := h
  cases hv
  exact hc
theorem Rd.at_ {α : Type} {w : World} {z : Nat} {R : World → α → List Value → Prop} {ao : Option Addr} {n c : Nat} {l : List α} (h : Rd w z R (.slice ao n c) l) {j : Nat} (hj : j < l.length) : ∃ b off xs, ao = some ⟨b, off, none⟩ ∧ b < w.heap.size ∧ R w l[j] xs ∧ ∀ i u, xs[i]? = some u → w.cell? ⟨b, off + j * z + i, none⟩ = some u := by
  obtain ⟨ao', c', hv, _, h⟩ := h
  cases hv
  rcases h with h | ⟨b, off, h, hr⟩
  · rw [h] at hj; simp at hj
  · obtain ⟨xs, h1, h2, h3⟩ := hr j hj
    refine ⟨b, off, xs, h, ?_, h1, h3⟩
    cases xs with
    | nil => exact absurd rfl h2
    | cons x xs => exact World.block_lt_of_cell? w _ (h3 0 x rfl)
def RgR (_ : World) (r : Rg) (x : List Value) : Prop := x = [.int .u32 r.ad, .int .i64 r.bits, .int .i64 r.ge, .int .i64 r.le, .bool r.ok]
def PrR (_ : World) (p : Int × Int) (x : List Value) : Prop := x = [.int .i64 p.1, .int .i64 p.2]
def PxR (_ : World) (p : Int × Int) (x : List Value) : Prop := x = [.int .u32 p.1, .int .i64 p.2]
def InR (_ : World) (n : Int) (x : List Value) : Prop := x = [.int .i64 n]
def NbR (_ : World) (n : Nb) (x : List Value) : Prop := x = [.string n.name, .string n.imp, .string n.exp, .bool n.client]
def LkR (_ : World) (n : Lk) (x : List Value) : Prop := x = [.string n.name, .int .i64 n.cost]
def ClR (w : World) (c : Cl) (x : List Value) : Prop := ∃ va vd vp, x = [.int .i64 c.n, .bool c.ok, .string c.m.list, .string c.m.path, .int .i64 c.m.ca, .int .i64 c.m.cn, .int .i64 c.s.pref, .int .i64 c.s.med, .int .i64 c.s.org, va, vd, .bool c.s.clr, vp] ∧ Rd w 2 PrR va c.s.add ∧ Rd w 2 PrR vd c.s.del ∧ Rd w 1 InR vp c.s.prep
def LsR (w : World) (l : Ls) (x : List Value) : Prop := ∃ v, x = [.string l.name, v] ∧ Rd w 5 RgR v l.rules
def MpR (w : World) (m : Mp) (x : List Value) : Prop := ∃ v, x = [.string m.name, v] ∧ Rd w 13 ClR v m.cls
def RtR (w : World) (r : Rt) (x : List Value) : Prop := ∃ vn vb vl, x = [.string r.name, .int .i64 r.asn, .int .i64 r.id, vn, vb, vl] ∧ Rd w 2 PxR vn r.nets ∧ Rd w 4 NbR vb r.nbs ∧ Rd w 2 LkR vl r.links
def CfR (w : World) (c : Cf) (v1 v2 v3 : Value) : Prop := Rd w 2 LsR v1 c.lists ∧ Rd w 2 MpR v2 c.maps ∧ Rd w 6 RtR v3 c.routers
theorem RgR.mono : Mono RgR := fun _ _ _ _ _ h => h
theorem PrR.mono : Mono PrR := fun _ _ _ _ _ h => h
theorem PxR.mono : Mono PxR := fun _ _ _ _ _ h => h
theorem InR.mono : Mono InR := fun _ _ _ _ _ h => h
theorem NbR.mono : Mono NbR := fun _ _ _ _ _ h => h
theorem LkR.mono : Mono LkR := fun _ _ _ _ _ h => h
theorem ClR.mono : Mono ClR := fun _ _ _ _ hb ⟨va, vd, vp, h0, h1, h2, h3⟩ => ⟨va, vd, vp, h0, h1.below PrR.mono hb, h2.below PrR.mono hb, h3.below InR.mono hb⟩
theorem LsR.mono : Mono LsR := fun _ _ _ _ hb ⟨v, h0, h1⟩ => ⟨v, h0, h1.below RgR.mono hb⟩
theorem MpR.mono : Mono MpR := fun _ _ _ _ hb ⟨v, h0, h1⟩ => ⟨v, h0, h1.below ClR.mono hb⟩
theorem RtR.mono : Mono RtR := fun _ _ _ _ hb ⟨vn, vb, vl, h0, h1, h2, h3⟩ => ⟨vn, vb, vl, h0, h1.below PxR.mono hb, h2.below NbR.mono hb, h3.below LkR.mono hb⟩
theorem CfR.below {w w' : World} {c : Cf} {v1 v2 v3 : Value} (h : CfR w c v1 v2 v3) (hb : Below w.heap.size w w') : CfR w' c v1 v2 v3 := ⟨h.1.below LsR.mono hb, h.2.1.below MpR.mono hb, h.2.2.below RtR.mono hb⟩
set_option maxHeartbeats 4000000 in
set_option maxRecDepth 100000 in
theorem sameRules_is (v1 v2 : Value) (l : List Rg) (w : World) (h1 : Rd w 5 RgR v1 l) (h2 : Rd w 5 RgR v2 l) (hz : l.length ≤ 100000) :
    Calls Tryz.prog 44 #[v1, v2] w fun e w' => e = .returned (.bool true) ∧ Below w.heap.size w w' := by
  obtain ⟨ao, ca, rfl⟩ := h1.slice
  obtain ⟨bo, cb, rfl⟩ := h2.slice
  have H1 := hide h1
  have H2 := hide h2
  clear h1 h2
  go_enter Tryz.func44, Tryz.ntmps44
  go_wp2_with fail
  go_loopw [5] (fun v wr => ∃ k : Nat, v = .int .i64 k ∧ k ≤ l.length ∧ Hid (Below w.heap.size w wr)) (fun v _ => l.length - (intOf v).toNat)
  case atStart => exact ⟨0, rfl, Nat.zero_le _, brefl w⟩
  case round =>
    obtain ⟨k, rfl, hk, HBR⟩ := hrel
    by_cases hkl : k < l.length
    · have hkl' : (k : Int) < (l.length : Int) := by omega
      obtain ⟨b, off, xs, rfl, hbw, hx, ha⟩ := (Rd.below RgR.mono H1.out HBR.out).at_ hkl
      obtain ⟨b2, off2, ys, rfl, hbw2, hy, hc⟩ := (Rd.below RgR.mono H2.out HBR.out).at_ hkl
      generalize l[k] = y at *
      unfold RgR at hx hy
      subst hx hy
      obtain ⟨y0, y1, y2, y3, y4⟩ := y
      have a0 := ha 0 _ rfl
      have c0 := hc 0 _ rfl
      have a1 := ha 1 _ rfl
      have c1 := hc 1 _ rfl
      have a2 := ha 2 _ rfl
      have c2 := hc 2 _ rfl
      have a3 := ha 3 _ rfl
      have c3 := hc 3 _ rfl
      have a4 := ha 4 _ rfl
      have c4 := hc 4 _ rfl
      simp only [Nat.add_zero] at a0 c0
      clear ha hc
      have ra0 := fun dd os => cell_regrown a0 dd os
      have rc0 := fun dd os => cell_regrown c0 dd os
      have ra1 := fun dd os => cell_regrown a1 dd os
      have rc1 := fun dd os => cell_regrown c1 dd os
      have ra2 := fun dd os => cell_regrown a2 dd os
      have rc2 := fun dd os => cell_regrown c2 dd os
      have ra3 := fun dd os => cell_regrown a3 dd os
      have rc3 := fun dd os => cell_regrown c3 dd os
      have ra4 := fun dd os => cell_regrown a4 dd os
      have rc4 := fun dd os => cell_regrown c4 dd os
      go_wp2_with fail
      refine wp_region_quiet_below (by kernel_rfl) (by kernel_rfl) ?_
      repeat (go_big_quiet_step (fail))
      refine wpQuiet_nil ?_
      rintro _ ⟨⟨dd, os⟩, rfl⟩
      have hb1 := below_regrown wr dd os
      generalize Sort.grow (redrawn wr dd) os = w1 at hb1
      have B1 := hide (bthen HBR.out hb1)
      clear hb1 ra0 rc0 a0 c0 ra1 rc1 a1 c1 ra2 rc2 a2 c2 ra3 rc3 a3 c3 ra4 rc4 a4 c4
      go_wp2_with fail
      exact ⟨⟨k + 1, by go_num, by omega, B1⟩, by simp [intOf] <;> omega⟩
    · have hkl' : ¬ (k : Int) < (l.length : Int) := by omega
      go_wp2_with fail
      go_ret
      exact ⟨rfl, HBR.out⟩
set_option maxHeartbeats 4000000 in
set_option maxRecDepth 100000 in
theorem sameComms_is (v1 v2 : Value) (l : List (Int × Int)) (w : World) (h1 : Rd w 2 PrR v1 l) (h2 : Rd w 2 PrR v2 l) (hz : l.length ≤ 100000) :
    Calls Tryz.prog 111 #[v1, v2] w fun e w' => e = .returned (.bool true) ∧ Below w.heap.size w w' := by
  obtain ⟨ao, ca, rfl⟩ := h1.slice
  obtain ⟨bo, cb, rfl⟩ := h2.slice
  have H1 := hide h1
  have H2 := hide h2
  clear h1 h2
  go_enter Tryz.func111, Tryz.ntmps111
  go_wp2_with fail
  go_loopw [5] (fun v wr => ∃ k : Nat, v = .int .i64 k ∧ k ≤ l.length ∧ Hid (Below w.heap.size w wr)) (fun v _ => l.length - (intOf v).toNat)
  case atStart => exact ⟨0, rfl, Nat.zero_le _, brefl w⟩
  case round =>
    obtain ⟨k, rfl, hk, HBR⟩ := hrel
    by_cases hkl : k < l.length
    · have hkl' : (k : Int) < (l.length : Int) := by omega
      obtain ⟨b, off, xs, rfl, hbw, hx, ha⟩ := (Rd.below PrR.mono H1.out HBR.out).at_ hkl
      obtain ⟨b2, off2, ys, rfl, hbw2, hy, hc⟩ := (Rd.below PrR.mono H2.out HBR.out).at_ hkl
      generalize l[k] = y at *
      unfold PrR at hx hy
      subst hx hy
      obtain ⟨y0, y1⟩ := y
      have a0 := ha 0 _ rfl
      have c0 := hc 0 _ rfl
      have a1 := ha 1 _ rfl
      have c1 := hc 1 _ rfl
      simp only [Nat.add_zero] at a0 c0
      clear ha hc
      have ra0 := fun dd os => cell_regrown a0 dd os
      have rc0 := fun dd os => cell_regrown c0 dd os
      have ra1 := fun dd os => cell_regrown a1 dd os
      have rc1 := fun dd os => cell_regrown c1 dd os
      go_wp2_with fail
      refine wp_region_quiet_below (by kernel_rfl) (by kernel_rfl) ?_
      repeat (go_big_quiet_step (fail))
      refine wpQuiet_nil ?_
      rintro _ ⟨⟨dd, os⟩, rfl⟩
      have hb1 := below_regrown wr dd os
      generalize Sort.grow (redrawn wr dd) os = w1 at hb1
      have B1 := hide (bthen HBR.out hb1)
      clear hb1 ra0 rc0 a0 c0 ra1 rc1 a1 c1
      go_wp2_with fail
      exact ⟨⟨k + 1, by go_num, by omega, B1⟩, by simp [intOf] <;> omega⟩
    · have hkl' : ¬ (k : Int) < (l.length : Int) := by omega
      go_wp2_with fail
      go_ret
      exact ⟨rfl, HBR.out⟩
set_option maxHeartbeats 4000000 in
set_option maxRecDepth 100000 in
theorem samePrefixes_is (v1 v2 : Value) (l : List (Int × Int)) (w : World) (h1 : Rd w 2 PxR v1 l) (h2 : Rd w 2 PxR v2 l) (hz : l.length ≤ 100000) :
    Calls Tryz.prog 112 #[v1, v2] w fun e w' => e = .returned (.bool true) ∧ Below w.heap.size w w' := by
  obtain ⟨ao, ca, rfl⟩ := h1.slice
  obtain ⟨bo, cb, rfl⟩ := h2.slice
  have H1 := hide h1
  have H2 := hide h2
  clear h1 h2
  go_enter Tryz.func112, Tryz.ntmps112
  go_wp2_with fail
  go_loopw [5] (fun v wr => ∃ k : Nat, v = .int .i64 k ∧ k ≤ l.length ∧ Hid (Below w.heap.size w wr)) (fun v _ => l.length - (intOf v).toNat)
  case atStart => exact ⟨0, rfl, Nat.zero_le _, brefl w⟩
  case round =>
    obtain ⟨k, rfl, hk, HBR⟩ := hrel
    by_cases hkl : k < l.length
    · have hkl' : (k : Int) < (l.length : Int) := by omega
      obtain ⟨b, off, xs, rfl, hbw, hx, ha⟩ := (Rd.below PxR.mono H1.out HBR.out).at_ hkl
      obtain ⟨b2, off2, ys, rfl, hbw2, hy, hc⟩ := (Rd.below PxR.mono H2.out HBR.out).at_ hkl
      generalize l[k] = y at *
      unfold PxR at hx hy
      subst hx hy
      obtain ⟨y0, y1⟩ := y
      have a0 := ha 0 _ rfl
      have c0 := hc 0 _ rfl
      have a1 := ha 1 _ rfl
      have c1 := hc 1 _ rfl
      simp only [Nat.add_zero] at a0 c0
      clear ha hc
      have ra0 := fun dd os => cell_regrown a0 dd os
      have rc0 := fun dd os => cell_regrown c0 dd os
      have ra1 := fun dd os => cell_regrown a1 dd os
      have rc1 := fun dd os => cell_regrown c1 dd os
      go_wp2_with fail
      refine wp_region_quiet_below (by kernel_rfl) (by kernel_rfl) ?_
      repeat (go_big_quiet_step (fail))
      refine wpQuiet_nil ?_
      rintro _ ⟨⟨dd, os⟩, rfl⟩
      have hb1 := below_regrown wr dd os
      generalize Sort.grow (redrawn wr dd) os = w1 at hb1
      have B1 := hide (bthen HBR.out hb1)
      clear hb1 ra0 rc0 a0 c0 ra1 rc1 a1 c1
      go_wp2_with fail
      exact ⟨⟨k + 1, by go_num, by omega, B1⟩, by simp [intOf] <;> omega⟩
    · have hkl' : ¬ (k : Int) < (l.length : Int) := by omega
      go_wp2_with fail
      go_ret
      exact ⟨rfl, HBR.out⟩
end Go.Proofs.YtpmmhmgojjlniaaGreatDoor
