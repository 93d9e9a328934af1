/- Part of the proof. -/
import Derived.Test.YtnadhplhnfpeaaaGreatDoorAZ
import Derived.Test.YtnadhplhnfpeaaaGreatDoorAT3
import Derived.Test.YtnadhplhnfpeaaaGreatDoorProg
namespace Go.Proofs.YtnadhplhnfpeaaaGreatDoor
theorem Wf.more {α : Type} {g : Pg α} (hg : Wf g) (en en' : Int × Int) {u u' : List Tv} (v : List Tv) {l l' m : Int × Int} {a : α} (h : g.run en u l = (some a, .good u' m)) : ∃ m', g.run en' (u ++ v) l' = (some a, .good (u' ++ v) m') := by
 induction hg generalizing u l l' with
 | ret b => cases h; exact ⟨_, rfl⟩
 | fail e => cases h
 | next _ ih =>
  cases u with
  | nil => cases h
  | cons t u => exact ih _ _ h
 | @peek k _ hn ih =>
  cases u with
  | nil =>
   have := hn en l
   rw [show (Pg.peek k).run en [] l = (k none).run en [] l from rfl, this] at h
   cases h
  | cons t u => exact ih _ h
section
variable (F : Fn)
theorem cf_more (f g : Nat) (c : Cf) (en en' : Int × Int) {u : List Tv} (v : List Tv) {l l' m : Int × Int} {x : Cf} (h : (pCf F f g c).run en u l = (some x, .good [] m)) (G : Nat) (hG : (u ++ v).length < G) : ∃ G' m', v.length < G' ∧ (pCf F f G c).run en' (u ++ v) l' = (pCf F f G' x).run en' v m' := by
 induction g generalizing c u l l' G with
 | zero => cases h
 | succ g ih =>
  cases u with
  | nil =>
   cases h
   exact ⟨G, l', hG, rfl⟩
  | cons t u =>
   have h' : ((pItem F f c t.k t.s).bind fun d => pCf F f g d).run en u (t.p, t.q) = (some x, .good [] m) := h
   rw [run_bind] at h'
   obtain ⟨G, rfl⟩ : ∃ G0, G = G0 + 1 := ⟨G - 1, by omega⟩
   show ∃ G' m', _ ∧ ((pItem F f c t.k t.s).bind fun d => pCf F f G d).run en' (u ++ v) (t.p, t.q) = _
   rw [run_bind]
   cases hi : (pItem F f c t.k t.s).run en u (t.p, t.q) with
   | mk o st1 =>
    rw [hi] at h'
    cases o with
    | none => cases h'
    | some d =>
     obtain ⟨w0, r', l1, rfl, hu⟩ := run_some _ _ _ _ hi
     obtain ⟨m', h2⟩ := (wf_item F f c t.k t.s).more en en' v (l' := (t.p, t.q)) hi
     rw [h2]
     refine ih d h' G ?_
     rw [hu] at hG
     simp only [List.length_append, List.length_cons] at hG ⊢
     omega
end
def Cf.app (c d : Cf) : Cf := ⟨c.lists ++ d.lists, c.maps ++ d.maps, c.routers ++ d.routers⟩
theorem Cf.app_nil (c : Cf) : c.app .nil = c := by cases c; simp [Cf.app, Cf.nil]
section
variable (F : Fn)
theorem new_other {α : Type} (body : ByteArray → Pg α) (old old' : List ByteArray) {en : Int × Int} {r : List Tv} {l : Int × Int} {y : α} {st : Sta} (h : ((pNew F old).bind body).run en r l = (some y, st)) : ((pNew F old').bind body).run en r l = (some y, st) ∨ ∃ p q, ((pNew F old').bind body).run en r l = (none, .bad p q 6) := by
 cases r with
 | nil => cases h
 | cons t r =>
  have h1 : (((pName F t.k t.s).bind fun x => if inB old t.s = true then Pg.fail 6 else .ret x).bind body).run en r (t.p, t.q) = (some y, st) := h
  have e1 : ((pNew F old').bind body).run en (t :: r) l = (((pName F t.k t.s).bind fun x => if inB old' t.s = true then Pg.fail 6 else .ret x).bind body).run en r (t.p, t.q) := rfl
  rw [e1]
  unfold pName chk at h1 ⊢
  by_cases hn : F.nam (wd t.k t.s) = 0
  ·
   rw [if_pos hn] at h1 ⊢
   by_cases h2 : inB old' t.s = true
   ·
    right
    refine ⟨t.p, t.q, ?_⟩
    simp only [Pg.bind]
    rw [if_pos h2]
    rfl
   left
   rw [← h1]
   simp only [Pg.bind]
   rw [if_neg h2]
   by_cases h3 : inB old t.s = true
   ·
    simp only [Pg.bind] at h1
    rw [if_pos h3] at h1
    cases h1
   rw [if_neg h3]
  rw [if_neg hn] at h1
  cases h1
theorem kind_other {α β : Type} (n n' most : Nat) (old old' : List ByteArray) (body : ByteArray → Pg α) (out out' : α → β) {en : Int × Int} {r : List Tv} {l : Int × Int} {y : β} {st : Sta}
    (h : ((room n most).bind fun _ => ((pNew F old).bind body).bind fun x => Pg.ret (out x)).run en r l = (some y, st)) :
    (∃ x, y = out x ∧ ((room n' most).bind fun _ => ((pNew F old').bind body).bind fun x => Pg.ret (out' x)).run en r l = (some (out' x), st)) ∨ ∃ p q, ((room n' most).bind fun _ => ((pNew F old').bind body).bind fun x => Pg.ret (out' x)).run en r l = (none, .bad p q 2) ∨ ((room n' most).bind fun _ => ((pNew F old').bind body).bind fun x => Pg.ret (out' x)).run en r l = (none, .bad p q 6) := by
  rw [room_bind] at h ⊢
  split at h
  · cases h
  · split
    · exact .inr ⟨_, _, .inl rfl⟩
    · rw [run_bind] at h ⊢
      cases hb : ((pNew F old).bind body).run en r l with
      | mk o st1 =>
        rw [hb] at h
        cases o with
        | none => cases h
        | some x =>
          obtain ⟨u, r', l', rfl, _⟩ := run_some _ _ _ _ hb
          cases h
          rcases new_other F body old old' hb with h2 | ⟨p, q, h2⟩
          · rw [h2]
            exact .inl ⟨x, rfl, rfl⟩
          · rw [h2]
            exact .inr ⟨p, q, .inr rfl⟩
theorem item_app (f : Nat) (c d : Cf) (k : Int) (s : ByteArray) {en : Int × Int} {r : List Tv} {l : Int × Int} {y : Cf} {st : Sta} (h : (pItem F f d k s).run en r l = (some y, st)) : (pItem F f (c.app d) k s).run en r l = (some (c.app y), st) ∨ ∃ p q, (pItem F f (c.app d) k s).run en r l = (none, .bad p q 2) ∨ (pItem F f (c.app d) k s).run en r l = (none, .bad p q 6) := by
 unfold pItem at h ⊢
 split at h
 ·
  rename_i h1
  rw [if_pos h1]
  rcases kind_other F _ (c.app d).lists.length 16 _ ((c.app d).lists.map Ls.name) _ _ (fun x => (⟨(c.app d).lists ++ [x], (c.app d).maps, (c.app d).routers⟩ : Cf)) h with ⟨x, rfl, h2⟩ | h2
  ·
   refine .inl (h2.trans ?_)
   simp only [Cf.app, List.append_assoc]
  exact .inr h2
 rename_i h1
 rw [if_neg h1]
 split at h
 ·
  rename_i h1
  rw [if_pos h1]
  rcases kind_other F _ (c.app d).maps.length 16 _ ((c.app d).maps.map Mp.name) _ _ (fun x => (⟨(c.app d).lists, (c.app d).maps ++ [x], (c.app d).routers⟩ : Cf)) h with ⟨x, rfl, h2⟩ | h2
  ·
   refine .inl (h2.trans ?_)
   simp only [Cf.app, List.append_assoc]
  exact .inr h2
 rename_i h1
 rw [if_neg h1]
 split at h
 ·
  rename_i h1
  rw [if_pos h1]
  rcases kind_other F _ (c.app d).routers.length 8 _ ((c.app d).routers.map Rt.name) _ _ (fun x => (⟨(c.app d).lists, (c.app d).maps, (c.app d).routers ++ [x]⟩ : Cf)) h with ⟨x, rfl, h2⟩ | h2
  ·
   refine .inl (h2.trans ?_)
   simp only [Cf.app, List.append_assoc]
  exact .inr h2
 cases h
theorem cf_app (f g G : Nat) (c d : Cf) {en en' : Int × Int} {r r' : List Tv} {l l' m : Int × Int} {y : Cf} (h : (pCf F f g d).run en r l = (some y, .good [] m)) (hr : r.map Tv.bare = r'.map Tv.bare) (hG : r'.length < G) : (∃ m', (pCf F f G (c.app d)).run en' r' l' = (some (c.app y), .good [] m')) ∨ ∃ p q, (pCf F f G (c.app d)).run en' r' l' = (none, .bad p q 2) ∨ (pCf F f G (c.app d)).run en' r' l' = (none, .bad p q 6) := by
 induction g generalizing d r r' l l' G with
 | zero => cases h
 | succ g ih =>
  obtain ⟨G, rfl⟩ : ∃ G0, G = G0 + 1 := ⟨G - 1, by omega⟩
  cases r with
  | nil =>
   cases r' with
   | nil => cases h; exact .inl ⟨l', rfl⟩
   | cons t r' => simp at hr
  | cons t r =>
   cases r' with
   | nil => simp at hr
   | cons t' r' =>
    simp only [List.map_cons, List.cons.injEq] at hr
    have hk : t.k = t'.k := congrArg Prod.fst hr.1
    have hs : t.s = t'.s := congrArg Prod.snd hr.1
    have h' : ((pItem F f d t.k t.s).bind fun d => pCf F f g d).run en r (t.p, t.q) = (some y, .good [] m) := h
    show (∃ m', ((pItem F f (c.app d) t'.k t'.s).bind fun d => pCf F f G d).run en' r' (t'.p, t'.q) = (some (c.app y), .good [] m')) ∨ ∃ p q, ((pItem F f (c.app d) t'.k t'.s).bind fun d => pCf F f G d).run en' r' (t'.p, t'.q) = (none, .bad p q 2) ∨ ((pItem F f (c.app d) t'.k t'.s).bind fun d => pCf F f G d).run en' r' (t'.p, t'.q) = (none, .bad p q 6)
    rw [run_bind] at h' ⊢
    rw [hk, hs] at h'
    cases hi : (pItem F f d t'.k t'.s).run en r (t.p, t.q) with
    | mk o st1 =>
     rw [hi] at h'
     cases o with
     | none => cases h'
     | some d2 =>
      obtain ⟨u, r1, l1, rfl, hu⟩ := run_some _ _ _ _ hi
      have hl := run_like (pItem F f (c.app d) t'.k t'.s) en en' (t.p, t.q) (t'.p, t'.q) hr.2
      rcases item_app F f c d _ _ hi with h2 | ⟨p, q, h2 | h2⟩
      ·
       rw [h2] at hl
       cases hj : (pItem F f (c.app d) t'.k t'.s).run en' r' (t'.p, t'.q) with
       | mk o st2 =>
        rw [hj] at hl
        obtain ⟨rfl, hlk⟩ := hl
        obtain ⟨u2, r2, l2, rfl, hu2⟩ := run_some _ _ _ _ hj
        refine ih (d := d2) (G := G) h' hlk ?_
        have h3 := congrArg List.length hu2
        simp only [List.length_append, List.length_cons] at h3 hG
        omega
      ·
       rw [h2] at hl
       cases hj : (pItem F f (c.app d) t'.k t'.s).run en' r' (t'.p, t'.q) with
       | mk o st2 =>
        rw [hj] at hl
        obtain ⟨rfl, hlk⟩ := hl
        obtain ⟨p2, q2, e2, rfl⟩ := run_none _ _ _ _ hj
        obtain rfl : (2 : Int) = e2 := hlk
        exact .inr ⟨_, _, .inl rfl⟩
      rw [h2] at hl
      cases hj : (pItem F f (c.app d) t'.k t'.s).run en' r' (t'.p, t'.q) with
      | mk o st2 =>
       rw [hj] at hl
       obtain ⟨rfl, hlk⟩ := hl
       obtain ⟨p2, q2, e2, rfl⟩ := run_none _ _ _ _ hj
       obtain rfl : (6 : Int) = e2 := hlk
       exact .inr ⟨_, _, .inr rfl⟩
end
end Go.Proofs.YtnadhplhnfpeaaaGreatDoor
namespace Go.Proofs.YtnadhplhnfpeaaaGreatDoor.Lx
open Go.RowKit Go.Sort
theorem stp_app {r : List UInt8} {f f' : Nat} {n : Nat} {t : Option (Nat × List UInt8)} (hr : r ≠ []) (h : stp r f = .go n f' t) (q : List UInt8) : stp (r ++ 10 :: q) f = .go n f' t := by
 cases r with
 | nil => exact absurd rfl hr
 | cons c r =>
  rw [List.cons_append]
  simp only [stp, bgn] at h ⊢
  split at h
  ·
   rename_i h1
   rw [if_pos h1, h]
  rename_i h1
  rw [if_neg h1]
  split at h
  ·
   rename_i h2
   rw [if_pos h2, ← h, ← List.cons_append, takeWhile_stop (by decide)]
  rename_i h2
  rw [if_neg h2]
  split at h
  ·
   rename_i h3
   rw [if_pos h3, h]
  rename_i h3
  rw [if_neg h3]
  split at h
  ·
   rename_i h4
   rw [if_pos h4, ← h]
   have hle := takeWhile_le inq r
   unfold quo
   rw [takeWhile_stop (by decide), List.drop_append_of_le_length hle]
   cases hd : r.drop (r.takeWhile inq).length with
   | nil =>
    unfold quo at h
    rw [hd] at h
    cases h
   | cons d tl => rfl
  rename_i h4
  rw [if_neg h4]
  split at h
  ·
   rename_i h5
   rw [if_pos h5, ← h]
   unfold wrd
   rw [← List.cons_append, takeWhile_stop (by decide)]
  cases h
theorem Sc.app {b : Nat} {r : List UInt8} {f : Nat} {ts : List Tok} {o : Option (Nat × Int)} (h : Sc b r f ts o) (ho : o = none) {q : List UInt8} {ts2 : List Tok} {o2 : Option (Nat × Int)} (h2 : Sc (b + r.length + 1) q 2 ts2 o2) : Sc b (r ++ 10 :: q) f (ts ++ ts2) o2 := by
 induction h with
 | nil b f =>
  rw [List.nil_append, List.nil_append]
  have hs : stp (10 :: q) f = .go 1 2 none := by simp only [stp]; rw [if_pos (by decide)]
  exact Sc.more (t := none) (by simp) hs h2
 | bad => cases ho
 | @more b r f f' n t ts o hr hs _ ih =>
  have hp := stp_pos hr hs
  rw [List.append_assoc]
  refine Sc.more (by simp) (stp_app hr hs q) ?_
  rw [List.drop_append_of_le_length hp.2]
  refine ih ho ?_
  rw [List.length_drop, show b + n + (r.length - n) + 1 = b + r.length + 1 by omega]
  exact h2
def Tok.by_ (n : Nat) (t : Tok) : Tok := ⟨t.kind, t.s, t.at_ + n⟩
theorem Sc.moved {b : Nat} {r : List UInt8} {f : Nat} {ts : List Tok} {o : Option (Nat × Int)} (h : Sc b r f ts o) (n : Nat) (ho : o = none) : Sc (b + n) r f (ts.map (Tok.by_ n)) none := by
 induction h with
 | nil => exact .nil _ _
 | bad => cases ho
 | @more b r f f' k t ts o hr hs _ ih =>
  have := ih ho
  rw [List.map_append, show (tokOf b t).map (Tok.by_ n) = tokOf (b + n) t by cases t <;> rfl]
  refine Sc.more hr hs ?_
  rw [show b + n + k = b + k + n by omega]
  exact this
theorem by_bare (n : Nat) (ts : List Tok) : (ts.map (Tok.by_ n)).map Tok.bare = ts.map Tok.bare := by
 rw [List.map_map]
 rfl
end Go.Proofs.YtnadhplhnfpeaaaGreatDoor.Lx
namespace Go.Proofs.YtnadhplhnfpeaaaGreatDoor
theorem goes_res {a b ab : ByteArray} {x y z : Cf} {p q p' q' p2 q2 e2 : Int} (ha : PRes a x p q 0) (hb : PRes b y p' q' 0) (hab : Lx.lst ab = Lx.lst a ++ 10 :: Lx.lst b) (hz : ab.size ≤ 8192) (h : PRes ab z p2 q2 e2) : (e2 = 0 ∧ z = x.app y) ∨ ((e2 = 2 ∨ e2 = 6) ∧ z = .nil) := by
 obtain ⟨ta, ma, _, hsa, hpa⟩ := res_ok ha
 obtain ⟨tb, mb, _, hsb, hpb⟩ := res_ok hb
 have hm := hsb.moved ((Lx.lst a).length + 1) rfl
 have hsab := hsa.app rfl (q := Lx.lst b) (ts2 := tb.map (Lx.Tok.by_ ((Lx.lst a).length + 1))) (o2 := none) (by rw [show 0 + (Lx.lst a).length + 1 = 0 + ((Lx.lst a).length + 1) by omega]; exact hm)
 rw [← hab] at hsab
 have hcount := hsab.count
 have hlen := Lx.lst_size ab
 have key : (∃ m, par ab (ta ++ tb.map (Lx.Tok.by_ ((Lx.lst a).length + 1))) = (some (x.app y), .good [] m)) ∨ ∃ p q, par ab (ta ++ tb.map (Lx.Tok.by_ ((Lx.lst a).length + 1))) = (none, .bad p q 2) ∨ par ab (ta ++ tb.map (Lx.Tok.by_ ((Lx.lst a).length + 1))) = (none, .bad p q 6) := by
  unfold par
  rw [List.map_append]
  have hl := run_like (pCf Kn.fn12 FU FU .nil) (enL a) (enL ab) (0, 0) (0, 0) (tv_bare (l := Lx.lst a) (l' := Lx.lst ab) (ts := ta) rfl)
  have hpa' : (pCf Kn.fn12 FU FU .nil).run (enL a) (ta.map (tvOf (Lx.lst a))) (0, 0) = (some x, .good [] ma) := hpa
  rw [hpa'] at hl
  cases hr : (pCf Kn.fn12 FU FU .nil).run (enL ab) (ta.map (tvOf (Lx.lst ab))) (0, 0) with
  | mk o st =>
   rw [hr] at hl
   obtain rfl : some x = o := hl.1
   obtain ⟨m0, rfl⟩ := cf_ends _ _ _ _ hr
   obtain ⟨G', m', hG, he⟩ := cf_more Kn.fn12 FU FU .nil (enL ab) (enL ab) ((tb.map (Lx.Tok.by_ ((Lx.lst a).length + 1))).map (tvOf (Lx.lst ab))) (l' := (0, 0)) hr FU (by
     rw [← List.map_append, List.length_map]
     show _ < 100001
     omega)
   rw [he]
   have := cf_app Kn.fn12 FU FU G' x .nil (en' := enL ab) (l' := m') (r' := (tb.map (Lx.Tok.by_ ((Lx.lst a).length + 1))).map (tvOf (Lx.lst ab))) hpb (tv_bare (Lx.by_bare _ _).symm) hG
   rw [Cf.app_nil] at this
   exact this
 rcases res_of h hsab hz with ⟨m2, k1, _, _, k4⟩ | ⟨p1, q1, e, k1, k2, k3, k4, k5, k6⟩
 ·
  rcases key with ⟨m, h⟩ | ⟨p, q, h | h⟩
  ·
   rw [h] at k1; cases k1; exact .inl ⟨k4, rfl⟩
  ·
   rw [h] at k1; cases k1
  rw [h] at k1; cases k1
 rcases key with ⟨m, h⟩ | ⟨p, q, h | h⟩
 ·
  rw [h] at k1; cases k1
 ·
  rw [h] at k1; cases k1; exact .inr ⟨.inl k6, k3⟩
 rw [h] at k1; cases k1; exact .inr ⟨.inr k6, k3⟩
end Go.Proofs.YtnadhplhnfpeaaaGreatDoor
namespace Go.Proofs.YtnadhplhnfpeaaaGreatDoor
open Go.RowKit Go.Sort
theorem CfR.below {w w' : World} {c : Cf} {v1 v2 v3 : Value} (h : CfR w c v1 v2 v3) (hb : Below w.heap.size w w') : CfR w' c v1 v2 v3 := ⟨h.1.below LsR.mono hb, h.2.1.below MpR.mono hb, h.2.2.below RtR.mono hb⟩
end Go.Proofs.YtnadhplhnfpeaaaGreatDoor
namespace Go.Proofs.YtnadhplhnfpeaaaGreatDoor
def Pst {α : Type} (P : α → Prop) (g : Pg α) : Prop := ∀ en r l a st, g.run en r l = (some a, st) → P a
theorem Pst.ret {α : Type} {P : α → Prop} {a : α} (h : P a) : Pst P (.ret a) := fun _ _ _ _ _ e => by cases e; exact h
theorem Pst.fail {α : Type} {P : α → Prop} (e : Int) : Pst P (.fail e) := fun _ _ _ _ _ h => by cases h
theorem Pst.next {α : Type} {P : α → Prop} {f : Int → ByteArray → Pg α} (h : ∀ k s, Pst P (f k s)) : Pst P (.next f) := fun en r l a st e => by
  cases r with
  | nil => cases e
  | cons t r => exact h _ _ en r _ a st e
theorem Pst.peek {α : Type} {P : α → Prop} {f : Option (Int × ByteArray) → Pg α} (h : ∀ o, Pst P (f o)) : Pst P (.peek f) := fun en r l a st e => h _ en r l a st e
theorem Pst.bind {α β : Type} {Q : β → Prop} {P : α → Prop} {g : Pg β} {f : β → Pg α} (hg : Pst Q g) (hf : ∀ b, Q b → Pst P (f b)) : Pst P (g.bind f) := fun en r l a st e => by
  rw [run_bind] at e
  cases hr : g.run en r l with
  | mk o st1 =>
    rw [hr] at e
    cases o with
    | none => cases e
    | some b =>
      obtain ⟨u, r', l', rfl, _⟩ := run_some _ _ _ _ hr
      exact hf b (hg en r l b _ hr) en r' l' a st e
theorem Pst.any {α : Type} (g : Pg α) : Pst (fun _ => True) g := fun _ _ _ _ _ _ => trivial
theorem Pst.seq {α β : Type} {P : α → Prop} {g : Pg β} {f : β → Pg α} (hf : ∀ b, Pst P (f b)) : Pst P (g.bind f) := Pst.bind (Pst.any g) fun b _ => hf b
theorem Pst.ite {α : Type} {P : α → Prop} {c : Prop} [Decidable c] {a b : Pg α} (ha : Pst P a) (hb : Pst P b) : Pst P (if c then a else b) := by split; exact ha; exact hb
theorem Pst.room {α : Type} {P : α → Prop} {n m : Nat} {h : Unit → Pg α} (hh : n < m → Pst P (h ())) : Pst P ((room n m).bind h) := by
 rw [room_bind]
 split
 ·
  exact .fail _
 exact hh (by omega)
theorem pst_sev {α : Type} (most : Nat) (th : Int → ByteArray → Pg α) (f : Nat) (l : List α) : Pst (fun l => l.length ≤ most) (pSev most th f l) := by
 induction f generalizing l with
 | zero => exact .next fun _ _ => .fail _
 | succ f ih =>
  refine .next fun k s => .seq fun x => .room fun h => .peek fun o => .ite (.ret ?_) (ih _)
  simp only [List.length_append, List.length_cons, List.length_nil]
  omega
theorem pst_blk {σ : Type} {I : σ → Prop} {part : σ → Int → ByteArray → Pg σ} (h : ∀ x k s, I x → Pst I (part x k s)) (f : Nat) (x : σ) (hx : I x) : Pst I (pBlk part f x) := by
 induction f generalizing x with
 | zero => exact .fail _
 | succ f ih => exact .next fun k s => .ite (.ret hx) ((h x k s hx).bind fun y hy => ih y hy)
theorem pst_br {σ : Type} {I : σ → Prop} {part : σ → Int → ByteArray → Pg σ} (h : ∀ x k s, I x → Pst I (part x k s)) (f : Nat) (x : σ) (hx : I x) : Pst I (pBr part f x) := .seq fun _ => pst_blk h f x hx
section
variable (F : Fn)
theorem pst_list (f : Nat) (old : List ByteArray) : Pst (fun l => l.rules.length ≤ 16) (pList F f old) := by
 refine .seq fun x => Pst.bind (Q := fun l : List Rg => l.length ≤ 16) (pst_br (fun l k s hl => ?_) f [] (by simp)) fun l hl => .ret hl
 refine .seq fun ok => .room fun h => .seq fun r => .ret ?_
 simp only [List.length_append, List.length_cons, List.length_nil]
 omega
def ICs (c : Cs) : Prop := c.s.add.length ≤ 8 ∧ c.s.del.length ≤ 8 ∧ c.s.prep.length ≤ 16
theorem pst_match (c : Cs) (h : ICs c) : Pst ICs (pMatch F c) := by
 refine .next fun k s => .ite ?_ (.ite ?_ (.ite ?_ (.fail _)))
 all_goals exact .seq fun ms => .next fun k s => .seq fun x => .ret h
theorem pst_setC (f : Nat) (c : Cs) (h : ICs c) : Pst ICs (pSetC F f c) := by
 obtain ⟨h1, h2, h3⟩ := h
 refine .next fun k s => .ite ?_ (.ite ?_ (.ite ?_ (.fail _)))
 ·
  exact .seq fun ss => Pst.bind (pst_sev 8 (pCom F) f []) fun l hl => .ret ⟨hl, h2, h3⟩
 ·
  exact .seq fun ss => Pst.bind (pst_sev 8 (pCom F) f []) fun l hl => .ret ⟨h1, hl, h3⟩
 exact .seq fun ss => .ret ⟨h1, h2, h3⟩
theorem pst_set (f : Nat) (c : Cs) (h : ICs c) : Pst ICs (pSet F f c) := by
 refine .next fun k s => .ite ?_ (.ite ?_ (.ite ?_ (.ite ?_ (.ite ?_ (.fail _)))))
 ·
  exact .seq fun ss => .next fun k s => .seq fun x => .ret h
 ·
  exact .seq fun ss => .next fun k s => .seq fun x => .ret h
 ·
  exact .seq fun ss => .next fun k s => .seq fun x => .ret h
 ·
  exact pst_setC F f c h
 exact .seq fun ss => Pst.bind (pst_sev 16 (pNum F 1 65535) f []) fun l hl => .ret ⟨h.1, h.2.1, hl⟩
theorem pst_clause (f : Nat) : Pst ICs (pClause F f) := by
 refine pst_br (fun c k s hc => ?_) f zeroCs ⟨by simp [zeroCs], by simp [zeroCs], by simp [zeroCs]⟩
 refine Pst.bind (Q := ICs) (.ite (pst_match F c hc) (.ite (pst_set F f c hc) (.fail _))) fun c hc => .seq fun _ => .ret hc
theorem pst_map (f : Nat) (old : List ByteArray) : Pst (fun m => m.cls.length ≤ 16 ∧ ∀ x ∈ m.cls, FewCl x) (pMap F f old) := by
 refine .seq fun x => Pst.bind (Q := fun l : List Cl => l.length ≤ 16 ∧ ∀ x ∈ l, FewCl x) (pst_br (fun l k s hl => ?_) f [] ⟨by simp, by simp⟩) fun l hl => .ret hl
 refine .seq fun ok => .room fun h => .next fun k s => .seq fun n => Pst.bind (pst_clause F f) fun c hc => .ret ⟨?_, ?_⟩
 ·
  simp only [List.length_append, List.length_cons, List.length_nil]
  omega
 intro y hy
 rcases List.mem_append.1 hy with hy | hy
 ·
  exact hl.2 y hy
 simp only [List.mem_cons, List.not_mem_nil, or_false] at hy
 subst hy
 obtain ⟨h1, h2, h3⟩ := hc
 exact ⟨Nat.le_trans h1 (by decide), Nat.le_trans h2 (by decide), Nat.le_trans h3 (by decide)⟩
def IRs (x : Rs) : Prop := x.r.nets.length ≤ 16 ∧ x.r.nbs.length ≤ 16 ∧ x.r.links.length ≤ 16
theorem len_one {α : Type} {l : List α} {x : α} (h : l.length < 16) : (l ++ [x]).length ≤ 16 := by
 simp only [List.length_append, List.length_cons, List.length_nil]
 omega
theorem pst_router (f : Nat) (old : List ByteArray) : Pst FewRt (pRouter F f old) := by
 refine .seq fun x => Pst.bind (Q := IRs) (pst_br (fun y k s hy => ?_) f _ ⟨by simp, by simp, by simp⟩) fun r hr => .ite (.fail _) (.ret ⟨Nat.le_trans hr.1 (by decide), Nat.le_trans hr.2.1 (by decide), Nat.le_trans hr.2.2 (by decide)⟩)
 obtain ⟨h1, h2, h3⟩ := hy
 refine Pst.bind (Q := IRs) ?_ fun z hz => .seq fun _ => .ret hz
 refine .ite ?_ (.ite ?_ (.ite ?_ (.ite ?_ (.ite ?_ (.fail _)))))
 ·
  exact .seq fun ns => .next fun k s => .seq fun n => .ret ⟨h1, h2, h3⟩
 ·
  exact .seq fun ns => .next fun k s => .seq fun n => .ret ⟨h1, h2, h3⟩
 ·
  exact .room fun h => .seq fun n => .ret ⟨len_one h, h2, h3⟩
 ·
  exact .room fun h => .seq fun n => .ret ⟨h1, len_one h, h3⟩
 exact .room fun h => .seq fun n => .ret ⟨h1, h2, len_one h⟩
theorem mem_or {α : Type} {P : α → Prop} {l m : List α} (h : ∀ x ∈ l, P x) (k : ∀ x ∈ m, P x) : ∀ x ∈ l ++ m, P x := fun x hx => (List.mem_append.1 hx).elim (h x) (k x)
theorem mem_one {α : Type} {P : α → Prop} {a : α} (h : P a) : ∀ x ∈ [a], P x := fun x hx => by
  simp only [List.mem_cons, List.not_mem_nil, or_false] at hx
  rw [hx]
  exact h
theorem FewN.app {n m : Nat} {c d : Cf} (h : FewN n c) (k : FewN m d) : FewN (n + m) (c.app d) :=
  ⟨by rw [Cf.app, List.length_append]; exact Nat.add_le_add h.lists k.lists, mem_or h.rules k.rules, by rw [Cf.app, List.length_append]; exact Nat.add_le_add h.maps k.maps, mem_or h.cls k.cls, mem_or h.cl k.cl, by rw [Cf.app, List.length_append]; exact Nat.add_le_add h.routers k.routers, mem_or h.rt k.rt⟩
theorem pst_item (f : Nat) (c : Cf) (k : Int) (s : ByteArray) (h : FewN 16 c) : Pst (FewN 16) (pItem F f c k s) := by
 refine .ite ?_ (.ite ?_ (.ite ?_ (.fail _)))
 ·
  exact .room fun hr => Pst.bind (pst_list F f _) fun l hl => .ret ⟨len_one hr, mem_or h.rules (mem_one (Nat.le_trans hl (by decide))), h.maps, h.cls, h.cl, h.routers, h.rt⟩
 ·
  exact .room fun hr => Pst.bind (pst_map F f _) fun m hm => .ret ⟨h.lists, h.rules, len_one hr, mem_or h.cls (mem_one (Nat.le_trans hm.1 (by decide))), mem_or h.cl (mem_one hm.2), h.routers, h.rt⟩
 exact .room fun hr => Pst.bind (pst_router F f _) fun r hm => .ret ⟨h.lists, h.rules, h.maps, h.cls, h.cl, len_one (Nat.lt_of_lt_of_le hr (by decide)), mem_or h.rt (mem_one hm)⟩
theorem pst_cf (f g : Nat) (c : Cf) (h : FewN 16 c) : Pst (FewN 16) (pCf F f g c) := by
 induction g generalizing c with
 | zero => exact .fail _
 | succ g ih => exact .peek fun o => .ite (.ret h) (.next fun k s => Pst.bind (pst_item F f c k s h) fun d hd => ih d hd)
end
theorem res_few {s : ByteArray} {c : Cf} {p q : Int} (h : PRes s c p q 0) : FewN 16 c := by
 obtain ⟨ts, m, _, _, hp⟩ := res_ok h
 exact pst_cf _ _ _ _ few_nil _ _ _ _ _ hp
end Go.Proofs.YtnadhplhnfpeaaaGreatDoor
namespace Go.Proofs.YtnadhplhnfpeaaaGreatDoor
open Go.RowKit Go.Sort
def OwnR {α : Type} (W0 w : World) (ty z : Nat) (R : World → α → List Value → Prop) (v : Value) (l : List α) : Prop := ∃ xs, Al (R W0) l xs ∧ w.ownsRow W0.heap.size ty z v l.length xs.flatten
theorem ownR_nil {α : Type} (W0 w : World) (ty z : Nat) (R : World → α → List Value → Prop) : OwnR W0 w ty z R (.slice none 0 0) [] := ⟨[], trivial, World.ownsRow_nil _ _ _ _⟩
theorem OwnR.rd {α : Type} {W0 w : World} {ty z : Nat} {R : World → α → List Value → Prop} {v : Value} {l : List α} (hz : 0 < z) (hR : ∀ w a x, R w a x → x.length = z) (hm : Mono R) (h : OwnR W0 w ty z R v l) (hb : Below W0.heap.size W0 w) : Rd w z R v l := by
 obtain ⟨xs, ha, ho⟩ := h
 exact rd_own hz (hR w) (ha.mono fun _ _ => hm _ _ _ _ hb) ho
theorem OwnR.kept {α : Type} {W0 w w' : World} {ty z : Nat} {R : World → α → List Value → Prop} {v : Value} {l : List α} {row : Option Nat} (h : OwnR W0 w ty z R v l) (hg : w.grownBy w' row) (hne : v.ownBlock = none ∨ v.ownBlock ≠ row) : OwnR W0 w' ty z R v l := by
 obtain ⟨xs, ha, ho⟩ := h
 exact ⟨xs, ha, ho.kept hg hne⟩
theorem OwnR.keptBelow {α : Type} {W0 w w' : World} {ty z : Nat} {R : World → α → List Value → Prop} {v : Value} {l : List α} (h : OwnR W0 w ty z R v l) (hg : Below w.heap.size w w') : OwnR W0 w' ty z R v l := by
 obtain ⟨xs, ha, ho⟩ := h
 exact ⟨xs, ha, row_of ho (fun g hgg => hg.block g (ho.lt g hgg).2)⟩
theorem rd_cells {α : Type} {w : World} {z b : Nat} {R : World → α → List Value → Prop} (hR : ∀ a x, R w a x → x.length = z) : ∀ (m : List α) (off : Nat), (∀ j (h : j < m.length), ∃ xs, R w m[j] xs ∧ xs ≠ [] ∧ ∀ i u, xs[i]? = some u → w.cell? ⟨b, off + j * z + i, none⟩ = some u) → ∃ yss, Al (R w) m yss ∧ ∀ j u, yss.flatten[j]? = some u → w.cell? ⟨b, off + j, none⟩ = some u
  | [], _, _ => ⟨[], trivial, by simp⟩
  | a :: m, off, h => by
    obtain ⟨x, h1, _, h3⟩ := h 0 (by simp)
    have hx := hR _ _ h1
    obtain ⟨yss, h4, h5⟩ := rd_cells hR m (off + z) (fun j hj => by
      obtain ⟨y, k1, k2, k3⟩ := h (j + 1) (by simpa using hj)
      refine ⟨y, k1, k2, fun i u hu => ?_⟩
      have := k3 i u hu
      rw [show off + (j + 1) * z + i = off + z + j * z + i by rw [Nat.succ_mul]; omega] at this
      exact this)
    refine ⟨x :: yss, ⟨h1, h4⟩, fun j u hu => ?_⟩
    rw [List.flatten_cons] at hu
    rcases Nat.lt_or_ge j x.length with hj | hj
    · rw [List.getElem?_append_left hj] at hu
      have := h3 j u hu
      rw [Nat.zero_mul, Nat.add_zero] at this
      exact this
    · rw [List.getElem?_append_right hj] at hu
      have := h5 _ u hu
      rw [show off + z + (j - x.length) = off + j by omega] at this
      exact this
theorem al_flat_len {α : Type} {R : α → List Value → Prop} {z : Nat} (hR : ∀ a x, R a x → x.length = z) : ∀ {l : List α} {xs : List (List Value)}, Al R l xs → xs.flatten.length = l.length * z
  | [], [], _ => by simp
  | _ :: l, x :: xs, ⟨h1, h2⟩ => by
    rw [List.flatten_cons, List.length_append, al_flat_len hR h2, hR _ _ h1, List.length_cons, Nat.succ_mul]
    omega
  | [], _ :: _, h => h.elim
  | _ :: _, [], h => h.elim
theorem al_flat_one {α : Type} {R : α → List Value → Prop} (hR : ∀ a x, R a x → ∀ u ∈ x, u.oneCell' = true) : ∀ {l : List α} {xs : List (List Value)}, Al R l xs → ∀ u ∈ xs.flatten, u.oneCell' = true
  | [], [], _, u, hu => by simp at hu
  | _ :: l, x :: xs, ⟨h1, h2⟩, u, hu => by
    rw [List.flatten_cons] at hu
    rcases List.mem_append.1 hu with hu | hu
    · exact hR _ _ h1 u hu
    · exact al_flat_one hR h2 u hu
  | [], _ :: _, h, _, _ => h.elim
  | _ :: _, [], h, _, _ => h.elim
theorem addr_add (b o j : Nat) : (⟨b, o, none⟩ : Addr).add j = ⟨b, o + j, none⟩ := by
 by_cases h0 : j = 0
 ·
  simp [Addr.add, h0]
 simp only [Addr.add, h0]
 rfl
theorem wp_append_rd {P : Program} {α : Type} {R : World → α → List Value → Prop} (_hm : Mono R) {z : Nat} (hz : 0 < z) (hR : ∀ w a x, R w a x → x.length = z) (h1 : ∀ w a x, R w a x → ∀ u ∈ x, u.oneCell' = true) (W0 w : World) {o : Oper} {a : Act} {K : Act → World → Prop} {Q : Exit → Act → World → Prop} (s x : Operand) (t : TypeId)
    (ho : o.op = .call { callee := .builtin .append, args := #[s, x], argTypes := #[t, t] }) (e : TypeId) (i : TypeInfo) (zv : Value) (bytes : Nat) (ht : P.underlying t = some (.slice e)) (hi : P.info? e = some i) (hzv : i.zero = some zv) (hsize : i.size = z) (hby : i.bytes = bytes) (hzs : zv.cells.size = z) (hb1 : bytes ≤ 1000)
    {l m : List α} (v : Value) {ao : Option Addr} {n c : Nat} (hs : a.eval s = v) (hx : a.eval x = .slice ao n c) (hv : OwnR W0 w e z R v l) (hu : Rd W0 z R (.slice ao n c) m) (hc : ao = none → c = 0) (hw : Below W0.heap.size W0 w) (hlen : l.length + m.length ≤ 100000)
    (h : ∀ v' w', OwnR W0 w' e z R v' (l ++ m) → w.grownBy w' v.ownBlock → Below W0.heap.size W0 w' → K (a.put o.dst v') w') : o.wp P a w K Q := by
  obtain ⟨xs, hax, how⟩ := hv
  obtain ⟨ao', c', hv', hu⟩ := hu
  cases hv'
  cases ao with
  | none =>
    obtain rfl := hc rfl
    have hm0 : m = [] := by
      rcases hu with h | ⟨b, off, h, _⟩
      · exact h
      · cases h
    subst hm0
    have hrun := run_append_owned_none (P := P) (w := w) W0.heap.size t o.type e i z ht hi v l.length xs.flatten how
    unfold Oper.wp execOp
    simp only [ho, resolve, invoke, builtin, Sem.run_bind, Sem.run_pure, Result.andThen_ok, List.map_toArray, List.map_cons, List.map_nil, hs, hx, List.length_nil, hrun]
    refine h v w ?_ (World.grownBy.refl w _) hw
    rw [List.append_nil]
    exact ⟨xs, hax, how⟩
  | some ad =>
    have key : ∃ yss, Al (R W0) m yss ∧ ∀ j u, yss.flatten[j]? = some u → w.cell? (ad.add j) = some u := by
      rcases hu with rfl | ⟨b, off, hab, hr⟩
      · exact ⟨[], trivial, by simp⟩
      · cases hab
        obtain ⟨yss, k1, k2⟩ := rd_cells (hR W0) m off hr
        refine ⟨yss, k1, fun j u hu => ?_⟩
        rw [addr_add]
        have k := k2 j u hu
        exact (hw.cell (p := ⟨b, off + j, none⟩) (World.block_lt_of_cell? W0 _ k)).trans k
    obtain ⟨yss, hay, hcell⟩ := key
    refine wp_append_own w s x t ho W0.heap.size e i zv z bytes ht hi hzv hsize hby hzs hz v l.length xs.flatten hs how ad m.length c yss.flatten hx (al_flat_len (hR W0) hay) hcell (al_flat_one (h1 W0) hay) (by unfold maxLen; omega) ?_ hw.size ?_
    · have : (l.length + m.length) * bytes ≤ 100000 * 1000 := Nat.mul_le_mul hlen hb1
      omega
    · intro v' w' h3 h4 _
      refine h v' w' ⟨xs ++ yss, hax.app hay, ?_⟩ h4 (Below.grown hw h4 hw.size (fun j hj => (how.lt j hj).1))
      rw [List.flatten_append, List.length_append]
      exact h3
theorem LsR.one {w : World} {c : Ls} {x : List Value} (h : LsR w c x) : ∀ u ∈ x, u.oneCell' = true := by
 obtain ⟨v, rfl, hv⟩ := h
 obtain ⟨a, b, rfl, _⟩ := hv
 intro u hu
 simp only [List.mem_cons, List.not_mem_nil, or_false] at hu
 rcases hu with rfl | rfl <;> rfl
theorem MpR.one {w : World} {c : Mp} {x : List Value} (h : MpR w c x) : ∀ u ∈ x, u.oneCell' = true := by
 obtain ⟨v, rfl, hv⟩ := h
 obtain ⟨a, b, rfl, _⟩ := hv
 intro u hu
 simp only [List.mem_cons, List.not_mem_nil, or_false] at hu
 rcases hu with rfl | rfl <;> rfl
theorem RtR.one {w : World} {c : Rt} {x : List Value} (h : RtR w c x) : ∀ u ∈ x, u.oneCell' = true := by
 obtain ⟨v1, v2, v3, rfl, ⟨a1, b1, rfl, _⟩, ⟨a2, b2, rfl, _⟩, ⟨a3, b3, rfl, _⟩⟩ := h
 intro u hu
 simp only [List.mem_cons, List.not_mem_nil, or_false] at hu
 rcases hu with rfl | rfl | rfl | rfl | rfl | rfl <;> rfl
theorem OwnR.typed {α : Type} {W0 w : World} {ty z : Nat} {R : World → α → List Value → Prop} {v : Value} {l : List α} (h : OwnR W0 w ty z R v l) : ∀ g, v.ownBlock = some g → W0.heap.size ≤ g ∧ g < w.heap.size ∧ ∃ cs, w.heap[g]? = some (.cells cs ty (0, 0)) := by
 obtain ⟨xs, _, ho⟩ := h
 exact fun g hg => ⟨(ho.lt g hg).1, (ho.lt g hg).2, own_cells ho g hg⟩
theorem OwnR.apart {α β : Type} {W0 w : World} {ty z ty' z' : Nat} {R : World → α → List Value → Prop} {R' : World → β → List Value → Prop} {v v' : Value} {l : List α} {l' : List β} (h : OwnR W0 w ty z R v l) (h' : OwnR W0 w ty' z' R' v' l') (hne : ty ≠ ty') : v.ownBlock = none ∨ v.ownBlock ≠ v'.ownBlock := by
 cases hv : v.ownBlock with
 | none => exact .inl rfl
 | some g =>
  refine .inr fun e => ?_
  obtain ⟨_, _, cs, h1⟩ := h.typed g hv
  obtain ⟨_, _, cs', h2⟩ := h'.typed g e.symm
  rw [h1] at h2
  cases h2
  exact hne rfl
end Go.Proofs.YtnadhplhnfpeaaaGreatDoor
