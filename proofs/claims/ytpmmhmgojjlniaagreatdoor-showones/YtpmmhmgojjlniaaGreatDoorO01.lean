/- What is parsed, step by step: trees of steps; what they make of tokens. -/
import Derived.Test.YtpmmhmgojjlniaaGreatDoorProg
namespace Go.Proofs.YtpmmhmgojjlniaaGreatDoor

/-- A token as it lies there. -/
structure Tv where
  k : Int
  s : ByteArray
  p : Int
  q : Int
/-- Steps: an answer; a fault at the last token; a token is taken; the next one is looked at. -/
inductive Pg (α : Type) where
  | ret (a : α)
  | fail (e : Int)
  | next (k : Int → ByteArray → Pg α)
  | peek (k : Option (Int × ByteArray) → Pg α)
def Pg.bind {α β : Type} : Pg α → (α → Pg β) → Pg β
  | .ret a, h => h a
  | .fail e, _ => .fail e
  | .next k, h => .next fun x s => (k x s).bind h
  | .peek k, h => .peek fun o => (k o).bind h
/-- Where a parser stands: tokens that are left, and the last one's place; or a fault. -/
inductive Sta where
  | good (r : List Tv) (l : Int × Int)
  | bad (p q e : Int)
def Tv.bare (t : Tv) : Int × ByteArray := (t.k, t.s)
def Pg.run {α : Type} (en : Int × Int) : Pg α → List Tv → Int × Int → Option α × Sta
  | .ret a, r, l => (some a, .good r l)
  | .fail e, _, l => (none, .bad l.1 l.2 e)
  | .next _, [], _ => (none, .bad en.1 en.2 3)
  | .next k, t :: r, _ => (k t.k t.s).run en r (t.p, t.q)
  | .peek k, r, l => (k (r.head?.map Tv.bare)).run en r l
def Pg.exec {α : Type} (en : Int × Int) (g : Pg α) : Sta → Option α × Sta
  | .good r l => g.run en r l
  | .bad p q e => (none, .bad p q e)
theorem run_bind {α β : Type} (en : Int × Int) (g : Pg α) (h : α → Pg β) (r : List Tv) (l : Int × Int) : (g.bind h).run en r l = match g.run en r l with
    | (some a, st) => (h a).exec en st
    | (none, st) => (none, st) := by
  induction g generalizing r l with
  | ret a => rfl
  | fail e => rfl
  | next k ih =>
    cases r with
    | nil => rfl
    | cons t r => exact ih t.k t.s r (t.p, t.q)
  | peek k ih => exact ih _ r l
theorem run_none {α : Type} (en : Int × Int) (g : Pg α) (r : List Tv) (l : Int × Int) {st : Sta} (h : g.run en r l = (none, st)) : ∃ p q e, st = .bad p q e := by
  induction g generalizing r l with
  | ret a => cases h
  | fail e => cases h; exact ⟨_, _, _, rfl⟩
  | next k ih =>
    cases r with
    | nil => cases h; exact ⟨_, _, _, rfl⟩
    | cons t r => exact ih _ _ _ _ h
  | peek k ih => exact ih _ _ _ h
theorem run_some {α : Type} (en : Int × Int) (g : Pg α) (r : List Tv) (l : Int × Int) {a : α} {st : Sta} (h : g.run en r l = (some a, st)) : ∃ u r' l', st = .good r' l' ∧ r = u ++ r' := by
  induction g generalizing r l with
  | ret b => cases h; exact ⟨[], r, l, rfl, rfl⟩
  | fail e => cases h
  | next k ih =>
    cases r with
    | nil => cases h
    | cons t r =>
      obtain ⟨u, r', l', h1, h2⟩ := ih _ _ _ _ h
      exact ⟨t :: u, r', l', h1, by rw [h2]; rfl⟩
  | peek k ih => exact ih _ _ _ h
theorem exec_bind {α β : Type} (en : Int × Int) (g : Pg α) (h : α → Pg β) (st : Sta) : (g.bind h).exec en st = match g.exec en st with
    | (some a, st) => (h a).exec en st
    | (none, st) => (none, st) := by
  cases st with
  | good r l => exact run_bind en g h r l
  | bad p q e => rfl
theorem bind_assoc {α β γ : Type} (g : Pg α) (h : α → Pg β) (k : β → Pg γ) : (g.bind h).bind k = g.bind fun a => (h a).bind k := by
  induction g with
  | ret a => rfl
  | fail e => rfl
  | next f ih => simp only [Pg.bind]; congr; funext x s; exact ih x s
  | peek f ih => simp only [Pg.bind]; congr; funext o; exact ih o
/-- Steps that end too early where nothing is left to be looked at. -/
inductive Wf {α : Type} : Pg α → Prop
  | ret (a : α) : Wf (.ret a)
  | fail (e : Int) : Wf (.fail e)
  | next {k : Int → ByteArray → Pg α} : (∀ x s, Wf (k x s)) → Wf (.next k)
  | peek {k : Option (Int × ByteArray) → Pg α} : (∀ o, Wf (k o)) → (∀ en l, (k none).run en [] l = (none, .bad en.1 en.2 3)) → Wf (.peek k)
theorem Wf.bind {α β : Type} {g : Pg α} (hg : Wf g) {h : α → Pg β} (hh : ∀ a, Wf (h a)) : Wf (g.bind h) := by
  induction hg with
  | ret a => exact hh a
  | fail e => exact .fail e
  | next _ ih => exact .next fun x s => ih x s
  | @peek k _ hn ih =>
    refine .peek (fun o => ih o) fun en l => ?_
    rw [run_bind, hn]
/-- A beginning of what is parsed ends too early, or is parsed up to there. -/
theorem Wf.cut {α : Type} {g : Pg α} (hg : Wf g) (en en' : Int × Int) {u v : List Tv} {l l' : Int × Int} {a : α} {st : Sta} (h : g.run en (u ++ v) l = (some a, st)) : (∃ u' m m', st = .good (u' ++ v) m ∧ g.run en' u l' = (some a, .good u' m')) ∨ g.run en' u l' = (none, .bad en'.1 en'.2 3) := by
  induction hg generalizing u l l' with
  | ret b => cases h; exact .inl ⟨u, _, _, rfl, rfl⟩
  | fail e => cases h
  | next _ ih =>
    cases u with
    | nil => exact .inr rfl
    | cons t u => exact ih _ _ h
  | @peek k _ hn ih =>
    cases u with
    | nil => exact .inr (hn en' l')
    | cons t u => exact ih _ h
/-- More behind what is parsed makes no difference. -/
theorem Wf.more {α : Type} {g : Pg α} (hg : Wf g) (en en' : Int × Int) {u u' : List Tv} (v : List Tv) {l l' m : Int × Int} {a : α} (h : g.run en u l = (some a, .good u' m)) : ∃ m', g.run en' (u ++ v) l' = (some a, .good (u' ++ v) m') := by
  induction hg generalizing u l l' with
  | ret b => cases h; exact ⟨_, rfl⟩
  | fail e => cases h
  | next _ ih =>
    cases u with
    | nil => cases h
    | cons t u => exact ih _ _ h
  | @peek k _ hn ih =>
    cases u with
    | nil =>
      have := hn en l
      rw [show (Pg.peek k).run en [] l = (k none).run en [] l from rfl, this] at h
      cases h
    | cons t u => exact ih _ h
/-- Places make no difference but to where a fault is. -/
def Sta.like : Sta → Sta → Prop
  | .good r _, .good r' _ => r.map Tv.bare = r'.map Tv.bare
  | .bad _ _ e, .bad _ _ e' => e = e'
  | _, _ => False
theorem run_like {α : Type} (g : Pg α) (en en' : Int × Int) {r r' : List Tv} (l l' : Int × Int) (h : r.map Tv.bare = r'.map Tv.bare) : (g.run en r l).1 = (g.run en' r' l').1 ∧ (g.run en r l).2.like (g.run en' r' l').2 := by
  induction g generalizing r r' l l' with
  | ret a => exact ⟨rfl, h⟩
  | fail e => exact ⟨rfl, rfl⟩
  | next k ih =>
    cases r with
    | nil =>
      cases r' with
      | nil => exact ⟨rfl, rfl⟩
      | cons t r' => simp at h
    | cons t r =>
      cases r' with
      | nil => simp at h
      | cons t' r' =>
        simp only [List.map_cons, List.cons.injEq] at h
        have hk : t.k = t'.k := congrArg Prod.fst h.1
        have hs : t.s = t'.s := congrArg Prod.snd h.1
        show ((k t.k t.s).run en r _).1 = ((k t'.k t'.s).run en' r' _).1 ∧ _
        rw [hk, hs]
        have := ih t'.k t'.s (t.p, t.q) (t'.p, t'.q) h.2
        refine ⟨this.1, ?_⟩
        show ((k t.k t.s).run en r _).2.like _
        rw [hk, hs]
        exact this.2
  | peek k ih =>
    have hh : r.head?.map Tv.bare = r'.head?.map Tv.bare := by rw [← List.head?_map, ← List.head?_map, h]
    show ((k (r.head?.map Tv.bare)).run en r l).1 = ((k (r'.head?.map Tv.bare)).run en' r' l').1 ∧ ((k (r.head?.map Tv.bare)).run en r l).2.like ((k (r'.head?.map Tv.bare)).run en' r' l').2
    rw [hh]
    exact ih _ l l' h
end Go.Proofs.YtpmmhmgojjlniaaGreatDoor
namespace Go.Proofs.YtpmmhmgojjlniaaGreatDoor

structure Rg where
  ad : Int
  bits : Int
  ge : Int
  le : Int
  ok : Bool
structure Mt where
  list : ByteArray
  path : ByteArray
  ca : Int
  cn : Int
structure Se where
  pref : Int
  med : Int
  org : Int
  add : List (Int × Int)
  del : List (Int × Int)
  clr : Bool
  prep : List Int
structure Cl where
  n : Int
  ok : Bool
  m : Mt
  s : Se
structure Ls where
  name : ByteArray
  rules : List Rg
structure Mp where
  name : ByteArray
  cls : List Cl
structure Nb where
  name : ByteArray
  imp : ByteArray
  exp : ByteArray
  client : Bool
structure Lk where
  name : ByteArray
  cost : Int
structure Rt where
  name : ByteArray
  asn : Int
  id : Int
  nets : List (Int × Int)
  nbs : List Nb
  links : List Lk
structure Cf where
  lists : List Ls
  maps : List Mp
  routers : List Rt
/-- What the layers below tell of a text. -/
structure Fn where
  nam : ByteArray → Int
  num : ByteArray → Int → Int → Int × Int
  pfx : ByteArray → Int × Int × Int
  com : ByteArray → Int × Int × Int
  asr : ByteArray → Int
  may : Rg → Bool
abbrev bs (l : List UInt8) : ByteArray := ⟨l.toArray⟩
def wd (k : Int) (s : ByteArray) : ByteArray := if k = 0 then s else bs []
def isM (m : UInt8) (k : Int) (s : ByteArray) : Prop := k = 2 ∧ s = bs [m]
instance (m : UInt8) (k : Int) (s : ByteArray) : Decidable (isM m k s) := inferInstanceAs (Decidable (_ ∧ _))
def chk (e : Int) : Pg Unit := if e = 0 then .ret () else .fail e
def pMark (m : UInt8) : Pg Unit := .next fun k s => if isM m k s then .ret () else .fail 4
def pKey (x : ByteArray) : Pg Unit := .next fun k s => if wd k s = x then .ret () else .fail 4
def isW (x : ByteArray) : Option (Int × ByteArray) → Bool
  | none => false
  | some (k, s) => decide (wd k s = x)
def pOpt (x : ByteArray) : Pg Bool := .peek fun o => if isW x o = true then .next fun _ _ => .ret true else .ret false
def isE : Option (Int × ByteArray) → Bool
  | none => false
  | some (k, s) => decide (isM 59 k s)
section
variable (F : Fn)
def pName (k : Int) (s : ByteArray) : Pg ByteArray := (chk (F.nam (wd k s))).bind fun _ => .ret s
def inB (old : List ByteArray) (s : ByteArray) : Bool := old.any fun x => decide (x = s)
def pNew (old : List ByteArray) : Pg ByteArray := .next fun k s => (pName F k s).bind fun x => if inB old s = true then .fail 6 else .ret x
def pNum (a b : Int) (k : Int) (s : ByteArray) : Pg Int := (chk (F.num (wd k s) a b).2).bind fun _ => .ret (F.num (wd k s) a b).1
def pPfx (k : Int) (s : ByteArray) : Pg (Int × Int) := (chk (F.pfx (wd k s)).2.2).bind fun _ => .ret ((F.pfx (wd k s)).1, (F.pfx (wd k s)).2.1)
def pCom (k : Int) (s : ByteArray) : Pg (Int × Int) := (chk (F.com (wd k s)).2.2).bind fun _ => .ret ((F.com (wd k s)).1, (F.com (wd k s)).2.1)
def pAsr (k : Int) (s : ByteArray) : Pg ByteArray := (chk (if k = 1 then 0 else 4)).bind fun _ => (chk (F.asr s)).bind fun _ => .ret s
def room (n most : Nat) : Pg Unit := if most ≤ n then .fail 2 else .ret ()
/-- One thing or more, up to the mark behind. -/
def pSev {α : Type} (most : Nat) (th : Int → ByteArray → Pg α) : Nat → List α → Pg (List α)
  | 0, _ => .next fun _ _ => .fail 0
  | f + 1, l => .next fun k s => (th k s).bind fun x => (room l.length most).bind fun _ => .peek fun o => if isE o = true then .ret (l ++ [x]) else pSev most th f (l ++ [x])
def wGe : ByteArray := bs [103, 101]
def wLe : ByteArray := bs [108, 101]
def pBound (x : ByteArray) (set : Rg → Int → Rg) (r : Rg) : Pg Rg := (pOpt x).bind fun b => if b = true then .next fun k s => (pNum F 0 9223372036854775807 k s).bind fun n => if F.may (set r n) = true then .ret (set r n) else .fail 7 else .ret r
def setGe (r : Rg) (n : Int) : Rg := ⟨r.ad, r.bits, n, n, r.ok⟩
def setLe (r : Rg) (n : Int) : Rg := ⟨r.ad, r.bits, r.ge, n, r.ok⟩
def pRule (ok : Bool) : Pg Rg := .next fun k s => (pPfx F k s).bind fun x => (pBound F wGe setGe ⟨x.1, x.2, x.2, x.2, ok⟩).bind fun r => (pBound F wLe setLe r).bind fun r => (pMark 59).bind fun _ => .ret r
def wPermit : ByteArray := bs [112, 101, 114, 109, 105, 116]
def wDeny : ByteArray := bs [100, 101, 110, 121]
def pOk (k : Int) (s : ByteArray) : Pg Bool := if wd k s = wPermit then .ret true else if wd k s = wDeny then .ret false else .fail 4
/-- Parts in braces, behind the first one. -/
def pBlk {σ : Type} (part : σ → Int → ByteArray → Pg σ) : Nat → σ → Pg σ
  | 0, _ => .fail 0
  | f + 1, x => .next fun k s => if isM 125 k s then .ret x else (part x k s).bind fun y => pBlk part f y
def pBr {σ : Type} (part : σ → Int → ByteArray → Pg σ) (f : Nat) (x : σ) : Pg σ := (pMark 123).bind fun _ => pBlk part f x
def pListPart (l : List Rg) (k : Int) (s : ByteArray) : Pg (List Rg) := (pOk k s).bind fun ok => (room l.length 16).bind fun _ => (pRule F ok).bind fun r => .ret (l ++ [r])
def pList (f : Nat) (old : List ByteArray) : Pg Ls := (pNew F old).bind fun x => (pBr (pListPart F) f []).bind fun l => .ret ⟨x, l⟩
/-- What a clause has so far: and which kinds were told. -/
structure Cs where
  m : Mt
  s : Se
  ms : List ByteArray
  ss : List ByteArray
def once (old : List ByteArray) (s : ByteArray) : Pg (List ByteArray) := if inB old s = true then .fail 6 else .ret (old ++ [s])
def wPrefix : ByteArray := bs [112, 114, 101, 102, 105, 120]
def wPath : ByteArray := bs [112, 97, 116, 104]
def wComm : ByteArray := bs [99, 111, 109, 109, 117, 110, 105, 116, 121]
def wPref : ByteArray := bs [112, 114, 101, 102]
def wMed : ByteArray := bs [109, 101, 100]
def wOrigin : ByteArray := bs [111, 114, 105, 103, 105, 110]
def wPrepend : ByteArray := bs [112, 114, 101, 112, 101, 110, 100]
def wAdd : ByteArray := bs [97, 100, 100]
def wDel : ByteArray := bs [100, 101, 108]
def wClear : ByteArray := bs [99, 108, 101, 97, 114]
def wIgp : ByteArray := bs [105, 103, 112]
def wEgp : ByteArray := bs [101, 103, 112]
def wNone : ByteArray := bs [110, 111, 110, 101]
def wMatch : ByteArray := bs [109, 97, 116, 99, 104]
def wSet : ByteArray := bs [115, 101, 116]
def pMatch (c : Cs) : Pg Cs := .next fun k s =>
  if wd k s = wPrefix then (once c.ms s).bind fun ms => .next fun k s => (pName F k s).bind fun x => .ret ⟨⟨x, c.m.path, c.m.ca, c.m.cn⟩, c.s, ms, c.ss⟩
  else if wd k s = wPath then (once c.ms s).bind fun ms => .next fun k s => (pAsr F k s).bind fun x => .ret ⟨⟨c.m.list, x, c.m.ca, c.m.cn⟩, c.s, ms, c.ss⟩
  else if wd k s = wComm then (once c.ms s).bind fun ms => .next fun k s => (pCom F k s).bind fun x => .ret ⟨⟨c.m.list, c.m.path, x.1, x.2⟩, c.s, ms, c.ss⟩
  else .fail 4
def pOrg (k : Int) (s : ByteArray) : Pg Int := if wd k s = wIgp then .ret 0 else if wd k s = wEgp then .ret 1 else if wd k s = wNone then .ret 2 else .fail 4
def pSetC (f : Nat) (c : Cs) : Pg Cs := .next fun k s =>
  if wd k s = wAdd then (once c.ss s).bind fun ss => (pSev 8 (pCom F) f []).bind fun l => .ret ⟨c.m, ⟨c.s.pref, c.s.med, c.s.org, l, c.s.del, c.s.clr, c.s.prep⟩, c.ms, ss⟩
  else if wd k s = wDel then (once c.ss s).bind fun ss => (pSev 8 (pCom F) f []).bind fun l => .ret ⟨c.m, ⟨c.s.pref, c.s.med, c.s.org, c.s.add, l, c.s.clr, c.s.prep⟩, c.ms, ss⟩
  else if wd k s = wClear then (once c.ss s).bind fun ss => .ret ⟨c.m, ⟨c.s.pref, c.s.med, c.s.org, c.s.add, c.s.del, true, c.s.prep⟩, c.ms, ss⟩
  else .fail 4
def pSet (f : Nat) (c : Cs) : Pg Cs := .next fun k s =>
  if wd k s = wPref then (once c.ss s).bind fun ss => .next fun k s => (pNum F 0 1048576 k s).bind fun n => .ret ⟨c.m, ⟨n, c.s.med, c.s.org, c.s.add, c.s.del, c.s.clr, c.s.prep⟩, c.ms, ss⟩
  else if wd k s = wMed then (once c.ss s).bind fun ss => .next fun k s => (pNum F 0 1048576 k s).bind fun n => .ret ⟨c.m, ⟨c.s.pref, n, c.s.org, c.s.add, c.s.del, c.s.clr, c.s.prep⟩, c.ms, ss⟩
  else if wd k s = wOrigin then (once c.ss s).bind fun ss => .next fun k s => (pOrg k s).bind fun n => .ret ⟨c.m, ⟨c.s.pref, c.s.med, n, c.s.add, c.s.del, c.s.clr, c.s.prep⟩, c.ms, ss⟩
  else if wd k s = wComm then pSetC F f c
  else if wd k s = wPrepend then (once c.ss s).bind fun ss => (pSev 16 (pNum F 1 65535) f []).bind fun l => .ret ⟨c.m, ⟨c.s.pref, c.s.med, c.s.org, c.s.add, c.s.del, c.s.clr, l⟩, c.ms, ss⟩
  else .fail 4
def pClausePart (f : Nat) (c : Cs) (k : Int) (s : ByteArray) : Pg Cs :=
  (if wd k s = wMatch then pMatch F c else if wd k s = wSet then pSet F f c else .fail 4).bind fun c => (pMark 59).bind fun _ => .ret c
def zeroCs : Cs := ⟨⟨bs [], bs [], 0, 0⟩, ⟨-1, -1, -1, [], [], false, []⟩, [], []⟩
def pClause (f : Nat) : Pg Cs := pBr (pClausePart F f) f zeroCs
def lastN (l : List Cl) : Int := match l.getLast? with
  | none => 0
  | some c => c.n
def pMapPart (f : Nat) (l : List Cl) (k : Int) (s : ByteArray) : Pg (List Cl) := (pOk k s).bind fun ok => (room l.length 16).bind fun _ => .next fun k s => (pNum F (lastN l + 1) 65535 k s).bind fun n => (pClause F f).bind fun c => .ret (l ++ [⟨n, ok, c.m, c.s⟩])
def pMap (f : Nat) (old : List ByteArray) : Pg Mp := (pNew F old).bind fun x => (pBr (pMapPart F f) f []).bind fun l => .ret ⟨x, l⟩
def wAs : ByteArray := bs [97, 115]
def wId : ByteArray := bs [105, 100]
def wNetwork : ByteArray := bs [110, 101, 116, 119, 111, 114, 107]
def wNeighbor : ByteArray := bs [110, 101, 105, 103, 104, 98, 111, 114]
def wLink : ByteArray := bs [108, 105, 110, 107]
def wCost : ByteArray := bs [99, 111, 115, 116]
def wImport : ByteArray := bs [105, 109, 112, 111, 114, 116]
def wExport : ByteArray := bs [101, 120, 112, 111, 114, 116]
def wClient : ByteArray := bs [99, 108, 105, 101, 110, 116]
def pNet (old : List (Int × Int)) : Pg (Int × Int) := .next fun k s => (pPfx F k s).bind fun x => if x ∈ old then .fail 6 else .ret x
def pNamed (x : ByteArray) : Pg ByteArray := (pOpt x).bind fun b => if b = true then .next fun k s => pName F k s else .ret (bs [])
def pNb (old : List ByteArray) : Pg Nb := (pNew F old).bind fun x => (pNamed F wImport).bind fun i => (pNamed F wExport).bind fun e => (pOpt wClient).bind fun c => .ret ⟨x, i, e, c⟩
def pLk (old : List ByteArray) : Pg Lk := (pNew F old).bind fun x => (pKey wCost).bind fun _ => .next fun k s => (pNum F 0 65536 k s).bind fun n => .ret ⟨x, n⟩
/-- A router so far: and which of as and id were told. -/
structure Rs where
  r : Rt
  ns : List ByteArray
def pAbout (x : Rs) (k : Int) (s : ByteArray) : Pg Rs :=
  if wd k s = wAs then (once x.ns s).bind fun ns => .next fun k s => (pNum F 1 65535 k s).bind fun n => .ret ⟨⟨x.r.name, n, x.r.id, x.r.nets, x.r.nbs, x.r.links⟩, ns⟩
  else if wd k s = wId then (once x.ns s).bind fun ns => .next fun k s => (pNum F 1 65535 k s).bind fun n => .ret ⟨⟨x.r.name, x.r.asn, n, x.r.nets, x.r.nbs, x.r.links⟩, ns⟩
  else if wd k s = wNetwork then (room x.r.nets.length 16).bind fun _ => (pNet F x.r.nets).bind fun n => .ret ⟨⟨x.r.name, x.r.asn, x.r.id, x.r.nets ++ [n], x.r.nbs, x.r.links⟩, x.ns⟩
  else if wd k s = wNeighbor then (room x.r.nbs.length 16).bind fun _ => (pNb F (x.r.nbs.map Nb.name)).bind fun n => .ret ⟨⟨x.r.name, x.r.asn, x.r.id, x.r.nets, x.r.nbs ++ [n], x.r.links⟩, x.ns⟩
  else if wd k s = wLink then (room x.r.links.length 16).bind fun _ => (pLk F (x.r.links.map Lk.name)).bind fun n => .ret ⟨⟨x.r.name, x.r.asn, x.r.id, x.r.nets, x.r.nbs, x.r.links ++ [n]⟩, x.ns⟩
  else .fail 4
def pRouterPart (x : Rs) (k : Int) (s : ByteArray) : Pg Rs := (pAbout F x k s).bind fun y => (pMark 59).bind fun _ => .ret y
def pRouter (f : Nat) (old : List ByteArray) : Pg Rt := (pNew F old).bind fun x => (pBr (pRouterPart F) f ⟨⟨x, 0, 0, [], [], []⟩, []⟩).bind fun r => if r.r.asn = 0 ∨ r.r.id = 0 then .fail 5 else .ret r.r
def wList : ByteArray := bs [112, 114, 101, 102, 105, 120, 45, 108, 105, 115, 116]
def wMap : ByteArray := bs [114, 111, 117, 116, 101, 45, 109, 97, 112]
def wRouter : ByteArray := bs [114, 111, 117, 116, 101, 114]
/-- A list, a map or a router. -/
def pItem (f : Nat) (c : Cf) (k : Int) (s : ByteArray) : Pg Cf :=
  if wd k s = wList then (room c.lists.length 16).bind fun _ => (pList F f (c.lists.map Ls.name)).bind fun x => .ret ⟨c.lists ++ [x], c.maps, c.routers⟩
  else if wd k s = wMap then (room c.maps.length 16).bind fun _ => (pMap F f (c.maps.map Mp.name)).bind fun x => .ret ⟨c.lists, c.maps ++ [x], c.routers⟩
  else if wd k s = wRouter then (room c.routers.length 8).bind fun _ => (pRouter F f (c.routers.map Rt.name)).bind fun x => .ret ⟨c.lists, c.maps, c.routers ++ [x]⟩
  else .fail 4
/-- A configuration. -/
def pCf (f : Nat) : Nat → Cf → Pg Cf
  | 0, _ => .fail 0
  | g + 1, c => .peek fun o => if o.isNone = true then .ret c else .next fun k s => (pItem F f c k s).bind fun d => pCf f g d
end
end Go.Proofs.YtpmmhmgojjlniaaGreatDoor
namespace Go.Proofs.YtpmmhmgojjlniaaGreatDoor

theorem wf_chk (e : Int) : Wf (chk e) := by unfold chk; split <;> constructor
theorem wf_mark (m : UInt8) : Wf (pMark m) := .next fun k s => by split <;> constructor
theorem wf_key (x : ByteArray) : Wf (pKey x) := .next fun k s => by split <;> constructor
theorem wf_room (n m : Nat) : Wf (room n m) := by unfold room; split <;> constructor
theorem wf_ite {α : Type} {c : Prop} [Decidable c] {a b : Pg α} (ha : Wf a) (hb : Wf b) : Wf (if c then a else b) := by split; exact ha; exact hb
/-- What is looked for, with something behind that ends too early. -/
theorem wf_opt {α : Type} (x : ByteArray) {h : Bool → Pg α} (h1 : ∀ b, Wf (h b)) (h2 : ∀ en l, (h false).run en [] l = (none, .bad en.1 en.2 3)) : Wf ((pOpt x).bind h) := by
  refine .peek (fun o => ?_) fun en l => ?_
  · show Wf (Pg.bind (if isW x o = true then _ else _) h)
    split
    · exact .next fun _ _ => h1 true
    · exact h1 false
  · show (Pg.bind (if isW x none = true then _ else _) h).run en [] l = _
    rw [if_neg (by simp [isW])]
    exact h2 en l
section
variable (F : Fn)
theorem wf_name (k : Int) (s : ByteArray) : Wf (pName F k s) := (wf_chk _).bind fun _ => .ret _
theorem wf_new (old : List ByteArray) : Wf (pNew F old) := .next fun k s => (wf_name F k s).bind fun _ => wf_ite (.fail _) (.ret _)
theorem wf_num (a b k : Int) (s : ByteArray) : Wf (pNum F a b k s) := (wf_chk _).bind fun _ => .ret _
theorem wf_pfx (k : Int) (s : ByteArray) : Wf (pPfx F k s) := (wf_chk _).bind fun _ => .ret _
theorem wf_com (k : Int) (s : ByteArray) : Wf (pCom F k s) := (wf_chk _).bind fun _ => .ret _
theorem wf_asr (k : Int) (s : ByteArray) : Wf (pAsr F k s) := (wf_chk _).bind fun _ => (wf_chk _).bind fun _ => .ret _
theorem wf_sev {α : Type} (most : Nat) {th : Int → ByteArray → Pg α} (h : ∀ k s, Wf (th k s)) (f : Nat) (l : List α) : Wf (pSev most th f l) := by
  induction f generalizing l with
  | zero => exact .next fun _ _ => .fail _
  | succ f ih =>
    refine .next fun k s => (h k s).bind fun x => (wf_room _ _).bind fun _ => .peek (fun o => wf_ite (.ret _) (ih _)) fun en m => ?_
    rw [if_neg (by simp [isE])]
    cases f <;> rfl
theorem bound_nil {α : Type} (x : ByteArray) (set : Rg → Int → Rg) (r : Rg) (h : Rg → Pg α) (en l : Int × Int) : ((pBound F x set r).bind h).run en [] l = (h r).run en [] l := rfl
theorem wf_bound {α : Type} (x : ByteArray) (set : Rg → Int → Rg) (r : Rg) {h : Rg → Pg α} (h1 : ∀ r, Wf (h r)) (h2 : ∀ r en l, (h r).run en [] l = (none, .bad en.1 en.2 3)) : Wf ((pBound F x set r).bind h) := by
  unfold pBound
  rw [bind_assoc]
  refine wf_opt x (fun b => ?_) fun en l => ?_
  · refine Wf.bind ?_ h1
    exact wf_ite (.next fun k s => (wf_num F _ _ _ _).bind fun n => wf_ite (.ret _) (.fail _)) (.ret _)
  · exact h2 r en l
theorem wf_rule (ok : Bool) : Wf (pRule F ok) := by
  refine .next fun k s => (wf_pfx F k s).bind fun x => ?_
  refine wf_bound F _ _ _ (fun r => ?_) fun r en l => ?_
  · refine wf_bound F _ _ _ (fun r => (wf_mark _).bind fun _ => .ret _) fun r en l => rfl
  · rw [bound_nil]
    rfl
theorem wf_ok (k : Int) (s : ByteArray) : Wf (pOk k s) := wf_ite (.ret _) (wf_ite (.ret _) (.fail _))
theorem wf_blk {σ : Type} {part : σ → Int → ByteArray → Pg σ} (h : ∀ x k s, Wf (part x k s)) (f : Nat) (x : σ) : Wf (pBlk part f x) := by
  induction f generalizing x with
  | zero => exact .fail _
  | succ f ih => exact .next fun k s => wf_ite (.ret _) ((h x k s).bind fun y => ih y)
theorem wf_br {σ : Type} {part : σ → Int → ByteArray → Pg σ} (h : ∀ x k s, Wf (part x k s)) (f : Nat) (x : σ) : Wf (pBr part f x) := (wf_mark _).bind fun _ => wf_blk h f x
theorem wf_listPart (l : List Rg) (k : Int) (s : ByteArray) : Wf (pListPart F l k s) := (wf_ok k s).bind fun ok => (wf_room _ _).bind fun _ => (wf_rule F ok).bind fun _ => .ret _
theorem wf_list (f : Nat) (old : List ByteArray) : Wf (pList F f old) := (wf_new F old).bind fun _ => (wf_br (wf_listPart F) f _).bind fun _ => .ret _
theorem wf_once (old : List ByteArray) (s : ByteArray) : Wf (once old s) := wf_ite (.fail _) (.ret _)
theorem wf_match (c : Cs) : Wf (pMatch F c) := .next fun _k _s => wf_ite ((wf_once _ _).bind fun _ => .next fun k s => (wf_name F k s).bind fun _ => .ret _) (wf_ite ((wf_once _ _).bind fun _ => .next fun k s => (wf_asr F k s).bind fun _ => .ret _) (wf_ite ((wf_once _ _).bind fun _ => .next fun k s => (wf_com F k s).bind fun _ => .ret _) (.fail _)))
theorem wf_org (k : Int) (s : ByteArray) : Wf (pOrg k s) := wf_ite (.ret _) (wf_ite (.ret _) (wf_ite (.ret _) (.fail _)))
theorem wf_setC (f : Nat) (c : Cs) : Wf (pSetC F f c) := .next fun _k _s => wf_ite ((wf_once _ _).bind fun _ => (wf_sev _ (wf_com F) _ _).bind fun _ => .ret _) (wf_ite ((wf_once _ _).bind fun _ => (wf_sev _ (wf_com F) _ _).bind fun _ => .ret _) (wf_ite ((wf_once _ _).bind fun _ => .ret _) (.fail _)))
theorem wf_set (f : Nat) (c : Cs) : Wf (pSet F f c) := .next fun _k _s => wf_ite ((wf_once _ _).bind fun _ => .next fun k s => (wf_num F _ _ k s).bind fun _ => .ret _) (wf_ite ((wf_once _ _).bind fun _ => .next fun k s => (wf_num F _ _ k s).bind fun _ => .ret _) (wf_ite ((wf_once _ _).bind fun _ => .next fun k s => (wf_org k s).bind fun _ => .ret _) (wf_ite (wf_setC F f c) (wf_ite ((wf_once _ _).bind fun _ => (wf_sev _ (wf_num F _ _) _ _).bind fun _ => .ret _) (.fail _)))))
theorem wf_clausePart (f : Nat) (c : Cs) (k : Int) (s : ByteArray) : Wf (pClausePart F f c k s) := (wf_ite (wf_match F c) (wf_ite (wf_set F f c) (.fail _))).bind fun _ => (wf_mark _).bind fun _ => .ret _
theorem wf_clause (f : Nat) : Wf (pClause F f) := wf_br (wf_clausePart F f) f _
theorem wf_mapPart (f : Nat) (l : List Cl) (k : Int) (s : ByteArray) : Wf (pMapPart F f l k s) := (wf_ok k s).bind fun _ => (wf_room _ _).bind fun _ => .next fun k s => (wf_num F _ _ k s).bind fun _ => (wf_clause F f).bind fun _ => .ret _
theorem wf_map (f : Nat) (old : List ByteArray) : Wf (pMap F f old) := (wf_new F old).bind fun _ => (wf_br (wf_mapPart F f) f _).bind fun _ => .ret _
theorem wf_net (old : List (Int × Int)) : Wf (pNet F old) := .next fun k s => (wf_pfx F k s).bind fun _ => wf_ite (.fail _) (.ret _)
theorem wf_named {α : Type} (x : ByteArray) {h : ByteArray → Pg α} (h1 : ∀ r, Wf (h r)) (h2 : ∀ r en l, (h r).run en [] l = (none, .bad en.1 en.2 3)) : Wf ((pNamed F x).bind h) := by
  unfold pNamed
  rw [bind_assoc]
  refine wf_opt x (fun b => Wf.bind (wf_ite (.next fun k s => wf_name F k s) (.ret _)) h1) fun en l => h2 _ en l
theorem wf_nb {α : Type} (old : List ByteArray) {h : Nb → Pg α} (h1 : ∀ r, Wf (h r)) (h2 : ∀ r en l, (h r).run en [] l = (none, .bad en.1 en.2 3)) : Wf ((pNb F old).bind h) := by
  unfold pNb
  rw [bind_assoc]
  refine (wf_new F old).bind fun x => ?_
  rw [bind_assoc]
  have hc : ∀ i e : ByteArray, Wf (((pOpt wClient).bind fun c => Pg.ret (⟨x, i, e, c⟩ : Nb)).bind h) := fun i e => by
    rw [bind_assoc]
    exact wf_opt _ (fun b => h1 _) fun en l => h2 _ en l
  have he : ∀ i : ByteArray, Wf (((pNamed F wExport).bind fun e => (pOpt wClient).bind fun c => Pg.ret (⟨x, i, e, c⟩ : Nb)).bind h) := fun i => by
    rw [bind_assoc]
    exact wf_named F _ (fun e => hc i e) fun e en l => h2 _ en l
  exact wf_named F _ he fun i en l => h2 _ en l
theorem wf_lk (old : List ByteArray) : Wf (pLk F old) := (wf_new F old).bind fun _ => (wf_key _).bind fun _ => .next fun k s => (wf_num F _ _ k s).bind fun _ => .ret _
theorem ite_bind {α β : Type} (c : Prop) [Decidable c] (a b : Pg α) (h : α → Pg β) : (if c then a else b).bind h = if c then a.bind h else b.bind h := by split <;> rfl
theorem wf_routerPart (x : Rs) (k : Int) (s : ByteArray) : Wf (pRouterPart F x k s) := by
  have hm : ∀ y : Rs, Wf ((pMark 59).bind fun _ => Pg.ret y) := fun y => (wf_mark _).bind fun _ => .ret _
  unfold pRouterPart pAbout
  rw [ite_bind, ite_bind, ite_bind, ite_bind, ite_bind]
  refine wf_ite ?_ (wf_ite ?_ (wf_ite ?_ (wf_ite ?_ (wf_ite ?_ (.fail _)))))
  · exact Wf.bind ((wf_once _ _).bind fun _ => .next fun k s => (wf_num F _ _ k s).bind fun _ => .ret _) hm
  · exact Wf.bind ((wf_once _ _).bind fun _ => .next fun k s => (wf_num F _ _ k s).bind fun _ => .ret _) hm
  · exact Wf.bind ((wf_room _ _).bind fun _ => (wf_net F _).bind fun _ => .ret _) hm
  · rw [bind_assoc]
    refine (wf_room _ _).bind fun _ => ?_
    rw [bind_assoc]
    exact wf_nb F _ (fun n => hm _) fun n en l => rfl
  · exact Wf.bind ((wf_room _ _).bind fun _ => (wf_lk F _).bind fun _ => .ret _) hm
theorem wf_router (f : Nat) (old : List ByteArray) : Wf (pRouter F f old) := (wf_new F old).bind fun _ => (wf_br (wf_routerPart F) f _).bind fun _ => wf_ite (.fail _) (.ret _)
theorem wf_item (f : Nat) (c : Cf) (k : Int) (s : ByteArray) : Wf (pItem F f c k s) := wf_ite ((wf_room _ _).bind fun _ => (wf_list F f _).bind fun _ => .ret _) (wf_ite ((wf_room _ _).bind fun _ => (wf_map F f _).bind fun _ => .ret _) (wf_ite ((wf_room _ _).bind fun _ => (wf_router F f _).bind fun _ => .ret _) (.fail _)))
/-- A beginning of a configuration is one, or ends too early. -/
theorem cf_cut (f g : Nat) (c : Cf) (en en' : Int × Int) {u v : List Tv} {l l' : Int × Int} {x : Cf} {st : Sta} (h : (pCf F f g c).run en (u ++ v) l = (some x, st)) : (∃ y m, (pCf F f g c).run en' u l' = (some y, .good [] m)) ∨ (pCf F f g c).run en' u l' = (none, .bad en'.1 en'.2 3) := by
  induction g generalizing c u l l' with
  | zero => cases h
  | succ g ih =>
    cases u with
    | nil => exact .inl ⟨c, l', rfl⟩
    | cons t u =>
      have h' : ((pItem F f c t.k t.s).bind fun d => pCf F f g d).run en (u ++ v) (t.p, t.q) = (some x, st) := h
      show (∃ y m, ((pItem F f c t.k t.s).bind fun d => pCf F f g d).run en' u (t.p, t.q) = (some y, .good [] m)) ∨ ((pItem F f c t.k t.s).bind fun d => pCf F f g d).run en' u (t.p, t.q) = (none, .bad en'.1 en'.2 3)
      rw [run_bind] at h' ⊢
      cases hi : (pItem F f c t.k t.s).run en (u ++ v) (t.p, t.q) with
      | mk o st1 =>
        rw [hi] at h'
        cases o with
        | none => cases h'
        | some d =>
          rcases (wf_item F f c t.k t.s).cut en en' (l' := (t.p, t.q)) hi with ⟨u', m, m', rfl, h2⟩ | h2
          · rw [h2]
            exact ih d h'
          · rw [h2]
            exact .inr rfl
/-- A configuration behind one. -/
theorem cf_more (f g : Nat) (c : Cf) (en en' : Int × Int) {u : List Tv} (v : List Tv) {l l' m : Int × Int} {x : Cf} (h : (pCf F f g c).run en u l = (some x, .good [] m)) (G : Nat) (hG : (u ++ v).length < G) : ∃ G' m', v.length < G' ∧ (pCf F f G c).run en' (u ++ v) l' = (pCf F f G' x).run en' v m' := by
  induction g generalizing c u l l' G with
  | zero => cases h
  | succ g ih =>
    cases u with
    | nil =>
      cases h
      exact ⟨G, l', hG, rfl⟩
    | cons t u =>
      have h' : ((pItem F f c t.k t.s).bind fun d => pCf F f g d).run en u (t.p, t.q) = (some x, .good [] m) := h
      rw [run_bind] at h'
      obtain ⟨G, rfl⟩ : ∃ G0, G = G0 + 1 := ⟨G - 1, by omega⟩
      show ∃ G' m', _ ∧ ((pItem F f c t.k t.s).bind fun d => pCf F f G d).run en' (u ++ v) (t.p, t.q) = _
      rw [run_bind]
      cases hi : (pItem F f c t.k t.s).run en u (t.p, t.q) with
      | mk o st1 =>
        rw [hi] at h'
        cases o with
        | none => cases h'
        | some d =>
          obtain ⟨w0, r', l1, rfl, hu⟩ := run_some _ _ _ _ hi
          obtain ⟨m', h2⟩ := (wf_item F f c t.k t.s).more en en' v (l' := (t.p, t.q)) hi
          rw [h2]
          refine ih d h' G ?_
          rw [hu] at hG
          simp only [List.length_append, List.length_cons] at hG ⊢
          omega
end
end Go.Proofs.YtpmmhmgojjlniaaGreatDoor
