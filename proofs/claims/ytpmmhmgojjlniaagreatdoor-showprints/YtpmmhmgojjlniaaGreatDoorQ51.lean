/- The document's text is what the program writes. -/
import Derived.Test.YtpmmhmgojjlniaaGreatDoorQ14
import Derived.Test.YtpmmhmgojjlniaaGreatDoorQ28
import Derived.Test.YtpmmhmgojjlniaaGreatDoorQ33
import Derived.Test.YtpmmhmgojjlniaaGreatDoorQ42
import Derived.Test.YtpmmhmgojjlniaaGreatDoorQ43
import Derived.Test.YtpmmhmgojjlniaaGreatDoorQ50
import Derived.Test.YtpmmhmgojjlniaaGreatDoorRows
import Derived.ProofKit
import Derived.OpenShut
import Derived.Lib.SmallJoins
import Derived.LaidSub
import Derived.LaidMore
import Derived.Lib.LaidTab
import Derived.Shelf.Vars
import Derived.HandedShaped
import Derived.SizedLaws
namespace Go.Proofs.YtpmmhmgojjlniaaGreatDoor
open Go.RowKit Go.Sort
theorem lstApp (a b : ByteArray) : lst (a ++ b) = lst a ++ lst b := by unfold lst; simp
theorem emp_size (s : ByteArray) : s = ⟨#[]⟩ ↔ s.size = 0 := by
 obtain ⟨⟨l⟩⟩ := s
 constructor
 · intro h; rw [h]; rfl
 · intro h
   have h : l.length = 0 := h
   obtain rfl := List.eq_nil_of_length_eq_zero h
   rfl
theorem lst_mk (l : List UInt8) : lst ⟨l.toArray⟩ = l := by simp [lst]
theorem line2 (d : Nat) (x y : ByteArray) : lineB d (sayT [x, y]) = pad d ++ lst x ++ [32] ++ lst y ++ [59, 10] := by
 unfold lineB
 rw [lst_say]
 simp [Lib.join, List.intercalate, List.intersperse]
theorem line1 (d : Nat) (x : ByteArray) : lineB d (sayT [x]) = pad d ++ lst x ++ [59, 10] := by
 unfold lineB
 rw [lst_say]
 simp [Lib.join, List.intercalate]
theorem line4 (d : Nat) (x y z u : ByteArray) : lineB d (sayT [x, y, z, u]) = pad d ++ lst x ++ [32] ++ lst y ++ [32] ++ lst z ++ [32] ++ lst u ++ [59, 10] := by
 unfold lineB
 rw [lst_say]
 simp [Lib.join, List.intercalate, List.intersperse]
theorem lineN (d : Nat) (x : ByteArray) (l : List ByteArray) : lineB d (sayT (x :: l)) = pad d ++ lst x ++ l.flatMap (fun y => 32 :: lst y) ++ [59, 10] := by
 unfold lineB
 rw [lst_say, List.map_cons, Lib.join_cons]
 have e : Lib.joinTail [32] (l.map lst) = l.flatMap (fun y => 32 :: lst y) := by
  unfold Lib.joinTail
  induction l with
  | nil => rfl
  | cons a l ih => simp only [List.map_cons, List.flatten_cons, List.flatMap_cons, ih]; rfl
 rw [e]
 simp
theorem opt_emp (s : ByteArray) (x : List UInt8) : opt (!s.toList.isEmpty) x = if s = ⟨#[]⟩ then [] else x := by
 rw [Kn.emptyS_iff]
 by_cases h : s = ⟨#[]⟩
 · rw [if_pos h, decide_eq_true ((emp_size s).1 h)]; rfl
 · rw [if_neg h, decide_eq_false fun e => h ((emp_size s).2 e)]; rfl
theorem opt_num (n : Int) (h : -1 ≤ n) (x : List UInt8) : opt (decide (0 ≤ n)) x = if n = -1 then [] else x := by
 by_cases h0 : n = -1
 · subst h0; rfl
 · rw [if_neg h0, decide_eq_true (by omega)]; rfl
theorem ruD_eq (r : Rg) : ruleB 1 r = ruD r := by
 unfold ruleB ruD
 rw [line1]
 show pad 1 ++ lst ⟨(Ax.Ad.rtext (rgT r)).toArray⟩ ++ [59, 10] = _
 rw [lst_mk]
 rfl
theorem flat_eq {α : Type} {f g : α → List UInt8} {l : List α} (h : ∀ x ∈ l, f x = g x) : l.flatMap f = l.flatMap g := by
 induction l with
 | nil => rfl
 | cons a l ih => rw [List.flatMap_cons, List.flatMap_cons, h a (List.mem_cons_self), ih fun x hx => h x (List.mem_cons_of_mem _ hx)]
theorem block_eq (d : Nat) (h : ByteArray) (x : List UInt8) : blockB d h x = pad d ++ lst h ++ [32, 123, 10] ++ x ++ pad d ++ [125, 10] := by
 unfold blockB lineB
 rw [lstApp]
 show pad d ++ (lst h ++ [32, 123]) ++ [10] ++ x ++ (pad d ++ [125] ++ [10]) = _
 simp
theorem lsD_eq (a : Ls) : listB 0 a = lsD a := by
 unfold listB lsD
 rw [block_eq]
 have e : rulesB (0 + 1) a.rules = a.rules.flatMap ruD := flat_eq fun r _ => ruD_eq r
 rw [e]
 show [] ++ lst (⟨#[112, 114, 101, 102, 105, 120, 45, 108, 105, 115, 116, 32]⟩ ++ a.name) ++ _ ++ _ ++ [] ++ _ = _
 rw [lstApp]
 simp only [List.nil_append, List.append_nil]
 rfl
theorem row_eq {α : Type} (d : Nat) (w : ByteArray) (l : List α) (key : α → ByteArray) : rowB d w l key = opt (decide (0 < l.length)) (pad d ++ lst w ++ l.flatMap (fun y => 32 :: lst (key y)) ++ [59, 10]) := by
 cases l with
 | nil => rfl
 | cons a l =>
  rw [rowB_pos _ _ _ _ (by simp), lineN]
  rw [List.flatMap_map]
  rfl
theorem coms_eq (l : List (Int × Int)) : l.flatMap (fun y => 32 :: lst (commT y)) = comsL l := flat_eq fun p _ => by unfold commT; rw [lst_mk]
theorem prep_eq (l : List Int) (h : 0 < l.length) : l.flatMap (fun y => 32 :: lst (numT y)) = 32 :: Lib.join (l.map Lib.itoa) [32] := by
 cases l with
 | nil => cases h
 | cons a l =>
  rw [List.map_cons, Lib.join_cons, List.flatMap_cons]
  have e : l.flatMap (fun y => 32 :: lst (numT y)) = Lib.joinTail [32] (l.map Lib.itoa) := by
   unfold Lib.joinTail
   clear h
   induction l with
   | nil => rfl
   | cons a l ih => simp only [List.map_cons, List.flatten_cons, List.flatMap_cons, ih]; unfold numT; rw [lst_mk]; rfl
  rw [e]
  unfold numT
  rw [lst_mk]
  rfl
end Go.Proofs.YtpmmhmgojjlniaaGreatDoor
namespace Go.Proofs.YtpmmhmgojjlniaaGreatDoor
open Go.RowKit Go.Sort
theorem lstNum (n : Int) : lst (numT n) = Lib.itoa n := lst_mk _
theorem q1 (s : ByteArray) : mlB 2 s = opt (!s.toList.isEmpty) ([32, 32, 109, 97, 116, 99, 104, 32, 112, 114, 101, 102, 105, 120, 32] ++ lst s ++ [59, 10]) := by
 unfold mlB
 rw [opt_emp, line2]
 rfl
theorem q2 (s : ByteArray) : mpB 2 s = opt (!s.toList.isEmpty) ([32, 32, 109, 97, 116, 99, 104, 32, 112, 97, 116, 104, 32, 34] ++ lst s ++ [34, 59, 10]) := by
 unfold mpB
 rw [opt_emp, line2]
 have e : lst (inQ s) = [34] ++ lst s ++ [34] := by unfold inQ; rw [lstApp, lstApp]; rfl
 rw [e]
 have : pad 2 ++ lst ⟨#[109, 97, 116, 99, 104, 32, 112, 97, 116, 104]⟩ ++ [32] ++ ([34] ++ lst s ++ [34]) ++ [59, 10] = [32, 32, 109, 97, 116, 99, 104, 32, 112, 97, 116, 104, 32, 34] ++ lst s ++ [34, 59, 10] := by
  rw [show pad 2 ++ lst ⟨#[109, 97, 116, 99, 104, 32, 112, 97, 116, 104]⟩ ++ [32] = [32, 32, 109, 97, 116, 99, 104, 32, 112, 97, 116, 104, 32] from rfl]
  simp
 rw [this]
theorem q3 (a n : Int) (h : ((a == 0 && n == 0) || Cm.Co.may (a, n)) = true) : mcB 2 a n = opt (a != 0) ([32, 32, 109, 97, 116, 99, 104, 32, 99, 111, 109, 109, 117, 110, 105, 116, 121] ++ comsL [(a, n)] ++ [59, 10]) := by
 unfold mcB
 by_cases h0 : (a == 0 && n == 0) = true
 · rw [if_pos h0]
   simp only [Bool.and_eq_true, beq_iff_eq] at h0
   rw [h0.1]
   rfl
 · rw [if_neg h0]
   have hm : Cm.Co.may (a, n) = true := by
    rw [Bool.or_eq_true] at h
    exact h.resolve_left h0
   have hm2 : 1 ≤ a ∧ a ≤ 65535 ∧ 0 ≤ n ∧ n ≤ 65535 := of_decide_eq_true hm
   have ha : (a != 0) = true := by simp; omega
   rw [ha, line2]
   have e : comsL [(a, n)] = 32 :: lst (commT (a, n)) := by unfold comsL commT; rw [lst_mk]; simp
   rw [e]
   show _ = [32, 32, 109, 97, 116, 99, 104, 32, 99, 111, 109, 109, 117, 110, 105, 116, 121] ++ 32 :: lst (commT (a, n)) ++ [59, 10]
   rw [show pad 2 ++ lst ⟨#[109, 97, 116, 99, 104, 32, 99, 111, 109, 109, 117, 110, 105, 116, 121]⟩ ++ [32] = [32, 32, 109, 97, 116, 99, 104, 32, 99, 111, 109, 109, 117, 110, 105, 116, 121] ++ [32] from rfl]
   simp
theorem q4 (w : ByteArray) (n : Int) (h : -1 ≤ n) : numB 2 w n = opt (decide (0 ≤ n)) (pad 2 ++ lst w ++ [32] ++ Lib.itoa n ++ [59, 10]) := by
 unfold numB
 rw [opt_num n h, line2, lstNum]
theorem q6 (n : Int) (h : -1 ≤ n) : orgB 2 n = opt (decide (0 ≤ n)) ([32, 32, 115, 101, 116, 32, 111, 114, 105, 103, 105, 110, 32] ++ lst (orgT n) ++ [59, 10]) := by
 unfold orgB
 rw [opt_num n h, line2]
 rfl
theorem q7 (b : Bool) : clrB 2 b = opt b [32, 32, 115, 101, 116, 32, 99, 111, 109, 109, 117, 110, 105, 116, 121, 32, 99, 108, 101, 97, 114, 59, 10] := by
 unfold clrB
 rw [line1]
 rfl
theorem q10 (l : List Int) (h : Ar.Is.may l = true) : rowB 2 ⟨#[115, 101, 116, 32, 112, 114, 101, 112, 101, 110, 100]⟩ l numT = opt (decide (0 < l.length)) ([32, 32, 115, 101, 116, 32, 112, 114, 101, 112, 101, 110, 100, 32] ++ Ar.Is.text l ++ [59, 10]) := by
 rw [row_eq]
 unfold Ar.Is.text
 rw [if_pos h]
 by_cases h0 : 0 < l.length
 · rw [prep_eq l h0, decide_eq_true h0]
   show pad 2 ++ lst ⟨#[115, 101, 116, 32, 112, 114, 101, 112, 101, 110, 100]⟩ ++ 32 :: Lib.join (l.map Lib.itoa) [32] ++ [59, 10] = [32, 32, 115, 101, 116, 32, 112, 114, 101, 112, 101, 110, 100, 32] ++ Lib.join (l.map Lib.itoa) [32] ++ [59, 10]
   rw [show pad 2 ++ lst ⟨#[115, 101, 116, 32, 112, 114, 101, 112, 101, 110, 100]⟩ = [32, 32, 115, 101, 116, 32, 112, 114, 101, 112, 101, 110, 100] from rfl]
   simp
 · rw [decide_eq_false h0]; rfl
theorem clD_eq (c : Cl) (hF : ClF c) (hm : ((c.m.ca == 0 && c.m.cn == 0) || Cm.Co.may (c.m.ca, c.m.cn)) = true) (hq : Ar.Is.may c.s.prep = true) : clauseB 1 c = clD c := by
 unfold clauseB clIn matchB setB clD
 rw [block_eq, q1, q2, q3 _ _ hm, q4 _ _ hF.pref.1, q4 _ _ hF.med.1, q6 _ hF.org.1, q7, row_eq, row_eq, q10 _ hq, coms_eq, coms_eq]
 have e : pad 1 ++ lst (clHead c) ++ [32, 123, 10] = clHd c := by
  unfold clHead clHd
  rw [lstApp]
  rw [lstNum]
  unfold preC
  cases c.ok <;> rfl
 rw [e]
 simp only [List.append_assoc]
 rfl
theorem is_may {l : List Int} (h : decide ((l.length : Int) ≤ 16) && l.all fun n => inR n 1 65535) : Ar.Is.may l = true := by
 simp only [Bool.and_eq_true, decide_eq_true_eq] at h
 have ha : (Ar.Is.as : Int → Bool) = fun n => inR n 1 65535 := funext as_inR
 unfold Ar.Is.may
 rw [ha]
 simp only [Bool.and_eq_true, decide_eq_true_eq]
 exact ⟨by omega, h.2⟩
theorem clD_ok (c : Cl) (h : clOk c = true) : clauseB 1 c = clD c := by
 have hF := clF_of h
 simp only [clOk, matchOk, setOk, Bool.and_eq_true] at h
 exact clD_eq c hF h.1.2.2 (is_may (by simp only [Bool.and_eq_true]; exact h.2.2))
theorem mpD_eq (m : Mp) (h : clsOk m.cls = true) : mapB 0 m = mpD m := by
 unfold mapB mpD
 rw [block_eq]
 have hc : ∀ x ∈ m.cls, clOk x = true := by
  simp only [clsOk, Bool.and_eq_true, List.all_eq_true] at h
  exact h.1.2
 have e : clausesB (0 + 1) m.cls = m.cls.flatMap clD := flat_eq fun x hx => clD_ok x (hc x hx)
 rw [e]
 show [] ++ lst (⟨#[114, 111, 117, 116, 101, 45, 109, 97, 112, 32]⟩ ++ m.name) ++ _ ++ _ ++ [] ++ _ = _
 rw [lstApp]
 simp only [List.nil_append, List.append_nil]
 rfl
theorem neD_eq (p : Int × Int) : netB 1 p = neD p := by
 unfold netB neD
 rw [line2]
 unfold addrT
 rw [lst_mk]
 rfl
theorem lkD_eq (k : Lk) : lnkB 1 k = lkD k := by
 unfold lnkB lkD
 rw [line4, lstNum]
 rw [show pad 1 ++ lst ⟨#[108, 105, 110, 107]⟩ ++ [32] = [32, 108, 105, 110, 107, 32] from rfl]
 rw [show ([32, 99, 111, 115, 116, 32] : List UInt8) = [32] ++ lst ⟨#[99, 111, 115, 116]⟩ ++ [32] from rfl]
 simp only [List.append_assoc]
theorem nbD_eq (n : Nb) : nbB 1 n = nbD n := by
 unfold nbB nbD
 have e : nbT n = ⟨#[110, 101, 105, 103, 104, 98, 111, 114]⟩ :: (n.name :: ((if n.imp = ⟨#[]⟩ then [] else [⟨#[105, 109, 112, 111, 114, 116]⟩, n.imp]) ++ (if n.exp = ⟨#[]⟩ then [] else [⟨#[101, 120, 112, 111, 114, 116]⟩, n.exp]) ++ (if n.client = true then [⟨#[99, 108, 105, 101, 110, 116]⟩] else []))) := by
  unfold nbT
  simp
 rw [e, lineN, opt_emp, opt_emp]
 rw [show pad 1 ++ lst ⟨#[110, 101, 105, 103, 104, 98, 111, 114]⟩ = [32, 110, 101, 105, 103, 104, 98, 111, 114] from rfl]
 unfold opt
 by_cases h1 : n.imp = ⟨#[]⟩ <;> by_cases h2 : n.exp = ⟨#[]⟩ <;> cases h3 : n.client <;> simp [h1, h2] <;> rfl
theorem rtD_eq (r : Rt) : routerB 0 r = rtD r := by
 unfold routerB rtIn rtD rtHd asB idB
 rw [block_eq, line2, line2]
 have e1 : r.nets.flatMap (netB (0 + 1)) = r.nets.flatMap neD := flat_eq fun p _ => neD_eq p
 have e2 : r.nbs.flatMap (nbB (0 + 1)) = r.nbs.flatMap nbD := flat_eq fun p _ => nbD_eq p
 have e3 : r.links.flatMap (lnkB (0 + 1)) = r.links.flatMap lkD := flat_eq fun p _ => lkD_eq p
 rw [e1, e2, e3]
 unfold rouT
 rw [lstNum, lstNum, lstApp]
 rw [show pad 0 ++ (lst ⟨#[114, 111, 117, 116, 101, 114, 32]⟩ ++ lst r.name) = [114, 111, 117, 116, 101, 114, 32] ++ lst r.name from rfl]
 rw [show pad (0 + 1) ++ lst ⟨#[97, 115]⟩ ++ [32] = [32, 97, 115, 32] from rfl, show pad (0 + 1) ++ lst ⟨#[105, 100]⟩ ++ [32] = [32, 105, 100, 32] from rfl, show pad 0 = [] from rfl]
 rw [show ([32, 123, 10, 32, 97, 115, 32] : List UInt8) = [32, 123, 10] ++ [32, 97, 115, 32] from rfl, show ([59, 10, 32, 105, 100, 32] : List UInt8) = [59, 10] ++ [32, 105, 100, 32] from rfl]
 simp only [List.append_assoc, List.nil_append]
theorem cfD_eq (c : Cf) (h : cfOk c = true) : cfD c = cfgB c := by
 unfold cfD cfgB
 simp only [cfOk, Bool.and_eq_true, List.all_eq_true] at h
 rw [flat_eq fun a _ => (lsD_eq a).symm, flat_eq fun a ha => (mpD_eq a (h.1.2.1.2 a ha).2).symm, flat_eq fun a _ => (rtD_eq a).symm]
end Go.Proofs.YtpmmhmgojjlniaaGreatDoor
namespace Go.Proofs.YtpmmhmgojjlniaaGreatDoor
open Go.RowKit Go.Sort
def rt1 : Rt := ⟨bs [114, 49], 65001, 1, [], [], []⟩
def cf1 : Cf := ⟨[], [], [rt1]⟩
theorem cf1_ok : cfOk cf1 = true := by kernel_rfl
def txt1 : List UInt8 := [114, 111, 117, 116, 101, 114, 32, 114, 49, 32, 123, 10, 32, 97, 115, 32, 54, 53, 48, 48, 49, 59, 10, 32, 105, 100, 32, 49, 59, 10, 125, 10]
theorem cf1_text : cfgB cf1 = txt1 := by kernel_rfl
theorem cf1_prE : prE cf1 = 0 := by
 unfold prE
 rw [cf1_ok, cf1_text, if_neg (by decide), if_neg (by decide)]
theorem cf1_prT : prT cf1 = ⟨txt1.toArray⟩ := by
 unfold prT
 rw [if_pos cf1_prE, cf1_text]
theorem cf1_g : GCf cf1 := by
 refine ⟨by decide, fun a h => (by cases h), by decide, fun a h => (by cases h), by decide, fun a h => ?_⟩
 obtain rfl : a = rt1 := by simpa [cf1] using h
 exact ⟨by decide, by decide, fun n h => (by cases h), by decide, fun n h => (by cases h), by decide⟩
theorem cf1_w : Wide cf1 := by
 refine ⟨fun a h => (by cases h), fun a h => ?_⟩
 obtain rfl : a = rt1 := by simpa [cf1] using h
 exact ⟨fun p h => (by cases h), fun n h => (by cases h)⟩
theorem cf1_p : PathSz cf1 := fun m h => by cases h
theorem rd_nilL {α : Type} (w : World) (z : Nat) (R : World → α → List Value → Prop) : Rd w z R (.slice none 0 0) ([] : List α) := ⟨none, 0, rfl, Nat.le_refl _, .inl rfl⟩
theorem cf1_r (w : World) (b : Nat) (h : w.heap[b]? = some (.cells #[.string (bs [114, 49]), .int .i64 65001, .int .i64 1, .slice none 0 0, .slice none 0 0, .slice none 0 0] 66 (0, 0))) : CfR w cf1 (.slice none 0 0) (.slice none 0 0) (.slice (some ⟨b, 0, none⟩) 1 1) := by
 refine ⟨rd_nilL _ _ _, rd_nilL _ _ _, ⟨_, _, rfl, Nat.le_refl _, .inr ⟨b, 0, rfl, fun j hj => ?_⟩⟩⟩
 obtain rfl : j = 0 := by simpa [cf1] using hj
 refine ⟨_, ⟨_, _, _, rfl, rd_nilL _ _ _, rd_nilL _ _ _, rd_nilL _ _ _⟩, by simp, fun i u hu => ?_⟩
 rw [show 0 + 0 * 6 + i = i by omega]
 exact cell_of h i (by simpa [cf1, rt1] using hu)
set_option maxHeartbeats 4000000 in
set_option maxRecDepth 100000 in
theorem lives_is (w : World) (hP : Ar.Y4.Pt w) (ht : Tab w) : Calls Tryz.prog 9 #[] w fun e w' => e = .returned (.bool true) ∧ Below w.heap.size w w' := by
 have A := balloc (brefl w) (.cells #[.string ⟨#[114, 49]⟩, .int .i64 65001, .int .i64 1, .slice none 0 0, .slice none 0 0, .slice none 0 0] 66)
 have N := heap_new w #[.string ⟨#[114, 49]⟩, .int .i64 65001, .int .i64 1, .slice none 0 0, .slice none 0 0, .slice none 0 0] 66
 have C := hide (print_is cf1 _ _ _ _ (hP.on A) (ht.on A) (cf1_r _ _ N) cf1_g cf1_w cf1_p)
 rw [cf1_prE, cf1_prT] at C
 have HA := hide A
 clear A N hP ht
 unfold txt1 at C
 go_enter Tryz.func9, Tryz.ntmps9
 go_wp2_with (refine C.out.mono ?_; rintro e w2 ⟨rfl, hb⟩)
 have HB := hide (bthen HA.out hb)
 clear C hb
 go_wp2_with fail
 go_ret
 exact ⟨rfl, HB.out⟩
end Go.Proofs.YtpmmhmgojjlniaaGreatDoor
namespace Go.Proofs.YtpmmhmgojjlniaaGreatDoor
open Go.RowKit Go.Sort
theorem small_parts {c : Cf} (h : small c = true) : (c.lists.length ≤ 20 ∧ c.maps.length ≤ 20 ∧ c.routers.length ≤ 12) ∧ (∀ a ∈ c.lists, a.name.size ≤ 100 ∧ a.rules.length ≤ 20) ∧
 (∀ a ∈ c.maps, (a.name.size ≤ 100 ∧ a.cls.length ≤ 20) ∧ ∀ x ∈ a.cls, x.m.list.size ≤ 100 ∧ x.m.path.size ≤ 100 ∧ x.s.add.length ≤ 20 ∧ x.s.del.length ≤ 20 ∧ x.s.prep.length ≤ 30) ∧
 ∀ a ∈ c.routers, (a.name.size ≤ 100 ∧ a.nets.length ≤ 20 ∧ a.nbs.length ≤ 20 ∧ a.links.length ≤ 20) ∧ (∀ n ∈ a.nbs, n.name.size + n.imp.size + n.exp.size ≤ 200) ∧ ∀ k ∈ a.links, k.name.size ≤ 100 := by
 simp only [small, lsSm, mpSm, clSm, rtSm, nbSm, lkSm, Bool.and_eq_true, Bool.not_eq_true', Bool.or_eq_false_iff, decide_eq_false_iff_not, List.all_eq_true, Nat.not_lt] at h
 obtain ⟨⟨⟨⟨⟨h1, h2⟩, h3⟩, h4⟩, h5⟩, h6⟩ := h
 refine ⟨⟨h1, h2, h3⟩, h4, fun a ha => ⟨(h5 a ha).1, fun x hx => ?_⟩, fun a ha => ?_⟩
 · obtain ⟨⟨⟨⟨g1, g2⟩, g3⟩, g4⟩, g5⟩ := (h5 a ha).2 x hx
   exact ⟨g1, g2, g3, g4, g5⟩
 · obtain ⟨⟨⟨⟨⟨g1, g2⟩, g3⟩, g4⟩, g5⟩, g6⟩ := h6 a ha
   exact ⟨⟨g1, g2, g3, g4⟩, g5, g6⟩
theorem small_g {c : Cf} (h : small c = true) : GCf c := by
 obtain ⟨⟨h1, h2, h3⟩, h4, h5, h6⟩ := small_parts h
 refine ⟨by omega, fun a ha => Nat.le_trans (h4 a ha).1 (by decide), by omega, fun a ha => ?_, by omega, fun a ha => ?_⟩
 · obtain ⟨⟨g1, g2⟩, g3⟩ := h5 a ha
   exact ⟨by omega, fun x hx => by
    obtain ⟨k1, k2, k3, k4, k5⟩ := g3 x hx
    exact ⟨by omega, by omega, by omega, by omega⟩, by omega⟩
 · obtain ⟨⟨g1, g2, g3, g4⟩, g5, g6⟩ := h6 a ha
   exact ⟨by omega, by omega, fun n hn => by have := g5 n hn; exact ⟨by omega, by omega, by omega⟩, by omega, fun k hk => by have := g6 k hk; exact Nat.le_trans this (by decide), by omega⟩
theorem small_p {c : Cf} (h : small c = true) : PathSz c := fun m hm x hx => by
 have := (((small_parts h).2.2.1 m hm).2 x hx).2.1
 omega
end Go.Proofs.YtpmmhmgojjlniaaGreatDoor
namespace Go.Proofs.YtpmmhmgojjlniaaGreatDoor
open Go.RowKit Go.Sort
theorem small_path {c : Cf} (h : small c = true) : ∀ m ∈ c.maps, ∀ x ∈ m.cls, x.m.path.size ≤ 100 := fun m hm x hx => (((small_parts h).2.2.1 m hm).2 x hx).2.1
set_option maxHeartbeats 16000000 in
set_option maxRecDepth 100000 in
theorem prints_is (c : Cf) (v1 v2 v3 : Value) (w : World) (hP : Ar.Y4.Pt w) (ht : Tab w) (hc : CfR w c v1 v2 v3) (hw : Wide c) :
 Calls Tryz.prog 3 #[.agg #[v1, v2, v3]] w fun e w' => e = .returned (.bool true) ∧ Below w.heap.size w w' := by
 have HC := hide hc
 obtain ⟨h1, h2, h3⟩ := hc
 obtain ⟨o1, k1, rfl⟩ := h1.slice
 obtain ⟨o2, k2, rfl⟩ := h2.slice
 obtain ⟨o3, k3, rfl⟩ := h3.slice
 have A := balloc (brefl w) (.cells #[.slice o1 c.lists.length k1, .slice o2 c.maps.length k2, .slice o3 c.routers.length k3] 26)
 have N := hide (heap_new w #[.slice o1 c.lists.length k1, .slice o2 c.maps.length k2, .slice o3 c.routers.length k3] 26)
 have CS := hide (fun W (hb : Below w.heap.size w W) => small_is c _ _ _ W (HC.out.below hb) hw)
 have CL := hide (fun W (hb : Below w.heap.size w W) => lives_is W (hP.on hb) (ht.on hb))
 have CP := hide (fun (hs : small c = true) W (hb : Below w.heap.size w W) => print_is c _ _ _ W (hP.on hb) (ht.on hb) (HC.out.below hb) (small_g hs) hw (small_p hs))
 have CM := hide (fun (hs : small c = true) W (hb : Below w.heap.size w W) => rmay_is c _ _ _ W (HC.out.below hb) hw hs)
 have CY := hide (fun (hs : small c = true) W (hb : Below w.heap.size w W) => may_is c _ _ _ W (hP.on hb) (HC.out.below hb) (small_g hs))
 have CT := hide (fun (hs : small c = true) (hk : cfOk c = true) W (hb : Below w.heap.size w W) => text_is c _ _ _ W (HC.out.below hb) hw (cfF_of hk) (small_path hs))
 have HEQ := hide (fun (hk : cfOk c = true) => cfD_eq c hk)
 have HA := hide A
 have hwl : w.heap.size < (w.alloc (.cells #[.slice o1 c.lists.length k1, .slice o2 c.maps.length k2, .slice o3 c.routers.length k3] 26)).heap.size := by rw [size_alloc]; omega
 clear h1 h2 h3 A hP ht hw HC
 go_enter Tryz.func3, Tryz.ntmps3
 go_upto_region 1 with fail
 obtain ⟨bc, hbc⟩ : ∃ q, w.heap.size = q := ⟨_, rfl⟩
 have HBC := hide hbc
 rw [hbc] at N hwl ⊢
 obtain ⟨w0, hw0⟩ : ∃ q, w.alloc (.cells #[.slice o1 c.lists.length k1, .slice o2 c.maps.length k2, .slice o3 c.routers.length k3] 26) = q := ⟨_, rfl⟩
 rw [hw0] at N HA hwl ⊢
 clear hw0 hbc
 have n0 := cell_of N.out 0 rfl
 have n1 := cell_of N.out 1 rfl
 have n2 := cell_of N.out 2 rfl
 have C1 := hide (CS.out w0 HA.out)
 cases hsm : small c with
 | false =>
  rw [hsm] at C1
  clear hsm CP CM CY CT HEQ
  go_wp2_with fail
  refine C1.out.mono ?_
  rintro e w1 ⟨rfl, hb1⟩
  have HB1 := hide (bthen HA.out hb1)
  have C2 := hide (CL.out w1 HB1.out)
  clear hb1 C1
  go_wp2_with fail
  refine C2.out.mono ?_
  rintro e w2 ⟨rfl, hb2⟩
  have HB2 := hide (bthen HB1.out hb2)
  clear hb2 C2
  go_wp2_with fail
  go_ret
  exact ⟨rfl, by first | exact HB2.out | (rw [← HBC.out]; exact HB2.out)⟩
 | true =>
  rw [hsm] at C1
  have HS := hide hsm
  clear hsm CS
  have HBp : Hid (Below w0.heap.size w0 w0) := Below.refl _ w0
  go_wp2_with fail
  refine C1.out.mono ?_
  rintro e w1 ⟨rfl, hb1⟩
  have HB1 := hide (HBp.out.trans (bless hb1 HBp.out.size))
  have HZ1 := hide (bthen HA.out HB1.out)
  have N1 := hide ((HB1.out.block bc hwl).trans N.out)
  clear hb1 C1 n0 n1 n2 HBp
  have HBp := HB1
  have n0 := cell_of N1.out 0 rfl
  have n1 := cell_of N1.out 1 rfl
  have n2 := cell_of N1.out 2 rfl
  have C2 := hide (CP.out HS.out w1 HZ1.out)
  clear CP
  go_wp2_with fail
  refine C2.out.mono ?_
  rintro e w2 ⟨rfl, hb2⟩
  have HB2 := hide (HBp.out.trans (bless hb2 HBp.out.size))
  have HZ2 := hide (bthen HA.out HB2.out)
  have N2 := hide ((HB2.out.block bc hwl).trans N.out)
  clear hb2 C2 n0 n1 n2 HBp
  have HBp := HB2
  have n0 := cell_of N2.out 0 rfl
  have n1 := cell_of N2.out 1 rfl
  have n2 := cell_of N2.out 2 rfl
  have C3 := hide (CM.out HS.out w2 HZ2.out)
  clear CM
  go_wp2_with fail
  refine C3.out.mono ?_
  rintro e w3 ⟨rfl, hb3⟩
  have HB3 := hide (HBp.out.trans (bless hb3 HBp.out.size))
  have HZ3 := hide (bthen HA.out HB3.out)
  have N3 := hide ((HB3.out.block bc hwl).trans N.out)
  clear hb3 C3 n0 n1 n2 HBp
  have HBp := HB3
  have n0 := cell_of N3.out 0 rfl
  have n1 := cell_of N3.out 1 rfl
  have n2 := cell_of N3.out 2 rfl
  have C4 := hide (CY.out HS.out w3 HZ3.out)
  clear CY
  go_wp2_with fail
  refine C4.out.mono ?_
  rintro e w4 ⟨rfl, hb4⟩
  have HB4 := hide (HBp.out.trans (bless hb4 HBp.out.size))
  have HZ4 := hide (bthen HA.out HB4.out)
  have N4 := hide ((HB4.out.block bc hwl).trans N.out)
  clear hb4 C4 n0 n1 n2 HBp
  have HBp := HB4
  have n0 := cell_of N4.out 0 rfl
  have n1 := cell_of N4.out 1 rfl
  have n2 := cell_of N4.out 2 rfl
  cases hk : cfOk c with
  | false =>
   have he : prE c = 1 := by unfold prE; rw [if_pos hk]
   have hT : prT c = ⟨#[]⟩ := by unfold prT; rw [he]; rfl
   rw [he, hT]
   clear CT HEQ he hT hk
   have CV := hide (CL.out w4 HZ4.out)
   go_wp2_with fail
   refine CV.out.mono ?_
   rintro e wv ⟨rfl, hbv⟩
   have HBV := hide (bthen HZ4.out hbv)
   clear hbv CV
   go_wp2_with fail
   go_ret
   exact ⟨rfl, by first | exact HBV.out | (rw [← HBC.out]; exact HBV.out)⟩
  | true =>
   have C5 := hide (CT.out HS.out hk w4 HZ4.out)
   rw [HEQ.out hk] at C5
   have HK := hide hk
   obtain ⟨T, hT⟩ : ∃ T : ByteArray, ⟨(cfgB c).toArray⟩ = T := ⟨_, rfl⟩
   have hTs : T.size = (cfgB c).length := by rw [← hT]; show (cfgB c).toArray.size = _; simp
   have hP0 : prE c = 0 → prT c = T := fun h => by unfold prT; rw [if_pos h, hT]
   have hP2 : prE c ≠ 0 → prT c = ⟨#[]⟩ := fun h => by unfold prT; rw [if_neg h]
   have hE : prE c = if 8192 < T.size then 2 else 0 := by unfold prE; rw [if_neg (by rw [hk]; decide), hTs]
   rw [hT] at C5
   clear hT hTs CT HEQ hk
   by_cases h8 : 8192 < T.size
   · have h8' : (8192 : Int) < (T.size : Int) := by omega
     rw [if_pos h8] at hE
     have hT := hP2 (by rw [hE]; decide)
     rw [hE, hT]
     clear hE hT hP0 hP2
     go_wp2_with fail
     refine C5.out.mono ?_
     rintro e w5 ⟨rfl, hb5⟩
     have HZ5 := hide (bthen HZ4.out hb5)
     clear hb5 C5 n0 n1 n2
     have CV := hide (CL.out w5 HZ5.out)
     go_wp2_with fail
     refine CV.out.mono ?_
     rintro e wv ⟨rfl, hbv⟩
     have HBV := hide (bthen HZ5.out hbv)
     clear hbv CV
     go_wp2_with fail
     go_ret
     exact ⟨rfl, by first | exact HBV.out | (rw [← HBC.out]; exact HBV.out)⟩
   · have h8' : ¬ (8192 : Int) < (T.size : Int) := by omega
     rw [if_neg h8] at hE
     have hT := hP0 hE
     rw [hE, hT]
     clear hE hT hP0 hP2
     go_wp2_with fail
     refine C5.out.mono ?_
     rintro e w5 ⟨rfl, hb5⟩
     have HZ5 := hide (bthen HZ4.out hb5)
     clear hb5 C5 n0 n1 n2
     have CV := hide (CL.out w5 HZ5.out)
     go_wp2_with fail
     refine CV.out.mono ?_
     rintro e wv ⟨rfl, hbv⟩
     have HBV := hide (bthen HZ5.out hbv)
     clear hbv CV
     go_wp2_with fail
     go_ret
     exact ⟨rfl, by first | exact HBV.out | (rw [← HBC.out]; exact HBV.out)⟩
end Go.Proofs.YtpmmhmgojjlniaaGreatDoor
namespace Go.Proofs.YtpmmhmgojjlniaaGreatDoor
open Go.ChangeShapes Go.WideShapes Go.ChangeAt Go.RowKit Go.Joins Go.Deep
theorem own : ownKnob Tryz.prog.godebug = none := by kernel_rfl
theorem range_of {W : World} {l : List (String × DataW Unit)} (D : DataW Unit) (hl : (l.filter fun x => x.1 == "strconv.ErrRange") = [("strconv.ErrRange", D)]) (hD : ∃ nm d, D = .iface nm d)
 (hH : laidMetH Tryz.prog [("strconv.ErrRange", D)] W → laidMet Tryz.prog [("strconv.ErrRange", D)] W) (h : laidMetH Tryz.prog l W) : ∃ ev, W.cell? ⟨3, 0, none⟩ = some ev ∧ (ev = .nilIface ∨ ∃ te pe, ev = .iface te pe) := by
 have h1 := h.filter fun x => x.1 == "strconv.ErrRange"
 rw [hl] at h1
 have h2 := hH h1
 obtain ⟨nm, d, rfl⟩ := hD
 obtain ⟨ps, ⟨g', t', cs, fuel, p, q, hg', ht', hvar, hd, _, _⟩, _⟩ := h2
 have hg : Tryz.prog.globalNamed "strconv.ErrRange" = some 3 := by kernel_rfl
 obtain rfl := Option.some.inj (hg.symm.trans hg')
 have hty : (Tryz.prog.globals[3]?).map (·.type) = some 249 := by kernel_rfl
 obtain rfl := Option.some.inj (hty.symm.trans ht')
 obtain ⟨f2, u, v, hcs, _, _⟩ := iface_of_trod Tryz.underlying249 hd
 refine ⟨.iface u v, ?_, .inr ⟨u, v, rfl⟩⟩
 have h0 : W.cell? ⟨3, 0, none⟩ = cs[0]? := by simpa using World.var?_cell hg hvar 0
 rw [h0, ← Array.getElem?_toList, hcs]
 rfl
/-- A row that lists variables, and whose proof asks the world's shape besides. -/
theorem returns_both {H : Type} {enc : TypeId × Value → H} {a : Assume} {C : Checked} {os : Os} {f : FuncId} {fn : Func} {s : ChangeSpec} {conds : List PathCond} {apart fresh handsOn again : Bool} {X : World → Array Value → Prop}
 (hX : ∀ (w w' : World) (args : Array Value), w.heap = w'.heap → X w args → X w' args)
 (own : ownKnob C.prog.godebug = none) (started : os.Started) (noInit : C.prog.inits.idxOf? f = none) (hfn : C.prog.funcs[f]? = some fn)
 (witness : ∃ (w : World) (tape : Tape) (i : Input), w.os = os ∧ (w.forCall tape i).Shaped C.prog ∧ i.vars = [] ∧ Input.okWide C.prog (w.forCall tape i) .any w.heap.size f i ∧
  ((s.pre enc C.prog fn conds apart (w.forCall tape i).memory i.args ∧ X (w.forCall tape i).memory i.args) ∧ sizedMet enc C.prog fn (OpenSpec.ofChange s) apart (w.forCall tape i).memory i.args) ∧ a.holds C.prog (lone (Frame.enter C.prog f i.args .normal) [] (w.forCall tape i)))
 (contract : ∀ (W : World) (base : Nat) (args : Array Value) (ds gs : List (DataW H)) (before : List MemPlace),
  (∀ (j : Nat) t v, fn.params[j]? = some t → args[j]? = some v → Value.okWide C.prog W .any base t v) →
  DataW.Whole enc C.prog fn.params.toList s.vars apart W args.toList ds gs before → X W args → W.ShapedOpen C.prog → (DataW.weightsEach C.prog (fn.params.toList ++ s.plain.varTypes C.prog) (ds ++ gs)).all (· ≤ reachBytes) = true →
  Calls C.prog f args W fun e W' => ∃ v, e = .returned v ∧ s.post enc C.prog fn apart fresh handsOn again W args v W') :
 ReturnsInHanded a C os f .any (fun w args => (s.pre enc C.prog fn conds apart w args ∧ X w args) ∧ sizedMet enc C.prog fn (OpenSpec.ofChange s) apart w args) (s.post enc C.prog fn apart fresh handsOn again) := by
 refine returnsInHanded_of_calls own started noInit witness ?_
 intro w tape i _ hsh _ hok hpre _
 obtain ⟨_, _, _, fn', hfn', _, _, _, _, hval⟩ := hok
 obtain rfl : fn' = fn := Option.some.inj (hfn'.symm.trans hfn)
 obtain ⟨⟨⟨ds, gs, before, hw, _⟩, hx⟩, hz⟩ := hpre
 refine (contract (w.forCall tape i) w.heap.size i.args ds gs before hval (DataW.Whole.of_heap (w' := w.forCall tape i) (by rfl) hw) (hX _ _ _ (by rfl) hx) hsh (hz.weights hw)).mono fun e W' ⟨v, he, hp⟩ => ?_
 subst he
 exact ChangeSpec.post_blind hp
/-- What the parser asks of package variables. -/
theorem laidOut : laidOutB Tryz.prog = true := by kernel_rfl
theorem tab_of {W : World} {l : List (String × DataW Unit)} (hl : (l.filter fun x => x.1 == "internal/strconv.uint64pow10") = [("internal/strconv.uint64pow10", Lib.tabData .u64 Lib.pow10Tab)]) (h : laidMetH Tryz.prog l W) : Tab W := by
 have h1 := h.filter fun x => x.1 == "internal/strconv.uint64pow10"
 rw [hl] at h1
 have h2 : laidMet Tryz.prog [("internal/strconv.uint64pow10", Lib.tabData .u64 Lib.pow10Tab)] W := h1
 exact Lib.tabIs_of_head (g := (Tryz.prog.globalNamed "internal/strconv.uint64pow10").getD 0) (t := 350) (e := 319) (n := 20) (by kernel_rfl) (by kernel_rfl) (by kernel_rfl) (by kernel_rfl) (by kernel_rfl) (by kernel_rfl) h2
/-- The first argument fits into an address space; the second one. -/
theorem fit_of0 {H : Type} {f : Func} {l : List TypeId} {vs : List TypeId} {d : DataW H} {r : List (DataW H)} (hp : f.params = (26 :: l).toArray) (h : (DataW.weightsEach Tryz.prog (f.params.toList ++ vs) (d :: r)).all (· ≤ reachBytes) = true) : Fit 26 d := by
 intro n hn
 rw [hp] at h
 refine of_decide_eq_true (List.all_eq_true.1 h n ?_)
 show n ∈ DataW.weightsEach Tryz.prog (26 :: (l ++ vs)) (d :: r)
 simp only [DataW.weightsEach, List.mem_append]
 exact .inl hn
theorem maxLen_of {W : World} (h : W.ShapedOpen Tryz.prog) : ∃ m, W.cell? ⟨0, 0, none⟩ = some (.int .i64 m) :=
 cell_of_shapedOpen_int (zero := #[.int .i64 0]) (t := 3) h (of_decide_eq_true (by kernel_rfl)) (by kernel_rfl) rfl (by kernel_rfl) (by kernel_rfl) Tryz.underlying3
end Go.Proofs.YtpmmhmgojjlniaaGreatDoor
