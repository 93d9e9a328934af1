import Derived.Shelf.SlGeneric
import Derived.Shelf.Small.Wraps
import Derived.Shelf.Slices.Clone
import Derived.Shelf.SlicesE.IndexFunc
import Derived.Test.YtkhmhmopcofejaaProg
import Derived.Shelf.Slices.Turned
import Derived.Test.YtkhmhmopcofejaaH1
import Derived.ArgAppend
/- The library's contracts of cmp.Compare, slices.Clone, Compact, ContainsFunc and Equal, laid at this translation. -/
namespace Go.Proofs
open Go.Shelf
def Try.lays122_ren : Go.Shelf.Ren := ⟨fun | 122 => 93 | 215 => 104 | n => n, fun | 3 => 3 | 4 => 4 | n => n, fun | n => n⟩
theorem Try.lays122 : Go.Proofs.Lays.n122 Try.prog Try.lays122_ren := {
  mixed := by kernel_rfl
  f122 := Try.func93.trans (congrArg some (by kernel_rfl))
  f215 := Try.func104.trans (congrArg some (by kernel_rfl))
  t3 := Try.underlying3
  a3 := Try.isAgg3
  z3 := Try.sizeOf3
  v3 := Try.zeroValue3
  t4 := Try.underlying4
  a4 := Try.isAgg4
  z4 := Try.sizeOf4
  v4 := Try.zeroValue4 }
open Go.RowKit in
theorem Try.cmp_Compare_int (x y : Int) (w : World) :
    Calls Try.prog 93 #[.int .i64 x, .int .i64 y] w fun e w' => e = .returned (.int .i64 (Lib.compareInt x y)) ∧ w' = w := Any.cmp_Compare_int Try.lays122 x y w
def Try.laysSlH8_f41_ren : Go.Shelf.Ren := ⟨fun | 8 => 99 | 6 => 106 | n => n, fun | 22 => 23 | 23 => 3 | 25 => 98 | 4 => 4 | 3 => 3 | 0 => 0 | n => n, fun | n => n⟩
theorem Try.laysSlH8_f41 : Go.Proofs.SlLaysH.n8 Try.prog Try.laysSlH8_f41_ren := {
  mixed := by kernel_rfl
  f6 := ⟨Try.f106.name, by decide, Try.func106.trans (congrArg some (by kernel_rfl))⟩
  f8 := ⟨Try.f99.name, by decide, Try.func99.trans (congrArg some (by kernel_rfl))⟩
  t0 := Try.underlying0
  a0 := Try.isAgg0
  z0 := Try.sizeOf0
  v0 := Try.zeroValue0
  t3 := Try.underlying3
  a3 := Try.isAgg3
  z3 := Try.sizeOf3
  v3 := Try.zeroValue3
  t4 := Try.underlying4
  a4 := Try.isAgg4
  z4 := Try.sizeOf4
  v4 := Try.zeroValue4
  t22 := Try.underlying23
  a22 := Try.isAgg23
  z22 := Try.sizeOf23
  v22 := Try.zeroValue23
  a23 := Try.isAgg3
  z23 := Try.sizeOf3
  t25 := Try.underlying98
  a25 := Try.isAgg98
  z25 := Try.sizeOf98
  v25 := Try.zeroValue98 }
open Go.RowKit Go.Lib in
theorem Try.slices_ContainsFunc {α : Type} [Inhabited α] (enc : α → Value) (p : α → Bool) (g : Nat) (lb : Array Value) (eg : ∀ args w, (callFunc g args).run Try.prog w = .ok (.enter g args) w) (b off n c : Nat) (zs : List α) (w : World) (hp : PredAt Try.prog g lb enc p w) (hz : n ≤ zs.length) (hbig : n ≤ 9223372036854775807) (hc : ∀ j, j < zs.length → w.cell? ⟨b, off + j, none⟩ = some (enc zs[j]!)) :
    Calls Try.prog 99 #[.slice (some ⟨b, off, none⟩) n c, .func (.func g) #[] lb] w fun e w' => e = .returned (.bool ((zs.take n).any p)) ∧ ∃ q, w' = w.drewN q := AnyE.slices_ContainsFunc Try.laysSlH8_f41 enc p g lb eg b off n c zs w hp hz hbig hc
open Go.RowKit Go.Lib in
theorem Try.slices_ContainsFunc_empty {α : Type} [Inhabited α] (a : Option Addr) (c : Nat) (fv : Value) (w : World) :
    Calls Try.prog 99 #[.slice a 0 c, fv] w fun e w' => e = .returned (.bool false) ∧ w' = w := AnyE.slices_ContainsFunc_empty Try.laysSlH8_f41 a c fv w
end Go.Proofs

/- The library's contract of slices.Contains, laid at this translation. -/
namespace Go.Proofs
open Go.Shelf
def Try.lays107_ren : Go.Shelf.Ren := ⟨fun | 107 => 103 | 108 => 107 | n => n, fun | 28 => 23 | 3 => 3 | 4 => 4 | 0 => 0 | n => n, fun | n => n⟩
theorem Try.lays107 : Go.Proofs.Lays.n107 Try.prog Try.lays107_ren := {
  mixed := by kernel_rfl
  f107 := Try.func103.trans (congrArg some (by kernel_rfl))
  f108 := Try.func107.trans (congrArg some (by kernel_rfl))
  t0 := Try.underlying0
  a0 := Try.isAgg0
  z0 := Try.sizeOf0
  v0 := Try.zeroValue0
  t3 := Try.underlying3
  a3 := Try.isAgg3
  z3 := Try.sizeOf3
  v3 := Try.zeroValue3
  t4 := Try.underlying4
  a4 := Try.isAgg4
  z4 := Try.sizeOf4
  v4 := Try.zeroValue4
  t28 := Try.underlying23
  a28 := Try.isAgg23
  z28 := Try.sizeOf23
  v28 := Try.zeroValue23 }
open Go.Lib in
theorem Try.slices_Contains_int (b off n c : Nat) (zs : List Int) (x : Int) (w : World) (hz : n ≤ zs.length) (hbig : n ≤ 9223372036854775807) (hc : ∀ j, j < zs.length → w.cell? ⟨b, off + j, none⟩ = some (.int .i64 (zs.getD j 0))) :
    Calls Try.prog 103 #[.slice (some ⟨b, off, none⟩) n c, .int .i64 x] w fun e w' => e = .returned (.bool ((zs.take n).contains x)) ∧ w' = w := Any.slices_Contains_int Try.lays107 b off n c zs x w hz hbig hc
open Go.Lib in
theorem Try.slices_Contains_int_empty (a : Option Addr) (c : Nat) (x : Int) (w : World) :
    Calls Try.prog 103 #[.slice a 0 c, .int .i64 x] w fun e w' => e = .returned (.bool false) ∧ w' = w := Any.slices_Contains_int_empty Try.lays107 a c x w
end Go.Proofs

/- The program's mayAS, First, Origin and put. -/
namespace Go.Proofs.Ytkhmhmopcofejaa
open Go.RowKit Go.Sort

theorem mayAS_is (n : Int) (r : Bool) (h : Is.as n = r) (w : World) : Calls Try.prog 98 #[.int .i64 n] w fun e w' => e = .returned (.bool r) ∧ w' = w := by
  cases r
  · rcases (Is.as_not n).1 h with h | h
    · have h0 : ¬ 1 ≤ n := by omega
      clear h
      go_enter Try.func98, Try.ntmps98
      go_wp2_with fail
      go_ret
      exact ⟨rfl, rfl⟩
    · have h0 : 1 ≤ n := by omega
      have h1 : ¬ n ≤ 65535 := by omega
      clear h
      go_enter Try.func98, Try.ntmps98
      go_wp2_with fail
      go_ret
      exact ⟨rfl, rfl⟩
  · obtain ⟨h0, h1⟩ := (Is.as_iff n).1 h
    have h0 : 1 ≤ n := by omega
    have h1 : n ≤ 65535 := by omega
    clear h
    go_enter Try.func98, Try.ntmps98
    go_wp2_with fail
    go_ret
    exact ⟨rfl, rfl⟩

end Go.Proofs.Ytkhmhmopcofejaa

/- The program's May and Prepend. -/
namespace Go.Proofs.Ytkhmhmopcofejaa
open Go.RowKit Go.Sort

theorem mayNot_is (n : Int) (r : Bool) (h : Is.as n = r) (w : World) : Calls Try.prog 97 #[.int .i64 n] w fun e w' => e = .returned (.bool (!r)) ∧ w' = w := by
  have CA := hide (fun W => mayAS_is n r h W)
  clear h
  go_enter Try.func97, Try.ntmps97
  go_wp2_with fail
  refine (CA.out _).mono ?_
  rintro e w1 ⟨rfl, rfl⟩
  go_wp2_with fail
  go_ret
  exact ⟨rfl, rfl⟩
theorem pred40 (w : World) : PredAt Try.prog 97 #[] (Value.int .i64) (fun n => !Is.as n) w := fun W x _ =>
  (mayNot_is x _ rfl W).mono fun _ _ h => ⟨h.1, 0, h.2⟩
theorem enter40 : ∀ args w, (callFunc 97 args).run Try.prog w = .ok (.enter 97 args) w := enters_of Try.func97 (by kernel_rfl) rfl
theorem hasNot_is (ao : Option Addr) (ca : Nat) (l : List Int) (r : Bool) (hr : l.any (fun n => !Is.as n) = r) (W : World) (hA : Is.slot W ao l) (hl : l.length ≤ 320) :
    Calls Try.prog 99 #[.slice ao l.length ca, .func (.func 97) #[] #[]] W fun e w' => e = .returned (.bool r) ∧ Below W.heap.size W w' := by
  by_cases h0 : l = []
  · subst h0
    obtain rfl : false = r := hr
    exact (Try.slices_ContainsFunc_empty (α := Int) ao ca _ W).mono fun e w' h => ⟨h.1, h.2 ▸ brefl W⟩
  · obtain ⟨b, off, rfl, hrd⟩ := Is.slot_at hA (k := 0) (List.length_pos_iff.2 h0)
    refine (Try.slices_ContainsFunc (Value.int .i64) (fun n => !Is.as n) 97 #[] enter40 b off l.length ca l W (pred40 W) (Nat.le_refl _) (by omega) ?_).mono ?_
    · intro j hj
      rw [hrd j hj, getElem!_pos l j hj]
    · rintro e w' ⟨rfl, q, rfl⟩
      rw [List.take_length, hr]
      exact ⟨rfl, ((Grows.refl W).drewN q).below⟩

theorem may_is (ao : Option Addr) (ca : Nat) (l : List Int) (r : Bool) (hr : Is.may l = r) (W : World) (hA : Is.slot W ao l) (hl : l.length ≤ 320) :
    Calls Try.prog 81 #[.slice ao l.length ca] W fun e w' => e = .returned (.bool r) ∧ Below W.heap.size W w' := by
  by_cases h16 : l.length ≤ 16
  · have h16' : (l.length : Int) ≤ 16 := by omega
    have HB := hide (fun W hA => hasNot_is ao ca l (!r) (by
      rw [← hr, Is.may, decide_eq_true h16, Bool.true_and, List.any_eq_not_all_not]
      simp) W hA hl)
    have CB := hide (HB.out W hA)
    clear HB hr hA
    go_enter Try.func81, Try.ntmps81
    go_wp2_with fail
    refine CB.out.mono ?_
    rintro e w1 ⟨rfl, hb1⟩
    have B1 := hide hb1
    clear hb1 CB
    go_wp2_with fail
    go_ret
    exact ⟨ret_bool (by simp), B1.out⟩
  · have h16' : ¬ (l.length : Int) ≤ 16 := by omega
    obtain rfl : r = false := by rw [← hr, Is.may, decide_eq_false h16]; rfl
    clear hr hA
    go_enter Try.func81, Try.ntmps81
    go_wp2_with fail
    go_ret
    exact ⟨rfl, brefl W⟩

end Go.Proofs.Ytkhmhmopcofejaa

/- The program's Compare. -/
namespace Go.Proofs.Ytkhmhmopcofejaa
open Go.RowKit Go.Sort

/-- How slices.Compare tells two lists. -/
def Is.scmp : List Int → List Int → Int
  | [], [] => 0
  | [], _ :: _ => -1
  | _ :: _, [] => 1
  | x :: a, y :: b => if x < y then -1 else if y < x then 1 else Is.scmp a b
theorem Is.scmp_lex : ∀ a b : List Int, a.length = b.length → Is.scmp a b = Is.lex a b
  | [], [], _ => rfl
  | [], _ :: _, h => by simp at h
  | _ :: _, [], h => by simp at h
  | x :: a, y :: b, h => by
    rw [Is.scmp, Is.lex, Is.scmp_lex a b (by simpa using h)]
theorem Is.scmp_step (a b : List Int) (k : Nat) (h1 : k < a.length) (h2 : k < b.length) : Is.scmp (a.drop k) (b.drop k) = if a[k] < b[k] then -1 else if b[k] < a[k] then 1 else Is.scmp (a.drop (k + 1)) (b.drop (k + 1)) := by
  rw [List.drop_eq_getElem_cons h1, List.drop_eq_getElem_cons h2]
  rfl
theorem cmp_is (x y r : Int) (h : Lib.compareInt x y = r) (w : World) : Calls Try.prog 93 #[.int .i64 x, .int .i64 y] w fun e w' => e = .returned (.int .i64 r) ∧ w' = w := by
  subst h
  exact Try.cmp_Compare_int x y w

set_option maxHeartbeats 1000000 in
theorem scompare_is (ao bo : Option Addr) (ca cb : Nat) (a b : List Int) (r : Int) (hr : Is.scmp a b = r) (W : World) (hA : Is.slot W ao a) (hB : Is.slot W bo b) (hla : a.length ≤ 320) (_hlb : b.length ≤ 320) :
    Calls Try.prog 96 #[.slice ao a.length ca, .slice bo b.length cb] W fun e w' => e = .returned (.int .i64 r) ∧ w' = W := by
  have HA := hide hA
  have HB := hide hB
  have HR := hide hr
  clear hA hB hr
  go_enter Try.func96, Try.ntmps96
  go_wp2_with fail
  go_loop [11] (fun t => ∃ k : Nat, k ≤ a.length ∧ k ≤ b.length ∧ t = .int .i64 k ∧ Hid (Is.scmp (a.drop k) (b.drop k) = r)) (fun t => a.length - (intOf t).toNat)
  case atStart => exact ⟨0, Nat.zero_le _, Nat.zero_le _, rfl, HR⟩
  case round =>
    obtain ⟨k, hk, hkb, rfl, HX⟩ := hrel
    by_cases hlt : k < a.length
    · have hlt' : (k : Int) < (a.length : Int) := by omega
      obtain ⟨b1, o1, rfl, hr1⟩ := Is.slot_at HA.out hlt
      have e0 := hr1 k hlt
      clear hr1
      by_cases hltb : k < b.length
      · have hltb' : ¬ (b.length : Int) ≤ (k : Int) := by omega
        obtain ⟨b2, o2, rfl, hr2⟩ := Is.slot_at HB.out hltb
        have f0 := hr2 k hltb
        clear hr2
        have HS := hide ((Is.scmp_step a b k hlt hltb).symm.trans HX.out)
        generalize a[k] = x at *
        generalize b[k] = y at *
        rcases Int.lt_trichotomy x y with h | h | h
        · have CC := hide (fun W => cmp_is x y (-1) (by simp [Lib.compareInt, h]) W)
          have HN := HS.out
          rw [if_pos h] at HN
          subst HN
          clear HS h
          go_wp2_with fail
          refine (CC.out _).mono ?_
          rintro e w2 ⟨rfl, rfl⟩
          go_wp2_with fail
          go_ret
          exact ⟨rfl, rfl⟩
        · subst h
          have CC := hide (fun W => cmp_is x x 0 (by simp [Lib.compareInt]) W)
          have HN := hide HS.out
          rw [if_neg (by omega), if_neg (by omega)] at HN
          clear HS
          go_wp2_with fail
          refine (CC.out _).mono ?_
          rintro e w2 ⟨rfl, rfl⟩
          go_wp2_with fail
          exact ⟨⟨k + 1, hlt, hltb, by go_num, HN⟩, by simp [intOf] <;> omega⟩
        · have CC := hide (fun W => cmp_is x y 1 (by unfold Lib.compareInt; rw [if_neg (by omega)]; simp [h]) W)
          have HN := HS.out
          rw [if_neg (by omega), if_pos h] at HN
          subst HN
          clear HS h
          go_wp2_with fail
          refine (CC.out _).mono ?_
          rintro e w2 ⟨rfl, rfl⟩
          go_wp2_with fail
          go_ret
          exact ⟨rfl, rfl⟩
      · have hltb' : (b.length : Int) ≤ (k : Int) := by omega
        have HN := HX.out
        rw [List.drop_eq_getElem_cons hlt, List.drop_of_length_le (l := b) (by omega)] at HN
        have HN : 1 = r := HN
        subst HN
        generalize a[k] = x at *
        go_wp2_with fail
        go_ret
        exact ⟨rfl, rfl⟩
    · obtain rfl : k = a.length := by omega
      have HN := HX.out
      rw [List.drop_length] at HN
      by_cases hltb : a.length < b.length
      · have hltb' : (a.length : Int) < (b.length : Int) := by omega
        rw [List.drop_eq_getElem_cons hltb] at HN
        have HN : -1 = r := HN
        subst HN
        go_wp2_with fail
        go_ret
        exact ⟨rfl, rfl⟩
      · have hltb' : ¬ (a.length : Int) < (b.length : Int) := by omega
        rw [List.drop_of_length_le (by omega)] at HN
        have HN : 0 = r := HN
        subst HN
        go_wp2_with fail
        go_ret
        exact ⟨rfl, rfl⟩

theorem or_is (g c : Nat) (x y r : Int) (hr : (if x ≠ 0 then x else y) = r) (W : World) (h0 : W.cell? ⟨g, 0, none⟩ = some (.int .i64 x)) (h1 : W.cell? ⟨g, 1, none⟩ = some (.int .i64 y)) :
    Calls Try.prog 92 #[.slice (some ⟨g, 0, none⟩) 2 c] W fun e w' => e = .returned (.int .i64 r) ∧ w' = W := by
  by_cases hx : x = 0
  · rw [if_neg (by simp [hx])] at hr
    subst hr hx
    by_cases hy : y = 0
    · subst hy
      go_enter Try.func92, Try.ntmps92
      go_wp2_with fail
      go_loop [8] (fun t => t = .int .i64 0 ∨ t = .int .i64 1 ∨ t = .int .i64 2) (fun t => 2 - (intOf t).toNat)
      case atStart => exact .inl rfl
      case round =>
        rcases hrel with rfl | rfl | rfl
        · go_wp2_with fail
          exact ⟨.inr (.inl rfl), by decide⟩
        · go_wp2_with fail
          exact ⟨.inr (.inr rfl), by decide⟩
        · go_wp2_with fail
          go_ret
          exact ⟨rfl, rfl⟩
    · go_enter Try.func92, Try.ntmps92
      go_wp2_with fail
      go_loop [8] (fun t => t = .int .i64 0 ∨ t = .int .i64 1) (fun t => 2 - (intOf t).toNat)
      case atStart => exact .inl rfl
      case round =>
        rcases hrel with rfl | rfl
        · go_wp2_with fail
          exact ⟨.inr rfl, by decide⟩
        · go_wp2_with fail
          go_ret
          exact ⟨rfl, rfl⟩
  · rw [if_pos hx] at hr
    subst hr
    go_enter Try.func92, Try.ntmps92
    go_wp2_with fail
    go_loop [8] (fun t => t = .int .i64 0) (fun t => 2 - (intOf t).toNat)
    case atStart => exact rfl
    case round =>
      subst hrel
      go_wp2_with fail
      go_ret
      exact ⟨rfl, rfl⟩

theorem compare_is (ao bo : Option Addr) (ca cb : Nat) (a b : List Int) (r : Int) (hr : Is.compare a b = r) (W : World) (hA : Is.slot W ao a) (hB : Is.slot W bo b) (hla : a.length ≤ 320) (hlb : b.length ≤ 320) :
    Calls Try.prog 94 #[.slice ao a.length ca, .slice bo b.length cb] W fun e w' => e = .returned (.int .i64 r) ∧ Below W.heap.size W w' := by
  obtain ⟨z, hz⟩ : ∃ z, Is.scmp a b = z := ⟨_, rfl⟩
  obtain ⟨c, hc⟩ : ∃ c, Lib.compareInt (a.length : Int) (b.length : Int) = c := ⟨_, rfl⟩
  have C1 := hide (fun W => cmp_is _ _ c hc W)
  have C2 := hide (scompare_is ao bo ca cb a b z hz W hA hB hla hlb)
  have HR : Hid ((if c ≠ 0 then c else z) = r) := by
    show _ = _
    rw [← hr, ← hz, ← hc]
    unfold Is.compare Lib.compareInt
    rcases Nat.lt_trichotomy a.length b.length with h | h | h
    · have h' : (a.length : Int) < (b.length : Int) := by omega
      simp [h, h']
    · rw [Is.scmp_lex a b h, h]
      simp
    · have h' : (b.length : Int) < (a.length : Int) := by omega
      have h2 : ¬ (a.length : Int) < (b.length : Int) := by omega
      have h3 : ¬ a.length < b.length := by omega
      simp [h, h', h2, h3]
  have C3 := hide (fun t => or_is W.heap.size 2 c z r HR.out (W.alloc (.cells #[.int .i64 c, .int .i64 z] t)) (by simp) (by simp))
  have B0 := hide (fun t => balloc (brefl W) (.cells #[.int .i64 c, .int .i64 z] t))
  clear hz hc hr hA hB HR
  go_enter Try.func94, Try.ntmps94
  go_wp2_with fail
  refine (C1.out _).mono ?_
  rintro e w1 ⟨rfl, rfl⟩
  go_wp2_with fail
  refine C2.out.mono ?_
  rintro e w2 ⟨rfl, rfl⟩
  go_wp2_with fail
  refine (C3.out _).mono ?_
  rintro e w3 ⟨rfl, rfl⟩
  go_wp2_with fail
  go_ret
  exact ⟨rfl, B0.out _⟩
end Go.Proofs.Ytkhmhmopcofejaa

