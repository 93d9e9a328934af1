/- The program's Compare. -/
import Derived.Test.YtpkikfojiibdaaaDoorAK2
namespace Go.Proofs.YtpkikfojiibdaaaDoor
open Go.RowKit Go.Sort

/-- How slices.Compare tells two lists. -/
def Is.scmp : List Int → List Int → Int
  | [], [] => 0
  | [], _ :: _ => -1
  | _ :: _, [] => 1
  | x :: a, y :: b => if x < y then -1 else if y < x then 1 else Is.scmp a b
theorem Is.scmp_lex : ∀ a b : List Int, a.length = b.length → Is.scmp a b = Is.lex a b
  | [], [], _ => rfl
  | [], _ :: _, h => by simp at h
  | _ :: _, [], h => by simp at h
  | x :: a, y :: b, h => by
    rw [Is.scmp, Is.lex, Is.scmp_lex a b (by simpa using h)]
theorem Is.scmp_step (a b : List Int) (k : Nat) (h1 : k < a.length) (h2 : k < b.length) : Is.scmp (a.drop k) (b.drop k) = if a[k] < b[k] then -1 else if b[k] < a[k] then 1 else Is.scmp (a.drop (k + 1)) (b.drop (k + 1)) := by
  rw [List.drop_eq_getElem_cons h1, List.drop_eq_getElem_cons h2]
  rfl
theorem cmp_is (x y r : Int) (h : Lib.compareInt x y = r) (w : World) : Calls Tryd.prog 37 #[.int .i64 x, .int .i64 y] w fun e w' => e = .returned (.int .i64 r) ∧ w' = w := by
  subst h
  exact Tryd.cmp_Compare_int x y w

set_option maxHeartbeats 1000000 in
theorem scompare_is (ao bo : Option Addr) (ca cb : Nat) (a b : List Int) (r : Int) (hr : Is.scmp a b = r) (W : World) (hA : Is.slot W ao a) (hB : Is.slot W bo b) (hla : a.length ≤ 320) (_hlb : b.length ≤ 320) :
    Calls Tryd.prog 40 #[.slice ao a.length ca, .slice bo b.length cb] W fun e w' => e = .returned (.int .i64 r) ∧ w' = W := by
  have HA := hide hA
  have HB := hide hB
  have HR := hide hr
  clear hA hB hr
  go_enter Tryd.func40, Tryd.ntmps40
  go_wp2_with fail
  go_loop [11] (fun t => ∃ k : Nat, k ≤ a.length ∧ k ≤ b.length ∧ t = .int .i64 k ∧ Hid (Is.scmp (a.drop k) (b.drop k) = r)) (fun t => a.length - (intOf t).toNat)
  case atStart => exact ⟨0, Nat.zero_le _, Nat.zero_le _, rfl, HR⟩
  case round =>
    obtain ⟨k, hk, hkb, rfl, HX⟩ := hrel
    by_cases hlt : k < a.length
    · have hlt' : (k : Int) < (a.length : Int) := by omega
      obtain ⟨b1, o1, rfl, hr1⟩ := Is.slot_at HA.out hlt
      have e0 := hr1 k hlt
      clear hr1
      by_cases hltb : k < b.length
      · have hltb' : ¬ (b.length : Int) ≤ (k : Int) := by omega
        obtain ⟨b2, o2, rfl, hr2⟩ := Is.slot_at HB.out hltb
        have f0 := hr2 k hltb
        clear hr2
        have HS := hide ((Is.scmp_step a b k hlt hltb).symm.trans HX.out)
        generalize a[k] = x at *
        generalize b[k] = y at *
        rcases Int.lt_trichotomy x y with h | h | h
        · have CC := hide (fun W => cmp_is x y (-1) (by simp [Lib.compareInt, h]) W)
          have HN := HS.out
          rw [if_pos h] at HN
          subst HN
          clear HS h
          go_wp2_with fail
          refine (CC.out _).mono ?_
          rintro e w2 ⟨rfl, rfl⟩
          go_wp2_with fail
          go_ret
          exact ⟨rfl, rfl⟩
        · subst h
          have CC := hide (fun W => cmp_is x x 0 (by simp [Lib.compareInt]) W)
          have HN := hide HS.out
          rw [if_neg (by omega), if_neg (by omega)] at HN
          clear HS
          go_wp2_with fail
          refine (CC.out _).mono ?_
          rintro e w2 ⟨rfl, rfl⟩
          go_wp2_with fail
          exact ⟨⟨k + 1, hlt, hltb, by go_num, HN⟩, by simp [intOf] <;> omega⟩
        · have CC := hide (fun W => cmp_is x y 1 (by unfold Lib.compareInt; rw [if_neg (by omega)]; simp [h]) W)
          have HN := HS.out
          rw [if_neg (by omega), if_pos h] at HN
          subst HN
          clear HS h
          go_wp2_with fail
          refine (CC.out _).mono ?_
          rintro e w2 ⟨rfl, rfl⟩
          go_wp2_with fail
          go_ret
          exact ⟨rfl, rfl⟩
      · have hltb' : (b.length : Int) ≤ (k : Int) := by omega
        have HN := HX.out
        rw [List.drop_eq_getElem_cons hlt, List.drop_of_length_le (l := b) (by omega)] at HN
        have HN : 1 = r := HN
        subst HN
        generalize a[k] = x at *
        go_wp2_with fail
        go_ret
        exact ⟨rfl, rfl⟩
    · obtain rfl : k = a.length := by omega
      have HN := HX.out
      rw [List.drop_length] at HN
      by_cases hltb : a.length < b.length
      · have hltb' : (a.length : Int) < (b.length : Int) := by omega
        rw [List.drop_eq_getElem_cons hltb] at HN
        have HN : -1 = r := HN
        subst HN
        go_wp2_with fail
        go_ret
        exact ⟨rfl, rfl⟩
      · have hltb' : ¬ (a.length : Int) < (b.length : Int) := by omega
        rw [List.drop_of_length_le (by omega)] at HN
        have HN : 0 = r := HN
        subst HN
        go_wp2_with fail
        go_ret
        exact ⟨rfl, rfl⟩

theorem or_is (g c : Nat) (x y r : Int) (hr : (if x ≠ 0 then x else y) = r) (W : World) (h0 : W.cell? ⟨g, 0, none⟩ = some (.int .i64 x)) (h1 : W.cell? ⟨g, 1, none⟩ = some (.int .i64 y)) :
    Calls Tryd.prog 36 #[.slice (some ⟨g, 0, none⟩) 2 c] W fun e w' => e = .returned (.int .i64 r) ∧ w' = W := by
  by_cases hx : x = 0
  · rw [if_neg (by simp [hx])] at hr
    subst hr hx
    by_cases hy : y = 0
    · subst hy
      go_enter Tryd.func36, Tryd.ntmps36
      go_wp2_with fail
      go_loop [8] (fun t => t = .int .i64 0 ∨ t = .int .i64 1 ∨ t = .int .i64 2) (fun t => 2 - (intOf t).toNat)
      case atStart => exact .inl rfl
      case round =>
        rcases hrel with rfl | rfl | rfl
        · go_wp2_with fail
          exact ⟨.inr (.inl rfl), by decide⟩
        · go_wp2_with fail
          exact ⟨.inr (.inr rfl), by decide⟩
        · go_wp2_with fail
          go_ret
          exact ⟨rfl, rfl⟩
    · go_enter Tryd.func36, Tryd.ntmps36
      go_wp2_with fail
      go_loop [8] (fun t => t = .int .i64 0 ∨ t = .int .i64 1) (fun t => 2 - (intOf t).toNat)
      case atStart => exact .inl rfl
      case round =>
        rcases hrel with rfl | rfl
        · go_wp2_with fail
          exact ⟨.inr rfl, by decide⟩
        · go_wp2_with fail
          go_ret
          exact ⟨rfl, rfl⟩
  · rw [if_pos hx] at hr
    subst hr
    go_enter Tryd.func36, Tryd.ntmps36
    go_wp2_with fail
    go_loop [8] (fun t => t = .int .i64 0) (fun t => 2 - (intOf t).toNat)
    case atStart => exact rfl
    case round =>
      subst hrel
      go_wp2_with fail
      go_ret
      exact ⟨rfl, rfl⟩

theorem compare_is (ao bo : Option Addr) (ca cb : Nat) (a b : List Int) (r : Int) (hr : Is.compare a b = r) (W : World) (hA : Is.slot W ao a) (hB : Is.slot W bo b) (hla : a.length ≤ 320) (hlb : b.length ≤ 320) :
    Calls Tryd.prog 38 #[.slice ao a.length ca, .slice bo b.length cb] W fun e w' => e = .returned (.int .i64 r) ∧ Below W.heap.size W w' := by
  obtain ⟨z, hz⟩ : ∃ z, Is.scmp a b = z := ⟨_, rfl⟩
  obtain ⟨c, hc⟩ : ∃ c, Lib.compareInt (a.length : Int) (b.length : Int) = c := ⟨_, rfl⟩
  have C1 := hide (fun W => cmp_is _ _ c hc W)
  have C2 := hide (scompare_is ao bo ca cb a b z hz W hA hB hla hlb)
  have HR : Hid ((if c ≠ 0 then c else z) = r) := by
    show _ = _
    rw [← hr, ← hz, ← hc]
    unfold Is.compare Lib.compareInt
    rcases Nat.lt_trichotomy a.length b.length with h | h | h
    · have h' : (a.length : Int) < (b.length : Int) := by omega
      simp [h, h']
    · rw [Is.scmp_lex a b h, h]
      simp
    · have h' : (b.length : Int) < (a.length : Int) := by omega
      have h2 : ¬ (a.length : Int) < (b.length : Int) := by omega
      have h3 : ¬ a.length < b.length := by omega
      simp [h, h', h2, h3]
  have C3 := hide (fun t => or_is W.heap.size 2 c z r HR.out (W.alloc (.cells #[.int .i64 c, .int .i64 z] t)) (by simp) (by simp))
  have B0 := hide (fun t => balloc (brefl W) (.cells #[.int .i64 c, .int .i64 z] t))
  clear hz hc hr hA hB HR
  go_enter Tryd.func38, Tryd.ntmps38
  go_wp2_with fail
  refine (C1.out _).mono ?_
  rintro e w1 ⟨rfl, rfl⟩
  go_wp2_with fail
  refine C2.out.mono ?_
  rintro e w2 ⟨rfl, rfl⟩
  go_wp2_with fail
  refine (C3.out _).mono ?_
  rintro e w3 ⟨rfl, rfl⟩
  go_wp2_with fail
  go_ret
  exact ⟨rfl, B0.out _⟩
end Go.Proofs.YtpkikfojiibdaaaDoor
