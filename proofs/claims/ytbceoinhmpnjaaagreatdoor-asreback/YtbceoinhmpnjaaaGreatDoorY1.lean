import Derived.Test.YtbceoinhmpnjaaaGreatDoorH1
import Derived.Test.YtbceoinhmpnjaaaGreatDoorH8
import Derived.Test.YtbceoinhmpnjaaaGreatDoorSh
import Derived.Lib.SplitLaws
import Derived.Lib.SlTrimSet
import Derived.Lib.AtoiAllCases
/- The program's May. -/
namespace Go.Proofs.YtbceoinhmpnjaaaGreatDoor.Y4
open Go.RowKit Go.Sort

theorem mayAS_is (n : Int) (r : Bool) (h : Is.as n = r) (w : World) : Calls Tryz.prog 48 #[.int .i64 n] w fun e w' => e = .returned (.bool r) ∧ w' = w := by
  cases r
  · rcases (Is.as_not n).1 h with h | h
    · have h0 : ¬ 1 ≤ n := by omega
      clear h
      go_enter Tryz.func48, Tryz.ntmps48
      go_wp2_with fail
      go_ret
      exact ⟨rfl, rfl⟩
    · have h0 : 1 ≤ n := by omega
      have h1 : ¬ n ≤ 65535 := by omega
      clear h
      go_enter Tryz.func48, Tryz.ntmps48
      go_wp2_with fail
      go_ret
      exact ⟨rfl, rfl⟩
  · obtain ⟨h0, h1⟩ := (Is.as_iff n).1 h
    have h0 : 1 ≤ n := by omega
    have h1 : n ≤ 65535 := by omega
    clear h
    go_enter Tryz.func48, Tryz.ntmps48
    go_wp2_with fail
    go_ret
    exact ⟨rfl, rfl⟩

theorem mayNot_is (n : Int) (r : Bool) (h : Is.as n = r) (w : World) : Calls Tryz.prog 47 #[.int .i64 n] w fun e w' => e = .returned (.bool (!r)) ∧ w' = w := by
  have CA := hide (fun W => mayAS_is n r h W)
  clear h
  go_enter Tryz.func47, Tryz.ntmps47
  go_wp2_with fail
  refine (CA.out _).mono ?_
  rintro e w1 ⟨rfl, rfl⟩
  go_wp2_with fail
  go_ret
  exact ⟨rfl, rfl⟩
theorem pred40 (w : World) : PredAt Tryz.prog 47 #[] (Value.int .i64) (fun n => !Is.as n) w := fun W x _ =>
  (mayNot_is x _ rfl W).mono fun _ _ h => ⟨h.1, 0, h.2⟩
theorem enter40 : ∀ args w, (callFunc 47 args).run Tryz.prog w = .ok (.enter 47 args) w := enters_of Tryz.func47 (by kernel_rfl) rfl
theorem hasNot_is (ao : Option Addr) (ca : Nat) (l : List Int) (r : Bool) (hr : l.any (fun n => !Is.as n) = r) (W : World) (hA : Is.slot W ao l) (hl : l.length ≤ 320) :
    Calls Tryz.prog 49 #[.slice ao l.length ca, .func (.func 47) #[] #[]] W fun e w' => e = .returned (.bool r) ∧ Below W.heap.size W w' := by
  by_cases h0 : l = []
  · subst h0
    obtain rfl : false = r := hr
    exact (Tryz.slices_ContainsFunc_empty (α := Int) ao ca _ W).mono fun e w' h => ⟨h.1, h.2 ▸ brefl W⟩
  · obtain ⟨b, off, rfl, hrd⟩ := Is.slot_at hA (k := 0) (List.length_pos_iff.2 h0)
    refine (Tryz.slices_ContainsFunc (Value.int .i64) (fun n => !Is.as n) 47 #[] enter40 b off l.length ca l W (pred40 W) (Nat.le_refl _) (by omega) ?_).mono ?_
    · intro j hj
      rw [hrd j hj, getElem!_pos l j hj]
    · rintro e w' ⟨rfl, q, rfl⟩
      rw [List.take_length, hr]
      exact ⟨rfl, ((Grows.refl W).drewN q).below⟩

theorem may_is (ao : Option Addr) (ca : Nat) (l : List Int) (r : Bool) (hr : Is.may l = r) (W : World) (hA : Is.slot W ao l) (hl : l.length ≤ 320) :
    Calls Tryz.prog 33 #[.slice ao l.length ca] W fun e w' => e = .returned (.bool r) ∧ Below W.heap.size W w' := by
  by_cases h16 : l.length ≤ 16
  · have h16' : (l.length : Int) ≤ 16 := by omega
    have HB := hide (fun W hA => hasNot_is ao ca l (!r) (by
      rw [← hr, Is.may, decide_eq_true h16, Bool.true_and, List.any_eq_not_all_not]
      simp) W hA hl)
    have CB := hide (HB.out W hA)
    clear HB hr hA
    go_enter Tryz.func33, Tryz.ntmps33
    go_wp2_with fail
    refine CB.out.mono ?_
    rintro e w1 ⟨rfl, hb1⟩
    have B1 := hide hb1
    clear hb1 CB
    go_wp2_with fail
    go_ret
    exact ⟨ret_bool (by simp), B1.out⟩
  · have h16' : ¬ (l.length : Int) ≤ 16 := by omega
    obtain rfl : r = false := by rw [← hr, Is.may, decide_eq_false h16]; rfl
    clear hr hA
    go_enter Tryz.func33, Tryz.ntmps33
    go_wp2_with fail
    go_ret
    exact ⟨rfl, brefl W⟩

end Go.Proofs.YtbceoinhmpnjaaaGreatDoor.Y4

/- Texts cut at blanks, trimmed of digits, and read as numbers: the mathematics. -/
namespace Go.Proofs.YtbceoinhmpnjaaaGreatDoor.Y4

theorem splitK_one_zero (k : Nat) (r : List UInt8) : Lib.splitK [32] 0 (k + 1) (32 :: r) = [] :: Lib.splitK [32] 0 k r := by
  have h : Lib.index (32 :: r) [32] = 0 := by simp [Lib.index, List.isPrefixOf]
  rw [Lib.splitK, h]
  simp
theorem splitK_one_cons (c : UInt8) (h : c ≠ 32) : ∀ (k : Nat) (r : List UInt8), ∃ f fs, Lib.splitK [32] 0 k r = f :: fs ∧ Lib.splitK [32] 0 k (c :: r) = (c :: f) :: fs
  | 0, r => ⟨r, [], rfl, rfl⟩
  | k + 1, r => by
    have hp : ([32] : List UInt8).isPrefixOf (c :: r) = false := by
      simp [List.isPrefixOf]
      exact fun e => h e.symm
    have hi : Lib.index (c :: r) [32] = if Lib.index r [32] == -1 then -1 else Lib.index r [32] + 1 := by
      rw [Lib.index, hp]
      simp
    have hge := Lib.index_ge r [32]
    by_cases hm : Lib.index r [32] = -1
    · refine ⟨r, [], ?_, ?_⟩
      · rw [Lib.splitK, hm]; simp
      · rw [Lib.splitK, hi, hm]; simp
    · have hb : (Lib.index r [32] == -1) = false := by simpa using hm
      have h2 : (Lib.index r [32] + 1 == -1) = false := by simp; omega
      refine ⟨r.take (Lib.index r [32]).toNat, Lib.splitK [32] 0 k (r.drop ((Lib.index r [32]).toNat + 1)), ?_, ?_⟩
      · rw [Lib.splitK, hb]; simp
      · rw [Lib.splitK, hi, hb]
        simp only [Bool.false_eq_true, if_false, h2]
        rw [show (Lib.index r [32] + 1).toNat = (Lib.index r [32]).toNat + 1 by omega]
        simp
theorem splitK_is : ∀ l : List UInt8, Lib.splitK [32] 0 (Lib.count l [32]) l = Sp.split l
  | [] => rfl
  | c :: r => by
    have ih := splitK_is r
    by_cases h : c = 32
    · subst h
      rw [Lib.count_cons_eq, Nat.add_comm, splitK_one_zero, ih, Sp.split_blank]
    · obtain ⟨f, fs, h1, h2⟩ := splitK_one_cons c h (Lib.count r [32]) r
      rw [Lib.count_cons_ne c 32 r h, h2, Sp.split, if_neg h, ← ih, h1]
theorem splitB_is (s : ByteArray) : (Lib.splitB ⟨#[32]⟩ 0 (Lib.countB s ⟨#[32]⟩) s).map (·.data.toList) = Sp.split s.data.toList := by
  rw [Lib.splitB_data]
  exact splitK_is s.data.toList

theorem Sp.split_size (s f : List UInt8) (h : f ∈ Sp.split s) : f.length ≤ s.length := by
  induction s generalizing f with
  | nil => simp [Sp.split] at h; subst h; simp
  | cons c r ih =>
    unfold Sp.split at h
    split at h
    · rcases List.mem_cons.1 h with h | h
      · subst h; simp
      · have := ih f h; simp; omega
    · split at h
      · rename_i g gs hg
        rcases List.mem_cons.1 h with h | h
        · subst h
          have := ih g (by rw [hg]; simp)
          simp; omega
        · have := ih f (by rw [hg]; simp [h])
          simp; omega
      · simp at h; subst h; simp
theorem Sp.split_count (s : List UInt8) : (Sp.split s).length ≤ s.length + 1 := by
  induction s with
  | nil => simp [Sp.split]
  | cons c r ih =>
    unfold Sp.split
    split
    · simp; omega
    · split
      · rename_i g gs hg
        rw [hg] at ih
        simp at ih ⊢; omega
      · simp

/-- The ten digits. -/
def tens : List UInt8 := [48, 49, 50, 51, 52, 53, 54, 55, 56, 57]
theorem tens_dig (c : UInt8) : tens.contains c = Ad.dig c := by
  have e : ∀ k : UInt8, c = k ↔ c.toNat = k.toNat := fun k => ⟨fun h => by rw [h], fun h => UInt8.toNat_inj.1 h⟩
  rw [Bool.eq_iff_iff]
  unfold Ad.dig tens
  simp only [List.contains_eq_mem, List.mem_cons, List.not_mem_nil, or_false, decide_eq_true_eq, Bool.and_eq_true, e]
  have h1 : (48 : UInt8).toNat = 48 := rfl
  have h2 : (49 : UInt8).toNat = 49 := rfl
  have h3 : (50 : UInt8).toNat = 50 := rfl
  have h4 : (51 : UInt8).toNat = 51 := rfl
  have h5 : (52 : UInt8).toNat = 52 := rfl
  have h6 : (53 : UInt8).toNat = 53 := rfl
  have h7 : (54 : UInt8).toNat = 54 := rfl
  have h8 : (55 : UInt8).toNat = 55 := rfl
  have h9 : (56 : UInt8).toNat = 56 := rfl
  have h10 : (57 : UInt8).toNat = 57 := rfl
  omega
theorem drop_nil_iff {p : UInt8 → Bool} : ∀ l : List UInt8, l.dropWhile p = [] ↔ ∀ x ∈ l, p x = true
  | [] => by simp
  | c :: r => by
    have ih := drop_nil_iff (p := p) r
    rw [List.dropWhile_cons]
    cases h : p c
    · simp [h]
    · simp [h, ih]
theorem drop_head {p : UInt8 → Bool} : ∀ (l : List UInt8) (x : UInt8) (t : List UInt8), l.dropWhile p = x :: t → p x = false
  | [], _, _, h => by simp at h
  | c :: r, x, t, h => by
    rw [List.dropWhile_cons] at h
    cases hc : p c
    · rw [hc] at h
      simp at h
      rw [← h.1]; exact hc
    · rw [hc] at h
      simp at h
      exact drop_head r x t h
/-- Nothing is left, if all of it is digits. -/
theorem trim_digs (l : List UInt8) : (Lib.trimS l tens = []) ↔ Ad.digs l = true := by
  have hd : Ad.digs l = true ↔ ∀ x ∈ l, tens.contains x = true := by
    unfold Ad.digs
    rw [List.all_eq_true]
    exact ⟨fun h x hx => by rw [tens_dig]; exact h x hx, fun h x hx => by have := h x hx; rw [tens_dig] at this; exact this⟩
  rw [hd]
  unfold Lib.trimS Lib.trimLeftS Lib.trimRightS
  rw [drop_nil_iff]
  cases hr : l.reverse.dropWhile (tens.contains ·) with
  | nil =>
    have := (drop_nil_iff _).1 hr
    exact ⟨fun _ x hx => this x (by simpa using hx), fun _ x hx => by simp at hx⟩
  | cons y t =>
    have hy := drop_head _ y t hr
    constructor
    · intro h
      have := h y (by simp)
      rw [hy] at this
      cases this
    · intro h
      have : l.reverse.dropWhile (tens.contains ·) = [] := (drop_nil_iff _).2 fun x hx => h x (by simpa using hx)
      rw [hr] at this
      cases this

/-- Digits read on: the number that they spell, or it is too great. -/
theorem uint_digs (l : List UInt8) : ∀ (acc : Nat), Ad.digs l = true → (acc : Int) < 18446744073709551616 →
    (Lib.parseUint10 acc l = .ok (l.foldl (fun n c => 10 * n + ((c.toNat : Int) - 48)) (acc : Int)).toNat ∧ 0 ≤ l.foldl (fun n c => 10 * n + ((c.toNat : Int) - 48)) (acc : Int)) ∨
    (Lib.parseUint10 acc l = .range ∧ 18446744073709551616 ≤ l.foldl (fun n c => 10 * n + ((c.toNat : Int) - 48)) (acc : Int)) := by
  induction l with
  | nil =>
    intro acc _ _
    left
    rw [Lib.parseUint10, List.foldl_nil, Int.toNat_natCast]
    exact ⟨rfl, by omega⟩
  | cons c r ih0 =>
    intro acc h ha
    have h1 : Ad.dig c = true ∧ Ad.digs r = true := by
      unfold Ad.digs at h ⊢
      rw [List.all_cons, Bool.and_eq_true] at h
      exact h
    obtain ⟨hc0, hc1⟩ := Ad.dig_bd c h1.1
    have hmono : ∀ (l : List UInt8) (a b : Int), a ≤ b → 0 ≤ a → Ad.digs l = true → b ≤ l.foldl (fun n c => 10 * n + ((c.toNat : Int) - 48)) b ∨ b < 0 := by
      intro l
      induction l with
      | nil => intro a b _ _ _; left; simp
      | cons d t ih =>
        intro a b hab ha hd
        have h2 : Ad.dig d = true ∧ Ad.digs t = true := by
          unfold Ad.digs at hd ⊢
          rw [List.all_cons, Bool.and_eq_true] at hd
          exact hd
        obtain ⟨g0, g1⟩ := Ad.dig_bd d h2.1
        have hb : 0 ≤ b := by omega
        rcases ih (10 * b + ((d.toNat : Int) - 48)) (10 * b + ((d.toNat : Int) - 48)) (Int.le_refl _) (by omega) h2.2 with h3 | h3
        · left
          rw [List.foldl_cons]
          omega
        · omega
    rw [List.foldl_cons]
    have hpc : 48 ≤ c.toNat ∧ c.toNat ≤ 57 := by omega
    rw [Lib.parseUint10, if_pos hpc]
    by_cases hb : 1844674407370955162 ≤ acc
    · right
      rw [if_pos hb]
      refine ⟨rfl, ?_⟩
      rcases hmono r _ (10 * (acc : Int) + ((c.toNat : Int) - 48)) (Int.le_refl _) (by omega) h1.2 with h3 | h3 <;> omega
    · rw [if_neg hb]
      by_cases hb2 : 18446744073709551616 ≤ acc * 10 + (c.toNat - 48)
      · right
        rw [if_pos hb2]
        refine ⟨rfl, ?_⟩
        rcases hmono r _ (10 * (acc : Int) + ((c.toNat : Int) - 48)) (Int.le_refl _) (by omega) h1.2 with h3 | h3 <;> omega
      · rw [if_neg hb2]
        have := ih0 (acc * 10 + (c.toNat - 48)) h1.2 (by omega)
        rw [show ((acc * 10 + (c.toNat - 48) : Nat) : Int) = 10 * (acc : Int) + ((c.toNat : Int) - 48) by omega] at this
        exact this
theorem atoi_num (l : List UInt8) (h : Ad.isNum l = true) : (Lib.atoiAll l = .ok (Ad.num l)) ∨ (Lib.atoiAll l = .range ∧ 65535 < Ad.num l) := by
  have hd := isNum_digs h
  cases l with
  | nil => cases h
  | cons c r =>
    have hc : Ad.dig c = true := by
      unfold Ad.digs at hd
      rw [List.all_cons, Bool.and_eq_true] at hd
      exact hd.1
    obtain ⟨g0, g1⟩ := Ad.dig_bd c hc
    have hz : Lib.parseMag (c :: r) = Lib.parseUint10 0 (c :: r) := by simp [Lib.parseMag]
    rw [Lib.atoiAll_plain c r (by omega) (by omega), hz]
    rcases uint_digs (c :: r) 0 hd (by decide) with ⟨h1, h2⟩ | ⟨h1, h2⟩
    · rw [h1]
      have e : (c :: r).foldl (fun n c => 10 * n + ((c.toNat : Int) - 48)) ((0 : Nat) : Int) = Ad.num (c :: r) := rfl
      rw [e] at h2 ⊢
      unfold Lib.signless
      by_cases hb : 9223372036854775808 ≤ (Ad.num (c :: r)).toNat
      · right
        simp only [if_pos hb]
        exact ⟨trivial, by omega⟩
      · left
        simp only [if_neg hb]
        congr 1
        omega
    · right
      rw [h1]
      have e : (c :: r).foldl (fun n c => 10 * n + ((c.toNat : Int) - 48)) ((0 : Nat) : Int) = Ad.num (c :: r) := rfl
      rw [e] at h2
      exact ⟨rfl, by omega⟩
end Go.Proofs.YtbceoinhmpnjaaaGreatDoor.Y4

/- The program's areNumbers. -/
namespace Go.Proofs.YtbceoinhmpnjaaaGreatDoor.Y4
open Go.RowKit Go.Sort

/-- Texts that lie there. -/
def St.reads (w : World) (b off : Nat) (l : List ByteArray) : Prop := ∀ j (h : j < l.length), w.cell? ⟨b, off + j, none⟩ = some (.string l[j])
theorem St.reads_below {w w' : World} {b off : Nat} {l : List ByteArray} (h : St.reads w b off l) (hb : Below w.heap.size w w') : St.reads w' b off l := by
  intro j hj
  have := h j hj
  rw [hb.cell (p := ⟨b, off + j, none⟩) (block_lt_of_cell this)]
  exact this

theorem trim_is (t r : ByteArray) (hr : r = ⟨(Lib.trimS t.data.toList tens).toArray⟩) (w : World) (ht : t.size ≤ 2000) :
    Calls Tryz.prog 107 #[.string t, .string ⟨#[48, 49, 50, 51, 52, 53, 54, 55, 56, 57]⟩] w fun e w' => e = .returned (.string r) ∧ Below w.heap.size w w' := by
  subst hr
  exact Any.strings_Trim_laid Tryz.lays160 (by kernel_rfl) t ⟨#[48, 49, 50, 51, 52, 53, 54, 55, 56, 57]⟩ w (by omega) (by decide) (ascii_of_all (by decide))

theorem num_zero (t : ByteArray) (hp : 0 < t.size) (hz : t[0].toNat = 48) (h1 : 1 < t.size) : Ad.isNum t.data.toList = false := by
  have hh := Ad.head_iff t hp
  have hc : t[0] = 48 := UInt8.toNat_inj.1 hz
  have hza : Ad.zeroAhead t.data.toList = true := by
    unfold Ad.zeroAhead
    rw [hh, hc, Ad.size_list, decide_eq_true h1]
    rfl
  unfold Ad.isNum
  rw [hza]
  simp
theorem num_digs (t : ByteArray) (hp : 0 < t.size) (h : ¬ (t[0].toNat = 48 ∧ 1 < t.size)) : Ad.isNum t.data.toList = Ad.digs t.data.toList := by
  have hh := Ad.head_iff t hp
  have hne : t.data.toList ≠ [] := by
    intro e
    have := Ad.size_list t
    rw [e] at this
    simp at this
    omega
  have hza : Ad.zeroAhead t.data.toList = false := by
    unfold Ad.zeroAhead
    rw [hh, Ad.size_list]
    by_cases h1 : 1 < t.size
    · have hz : t[0] ≠ 48 := fun e => h ⟨by rw [e]; rfl, h1⟩
      rw [decide_eq_true h1]
      simpa using hz
    · rw [decide_eq_false h1]; rfl
  unfold Ad.isNum
  rw [hza]
  have he : t.data.toList.isEmpty = false := by simpa using hne
  rw [he]
  rfl

set_option maxHeartbeats 2000000 in
theorem areNumbers_is (b off c : Nat) (ws : List ByteArray) (r : Bool) (hr : (ws.all fun t => Ad.isNum t.data.toList) = r) (w : World) (hA : St.reads w b off ws) (hl : ws.length ≤ 3000) (hs : ∀ t ∈ ws, t.size ≤ 2000) :
    Calls Tryz.prog 97 #[.slice (some ⟨b, off, none⟩) ws.length c] w fun e w' => e = .returned (.bool r) ∧ Below w.heap.size w w' := by
  have HA := hide hA
  have HS := hide hs
  have HBAD : Hid (∀ j (h : j < ws.length), Ad.isNum ws[j].data.toList = false → r = false) := by
    intro j h hn
    rw [← hr, List.all_eq_false]
    exact ⟨_, List.getElem_mem h, by rw [hn]; decide⟩
  have HEND : Hid ((∀ j (h : j < ws.length), Ad.isNum ws[j].data.toList = true) → r = true) := by
    intro h
    rw [← hr, List.all_eq_true]
    intro t ht
    obtain ⟨j, hj, rfl⟩ := List.getElem_of_mem ht
    exact h j hj
  clear hA hs hr
  go_enter Tryz.func97, Tryz.ntmps97
  go_wp2_with fail
  go_loopw [7] (fun v wr => ∃ k : Nat, v = .int .i64 k ∧ k ≤ ws.length ∧ Hid (∀ j (h : j < ws.length), j < k → Ad.isNum ws[j].data.toList = true) ∧ Below w.heap.size w wr) (fun v _ => ws.length - (intOf v).toNat)
  case atStart => exact ⟨0, rfl, Nat.zero_le _, hide fun j _ hj => absurd hj (Nat.not_lt_zero _), brefl w⟩
  case round =>
    obtain ⟨k, rfl, hk, HALL, hbr⟩ := hrel
    have HBR := hide hbr
    clear hbr
    by_cases hkl : k < ws.length
    · have hkl' : (k : Int) < (ws.length : Int) := by omega
      have e0 := St.reads_below HA.out HBR.out k hkl
      have hts := HS.out _ (List.getElem_mem hkl)
      have HB := hide (HBAD.out k hkl)
      have HNX : Hid (Ad.isNum ws[k].data.toList = true → ∀ j (h : j < ws.length), j < k + 1 → Ad.isNum ws[j].data.toList = true) := by
        intro h j hj hjk
        rcases Nat.lt_or_ge j k with h1 | h1
        · exact HALL.out j hj h1
        · obtain rfl : j = k := by omega
          exact h
      generalize ws[k] = t at *
      by_cases h0 : t.size = 0
      · obtain rfl : t = ⟨#[]⟩ := ByteArray.ext (Array.eq_empty_of_size_eq_zero h0)
        obtain rfl := HB.out rfl
        clear HB HNX
        go_wp2_with fail
        go_ret
        exact ⟨rfl, HBR.out⟩
      · have he : t.toList.isEmpty = false := by rw [Ad.empty_iff]; exact decide_eq_false h0
        have hp : 0 < t.size := by omega
        have hp' : (0 : Int) < (t.size : Int) := by omega
        by_cases hz : t[0].toNat = 48
        · by_cases h1 : 1 < t.size
          · obtain rfl := HB.out (num_zero t hp hz h1)
            clear HB HNX
            go_wp2_with fail
            go_ret
            exact ⟨rfl, HBR.out⟩
          · have HNUM := hide (num_digs t hp fun h => h1 h.2)
            cases hd : Ad.digs t.data.toList
            · obtain rfl := HB.out (by rw [HNUM.out]; exact hd)
              obtain ⟨v, hv⟩ : ∃ v : ByteArray, v = ⟨(Lib.trimS t.data.toList tens).toArray⟩ := ⟨_, rfl⟩
              have hve : v.toList.isEmpty = false := by
                rw [Ad.empty_iff]
                refine decide_eq_false fun e => ?_
                have h2 : Lib.trimS t.data.toList tens = [] := by
                  have h3 : v.size = (Lib.trimS t.data.toList tens).length := by rw [hv]; show (Lib.trimS t.data.toList tens).toArray.size = _; simp
                  exact List.length_eq_zero_iff.1 (by omega)
                rw [(trim_digs _).1 h2] at hd
                cases hd
              have CT := hide (fun W => trim_is t v hv W hts)
              clear HB HNX HNUM hd hv
              go_wp2_with fail
              refine (CT.out _).mono ?_
              rintro e w2 ⟨rfl, hb2⟩
              have B2 := hide (bthen HBR.out hb2)
              clear hb2 CT
              go_wp2_with fail
              go_ret
              exact ⟨rfl, B2.out⟩
            · have HNX := hide (HNX.out (by rw [HNUM.out]; exact hd))
              have CT := hide (fun W => trim_is t ⟨#[]⟩ (by rw [(trim_digs _).2 hd]) W hts)
              clear HB HNUM hd
              go_wp2_with fail
              refine (CT.out _).mono ?_
              rintro e w2 ⟨rfl, hb2⟩
              have B2 := hide (bthen HBR.out hb2)
              clear hb2 CT e0
              go_wp2_with fail
              exact ⟨⟨k + 1, by go_num, by omega, HNX, B2.out⟩, by simp [intOf] <;> omega⟩
        · have HNUM := hide (num_digs t hp fun h => hz h.1)
          cases hd : Ad.digs t.data.toList
          · obtain rfl := HB.out (by rw [HNUM.out]; exact hd)
            obtain ⟨v, hv⟩ : ∃ v : ByteArray, v = ⟨(Lib.trimS t.data.toList tens).toArray⟩ := ⟨_, rfl⟩
            have hve : v.toList.isEmpty = false := by
              rw [Ad.empty_iff]
              refine decide_eq_false fun e => ?_
              have h2 : Lib.trimS t.data.toList tens = [] := by
                have h3 : v.size = (Lib.trimS t.data.toList tens).length := by rw [hv]; show (Lib.trimS t.data.toList tens).toArray.size = _; simp
                exact List.length_eq_zero_iff.1 (by omega)
              rw [(trim_digs _).1 h2] at hd
              cases hd
            have CT := hide (fun W => trim_is t v hv W hts)
            clear HB HNX HNUM hd hv
            go_wp2_with fail
            refine (CT.out _).mono ?_
            rintro e w2 ⟨rfl, hb2⟩
            have B2 := hide (bthen HBR.out hb2)
            clear hb2 CT
            go_wp2_with fail
            go_ret
            exact ⟨rfl, B2.out⟩
          · have HNX := hide (HNX.out (by rw [HNUM.out]; exact hd))
            have CT := hide (fun W => trim_is t ⟨#[]⟩ (by rw [(trim_digs _).2 hd]) W hts)
            clear HB HNUM hd
            go_wp2_with fail
            refine (CT.out _).mono ?_
            rintro e w2 ⟨rfl, hb2⟩
            have B2 := hide (bthen HBR.out hb2)
            clear hb2 CT e0
            go_wp2_with fail
            exact ⟨⟨k + 1, by go_num, by omega, HNX, B2.out⟩, by simp [intOf] <;> omega⟩
    · obtain rfl : k = ws.length := by omega
      obtain rfl : r = true := HEND.out fun j h => HALL.out j h h
      go_wp2_with fail
      go_ret
      exact ⟨rfl, HBR.out⟩
end Go.Proofs.YtbceoinhmpnjaaaGreatDoor.Y4

