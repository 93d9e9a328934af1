/- Part of the proof. -/
import Derived.Test.YtnadhplhnfpeaaaGreatDoorAZ
import Derived.Test.YtnadhplhnfpeaaaGreatDoorA27
import Derived.Lib.SplitLaws
import Derived.Lib.SlTrimSet
import Derived.Lib.AtoiAllCases
import Derived.Deep.AppendLies
import Derived.OneCell
import Derived.Deep.MidRow
import Derived.Deep.RegionWith
import Derived.BigRegion
namespace Go.Proofs.YtnadhplhnfpeaaaGreatDoor.Ar.Y4
theorem splitK_one_zero (k : Nat) (r : List UInt8) : Lib.splitK [32] 0 (k + 1) (32 :: r) = [] :: Lib.splitK [32] 0 k r := by
 have h : Lib.index (32 :: r) [32] = 0 := by simp [Lib.index, List.isPrefixOf]
 rw [Lib.splitK, h]
 simp
theorem splitK_one_cons (c : UInt8) (h : c ≠ 32) : ∀ (k : Nat) (r : List UInt8), ∃ f fs, Lib.splitK [32] 0 k r = f :: fs ∧ Lib.splitK [32] 0 k (c :: r) = (c :: f) :: fs
  | 0, r => ⟨r, [], rfl, rfl⟩
  | k + 1, r => by
    have hp : ([32] : List UInt8).isPrefixOf (c :: r) = false := by
      simp [List.isPrefixOf]
      exact fun e => h e.symm
    have hi : Lib.index (c :: r) [32] = if Lib.index r [32] == -1 then -1 else Lib.index r [32] + 1 := by
      rw [Lib.index, hp]
      simp
    have hge := Lib.index_ge r [32]
    by_cases hm : Lib.index r [32] = -1
    · refine ⟨r, [], ?_, ?_⟩
      · rw [Lib.splitK, hm]; simp
      · rw [Lib.splitK, hi, hm]; simp
    · have hb : (Lib.index r [32] == -1) = false := by simpa using hm
      have h2 : (Lib.index r [32] + 1 == -1) = false := by simp; omega
      refine ⟨r.take (Lib.index r [32]).toNat, Lib.splitK [32] 0 k (r.drop ((Lib.index r [32]).toNat + 1)), ?_, ?_⟩
      · rw [Lib.splitK, hb]; simp
      · rw [Lib.splitK, hi, hb]
        simp only [Bool.false_eq_true, if_false, h2]
        rw [show (Lib.index r [32] + 1).toNat = (Lib.index r [32]).toNat + 1 by omega]
        simp
theorem splitK_is : ∀ l : List UInt8, Lib.splitK [32] 0 (Lib.count l [32]) l = Sp.split l
  | [] => rfl
  | c :: r => by
    have ih := splitK_is r
    by_cases h : c = 32
    · subst h
      rw [Lib.count_cons_eq, Nat.add_comm, splitK_one_zero, ih, Sp.split_blank]
    · obtain ⟨f, fs, h1, h2⟩ := splitK_one_cons c h (Lib.count r [32]) r
      rw [Lib.count_cons_ne c 32 r h, h2, Sp.split, if_neg h, ← ih, h1]
theorem splitB_is (s : ByteArray) : (Lib.splitB ⟨#[32]⟩ 0 (Lib.countB s ⟨#[32]⟩) s).map (·.data.toList) = Sp.split s.data.toList := by
 rw [Lib.splitB_data]
 exact splitK_is s.data.toList
theorem Sp.split_size (s f : List UInt8) (h : f ∈ Sp.split s) : f.length ≤ s.length := by
 induction s generalizing f with
 | nil => simp [Sp.split] at h; subst h; simp
 | cons c r ih =>
  unfold Sp.split at h
  split at h
  ·
   rcases List.mem_cons.1 h with h | h
   ·
    subst h; simp
   have := ih f h; simp; omega
  split at h
  ·
   rename_i g gs hg
   rcases List.mem_cons.1 h with h | h
   ·
    subst h
    have := ih g (by rw [hg]; simp)
    simp; omega
   have := ih f (by rw [hg]; simp [h])
   simp; omega
  simp at h; subst h; simp
theorem Sp.split_count (s : List UInt8) : (Sp.split s).length ≤ s.length + 1 := by
 induction s with
 | nil => simp [Sp.split]
 | cons c r ih =>
  unfold Sp.split
  split
  ·
   simp; omega
  split
  ·
   rename_i g gs hg
   rw [hg] at ih
   simp at ih ⊢; omega
  simp
def tens : List UInt8 := [48, 49, 50, 51, 52, 53, 54, 55, 56, 57]
theorem tens_dig (c : UInt8) : tens.contains c = Ad.dig c := by
 have e : ∀ k : UInt8, c = k ↔ c.toNat = k.toNat := fun k => ⟨fun h => by rw [h], fun h => UInt8.toNat_inj.1 h⟩
 rw [Bool.eq_iff_iff]
 unfold Ad.dig tens
 simp only [List.contains_eq_mem, List.mem_cons, List.not_mem_nil, or_false, decide_eq_true_eq, Bool.and_eq_true, e]
 have h1 : (48 : UInt8).toNat = 48 := rfl
 have h2 : (49 : UInt8).toNat = 49 := rfl
 have h3 : (50 : UInt8).toNat = 50 := rfl
 have h4 : (51 : UInt8).toNat = 51 := rfl
 have h5 : (52 : UInt8).toNat = 52 := rfl
 have h6 : (53 : UInt8).toNat = 53 := rfl
 have h7 : (54 : UInt8).toNat = 54 := rfl
 have h8 : (55 : UInt8).toNat = 55 := rfl
 have h9 : (56 : UInt8).toNat = 56 := rfl
 have h10 : (57 : UInt8).toNat = 57 := rfl
 omega
theorem drop_nil_iff {p : UInt8 → Bool} : ∀ l : List UInt8, l.dropWhile p = [] ↔ ∀ x ∈ l, p x = true
  | [] => by simp
  | c :: r => by
    have ih := drop_nil_iff (p := p) r
    rw [List.dropWhile_cons]
    cases h : p c
    · simp [h]
    · simp [h, ih]
theorem drop_head {p : UInt8 → Bool} : ∀ (l : List UInt8) (x : UInt8) (t : List UInt8), l.dropWhile p = x :: t → p x = false
  | [], _, _, h => by simp at h
  | c :: r, x, t, h => by
    rw [List.dropWhile_cons] at h
    cases hc : p c
    · rw [hc] at h
      simp at h
      rw [← h.1]; exact hc
    · rw [hc] at h
      simp at h
      exact drop_head r x t h
theorem trim_digs (l : List UInt8) : (Lib.trimS l tens = []) ↔ Ad.digs l = true := by
 have hd : Ad.digs l = true ↔ ∀ x ∈ l, tens.contains x = true := by
  unfold Ad.digs
  rw [List.all_eq_true]
  exact ⟨fun h x hx => by rw [tens_dig]; exact h x hx, fun h x hx => by have := h x hx; rw [tens_dig] at this; exact this⟩
 rw [hd]
 unfold Lib.trimS Lib.trimLeftS Lib.trimRightS
 rw [drop_nil_iff]
 cases hr : l.reverse.dropWhile (tens.contains ·) with
 | nil =>
  have := (drop_nil_iff _).1 hr
  exact ⟨fun _ x hx => this x (by simpa using hx), fun _ x hx => by simp at hx⟩
 | cons y t =>
  have hy := drop_head _ y t hr
  constructor
  ·
   intro h
   have := h y (by simp)
   rw [hy] at this
   cases this
  intro h
  have : l.reverse.dropWhile (tens.contains ·) = [] := (drop_nil_iff _).2 fun x hx => h x (by simpa using hx)
  rw [hr] at this
  cases this
theorem uint_digs (l : List UInt8) : ∀ (acc : Nat), Ad.digs l = true → (acc : Int) < 18446744073709551616 →
    (Lib.parseUint10 acc l = .ok (l.foldl (fun n c => 10 * n + ((c.toNat : Int) - 48)) (acc : Int)).toNat ∧ 0 ≤ l.foldl (fun n c => 10 * n + ((c.toNat : Int) - 48)) (acc : Int)) ∨
    (Lib.parseUint10 acc l = .range ∧ 18446744073709551616 ≤ l.foldl (fun n c => 10 * n + ((c.toNat : Int) - 48)) (acc : Int)) := by
  induction l with
  | nil =>
    intro acc _ _
    left
    rw [Lib.parseUint10, List.foldl_nil, Int.toNat_natCast]
    exact ⟨rfl, by omega⟩
  | cons c r ih0 =>
    intro acc h ha
    have h1 : Ad.dig c = true ∧ Ad.digs r = true := by
      unfold Ad.digs at h ⊢
      rw [List.all_cons, Bool.and_eq_true] at h
      exact h
    obtain ⟨hc0, hc1⟩ := Ad.dig_bd c h1.1
    have hmono : ∀ (l : List UInt8) (a b : Int), a ≤ b → 0 ≤ a → Ad.digs l = true → b ≤ l.foldl (fun n c => 10 * n + ((c.toNat : Int) - 48)) b ∨ b < 0 := by
      intro l
      induction l with
      | nil => intro a b _ _ _; left; simp
      | cons d t ih =>
        intro a b hab ha hd
        have h2 : Ad.dig d = true ∧ Ad.digs t = true := by
          unfold Ad.digs at hd ⊢
          rw [List.all_cons, Bool.and_eq_true] at hd
          exact hd
        obtain ⟨g0, g1⟩ := Ad.dig_bd d h2.1
        have hb : 0 ≤ b := by omega
        rcases ih (10 * b + ((d.toNat : Int) - 48)) (10 * b + ((d.toNat : Int) - 48)) (Int.le_refl _) (by omega) h2.2 with h3 | h3
        · left
          rw [List.foldl_cons]
          omega
        · omega
    rw [List.foldl_cons]
    have hpc : 48 ≤ c.toNat ∧ c.toNat ≤ 57 := by omega
    rw [Lib.parseUint10, if_pos hpc]
    by_cases hb : 1844674407370955162 ≤ acc
    · right
      rw [if_pos hb]
      refine ⟨rfl, ?_⟩
      rcases hmono r _ (10 * (acc : Int) + ((c.toNat : Int) - 48)) (Int.le_refl _) (by omega) h1.2 with h3 | h3 <;> omega
    · rw [if_neg hb]
      by_cases hb2 : 18446744073709551616 ≤ acc * 10 + (c.toNat - 48)
      · right
        rw [if_pos hb2]
        refine ⟨rfl, ?_⟩
        rcases hmono r _ (10 * (acc : Int) + ((c.toNat : Int) - 48)) (Int.le_refl _) (by omega) h1.2 with h3 | h3 <;> omega
      · rw [if_neg hb2]
        have := ih0 (acc * 10 + (c.toNat - 48)) h1.2 (by omega)
        rw [show ((acc * 10 + (c.toNat - 48) : Nat) : Int) = 10 * (acc : Int) + ((c.toNat : Int) - 48) by omega] at this
        exact this
theorem atoi_num (l : List UInt8) (h : Ad.isNum l = true) : (Lib.atoiAll l = .ok (Ad.num l)) ∨ (Lib.atoiAll l = .range ∧ 65535 < Ad.num l) := by
 have hd := isNum_digs h
 cases l with
 | nil => cases h
 | cons c r =>
  have hc : Ad.dig c = true := by
   unfold Ad.digs at hd
   rw [List.all_cons, Bool.and_eq_true] at hd
   exact hd.1
  obtain ⟨g0, g1⟩ := Ad.dig_bd c hc
  have hz : Lib.parseMag (c :: r) = Lib.parseUint10 0 (c :: r) := by simp [Lib.parseMag]
  rw [Lib.atoiAll_plain c r (by omega) (by omega), hz]
  rcases uint_digs (c :: r) 0 hd (by decide) with ⟨h1, h2⟩ | ⟨h1, h2⟩
  ·
   rw [h1]
   have e : (c :: r).foldl (fun n c => 10 * n + ((c.toNat : Int) - 48)) ((0 : Nat) : Int) = Ad.num (c :: r) := rfl
   rw [e] at h2 ⊢
   unfold Lib.signless
   by_cases hb : 9223372036854775808 ≤ (Ad.num (c :: r)).toNat
   ·
    right
    simp only [if_pos hb]
    exact ⟨trivial, by omega⟩
   left
   simp only [if_neg hb]
   congr 1
   omega
  right
  rw [h1]
  have e : (c :: r).foldl (fun n c => 10 * n + ((c.toNat : Int) - 48)) ((0 : Nat) : Int) = Ad.num (c :: r) := rfl
  rw [e] at h2
  exact ⟨rfl, by omega⟩
end Go.Proofs.YtnadhplhnfpeaaaGreatDoor.Ar.Y4
namespace Go.Proofs.YtnadhplhnfpeaaaGreatDoor.Ar.Y4
open Go.RowKit Go.Sort
def St.reads (w : World) (b off : Nat) (l : List ByteArray) : Prop := ∀ j (h : j < l.length), w.cell? ⟨b, off + j, none⟩ = some (.string l[j])
theorem St.reads_below {w w' : World} {b off : Nat} {l : List ByteArray} (h : St.reads w b off l) (hb : Below w.heap.size w w') : St.reads w' b off l := by
 intro j hj
 have := h j hj
 rw [hb.cell (p := ⟨b, off + j, none⟩) (block_lt_of_cell this)]
 exact this
theorem trim_is (t r : ByteArray) (hr : r = ⟨(Lib.trimS t.data.toList tens).toArray⟩) (w : World) (ht : t.size ≤ 2000) :
    Calls Tryz.prog 175 #[.string t, .string ⟨#[48, 49, 50, 51, 52, 53, 54, 55, 56, 57]⟩] w fun e w' => e = .returned (.string r) ∧ Below w.heap.size w w' := by
 subst hr
 exact Any.strings_Trim_laid Tryz.lays160 (by kernel_rfl) t ⟨#[48, 49, 50, 51, 52, 53, 54, 55, 56, 57]⟩ w (by omega) (by decide) (ascii_of_all (by decide))
theorem num_zero (t : ByteArray) (hp : 0 < t.size) (hz : t[0].toNat = 48) (h1 : 1 < t.size) : Ad.isNum t.data.toList = false := by
 have hh := Ad.head_iff t hp
 have hc : t[0] = 48 := UInt8.toNat_inj.1 hz
 have hza : Ad.zeroAhead t.data.toList = true := by
  unfold Ad.zeroAhead
  rw [hh, hc, Ad.size_list, decide_eq_true h1]
  rfl
 unfold Ad.isNum
 rw [hza]
 simp
theorem num_digs (t : ByteArray) (hp : 0 < t.size) (h : ¬ (t[0].toNat = 48 ∧ 1 < t.size)) : Ad.isNum t.data.toList = Ad.digs t.data.toList := by
 have hh := Ad.head_iff t hp
 have hne : t.data.toList ≠ [] := by
  intro e
  have := Ad.size_list t
  rw [e] at this
  simp at this
  omega
 have hza : Ad.zeroAhead t.data.toList = false := by
  unfold Ad.zeroAhead
  rw [hh, Ad.size_list]
  by_cases h1 : 1 < t.size
  ·
   have hz : t[0] ≠ 48 := fun e => h ⟨by rw [e]; rfl, h1⟩
   rw [decide_eq_true h1]
   simpa using hz
  rw [decide_eq_false h1]; rfl
 unfold Ad.isNum
 rw [hza]
 have he : t.data.toList.isEmpty = false := by simpa using hne
 rw [he]
 rfl
set_option maxHeartbeats 2000000 in
theorem areNumbers_is (b off c : Nat) (ws : List ByteArray) (r : Bool) (hr : (ws.all fun t => Ad.isNum t.data.toList) = r) (w : World) (hA : St.reads w b off ws) (hl : ws.length ≤ 3000) (hs : ∀ t ∈ ws, t.size ≤ 2000) :
    Calls Tryz.prog 171 #[.slice (some ⟨b, off, none⟩) ws.length c] w fun e w' => e = .returned (.bool r) ∧ Below w.heap.size w w' := by
 have HA := hide hA
 have HS := hide hs
 have HBAD : Hid (∀ j (h : j < ws.length), Ad.isNum ws[j].data.toList = false → r = false) := by
  intro j h hn
  rw [← hr, List.all_eq_false]
  exact ⟨_, List.getElem_mem h, by rw [hn]; decide⟩
 have HEND : Hid ((∀ j (h : j < ws.length), Ad.isNum ws[j].data.toList = true) → r = true) := by
  intro h
  rw [← hr, List.all_eq_true]
  intro t ht
  obtain ⟨j, hj, rfl⟩ := List.getElem_of_mem ht
  exact h j hj
 clear hA hs hr
 go_enter Tryz.func171, Tryz.ntmps171
 go_wp2_with fail
 go_loopw [7] (fun v wr => ∃ k : Nat, v = .int .i64 k ∧ k ≤ ws.length ∧ Hid (∀ j (h : j < ws.length), j < k → Ad.isNum ws[j].data.toList = true) ∧ Below w.heap.size w wr) (fun v _ => ws.length - (intOf v).toNat)
 case atStart => exact ⟨0, rfl, Nat.zero_le _, hide fun j _ hj => absurd hj (Nat.not_lt_zero _), brefl w⟩
 case round =>
  obtain ⟨k, rfl, hk, HALL, hbr⟩ := hrel
  have HBR := hide hbr
  clear hbr
  by_cases hkl : k < ws.length
  ·
   have hkl' : (k : Int) < (ws.length : Int) := by omega
   have e0 := St.reads_below HA.out HBR.out k hkl
   have hts := HS.out _ (List.getElem_mem hkl)
   have HB := hide (HBAD.out k hkl)
   have HNX : Hid (Ad.isNum ws[k].data.toList = true → ∀ j (h : j < ws.length), j < k + 1 → Ad.isNum ws[j].data.toList = true) := by
    intro h j hj hjk
    rcases Nat.lt_or_ge j k with h1 | h1
    ·
     exact HALL.out j hj h1
    obtain rfl : j = k := by omega
    exact h
   generalize ws[k] = t at *
   by_cases h0 : t.size = 0
   ·
    obtain rfl : t = ⟨#[]⟩ := ByteArray.ext (Array.eq_empty_of_size_eq_zero h0)
    obtain rfl := HB.out rfl
    clear HB HNX
    go_wp2_with fail
    go_ret
    exact ⟨rfl, HBR.out⟩
   have he : t.toList.isEmpty = false := by rw [Ad.empty_iff]; exact decide_eq_false h0
   have hp : 0 < t.size := by omega
   have hp' : (0 : Int) < (t.size : Int) := by omega
   by_cases hz : t[0].toNat = 48
   focus
    by_cases h1 : 1 < t.size
    ·
     obtain rfl := HB.out (num_zero t hp hz h1)
     clear HB HNX
     go_wp2_with fail
     go_ret
     exact ⟨rfl, HBR.out⟩
    have HNUM := hide (num_digs t hp fun h => h1 h.2)
   rotate_left
   focus
    have HNUM := hide (num_digs t hp fun h => hz h.1)
   all_goals
    cases hd : Ad.digs t.data.toList
    ·
     obtain rfl := HB.out (by rw [HNUM.out]; exact hd)
     obtain ⟨v, hv⟩ : ∃ v : ByteArray, v = ⟨(Lib.trimS t.data.toList tens).toArray⟩ := ⟨_, rfl⟩
     have hve : v.toList.isEmpty = false := by
      rw [Ad.empty_iff]
      refine decide_eq_false fun e => ?_
      have h2 : Lib.trimS t.data.toList tens = [] := by
       have h3 : v.size = (Lib.trimS t.data.toList tens).length := by rw [hv]; show (Lib.trimS t.data.toList tens).toArray.size = _; simp
       exact List.length_eq_zero_iff.1 (by omega)
      rw [(trim_digs _).1 h2] at hd
      cases hd
     have CT := hide (fun W => trim_is t v hv W hts)
     clear HB HNX HNUM hd hv
     go_wp2_with fail
     refine (CT.out _).mono ?_
     rintro e w2 ⟨rfl, hb2⟩
     have B2 := hide (bthen HBR.out hb2)
     clear hb2 CT
     go_wp2_with fail
     go_ret
     exact ⟨rfl, B2.out⟩
    have HNX := hide (HNX.out (by rw [HNUM.out]; exact hd))
    have CT := hide (fun W => trim_is t ⟨#[]⟩ (by rw [(trim_digs _).2 hd]) W hts)
    clear HB HNUM hd
    go_wp2_with fail
    refine (CT.out _).mono ?_
    rintro e w2 ⟨rfl, hb2⟩
    have B2 := hide (bthen HBR.out hb2)
    clear hb2 CT e0
    go_wp2_with fail
    exact ⟨⟨k + 1, by go_num, by omega, HNX, B2.out⟩, by simp [intOf] <;> omega⟩
  obtain rfl : k = ws.length := by omega
  obtain rfl : r = true := HEND.out fun j h => HALL.out j h h
  go_wp2_with fail
  go_ret
  exact ⟨rfl, HBR.out⟩
end Go.Proofs.YtnadhplhnfpeaaaGreatDoor.Ar.Y4
namespace Go.Proofs.YtnadhplhnfpeaaaGreatDoor.Ar
abbrev Prt : Type := Int × Int × Bool
inductive Nd where
  | num (dot set : Bool) (rs : List Prt)
  | ch (rows : List (List Nd))
  | st (k : Nat) (n : Nd)
abbrev Bs : Type := List UInt8
def Px.skip (r : Bs) : Bs := r.dropWhile fun c => c == 32
def Px.isAt (r : Bs) (c : UInt8) : Bool := (Px.skip r).head? == some c
def Px.next (r : Bs) : Bs := (Px.skip r).tail
def Px.digits (r : Bs) : Bs := (Px.skip r).takeWhile Ad.dig
def Px.number (r : Bs) : Except Int (Int × Bs) :=
  if Ad.isNum (Px.digits r) = true then (if Is.as (Ad.num (Px.digits r)) = true then .ok (Ad.num (Px.digits r), (Px.skip r).drop (Px.digits r).length) else .error 7) else .error 4
def Px.set : Nat → List Prt → Bs → Except Int (List Prt × Bs)
  | 0, _, _ => .error 4
  | f + 1, acc, r =>
    if acc ≠ [] ∧ Px.isAt r 93 = true then .ok (acc, Px.next r) else
    match Px.number r with
    | .error e => .error e
    | .ok (a, k) =>
      if Px.isAt k 45 = true then
        match Px.number (Px.next k) with
        | .error e => .error e
        | .ok (b, k2) => if b < a then .error 7 else Px.set f (acc ++ [(a, b, true)]) k2
      else Px.set f (acc ++ [(a, a, false)]) k
def Px.starts (c : UInt8) : Bool := c == 46 || c == 91 || c == 40 || Ad.dig c
def Px.atom (ch : Bs → Except Int (List (List Nd) × Bs)) (r : Bs) : Except Int (Nd × Bs) :=
  if Px.isAt r 46 = true then .ok (.num true false [(1, 65535, true)], Px.next r)
  else if Px.isAt r 91 = true then
    match Px.set ((Px.next r).length + 1) [] (Px.next r) with
    | .error e => .error e
    | .ok (rs, k) => .ok (.num false true rs, k)
  else if Px.isAt r 40 = true then
    match ch (Px.next r) with
    | .error e => .error e
    | .ok (c, k) => if Px.isAt k 41 = true then .ok (.ch c, Px.next k) else .error 4
  else
    match Px.number r with
    | .error e => .error e
    | .ok (x, k) => .ok (.num false false [(x, x, false)], k)
def Px.sign (r : Bs) : Nat := if Px.isAt r 42 = true then 3 else if Px.isAt r 43 = true then 4 else if Px.isAt r 63 = true then 5 else 0
def Px.item (ch : Bs → Except Int (List (List Nd) × Bs)) (r : Bs) : Except Int (Nd × Bs) :=
  match Px.atom ch r with
  | .error e => .error e
  | .ok (n, k) => if Px.sign k = 0 then .ok (n, k) else .ok (.st (Px.sign k) n, Px.next k)
def Px.row (ch : Bs → Except Int (List (List Nd) × Bs)) : Nat → List Nd → Bs → Except Int (List Nd × Bs)
  | 0, _, _ => .error 4
  | f + 1, acc, r =>
    match Px.skip r with
    | [] => .ok (acc, [])
    | c :: t =>
      if Px.starts c = true then
        match Px.item ch (c :: t) with
        | .error e => .error e
        | .ok (n, k) => Px.row ch f (acc ++ [n]) k
      else .ok (acc, c :: t)
def Px.rows (ch : Bs → Except Int (List (List Nd) × Bs)) : Nat → List (List Nd) → Bs → Except Int (List (List Nd) × Bs)
  | 0, _, _ => .error 4
  | f + 1, acc, r =>
    match Px.row ch (r.length + 1) [] r with
    | .error e => .error e
    | .ok (row, k) => if Px.isAt k 124 = true then Px.rows ch f (acc ++ [row]) (Px.next k) else .ok (acc ++ [row], k)
def Px.choice : Nat → Bs → Except Int (List (List Nd) × Bs)
  | 0, _ => .error 2
  | d + 1, r => Px.rows (Px.choice d) (r.length + 1) [] r
def Px.parse (s : Bs) : Except Int (Bool × Bool × List (List Nd)) :=
  if 64 < s.length then .error 2 else
  match Px.choice 8 (if Px.isAt s 94 = true then Px.next s else s) with
  | .error e => .error e
  | .ok (c, k) => if Px.skip (if Px.isAt k 36 = true then Px.next k else k) = [] then .ok (Px.isAt s 94, Px.isAt k 36, c) else .error 4
theorem Px.skip_suf (r : Bs) : Px.skip r <:+ r := List.dropWhile_suffix _
theorem Px.skip_idem (r : Bs) : Px.skip (Px.skip r) = Px.skip r := by
 unfold Px.skip
 induction r with
 | nil => rfl
 | cons c t ih =>
  rw [List.dropWhile_cons]
  split
  ·
   exact ih
  rename_i h
  rw [List.dropWhile_cons, if_neg h]
theorem Px.isAt_some {r : Bs} {c : UInt8} (h : Px.isAt r c = true) : ∃ t, Px.skip r = c :: t ∧ Px.next r = t := by
 unfold Px.isAt at h
 cases hs : Px.skip r with
 | nil => rw [hs] at h; simp at h
 | cons d t =>
  rw [hs] at h
  simp at h
  subst h
  exact ⟨t, rfl, by unfold Px.next; rw [hs]; rfl⟩
theorem Px.next_suf (r : Bs) : Px.next r <:+ r := (List.tail_suffix _).trans (Px.skip_suf r)
theorem Px.next_len {r : Bs} {c : UInt8} (h : Px.isAt r c = true) : (Px.next r).length < r.length := by
 obtain ⟨t, h1, h2⟩ := Px.isAt_some h
 have := (Px.skip_suf r).length_le
 rw [h1, List.length_cons] at this
 rw [h2]
 omega
theorem Px.skip_skip_isAt (r : Bs) (c : UInt8) : Px.isAt (Px.skip r) c = Px.isAt r c := by unfold Px.isAt; rw [Px.skip_idem]
theorem Px.number_suf {r : Bs} {x : Int} {k : Bs} (h : Px.number r = .ok (x, k)) : k <:+ r ∧ k.length < r.length := by
 unfold Px.number at h
 split at h
 ·
  rename_i hn
  split at h
  ·
   simp only [Except.ok.injEq, Prod.mk.injEq] at h
   obtain ⟨_, rfl⟩ := h
   have hs := Px.skip_suf r
   refine ⟨(List.drop_suffix _ _).trans hs, ?_⟩
   have hne : Px.digits r ≠ [] := by intro e; rw [e] at hn; cases hn
   have hpos := List.length_pos_iff.2 hne
   have hle : (Px.digits r).length ≤ (Px.skip r).length := (List.takeWhile_prefix _).length_le
   have := hs.length_le
   rw [List.length_drop]
   omega
  cases h
 cases h
theorem Px.set_suf : ∀ (f : Nat) (acc : List Prt) (r : Bs) (rs : List Prt) (k : Bs), Px.set f acc r = .ok (rs, k) → k <:+ r ∧ k.length < r.length
  | 0, _, _, _, _, h => by cases h
  | f + 1, acc, r, rs, k, h => by
    rw [Px.set] at h
    split at h
    · rename_i hc
      simp only [Except.ok.injEq, Prod.mk.injEq] at h
      obtain ⟨_, rfl⟩ := h
      exact ⟨Px.next_suf r, Px.next_len hc.2⟩
    · split at h
      · cases h
      · rename_i a k1 hn
        obtain ⟨s1, l1⟩ := Px.number_suf hn
        split at h
        · rename_i hm
          split at h
          · cases h
          · rename_i b k2 hn2
            obtain ⟨s2, l2⟩ := Px.number_suf hn2
            have s3 := Px.next_suf k1
            have l3 := Px.next_len hm
            split at h
            · cases h
            · obtain ⟨s4, l4⟩ := Px.set_suf f _ k2 rs k h
              exact ⟨s4.trans (s2.trans (s3.trans s1)), by omega⟩
        · obtain ⟨s4, l4⟩ := Px.set_suf f _ k1 rs k h
          exact ⟨s4.trans s1, by omega⟩
def Px.Suf (ch : Bs → Except Int (List (List Nd) × Bs)) : Prop := ∀ r c k, ch r = .ok (c, k) → k <:+ r
theorem Px.atom_suf {ch : Bs → Except Int (List (List Nd) × Bs)} (hc : Px.Suf ch) {r : Bs} {n : Nd} {k : Bs} (h : Px.atom ch r = .ok (n, k)) : k <:+ r ∧ k.length < r.length := by
 unfold Px.atom at h
 split at h
 ·
  rename_i h1
  simp only [Except.ok.injEq, Prod.mk.injEq] at h
  obtain ⟨_, rfl⟩ := h
  exact ⟨Px.next_suf r, Px.next_len h1⟩
 split at h
 ·
  rename_i h1
  split at h
  ·
   cases h
  rename_i rs k1 hs
  simp only [Except.ok.injEq, Prod.mk.injEq] at h
  obtain ⟨_, rfl⟩ := h
  obtain ⟨s1, l1⟩ := Px.set_suf _ _ _ _ _ hs
  have := Px.next_len h1
  exact ⟨s1.trans (Px.next_suf r), by omega⟩
 split at h
 ·
  rename_i h1
  split at h
  ·
   cases h
  rename_i c k1 hs
  split at h
  ·
   rename_i h2
   simp only [Except.ok.injEq, Prod.mk.injEq] at h
   obtain ⟨_, rfl⟩ := h
   have s1 := hc _ _ _ hs
   have := Px.next_len h1
   have := Px.next_len h2
   have := s1.length_le
   exact ⟨(Px.next_suf k1).trans (s1.trans (Px.next_suf r)), by omega⟩
  cases h
 split at h
 ·
  cases h
 rename_i x k1 hn
 simp only [Except.ok.injEq, Prod.mk.injEq] at h
 obtain ⟨_, rfl⟩ := h
 exact Px.number_suf hn
theorem Px.item_suf {ch : Bs → Except Int (List (List Nd) × Bs)} (hc : Px.Suf ch) {r : Bs} {n : Nd} {k : Bs} (h : Px.item ch r = .ok (n, k)) : k <:+ r ∧ k.length < r.length := by
 unfold Px.item at h
 split at h
 ·
  cases h
 rename_i m k1 ha
 obtain ⟨s1, l1⟩ := Px.atom_suf hc ha
 split at h
 ·
  simp only [Except.ok.injEq, Prod.mk.injEq] at h
  obtain ⟨_, rfl⟩ := h
  exact ⟨s1, l1⟩
 simp only [Except.ok.injEq, Prod.mk.injEq] at h
 obtain ⟨_, rfl⟩ := h
 have := (Px.next_suf k1).length_le
 exact ⟨(Px.next_suf k1).trans s1, by omega⟩
theorem Px.row_suf {ch : Bs → Except Int (List (List Nd) × Bs)} (hc : Px.Suf ch) : ∀ (f : Nat) (acc : List Nd) (r : Bs) (l : List Nd) (k : Bs), Px.row ch f acc r = .ok (l, k) → k <:+ r
  | 0, _, _, _, _, h => by cases h
  | f + 1, acc, r, l, k, h => by
    rw [Px.row] at h
    have hs := Px.skip_suf r
    split at h
    · rename_i he
      simp only [Except.ok.injEq, Prod.mk.injEq] at h
      obtain ⟨_, rfl⟩ := h
      exact List.nil_suffix
    · rename_i c t he
      rw [he] at hs
      split at h
      · split at h
        · cases h
        · rename_i n k1 hi
          exact (Px.row_suf hc f _ k1 l k h).trans ((Px.item_suf hc hi).1.trans hs)
      · simp only [Except.ok.injEq, Prod.mk.injEq] at h
        obtain ⟨_, rfl⟩ := h
        exact hs
theorem Px.rows_suf {ch : Bs → Except Int (List (List Nd) × Bs)} (hc : Px.Suf ch) : ∀ (f : Nat) (acc : List (List Nd)) (r : Bs) (l : List (List Nd)) (k : Bs), Px.rows ch f acc r = .ok (l, k) → k <:+ r
  | 0, _, _, _, _, h => by cases h
  | f + 1, acc, r, l, k, h => by
    rw [Px.rows] at h
    split at h
    · cases h
    · rename_i row k1 hr
      have s1 := Px.row_suf hc _ _ _ _ _ hr
      split at h
      · exact (Px.rows_suf hc f _ _ l k h).trans ((Px.next_suf k1).trans s1)
      · simp only [Except.ok.injEq, Prod.mk.injEq] at h
        obtain ⟨_, rfl⟩ := h
        exact s1
theorem Px.choice_suf : ∀ d, Px.Suf (Px.choice d)
  | 0 => fun r c k h => by cases h
  | d + 1 => fun r c k h => Px.rows_suf (Px.choice_suf d) _ _ r c k h
inductive Many (P : List Int → Prop) : List Int → Prop
  | nil : Many P []
  | cons {a b : List Int} : P a → Many P b → Many P (a ++ b)
def Plus (P : List Int → Prop) (p : List Int) : Prop := ∃ a b, p = a ++ b ∧ P a ∧ Many P b
mutual
def Nd.Met : Nd → List Int → Prop
  | .num _ _ rs, p => ∃ n, p = [n] ∧ ∃ r ∈ rs, r.1 ≤ n ∧ n ≤ r.2.1
  | .ch rows, p => Nd.MetRows rows p
  | .st k n, p => if k = 5 then p = [] ∨ Nd.Met n p else if k = 3 then Many (fun q => Nd.Met n q) p else Plus (fun q => Nd.Met n q) p
def Nd.MetRow : List Nd → List Int → Prop
  | [], p => p = []
  | n :: r, p => ∃ a b, p = a ++ b ∧ Nd.Met n a ∧ Nd.MetRow r b
def Nd.MetRows : List (List Nd) → List Int → Prop
  | [], _ => False
  | l :: r, p => Nd.MetRow l p ∨ Nd.MetRows r p
end
def Ex.Meets (x : Bool × Bool × List (List Nd)) (p : List Int) : Prop := ∃ a b c, p = a ++ b ++ c ∧ Nd.MetRows x.2.2 b ∧ (x.1 = true → a = []) ∧ (x.2.1 = true → c = [])
def Px.pair (p : Prt) : Bs := if p.2.2 = true then Lib.itoa p.1 ++ 45 :: Lib.itoa p.2.1 else Lib.itoa p.1
def Px.pairs : List Prt → Bs
  | [] => []
  | [p] => Px.pair p
  | p :: q :: r => Px.pair p ++ 32 :: Px.pairs (q :: r)
def Px.signText (k : Nat) : Bs := if k = 3 then [42] else if k = 4 then [43] else [63]
mutual
def Nd.text : Nd → Bs
  | .num dot set rs => if dot = true then [46] else if set = true then 91 :: (Px.pairs rs ++ [93]) else Px.pairs rs
  | .ch rows => 40 :: (Nd.rowsText rows ++ [41])
  | .st k n => Nd.text n ++ Px.signText k
def Nd.rowText : List Nd → Bs
  | [] => []
  | n :: r => Nd.text n ++ Nd.moreText r
def Nd.moreText : List Nd → Bs
  | [] => []
  | n :: r => 32 :: (Nd.text n ++ Nd.moreText r)
def Nd.rowsText : List (List Nd) → Bs
  | [] => []
  | l :: r => Nd.rowText l ++ Nd.alsoText r
def Nd.alsoText : List (List Nd) → Bs
  | [] => []
  | l :: r => 124 :: (Nd.rowText l ++ Nd.alsoText r)
end
def Px.goodPair (p : Prt) : Prop := Is.as p.1 = true ∧ Is.as p.2.1 = true ∧ p.1 ≤ p.2.1 ∧ (p.2.2 = false → p.1 = p.2.1)
mutual
/-- What the reader makes, so many deep. -/
def Nd.Good : Nat → Nd → Prop
  | _, .num dot set rs => (dot = true ∧ set = false ∧ rs = [(1, 65535, true)]) ∨ (dot = false ∧ set = true ∧ rs ≠ [] ∧ ∀ p ∈ rs, Px.goodPair p) ∨ (dot = false ∧ set = false ∧ ∃ x, rs = [(x, x, false)] ∧ Is.as x = true)
  | 0, .ch _ => False
  | d + 1, .ch rows => rows ≠ [] ∧ Nd.GoodRows d rows
  | d, .st k n => (k = 3 ∨ k = 4 ∨ k = 5) ∧ (∀ j m, n ≠ .st j m) ∧ Nd.Good d n
def Nd.GoodRow : Nat → List Nd → Prop
  | _, [] => True
  | d, n :: r => Nd.Good d n ∧ Nd.GoodRow d r
def Nd.GoodRows : Nat → List (List Nd) → Prop
  | _, [] => True
  | d, l :: r => Nd.GoodRow d l ∧ Nd.GoodRows d r
end
end Go.Proofs.YtnadhplhnfpeaaaGreatDoor.Ar
namespace Go.Proofs.YtnadhplhnfpeaaaGreatDoor.Ar
open Go.RowKit Go.Sort
abbrev Xp : Type := Bool × Bool × List (List Nd)
mutual
def Nd.size : Nd → Nat
  | .num _ _ _ => 1
  | .ch rows => Nd.sizeRows rows
  | .st _ n => Nd.size n
def Nd.sizeRow : List Nd → Nat
  | [] => 0
  | n :: r => Nd.size n + Nd.sizeRow r
def Nd.sizeRows : List (List Nd) → Nat
  | [] => 0
  | l :: r => Nd.sizeRow l + Nd.sizeRows r
end
def X1 : Xp := (true, true, [[.num false false [(65000, 65000, false)], .st 3 (.num true false [(1, 65535, true)])]])
def X2 : Xp := (false, false, [[.st 4 (.ch [[.num false false [(1, 1, false)]], [.num false false [(2, 2, false)]]]), .num false false [(3, 3, false)]]])
theorem m1 : Ex.Meets X1 [65000, 1, 2] := by
 refine ⟨[], [65000, 1, 2], [], rfl, ?_, fun _ => rfl, fun _ => rfl⟩
 simp only [X1, Nd.MetRows, Nd.MetRow, or_false]
 refine ⟨[65000], [1, 2], rfl, ?_, [1, 2], [], rfl, ?_, rfl⟩
 ·
  rw [Nd.Met]
  exact ⟨65000, rfl, (65000, 65000, false), by simp, by decide, by decide⟩
 rw [Nd.Met, if_neg (by decide), if_pos rfl]
 refine Many.cons (a := [1]) (b := [2]) ?_ (Many.cons (a := [2]) (b := []) ?_ .nil)
 ·
  rw [Nd.Met]
  exact ⟨1, rfl, (1, 65535, true), by simp, by decide, by decide⟩
 rw [Nd.Met]
 exact ⟨2, rfl, (1, 65535, true), by simp, by decide, by decide⟩
theorem m2 : ¬ Ex.Meets X1 [1, 65000] := by
 rintro ⟨a, b, c, hp, h, h1, h2⟩
 rw [h1 rfl, h2 rfl] at hp
 simp only [List.nil_append, List.append_nil] at hp
 subst hp
 simp only [X1, Nd.MetRows, Nd.MetRow, or_false] at h
 obtain ⟨a, b, hp, ha, _⟩ := h
 rw [Nd.Met] at ha
 obtain ⟨n, rfl, r, hr, h3, h4⟩ := ha
 simp at hp hr
 obtain ⟨rfl, _⟩ := hp
 subst hr
 simp at h3
theorem m3 : Ex.Meets X2 [7, 1, 2, 3, 9] := by
 refine ⟨[7], [1, 2, 3], [9], rfl, ?_, fun e => (by cases e), fun e => (by cases e)⟩
 simp only [X2, Nd.MetRows, Nd.MetRow, or_false]
 have hn : ∀ k : Int, Nd.Met (.num false false [(k, k, false)]) [k] := by
  intro k
  rw [Nd.Met]
  exact ⟨k, rfl, (k, k, false), by simp, Int.le_refl _, Int.le_refl _⟩
 refine ⟨[1, 2], [3], rfl, ?_, [3], [], rfl, hn 3, rfl⟩
 rw [Nd.Met, if_neg (by decide), if_neg (by decide)]
 refine ⟨[1], [2], rfl, ?_, Many.cons (a := [2]) (b := []) ?_ .nil⟩
 ·
  simp only [Nd.Met, Nd.MetRows, Nd.MetRow, or_false]
  exact .inl ⟨[1], [], rfl, by have := hn 1; rwa [Nd.Met] at this, rfl⟩
 simp only [Nd.Met, Nd.MetRows, Nd.MetRow, or_false]
 exact .inr ⟨[2], [], rfl, by have := hn 2; rwa [Nd.Met] at this, rfl⟩
inductive Tr where
  | mk (k : Int) (d s : Bool) (f t : List Int) (ks : List Tr)
mutual
def Nd.tr : Nd → Tr
  | .num d s rs => .mk 0 d s (rs.map Prod.fst) (rs.map fun p => p.2.1) []
  | .ch rows => .mk 2 false false [] [] (Nd.trRows rows)
  | .st k n => .mk k false false [] [] [Nd.tr n]
def Nd.trRow : List Nd → List Tr
  | [] => []
  | n :: r => Nd.tr n :: Nd.trRow r
def Nd.trRows : List (List Nd) → List Tr
  | [] => []
  | l :: r => .mk 1 false false [] [] (Nd.trRow l) :: Nd.trRows r
end
mutual
def Tr.size : Tr → Nat
  | .mk k _ _ _ _ ks => if k = 0 then 1 else Tr.sizes ks
def Tr.sizes : List Tr → Nat
  | [] => 0
  | t :: r => Tr.size t + Tr.sizes r
end
def Six (w : World) (b off : Nat) (cs : List Value) : Prop := ∀ j (h : j < cs.length), w.cell? ⟨b, off + j, none⟩ = some cs[j]
theorem row_same {w w' : World} {B e size n : Nat} {v : Value} {xs : List Value} (h : w.ownsRow B e size v n xs) (hb : ∀ g, v.ownBlock = some g → w'.heap[g]? = w.heap[g]?) : w'.ownsRow B e size v n xs := by
 obtain ⟨h1, h2⟩ := h
 refine ⟨h1, ?_⟩
 rcases h2 with h2 | ⟨g, cap, cur, rfl, hB, hg, r⟩
 ·
  exact .inl h2
 exact .inr ⟨g, cap, cur, rfl, hB, (hb g rfl).trans hg, r⟩
def Free (w : World) (b : Nat) : Prop := b < w.heap.size ∧ ∀ o, w.frozen? ⟨b, o, none⟩ = false
theorem free_of {w w' : World} {b : Nat} (h : Free w b) (hs : w.heap.size ≤ w'.heap.size) (hb : w'.heap[b]? = w.heap[b]?) : Free w' b :=
  ⟨Nat.lt_of_lt_of_le h.1 hs, fun o => (World.frozen?_of_block (a := ⟨b, o, none⟩) hb).trans (h.2 o)⟩
theorem heap_setCell_ne (w : World) (b o k : Nat) (v : Value) (h : k ≠ b) : (w.setCell ⟨b, o, none⟩ v).heap[k]? = w.heap[k]? := by
 unfold World.setCell
 rw [Array.getElem?_modify, if_neg (fun e => h e.symm)]
theorem size_setCell (w : World) (a : Addr) (v : Value) : (w.setCell a v).heap.size = w.heap.size := by simp [World.setCell]
theorem heap_alloc_lt (w : World) (o : Obj) (k : Nat) (h : k < w.heap.size) : (w.alloc o).heap[k]? = w.heap[k]? := by
 show (w.heap.push o)[k]? = _
 rw [Array.getElem?_push, if_neg (Nat.ne_of_lt h)]
theorem size_alloc (w : World) (o : Obj) : (w.alloc o).heap.size = w.heap.size + 1 := by simp
theorem number_err {r : Bs} {q : Int} (h : Px.number r = .error q) : q ≠ 0 := by
 unfold Px.number at h
 split at h
 ·
  split at h
  ·
   cases h
  cases h; decide
 cases h; decide
theorem set_err : ∀ (f : Nat) (acc : List Prt) (r : Bs) (q : Int), Px.set f acc r = .error q → q ≠ 0
  | 0, _, _, _, h => by cases h; decide
  | f + 1, acc, r, q, h => by
    rw [Px.set] at h
    split at h
    · cases h
    · split at h
      · rename_i e hn; cases h; exact number_err hn
      · split at h
        · split at h
          · rename_i e hn; cases h; exact number_err hn
          · split at h
            · cases h; decide
            · exact set_err f _ _ q h
        · exact set_err f _ _ q h
def NoErr (ch : Bs → Except Int (List (List Nd) × Bs)) : Prop := ∀ r q, ch r = .error q → q ≠ 0
theorem atom_err {ch : Bs → Except Int (List (List Nd) × Bs)} (hc : NoErr ch) {r : Bs} {q : Int} (h : Px.atom ch r = .error q) : q ≠ 0 := by
 unfold Px.atom at h
 split at h
 ·
  cases h
 split at h
 ·
  split at h
  ·
   rename_i e hs; cases h; exact set_err _ _ _ _ hs
  cases h
 split at h
 ·
  split at h
  ·
   rename_i e hs; cases h; exact hc _ _ hs
  split at h
  ·
   cases h
  cases h; decide
 split at h
 ·
  rename_i e hs; cases h; exact number_err hs
 cases h
theorem item_err {ch : Bs → Except Int (List (List Nd) × Bs)} (hc : NoErr ch) {r : Bs} {q : Int} (h : Px.item ch r = .error q) : q ≠ 0 := by
 unfold Px.item at h
 split at h
 ·
  rename_i e hs; cases h; exact atom_err hc hs
 split at h <;> cases h
theorem row_err {ch : Bs → Except Int (List (List Nd) × Bs)} (hc : NoErr ch) : ∀ (f : Nat) (acc : List Nd) (r : Bs) (q : Int), Px.row ch f acc r = .error q → q ≠ 0
  | 0, _, _, _, h => by cases h; decide
  | f + 1, acc, r, q, h => by
    rw [Px.row] at h
    split at h
    · cases h
    · split at h
      · split at h
        · rename_i e hs; cases h; exact item_err hc hs
        · exact row_err hc f _ _ q h
      · cases h
theorem rows_err {ch : Bs → Except Int (List (List Nd) × Bs)} (hc : NoErr ch) : ∀ (f : Nat) (acc : List (List Nd)) (r : Bs) (q : Int), Px.rows ch f acc r = .error q → q ≠ 0
  | 0, _, _, _, h => by cases h; decide
  | f + 1, acc, r, q, h => by
    rw [Px.rows] at h
    split at h
    · rename_i e hs; cases h; exact row_err hc _ _ _ _ hs
    · split at h
      · exact rows_err hc f _ _ q h
      · cases h
theorem choice_err : ∀ d, NoErr (Px.choice d)
  | 0 => fun r q h => by cases h; decide
  | d + 1 => fun r q h => rows_err (choice_err d) _ _ r q h
end Go.Proofs.YtnadhplhnfpeaaaGreatDoor.Ar
namespace Go.Proofs.YtnadhplhnfpeaaaGreatDoor.Ar
def Cut (k u : Bs) : Prop := Px.skip k ≠ [] ∨ ∃ v, u = 41 :: v
abbrev Rdr : Type := Bs → Except Int (List (List Nd) × Bs)
theorem sign_isAt {k : Bs} (h : Px.sign k ≠ 0) : ∃ d, Px.isAt k d = true := by
 unfold Px.sign at h
 split at h
 ·
  rename_i h1; exact ⟨_, h1⟩
 split at h
 ·
  rename_i h1; exact ⟨_, h1⟩
 split at h
 ·
  rename_i h1; exact ⟨_, h1⟩
 exact absurd rfl h
end Go.Proofs.YtnadhplhnfpeaaaGreatDoor.Ar
namespace Go.Proofs.YtnadhplhnfpeaaaGreatDoor.Ar
open Go.RowKit Go.Sort
abbrev tx (l : Bs) : ByteArray := ⟨l.toArray⟩
def setR (R : Except Int (List Prt × Bs)) : Except Int (Nd × Bs) := match R with | .ok (rs, k) => .ok (.num false true rs, k) | .error e => .error e
theorem drew_heap (w : World) : w.drew.heap = w.heap := rfl
end Go.Proofs.YtnadhplhnfpeaaaGreatDoor.Ar
