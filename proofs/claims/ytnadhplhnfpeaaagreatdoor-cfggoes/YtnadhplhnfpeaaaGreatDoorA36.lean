/- Part of the proof. -/
import Derived.Test.YtnadhplhnfpeaaaGreatDoorAZ
import Derived.Test.YtnadhplhnfpeaaaGreatDoorA35
import Derived.Lib.QuietBelow
import Derived.Deep.Cut
import Derived.Test.YtnadhplhnfpeaaaGreatDoorAS
import Derived.Laws.Externs
import Derived.Laws.IdiomCopy
import Derived.Lib.AppendStr
import Derived.Lib.Builder
import Derived.Lib.UnsafeStr
import Derived.Test.YtnadhplhnfpeaaaGreatDoorProg
import Derived.WalkKit
import Derived.WalkLawsBesides
import Derived.WalkSpells
import Derived.RegionTactic
namespace Go.Proofs.YtnadhplhnfpeaaaGreatDoor.Ax
open Go.RowKit
theorem bcell {W w1 : World} (hb : Below W.heap.size W w1) : (∀ b o, b < W.heap.size → w1.cell? ⟨b, o, none⟩ = W.cell? ⟨b, o, none⟩) ∧ (∀ b o, b < W.heap.size → w1.frozen? ⟨b, o, none⟩ = W.frozen? ⟨b, o, none⟩) :=
  ⟨fun b o h => hb.cell (p := ⟨b, o, none⟩) h, fun b o h => hb.frozen (p := ⟨b, o, none⟩) h⟩
theorem bthen {w W w1 : World} (h : Below w.heap.size w W) (hb : Below W.heap.size W w1) : Below w.heap.size w w1 := h.trans (hb.mono h.size)
theorem balloc {w W : World} (h : Below w.heap.size w W) (o : Obj) : Below w.heap.size w (W.alloc o) := h.alloc h.size o
theorem brefl (w : World) : Below w.heap.size w w := Below.refl _ _
theorem may_is (a b : Int) (r : Bool) (h : Ad.may a b = r) (w : World) (ha : 0 ≤ a) (ha2 : a ≤ 4294967295) :
    Calls Tryz.prog 117 #[.agg #[.int .u32 a, .int .i64 b]] w fun e w' => e = .returned (.bool r) ∧ Below w.heap.size w w' := by
 rw [← h]; exact may_any a b w ha ha2
theorem Ad.at0 : (⟨#[46, 46, 46, 47]⟩ : ByteArray)[0]'(by decide) = 46 := rfl
theorem Ad.at1 : (⟨#[46, 46, 46, 47]⟩ : ByteArray)[1]'(by decide) = 46 := rfl
theorem Ad.at2 : (⟨#[46, 46, 46, 47]⟩ : ByteArray)[2]'(by decide) = 46 := rfl
theorem Ad.at3 : (⟨#[46, 46, 46, 47]⟩ : ByteArray)[3]'(by decide) = 47 := rfl
theorem Ad.idx_nat (l : List UInt8) (c : UInt8) (h : ¬ Lib.indexByte l c < 0) : ∃ o : Nat, Lib.indexByte l c = (o : Int) ∧ o < l.length := by
 obtain ⟨o, ho⟩ := Int.eq_ofNat_of_zero_le (show 0 ≤ Lib.indexByte l c by omega)
 refine ⟨o, ho, ?_⟩
 have := (Lib.indexByte_some ho).1
 exact (List.getElem?_eq_some_iff.1 this).1
theorem index_at (s : ByteArray) (c : UInt8) (w : World) : Calls Tryz.prog 128 #[.string s, .int .u8 (c.toNat : Int)] w fun e w' => e = .returned (.int .i64 (Lib.indexByte s.data.toList c)) ∧ w' = w := by
 have := Tryz.strings_IndexByte s (c.toNat : Int) w
 have e : ((c.toNat : Nat) : Int).toNat.toUInt8 = c := by simp
 rw [e] at this
 exact this
def Ad.noParts : Value := .tuple #[.agg #[.string ⟨#[]⟩, .string ⟨#[]⟩, .string ⟨#[]⟩, .string ⟨#[]⟩, .string ⟨#[]⟩], .bool false]
def Ad.splitOf (l : List UInt8) : Value :=
  match Ad.marks5 l with
  | none => Ad.noParts
  | some (a, b, c, d, e) => if (Ad.isNum a && Ad.isNum b && Ad.isNum c && Ad.isNum d && Ad.isNum e) = true then .tuple #[.agg #[.string ⟨a.toArray⟩, .string ⟨b.toArray⟩, .string ⟨c.toArray⟩, .string ⟨d.toArray⟩, .string ⟨e.toArray⟩], .bool true] else Ad.noParts
theorem Ad.ret_no {l : List UInt8} (h : Ad.marks5 l = none) : Ending.returned Ad.noParts = .returned (Ad.splitOf l) := by unfold Ad.splitOf; rw [h]
theorem Ad.ba (s : ByteArray) : (⟨s.data.toList.toArray⟩ : ByteArray) = s := by obtain ⟨⟨l⟩⟩ := s; rfl
theorem Ad.extract_size (s : ByteArray) (a b n : Nat) (h : s.size ≤ n) : (s.extract a b).size ≤ n := by
 have : (s.extract a b).data.toList.length ≤ s.data.toList.length := by rw [Lib.extract_data]; simp; omega
 rw [Ad.size_list, Ad.size_list] at this
 omega
set_option maxHeartbeats 4000000 in
set_option maxRecDepth 100000 in
theorem split_any (s : ByteArray) (w : World) (hs : s.size ≤ 4000) :
    Calls Tryz.prog 115 #[.string s] w fun e w' => e = .returned (Ad.splitOf s.data.toList) ∧ Below w.heap.size w w' := by
 go_enter Tryz.func115, Tryz.ntmps115
 go_wp2_with fail
 refine wp_loop_rounds 5 ?_
 rw [rounds_succ]
 go_wp2_with fail
 refine (index_at s _ _).mono ?_
 rintro e w1 ⟨rfl, rfl⟩
 rw [Ad.at0]
 by_cases i0 : Lib.indexByte s.data.toList 46 < 0
 ·
  have hm : Hid (Ad.marks5 s.data.toList = none) := by
   show _ = _
   unfold Ad.marks5
   simp only [Ad.cutL_none _ _ i0, Option.bind]
  go_wp2_with fail
  exact bodyPost_ret (v := Ad.noParts) (by simp [results, Tryz.results115, go_sem, Ad.noParts]) rfl ⟨Ad.ret_no hm.out, balloc (balloc (brefl w) _) _⟩
 obtain ⟨o0, ho0, hlt0⟩ := Ad.idx_nat _ _ i0
 rw [Ad.size_list] at hlt0
 have C0 := hide (Ad.cutL_at s 46 o0 ho0 hlt0)
 rw [ho0]
 have z0 := Ad.extract_size s 0 o0 4000 (by omega)
 have y0 := Ad.extract_size s (o0 + 1) s.size 4000 (by omega)
 clear i0 ho0
 have h1 : (o0 : Int) < (s.size : Int) := by omega
 have h2 : (o0 : Int) + 1 ≤ (s.size : Int) := by omega
 go_wp2_with fail
 go_region
 go_wp2_with fail
 generalize s.extract 0 o0 = t0 at *
 generalize s.extract (o0 + 1) s.size = s1 at *
 clear h1 h2 hlt0
 rw [rounds_succ]
 go_wp2_with fail
 refine (index_at s1 _ _).mono ?_
 rintro e w1 ⟨rfl, rfl⟩
 rw [Ad.at1]
 by_cases i1 : Lib.indexByte s1.data.toList 46 < 0
 ·
  have hm : Hid (Ad.marks5 s.data.toList = none) := by
   show _ = _
   unfold Ad.marks5
   simp only [C0.out, Ad.cutL_none _ _ i1, Option.bind]
  go_wp2_with fail
  exact bodyPost_ret (v := Ad.noParts) (by simp [results, Tryz.results115, go_sem, Ad.noParts]) rfl ⟨Ad.ret_no hm.out, (balloc (balloc (brefl w) _) _).drew⟩
 obtain ⟨o1, ho1, hlt1⟩ := Ad.idx_nat _ _ i1
 rw [Ad.size_list] at hlt1
 have C1 := hide (Ad.cutL_at s1 46 o1 ho1 hlt1)
 rw [ho1]
 have z1 := Ad.extract_size s1 0 o1 4000 (by omega)
 have y1 := Ad.extract_size s1 (o1 + 1) s1.size 4000 (by omega)
 clear i1 ho1
 have h1 : (o1 : Int) < (s1.size : Int) := by omega
 have h2 : (o1 : Int) + 1 ≤ (s1.size : Int) := by omega
 go_wp2_with fail
 go_region
 go_wp2_with fail
 generalize s1.extract 0 o1 = t1 at *
 generalize s1.extract (o1 + 1) s1.size = s2 at *
 clear h1 h2 hlt1
 rw [rounds_succ]
 go_wp2_with fail
 refine (index_at s2 _ _).mono ?_
 rintro e w1 ⟨rfl, rfl⟩
 rw [Ad.at2]
 by_cases i2 : Lib.indexByte s2.data.toList 46 < 0
 ·
  have hm : Hid (Ad.marks5 s.data.toList = none) := by
   show _ = _
   unfold Ad.marks5
   simp only [C0.out, C1.out, Ad.cutL_none _ _ i2, Option.bind]
  go_wp2_with fail
  exact bodyPost_ret (v := Ad.noParts) (by simp [results, Tryz.results115, go_sem, Ad.noParts]) rfl ⟨Ad.ret_no hm.out, ((balloc (balloc (brefl w) _) _).drew).drew⟩
 obtain ⟨o2, ho2, hlt2⟩ := Ad.idx_nat _ _ i2
 rw [Ad.size_list] at hlt2
 have C2 := hide (Ad.cutL_at s2 46 o2 ho2 hlt2)
 rw [ho2]
 have z2 := Ad.extract_size s2 0 o2 4000 (by omega)
 have y2 := Ad.extract_size s2 (o2 + 1) s2.size 4000 (by omega)
 clear i2 ho2
 have h1 : (o2 : Int) < (s2.size : Int) := by omega
 have h2 : (o2 : Int) + 1 ≤ (s2.size : Int) := by omega
 go_wp2_with fail
 go_region
 go_wp2_with fail
 generalize s2.extract 0 o2 = t2 at *
 generalize s2.extract (o2 + 1) s2.size = s3 at *
 clear h1 h2 hlt2
 rw [rounds_succ]
 go_wp2_with fail
 refine (index_at s3 _ _).mono ?_
 rintro e w1 ⟨rfl, rfl⟩
 rw [Ad.at3]
 by_cases i3 : Lib.indexByte s3.data.toList 47 < 0
 ·
  have hm : Hid (Ad.marks5 s.data.toList = none) := by
   show _ = _
   unfold Ad.marks5
   simp only [C0.out, C1.out, C2.out, Ad.cutL_none _ _ i3, Option.bind]
  go_wp2_with fail
  exact bodyPost_ret (v := Ad.noParts) (by simp [results, Tryz.results115, go_sem, Ad.noParts]) rfl ⟨Ad.ret_no hm.out, (((balloc (balloc (brefl w) _) _).drew).drew).drew⟩
 obtain ⟨o3, ho3, hlt3⟩ := Ad.idx_nat _ _ i3
 rw [Ad.size_list] at hlt3
 have C3 := hide (Ad.cutL_at s3 47 o3 ho3 hlt3)
 rw [ho3]
 have z3 := Ad.extract_size s3 0 o3 4000 (by omega)
 have y3 := Ad.extract_size s3 (o3 + 1) s3.size 4000 (by omega)
 clear i3 ho3
 have h1 : (o3 : Int) < (s3.size : Int) := by omega
 have h2 : (o3 : Int) + 1 ≤ (s3.size : Int) := by omega
 go_wp2_with fail
 go_region
 go_wp2_with fail
 generalize s3.extract 0 o3 = t3 at *
 generalize s3.extract (o3 + 1) s3.size = s4 at *
 clear h1 h2 hlt3
 rw [rounds_succ]
 go_wp2_with fail
 have hm : Hid (Ad.marks5 s.data.toList = some (t0.data.toList, t1.data.toList, t2.data.toList, t3.data.toList, s4.data.toList)) := by
  show _ = _
  unfold Ad.marks5
  simp only [C0.out, C1.out, C2.out, C3.out, Option.bind]
 clear C0 C1 C2 C3
 have ix0 : ∀ w, (Instr.index 172 (.agg #[.string t0, .string t1, .string t2, .string t3, .string s4]) (.int .i64 0)).run Tryz.prog w = .ok (.string t0) w := fun _ => by kernel_rfl
 have ix1 : ∀ w, (Instr.index 172 (.agg #[.string t0, .string t1, .string t2, .string t3, .string s4]) (.int .i64 1)).run Tryz.prog w = .ok (.string t1) w := fun _ => by kernel_rfl
 have ix2 : ∀ w, (Instr.index 172 (.agg #[.string t0, .string t1, .string t2, .string t3, .string s4]) (.int .i64 2)).run Tryz.prog w = .ok (.string t2) w := fun _ => by kernel_rfl
 have ix3 : ∀ w, (Instr.index 172 (.agg #[.string t0, .string t1, .string t2, .string t3, .string s4]) (.int .i64 3)).run Tryz.prog w = .ok (.string t3) w := fun _ => by kernel_rfl
 have ix4 : ∀ w, (Instr.index 172 (.agg #[.string t0, .string t1, .string t2, .string t3, .string s4]) (.int .i64 4)).run Tryz.prog w = .ok (.string s4) w := fun _ => by kernel_rfl
 refine wp_loop_rounds 6 ?_
 rw [rounds_succ]
 go_wp2_with fail
 refine (isNumber_any t0 _ (by unfold maxLen; omega)).mono ?_
 rintro e w1 ⟨rfl, rfl⟩
 cases n0 : Ad.isNum t0.data.toList
 ·
  have hf : Hid (Ad.splitOf s.data.toList = Ad.noParts) := by
   show _ = _
   unfold Ad.splitOf
   rw [hm.out]
   simp only [n0, Bool.false_and, Bool.false_eq_true, if_false]
  clear hm ix0 ix1 ix2 ix3 ix4
  go_wp2_with fail
  exact bodyPost_ret (v := Ad.noParts) (by simp [results, Tryz.results115, go_sem, Ad.noParts]) rfl ⟨by rw [hf.out], ((((balloc (balloc (brefl w) _) _).drew).drew).drew).drew⟩
 have N0 := hide n0
 clear n0
 go_wp2_with fail
 rw [rounds_succ]
 go_wp2_with fail
 refine (isNumber_any t1 _ (by unfold maxLen; omega)).mono ?_
 rintro e w1 ⟨rfl, rfl⟩
 cases n1 : Ad.isNum t1.data.toList
 ·
  have hf : Hid (Ad.splitOf s.data.toList = Ad.noParts) := by
   show _ = _
   unfold Ad.splitOf
   rw [hm.out]
   simp only [n1, Bool.and_false, Bool.false_and, Bool.false_eq_true, if_false]
  clear hm ix0 ix1 ix2 ix3 ix4
  go_wp2_with fail
  exact bodyPost_ret (v := Ad.noParts) (by simp [results, Tryz.results115, go_sem, Ad.noParts]) rfl ⟨by rw [hf.out], ((((balloc (balloc (brefl w) _) _).drew).drew).drew).drew⟩
 have N1 := hide n1
 clear n1
 go_wp2_with fail
 rw [rounds_succ]
 go_wp2_with fail
 refine (isNumber_any t2 _ (by unfold maxLen; omega)).mono ?_
 rintro e w1 ⟨rfl, rfl⟩
 cases n2 : Ad.isNum t2.data.toList
 ·
  have hf : Hid (Ad.splitOf s.data.toList = Ad.noParts) := by
   show _ = _
   unfold Ad.splitOf
   rw [hm.out]
   simp only [n2, Bool.and_false, Bool.false_and, Bool.false_eq_true, if_false]
  clear hm ix0 ix1 ix2 ix3 ix4
  go_wp2_with fail
  exact bodyPost_ret (v := Ad.noParts) (by simp [results, Tryz.results115, go_sem, Ad.noParts]) rfl ⟨by rw [hf.out], ((((balloc (balloc (brefl w) _) _).drew).drew).drew).drew⟩
 have N2 := hide n2
 clear n2
 go_wp2_with fail
 rw [rounds_succ]
 go_wp2_with fail
 refine (isNumber_any t3 _ (by unfold maxLen; omega)).mono ?_
 rintro e w1 ⟨rfl, rfl⟩
 cases n3 : Ad.isNum t3.data.toList
 ·
  have hf : Hid (Ad.splitOf s.data.toList = Ad.noParts) := by
   show _ = _
   unfold Ad.splitOf
   rw [hm.out]
   simp only [n3, Bool.and_false, Bool.false_and, Bool.false_eq_true, if_false]
  clear hm ix0 ix1 ix2 ix3 ix4
  go_wp2_with fail
  exact bodyPost_ret (v := Ad.noParts) (by simp [results, Tryz.results115, go_sem, Ad.noParts]) rfl ⟨by rw [hf.out], ((((balloc (balloc (brefl w) _) _).drew).drew).drew).drew⟩
 have N3 := hide n3
 clear n3
 go_wp2_with fail
 rw [rounds_succ]
 go_wp2_with fail
 refine (isNumber_any s4 _ (by unfold maxLen; omega)).mono ?_
 rintro e w1 ⟨rfl, rfl⟩
 cases n4 : Ad.isNum s4.data.toList
 ·
  have hf : Hid (Ad.splitOf s.data.toList = Ad.noParts) := by
   show _ = _
   unfold Ad.splitOf
   rw [hm.out]
   simp only [n4, Bool.and_false, Bool.false_eq_true, if_false]
  clear hm ix0 ix1 ix2 ix3 ix4
  go_wp2_with fail
  exact bodyPost_ret (v := Ad.noParts) (by simp [results, Tryz.results115, go_sem, Ad.noParts]) rfl ⟨by rw [hf.out], ((((balloc (balloc (brefl w) _) _).drew).drew).drew).drew⟩
 have N4 := hide n4
 clear n4
 go_wp2_with fail
 rw [rounds_succ]
 go_wp2_with fail
 have hf : Ad.splitOf s.data.toList = .tuple #[.agg #[.string t0, .string t1, .string t2, .string t3, .string s4], .bool true] := by
  unfold Ad.splitOf
  rw [hm.out]
  simp only [N0.out, N1.out, N2.out, N3.out, N4.out, Bool.and_self, if_true, Ad.ba]
 exact bodyPost_ret (v := .tuple #[.agg #[.string t0, .string t1, .string t2, .string t3, .string s4], .bool true]) (by simp [results, Tryz.results115, go_sem]) rfl ⟨by rw [hf], ((((balloc (balloc (brefl w) _) _).drew).drew).drew).drew⟩
end Go.Proofs.YtnadhplhnfpeaaaGreatDoor.Ax
namespace Go.Proofs.YtnadhplhnfpeaaaGreatDoor.Ax.Ad
open Go
theorem or_low (a x : Int) (k : Nat) (h0 : 0 ≤ a) (h1 : a ≤ 4294967295) (hd : a % ((2 ^ k : Nat) : Int) = 0) (hx : 0 ≤ x) (hk : x < ((2 ^ k : Nat) : Int)) (hk32 : k ≤ 32) :
    bits .or .u32 a x = a + x := by
 obtain ⟨A, rfl⟩ := Int.eq_ofNat_of_zero_le h0
 obtain ⟨X, rfl⟩ := Int.eq_ofNat_of_zero_le hx
 have hX : X < 2 ^ k := by omega
 have hle : (2 : Nat) ^ k ≤ 2 ^ 32 := Nat.pow_le_pow_right (by decide) hk32
 have hA : A % 2 ^ k = 0 := by exact_mod_cast hd
 rw [u32_or_nat A X (by omega) (by omega), nat_join k A X hA hX]
 exact Int.natCast_add A X
end Go.Proofs.YtnadhplhnfpeaaaGreatDoor.Ax.Ad
namespace Go.Proofs.YtnadhplhnfpeaaaGreatDoor.Ax
open Go.RowKit
theorem bset {w W : World} (h : Below w.heap.size w W) {p : Addr} (hp : w.heap.size ≤ p.block) (u : Value) : Below w.heap.size w (W.setCell p u) := h.setCell hp u
def Ad.res (a b e : Int) : Value := .tuple #[.agg #[.int .u32 a, .int .i64 b], .int .i64 e]
set_option maxHeartbeats 2000000 in
set_option maxRecDepth 100000 in
theorem parse_form (s : ByteArray) (w : World) (hs : s.size ≤ 4000) (h : Hid (Ad.splitOf s.data.toList = Ad.noParts)) :
    Calls Tryz.prog 102 #[.string s] w fun e w' => e = .returned (Ad.res 0 0 4) ∧ Below w.heap.size w w' := by
 go_enter Tryz.func102, Tryz.ntmps102
 go_wp2_with fail
 refine (split_any s _ hs).mono ?_
 rintro e w1 ⟨rfl, hb1⟩
 rw [h.out, Ad.noParts]
 obtain ⟨hc1, hf1⟩ := bcell hb1
 have hz : w.heap.size < w1.heap.size := by have := hb1.size; simp at this; omega
 have hz1 : w.heap.size < w1.heap.size + 1 := by omega
 go_wp2_with fail
 exact bodyPost_ret (v := Ad.res 0 0 4) (by simp [results, Tryz.results102, go_sem, hc1, hz, Ad.res]) rfl ⟨rfl, balloc (bset (bset (bthen (balloc (brefl w) _) hb1) (by simp) _) (by simp) _) _⟩
def Ad.bad (l : List UInt8) (m : Int) : Bool := decide (3 < l.length ∨ m < Ad.num l)
def Ad.addr4 (l0 l1 l2 l3 : List UInt8) : Int := ((Ad.num l0 * 256 + Ad.num l1) * 256 + Ad.num l2) * 256 + Ad.num l3
def Ad.parseT (l0 l1 l2 l3 l4 : List UInt8) : Int × Int × Int :=
  if (Ad.bad l0 255 || Ad.bad l1 255 || Ad.bad l2 255 || Ad.bad l3 255 || Ad.bad l4 32) = true then (0, 0, 7)
  else if Ad.may (Ad.addr4 l0 l1 l2 l3) (Ad.num l4) = true then (Ad.addr4 l0 l1 l2 l3, Ad.num l4, 0) else (0, 0, 1)
theorem Ad.numOf_bad {l : List UInt8} {m : Int} (h : Ad.bad l m = true) : Ad.numOf l m = .tuple #[.int .i64 0, .bool false] := by
 unfold Ad.numOf; rw [if_pos (of_decide_eq_true h)]
theorem Ad.numOf_good {l : List UInt8} {m : Int} (h : Ad.bad l m = false) : Ad.numOf l m = .tuple #[.int .i64 (Ad.num l), .bool true] := by
 unfold Ad.numOf; rw [if_neg (of_decide_eq_false h)]
theorem Ad.good_bd {l : List UInt8} {m : Int} (hd : Ad.digs l = true) (h : Ad.bad l m = false) : 0 ≤ Ad.num l ∧ Ad.num l ≤ m := by
 have h1 := (Ad.num_bd l hd).1
 have h2 := of_decide_eq_false h
 omega
theorem Ad.or0 (n : Int) (h0 : 0 ≤ n) (h1 : n ≤ 255) : bits .or .u32 0 n = n := by
 have := Ad.or_low 0 n 8 (by decide) (by decide) (by decide) h0 (by have : ((2 ^ 8 : Nat) : Int) = 256 := rfl; omega) (by decide)
 omega
theorem Ad.or8 (x n : Int) (h0 : 0 ≤ n) (h1 : n ≤ 255) (g0 : 0 ≤ x) (g1 : x ≤ 16777215) : bits .or .u32 (x * 256 % 4294967296) n = x * 256 + n := by
 have e : x * 256 % 4294967296 = x * 256 := by omega
 rw [e]
 exact Ad.or_low (x * 256) n 8 (by omega) (by omega) (by have : ((2 ^ 8 : Nat) : Int) = 256 := rfl; omega) h0 (by have : ((2 ^ 8 : Nat) : Int) = 256 := rfl; omega) (by decide)
theorem Ad.or8' (x n : Int) (h0 : 0 ≤ n) (h1 : n ≤ 255) (g0 : 0 ≤ x) (g1 : x ≤ 16777215) : bits .or .u32 (x * 256) n = x * 256 + n :=
  Ad.or_low (x * 256) n 8 (by omega) (by omega) (by have : ((2 ^ 8 : Nat) : Int) = 256 := rfl; omega) h0 (by have : ((2 ^ 8 : Nat) : Int) = 256 := rfl; omega) (by decide)
set_option maxHeartbeats 4000000 in
set_option maxRecDepth 100000 in
theorem parse_some (s t0 t1 t2 t3 t4 : ByteArray) (w : World) (hs : s.size ≤ 4000) (h : Hid (Ad.splitOf s.data.toList = .tuple #[.agg #[.string t0, .string t1, .string t2, .string t3, .string t4], .bool true]))
    (z0 : t0.size ≤ 4000) (z1 : t1.size ≤ 4000) (z2 : t2.size ≤ 4000) (z3 : t3.size ≤ 4000) (z4 : t4.size ≤ 4000)
    (D0 : Hid (Ad.digs t0.data.toList = true)) (D1 : Hid (Ad.digs t1.data.toList = true)) (D2 : Hid (Ad.digs t2.data.toList = true)) (D3 : Hid (Ad.digs t3.data.toList = true)) (D4 : Hid (Ad.digs t4.data.toList = true))
    (a b e' : Int) (HR : Hid (Ad.parseT t0.data.toList t1.data.toList t2.data.toList t3.data.toList t4.data.toList = (a, b, e'))) :
    Calls Tryz.prog 102 #[.string s] w fun e w' => e = .returned (Ad.res a b e') ∧ Below w.heap.size w w' := by
  go_enter Tryz.func102, Tryz.ntmps102
  go_wp2_with fail
  refine (split_any s _ hs).mono ?_
  rintro e w1 ⟨rfl, hb1⟩
  rw [h.out]
  obtain ⟨hc1, hf1⟩ := bcell hb1
  have hz : w.heap.size < w1.heap.size := by have := hb1.size; simp at this; omega
  have hz1 : w.heap.size < w1.heap.size + 1 := by omega
  have hz2 : w.heap.size < w1.heap.size + 1 + 1 := by omega
  go_wp2_with fail
  refine wp_loop_rounds 5 ?_
  rw [rounds_succ]
  go_wp2_with fail
  refine (number_any t0 255 _ (by unfold maxLen; omega) D0.out).mono ?_
  rintro e w2 ⟨rfl, rfl⟩
  cases b0 : Ad.bad t0.data.toList 255
  rotate_left
  · rw [Ad.numOf_bad b0]
    have hf : Hid ((0, 0, 7) = (a, b, e')) := by
      show _ = _
      rw [← HR.out]
      unfold Ad.parseT
      rw [if_pos (by simp [b0])]
    clear b0 HR
    go_wp2_with fail
    exact bodyPost_ret (v := Ad.res 0 0 7) (by simp [results, Tryz.results102, go_sem, hc1, hz, hz1, Ad.res]) rfl ⟨by have := hf.out; simp only [Prod.mk.injEq] at this; rw [← this.1, ← this.2.1, ← this.2.2], balloc (balloc (bset (bset (bthen (balloc (brefl w) _) hb1) (by simp) _) (by simp) _) _) _⟩
  · rw [Ad.numOf_good b0]
    obtain ⟨m0, m0'⟩ := Ad.good_bd D0.out b0
    have G0 := hide b0
    clear b0
    generalize hN0 : Ad.num t0.data.toList = n0 at m0 m0' ⊢
    have N0 := hide hN0
    clear hN0
    go_wp2_with fail
    rw [Ad.or0 n0 m0 m0']
    have x0 : 0 ≤ n0 := m0
    have y0 : n0 ≤ 255 := m0'
    rw [rounds_succ]
    go_wp2_with fail
    refine (number_any t1 255 _ (by unfold maxLen; omega) D1.out).mono ?_
    rintro e w2 ⟨rfl, rfl⟩
    cases b1 : Ad.bad t1.data.toList 255
    rotate_left
    · rw [Ad.numOf_bad b1]
      have hf : Hid ((0, 0, 7) = (a, b, e')) := by
        show _ = _
        rw [← HR.out]
        unfold Ad.parseT
        rw [if_pos (by simp [b1])]
      clear b1 HR
      go_wp2_with fail
      exact bodyPost_ret (v := Ad.res 0 0 7) (by simp [results, Tryz.results102, go_sem, hc1, hz, hz1, Ad.res]) rfl ⟨by have := hf.out; simp only [Prod.mk.injEq] at this; rw [← this.1, ← this.2.1, ← this.2.2], balloc (balloc (bset (bset (bthen (balloc (brefl w) _) hb1) (by simp) _) (by simp) _) _) _⟩
    · rw [Ad.numOf_good b1]
      obtain ⟨m1, m1'⟩ := Ad.good_bd D1.out b1
      have G1 := hide b1
      clear b1
      generalize hN1 : Ad.num t1.data.toList = n1 at m1 m1' ⊢
      have N1 := hide hN1
      clear hN1
      go_wp2_with fail
      first | rw [Ad.or8 n0 n1 m1 m1' m0 (by omega)] | rw [Ad.or8' n0 n1 m1 m1' m0 (by omega)]
      have X1 : Hid (n0 * 256 + n1 = n0 * 256 + n1) := rfl
      generalize hx1 : n0 * 256 + n1 = x1 at X1 ⊢
      have p1 : 0 ≤ x1 := by omega
      have q1 : x1 ≤ 65535 := by omega
      have XX1 := hide hx1
      clear hx1 X1
      rw [rounds_succ]
      go_wp2_with fail
      refine (number_any t2 255 _ (by unfold maxLen; omega) D2.out).mono ?_
      rintro e w2 ⟨rfl, rfl⟩
      cases b2 : Ad.bad t2.data.toList 255
      rotate_left
      · rw [Ad.numOf_bad b2]
        have hf : Hid ((0, 0, 7) = (a, b, e')) := by
          show _ = _
          rw [← HR.out]
          unfold Ad.parseT
          rw [if_pos (by simp [b2])]
        clear b2 HR
        go_wp2_with fail
        exact bodyPost_ret (v := Ad.res 0 0 7) (by simp [results, Tryz.results102, go_sem, hc1, hz, hz1, Ad.res]) rfl ⟨by have := hf.out; simp only [Prod.mk.injEq] at this; rw [← this.1, ← this.2.1, ← this.2.2], balloc (balloc (bset (bset (bthen (balloc (brefl w) _) hb1) (by simp) _) (by simp) _) _) _⟩
      · rw [Ad.numOf_good b2]
        obtain ⟨m2, m2'⟩ := Ad.good_bd D2.out b2
        have G2 := hide b2
        clear b2
        generalize hN2 : Ad.num t2.data.toList = n2 at m2 m2' ⊢
        have N2 := hide hN2
        clear hN2
        go_wp2_with fail
        first | rw [Ad.or8 x1 n2 m2 m2' p1 (by omega)] | rw [Ad.or8' x1 n2 m2 m2' p1 (by omega)]
        have X2 : Hid (x1 * 256 + n2 = x1 * 256 + n2) := rfl
        generalize hx2 : x1 * 256 + n2 = x2 at X2 ⊢
        have p2 : 0 ≤ x2 := by omega
        have q2 : x2 ≤ 16777215 := by omega
        have XX2 := hide hx2
        clear hx2 X2
        rw [rounds_succ]
        go_wp2_with fail
        refine (number_any t3 255 _ (by unfold maxLen; omega) D3.out).mono ?_
        rintro e w2 ⟨rfl, rfl⟩
        cases b3 : Ad.bad t3.data.toList 255
        rotate_left
        · rw [Ad.numOf_bad b3]
          have hf : Hid ((0, 0, 7) = (a, b, e')) := by
            show _ = _
            rw [← HR.out]
            unfold Ad.parseT
            rw [if_pos (by simp [b3])]
          clear b3 HR
          go_wp2_with fail
          exact bodyPost_ret (v := Ad.res 0 0 7) (by simp [results, Tryz.results102, go_sem, hc1, hz, hz1, Ad.res]) rfl ⟨by have := hf.out; simp only [Prod.mk.injEq] at this; rw [← this.1, ← this.2.1, ← this.2.2], balloc (balloc (bset (bset (bthen (balloc (brefl w) _) hb1) (by simp) _) (by simp) _) _) _⟩
        · rw [Ad.numOf_good b3]
          obtain ⟨m3, m3'⟩ := Ad.good_bd D3.out b3
          have G3 := hide b3
          clear b3
          generalize hN3 : Ad.num t3.data.toList = n3 at m3 m3' ⊢
          have N3 := hide hN3
          clear hN3
          go_wp2_with fail
          first | rw [Ad.or8 x2 n3 m3 m3' p2 (by omega)] | rw [Ad.or8' x2 n3 m3 m3' p2 (by omega)]
          have X3 : Hid (x2 * 256 + n3 = x2 * 256 + n3) := rfl
          generalize hx3 : x2 * 256 + n3 = x3 at X3 ⊢
          have p3 : 0 ≤ x3 := by omega
          have q3 : x3 ≤ 4294967295 := by omega
          have XX3 := hide hx3
          clear hx3 X3
          rw [rounds_succ]
          go_wp2_with fail
          refine (number_any t4 32 _ (by unfold maxLen; omega) D4.out).mono ?_
          rintro e w2 ⟨rfl, rfl⟩
          cases b4 : Ad.bad t4.data.toList 32
          rotate_left
          · rw [Ad.numOf_bad b4]
            have hf : Hid ((0, 0, 7) = (a, b, e')) := by
              show _ = _
              rw [← HR.out]
              unfold Ad.parseT
              rw [if_pos (by simp [b4])]
            clear b4 HR
            go_wp2_with fail
            exact bodyPost_ret (v := Ad.res 0 0 7) (by simp [results, Tryz.results102, go_sem, hc1, hz, hz1, Ad.res]) rfl ⟨by have := hf.out; simp only [Prod.mk.injEq] at this; rw [← this.1, ← this.2.1, ← this.2.2], balloc (balloc (bset (bset (bthen (balloc (brefl w) _) hb1) (by simp) _) (by simp) _) _) _⟩
          · rw [Ad.numOf_good b4]
            obtain ⟨m4, m4'⟩ := Ad.good_bd D4.out b4
            have hA : Hid (Ad.addr4 t0.data.toList t1.data.toList t2.data.toList t3.data.toList = x3) := by
              show _ = _
              unfold Ad.addr4
              rw [N0.out, N1.out, N2.out, N3.out, XX1.out, XX2.out, XX3.out]
            have hB : Hid ((Ad.bad t0.data.toList 255 || Ad.bad t1.data.toList 255 || Ad.bad t2.data.toList 255 || Ad.bad t3.data.toList 255 || Ad.bad t4.data.toList 32) = false) := by
              show _ = _
              rw [G0.out, G1.out, G2.out, G3.out, b4]
              rfl
            clear b4
            generalize hN4 : Ad.num t4.data.toList = n4 at m4 m4' ⊢
            have N4 := hide hN4
            clear hN4
            go_wp2_with fail
            cases hm : Ad.may x3 n4
            · have hf : Hid ((0, 0, 1) = (a, b, e')) := by
                show _ = _
                rw [← HR.out]
                unfold Ad.parseT
                rw [hB.out, hA.out, N4.out, hm]
                rfl
              clear HR
              refine (may_is _ _ _ hm _ p3 q3).mono ?_
              rintro e w3 ⟨rfl, hb3⟩
              obtain ⟨hc3, hf3⟩ := bcell hb3
              have hy : w.heap.size < w3.heap.size := by have := hb3.size; simp at this; omega
              go_wp2_with fail
              exact bodyPost_ret (v := Ad.res 0 0 1) (by simp [results, Tryz.results102, go_sem, hc1, hc3, hz, hz1, hz2, Ad.res]) rfl ⟨by have := hf.out; simp only [Prod.mk.injEq] at this; rw [← this.1, ← this.2.1, ← this.2.2], bset (bset (bthen (balloc (balloc (bthen (balloc (brefl w) _) hb1) _) _) hb3) (by simp) _) (by simp) _⟩
            · have hf : Hid ((x3, n4, 0) = (a, b, e')) := by
                show _ = _
                rw [← HR.out]
                unfold Ad.parseT
                rw [hB.out, hA.out, N4.out, hm]
                rfl
              clear HR
              refine (may_is _ _ _ hm _ p3 q3).mono ?_
              rintro e w3 ⟨rfl, hb3⟩
              obtain ⟨hc3, hf3⟩ := bcell hb3
              have hy : w.heap.size < w3.heap.size := by have := hb3.size; simp at this; omega
              go_wp2_with fail
              exact bodyPost_ret (v := Ad.res x3 n4 0) (by simp [results, Tryz.results102, go_sem, hc1, hc3, hz, hz1, hz2, Ad.res]) rfl ⟨by have := hf.out; simp only [Prod.mk.injEq] at this; rw [← this.1, ← this.2.1, ← this.2.2], bset (bset (bthen (balloc (balloc (bthen (balloc (brefl w) _) hb1) _) _) hb3) (by simp) _) (by simp) _⟩
def Ad.parse (l : List UInt8) : Int × Int × Int :=
  match Ad.marks5 l with
  | none => (0, 0, 4)
  | some (a, b, c, d, e) => if (Ad.isNum a && Ad.isNum b && Ad.isNum c && Ad.isNum d && Ad.isNum e) = true then Ad.parseT a b c d e else (0, 0, 4)
theorem Ad.marks_some (l x0 x1 x2 x3 x4 : List UInt8) (h : Ad.marks5 l = some (x0, x1, x2, x3, x4)) : l = x0 ++ 46 :: (x1 ++ 46 :: (x2 ++ 46 :: (x3 ++ 47 :: x4))) := by
 unfold Ad.marks5 at h
 cases c0 : Ad.cutL l 46 with
 | none => rw [c0] at h; simp at h
 | some p0 =>
  rw [c0] at h
  simp only [Option.bind] at h
  cases c1 : Ad.cutL p0.2 46 with
  | none => rw [c1] at h; simp at h
  | some p1 =>
   rw [c1] at h
   simp only at h
   cases c2 : Ad.cutL p1.2 46 with
   | none => rw [c2] at h; simp at h
   | some p2 =>
    rw [c2] at h
    simp only at h
    cases c3 : Ad.cutL p2.2 47 with
    | none => rw [c3] at h; simp at h
    | some p3 =>
     rw [c3] at h
     simp only [Option.some.injEq, Prod.mk.injEq] at h
     obtain ⟨rfl, rfl, rfl, rfl, rfl⟩ := h
     have e0 := (Ad.cutL_some _ _ p0.1 p0.2 c0).1
     have e1 := (Ad.cutL_some _ _ p1.1 p1.2 c1).1
     have e2 := (Ad.cutL_some _ _ p2.1 p2.2 c2).1
     have e3 := (Ad.cutL_some _ _ p3.1 p3.2 c3).1
     rw [← e3, ← e2, ← e1]
     exact e0
theorem Ad.isNum_digs {x : List UInt8} (hx : Ad.isNum x = true) : Ad.digs x = true := by
 unfold Ad.isNum at hx
 simp only [Bool.and_eq_true] at hx
 exact hx.2
theorem parse_any (s : ByteArray) (a b x : Int) (w : World) (hs : s.size ≤ 4000) (h : Ad.parse s.data.toList = (a, b, x)) :
    Calls Tryz.prog 102 #[.string s] w fun e w' => e = .returned (Ad.res a b x) ∧ Below w.heap.size w w' := by
 unfold Ad.parse at h
 cases hm : Ad.marks5 s.data.toList with
 | none =>
  rw [hm] at h
  simp only [Prod.mk.injEq] at h
  obtain ⟨rfl, rfl, rfl⟩ := h
  refine parse_form s w hs (hide ?_)
  unfold Ad.splitOf
  rw [hm]
 | some p =>
  obtain ⟨x0, x1, x2, x3, x4⟩ := p
  rw [hm] at h
  simp only at h
  by_cases hn : (Ad.isNum x0 && Ad.isNum x1 && Ad.isNum x2 && Ad.isNum x3 && Ad.isNum x4) = true
  ·
   rw [if_pos hn] at h
   have hn' := hn
   simp only [Bool.and_eq_true] at hn'
   obtain ⟨⟨⟨⟨n0, n1⟩, n2⟩, n3⟩, n4⟩ := hn'
   have hl := Ad.marks_some _ _ _ _ _ _ hm
   have hz : x0.length + x1.length + x2.length + x3.length + x4.length ≤ 4000 := by
    have := congrArg List.length hl
    rw [Ad.size_list] at this
    simp at this
    omega
   have sz : ∀ x : List UInt8, (⟨x.toArray⟩ : ByteArray).size = x.length := fun x => by simp [ByteArray.size]
   refine parse_some s ⟨x0.toArray⟩ ⟨x1.toArray⟩ ⟨x2.toArray⟩ ⟨x3.toArray⟩ ⟨x4.toArray⟩ w hs (hide ?_) (by rw [sz]; omega) (by rw [sz]; omega) (by rw [sz]; omega) (by rw [sz]; omega) (by rw [sz]; omega) (Ad.isNum_digs n0) (Ad.isNum_digs n1) (Ad.isNum_digs n2) (Ad.isNum_digs n3) (Ad.isNum_digs n4) a b x h
   unfold Ad.splitOf
   rw [hm]
   simp only
   rw [if_pos hn]
  rw [if_neg hn] at h
  simp only [Prod.mk.injEq] at h
  obtain ⟨rfl, rfl, rfl⟩ := h
  refine parse_form s w hs (hide ?_)
  unfold Ad.splitOf
  rw [hm]
  simp only
  rw [if_neg hn]
abbrev Ad.R : Type := Int × Int × Int × Int × Bool
def Ad.encR (r : Ad.R) : List Value := [.int .u32 r.1, .int .i64 r.2.1, .int .i64 r.2.2.1, .int .i64 r.2.2.2.1, .bool r.2.2.2.2]
def Ad.cellsR (l : List Ad.R) : List Value := l.flatMap Ad.encR
def Ad.readsR (w : World) (b off : Nat) (l : List Ad.R) : Prop := ∀ j u, (Ad.cellsR l)[j]? = some u → w.cell? ⟨b, off + j, none⟩ = some u
theorem Ad.cellsR_length (l : List Ad.R) : (Ad.cellsR l).length = l.length * 5 := by
 induction l with
 | nil => rfl
 | cons x l ih => simp only [Ad.cellsR, List.flatMap_cons, List.length_append, List.length_cons] at *; simp only [Ad.encR, List.length_cons, List.length_nil]; omega
theorem Ad.cellsR_get (l : List Ad.R) (i j : Nat) (h : i < l.length) (hj : j < 5) : (Ad.cellsR l)[i * 5 + j]? = (Ad.encR l[i])[j]? := by
 induction l generalizing i with
 | nil => simp at h
 | cons x l ih =>
  cases i with
  | zero =>
   simp only [Ad.cellsR, List.flatMap_cons, Nat.zero_mul, Nat.zero_add, List.getElem_cons_zero]
   rw [List.getElem?_append_left (by simp [Ad.encR]; omega)]
  | succ i =>
   have := ih i (by simpa using h)
   simp only [Ad.cellsR, List.flatMap_cons, List.getElem_cons_succ] at *
   rw [List.getElem?_append_right (by simp [Ad.encR]; omega)]
   rw [← this]
   congr 1
   simp [Ad.encR]; omega
theorem Ad.readsR_at {w : World} {b off : Nat} {l : List Ad.R} (h : Ad.readsR w b off l) (i : Nat) (hi : i < l.length) :
    w.cell? ⟨b, off + i * 5, none⟩ = some (.int .u32 l[i].1) ∧ w.cell? ⟨b, off + i * 5 + 1, none⟩ = some (.int .i64 l[i].2.1) ∧ w.cell? ⟨b, off + i * 5 + 2, none⟩ = some (.int .i64 l[i].2.2.1) ∧ w.cell? ⟨b, off + i * 5 + 3, none⟩ = some (.int .i64 l[i].2.2.2.1) ∧ w.cell? ⟨b, off + i * 5 + 4, none⟩ = some (.bool l[i].2.2.2.2) := by
 have g := fun j hj => Ad.cellsR_get l i j hi hj
 have k := fun j u hj (hu : (Ad.encR l[i])[j]? = some u) => h (i * 5 + j) u ((g j hj).trans hu)
 refine ⟨k 0 _ (by decide) rfl, ?_, ?_, ?_, ?_⟩
 ·
  rw [Nat.add_assoc]; exact k 1 _ (by decide) rfl
 ·
  rw [Nat.add_assoc]; exact k 2 _ (by decide) rfl
 ·
  rw [Nat.add_assoc]; exact k 3 _ (by decide) rfl
 rw [Nat.add_assoc]; exact k 4 _ (by decide) rfl
theorem Ad.readsR_below {w w' : World} {b off : Nat} {l : List Ad.R} (h : Ad.readsR w b off l) (hb : Below w.heap.size w w') : Ad.readsR w' b off l := by
 intro j u hu
 have := h j u hu
 rw [hb.cell (p := ⟨b, off + j, none⟩) (block_lt_of_cell this)]
 exact this
def Ad.slotR (w : World) (ao : Option Addr) (l : List Ad.R) : Prop := l = [] ∨ ∃ b off, ao = some ⟨b, off, none⟩ ∧ Ad.readsR w b off l
theorem Ad.slotR_at {w : World} {ao : Option Addr} {l : List Ad.R} (h : Ad.slotR w ao l) {k : Nat} (hk : k < l.length) : ∃ b off, ao = some ⟨b, off, none⟩ ∧ Ad.readsR w b off l := by
 rcases h with h | h
 ·
  rw [h] at hk; simp at hk
 exact h
end Go.Proofs.YtnadhplhnfpeaaaGreatDoor.Ax
