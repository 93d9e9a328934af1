/- The document's Text. -/
import Derived.Test.YtpkikfojiibdaaaDoorM2
import Derived.Test.YtpkikfojiibdaaaDoorE3
namespace Go.Proofs.YtpkikfojiibdaaaDoor
open Go.RowKit

theorem is_len {l : List Int} (h : Is.may l = true) : (Is.text l).length ≤ 352 := by
  rw [text_path h]
  have h1 := Is.joinTo_len l h l.length (Nat.le_refl _)
  have h2 := ((Is.may_iff l).1 h).1
  unfold Is.joinTo at h1
  rw [List.take_length] at h1
  omega
theorem co_len (l : List Cm.Co.C) (h : l.length ≤ 8) : (Cm.Co.texts l).length ≤ 408 := by
  unfold Cm.Co.texts
  split
  · have := Cm.Co.join_len l
    omega
  · simp
theorem itoa_len' {n : Int} (h0 : 0 ≤ n) (h1 : n ≤ 4294967295) : (Lib.itoa n).length ≤ 21 := Lib.itoa_length_le n (by omega) (by omega)
theorem name_len (o : Int) : (At.name o).length ≤ 4 := by
  unfold At.name
  split
  · decide
  · split <;> decide
/-- What stands behind the first k reflectors. -/
def At.cltTo (l : List Int) (k : Nat) : List UInt8 := if k = 0 then [] else tCl ++ Is.joinTo l k ++ (if k = l.length then [93] else [])
theorem cltTo_end (l : List Int) : At.cltTo l l.length = At.clt l := by
  unfold At.cltTo At.clt
  cases l with
  | nil => rfl
  | cons x l => simp [Is.joinTo]
theorem nm_cell {w : World} {g : Nat} (o : Int) (ho : 0 ≤ o ∧ o ≤ 2) (h : w.heap[g]? = some (.cells #[.string ⟨#[105, 103, 112]⟩, .string ⟨#[101, 103, 112]⟩, .string ⟨#[110, 111, 110, 101]⟩] 9 (0, 0))) : w.cell? ⟨g, o.toNat, none⟩ = some (.string ⟨(At.name o).toArray⟩) := by
  have e : o = 0 ∨ o = 1 ∨ o = 2 := by omega
  rcases e with rfl | rfl | rfl <;> (unfold World.cell?; rw [h]; rfl)
/-- The texts that stand on the way. -/
structure Wy (a : At) (t0 t1 nm tp tc u1 u2 u3 u4 u5 u6 u7 u8 u9 u10 : ByteArray) : Prop where
  e0 : t0 = ⟨(Lib.itoa a.pf).toArray⟩
  e1 : t1 = ⟨(Lib.itoa a.md).toArray⟩
  en : nm = ⟨(At.name a.og).toArray⟩
  ep : tp = ⟨(Is.text a.path).toArray⟩
  ec : tc = ⟨(Cm.Co.texts a.comms).toArray⟩
  a1 : Adds ⟨#[112, 114, 101, 102, 32]⟩ t0 u1
  a2 : Adds u1 ⟨#[32, 109, 101, 100, 32]⟩ u2
  a3 : Adds u2 t1 u3
  a4 : Adds u3 ⟨#[32, 111, 114, 105, 103, 105, 110, 32]⟩ u4
  a5 : Adds u4 nm u5
  a6 : Adds u5 ⟨#[32, 112, 97, 116, 104, 32, 91]⟩ u6
  a7 : Adds u6 tp u7
  a8 : Adds u7 ⟨#[93, 32, 99, 111, 109, 109, 115, 32, 91]⟩ u8
  a9 : Adds u8 tc u9
  a10 : Adds u9 ⟨#[93]⟩ u10
  eu : u10 = ⟨(At.head a).toArray⟩
theorem wy_of {a : At} (hm : At.may a = true) : ∃ t0 t1 nm tp tc u1 u2 u3 u4 u5 u6 u7 u8 u9 u10, Wy a t0 t1 nm tp tc u1 u2 u3 u4 u5 u6 u7 u8 u9 u10 := by
  unfold At.may at hm
  simp only [Bool.and_eq_true, decide_eq_true_eq] at hm
  obtain ⟨⟨a1, a2, a3, a4, a5, a6, a7, a8⟩, pa, ca, ka⟩ := hm
  have l0 := itoa_len' a1 (by omega)
  have l1 := itoa_len' a3 (by omega)
  have l2 := name_len a.og
  have l3 := is_len pa
  have l4 := co_len a.comms ((Cm.Co.set_iff _).1 ca).1
  refine ⟨⟨(Lib.itoa a.pf).toArray⟩, ⟨(Lib.itoa a.md).toArray⟩, ⟨(At.name a.og).toArray⟩, ⟨(Is.text a.path).toArray⟩, ⟨(Cm.Co.texts a.comms).toArray⟩,
    ⟨(tPref ++ Lib.itoa a.pf).toArray⟩, ⟨(tPref ++ Lib.itoa a.pf ++ tMed).toArray⟩, ⟨(tPref ++ Lib.itoa a.pf ++ tMed ++ Lib.itoa a.md).toArray⟩, ⟨(tPref ++ Lib.itoa a.pf ++ tMed ++ Lib.itoa a.md ++ tOrigin).toArray⟩,
    ⟨(tPref ++ Lib.itoa a.pf ++ tMed ++ Lib.itoa a.md ++ tOrigin ++ At.name a.og).toArray⟩, ⟨(tPref ++ Lib.itoa a.pf ++ tMed ++ Lib.itoa a.md ++ tOrigin ++ At.name a.og ++ tPath).toArray⟩,
    ⟨(tPref ++ Lib.itoa a.pf ++ tMed ++ Lib.itoa a.md ++ tOrigin ++ At.name a.og ++ tPath ++ Is.text a.path).toArray⟩, ⟨(tPref ++ Lib.itoa a.pf ++ tMed ++ Lib.itoa a.md ++ tOrigin ++ At.name a.og ++ tPath ++ Is.text a.path ++ tComms).toArray⟩,
    ⟨(tPref ++ Lib.itoa a.pf ++ tMed ++ Lib.itoa a.md ++ tOrigin ++ At.name a.og ++ tPath ++ Is.text a.path ++ tComms ++ Cm.Co.texts a.comms).toArray⟩, ⟨(At.head a).toArray⟩,
    rfl, rfl, rfl, rfl, rfl, adds_list tPref _ ?_ ?_, adds_list _ tMed ?_ ?_, adds_list _ _ ?_ ?_, adds_list _ tOrigin ?_ ?_, adds_list _ _ ?_ ?_, adds_list _ tPath ?_ ?_, adds_list _ _ ?_ ?_, adds_list _ tComms ?_ ?_, adds_list _ _ ?_ ?_, adds_list _ [93] ?_ ?_, rfl⟩
  all_goals (try simp [tPref, tMed, tOrigin, tPath, tComms])
  all_goals (try omega)
theorem head_len {a : At} (hm : At.may a = true) : (At.head a).length ≤ 900 := by
  unfold At.may at hm
  simp only [Bool.and_eq_true, decide_eq_true_eq] at hm
  obtain ⟨⟨a1, a2, a3, a4, a5, a6, a7, a8⟩, pa, ca, ka⟩ := hm
  have l0 := itoa_len' a1 (by omega)
  have l1 := itoa_len' a3 (by omega)
  have l2 := name_len a.og
  have l3 := is_len pa
  have l4 := co_len a.comms ((Cm.Co.set_iff _).1 ca).1
  simp [At.head, tPref, tMed, tOrigin, tPath, tComms]
  omega
theorem frm_len {f : Int} (h0 : 0 ≤ f) (h1 : f ≤ 65535) : (At.frm f).length ≤ 30 := by
  unfold At.frm
  have := itoa_len' h0 (by omega)
  split
  · simp
  · simp [tFrom]
    omega
theorem cltTo_len {l : List Int} (h : Cl.ok l = true) (k : Nat) (hk : k ≤ l.length) : (At.cltTo l k).length ≤ 200 := by
  have h1 := Is.joinTo_len l (Cl.may h) k hk
  have h2 := ((Cl.ok_iff l).1 h).1
  unfold At.cltTo
  split
  · simp
  · split <;> simp [tCl] <;> omega
theorem cltTo_one {l : List Int} (h : 0 < l.length) : At.cltTo l 1 = tCl ++ Lib.itoa l[0] ++ (if 1 = l.length then [93] else []) := by
  unfold At.cltTo
  rw [if_neg (by decide), Is.joinTo_one l h]
theorem cltTo_succ {l : List Int} {m : Nat} (h : m + 1 < l.length) : At.cltTo l (m + 1 + 1) = At.cltTo l (m + 1) ++ [32] ++ Lib.itoa l[m + 1] ++ (if m + 1 + 1 = l.length then [93] else []) := by
  unfold At.cltTo
  rw [if_neg (show ¬ m + 1 + 1 = 0 by omega), if_neg (show ¬ m + 1 = 0 by omega), Is.joinTo_succ l m h, if_neg (show ¬ m + 1 = l.length by omega)]
  simp
end Go.Proofs.YtpkikfojiibdaaaDoor
