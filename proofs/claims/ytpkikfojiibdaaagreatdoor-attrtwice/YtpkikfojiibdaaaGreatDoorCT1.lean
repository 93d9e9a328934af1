import Derived.Test.YtpkikfojiibdaaaGreatDoorCA1
import Derived.Test.YtpkikfojiibdaaaGreatDoorCS2
import Derived.Lib.AppendIntMem
import Derived.Lib.ItoaLen
import Derived.Laws.IdiomStrings
import Derived.Laws.Concat
import Derived.Test.YtpkikfojiibdaaaGreatDoorCA4
import Derived.Laws.MakeOwn
/- Texts: Itoa, the document's Number, the well known communities, and the text of a community. -/
namespace Go.Proofs.YtpkikfojiibdaaaGreatDoor.Cm
open Go.RowKit Go.Sort

/-- The library's table of powers of ten reads as it was laid. -/
def Tab (w : World) : Prop := Lib.TabIs Tryz.prog w "internal/strconv.uint64pow10" .u64 Lib.pow10Tab
theorem Tab.on {w w' : World} (h : Tab w) (hb : Below w.heap.size w w') : Tab w' := Lib.tabBelow_of_tabIs h w' hb

theorem itoa_is (n : Int) (t : ByteArray) (h0 : 0 ≤ n) (h1 : n ≤ 65535) (ht : t = ⟨(Lib.itoa n).toArray⟩) (w : World) (h : Tab w) :
    Calls Tryz.prog 40 #[.int .i64 n] w fun e w' => e = .returned (.string t) ∧ Below w.heap.size w w' := by
  subst ht
  refine (Tryz.strconv_Itoa n (by omega) (by omega) w h).mono ?_
  rintro e w' ⟨rfl, k, os, rfl⟩
  exact ⟨rfl, Lib.below_grow _ w (Nat.le_refl _) k os⟩

/-- Two texts joined make a third one. -/
def Adds (x y z : ByteArray) : Prop := ∀ W : World, (Op.stringOp .add x y).run Tryz.prog W = .ok (.string z) W
theorem adds_mk (x y z : ByteArray) (h : x.size + y.size ≤ maxLen) (hz : x ++ y = z) : Adds x y z := by
  intro W
  subst hz
  exact run_string_add_sum W x y h
theorem ba_app (a b : List UInt8) : (⟨a.toArray⟩ : ByteArray) ++ ⟨b.toArray⟩ = ⟨(a ++ b).toArray⟩ := by
  apply ByteArray.ext
  simp [ByteArray.data_append]
theorem adds_list (x y : List UInt8) (h1 : x.length ≤ 100000) (h2 : y.length ≤ 100000) : Adds ⟨x.toArray⟩ ⟨y.toArray⟩ ⟨(x ++ y).toArray⟩ :=
  adds_mk _ _ _ (by show x.toArray.size + y.toArray.size ≤ maxLen; simp; unfold maxLen; omega) (ba_app x y)

theorem one_byte (W : World) (d : Int) (h0 : 0 ≤ d) (h1 : d < 256) : (convert 85 9 (.slice (some ⟨W.heap.size, 0, none⟩) 1 1)).run Tryz.prog (W.alloc (.cells #[.int .u8 d] 5)) = .ok (.string ⟨[UInt8.ofNat d.toNat].toArray⟩) (W.alloc (.cells #[.int .u8 d] 5)) := by
  refine run_convert_bytes_back (W.alloc (.cells #[.int .u8 d] 5)) _ _ _ ⟨W.heap.size, 0, none⟩ 1 [UInt8.ofNat d.toNat] Tryz.underlying85 Tryz.underlying5 Tryz.underlying9 ?_
  intro j hj
  simp at hj
  subst hj
  have e : (((UInt8.ofNat d.toNat).toNat : Nat) : Int) = d := by
    rw [UInt8.toNat_ofNat']
    omega
  simp [Addr.add, go_sem]
  omega

theorem dec_step (u d : Nat) (hd : d < 10) (hu : 0 < u) : Lib.decDigits (10 * u + d) = Lib.decDigits u ++ [UInt8.ofNat (48 + d)] := by
  rw [Lib.decDigits, dif_neg (by omega)]
  have e1 : (10 * u + d) / 10 = u := by omega
  have e2 : (10 * u + d) % 10 = d := by omega
  rw [e1, e2]

end Go.Proofs.YtpkikfojiibdaaaGreatDoor.Cm

/- The text of a community: comm's and the document's. -/
namespace Go.Proofs.YtpkikfojiibdaaaGreatDoor.Cm
open Go.RowKit Go.Sort

def Co.nE : List UInt8 := [110, 111, 45, 101, 120, 112, 111, 114, 116]
def Co.nA : List UInt8 := [110, 111, 45, 97, 100, 118, 101, 114, 116, 105, 115, 101]
def Co.lo : List UInt8 := [108, 111, 99, 97, 108]
def Co.plain (a b : Int) : List UInt8 := Lib.itoa a ++ [58] ++ Lib.itoa b
def Co.text (a b : Int) : List UInt8 :=
  if Co.may (a, b) = true then (if a = 65535 ∧ b = 65281 then Co.nE else if a = 65535 ∧ b = 65282 then Co.nA else if a = 65535 ∧ b = 65283 then Co.lo else Co.plain a b) else []

theorem noExport_is (w : World) : Calls Tryz.prog 92 #[] w fun e w' => e = .returned (.agg #[.int .i64 65535, .int .i64 65281]) ∧ Below w.heap.size w w' := by
  go_enter Tryz.func92, Tryz.ntmps92
  go_wp2_with fail
  exact bodyPost_ret (v := .agg #[.int .i64 65535, .int .i64 65281]) (by simp [results, Tryz.results92, go_sem]) rfl ⟨rfl, balloc (brefl w) _⟩
theorem noAdv_is (w : World) : Calls Tryz.prog 93 #[] w fun e w' => e = .returned (.agg #[.int .i64 65535, .int .i64 65282]) ∧ Below w.heap.size w w' := by
  go_enter Tryz.func93, Tryz.ntmps93
  go_wp2_with fail
  exact bodyPost_ret (v := .agg #[.int .i64 65535, .int .i64 65282]) (by simp [results, Tryz.results93, go_sem]) rfl ⟨rfl, balloc (brefl w) _⟩
theorem local_is (w : World) : Calls Tryz.prog 94 #[] w fun e w' => e = .returned (.agg #[.int .i64 65535, .int .i64 65283]) ∧ Below w.heap.size w w' := by
  go_enter Tryz.func94, Tryz.ntmps94
  go_wp2_with fail
  exact bodyPost_ret (v := .agg #[.int .i64 65535, .int .i64 65283]) (by simp [results, Tryz.results94, go_sem]) rfl ⟨rfl, balloc (brefl w) _⟩

theorem Co.may_iff (a b : Int) : Co.may (a, b) = true ↔ 1 ≤ a ∧ a ≤ 65535 ∧ 0 ≤ b ∧ b ≤ 65535 := by simp [Co.may]

set_option maxHeartbeats 2000000 in
set_option maxRecDepth 100000 in
theorem text_plain (a b : Int) (t0 t1 u0 u1 : ByteArray) (w : World) (hT : Tab w) (M : Hid (Co.may (a, b) = true)) (h1 : (a == 65535 && b == 65281) = false) (h2 : (a == 65535 && b == 65282) = false) (h3 : (a == 65535 && b == 65283) = false)
    (K0 : Adds t0 ⟨#[58]⟩ u0) (K1 : Adds u0 t1 u1) (N0 : Hid (t0 = ⟨(Lib.itoa a).toArray⟩)) (N1 : Hid (t1 = ⟨(Lib.itoa b).toArray⟩)) :
    Calls Tryz.prog 74 #[.agg #[.int .i64 a, .int .i64 b]] w fun e w' => e = .returned (.string u1) ∧ Below w.heap.size w w' := by
  unfold Adds at *
  have hm := (Co.may_iff a b).1 M.out
  have HT := hide hT
  clear hT
  go_enter Tryz.func74, Tryz.ntmps74
  go_wp2_with fail
  have TB := hide (two_new w a b 53)
  have B0 := hide (balloc (brefl w) (.cells #[.int .i64 a, .int .i64 b] 53))
  generalize w.alloc (.cells #[.int .i64 a, .int .i64 b] 53) = W0 at *
  generalize w.heap.size = R at TB ⊢
  refine (may_is _ _ _ M.out _).mono ?_
  rintro e w1 ⟨rfl, hb1⟩
  obtain ⟨p0, p1, p2, p3⟩ := two_below hb1 TB.out
  have B1 := hide (bthen B0.out hb1)
  clear hb1
  go_wp2_with fail
  refine (noExport_is _).mono ?_
  rintro e w2 ⟨rfl, hb2⟩
  have T2 := hide (two_below hb2 (two_of p0 p1))
  have B2 := hide (bthen B1.out hb2)
  clear hb2 p0 p1 p2 p3
  have hq := eqC
  have hgd := guardC
  go_wp2_with fail
  refine (noAdv_is _).mono ?_
  rintro e w3 ⟨rfl, hb3⟩
  have T3 := hide (two_below hb3 T2.out)
  have B3 := hide (bthen B2.out hb3)
  clear hb3
  go_wp2_with fail
  refine (local_is _).mono ?_
  rintro e w4 ⟨rfl, hb4⟩
  have T4 := hide (two_below hb4 T3.out)
  have B4 := hide (bthen B3.out hb4)
  clear hb4
  go_wp2_with fail
  clear hq hgd
  obtain ⟨c0, c1⟩ := two_regrown T4.out
  have CT := hide fun (dd : Nat) (os : Array Obj) => HT.out.on (bthen B4.out (below_regrown w4 dd os))
  refine wp_region_quiet_below (by kernel_rfl) (by kernel_rfl) ?_
  iterate 3 (go_big_quiet_step ((go_at_call 40; exact Calls.regrown_of (itoa_is _ t0 (by omega) (by omega) N0.out _ (CT.out _ _)))))
  iterate 6 (go_big_quiet_step ((go_at_call 40; exact Calls.regrown_of (itoa_is _ t1 (by omega) (by omega) N1.out _ (CT.out _ _)))))
  refine wpQuiet_nil ?_
  rintro w8 ⟨⟨dd, os⟩, hw8⟩
  have hb8 : Below w4.heap.size w4 w8 := by rw [hw8]; exact below_regrown _ dd os
  have B8 := hide (bthen B4.out hb8)
  clear hb8 hw8 c0 c1
  go_wp2_with fail
  go_ret
  exact ⟨rfl, B8.out⟩
end Go.Proofs.YtpkikfojiibdaaaGreatDoor.Cm

/- The text of a community, whatever it is: comm's and the document's. -/
namespace Go.Proofs.YtpkikfojiibdaaaGreatDoor.Cm
open Go.RowKit Go.Sort

set_option maxHeartbeats 1000000 in
theorem text_not (a b : Int) (w : World) (M : Hid (Co.may (a, b) = false)) : Calls Tryz.prog 74 #[.agg #[.int .i64 a, .int .i64 b]] w fun e w' => e = .returned (.string ⟨#[]⟩) ∧ Below w.heap.size w w' := by
  go_enter Tryz.func74, Tryz.ntmps74
  go_wp2_with fail
  refine (may_is _ _ _ M.out _).mono ?_
  rintro e w1 ⟨rfl, hb1⟩
  go_wp2_with fail
  go_ret
  exact ⟨rfl, bthen (balloc (brefl w) _) hb1⟩

theorem Co.may1 : Co.may (65535, 65281) = true := by decide
theorem Co.may2 : Co.may (65535, 65282) = true := by decide
theorem Co.may3 : Co.may (65535, 65283) = true := by decide

set_option maxHeartbeats 2000000 in
theorem text_nE (w : World) : Calls Tryz.prog 74 #[.agg #[.int .i64 65535, .int .i64 65281]] w fun e w' => e = .returned (.string ⟨#[110, 111, 45, 101, 120, 112, 111, 114, 116]⟩) ∧ Below w.heap.size w w' := by
  go_enter Tryz.func74, Tryz.ntmps74
  go_wp2_with fail
  have TB := hide (two_new w 65535 65281 53)
  have B0 := hide (balloc (brefl w) (.cells #[.int .i64 65535, .int .i64 65281] 53))
  generalize w.alloc (.cells #[.int .i64 65535, .int .i64 65281] 53) = W0 at *
  generalize w.heap.size = R at TB ⊢
  refine (may_is _ _ _ Co.may1 _).mono ?_
  rintro e w1 ⟨rfl, hb1⟩
  obtain ⟨p0, p1, p2, p3⟩ := two_below hb1 TB.out
  have B1 := hide (bthen B0.out hb1)
  clear hb1
  go_wp2_with fail
  refine (noExport_is _).mono ?_
  rintro e w2 ⟨rfl, hb2⟩
  have B2 := hide (bthen B1.out hb2)
  clear hb2 p0 p1 p2 p3
  have hq := eqC
  have hgd := guardC
  go_wp2_with fail
  go_ret
  exact ⟨rfl, B2.out⟩

set_option maxHeartbeats 2000000 in
theorem text_nA (w : World) : Calls Tryz.prog 74 #[.agg #[.int .i64 65535, .int .i64 65282]] w fun e w' => e = .returned (.string ⟨#[110, 111, 45, 97, 100, 118, 101, 114, 116, 105, 115, 101]⟩) ∧ Below w.heap.size w w' := by
  go_enter Tryz.func74, Tryz.ntmps74
  go_wp2_with fail
  have TB := hide (two_new w 65535 65282 53)
  have B0 := hide (balloc (brefl w) (.cells #[.int .i64 65535, .int .i64 65282] 53))
  generalize w.alloc (.cells #[.int .i64 65535, .int .i64 65282] 53) = W0 at *
  generalize w.heap.size = R at TB ⊢
  refine (may_is _ _ _ Co.may2 _).mono ?_
  rintro e w1 ⟨rfl, hb1⟩
  obtain ⟨p0, p1, p2, p3⟩ := two_below hb1 TB.out
  have B1 := hide (bthen B0.out hb1)
  clear hb1
  go_wp2_with fail
  refine (noExport_is _).mono ?_
  rintro e w2 ⟨rfl, hb2⟩
  have B2 := hide (bthen B1.out hb2)
  clear hb2 p0 p1 p2 p3
  have hq := eqC
  have hgd := guardC
  go_wp2_with fail
  refine (noAdv_is _).mono ?_
  rintro e w3 ⟨rfl, hb3⟩
  have B3 := hide (bthen B2.out hb3)
  clear hb3
  go_wp2_with fail
  go_ret
  exact ⟨rfl, B3.out⟩

set_option maxHeartbeats 2000000 in
theorem text_lo (w : World) : Calls Tryz.prog 74 #[.agg #[.int .i64 65535, .int .i64 65283]] w fun e w' => e = .returned (.string ⟨#[108, 111, 99, 97, 108]⟩) ∧ Below w.heap.size w w' := by
  go_enter Tryz.func74, Tryz.ntmps74
  go_wp2_with fail
  have TB := hide (two_new w 65535 65283 53)
  have B0 := hide (balloc (brefl w) (.cells #[.int .i64 65535, .int .i64 65283] 53))
  generalize w.alloc (.cells #[.int .i64 65535, .int .i64 65283] 53) = W0 at *
  generalize w.heap.size = R at TB ⊢
  refine (may_is _ _ _ Co.may3 _).mono ?_
  rintro e w1 ⟨rfl, hb1⟩
  obtain ⟨p0, p1, p2, p3⟩ := two_below hb1 TB.out
  have B1 := hide (bthen B0.out hb1)
  clear hb1
  go_wp2_with fail
  refine (noExport_is _).mono ?_
  rintro e w2 ⟨rfl, hb2⟩
  have B2 := hide (bthen B1.out hb2)
  clear hb2 p0 p1 p2 p3
  have hq := eqC
  have hgd := guardC
  go_wp2_with fail
  refine (noAdv_is _).mono ?_
  rintro e w3 ⟨rfl, hb3⟩
  have B3 := hide (bthen B2.out hb3)
  clear hb3
  go_wp2_with fail
  refine (local_is _).mono ?_
  rintro e w4 ⟨rfl, hb4⟩
  have B4 := hide (bthen B3.out hb4)
  clear hb4
  go_wp2_with fail
  go_ret
  exact ⟨rfl, B4.out⟩

theorem eq2_false {a b : Int} {c : Int} (h : ¬ (a = 65535 ∧ b = c)) : (a == 65535 && b == c) = false := by
  by_cases h1 : a = 65535
  · have : b ≠ c := fun e => h ⟨h1, e⟩
    simp [this]
  · simp [h1]
theorem itoa_len (n : Int) (h0 : 0 ≤ n) (h1 : n ≤ 65535) : (Lib.itoa n).length ≤ 21 := Lib.itoa_length_le n (by omega) (by omega)

theorem text_is (a b : Int) (t : ByteArray) (ht : t = ⟨(Co.text a b).toArray⟩) (w : World) (hT : Tab w) :
    Calls Tryz.prog 74 #[.agg #[.int .i64 a, .int .i64 b]] w fun e w' => e = .returned (.string t) ∧ Below w.heap.size w w' := by
  subst ht
  unfold Co.text
  cases hm : Co.may (a, b)
  · exact text_not a b w hm
  · rw [if_pos rfl]
    by_cases h1 : a = 65535 ∧ b = 65281
    · obtain ⟨rfl, rfl⟩ := h1
      exact text_nE w
    · rw [if_neg h1]
      by_cases h2 : a = 65535 ∧ b = 65282
      · obtain ⟨rfl, rfl⟩ := h2
        exact text_nA w
      · rw [if_neg h2]
        by_cases h3 : a = 65535 ∧ b = 65283
        · obtain ⟨rfl, rfl⟩ := h3
          exact text_lo w
        · rw [if_neg h3]
          have hr := (Co.may_iff a b).1 hm
          have l0 := itoa_len a (by omega) (by omega)
          have l1 := itoa_len b (by omega) (by omega)
          exact text_plain a b _ _ _ _ w hT hm (eq2_false h1) (eq2_false h2) (eq2_false h3) (adds_list _ [58] (by omega) (by decide)) (adds_list _ _ (by simp; omega) (by omega)) rfl rfl

end Go.Proofs.YtpkikfojiibdaaaGreatDoor.Cm

/- The text of a set: comm's and the document's. -/
namespace Go.Proofs.YtpkikfojiibdaaaGreatDoor.Cm
open Go.RowKit Go.Sort

def Co.tx (c : Co.C) : List UInt8 := Co.text c.1 c.2
def Co.texts (l : List Co.C) : List UInt8 := if Co.set l = true then Lib.join (l.map Co.tx) [32] else []
def Co.txS (c : Co.C) : Value := .string ⟨(Co.tx c).toArray⟩

theorem Co.tx_len (c : Co.C) : (Co.tx c).length ≤ 50 := by
  unfold Co.tx Co.text
  split
  · rename_i hm
    split
    · decide
    · split
      · decide
      · split
        · decide
        · have hr := (Co.may_iff c.1 c.2).1 hm
          have l0 := itoa_len c.1 (by omega) (by omega)
          have l1 := itoa_len c.2 (by omega) (by omega)
          simp [Co.plain]
          omega
  · decide
theorem Co.tail_len : ∀ (r : List Co.C), (Lib.joinTail [32] (r.map Co.tx)).length ≤ 51 * r.length
  | [] => by simp [Lib.joinTail]
  | x :: r => by
    have h1 := Co.tail_len r
    have h2 := Co.tx_len x
    simp only [Lib.joinTail, List.map_cons, List.flatten_cons, List.length_append, List.length_cons, List.length_nil] at h1 ⊢
    omega
theorem Co.join_len (l : List Co.C) : (Lib.join (l.map Co.tx) [32]).length ≤ 51 * l.length := by
  cases l with
  | nil => simp [Lib.join_nil]
  | cons x r =>
    rw [List.map_cons, Lib.join_cons, List.length_append]
    have h1 := Co.tail_len r
    have h2 := Co.tx_len x
    rw [List.length_cons]
    omega

theorem infoS : (Tryz.prog.info? 9).map (fun i => (i.zero, i.size, i.bytes)) = some (some (.string ⟨#[]⟩), 1, 16) := by kernel_rfl
theorem info_partsS : ∃ i0 : TypeInfo, Tryz.prog.info? 9 = some i0 ∧ i0.zero = some (.string ⟨#[]⟩) ∧ i0.size = 1 ∧ i0.bytes = 16 := by
  have h := infoS
  cases hi : Tryz.prog.info? 9 with
  | none => rw [hi] at h; cases h
  | some i0 =>
    rw [hi] at h
    simp only [Option.map_some, Option.some.injEq, Prod.mk.injEq] at h
    exact ⟨i0, rfl, h.1, h.2.1, h.2.2⟩

theorem append_str {w w0 : World} {ops : Array Oper} {rest : List Oper} {o : Oper} {a : Act} {Q : Exit → Act → World → Prop} (hgd : o.guard = none) (s x : Operand)
    (ho : o.op = .call { callee := .builtin .append, args := #[s, x], argTypes := #[72, 72] }) (v : Value) (n : Nat) (xs : List Value) (hs : a.eval s = v) (hown : w.ownsRow w0.heap.size 9 1 v n xs)
    (g c : Nat) (t : ByteArray) (hx : a.eval x = .slice (some ⟨g, 0, none⟩) 1 c) (hR : w.cell? ⟨g, 0, none⟩ = some (.string t)) (hn : n ≤ 1000) (hb : Below w0.heap.size w0 w)
    (h : ∀ v' w', w'.ownsRow w0.heap.size 9 1 v' (n + 1) (xs ++ [.string t]) → Below w0.heap.size w0 w' → wpList Tryz.prog ops Q rest (a.put o.dst v') w') : wpList Tryz.prog ops Q (o :: rest) a w := by
  obtain ⟨i0, hi, hz0, hz1, hz2⟩ := info_partsS
  refine wpList_append_own w hgd s x 72 ho w0.heap.size 9 i0 _ 1 16 Tryz.underlying72 hi hz0 hz1 hz2 rfl (by decide) v n xs hs hown ⟨g, 0, none⟩ 1 c [.string t] hx rfl ?_ ?_ (by unfold maxLen; omega) (by omega) hb.size ?_
  · intro j u hu
    match j, hu with
    | 0, hu => simp at hu; subst hu; exact hR
    | j + 1, hu => simp at hu
  · intro u hu
    simp at hu
    subst hu
    rfl
  · intro v' w' ho' hg _
    exact h v' w' ho' (Below.grown hb hg hb.size fun k hk => (hown.lt k hk).1)

set_option maxHeartbeats 4000000 in
set_option maxRecDepth 100000 in
theorem texts_good (ao : Option Addr) (ca : Nat) (l : List Co.C) (r : ByteArray) (hr : Hid (r = ⟨(Lib.join (l.map Co.tx) [32]).toArray⟩)) (w : World) (hA : Co.slot w ao l) (hs : Co.set l = true) (hT : Tab w) :
    Calls Tryz.prog 43 #[.slice ao l.length ca] w fun e w' => e = .returned (.string r) ∧ Below w.heap.size w w' := by
  have hl8 : l.length ≤ 8 := ((Co.set_iff l).1 hs).1
  have HA := hide hA
  have HS := hide hs
  have HT := hide hT
  clear hA hs hT
  go_enter Tryz.func43, Tryz.ntmps43
  go_wp2_with fail
  refine (set_is ao ca l true HS.out _ HA.out).mono ?_
  rintro e w1 ⟨rfl, hb1⟩
  have HA1 := hide (Co.slot_below HA.out hb1)
  have B1 := hide hb1
  clear hb1
  obtain ⟨i0, hi, hz0, hz1, hz2⟩ := info_partsS
  obtain ⟨w2, hmk, hown, hgr⟩ := run_make_own w1 w.heap.size 72 9 i0 _ 1 Tryz.underlying72 hi hz0 hz1 .i64 .i64 l.length (by rw [hz2]; omega) (by unfold maxLen; omega) B1.out.size
  have B2 := hide (Below.grown B1.out hgr B1.out.size (fun k hk => by cases hk))
  have HO := hide hown
  clear hi hz0 hz1 hz2 hown hgr
  go_wp2_with fail
  go_loopw [3, 14] (fun v3 v14 wr => ∃ (k : Nat) (o : Option Addr) (c : Nat), v14 = .int .i64 k ∧ v3 = .slice o k c ∧ k ≤ l.length ∧ wr.ownsRow w.heap.size 9 1 (.slice o k c) k ((l.take k).map Co.txS) ∧ Below w.heap.size w wr) (fun _ v14 _ => l.length - (intOf v14).toNat)
  case atStart => exact ⟨0, _, _, rfl, rfl, Nat.zero_le _, HO.out, B2.out⟩
  case round =>
    clear HO B2
    obtain ⟨k, o, c, rfl, rfl, hk, hown, hbr⟩ := hrel
    have HO := hide hown
    have HBR := hide hbr
    clear hown hbr
    by_cases hkl : k < l.length
    · have hkl' : (k : Int) < (l.length : Int) := by omega
      obtain ⟨b, off, rfl, hrd⟩ := Co.slot_at HA.out hkl
      obtain ⟨e0, e1⟩ := Co.reads_at (Co.reads_below hrd HBR.out) k hkl
      clear hrd
      have HN : Hid ((l.take (k + 1)).map Co.txS = (l.take k).map Co.txS ++ [.string ⟨(Co.text l[k].1 l[k].2).toArray⟩]) := by
        show _ = _
        rw [List.take_succ_eq_append_getElem hkl, List.map_append]
        rfl
      generalize (l.take k).map Co.txS = XS at HO HN
      generalize hXN : (l.take (k + 1)).map Co.txS = XN at HN
      have HXN := hide hXN
      clear hXN
      generalize l[k] = y at *
      obtain ⟨y0, y1⟩ := y
      obtain ⟨t, ht⟩ : ∃ t : ByteArray, t = ⟨(Co.text y0 y1).toArray⟩ := ⟨_, rfl⟩
      simp only at HN
      rw [← ht] at HN
      have HTT := hide ht
      clear ht
      go_wp2_with fail
      refine (text_is y0 y1 t HTT.out _ (HT.out.on (balloc HBR.out _))).mono ?_
      rintro e w3 ⟨rfl, hb3⟩
      have B3 := hide (bthen (balloc HBR.out _) hb3)
      have HO3 := hide (row_below (HO.out.alloc _) hb3)
      clear hb3 HBR HO
      go_wp2_with (at_builtin; go_must (refine append_str (w0 := w) rfl _ _ rfl _ k _ rfl (HO3.out.alloc _) w3.heap.size 1 t rfl ?c1 (by omega) (balloc B3.out _) ?_))
      case c1 => simp
      intro v' w4 hnew hb4
      obtain ⟨no, nc, rfl⟩ := row_slice hnew
      rw [← HN.out] at hnew
      have HNW := hide hnew
      have B4 := hide hb4
      clear hnew hb4
      go_wp2_with fail
      refine ⟨⟨k + 1, no, nc, by go_num, rfl, by omega, ?_, B4.out⟩, by simp [intOf] <;> omega⟩
      rw [HXN.out]
      exact HNW.out
    · have hkl' : ¬ (k : Int) < (l.length : Int) := by omega
      obtain rfl : k = l.length := by omega
      rw [List.take_length] at HO
      have hj : Hid (((l.map fun c => (⟨(Co.tx c).toArray⟩ : ByteArray)).map (·.data.toList)) = l.map Co.tx) := by
        show _ = _
        rw [List.map_map]
        exact List.map_congr_left fun c _ => by simp
      have hjl := Co.join_len l
      rcases Nat.eq_zero_or_pos l.length with h0 | h0
      · have hl0 : l = [] := List.length_eq_zero_iff.1 h0
        subst hl0
        clear HO
        go_wp2_with fail
        refine (Tryz.strings_Join_none _ _ _ _).mono ?_
        rintro e w3 ⟨rfl, rfl⟩
        go_wp2_with fail
        go_ret
        exact ⟨by rw [hr.out]; rfl, HBR.out⟩
      · obtain ⟨g, hgo, hgc⟩ : ∃ g, o = some ⟨g, 0, none⟩ ∧ l.length ≤ c := by
          rcases HO.out.2 with ⟨hv, h1⟩ | ⟨g, cap, cur, hv, hbg, hg, hnc, _⟩
          · omega
          · simp only [Value.slice.injEq] at hv
            exact ⟨g, hv.1, by rw [hv.2.2]; exact hnc⟩
        subst hgo
        have hcl : ∀ (j : Nat) x, (l.map fun c => (⟨(Co.tx c).toArray⟩ : ByteArray))[j]? = some x → wr.cell? ⟨g, 0 + j, none⟩ = some (.string x) := by
          intro j x hx
          have hjl : j < l.length := by have := (List.getElem?_eq_some_iff.1 hx).1; simpa using this
          rw [Nat.zero_add, HO.out.cellAt j (by omega)]
          rw [List.getElem?_map] at hx ⊢
          cases hlj : l[j]? with
          | none => rw [hlj] at hx; cases hx
          | some y =>
            rw [hlj] at hx
            simp only [Option.map_some, Option.some.injEq] at hx ⊢
            rw [← hx]
            rfl
        have CJ := Tryz.strings_Join g 0 c (l.map fun c => (⟨(Co.tx c).toArray⟩ : ByteArray)) ⟨#[32]⟩ wr hcl (by have := HO.out.lt g rfl; omega) (by simp; omega) (by simpa using hgc) (by rw [hj.out]; show (Lib.join _ [32]).length ≤ _; omega)
        rw [hj.out, List.length_map, show (⟨#[32]⟩ : ByteArray).data.toList = [32] from rfl, ← hr.out] at CJ
        have CJH := hide CJ
        clear CJ hcl
        go_wp2_with fail
        refine CJH.out.mono ?_
        rintro e w3 ⟨rfl, hb3⟩
        have B3 := hide (bthen HBR.out hb3)
        clear hb3 CJH
        go_wp2_with fail
        go_ret
        exact ⟨rfl, B3.out⟩

theorem texts_bad (ao : Option Addr) (ca : Nat) (l : List Co.C) (w : World) (hA : Co.slot w ao l) (hs : Co.set l = false) :
    Calls Tryz.prog 43 #[.slice ao l.length ca] w fun e w' => e = .returned (.string ⟨#[]⟩) ∧ Below w.heap.size w w' := by
  have HA := hide hA
  have HS := hide hs
  clear hA hs
  go_enter Tryz.func43, Tryz.ntmps43
  go_wp2_with fail
  refine (set_is ao ca l false HS.out _ HA.out).mono ?_
  rintro e w1 ⟨rfl, hb1⟩
  go_wp2_with fail
  go_ret
  exact ⟨rfl, hb1⟩
theorem texts_is (ao : Option Addr) (ca : Nat) (l : List Co.C) (t : ByteArray) (ht : t = ⟨(Co.texts l).toArray⟩) (w : World) (hA : Co.slot w ao l) (hT : Tab w) :
    Calls Tryz.prog 43 #[.slice ao l.length ca] w fun e w' => e = .returned (.string t) ∧ Below w.heap.size w w' := by
  subst ht
  unfold Co.texts
  cases hs : Co.set l
  · exact texts_bad ao ca l w hA hs
  · rw [if_pos rfl]
    exact texts_good ao ca l _ rfl w hA hs hT

/-- What stands behind the first k. -/
def Co.joinTo (l : List Co.C) (k : Nat) : List UInt8 := Lib.join ((l.take k).map Co.tx) [32]
theorem Co.joinTo_len (l : List Co.C) (k : Nat) (h : k ≤ 8) : (Co.joinTo l k).length ≤ 408 := by
  have := Co.join_len (l.take k)
  rw [List.length_take] at this
  unfold Co.joinTo
  omega
theorem Co.joinTo_one (l : List Co.C) (h : 0 < l.length) : Co.joinTo l 1 = Co.tx l[0] := by
  cases l with
  | nil => simp at h
  | cons x r => simp [Co.joinTo, Lib.join_one]
theorem Co.joinTo_succ (l : List Co.C) (m : Nat) (h : m + 1 < l.length) : Co.joinTo l (m + 1 + 1) = Co.joinTo l (m + 1) ++ [32] ++ Co.tx l[m + 1] := by
  cases l with
  | nil => simp at h
  | cons x r =>
    have h' : m < r.length := by simpa using h
    unfold Co.joinTo
    rw [List.take_succ_cons, List.map_cons, Lib.join_cons, List.take_succ_cons, List.map_cons, Lib.join_cons, List.map_take, List.map_take, Lib.joinTail_take_succ [32] (r.map Co.tx) m (Co.tx r[m]) (by simp [h'])]
    simp [List.append_assoc]

end Go.Proofs.YtpkikfojiibdaaaGreatDoor.Cm

