import Derived.Test.YtkhmhmopcofejaaLB
import Derived.ArgAppend
/- The law WireCuts. -/
namespace Go.Proofs.Ytkhmhmopcofejaa
open Go.RowKit Go.Sort

def bcells (l : List UInt8) : List Value := l.map fun b => .int .u8 (b.toNat : Int)
theorem bcells_get (l : List UInt8) (j : Nat) (u : Value) (h : (bcells l)[j]? = some u) : ∃ hj : j < l.length, u = .int .u8 (l[j].toNat : Int) := by
  have hj : j < l.length := by have := (List.getElem?_eq_some_iff.1 h).1; simpa [bcells] using this
  refine ⟨hj, ?_⟩
  simp [bcells, hj] at h
  exact h.symm
theorem infoB : (Try.prog.info? 5).map (fun i => (i.zero, i.size, i.bytes)) = some (some (.int .u8 0), 1, 1) := by kernel_rfl
theorem info_partsB : ∃ i0 : TypeInfo, Try.prog.info? 5 = some i0 ∧ i0.zero = some (.int .u8 0) ∧ i0.size = 1 ∧ i0.bytes = 1 := by
  have h := infoB
  cases hi : Try.prog.info? 5 with
  | none => rw [hi] at h; cases h
  | some i0 =>
    rw [hi] at h
    simp only [Option.map_some, Option.some.injEq, Prod.mk.injEq] at h
    exact ⟨i0, rfl, h.1, h.2.1, h.2.2⟩
theorem Bs.own {w : World} {B n cap : Nat} {ao : Option Addr} {l : List UInt8} (h : w.ownsRow B 5 1 (.slice ao n cap) n (bcells l)) : Bs.slot w ao l ∧ camB ao n cap ∧ n = l.length ∧ WrB B w ao n := by
  have hn : n = l.length := by have := h.1; simp [bcells] at this; omega
  rcases h.2 with ⟨hv, h0⟩ | ⟨g, cap', cur, hv, hB, hg, hnc, _, hs, _⟩
  · simp only [Value.slice.injEq] at hv
    exact ⟨.inl (List.length_eq_zero_iff.1 (by omega)), ⟨fun _ => hv.2.2, fun ad e => (by rw [hv.1] at e; cases e), by omega⟩, hn, .inl h0⟩
  · simp only [Value.slice.injEq] at hv
    refine ⟨.inr ⟨g, 0, hv.1, fun j hj => ?_⟩, ⟨fun e => (by rw [hv.1] at e; cases e), fun ad e => (by rw [hv.1] at e; cases e; rfl), by rw [hv.2.2]; exact hnc⟩, hn, .inr ⟨g, 0, hv.1, hB, fun j hj => ?_⟩⟩
    · rw [hv.1] at h
      rw [Nat.zero_add, h.cellAt j (by omega)]
      simp [bcells, hj]
    · have hj' : j < cur.size := by rw [hs]; omega
      constructor
      · simp [World.cell?, hg, Nat.zero_add, hj']
      · simp [World.frozen?, hg]
/-- One byte put behind bytes that have no room. -/
theorem append_byte {w w0 : World} {ops : Array Oper} {rest : List Oper} {o : Oper} {a : Act} {Q : Exit → Act → World → Prop} (hgd : o.guard = none) (s x : Operand)
    (ho : o.op = .call { callee := .builtin .append, args := #[s, x], argTypes := #[31, 31] }) (b off n : Nat) (l : List UInt8) (hs : a.eval s = .slice (some ⟨b, off, none⟩) n n) (hnl : n = l.length) (hR : Bs.reads w b off l)
    (g c : Nat) (y : UInt8) (hx : a.eval x = .slice (some ⟨g, 0, none⟩) 1 c) (hg : w.cell? ⟨g, 0, none⟩ = some (.int .u8 (y.toNat : Int))) (hl : l.length ≤ 100000) (hb : Below w0.heap.size w0 w)
    (h : ∀ no nc w', Bs.slot w' no (l ++ [y]) → camB no (l.length + 1) nc → Below w0.heap.size w0 w' → Below w.heap.size w w' → wpList Try.prog ops Q rest (a.put o.dst (.slice no (l.length + 1) nc)) w') : wpList Try.prog ops Q (o :: rest) a w := by
  subst hnl
  obtain ⟨i0, hi, hz0, hz1, hz2⟩ := info_partsB
  refine wpList_append_grows w hgd s x 31 ho 5 i0 _ 1 1 Try.underlying31 hi hz0 hz1 hz2 rfl (by decide) (some ⟨b, off, none⟩) l.length l.length (bcells l) hs (fun e => (by cases e)) (by simp [bcells]) ?_ ⟨g, 0, none⟩ 1 c (bcells [y]) hx rfl ?_ ?_ (by omega) (by unfold maxLen; omega) (by omega) ?_
  · intro bb e j u hu
    cases e
    obtain ⟨hj, rfl⟩ := bcells_get l j u hu
    rw [show (⟨b, off, none⟩ : Addr).add j = ⟨b, off + j, none⟩ by unfold Addr.add; split <;> simp_all]
    exact hR j hj
  · intro j u hu
    match j, hu with
    | 0, hu => simp [bcells] at hu; subst hu; exact hg
    | j + 1, hu => simp [bcells] at hu
  · intro u hu
    simp [bcells] at hu
    subst hu
    rfl
  · intro v' w' hown hgr
    obtain ⟨no, nc, rfl⟩ := row_slice hown
    have e : bcells l ++ bcells [y] = bcells (l ++ [y]) := by simp [bcells]
    rw [e] at hown
    obtain ⟨h1, h2, _, _⟩ := Bs.own hown
    have hb' : Below w.heap.size w w' := Below.grown (brefl w) hgr (Nat.le_refl _) (fun k hk => by cases hk)
    exact h no nc w' h1 h2 (bthen hb hb') hb'
theorem xor8 (a b : Nat) (ha : a < 256) (hb : b < 256) : bits .xor .u8 (a : Int) (b : Int) = ((a ^^^ b : Nat) : Int) := by
  have hx : a ^^^ b < 2 ^ 8 := Nat.xor_lt_two_pow (by omega) (by omega)
  have h1 : (BitVec.ofInt 8 (a : Int)).toNat = a := by
    rw [BitVec.ofInt_natCast, BitVec.toNat_ofNat]; exact Nat.mod_eq_of_lt (by omega)
  have h2 : (BitVec.ofInt 8 (b : Int)).toNat = b := by
    rw [BitVec.ofInt_natCast, BitVec.toNat_ofNat]; exact Nat.mod_eq_of_lt (by omega)
  show IntKind.u8.wrap ((BitVec.ofInt 8 (a : Int) ^^^ BitVec.ofInt 8 (b : Int)).toNat : Int) = _
  rw [BitVec.toNat_xor, h1, h2, IntKind.wrap_u8]
  omega
theorem xor_ne {x y : UInt8} (h : ¬ (y.toNat : Int) = 0) : x ^^^ y ≠ x := by
  intro e
  have h1 : x.toNat ^^^ y.toNat = x.toNat := by rw [← UInt8.toNat_xor, e]
  have h2 : y.toNat = 0 := by
    have : x.toNat ^^^ (x.toNat ^^^ y.toNat) = x.toNat ^^^ x.toNat := by rw [h1]
    rwa [← Nat.xor_assoc, Nat.xor_self, Nat.zero_xor] at this
  exact h (by rw [h2]; rfl)
theorem set_reads {W : World} {b off k : Nat} {l : List UInt8} {z : UInt8} (hr : Bs.reads W b off l) (hk : k < l.length) : Bs.reads (W.setCell ⟨b, off + k, none⟩ (.int .u8 (z.toNat : Int))) b off (l.set k z) := by
  intro j hj
  have hj' : j < l.length := by simpa using hj
  by_cases hjk : j = k
  · subst hjk
    rw [List.getElem_set_self]
    have := hr j hj'
    simp [go_sem, this]
  · rw [List.getElem_set_ne (fun e => hjk e.symm)]
    rw [World.cell?_setCell_other _ ⟨b, off + k, none⟩ ⟨b, off + j, none⟩ _ (fun e => hjk (by simp only [Addr.mk.injEq] at e; omega))]
    exact hr j hj'
theorem dec_no {l : List UInt8} {r : Up} {q : Int} (h : DecTo l r q) (hn : ∀ v : Up, v.may → v.enc ≠ l) : (q == 0) = false ∧ r = Up.zero := by
  rcases h with ⟨_, h1, h2⟩ | ⟨_, h1, h2, _⟩ | ⟨_, _, h1, h2⟩
  · rw [h2]; exact ⟨rfl, h1⟩
  · exact absurd h2 (hn r h1)
  · rw [h2]; exact ⟨rfl, h1⟩
set_option maxHeartbeats 8000000 in
set_option maxRecDepth 100000 in
theorem law_cuts (K : Kit10) (u : Up) (wo tq po co ko : Option Addr) (cw ct cp cc ck : Nat) (cut : Int) (y : UInt8) (hf : u.fits) (hcb : -9223372036854775808 ≤ cut ∧ cut ≤ 9223372036854775807) (w : World) (hU : Up.lies w u wo tq po co ko) (hC : Up.came u wo tq po co ko cw ct cp cc ck) :
    Calls Try.prog 5 #[.agg #[.slice wo u.wd.length cw, .slice tq u.td.length ct, .int .i64 u.at_.pf, .int .i64 u.at_.md, .int .i64 u.at_.og, .slice po u.at_.path.length cp, .slice co u.at_.comms.length cc, .int .i64 u.at_.fr, .slice ko u.at_.cl.length ck], .int .i64 cut, .int .u8 (y.toNat : Int)] w fun e w' => e = .returned (.bool true) ∧ Below w.heap.size w w' := by
  have HB := hide (balloc (brefl w) (.cells #[.slice wo u.wd.length cw, .slice tq u.td.length ct, .int .i64 u.at_.pf, .int .i64 u.at_.md, .int .i64 u.at_.og, .slice po u.at_.path.length cp, .slice co u.at_.comms.length cc, .int .i64 u.at_.fr, .slice ko u.at_.cl.length ck] 28))
  have N0 := hide (heap_new w #[.slice wo u.wd.length cw, .slice tq u.td.length ct, .int .i64 u.at_.pf, .int .i64 u.at_.md, .int .i64 u.at_.og, .slice po u.at_.path.length cp, .slice co u.at_.comms.length cc, .int .i64 u.at_.fr, .slice ko u.at_.cl.length ck] 28)
  have HL := hide (Up.lies_below hU HB.out)
  have HC := hide hC
  have HF := hide hf
  have CL := hide (fun W => lives10_is K W)
  obtain ⟨fw, hfw⟩ : ∃ r, u.few = r := ⟨_, rfl⟩
  have CF := hide (fun W => fewU_is u wo tq po co ko cw ct cp cc ck fw hfw W)
  have HFW := hide hfw
  have HK := hide K
  clear hU hC hf hfw K
  go_enter Try.func5, Try.ntmps5
  go_wp2_with fail
  generalize w.alloc (.cells #[.slice wo u.wd.length cw, .slice tq u.td.length ct, .int .i64 u.at_.pf, .int .i64 u.at_.md, .int .i64 u.at_.og, .slice po u.at_.path.length cp, .slice co u.at_.comms.length cc, .int .i64 u.at_.fr, .slice ko u.at_.cl.length ck] 28) = W at *
  obtain ⟨p, hp⟩ : ∃ p, w.heap.size = p := ⟨_, rfl⟩
  rw [hp] at N0
  rw [hp]
  clear hp
  have PL := hide (heap_lt N0.out)
  refine (CF.out _).mono ?_
  rintro e w1 ⟨rfl, hb1⟩
  have B1 := hide hb1
  clear hb1 CF
  cases fw
  · go_wp2_with fail
    refine (CL.out _).mono ?_
    rintro e w2 ⟨rfl, hb2⟩
    have B2 := hide (bthen B1.out hb2)
    clear hb2
    go_wp2_with fail
    go_ret
    exact ⟨rfl, bthen HB.out B2.out⟩
  have HW := hide ((Up.few_iff u).1 HFW.out)
  clear HFW
  have CI := hide (fun W' => mine_is u wo tq po co ko cw ct cp cc ck W')
  have CE := hide (fun W' (hb : Below W.heap.size W W') => HK.out.encode u wo tq po co ko cw ct cp cc ck HF.out HW.out W' (Up.lies_below HL.out hb) HC.out)
  obtain ⟨c0, c1, c2, c3, c4, c5, c6, c7, c8⟩ := nine_cells ((B1.out.block p PL.out).trans N0.out)
  go_wp2_with fail
  refine (CI.out _).mono ?_
  rintro e w3 ⟨rfl, hb3⟩
  have B3 := hide (bthen B1.out hb3)
  clear hb3 CI c0 c1 c2 c3 c4 c5 c6 c7 c8
  go_wp2_with fail
  refine (CE.out _ B3.out).mono ?_
  rintro e w4 hg
  rcases hg with ⟨hmay, o, c, rfl, hn⟩ | ⟨hmay, o, c, rfl, hb4⟩
  rotate_left
  · have B4 := hide (bthen B3.out hb4)
    clear hb4 hmay CE
    go_wp2_with fail
    refine (CL.out _).mono ?_
    rintro e w5 ⟨rfl, hb5⟩
    have B5 := hide (bthen B4.out hb5)
    clear hb5
    go_wp2_with fail
    go_ret
    exact ⟨rfl, bthen HB.out B5.out⟩
  obtain ⟨hs, hwr, hcm, hb4⟩ := hn
  have hlen := Up.enc_length (u := u)
  have hbl := Up.body_length hmay
  obtain ⟨b, off, rfl, hrd⟩ := Bs.slot_at hs (k := 0) (by omega)
  obtain ⟨l, hl⟩ : ∃ l, l = u.enc := ⟨_, rfl⟩
  have NM := hide (no_longer hmay y)
  have NS := hide (no_shorter hmay)
  have NO := hide (no_other hmay)
  rw [← hl] at hs hwr hcm hrd hlen NM NS NO ⊢
  have hn19 : 19 ≤ l.length := by omega
  have hn500 : l.length ≤ 500 := by omega
  have B4 := hide (bthen B3.out hb4)
  have HRD := hide hrd
  have HWR : Hid (w3.heap.size ≤ b ∧ ∀ j, j < l.length → w4.frozen? ⟨b, off + j, none⟩ = false) := by
    rcases hwr with h | ⟨g', off', e, hB, hq⟩
    · omega
    · cases e
      exact ⟨hB, fun j hj => (hq j hj).2⟩
  have hcap : l.length ≤ c := hcm.2.2
  clear hs hwr hcm hrd hlen hbl hb4 hmay hl CE HL HC HF HW
  have B5 := hide (bthen B4.out (balloc (brefl w4) (.cells #[.int .u8 (y.toNat : Int)] 5)))
  have A5 := hide (balloc (brefl w4) (.cells #[.int .u8 (y.toNat : Int)] 5))
  have G5 := hide (show (w4.alloc (.cells #[.int .u8 (y.toNat : Int)] 5)).cell? ⟨w4.heap.size, 0, none⟩ = some (.int .u8 (y.toNat : Int)) by simp)
  have R5 : Hid (Bs.reads (w4.alloc (.cells #[.int .u8 (y.toNat : Int)] 5)) b off l) := fun j hj => (A5.out.cell (p := ⟨b, off + j, none⟩) (block_lt_of_cell (HRD.out j hj))).trans (HRD.out j hj)
  go_wp2_with (at_builtin; go_must (refine append_byte (w0 := W) rfl _ _ rfl b off l.length l rfl rfl R5.out w4.heap.size 1 y rfl G5.out (by omega) B5.out ?_))
  intro no nc w5 hsl hcb5 hb5 hA5
  have B6 := hide hb5
  have A6 := hide (A5.out.trans (hA5.mono (Nat.le_succ _)))
  have CD1 := hide (HK.out.decode no nc (l ++ [y]) (by rw [List.length_append, List.length_singleton]; omega) w5 hsl (by rw [List.length_append, List.length_singleton]; exact hcb5))
  rw [List.length_append, List.length_singleton] at CD1
  clear hsl hcb5 hb5 hA5 B5 A5 G5 R5
  go_wp2_with fail
  refine CD1.out.mono ?_
  rintro e w6 ⟨r, q, wo', tq', po', co', ko', cw', ct', cp', cc', ck', rfl, hd, _, _, hb6⟩
  obtain ⟨hq, rfl⟩ := dec_no hd NM.out
  have B7 := hide (bthen B6.out hb6)
  have A7 := hide (bthen A6.out hb6)
  have B8 := hide (bthen B7.out (balloc (brefl w6) (.cells #[.slice wo' 0 cw', .slice tq' 0 ct', .int .i64 0, .int .i64 0, .int .i64 0, .slice po' 0 cp', .slice co' 0 cc', .int .i64 0, .slice ko' 0 ck'] 35)))
  have A8 := hide (bthen A7.out (balloc (brefl w6) (.cells #[.slice wo' 0 cw', .slice tq' 0 ct', .int .i64 0, .int .i64 0, .int .i64 0, .slice po' 0 cp', .slice co' 0 cc', .int .i64 0, .slice ko' 0 ck'] 35)))
  clear hd hb6 CD1 NM B6 A6 B7 A7
  simp only [Up.zero, List.length_nil]
  by_cases h0 : cut < 0
  · clear HRD HWR NS NO A8
    go_wp2_with fail
    refine (CL.out _).mono ?_
    rintro e w7 ⟨rfl, hb⟩
    have BZ := hide (bthen B8.out hb)
    clear hb
    go_wp2_with fail
    go_ret
    exact ⟨rfl, bthen HB.out BZ.out⟩
  by_cases hge : (l.length : Int) ≤ cut
  · clear HRD HWR NS NO A8
    go_wp2_with fail
    refine (CL.out _).mono ?_
    rintro e w7 ⟨rfl, hb⟩
    have BZ := hide (bthen B8.out hb)
    clear hb
    go_wp2_with fail
    go_ret
    exact ⟨rfl, bthen HB.out BZ.out⟩
  obtain ⟨k, rfl⟩ : ∃ k : Nat, cut = k := ⟨cut.toNat, by omega⟩
  have hkl : k < l.length := by omega
  have hkc : k ≤ c := by omega
  have hkc' : (k : Int) ≤ (c : Int) := by omega
  have NS2 := hide (NS.out k hkl)
  have TK : Hid ((l.take k).length = k) := by show _ = _; rw [List.length_take]; omega
  have hcB := HRD.out
  have CD2 := hide (fun (W' : World) (hb : Below w4.heap.size w4 W') => HK.out.decode (some ⟨b, off, none⟩) c (l.take k) (by rw [TK.out]; omega) W' (.inr ⟨b, off, rfl, fun j hj => (by
    have hj' : j < l.length := by have := TK.out; omega
    rw [List.getElem_take]
    exact (hb.cell (p := ⟨b, off + j, none⟩) (block_lt_of_cell (HRD.out j hj'))).trans (HRD.out j hj'))⟩) ⟨fun e => (by cases e), fun ad e => (by cases e; rfl), by rw [TK.out]; exact hkc⟩)
  rw [TK.out] at CD2
  clear hcB
  go_wp2_with fail
  refine (CD2.out _ A8.out).mono ?_
  rintro e w7 ⟨r, q2, wo2, tq2, po2, co2, ko2, cw2, ct2, cp2, cc2, ck2, rfl, hd, _, _, hb7⟩
  obtain ⟨hq2, rfl⟩ := dec_no hd NS2.out
  have B9 := hide (bthen B8.out hb7)
  have A9 := hide (bthen A8.out hb7)
  have B10 := hide (bthen B9.out (balloc (brefl w7) (.cells #[.slice wo2 0 cw2, .slice tq2 0 ct2, .int .i64 0, .int .i64 0, .int .i64 0, .slice po2 0 cp2, .slice co2 0 cc2, .int .i64 0, .slice ko2 0 ck2] 35)))
  have A10 := hide (bthen A9.out (balloc (brefl w7) (.cells #[.slice wo2 0 cw2, .slice tq2 0 ct2, .int .i64 0, .int .i64 0, .int .i64 0, .slice po2 0 cp2, .slice co2 0 cc2, .int .i64 0, .slice ko2 0 ck2] 35)))
  clear hd hb7 CD2 NS NS2 TK B8 A8 B9 A9
  simp only [Up.zero, List.length_nil]
  by_cases h19 : (k : Int) < 19
  rotate_left
  · clear HRD HWR NO A10
    go_wp2_with fail
    refine (CL.out _).mono ?_
    rintro e w8 ⟨rfl, hb⟩
    have BZ := hide (bthen B10.out hb)
    clear hb
    go_wp2_with fail
    go_ret
    exact ⟨rfl, bthen HB.out BZ.out⟩
  by_cases hy : (y.toNat : Int) = 0
  · have hy' : ((y.toNat : Int) != 0) = false := by rw [hy]; rfl
    clear HRD HWR NO A10
    go_wp2_with fail
    refine (CL.out _).mono ?_
    rintro e w8 ⟨rfl, hb⟩
    have BZ := hide (bthen B10.out hb)
    clear hb
    go_wp2_with fail
    go_ret
    exact ⟨rfl, bthen HB.out BZ.out⟩
  have hy' : ((y.toNat : Int) != 0) = true := by simpa using hy
  have e0 := (A10.out.cell (p := ⟨b, off + k, none⟩) (block_lt_of_cell (HRD.out k hkl))).trans (HRD.out k hkl)
  have f0 := (A10.out.frozen (p := ⟨b, off + k, none⟩) (block_lt_of_cell (HRD.out k hkl))).trans (HWR.out.2 k hkl)
  go_upto_region 15 with fail
  generalize w7.alloc (.cells #[.slice wo2 0 cw2, .slice tq2 0 ct2, .int .i64 0, .int .i64 0, .int .i64 0, .slice po2 0 cp2, .slice co2 0 cc2, .int .i64 0, .slice ko2 0 ck2] 35) = W10 at *
  generalize w7.heap.size = p10 at *
  have HR10 : Hid (Bs.reads W10 b off l) := fun j hj => (A10.out.cell (p := ⟨b, off + j, none⟩) (block_lt_of_cell (HRD.out j hj))).trans (HRD.out j hj)
  obtain ⟨z, hz⟩ : ∃ z, z = l[k] ^^^ y := ⟨_, rfl⟩
  have hzx : bits .xor .u8 (l[k].toNat : Int) (y.toNat : Int) = (z.toNat : Int) := by
    rw [hz, UInt8.toNat_xor]
    exact xor8 _ _ l[k].toNat_lt y.toNat_lt
  have hzn : l[k]? ≠ some z := by
    rw [List.getElem?_eq_getElem hkl, hz]
    intro e
    exact xor_ne hy (Option.some.inj e).symm
  have NO2 := hide (NO.out k (by omega) z hzn)
  have CD3 := hide (HK.out.decode (some ⟨b, off, none⟩) c (l.set k z) (by rw [List.length_set]; omega) (W10.setCell ⟨b, off + k, none⟩ (.int .u8 (z.toNat : Int))) (.inr ⟨b, off, rfl, set_reads HR10.out hkl⟩) ⟨fun e => (by cases e), fun ad e => (by cases e; rfl), by rw [List.length_set]; exact hcap⟩)
  rw [List.length_set] at CD3
  have B11 := hide (bset B10.out (p := ⟨b, off + k, none⟩) (Nat.le_trans B3.out.size HWR.out.1) (.int .u8 (z.toNat : Int)))
  clear hz hzn NO HRD HWR HR10 A10
  generalize l[k] = x at *
  go_upto_region 16 with fail

  generalize W10.setCell ⟨b, off + k, none⟩ (.int .u8 (z.toNat : Int)) = W11 at *
  clear hzx e0 f0 B10
  go_wp2_with fail
  refine CD3.out.mono ?_
  rintro e w12 ⟨r, q3, wo3, tq3, po3, co3, ko3, cw3, ct3, cp3, cc3, ck3, rfl, hd, _, _, hb12⟩
  obtain ⟨hq3, rfl⟩ := dec_no hd NO2.out
  have B12 := hide (bthen B11.out hb12)
  have B13 := hide (bthen B12.out (balloc (brefl w12) (.cells #[.slice wo3 0 cw3, .slice tq3 0 ct3, .int .i64 0, .int .i64 0, .int .i64 0, .slice po3 0 cp3, .slice co3 0 cc3, .int .i64 0, .slice ko3 0 ck3] 35)))
  clear hd hb12 CD3 NO2 B12 B11
  simp only [Up.zero, List.length_nil]
  go_wp2_with fail
  refine (CL.out _).mono ?_
  rintro e w14 ⟨rfl, hb⟩
  have BZ := hide (bthen B13.out hb)
  clear hb
  go_wp2_with fail
  go_ret
  exact ⟨rfl, bthen HB.out BZ.out⟩
end Go.Proofs.Ytkhmhmopcofejaa
