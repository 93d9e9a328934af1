import Derived.Test.YtbceoinhmpnjaaaGreatDoorV1
/- The program's plain texts. -/
namespace Go.Proofs.YtbceoinhmpnjaaaGreatDoor
open Go.RowKit Go.Sort

theorem join_pairs : ∀ ps : List Prt, Lib.join (ps.map Px.pair) [32] = Px.pairs ps
  | [] => rfl
  | [p] => by simp [Lib.join_one, Px.pairs]
  | p :: q :: r => by
    have := join_pairs (q :: r)
    simp only [List.map_cons] at this ⊢
    rw [Px.pairs, ← this]
    simp [Lib.join, List.intercalate, List.intersperse]
theorem join_row : ∀ l : List Nd, Lib.join (l.map Nd.text) [32] = Nd.rowText l
  | [] => by simp [Lib.join, Nd.rowText]
  | [p] => by simp [Lib.join_one, Nd.rowText, Nd.moreText]
  | p :: q :: r => by
    have := join_row (q :: r)
    simp only [List.map_cons] at this ⊢
    rw [Nd.rowText, Nd.moreText]
    rw [Nd.rowText] at this
    rw [← this]
    simp [Lib.join, List.intercalate, List.intersperse]
theorem join_rows : ∀ l : List (List Nd), Lib.join (l.map Nd.rowText) [124] = Nd.rowsText l
  | [] => by simp [Lib.join, Nd.rowsText]
  | [p] => by simp [Lib.join_one, Nd.rowsText, Nd.alsoText]
  | p :: q :: r => by
    have := join_rows (q :: r)
    simp only [List.map_cons] at this ⊢
    rw [Nd.rowsText, Nd.alsoText]
    rw [Nd.rowsText] at this
    rw [← this]
    simp [Lib.join, List.intercalate, List.intersperse]

set_option maxHeartbeats 4000000 in
theorem partText_is {T : World → Prop} (K : TextKit T) (p : Prt) (hp : Px.goodPair p) (W : World) (hT : T W) :
    Calls Tryz.prog 62 #[.agg #[.int .i64 p.1, .int .i64 p.2.1, .bool p.2.2]] W fun e w' => e = .returned (.string (tx (Px.pair p))) ∧ Below W.heap.size W w' := by
  obtain ⟨a, c, t⟩ := p
  obtain ⟨h1, h2, h3, h4⟩ := hp
  have ha := (Is.as_iff _).1 h1
  have hc := (Is.as_iff _).1 h2
  have l1 := itoa_len a (by simp only at ha; omega) (by simp only at ha; omega)
  have l2 := itoa_len c (by simp only at hc; omega) (by simp only at hc; omega)
  simp only at ha hc ⊢
  have B0 := hide (balloc (brefl W) (.cells #[.int .i64 a, .int .i64 c, .bool t] 84))
  obtain ⟨t1, ht1⟩ : ∃ t1, t1 = tx (Lib.itoa a) := ⟨_, rfl⟩
  obtain ⟨t2, ht2⟩ : ∃ t2, t2 = tx (Lib.itoa c) := ⟨_, rfl⟩
  have C1 := hide (fun w hw => K.itoa a t1 (by omega) (by omega) ht1 w (K.on hT hw))
  have C2 := hide (fun w hw => K.itoa c t2 (by omega) (by omega) ht2 w (K.on hT hw))
  clear h1 h2 h3 h4 ha hc hT
  cases t with
  | false =>
    have HR : Hid (t1 = tx (Px.pair (a, c, false))) := by show _ = _; rw [ht1]; rfl
    have D1 := hide (C1.out _ B0.out)
    clear ht1 ht2 C2 C1
    go_enter Tryz.func62, Tryz.ntmps62
    go_wp2_with fail
    refine D1.out.mono ?_
    rintro e w1 ⟨rfl, hb⟩
    have B1 := hide (bthen B0.out hb)
    clear hb D1
    go_wp2_with fail
    go_ret
    exact ⟨congrArg (fun z => Ending.returned (Value.string z)) HR.out, B1.out⟩
  | true =>
    obtain ⟨t3, ht3⟩ : ∃ t3, t3 = tx (Lib.itoa a ++ [45]) := ⟨_, rfl⟩
    obtain ⟨t4, ht4⟩ : ∃ t4, t4 = tx (Px.pair (a, c, true)) := ⟨_, rfl⟩
    have A1 : Adds t1 ⟨#[45]⟩ t3 := by rw [ht1, ht3]; exact adds_tx (Lib.itoa a) [45] _ rfl (by omega) (by simp)
    have A2 : Adds t3 t2 t4 := by
      rw [ht3, ht2, ht4]
      exact adds_tx (Lib.itoa a ++ [45]) (Lib.itoa c) _ (by simp [Px.pair]) (by simp; omega) (by omega)
    have X0 := hide (box3_new W (.int .i64 a) (.int .i64 c) (.bool true) 84)
    rw [← ht4]
    unfold Adds at A1 A2
    clear ht1 ht2 ht3 ht4 l1 l2
    go_enter Tryz.func62, Tryz.ntmps62
    go_wp2_with fail
    generalize W.alloc (.cells #[.int .i64 a, .int .i64 c, .bool true] 84) = W1 at *
    obtain ⟨b0, b1, b2⟩ := X0.out
    have r0 := fun dd os => cell_regrown b0 dd os
    have r1 := fun dd os => cell_regrown b1 dd os
    have Q1 := hide (fun w hw => C1.out w (bthen B0.out hw))
    have Q2 := hide (fun w hw => C2.out w (bthen B0.out hw))
    clear C1 C2 b0 b1 b2
    refine wp_region_quiet_below (by kernel_rfl) (by kernel_rfl) ?_
    iterate 4 (go_big_quiet_step ((go_at_call 78; exact Calls.regrown_of (Q1.out _ (below_regrown _ _ _)))))
    iterate 5 (go_big_quiet_step ((go_at_call 78; exact Calls.regrown_of (Q2.out _ (below_regrown _ _ _)))))
    refine wpQuiet_nil ?_
    rintro _ ⟨⟨dd, os⟩, rfl⟩
    have hb4 := below_regrown W1 dd os
    generalize Sort.grow (redrawn W1 dd) os = W4 at hb4
    have B4 := hide (bthen B0.out hb4)
    clear hb4
    go_wp2_with fail
    go_ret
    exact ⟨rfl, B4.out⟩
end Go.Proofs.YtbceoinhmpnjaaaGreatDoor

/- The program's plain texts: nodes. -/
namespace Go.Proofs.YtbceoinhmpnjaaaGreatDoor
open Go.RowKit Go.Sort

/-- A node whose text is told. -/
def TextOk (T : World → Prop) (n : Nd) : Prop := ∀ (w : World) (cs : List Value), Pn.At w (Nd.pn n) cs → T w → (Nd.text n).length ≤ 10000 → ∀ W, Below w.heap.size w W → Calls Tryz.prog 45 #[.agg cs.toArray] W fun e w' => e = .returned (.string (tx (Nd.text n))) ∧ Below W.heap.size W w'
theorem pairs_join {T : World → Prop} (K : TextKit T) (ps : List Prt) (hg : ∀ p ∈ ps, Px.goodPair p) (po : Option Addr) (pc : Nat) (w : World) (hn : ps.length ≤ 100000) (hp : Pa.slot w po ps) (hT : T w) (hl : (Px.pairs ps).length ≤ 10000) (r : ByteArray) (hr : r = tx (Px.pairs ps)) (W : World) (hW : Below w.heap.size w W) :
    Calls Tryz.prog 61 #[.slice po ps.length pc, .string ⟨#[32]⟩, .func (.func 62) #[] #[]] W fun e w' => e = .returned (.string r) ∧ Below W.heap.size W w' := by
  have hj := join_pairs ps
  have hm : (ps.map Px.pair).length = ps.length := List.length_map ..
  have hc : ∀ i (h : i < ps.length), ps[i]? = some ps[i] := fun i h => List.getElem?_eq_getElem h
  have hp' := Pa.slot_below hp hW
  obtain ⟨b, off, hk, hs⟩ : ∃ b off, (ps.map Px.pair = [] ∨ po = some ⟨b, off, none⟩) ∧ ∀ i (h : i < ps.length), Six W b (off + i * 3) (Pa.enc ps[i]) := by
    rcases hp' with h | ⟨b, off, h, h2⟩
    · exact ⟨0, 0, .inl (by rw [h]; rfl), fun i hi => by rw [h] at hi; simp at hi⟩
    · exact ⟨b, off, .inr h, h2⟩
  have := joinP_is K (ps.map Px.pair) ⟨#[32]⟩ r (by show _ = _; rw [hr, ← hj]) (by show (Lib.join _ [32]).length ≤ _; rw [hj]; omega) (by omega) po pc b off (fun i => Pa.enc (ps.getD i (0, 0, false))) W hk (fun i hi => by
      have hi' : i < ps.length := by omega
      have e : ps.getD i (0, 0, false) = ps[i] := by simp [List.getD, hc i hi']
      simp only [e]
      exact ⟨_, _, _, rfl, ⟨rfl, rfl, rfl⟩, hs i hi'⟩) (fun i hi W' hW' => by
      have hi' : i < ps.length := by omega
      have e : ps.getD i (0, 0, false) = ps[i] := by simp [List.getD, hc i hi']
      simp only [e]
      have e2 : (ps.map Px.pair)[i] = Px.pair ps[i] := by simp
      rw [e2]
      exact partText_is K ps[i] (hg _ (List.getElem_mem hi')) W' (K.on hT (bthen hW hW')))
  rw [hm] at this
  exact this

set_option maxHeartbeats 8000000 in
theorem text_num {T : World → Prop} (K : TextKit T) {d : Nat} (dot set : Bool) (ps : List Prt) (hg : Nd.Good d (.num dot set ps)) : TextOk T (.num dot set ps) := by
  intro w cs hA hT hl W hW
  have hg' : (dot = true ∧ set = false ∧ ps = [(1, 65535, true)]) ∨ (dot = false ∧ set = true ∧ ps ≠ [] ∧ ∀ p ∈ ps, Px.goodPair p) ∨ (dot = false ∧ set = false ∧ ∃ x, ps = [(x, x, false)] ∧ Is.as x = true) := by
    cases d <;> simpa only [Nd.Good] using hg
  clear hg
  rcases hg' with ⟨rfl, rfl, rfl⟩ | ⟨rfl, rfl, h0, hg⟩ | ⟨rfl, rfl, x, rfl, hx⟩
  · rw [Nd.pn, if_pos rfl] at hA
    obtain ⟨po, pc, uo, uc, b, off, css, rfl, _⟩ := Pn.inv hA
    have HE : Hid (tx (Nd.text (.num true false [(1, 65535, true)])) = ⟨#[46]⟩) := by show _ = _; simp [Nd.text]
    have B0 := hide (balloc (brefl W) (.cells #[.int .i64 1, .slice po ([] : List Prt).length pc, .slice uo ([] : List Pn).length uc] 59))
    clear hA hT hl
    go_enter Tryz.func45, Tryz.ntmps45
    go_wp2_with fail
    go_ret
    exact ⟨congrArg (fun z => Ending.returned (Value.string z)) HE.out.symm, B0.out⟩
  · rw [Nd.pn, if_neg (by simp), if_pos rfl] at hA
    obtain ⟨po, pc, uo, uc, b, off, css, rfl, hn, hp, _⟩ := Pn.inv hA
    have et : Nd.text (.num false true ps) = 91 :: (Px.pairs ps ++ [93]) := by simp [Nd.text]
    have hl2 : (Px.pairs ps).length ≤ 10000 := by rw [et] at hl; simp at hl; omega
    obtain ⟨r, hr⟩ : ∃ r, r = tx (Px.pairs ps) := ⟨_, rfl⟩
    obtain ⟨r1, hr1⟩ : ∃ r1, r1 = tx (91 :: Px.pairs ps) := ⟨_, rfl⟩
    obtain ⟨r2, hr2⟩ : ∃ r2, r2 = tx (Nd.text (.num false true ps)) := ⟨_, rfl⟩
    have A1 : Adds ⟨#[91]⟩ r r1 := by rw [hr, hr1]; exact adds_tx [91] (Px.pairs ps) _ rfl (by simp) (by omega)
    have A2 : Adds r1 ⟨#[93]⟩ r2 := by rw [hr1, hr2, et]; exact adds_tx (91 :: Px.pairs ps) [93] _ rfl (by simp; omega) (by simp)
    have CJ := hide (fun W' hW' => pairs_join K ps hg po pc w hn.1 hp hT hl2 r hr W' hW')
    have B0 := hide (balloc (brefl W) (.cells #[.int .i64 2, .slice po ps.length pc, .slice uo ([] : List Pn).length uc] 59))
    have D1 := hide (CJ.out _ (bthen hW B0.out))
    rw [← hr2]
    unfold Adds at A1 A2
    clear hA hT hl hg h0 hn hp hr hr1 hr2 et CJ hW hl2
    go_enter Tryz.func45, Tryz.ntmps45
    go_wp2_with fail
    refine D1.out.mono ?_
    rintro e w1 ⟨rfl, hb⟩
    have B1 := hide (bthen B0.out hb)
    clear hb D1
    go_wp2_with fail
    go_ret
    exact ⟨rfl, B1.out⟩
  · rw [Nd.pn, if_neg (by simp), if_neg (by simp)] at hA
    obtain ⟨po, pc, uo, uc, b, off, css, rfl, hn, hp, _⟩ := Pn.inv hA
    have et : Nd.text (.num false false [(x, x, false)]) = Px.pairs [(x, x, false)] := by simp [Nd.text]
    obtain ⟨r, hr⟩ : ∃ r, r = tx (Nd.text (.num false false [(x, x, false)])) := ⟨_, rfl⟩
    have CJ := hide (fun W' hW' => pairs_join K [(x, x, false)] (fun p hp => by simp at hp; subst hp; exact ⟨hx, hx, Int.le_refl _, fun _ => rfl⟩) po pc w hn.1 hp hT (by rw [← et]; exact hl) r (by rw [hr, et]) W' hW')
    have B0 := hide (balloc (brefl W) (.cells #[.int .i64 0, .slice po [(x, x, false)].length pc, .slice uo ([] : List Pn).length uc] 59))
    have D1 := hide (CJ.out _ (bthen hW B0.out))
    rw [← hr]
    clear hA hT hl hn hp hr et CJ hW hx
    generalize [(x, x, false)].length = N at *
    go_enter Tryz.func45, Tryz.ntmps45
    go_wp2_with fail
    refine D1.out.mono ?_
    rintro e w1 ⟨rfl, hb⟩
    have B1 := hide (bthen B0.out hb)
    clear hb D1
    go_wp2_with fail
    go_ret
    exact ⟨rfl, B1.out⟩
set_option maxHeartbeats 8000000 in
theorem text_st {T : World → Prop} (_K : TextKit T) (k : Nat) (hk : k = 3 ∨ k = 4 ∨ k = 5) (n : Nd) (hn : TextOk T n) : TextOk T (.st k n) := by
  intro w cs hA hT hl W hW
  have et : Nd.text (.st k n) = Nd.text n ++ Px.signText k := by simp [Nd.text]
  rw [Nd.pn] at hA
  obtain ⟨po, pc, uo, uc, b, off, css, rfl, _, _, huo, hr, ha⟩ := Pn.inv hA
  have h0 : 0 < [Nd.pn n].length := by simp
  have hA0 := ha 0 h0
  have hR0 := six_below (hr 0 h0) hW
  have huo' : uo = some ⟨b, off, none⟩ := by rcases huo with h | h; cases h; exact h
  subst huo'
  obtain ⟨x0, x1, x2, hcs⟩ := Pn.len hA0
  rw [hcs] at hA0 hR0
  have hsl : (Px.signText k).length = 1 := by rcases hk with rfl | rfl | rfl <;> rfl
  obtain ⟨r, hr1⟩ : ∃ r, r = tx (Nd.text n) := ⟨_, rfl⟩
  obtain ⟨r2, hr2⟩ : ∃ r2, r2 = tx (Nd.text (.st k n)) := ⟨_, rfl⟩
  have hl2 : (Nd.text n).length ≤ 10000 := by rw [et, List.length_append] at hl; omega
  have A1 : Adds r (tx (Px.signText k)) r2 := by rw [hr1, hr2, et]; exact adds_tx _ _ _ rfl (by omega) (by omega)
  have B0 := hide (balloc (brefl W) (.cells #[.int .i64 ((k : Int) + 2), .slice po ([] : List Prt).length pc, .slice (some ⟨b, off, none⟩) [Nd.pn n].length uc] 59))
  have CC := hide (hn w _ hA0 hT hl2 _ (bthen hW B0.out))
  rw [← hr1] at CC
  rw [← hr2]
  obtain ⟨o0, o1, o2⟩ := Pn.one hA0
  rw [Nat.zero_mul, Nat.add_zero] at hR0
  obtain ⟨e0, e1, e2⟩ := six3_at hR0
  have hbl := block_lt_of_cell e0
  have hbn : b ≠ W.heap.size := by simp only at hbl; omega
  unfold Adds at A1
  clear hA hT hl hr ha huo hcs hn hr1 hr2 et hl2 hR0 hA0 hW
  rcases hk with rfl | rfl | rfl
  all_goals
    have hsn : tx (Px.signText 3) = ⟨#[42]⟩ ∧ tx (Px.signText 4) = ⟨#[43]⟩ ∧ tx (Px.signText 5) = ⟨#[63]⟩ := ⟨rfl, rfl, rfl⟩
    simp only [hsn.1, hsn.2.1, hsn.2.2] at A1
    clear hsn hsl
    go_enter Tryz.func45, Tryz.ntmps45
    go_wp2_with fail
    refine CC.out.mono ?_
    rintro e w1 ⟨rfl, hb⟩
    have B1 := hide (bthen B0.out hb)
    clear hb CC
    go_wp2_with fail
    go_ret
    exact ⟨rfl, B1.out⟩
end Go.Proofs.YtbceoinhmpnjaaaGreatDoor

/- The program's plain texts: rows, choices, expressions. -/
namespace Go.Proofs.YtbceoinhmpnjaaaGreatDoor
open Go.RowKit Go.Sort

theorem itemtext_le (l : List Nd) (i : Nat) (h : i < l.length) : (Nd.text l[i]).length ≤ (Nd.rowText l).length := by
  have h1 := Nd.row_le l (i + 1) (by omega)
  rw [Nd.row_step l i h, List.length_append, List.length_append] at h1
  omega
theorem rowtext_le (l : List (List Nd)) (i : Nat) (h : i < l.length) : (Nd.rowText l[i]).length ≤ (Nd.rowsText l).length := by
  have h1 := Nd.rows_le l (i + 1) (by omega)
  rw [Nd.rows_step l i h, List.length_append, List.length_append] at h1
  omega
/-- Texts of trees side by side, joined. -/
theorem nodes_join {T : World → Prop} (K : TextKit T) (us : List Pn) (tt : List Bs) (hlen : tt.length = us.length) (sep : UInt8) (uo : Option Addr) (uc b off : Nat) (css : Nat → List Value) (w : World) (hn : us.length ≤ 100000) (huo : us = [] ∨ uo = some ⟨b, off, none⟩) (hr : ∀ i, i < us.length → Six w b (off + i * 3) (css i)) (ha : ∀ i (h : i < us.length), Pn.At w us[i] (css i))
    (hl : (Lib.join tt [sep]).length ≤ 10000) (r : ByteArray) (hrr : r = tx (Lib.join tt [sep])) (hf : ∀ i (h : i < tt.length) W, Below w.heap.size w W → Calls Tryz.prog 45 #[.agg (css i).toArray] W fun e w' => e = .returned (.string (tx tt[i])) ∧ Below W.heap.size W w') (W : World) (hW : Below w.heap.size w W) :
    Calls Tryz.prog 44 #[.slice uo us.length uc, .string ⟨#[sep]⟩, .func (.func 45) #[] #[]] W fun e w' => e = .returned (.string r) ∧ Below W.heap.size W w' := by
  have := joinN_is K tt ⟨#[sep]⟩ r (by show _ = _; rw [hrr]) (by show (Lib.join tt [sep]).length ≤ _; omega) (by omega) uo uc b off css W (by rcases huo with h | h; exact .inl (List.length_eq_zero_iff.1 (by rw [hlen, h]; rfl)); exact .inr h) (fun i hi => by
      have hi' : i < us.length := by omega
      obtain ⟨x0, x1, x2, hx⟩ := Pn.len (ha i hi')
      have h1 := ha i hi'
      have h2 := hr i hi'
      rw [hx] at h1 h2
      exact ⟨x0, x1, x2, hx, Pn.one h1, six_below h2 hW⟩) (fun i hi W' hW' => hf i hi W' (bthen hW hW'))
  rw [hlen] at this
  exact this

set_option maxHeartbeats 8000000 in
theorem text_row {T : World → Prop} (K : TextKit T) (l : List Nd) (ht : ∀ n ∈ l, TextOk T n) (w : World) (cs : List Value) (hA : Pn.At w (.mk 4 [] (l.map Nd.pn)) cs) (hT : T w) (hl : (Nd.rowText l).length ≤ 10000) (W : World) (hW : Below w.heap.size w W) :
    Calls Tryz.prog 45 #[.agg cs.toArray] W fun e w' => e = .returned (.string (tx (Nd.rowText l))) ∧ Below W.heap.size W w' := by
  obtain ⟨po, pc, uo, uc, b, off, css, rfl, hn, _, huo, hr, ha⟩ := Pn.inv hA
  have hj := join_row l
  have hm : (l.map Nd.text).length = (l.map Nd.pn).length := by simp
  obtain ⟨r, hr1⟩ : ∃ r, r = tx (Nd.rowText l) := ⟨_, rfl⟩
  have CJ := hide (fun W' hW' => nodes_join K (l.map Nd.pn) (l.map Nd.text) hm 32 uo uc b off css w hn.2 huo hr ha (by rw [hj]; exact hl) r (by rw [hr1, hj]) (fun i hi W2 hW2 => by
    have hi' : i < l.length := by simpa using hi
    have e1 : (l.map Nd.text)[i] = Nd.text l[i] := by simp
    have h1 := ha i (by simpa using hi')
    have e2 : (l.map Nd.pn)[i]'(by simpa using hi') = Nd.pn l[i] := by simp
    rw [e2] at h1
    rw [e1]
    exact ht l[i] (List.getElem_mem hi') w _ h1 hT (Nat.le_trans (itemtext_le l i hi') hl) W2 hW2) W' hW')
  have B0 := hide (balloc (brefl W) (.cells #[.int .i64 4, .slice po ([] : List Prt).length pc, .slice uo (l.map Nd.pn).length uc] 59))
  have D1 := hide (CJ.out _ (bthen hW B0.out))
  rw [← hr1]
  clear hA hT hl hr ha huo hn hj hm CJ hW hr1 ht
  generalize (l.map Nd.pn).length = N at *
  go_enter Tryz.func45, Tryz.ntmps45
  go_wp2_with fail
  refine D1.out.mono ?_
  rintro e w1 ⟨rfl, hb⟩
  have B1 := hide (bthen B0.out hb)
  clear hb D1
  go_wp2_with fail
  go_ret
  exact ⟨rfl, B1.out⟩
set_option maxHeartbeats 8000000 in
theorem text_rows {T : World → Prop} (K : TextKit T) (rows : List (List Nd)) (ht : ∀ l ∈ rows, ∀ n ∈ l, TextOk T n) (w : World) (cs : List Value) (hA : Pn.At w (.mk 3 [] (Nd.pnRows rows)) cs) (hT : T w) (hl : (Nd.rowsText rows).length ≤ 10000) (r : ByteArray) (hr1 : r = tx (Nd.rowsText rows)) (W : World) (hW : Below w.heap.size w W) :
    Calls Tryz.prog 29 #[.agg cs.toArray] W fun e w' => e = .returned (.string r) ∧ Below W.heap.size W w' := by
  obtain ⟨po, pc, uo, uc, b, off, css, rfl, hn, _, huo, hr, ha⟩ := Pn.inv hA
  have hj := join_rows rows
  have hm : (rows.map Nd.rowText).length = (Nd.pnRows rows).length := by rw [pnRows_len]; simp
  have CJ := hide (fun W' hW' => nodes_join K (Nd.pnRows rows) (rows.map Nd.rowText) hm 124 uo uc b off css w hn.2 huo hr ha (by rw [hj]; exact hl) r (by rw [hr1, hj]) (fun i hi W2 hW2 => by
    have hi' : i < rows.length := by simpa using hi
    have e1 : (rows.map Nd.rowText)[i] = Nd.rowText rows[i] := by simp
    have hi2 : i < (Nd.pnRows rows).length := by rw [pnRows_len]; exact hi'
    have h1 := ha i hi2
    have e2 : (Nd.pnRows rows)[i] = .mk 4 [] (rows[i].map Nd.pn) := by
      have := Nd.pnRows_map rows
      simp only [this, List.getElem_map]
    rw [e2] at h1
    rw [e1]
    exact text_row K rows[i] (ht rows[i] (List.getElem_mem hi')) w _ h1 hT (Nat.le_trans (rowtext_le rows i hi') hl) W2 hW2) W' hW')
  have B0 := hide (balloc (brefl W) (.cells #[.int .i64 3, .slice po ([] : List Prt).length pc, .slice uo (Nd.pnRows rows).length uc] 59))
  have D1 := hide (CJ.out _ (bthen hW B0.out))
  clear hA hT hl hr ha huo hn hj hm CJ hW hr1 ht
  generalize (Nd.pnRows rows).length = N at *
  go_enter Tryz.func29, Tryz.ntmps29
  go_wp2_with fail
  refine D1.out.mono ?_
  rintro e w1 ⟨rfl, hb⟩
  have B1 := hide (bthen B0.out hb)
  clear hb D1
  go_wp2_with fail
  go_ret
  exact ⟨rfl, B1.out⟩
set_option maxHeartbeats 8000000 in
theorem text_ch {T : World → Prop} (K : TextKit T) (rows : List (List Nd)) (ht : ∀ l ∈ rows, ∀ n ∈ l, TextOk T n) : TextOk T (.ch rows) := by
  intro w cs hA hT hl W hW
  have et : Nd.text (.ch rows) = 40 :: (Nd.rowsText rows ++ [41]) := by simp [Nd.text]
  rw [Nd.pn] at hA
  have hl2 : (Nd.rowsText rows).length ≤ 10000 := by rw [et] at hl; simp at hl; omega
  obtain ⟨r, hr⟩ : ∃ r, r = tx (Nd.rowsText rows) := ⟨_, rfl⟩
  have CJ := hide (fun W' hW' => text_rows K rows ht w cs hA hT hl2 r hr W' hW')
  obtain ⟨po, pc, uo, uc, b, off, css, rfl, hrest⟩ := Pn.inv hA
  clear hrest
  obtain ⟨r1, hr1⟩ : ∃ r1, r1 = tx (40 :: Nd.rowsText rows) := ⟨_, rfl⟩
  obtain ⟨r2, hr2⟩ : ∃ r2, r2 = tx (Nd.text (.ch rows)) := ⟨_, rfl⟩
  have A1 : Adds ⟨#[40]⟩ r r1 := by rw [hr, hr1]; exact adds_tx [40] (Nd.rowsText rows) _ rfl (by simp) (by omega)
  have A2 : Adds r1 ⟨#[41]⟩ r2 := by rw [hr1, hr2, et]; exact adds_tx (40 :: Nd.rowsText rows) [41] _ rfl (by simp; omega) (by simp)
  have B0 := hide (balloc (brefl W) (.cells #[.int .i64 3, .slice po ([] : List Prt).length pc, .slice uo (Nd.pnRows rows).length uc] 59))
  have D1 := hide (CJ.out _ (bthen hW B0.out))
  rw [← hr2]
  unfold Adds at A1 A2
  clear hA hT hl hl2 et CJ hW hr hr1 hr2 ht
  generalize (Nd.pnRows rows).length = N at *
  go_enter Tryz.func45, Tryz.ntmps45
  go_wp2_with fail
  refine D1.out.mono ?_
  rintro e w1 ⟨rfl, hb⟩
  have B1 := hide (bthen B0.out hb)
  clear hb D1
  go_wp2_with fail
  go_ret
  exact ⟨rfl, B1.out⟩
mutual
theorem all_text {T : World → Prop} (K : TextKit T) : ∀ (d : Nat) (n : Nd), Nd.Good d n → TextOk T n
  | d, .num dot set ps, h => text_num K dot set ps h
  | 0, .ch rows, h => by simp only [Nd.Good] at h
  | d + 1, .ch rows, h => text_ch K rows (all_rows K d rows (by simp only [Nd.Good] at h; exact h.2))
  | d, .st k n, h => by
    have h' : (k = 3 ∨ k = 4 ∨ k = 5) ∧ (∀ j m, n ≠ .st j m) ∧ Nd.Good d n := by
      cases d <;> simpa only [Nd.Good] using h
    exact text_st K k h'.1 n (all_text K d n h'.2.2)
theorem all_row {T : World → Prop} (K : TextKit T) : ∀ (d : Nat) (l : List Nd), Nd.GoodRow d l → ∀ n ∈ l, TextOk T n
  | _, [], _ => fun n hn => by simp at hn
  | d, m :: r, h => fun n hn => by
    simp only [Nd.GoodRow] at h
    rcases List.mem_cons.1 hn with e | hn
    · rw [e]
      exact all_text K d m h.1
    · exact all_row K d r h.2 n hn
theorem all_rows {T : World → Prop} (K : TextKit T) : ∀ (d : Nat) (l : List (List Nd)), Nd.GoodRows d l → ∀ r ∈ l, ∀ n ∈ r, TextOk T n
  | _, [], _ => fun r hr => by simp at hr
  | d, m :: l, h => fun r hr => by
    simp only [Nd.GoodRows] at h
    rcases List.mem_cons.1 hr with e | hr
    · rw [e]
      exact all_row K d m h.1
    · exact all_rows K d l h.2 r hr
end
set_option maxHeartbeats 8000000 in
theorem text_is5 {T : World → Prop} (K : TextKit T) (v : Value) (x : Xp) (t : ByteArray) (ht : t = tx (Px.text x)) (W : World) (hT : T W) (h : Rep5 W v x) : Calls Tryz.prog 12 #[v] W fun e w' => e = .returned (.string t) ∧ Below W.heap.size W w' := by
  obtain ⟨a, x0, x1, x2, rfl, hE, hA, s, hs⟩ := h
  obtain ⟨f, l, rows⟩ := x
  obtain ⟨⟨d, hg⟩, hz, _⟩ := parse_bounds hs
  obtain ⟨r, hr⟩ : ∃ r, r = tx (Nd.rowsText rows) := ⟨_, rfl⟩
  have CS := hide (text_rows K rows (all_rows K d rows hg) W _ hA hT hz r hr W (brefl W))
  obtain ⟨c0, c1, c2, c3, c4⟩ := hE
  have et : Px.text (f, l, rows) = (if f = true then [94] else []) ++ Nd.rowsText rows ++ (if l = true then [36] else []) := rfl
  obtain ⟨r1, hr1⟩ : ∃ r1, r1 = tx (94 :: Nd.rowsText rows) := ⟨_, rfl⟩
  have A1 : Adds ⟨#[94]⟩ r r1 := by rw [hr, hr1]; exact adds_tx [94] (Nd.rowsText rows) _ rfl (by simp) (by omega)
  have hcell : ∀ o v, W.cell? ⟨a, o, none⟩ = some v → ∀ w1, Below W.heap.size W w1 → w1.cell? ⟨a, o, none⟩ = some v := fun o v h w1 hb => (hb.cell (p := ⟨a, o, none⟩) (block_lt_of_cell h)).trans h
  have HC0 := hide (hcell 0 _ c0)
  have HC1 := hide (hcell 1 _ c1)
  clear hcell hA hs hg hT
  cases f <;> cases l
  · have HT : Hid (t = r) := by show _ = _; rw [ht, hr, et]; simp
    unfold Adds at A1
    clear ht hr hr1 et A1
    go_enter Tryz.func12, Tryz.ntmps12
    go_wp2_with fail
    refine CS.out.mono ?_
    rintro e w1 ⟨rfl, hb⟩
    have B1 := hide hb
    have d0 := HC0.out w1 hb
    have d1 := HC1.out w1 hb
    clear hb CS c0 c1 c2 c3 c4 HC0 HC1
    go_wp2_with fail
    go_ret
    exact ⟨congrArg (fun z => Ending.returned (Value.string z)) HT.out.symm, B1.out⟩
  · obtain ⟨r2, hr2⟩ : ∃ r2, r2 = tx (Nd.rowsText rows ++ [36]) := ⟨_, rfl⟩
    have A2 : Adds r ⟨#[36]⟩ r2 := by rw [hr, hr2]; exact adds_tx (Nd.rowsText rows) [36] _ rfl (by omega) (by simp)
    have HT : Hid (t = r2) := by show _ = _; rw [ht, hr2, et]; simp
    unfold Adds at A1 A2
    clear ht hr hr1 hr2 et A1
    go_enter Tryz.func12, Tryz.ntmps12
    go_wp2_with fail
    refine CS.out.mono ?_
    rintro e w1 ⟨rfl, hb⟩
    have B1 := hide hb
    have d0 := HC0.out w1 hb
    have d1 := HC1.out w1 hb
    clear hb CS c0 c1 c2 c3 c4 HC0 HC1
    go_wp2_with fail
    go_ret
    exact ⟨congrArg (fun z => Ending.returned (Value.string z)) HT.out.symm, B1.out⟩
  · have HT : Hid (t = r1) := by show _ = _; rw [ht, hr1, et]; simp
    unfold Adds at A1
    clear ht hr hr1 et
    go_enter Tryz.func12, Tryz.ntmps12
    go_wp2_with fail
    refine CS.out.mono ?_
    rintro e w1 ⟨rfl, hb⟩
    have B1 := hide hb
    have d0 := HC0.out w1 hb
    have d1 := HC1.out w1 hb
    clear hb CS c0 c1 c2 c3 c4 HC0 HC1
    go_wp2_with fail
    go_ret
    exact ⟨congrArg (fun z => Ending.returned (Value.string z)) HT.out.symm, B1.out⟩
  · obtain ⟨r2, hr2⟩ : ∃ r2, r2 = tx (94 :: Nd.rowsText rows ++ [36]) := ⟨_, rfl⟩
    have A2 : Adds r1 ⟨#[36]⟩ r2 := by rw [hr1, hr2]; exact adds_tx (94 :: Nd.rowsText rows) [36] _ rfl (by simp; omega) (by simp)
    have HT : Hid (t = r2) := by show _ = _; rw [ht, hr2, et]; simp
    unfold Adds at A1 A2
    clear ht hr hr1 hr2 et
    go_enter Tryz.func12, Tryz.ntmps12
    go_wp2_with fail
    refine CS.out.mono ?_
    rintro e w1 ⟨rfl, hb⟩
    have B1 := hide hb
    have d0 := HC0.out w1 hb
    have d1 := HC1.out w1 hb
    clear hb CS c0 c1 c2 c3 c4 HC0 HC1
    go_wp2_with fail
    go_ret
    exact ⟨congrArg (fun z => Ending.returned (Value.string z)) HT.out.symm, B1.out⟩
end Go.Proofs.YtbceoinhmpnjaaaGreatDoor

