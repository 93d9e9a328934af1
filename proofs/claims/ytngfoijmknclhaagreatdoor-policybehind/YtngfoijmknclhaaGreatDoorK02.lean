/- Maps of some of the clauses; rows of clauses that grow; theirs and Same of equal results. -/
import Derived.Test.YtngfoijmknclhaaGreatDoorK01
import Derived.Maps.AppendAt
namespace Go.Proofs.YtngfoijmknclhaaGreatDoor
open Go.RowKit Go.Sort
theorem rises_le : ∀ {l : List Kl} {p q : Int}, p ≤ q → risesK q l = true → risesK p l = true
  | [], _, _, _, _ => rfl
  | x :: l, p, q, hpq, h => by
    unfold risesK at h ⊢
    simp only [Bool.and_eq_true, decide_eq_true_eq] at h ⊢
    exact ⟨by omega, h.2⟩
theorem rises_filter (f : Kl → Bool) : ∀ {l : List Kl} {q : Int}, risesK q l = true → risesK q (l.filter f) = true
  | [], _, _ => rfl
  | x :: l, q, h => by
    unfold risesK at h
    simp only [Bool.and_eq_true, decide_eq_true_eq] at h
    rw [List.filter_cons]
    split
    · unfold risesK
      simp only [Bool.and_eq_true, decide_eq_true_eq]
      exact ⟨h.1, h.2.1, h.2.2.1, rises_filter f h.2.2.2⟩
    · exact rises_filter f (rises_le (by omega) h.2.2.2)
theorem map_filter (f : Kl → Bool) {m : List Kl} (h : mapOk m = true) : mapOk (m.filter f) = true := by
  unfold mapOk at h ⊢
  rw [Bool.and_eq_true, decide_eq_true_eq] at h ⊢
  exact ⟨Nat.le_trans (List.length_filter_le _ _) h.1, rises_filter f h.2⟩
theorem find_keep {p f : Kl → Bool} {m : List Kl} {c : Kl} (h : m.find? p = some c) (hf : f c = true) : (m.filter f).find? p = some c := by
  rw [List.find?_filter]
  obtain ⟨hp, k, hk, rfl, hb⟩ := List.find?_eq_some_iff_getElem.1 h
  rw [List.find?_eq_some_iff_getElem]
  refine ⟨by simp [hp, hf], k, hk, rfl, fun j hj => ?_⟩
  have := hb j hj
  simp only [Bool.not_eq_true', decide_eq_false_iff_not] at this ⊢
  simp_all
theorem find_gone {p f : Kl → Bool} {m : List Kl} (h : m.find? p = none) : (m.filter f).find? p = none := by
  rw [List.find?_eq_none] at h ⊢
  intro x hx
  exact h x (List.mem_filter.1 hx).1
theorem dec_cl {c : Kl} {a : At} {r : Rs} (h : DecTo c a r) : r.cl = c.n := by
  unfold DecTo at h
  split at h
  · obtain ⟨d, q, _, rfl⟩ := h
    rfl
  · rw [h]
/-- Clauses behind the one that decides make no difference, nor do clauses that aren't met. -/
theorem behind_eq {p : Kl → Bool} {ok : Bool} {m : List Kl} {a : At} {r r' : Rs} (_hm : mapOk m = true) (h : RunTo true ok p m a r) (f : Kl → Bool)
    (hf : ∀ c, ok = true → m.find? p = some c → r.cl = c.n → f c = true) (h' : RunTo true ok p (m.filter f) a r') : r' = r := by
  cases ok with
  | false =>
    unfold RunTo at h h'
    rw [if_neg (by simp)] at h h'
    rw [h, h']
  | true =>
    refine (run_uniq (m := m) h ?_).symm
    unfold RunTo at h h' ⊢
    rw [if_pos ⟨rfl, rfl⟩] at h h' ⊢
    rcases h with ⟨h1, rfl⟩ | ⟨c, h1, h2⟩
    · rcases h' with ⟨_, h'⟩ | ⟨c', h1', _⟩
      · exact .inl ⟨h1, h'⟩
      · rw [find_gone h1] at h1'; cases h1'
    · have hk := find_keep (f := f) h1 (hf c rfl h1 (dec_cl h2))
      rcases h' with ⟨h1', _⟩ | ⟨c', h1', h2'⟩
      · rw [hk] at h1'; cases h1'
      · rw [hk] at h1'; cases h1'
        exact .inr ⟨c, h1, h2'⟩
/-- No list of a result is long. -/
theorem run_few {mp ok : Bool} {p : Kl → Bool} {m : List Kl} {a : At} {r : Rs} (h : RunTo mp ok p m a r) : r.atr.path.length ≤ 100 ∧ r.atr.comms.length ≤ 100 ∧ r.atr.cl.length ≤ 100 := by
  have hz : (At.zero.path.length ≤ 100 ∧ At.zero.comms.length ≤ 100 ∧ At.zero.cl.length ≤ 100) := by decide
  unfold RunTo at h
  split at h
  · rcases h with ⟨_, rfl⟩ | ⟨c, _, hd⟩
    · exact hz
    · unfold DecTo at hd
      split at hd
      · obtain ⟨d, q, hdo, rfl⟩ := hd
        rcases do_err hdo with ⟨rfl, _, _⟩ | ⟨_, rfl⟩
        · exact may_few (do_may hdo)
        · exact hz
      · rw [hd]; exact hz
  · rw [h]; exact hz
/-- Clauses' cells, one behind the other. -/
inductive KsR (w : World) : List Kl → List Value → Prop
  | nil : KsR w [] []
  | snoc {L : List Kl} {xs : List Value} {c : Kl} {x : List Value} : KsR w L xs → KlR w c x → KsR w (L ++ [c]) (xs ++ x)
theorem KsR.keep {w w' : World} {L : List Kl} {xs : List Value} (h : KsR w L xs) (hb : Below w.heap.size w w') : KsR w' L xs := by
  induction h with
  | nil => exact .nil
  | snoc _ hx ih => exact .snoc ih (KlR.mono _ _ _ _ hb hx)
theorem KsR.len {w : World} {L : List Kl} {xs : List Value} (h : KsR w L xs) : xs.length = L.length * 13 := by
  induction h with
  | nil => rfl
  | snoc _ hx ih => rw [List.length_append, ih, hx.len, List.length_append, List.length_singleton]; omega
theorem KsR.get {w : World} {L : List Kl} {xs : List Value} (h : KsR w L xs) : ∀ j (hj : j < L.length), ∃ x, KlR w L[j] x ∧ ∀ i u, x[i]? = some u → xs[j * 13 + i]? = some u := by
  induction h with
  | nil => intro j hj; simp at hj
  | @snoc L xs c x hL hx ih =>
    intro j hj
    have hl := hL.len
    rcases Nat.lt_or_ge j L.length with h | h
    · obtain ⟨y, h1, h2⟩ := ih j h
      refine ⟨y, by rw [List.getElem_append_left h]; exact h1, fun i u hu => ?_⟩
      have h3 := h2 i u hu
      have h4 := (List.getElem?_eq_some_iff.1 h3).1
      rw [List.getElem?_append_left h4]
      exact h3
    · have hj' : j = L.length := by simp at hj; omega
      subst hj'
      refine ⟨x, by simp; exact hx, fun i u hu => ?_⟩
      rw [List.getElem?_append_right (by omega), hl, Nat.add_sub_cancel_left]
      exact hu
theorem rd_own {w : World} {B n : Nat} {v : Value} {L : List Kl} {xs : List Value} (h : w.ownsRow B 45 13 v n xs) (hk : KsR w L xs) (hn : n = L.length) : Rd w 13 KlR v L := by
  subst hn
  rcases h.2 with ⟨rfl, h0⟩ | ⟨g, cap, cur, rfl, hB, hg, hc, hm, hs, ht⟩
  · exact ⟨none, 0, by rw [h0], .inl (List.length_eq_zero_iff.1 h0)⟩
  · refine ⟨_, cap, rfl, .inr ⟨g, 0, rfl, fun j hj => ?_⟩⟩
    obtain ⟨x, h1, h2⟩ := hk.get j hj
    refine ⟨x, h1, h1.len, fun e => ?_, fun i u hu => ?_⟩
    · have := h1.len
      rw [e] at this
      cases this
    · have h3 := h2 i u hu
      have hi : i < 13 := by rw [← h1.len]; exact (List.getElem?_eq_some_iff.1 hu).1
      rw [← ht, List.getElem?_take_of_lt (by omega)] at h3
      unfold World.cell?
      rw [hg]
      simpa using h3
theorem infoK : (Tryz.prog.info? 45).map (fun i => (i.zero, i.size, i.bytes)) = some (some (.agg #[.int .i64 0, .bool false, .string ⟨#[]⟩, .string ⟨#[]⟩, .int .i64 0, .int .i64 0, .int .i64 0, .int .i64 0, .int .i64 0, .slice none 0 0, .slice none 0 0, .bool false, .slice none 0 0]), 13, 168) := by kernel_rfl
theorem info_partsK : ∃ i0 : TypeInfo, Tryz.prog.info? 45 = some i0 ∧ i0.zero = some (.agg #[.int .i64 0, .bool false, .string ⟨#[]⟩, .string ⟨#[]⟩, .int .i64 0, .int .i64 0, .int .i64 0, .int .i64 0, .int .i64 0, .slice none 0 0, .slice none 0 0, .bool false, .slice none 0 0]) ∧ i0.size = 13 ∧ i0.bytes = 168 := by
  have h := infoK
  cases hi : Tryz.prog.info? 45 with
  | none => rw [hi] at h; cases h
  | some i0 =>
    rw [hi] at h
    simp only [Option.map_some, Option.some.injEq, Prod.mk.injEq] at h
    exact ⟨i0, rfl, h.1, h.2.1, h.2.2⟩
/-- A clause put behind a row of the call's own. -/
theorem append_k {w : World} {B : Nat} {ops : Array Oper} {rest : List Oper} {o : Oper} {a : Act} {Q : Exit → Act → World → Prop} (hgd : o.guard = none) (s x : Operand)
    (ho : o.op = .call { callee := .builtin .append, args := #[s, x], argTypes := #[22, 22] }) (v : Value) (n : Nat) (xs : List Value) (hs : a.eval s = v) (hown : w.ownsRow B 45 13 v n xs)
    (g cp : Nat) (ys : List Value) (hx : a.eval x = .slice (some ⟨g, 0, none⟩) 1 cp) (hl : ys.length = 13) (hg : w.heap[g]? = some (.cells ys.toArray 45 (0, 0))) (h1 : ∀ u ∈ ys, u.oneCell' = true) (hn : n ≤ 1000) (hB : B ≤ w.heap.size)
    (h : ∀ v' w', w'.ownsRow B 45 13 v' (n + 1) (xs ++ ys) → w.grownBy w' v.ownBlock → (v'.ownBlock = v.ownBlock ∨ v'.ownBlock = some w.heap.size) → wpList Tryz.prog ops Q rest (a.put o.dst v') w') : wpList Tryz.prog ops Q (o :: rest) a w := by
  obtain ⟨i0, hi, hz0, hz1, hz2⟩ := info_partsK
  refine wpList_append_own_at w hgd s x 22 ho B 45 i0 _ 13 168 Tryz.underlying22 hi hz0 hz1 hz2 rfl (by decide) v n xs hs hown ⟨g, 0, none⟩ 1 cp ys hx (by rw [hl]) (fun j u hu => ?_) h1 (by unfold maxLen; omega) (by omega) hB (fun v' w' h2 h3 _ h5 => h v' w' h2 h3 h5)
  rw [show (⟨g, 0, none⟩ : Addr).add j = ⟨g, 0 + j, none⟩ by unfold Addr.add; split <;> simp_all]
  unfold World.cell?
  rw [hg]
  simpa using hu
theorem kl_one (c : Kl) (ao dl pr : Option Addr) (ca cd cr : Nat) : ∀ u ∈ c.cells ao dl pr ca cd cr, u.oneCell' = true := by
  unfold Kl.cells
  intro u hu
  simp only [List.mem_cons, List.not_mem_nil, or_false] at hu
  rcases hu with rfl | rfl | rfl | rfl | rfl | rfl | rfl | rfl | rfl | rfl | rfl | rfl | rfl <;> rfl
set_option maxHeartbeats 4000000 in
set_option maxRecDepth 100000 in
theorem theirs_is (r : Rs) (po co ko : Option Addr) (cp cc ck : Nat) (w : World) : Calls Tryz.prog 17 #[RsV r po co ko cp cc ck] w fun e w' => e = .returned (RsV r po co ko cp cc ck) ∧ Below w.heap.size w w' := by
  unfold RsV
  obtain ⟨pn, hpn⟩ : ∃ x, r.atr.path.length = x := ⟨_, rfl⟩
  obtain ⟨cn, hcn⟩ : ∃ x, r.atr.comms.length = x := ⟨_, rfl⟩
  obtain ⟨kn, hkn⟩ : ∃ x, r.atr.cl.length = x := ⟨_, rfl⟩
  rw [hpn, hcn, hkn]
  clear hpn hcn hkn
  have A1 := balloc (brefl w) (.cells #[.bool r.pass, .int .i64 r.atr.pf, .int .i64 r.atr.md, .int .i64 r.atr.og, .slice po pn cp, .slice co cn cc, .int .i64 r.atr.fr, .slice ko kn ck, .int .i64 r.cl, .int .i64 r.er] 52)
  have N1 := hide (heap_new w #[.bool r.pass, .int .i64 r.atr.pf, .int .i64 r.atr.md, .int .i64 r.atr.og, .slice po pn cp, .slice co cn cc, .int .i64 r.atr.fr, .slice ko kn ck, .int .i64 r.cl, .int .i64 r.er] 52)
  have B2 := hide (balloc A1 (.cells #[.bool r.pass, .int .i64 r.atr.pf, .int .i64 r.atr.md, .int .i64 r.atr.og, .slice po pn cp, .slice co cn cc, .int .i64 r.atr.fr, .slice ko kn ck, .int .i64 r.cl, .int .i64 r.er] 50))
  have N2 := hide (heap_new (w.alloc (.cells #[.bool r.pass, .int .i64 r.atr.pf, .int .i64 r.atr.md, .int .i64 r.atr.og, .slice po pn cp, .slice co cn cc, .int .i64 r.atr.fr, .slice ko kn ck, .int .i64 r.cl, .int .i64 r.er] 52)) #[.bool r.pass, .int .i64 r.atr.pf, .int .i64 r.atr.md, .int .i64 r.atr.og, .slice po pn cp, .slice co cn cc, .int .i64 r.atr.fr, .slice ko kn ck, .int .i64 r.cl, .int .i64 r.er] 50)
  go_enter Tryz.func17, Tryz.ntmps17
  go_wp2_with fail
  rw [sizeA] at N2
  obtain ⟨y0, y1, y2, y3, y4, y5, y6, y7, y8, y9⟩ := cells10 N2.out
  refine bodyPost_ret (v := .agg #[.bool r.pass, .int .i64 r.atr.pf, .int .i64 r.atr.md, .int .i64 r.atr.og, .slice po pn cp, .slice co cn cc, .int .i64 r.atr.fr, .slice ko kn ck, .int .i64 r.cl, .int .i64 r.er]) ?_ rfl ?_
  · simp [results, Tryz.results17, go_sem, y0, y1, y2, y3, y4, y5, y6, y7, y8, y9]
  · exact ⟨rfl, B2.out⟩
set_option maxHeartbeats 8000000 in
set_option maxRecDepth 100000 in
theorem same16_is (r : Rs) (po co ko po2 co2 ko2 : Option Addr) (cp cc ck cp2 cc2 ck2 : Nat) (w : World) (hA : At.lies w r.atr po co ko) (hB : At.lies w r.atr po2 co2 ko2) (h : r.atr.path.length ≤ 100 ∧ r.atr.comms.length ≤ 100 ∧ r.atr.cl.length ≤ 100) :
    Calls Tryz.prog 16 #[RsV r po co ko cp cc ck, RsV r po2 co2 ko2 cp2 cc2 ck2] w fun e w' => e = .returned (.bool true) ∧ Below w.heap.size w w' := by
  have CS := hide (fun W' (hb : Below w.heap.size w W') => refSameA_is r.atr r.atr po co ko po2 co2 ko2 cp cc ck cp2 cc2 ck2 true (decide_eq_true ((At.cmp_zero _ _).2 rfl)) W' (At.lies_below hA hb) (At.lies_below hB hb) h.1 h.2.1 h.2.2 h.2.1)
  unfold RsV
  obtain ⟨pn, hpn⟩ : ∃ x, r.atr.path.length = x := ⟨_, rfl⟩
  obtain ⟨cn, hcn⟩ : ∃ x, r.atr.comms.length = x := ⟨_, rfl⟩
  obtain ⟨kn, hkn⟩ : ∃ x, r.atr.cl.length = x := ⟨_, rfl⟩
  rw [hpn, hcn, hkn] at CS ⊢
  clear hpn hcn hkn hA hB h
  have A1 := balloc (brefl w) (.cells #[.bool r.pass, .int .i64 r.atr.pf, .int .i64 r.atr.md, .int .i64 r.atr.og, .slice po pn cp, .slice co cn cc, .int .i64 r.atr.fr, .slice ko kn ck, .int .i64 r.cl, .int .i64 r.er] 50)
  have N1 := heap_new w #[.bool r.pass, .int .i64 r.atr.pf, .int .i64 r.atr.md, .int .i64 r.atr.og, .slice po pn cp, .slice co cn cc, .int .i64 r.atr.fr, .slice ko kn ck, .int .i64 r.cl, .int .i64 r.er] 50
  have B2 := hide (balloc A1 (.cells #[.bool r.pass, .int .i64 r.atr.pf, .int .i64 r.atr.md, .int .i64 r.atr.og, .slice po2 pn cp2, .slice co2 cn cc2, .int .i64 r.atr.fr, .slice ko2 kn ck2, .int .i64 r.cl, .int .i64 r.er] 50))
  have N2 := hide (heap_new (w.alloc (.cells #[.bool r.pass, .int .i64 r.atr.pf, .int .i64 r.atr.md, .int .i64 r.atr.og, .slice po pn cp, .slice co cn cc, .int .i64 r.atr.fr, .slice ko kn ck, .int .i64 r.cl, .int .i64 r.er] 50)) #[.bool r.pass, .int .i64 r.atr.pf, .int .i64 r.atr.md, .int .i64 r.atr.og, .slice po2 pn cp2, .slice co2 cn cc2, .int .i64 r.atr.fr, .slice ko2 kn ck2, .int .i64 r.cl, .int .i64 r.er] 50)
  have N1' := hide (((balloc (brefl (w.alloc (.cells #[.bool r.pass, .int .i64 r.atr.pf, .int .i64 r.atr.md, .int .i64 r.atr.og, .slice po pn cp, .slice co cn cc, .int .i64 r.atr.fr, .slice ko kn ck, .int .i64 r.cl, .int .i64 r.er] 50))) (.cells #[.bool r.pass, .int .i64 r.atr.pf, .int .i64 r.atr.md, .int .i64 r.atr.og, .slice po2 pn cp2, .slice co2 cn cc2, .int .i64 r.atr.fr, .slice ko2 kn ck2, .int .i64 r.cl, .int .i64 r.er] 50)).block _ (heap_lt N1)).trans N1)
  rw [sizeA] at N2
  clear A1 N1
  go_enter Tryz.func16, Tryz.ntmps16
  go_upto_region 1 with fail
  obtain ⟨p, hp⟩ : ∃ x, w.heap.size = x := ⟨_, rfl⟩
  rw [hp] at N1' N2
  try rw [hp]
  obtain ⟨q, hq⟩ : ∃ x, p + 1 = x := ⟨_, rfl⟩
  rw [hq] at N2
  try rw [hq]
  obtain ⟨W2, hw2⟩ : ∃ x, x = (w.alloc (.cells #[.bool r.pass, .int .i64 r.atr.pf, .int .i64 r.atr.md, .int .i64 r.atr.og, .slice po pn cp, .slice co cn cc, .int .i64 r.atr.fr, .slice ko kn ck, .int .i64 r.cl, .int .i64 r.er] 50)).alloc (.cells #[.bool r.pass, .int .i64 r.atr.pf, .int .i64 r.atr.md, .int .i64 r.atr.og, .slice po2 pn cp2, .slice co2 cn cc2, .int .i64 r.atr.fr, .slice ko2 kn ck2, .int .i64 r.cl, .int .i64 r.er] 50) := ⟨_, rfl⟩
  rw [← hw2] at N1' N2 B2
  try rw [← hw2]
  clear hw2 hq
  obtain ⟨k0, k1, k2, k3, k4, k5, k6, k7, k8, k9⟩ := cells10 N1'.out
  obtain ⟨l0, l1, l2, l3, l4, l5, l6, l7, l8, l9⟩ := cells10 N2.out
  generalize r.pass = rp at *
  cases rp
  all_goals
    go_wp2_with fail
    refine (CS.out W2 (by first | exact B2.out | (rw [← hp]; exact B2.out))).mono ?_
    rintro e w3 ⟨rfl, hb⟩
    have B3 := hide (bthen B2.out hb)
    clear hb
    go_wp2_with fail
    go_ret
    exact ⟨rfl, B3.out⟩
end Go.Proofs.YtngfoijmknclhaaGreatDoor
