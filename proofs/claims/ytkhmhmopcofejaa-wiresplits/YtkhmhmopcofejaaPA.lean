import Derived.Test.YtkhmhmopcofejaaKS
/- Bytes of one's own, and what is put behind them. -/
namespace Go.Proofs.Ytkhmhmopcofejaa
open Go.RowKit Go.Sort

/-- Bytes in a row of one's own. -/
def Own (w : World) (B : Nat) (v : Value) (l : List UInt8) : Prop := w.ownsRow B 5 1 v l.length (bcells l)
/-- Bytes of one's own, with no room behind them. -/
def Full (w : World) (B : Nat) (v : Value) (l : List UInt8) : Prop := ∃ g, v = .slice (some ⟨g, 0, none⟩) l.length l.length ∧ B ≤ g ∧ g < w.heap.size ∧ Bs.reads w g 0 l
def Ow (w : World) (B : Nat) (v : Value) (l : List UInt8) : Prop := Own w B v l ∨ Full w B v l
/-- The row is the one that was there, or a new one. -/
def Nx (w : World) (r r' : Option Nat) : Prop := r' = r ∨ ∀ k, r' = some k → w.heap.size ≤ k
theorem nx_refl (w : World) (r : Option Nat) : Nx w r r := .inl rfl
theorem nx_trans {w w1 : World} {r r1 r2 : Option Nat} (h : Nx w r r1) (hs : w.heap.size ≤ w1.heap.size) (h1 : Nx w1 r1 r2) : Nx w r r2 := by
  rcases h1 with rfl | h1
  · exact h
  · exact .inr fun k hk => Nat.le_trans hs (h1 k hk)
theorem grown_refl (w : World) (r : Option Nat) : w.grownBy w r := ⟨rfl, rfl, rfl, Nat.le_refl _, fun _ _ _ => rfl⟩
theorem grown_trans {w w1 w2 : World} {r r1 : Option Nat} (h : w.grownBy w1 r) (hn : Nx w r r1) (h1 : w1.grownBy w2 r1) : w.grownBy w2 r :=
  ⟨h1.os.trans h.os, h1.tape.trans h.tape, h1.output.trans h.output, Nat.le_trans h.size h1.size, fun k hk hr => (h1.block k (Nat.lt_of_lt_of_le hk h.size) (by
    intro e
    rcases hn with rfl | hn
    · exact hr e
    · have := hn k e.symm; omega)).trans (h.block k hk hr)⟩
theorem grown_below {w w1 w2 : World} {r : Option Nat} (h : w.grownBy w1 r) (h1 : Below w1.heap.size w1 w2) : w.grownBy w2 r :=
  ⟨h1.os.trans h.os, h1.tape.trans h.tape, h1.output.trans h.output, Nat.le_trans h.size h1.size, fun k hk hr => (h1.block k (Nat.lt_of_lt_of_le hk h.size)).trans (h.block k hk hr)⟩
theorem grown_alloc {w w1 : World} {r : Option Nat} (h : w.grownBy w1 r) (o : Obj) : w.grownBy (w1.alloc o) r := grown_below h (balloc (brefl w1) o)
theorem below_of_grown {w w' : World} (h : w.grownBy w' none) : Below w.heap.size w w' := Below.grown (brefl w) h (Nat.le_refl _) (fun k hk => by cases hk)
theorem grown_of_below {w w' : World} {r : Option Nat} (h : Below w.heap.size w w') : w.grownBy w' r := grown_below (grown_refl w r) h
theorem own_nil (w : World) (B : Nat) : Own w B (.slice none 0 0) [] := World.ownsRow_nil w B 5 1
theorem own_below {w w' : World} {B : Nat} {v : Value} {l : List UInt8} (h : Own w B v l) (hb : Below w.heap.size w w') : Own w' B v l := row_below h hb
theorem ow_below {w w' : World} {B : Nat} {v : Value} {l : List UInt8} (h : Ow w B v l) (hb : Below w.heap.size w w') : Ow w' B v l := by
  rcases h with h | ⟨g, h1, h2, h3, h4⟩
  · exact .inl (own_below h hb)
  · exact .inr ⟨g, h1, h2, Nat.lt_of_lt_of_le h3 hb.size, fun j hj => (hb.cell (p := ⟨g, 0 + j, none⟩) h3).trans (h4 j hj)⟩
theorem own_base {w : World} {B B' : Nat} {v : Value} {l : List UInt8} (h : Own w B v l) (hb : B' ≤ B) : Own w B' v l := by
  refine ⟨h.1, ?_⟩
  rcases h.2 with h | ⟨g, cap, cur, h1, h2, h3⟩
  · exact .inl h
  · exact .inr ⟨g, cap, cur, h1, Nat.le_trans hb h2, h3⟩
theorem own_lt {w : World} {B : Nat} {v : Value} {l : List UInt8} (h : Ow w B v l) : ∀ k, v.ownBlock = some k → B ≤ k ∧ k < w.heap.size := by
  rcases h with h | ⟨g, rfl, h2, h3, _⟩
  · exact World.ownsRow.lt h
  · intro k hk
    cases hk
    exact ⟨h2, h3⟩
theorem own_kept {w w' : World} {B : Nat} {v : Value} {l : List UInt8} {row : Option Nat} (h : Own w B v l) (hg : w.grownBy w' row) (hne : v.ownBlock = none ∨ v.ownBlock ≠ row) : Own w' B v l := World.ownsRow.kept h hg hne
theorem own_at {w : World} {B : Nat} {v : Value} {l : List UInt8} (h : Own w B v l) : ∃ o c, v = .slice o l.length c ∧ Bs.slot w o l ∧ camB o l.length c ∧ WrB B w o l.length := by
  obtain ⟨o, c, rfl⟩ := row_slice h
  obtain ⟨h1, h2, h3, h4⟩ := Bs.own h
  exact ⟨o, c, rfl, h1, h2, h4⟩
/-- Bytes behind bytes. -/
theorem app_bytes {w : World} {ops : Array Oper} {rest : List Oper} {o : Oper} {a : Act} {Q : Exit → Act → World → Prop} (hgd : o.guard = none) (s x : Operand)
    (ho : o.op = .call { callee := .builtin .append, args := #[s, x], argTypes := #[31, 31] }) (B : Nat) (v : Value) (xs : List UInt8) (hs : a.eval s = v) (hown : Ow w B v xs)
    (ao : Option Addr) (nl cap : Nat) (l : List UInt8) (hx : a.eval x = .slice ao nl cap) (hnl : l.length = nl) (hR : Bs.slot w ao l) (hC : camB ao nl cap) (hn : xs.length + nl ≤ 1000000) (hB : B ≤ w.heap.size) (hF : 0 < nl ∨ Own w B v xs)
    (h : ∀ v' w', Own w' B v' (xs ++ l) → w.grownBy w' v.ownBlock → Nx w v.ownBlock v'.ownBlock → wpList Try.prog ops Q rest (a.put o.dst v') w') : wpList Try.prog ops Q (o :: rest) a w := by
  subst hnl
  obtain ⟨i0, hi, hz0, hz1, hz2⟩ := info_partsB
  have hrd : ∀ b off, ao = some ⟨b, off, none⟩ → ∀ j u, (bcells l)[j]? = some u → w.cell? ((⟨b, off, none⟩ : Addr).add j) = some u := by
    intro b off e j u hu
    obtain ⟨hj, rfl⟩ := bcells_get l j u hu
    rcases hR with h | ⟨b', off', h, hr⟩
    · subst h; simp at hj
    · rw [e] at h
      simp only [Option.some.injEq, Addr.mk.injEq, and_true] at h
      rw [show (⟨b, off, none⟩ : Addr).add j = ⟨b, off + j, none⟩ by unfold Addr.add; split <;> simp_all, h.1, h.2]
      exact hr j hj
  have hone : ∀ u ∈ bcells l, u.oneCell' = true := by
    intro u hu
    obtain ⟨z, _, rfl⟩ := List.mem_map.1 hu
    rfl
  have hlen : (bcells l).length = l.length * 1 := by simp [bcells]
  have hmk : ∀ {w' : World} {B' : Nat} {v' : Value}, w'.ownsRow B' 5 1 v' (xs.length + l.length) (bcells xs ++ bcells l) → Own w' B' v' (xs ++ l) := by
    intro w' B' v' h
    unfold Own
    rw [List.length_append, bcells_app]
    exact h
  cases ao with
  | none =>
    have hl : l = [] := by
      rcases hR with h | ⟨b, off, h, _⟩
      · exact h
      · cases h
    subst hl
    have hown' : Own w B v xs := by
      rcases hF with h | h
      · simp at h
      · exact h
    have hx' : a.eval x = .slice none 0 0 := by rw [hx, hC.1 rfl]; rfl
    refine wpList_append_own_none hgd s x 31 ho B 5 i0 1 Try.underlying31 hi v _ (bcells xs) hs hown' hx' ?_
    refine h v w ?_ (grown_refl w _) (nx_refl w _)
    rw [List.append_nil]
    exact hown'
  | some ad =>
    obtain ⟨b, off, sp⟩ := ad
    obtain rfl : sp = none := hC.2.1 _ rfl
    have hnw : ∀ {w' : World} {v' : Value}, w'.ownsRow w.heap.size 5 1 v' (xs.length + l.length) (bcells xs ++ bcells l) → w.grownBy w' none → wpList Try.prog ops Q rest (a.put o.dst v') w' := by
      intro w' v' ho' hg
      refine h v' w' (own_base (hmk ho') hB) ⟨hg.os, hg.tape, hg.output, hg.size, fun k hk _ => hg.block k hk (by simp)⟩ (.inr fun k hk => (ho'.lt k hk).1)
    rcases hown with hown | ⟨g, rfl, hBg, hgl, hrg⟩
    · rcases hown.2 with ⟨rfl, h0⟩ | ⟨g, cp, cur, rfl, hBg, hg, hnc, hcm, hsz, htk⟩
      · have hx0 : xs = [] := List.length_eq_zero_iff.1 h0
        subst hx0
        refine wpList_append_own w hgd s x 31 ho w.heap.size 5 i0 _ 1 1 Try.underlying31 hi hz0 hz1 hz2 rfl (by decide) (.slice none 0 0) 0 [] hs (World.ownsRow_nil w _ 5 1) ⟨b, off, none⟩ l.length cap (bcells l) hx hlen (hrd b off rfl) hone (by unfold maxLen; omega) (by omega) (Nat.le_refl _) ?_
        intro v' w' ho' hg _
        exact hnw ho' hg
      · by_cases hroom : xs.length + l.length ≤ cp
        · refine wpList_plain hgd fun K hK => ?_
          have hcells : ∀ j u, (bcells xs)[j]? = some u → w.cell? ((⟨g, 0, none⟩ : Addr).add j) = some u := World.ownsRow.cells hown rfl
          obtain ⟨v', w', hr, h2, h3, _⟩ := run_append_own (P := Try.prog) w B 31 o.type 5 i0 _ 1 1 Try.underlying31 hi hz0 hz1 hz2 rfl (by decide) _ _ (bcells xs) hown ⟨b, off, none⟩ l.length cap (bcells l) hlen (hrd b off rfl) hone (by unfold maxLen; omega) (by omega) hB
          have hr2 := run_append_room (P := Try.prog) w 31 o.type 5 i0 Try.underlying31 hi g xs.length cp cur hg ⟨b, off, none⟩ l.length cap (bcells l) (by rw [hz1]; exact hlen) (hrd b off rfl) hone hroom (by rw [hz1, hlen, hsz]; omega)
          rw [hr2] at hr
          injection hr with e1 e2
          unfold Oper.wp execOp
          simp only [ho, resolve, invoke, builtin, Sem.run_bind, Sem.run_pure, Result.andThen_ok, List.map_toArray, List.map_cons, List.map_nil, hs, hx, hr2]
          subst e1 e2
          exact hK _ _ (h _ _ (hmk h2) h3 (.inl rfl))
        · refine wpList_append_grows w hgd s x 31 ho 5 i0 _ 1 1 Try.underlying31 hi hz0 hz1 hz2 rfl (by decide) (some ⟨g, 0, none⟩) xs.length cp (bcells xs) hs (fun e => (by cases e)) (by simp [bcells]) ?_ ⟨b, off, none⟩ l.length cap (bcells l) hx hlen (hrd b off rfl) hone (by omega) (by unfold maxLen; omega) (by omega) ?_
          · intro bb e j u hu
            cases e
            exact World.ownsRow.cells hown rfl j u hu
          · intro v' w' ho' hg'
            exact hnw ho' hg'
    · have hl0 : 0 < l.length ∨ l.length = 0 := by omega
      rcases hl0 with hl0 | hl0
      · refine wpList_append_grows w hgd s x 31 ho 5 i0 _ 1 1 Try.underlying31 hi hz0 hz1 hz2 rfl (by decide) (some ⟨g, 0, none⟩) xs.length xs.length (bcells xs) hs (fun e => (by cases e)) (by simp [bcells]) ?_ ⟨b, off, none⟩ l.length cap (bcells l) hx hlen (hrd b off rfl) hone (by omega) (by unfold maxLen; omega) (by omega) ?_
        · intro bb e j u hu
          cases e
          obtain ⟨hj, rfl⟩ := bcells_get xs j u hu
          rw [show (⟨g, 0, none⟩ : Addr).add j = ⟨g, 0 + j, none⟩ by unfold Addr.add; split <;> simp_all]
          exact hrg j hj
        · intro v' w' ho' hg'
          exact hnw ho' hg'
      · have hown' : Own w B (.slice (some ⟨g, 0, none⟩) xs.length xs.length) xs := by
          rcases hF with h | h
          · omega
          · exact h
        have hl : l = [] := List.length_eq_zero_iff.1 hl0
        subst hl
        refine wpList_plain hgd fun K hK => ?_
        rcases hown'.2 with ⟨e, _⟩ | ⟨g', cp, cur, e, hBg', hg, hnc, hcm, hsz, htk⟩
        · cases e
        · obtain ⟨e1, e2⟩ : g' = g ∧ cp = xs.length := by simp only [Value.slice.injEq, Option.some.injEq, Addr.mk.injEq] at e; exact ⟨e.1.1.symm, e.2.2.symm⟩
          subst e1 e2
          obtain ⟨v', w', hr, h2, h3, _⟩ := run_append_own (P := Try.prog) w B 31 o.type 5 i0 _ 1 1 Try.underlying31 hi hz0 hz1 hz2 rfl (by decide) _ _ (bcells xs) hown' ⟨b, off, none⟩ 0 cap (bcells []) rfl (hrd b off rfl) hone (by unfold maxLen; omega) (by omega) hB
          have hr2 := run_append_room (P := Try.prog) w 31 o.type 5 i0 Try.underlying31 hi g' xs.length xs.length cur hg ⟨b, off, none⟩ 0 cap (bcells []) (by rw [hz1]; rfl) (hrd b off rfl) hone (by omega) (by rw [hz1, hsz]; simp [bcells])
          rw [hr2] at hr
          injection hr with e1 e2
          unfold Oper.wp execOp
          simp only [ho, resolve, invoke, builtin, Sem.run_bind, Sem.run_pure, Result.andThen_ok, List.map_toArray, List.map_cons, List.map_nil, hs, hx, List.length_nil, hr2]
          subst e1 e2
          exact hK _ _ (h _ _ (hmk h2) h3 (.inl rfl))
theorem slot_byte (W : World) (d : Int) (h0 : 0 ≤ d) (h1 : d < 256) : Bs.slot (W.alloc (.cells #[.int .u8 d] 5)) (some ⟨W.heap.size, 0, none⟩) [UInt8.ofNat d.toNat] := by
  refine .inr ⟨_, 0, rfl, fun j hj => ?_⟩
  obtain rfl : j = 0 := by simp at hj; omega
  have e : (((UInt8.ofNat d.toNat).toNat : Nat) : Int) = d := by
    rw [byte_nat (by omega)]
    omega
  simp only [List.getElem_cons_zero]
  rw [e]
  simp
theorem cam_some (g c n : Nat) (h : n ≤ c) : camB (some ⟨g, 0, none⟩) n c := ⟨fun e => (by cases e), fun ad e => (by cases e; rfl), h⟩
/-- Bytes put behind bytes of one's own. -/
def Puts (w : World) (B : Nat) (v : Value) (l : List UInt8) (e : Ending) (w' : World) : Prop := ∃ v', e = .returned v' ∧ Own w' B v' l ∧ w.grownBy w' v.ownBlock ∧ Nx w v.ownBlock v'.ownBlock
theorem num_more (n k : Nat) : num n (k + 1) = num (n / 256) k ++ [UInt8.ofNat (n % 256)] := rfl
end Go.Proofs.Ytkhmhmopcofejaa

/- The contract of wire's put. -/
namespace Go.Proofs.Ytkhmhmopcofejaa
open Go.RowKit Go.Sort

set_option maxHeartbeats 1000000 in
set_option maxRecDepth 100000 in
theorem put_is (B : Nat) (v : Value) (xs : List UInt8) (n many : Nat) (_hn : n ≤ 4294967295) (hm0 : 0 < many) (hm : many ≤ 4) (hl : xs.length ≤ 100000) (w : World) (hB : B ≤ w.heap.size) (hO : Ow w B v xs) :
    Calls Try.prog 50 #[v, .int .i64 n, .int .i64 many] w (Puts w B v (xs ++ num n many)) := by
  have HO := hide hO
  clear hO
  go_enter Try.func50, Try.ntmps50
  go_wp2_with fail
  go_loopw [0, 9] (fun v0 v9 wr => ∃ k : Nat, k ≤ many ∧ v9 = .int .i64 k ∧ Hid (Ow wr B v0 (xs ++ num (n / 256 ^ (many - k)) k)) ∧ Hid (0 < k → Own wr B v0 (xs ++ num (n / 256 ^ (many - k)) k)) ∧ w.grownBy wr v.ownBlock ∧ Nx w v.ownBlock v0.ownBlock) (fun _ v9 _ => many - (intOf v9).toNat)
  case atStart => exact ⟨0, Nat.zero_le _, rfl, (by show Ow _ _ _ _; simp only [num, List.append_nil]; exact HO.out), (fun h => by omega), grown_refl w _, nx_refl w _⟩
  case round =>
    obtain ⟨k, hk, rfl, HW, HP, hg, hx⟩ := hrel
    by_cases hkm : k < many
    · have hkm' : (k : Int) < (many : Int) := by omega
      have hd : 0 ≤ ((n : Int) / 2 ^ (8 * (many - 1 - k)) % 256) ∧ ((n : Int) / 2 ^ (8 * (many - 1 - k)) % 256) < 256 := by omega
      have S1 := hide (slot_byte wr ((n : Int) / 2 ^ (8 * (many - 1 - k)) % 256) hd.1 hd.2)
      have O1 := hide (ow_below HW.out (balloc (brefl wr) (.cells #[.int .u8 ((n : Int) / 2 ^ (8 * (many - 1 - k)) % 256)] 5)))
      have hs1 : B ≤ (wr.alloc (.cells #[.int .u8 ((n : Int) / 2 ^ (8 * (many - 1 - k)) % 256)] 5)).heap.size := Nat.le_trans hB (Nat.le_trans hg.size (balloc (brefl wr) _).size)
      have G1 := hide (grown_alloc hg (.cells #[.int .u8 ((n : Int) / 2 ^ (8 * (many - 1 - k)) % 256)] 5))
      have hlen : (xs ++ num (n / 256 ^ (many - k)) k).length + 1 ≤ 1000000 := by rw [List.length_append, num_length]; omega
      have HE : Hid ((xs ++ num (n / 256 ^ (many - k)) k) ++ [UInt8.ofNat ((n : Int) / 2 ^ (8 * (many - 1 - k)) % 256).toNat] = xs ++ num (n / 256 ^ (many - (k + 1))) (k + 1)) := by
        show _ = _
        have e1 : many - k = (many - (k + 1)) + 1 := by omega
        have e2 : many - 1 - k = many - (k + 1) := by omega
        rw [num_more, List.append_assoc, e1, Nat.pow_succ, ← Nat.div_div_eq_div_mul, e2]
        have e3 : ((n : Int) / 2 ^ (8 * (many - (k + 1))) % 256).toNat = n / 256 ^ (many - (k + 1)) % 256 := by
          rw [show (256 : Nat) ^ (many - (k + 1)) = 2 ^ (8 * (many - (k + 1))) by rw [Nat.pow_mul]]
          generalize 8 * (many - (k + 1)) = j
          rw [show ((n : Int) / 2 ^ j % 256) = ((n / 2 ^ j % 256 : Nat) : Int) by push_cast; rfl]
          rfl
        rw [e3]
      have HX := hide hx
      clear hg hx hd
      go_wp2_with (at_builtin; go_must (refine app_bytes rfl _ _ rfl B _ (xs ++ num (n / 256 ^ (many - k)) k) rfl O1.out (some ⟨wr.heap.size, 0, none⟩) 1 1 [UInt8.ofNat ((n : Int) / 2 ^ (8 * (many - 1 - k)) % 256).toNat] rfl rfl S1.out (cam_some _ _ _ (Nat.le_refl _)) hlen hs1 (.inl Nat.one_pos) ?_))
      intro v' w' ho' hg' hx'
      rw [← List.append_assoc, HE.out] at ho'
      have OW := hide ho'
      have GW := hide (grown_trans G1.out HX.out hg')
      have XW := hide (nx_trans HX.out G1.out.size hx')
      clear ho' hg' hx' S1 O1 G1 HX HE HW HP
      go_wp2_with fail
      exact ⟨⟨k + 1, hkm, by go_num, Or.inl OW.out, fun _ => OW.out, GW.out, XW.out⟩, by simp [intOf]; omega⟩
    · have hkm' : ¬ (k : Int) < (many : Int) := by omega
      have e : many - k = 0 := by omega
      go_wp2_with fail
      go_ret
      refine ⟨_, rfl, ?_, hg, hx⟩
      have := HP.out (by omega)
      rw [e] at this
      obtain rfl : k = many := by omega
      simpa using this
end Go.Proofs.Ytkhmhmopcofejaa

/- The contracts of wire's need, putPrefix and putPrefixes. -/
namespace Go.Proofs.Ytkhmhmopcofejaa
open Go.RowKit Go.Sort

theorem need_is (n : Int) (h0 : 0 ≤ n) (h1 : n ≤ 1000) (w : World) : Calls Try.prog 67 #[.int .i64 n] w fun e w' => e = .returned (.int .i64 ((n + 7) / 8)) ∧ w' = w := by
  go_enter Try.func67, Try.ntmps67
  go_wp2_with fail
  go_ret
  refine ⟨?_, rfl⟩
  rw [show n + 7 = n + 8 - 1 by omega]
  rfl
/-- One byte behind bytes of one's own. -/
theorem app_one {wr : World} {ops : Array Oper} {rest : List Oper} {o : Oper} {a : Act} {Q : Exit → Act → World → Prop} (hgd : o.guard = none) (s x : Operand)
    (ho : o.op = .call { callee := .builtin .append, args := #[s, x], argTypes := #[31, 31] }) (B : Nat) (v : Value) (xs : List UInt8) (d : Int) (h0 : 0 ≤ d) (h1 : d < 256) (hs : a.eval s = v) (hown : Own wr B v xs)
    (hx : a.eval x = .slice (some ⟨wr.heap.size, 0, none⟩) 1 1) (hn : xs.length ≤ 900000) (hB : B ≤ wr.heap.size)
    (h : ∀ v' w', Own w' B v' (xs ++ [UInt8.ofNat d.toNat]) → wr.grownBy w' v.ownBlock → Nx wr v.ownBlock v'.ownBlock → wpList Try.prog ops Q rest (a.put o.dst v') w') : wpList Try.prog ops Q (o :: rest) a (wr.alloc (.cells #[.int .u8 d] 5)) := by
  have hb := balloc (brefl wr) (.cells #[.int .u8 d] 5)
  refine app_bytes hgd s x ho B v xs hs (.inl (own_below hown hb)) (some ⟨wr.heap.size, 0, none⟩) 1 1 [UInt8.ofNat d.toNat] hx rfl (slot_byte wr d h0 h1) (cam_some _ _ _ (Nat.le_refl _)) (by omega) (Nat.le_trans hB hb.size) (.inl Nat.one_pos) ?_
  intro v' w' o' g' x'
  refine h v' w' o' (grown_trans (grown_of_below (r := v.ownBlock) hb) (nx_refl wr _) g') ?_
  rcases x' with x' | x'
  · exact .inl x'
  · exact .inr fun k hk => Nat.le_trans hb.size (x' k hk)
theorem take_more (n k m : Nat) (hm : m ≤ 4) (hk : k < m) : (num n 4).take (k + 1) = (num n 4).take k ++ [UInt8.ofNat (n / 256 ^ (3 - k) % 256)] := by
  rw [num_take n (k + 1) (by omega), num_take n k (by omega), num_more, Nat.div_div_eq_div_mul]
  rw [show 4 - (k + 1) = 3 - k by omega, show (256 : Nat) ^ (3 - k) * 256 = 256 ^ (4 - k) by rw [← Nat.pow_succ, show (3 - k).succ = 4 - k by omega]]
set_option maxHeartbeats 1000000 in
set_option maxRecDepth 100000 in
theorem putPrefix_is (B : Nat) (v : Value) (xs : List UInt8) (p : Int × Int) (hp : Gp p) (hl : xs.length ≤ 90000) (w : World) (hB : B ≤ w.heap.size) (hO : Own w B v xs) :
    Calls Try.prog 43 #[v, .agg #[.int .u32 p.1, .int .i64 p.2]] w (Puts w B v (xs ++ pfx p)) := by
  obtain ⟨a, b⟩ := p
  obtain ⟨ha0, ha1, hb0, hb1, _⟩ := hp
  simp only at ha0 ha1 hb0 hb1 ⊢
  obtain ⟨n, rfl⟩ : ∃ n : Nat, a = (n : Int) := ⟨a.toNat, by omega⟩
  obtain ⟨m, rfl⟩ : ∃ m : Nat, b = (m : Int) := ⟨b.toNat, by omega⟩
  have hn4 : n ≤ 4294967295 := by omega
  have hm32 : m ≤ 32 := by omega
  obtain ⟨W, hW⟩ : ∃ W, w.alloc (.cells #[.int .u32 (n : Int), .int .i64 (m : Int)] 56) = W := ⟨_, rfl⟩
  have BW : Hid (Below w.heap.size w W) := by rw [← hW]; exact balloc (brefl w) _
  have NW : Hid (W.heap[w.heap.size]? = some (.cells #[.int .u32 (n : Int), .int .i64 (m : Int)] 56 (0, 0))) := by rw [← hW]; exact heap_new w _ 56
  have CP := hide (put_is B v xs m 1 (by omega) (by decide) (by decide) (by omega) W (Nat.le_trans hB BW.out.size) (ow_below (.inl hO) BW.out))
  have CN := hide (fun W' => need_is m (by omega) (by omega) W')
  have HV := hide (own_lt (.inl hO))
  have hlt : w.heap.size < W.heap.size := by rw [← hW]; simp
  have hc0 : W.cell? ⟨w.heap.size, 0, none⟩ = some (.int .u32 (n : Int)) := by rw [← hW]; simp
  have hc1 : W.cell? ⟨w.heap.size, 1, none⟩ = some (.int .i64 (m : Int)) := by rw [← hW]; simp
  have HC := hide (And.intro hc0 hc1)
  have HL := hide hl
  clear hO hl ha0 ha1 hb0 hb1
  go_enter Try.func43, Try.ntmps43
  go_wp2_with fail
  refine CP.out.mono ?_
  rintro e w1 ⟨v1, rfl, o1, g1, x1⟩
  have hb0 : some w.heap.size ≠ v.ownBlock := fun e => by have := (HV.out _ e.symm).2; omega
  have d0 : w1.cell? ⟨w.heap.size, 0, none⟩ = some (.int .u32 (n : Int)) := g1.cell HC.out.1 hb0
  have d1 : w1.cell? ⟨w.heap.size, 1, none⟩ = some (.int .i64 (m : Int)) := g1.cell HC.out.2 hb0
  have O1 := hide o1
  have G1 := hide (grown_trans (grown_of_below (r := v.ownBlock) BW.out) (nx_refl w _) g1)
  have X1 : Hid (Nx w v.ownBlock v1.ownBlock) := by
    rcases x1 with x1 | x1
    · exact .inl x1
    · exact .inr fun k hk => Nat.le_trans BW.out.size (x1 k hk)
  have L1 : Hid (w.heap.size < w1.heap.size ∧ some w.heap.size ≠ v1.ownBlock) := ⟨Nat.lt_of_lt_of_le hlt g1.size, by
    rcases x1 with x1 | x1
    · rw [x1]; exact hb0
    · intro e; have := x1 _ e.symm; omega⟩
  have HD := hide (And.intro d0 d1)
  have hw := Nat.le_trans BW.out.size g1.size
  clear hc0 hc1 o1 g1 x1 CP hW NW hlt hb0
  go_wp2_with fail
  refine (CN.out _).mono ?_
  rintro e w2 ⟨rfl, rfl⟩
  clear d0 d1
  go_wp2_with fail
  go_loopw [0, 13] (fun v0 v13 wr => ∃ k : Nat, k ≤ (m + 7) / 8 ∧ v13 = .int .i64 k ∧ Hid (Own wr B v0 (xs ++ (num m 1 ++ (num n 4).take k))) ∧ w.grownBy wr v.ownBlock ∧ Nx w v.ownBlock v0.ownBlock ∧ wr.cell? ⟨w.heap.size, 0, none⟩ = some (.int .u32 (n : Int)) ∧ w.heap.size < wr.heap.size ∧ some w.heap.size ≠ v0.ownBlock) (fun _ v13 _ => (m + 7) / 8 - (intOf v13).toNat)
  case atStart => exact ⟨0, Nat.zero_le _, rfl, (by show Own _ _ _ _; rw [List.take_zero, List.append_nil]; exact O1.out), G1.out, X1.out, HD.out.1, L1.out.1, L1.out.2⟩
  case round =>
    obtain ⟨k, hk, rfl, HW, hg, hx, hc, hlt, hne⟩ := hrel
    by_cases hkm : k < (m + 7) / 8
    · have hkm' : (k : Int) < ((m : Int) + 7) / 8 := by omega
      have hk4 : k < 4 := by omega
      have hd : 0 ≤ ((n : Int) / 2 ^ (32 - 8 * (k + 1)) % 256) ∧ ((n : Int) / 2 ^ (32 - 8 * (k + 1)) % 256) < 256 := by omega
      have hlen : (xs ++ (num m 1 ++ (num n 4).take k)).length ≤ 900000 := by have := HL.out; rw [List.length_append, List.length_append, num_length, List.length_take]; omega
      have HE : Hid ((xs ++ (num m 1 ++ (num n 4).take k)) ++ [UInt8.ofNat ((n : Int) / 2 ^ (32 - 8 * (k + 1)) % 256).toNat] = xs ++ (num m 1 ++ (num n 4).take (k + 1))) := by
        show _ = _
        rw [take_more n k 4 (Nat.le_refl _) hk4, List.append_assoc, List.append_assoc]
        have e3 : ((n : Int) / 2 ^ (32 - 8 * (k + 1)) % 256).toNat = n / 256 ^ (3 - k) % 256 := by
          rw [show (256 : Nat) ^ (3 - k) = 2 ^ (32 - 8 * (k + 1)) by rw [show 32 - 8 * (k + 1) = 8 * (3 - k) by omega, Nat.pow_mul]]
          generalize 32 - 8 * (k + 1) = j
          rw [show ((n : Int) / 2 ^ j % 256) = ((n / 2 ^ j % 256 : Nat) : Int) by push_cast; rfl]
          rfl
        rw [e3]
      have HG := hide hg
      have HX := hide hx
      have HQ := hide (And.intro hc (And.intro hlt hne))
      have hBr : B ≤ wr.heap.size := Nat.le_trans hB hg.size
      clear hg hx hne
      go_wp2_with (at_builtin; go_must (refine app_one rfl _ _ rfl B u0 (xs ++ (num m 1 ++ (num n 4).take k)) _ hd.1 hd.2 rfl HW.out rfl hlen hBr ?_))
      intro v' w' ho' hg' hx'
      have OW : Hid (Own w' B v' (xs ++ (num m 1 ++ (num n 4).take (k + 1)))) := by rw [← HE.out]; show Own _ _ _ _; simpa only [List.append_assoc] using ho'
      have GW := hide (grown_trans HG.out HX.out hg')
      have XW := hide (nx_trans HX.out HG.out.size hx')
      have QW : Hid (w'.cell? ⟨w.heap.size, 0, none⟩ = some (.int .u32 (n : Int)) ∧ w.heap.size < w'.heap.size ∧ some w.heap.size ≠ v'.ownBlock) := by
        refine ⟨hg'.cell HQ.out.1 HQ.out.2.2, Nat.lt_of_lt_of_le HQ.out.2.1 hg'.size, ?_⟩
        rcases hx' with hx' | hx'
        · rw [hx']; exact HQ.out.2.2
        · intro e; have := hx' _ e.symm; have := HQ.out.2.1; omega
      clear ho' hg' hx' HG HX HE HW HQ hc hlt hd
      go_wp2_with fail
      exact ⟨⟨k + 1, hkm, by go_num, OW.out, GW.out, XW.out, QW.out⟩, by simp [intOf]; omega⟩
    · have hkm' : ¬ (k : Int) < ((m : Int) + 7) / 8 := by omega
      have HG := hide hg
      have HX := hide hx
      clear hg hx hc hlt hne
      go_wp2_with fail
      go_ret
      refine ⟨_, rfl, ?_, HG.out, HX.out⟩
      obtain rfl : k = (m + 7) / 8 := by omega
      have e : pfx ((n : Int), (m : Int)) = num m 1 ++ (num n 4).take ((m + 7) / 8) := by
        simp only [pfx, pn, Int.toNat_natCast, num, List.nil_append]
        rw [Nat.mod_eq_of_lt (by omega : m < 256)]
        rfl
      rw [e]
      exact HW.out
end Go.Proofs.Ytkhmhmopcofejaa

/- The contracts of wire's putPrefixes, sized and putAttr. -/
namespace Go.Proofs.Ytkhmhmopcofejaa
open Go.RowKit Go.Sort

theorem grown_from {w0 w w' : World} {v : Value} {xs : List UInt8} (hb : Below w0.heap.size w0 w) (hO : Ow w w0.heap.size v xs) (hg : w.grownBy w' v.ownBlock) : Below w0.heap.size w0 w' :=
  Below.grown hb hg hb.size fun k hk => (own_lt hO k hk).1
/-- Memory that lies elsewhere than the row. -/
def Apt (w : World) (ao : Option Addr) (r : Option Nat) : Prop := ∀ ad, ao = some ad → ad.block < w.heap.size ∧ some ad.block ≠ r
theorem apt_next {w w1 : World} {ao : Option Addr} {r r1 : Option Nat} (h : Apt w ao r) (hs : w.heap.size ≤ w1.heap.size) (hx : Nx w r r1) : Apt w1 ao r1 := by
  intro ad e
  obtain ⟨h1, h2⟩ := h ad e
  refine ⟨Nat.lt_of_lt_of_le h1 hs, ?_⟩
  rcases hx with rfl | hx
  · exact h2
  · intro e'
    have := hx _ e'.symm
    omega
theorem apt_slot {w w1 : World} {ao : Option Addr} {r : Option Nat} {l : List UInt8} (h : Apt w ao r) (hs : Bs.slot w ao l) (hg : w.grownBy w1 r) : Bs.slot w1 ao l := Bs.slot_grown hs hg fun ad e => (h ad e).2
theorem nx_below {w w1 : World} {r r1 : Option Nat} (hs : w.heap.size ≤ w1.heap.size) (hx : Nx w1 r r1) : Nx w r r1 := nx_trans (nx_refl w r) hs hx
set_option maxHeartbeats 1000000 in
set_option maxRecDepth 100000 in
theorem putPrefixes_is (w0 : World) (v : Value) (xs : List UInt8) (ao : Option Addr) (ca : Nat) (l : List (Int × Int)) (hp : ∀ p ∈ l, Gp p) (hl : l.length ≤ 1000) (hx : xs.length ≤ 10000) (w : World) (hb : Below w0.heap.size w0 w) (hO : Own w w0.heap.size v xs) (hA : Ax.Ad.rowAt w0 ao l) :
    Calls Try.prog 26 #[v, .slice ao l.length ca] w (Puts w w0.heap.size v (xs ++ pfxs l)) := by
  have HG := hide hp
  have HA := hide hA
  have HO := hide hO
  have HB := hide hb
  clear hp hA hO hb
  go_enter Try.func26, Try.ntmps26
  go_wp2_with fail
  go_loopw [0, 9] (fun v0 v9 wr => ∃ k : Nat, k ≤ l.length ∧ v9 = .int .i64 k ∧ Hid (Own wr w0.heap.size v0 (xs ++ pfxs (l.take k))) ∧ w.grownBy wr v.ownBlock ∧ Nx w v.ownBlock v0.ownBlock) (fun _ v9 _ => l.length - (intOf v9).toNat)
  case atStart => exact ⟨0, Nat.zero_le _, rfl, (by show Own _ _ _ _; rw [List.take_zero, show pfxs [] = [] from rfl, List.append_nil]; exact HO.out), grown_refl w _, nx_refl w _⟩
  case round =>
    obtain ⟨k, hk, rfl, HW, hg, hn⟩ := hrel
    by_cases hkl : k < l.length
    · have hkl' : (k : Int) < (l.length : Int) := by omega
      have hb := grown_from HB.out (.inl HO.out) hg
      obtain ⟨b, off, rfl, hrd⟩ : ∃ b off, ao = some ⟨b, off, none⟩ ∧ Ax.Ad.reads w0 b off l := by
        rcases HA.out with h | h
        · rw [h] at hkl; simp at hkl
        · exact h
      obtain ⟨c0, c1⟩ := Ax.Ad.reads_at (Ax.Ad.reads_below hrd hb) k hkl
      have hgk := HG.out l[k] (List.getElem_mem hkl)
      have hlen : (xs ++ pfxs (l.take k)).length ≤ 90000 := by
        have := pfxs_len (l := l.take k) fun x hx => HG.out x (List.mem_of_mem_take hx)
        rw [List.length_append, List.length_take] at *
        omega
      have A1 := hide (balloc (brefl wr) (.cells #[.int .u32 l[k].1, .int .i64 l[k].2] 56))
      have CP := hide (putPrefix_is w0.heap.size u0 (xs ++ pfxs (l.take k)) l[k] hgk hlen (wr.alloc (.cells #[.int .u32 l[k].1, .int .i64 l[k].2] 56)) (Nat.le_trans hb.size A1.out.size) (own_below HW.out A1.out))
      have HE : Hid (xs ++ pfxs (l.take k) ++ pfx l[k] = xs ++ pfxs (l.take (k + 1))) := by show _ = _; rw [pfxs_take hkl, List.append_assoc]
      have HGR := hide hg
      have HN := hide hn
      clear hrd hb hgk hg hn hlen HW
      generalize l[k] = pk at *
      obtain ⟨pa, pb⟩ := pk
      go_wp2_with fail
      refine CP.out.mono ?_
      rintro e w1 ⟨v1, rfl, o1, g1, x1⟩
      have O1 : Hid (Own w1 w0.heap.size v1 (xs ++ pfxs (l.take (k + 1)))) := by rw [← HE.out]; exact o1
      have x1' := nx_below A1.out.size x1
      have g1' := grown_trans (grown_of_below (r := u0.ownBlock) A1.out) (nx_refl wr _) g1
      have G1 := hide (grown_trans HGR.out HN.out g1')
      have X1 := hide (nx_trans HN.out HGR.out.size x1')
      clear o1 g1 x1 x1' g1' CP HE HGR HN A1
      go_wp2_with fail
      exact ⟨⟨k + 1, hkl, by go_num, O1.out, G1.out, X1.out⟩, by simp [intOf] <;> omega⟩
    · obtain rfl : k = l.length := by omega
      have HGR := hide hg
      have HN := hide hn
      clear hg hn
      go_wp2_with fail
      go_ret
      refine ⟨_, rfl, ?_, HGR.out, HN.out⟩
      have := HW.out
      rw [List.take_length] at this
      exact this
set_option maxHeartbeats 1000000 in
set_option maxRecDepth 100000 in
theorem sized_is (B : Nat) (v : Value) (xs : List UInt8) (ao : Option Addr) (cap : Nat) (l : List UInt8) (many : Nat) (hm0 : 0 < many) (hm : many ≤ 4) (hx : xs.length ≤ 90000) (hl : l.length ≤ 90000) (w : World) (hB : B ≤ w.heap.size) (hO : Own w B v xs) (hS : Bs.slot w ao l) (hC : camB ao l.length cap) (hA : Apt w ao v.ownBlock) :
    Calls Try.prog 25 #[v, .slice ao l.length cap, .int .i64 many] w (Puts w B v (xs ++ (num l.length many ++ l))) := by
  have CP := hide (put_is B v xs l.length many (by omega) hm0 hm (by omega) w hB (.inl hO))
  have HS := hide hS
  have HA := hide hA
  clear hS hA hO
  go_enter Try.func25, Try.ntmps25
  go_wp2_with fail
  refine CP.out.mono ?_
  rintro e w1 ⟨v1, rfl, o1, g1, x1⟩
  have O1 := hide o1
  have G1 := hide g1
  have X1 := hide x1
  have S1 := hide (apt_slot HA.out HS.out g1)
  have hlen : (xs ++ num l.length many).length + l.length ≤ 1000000 := by rw [List.length_append, num_length]; omega
  have hB1 : B ≤ w1.heap.size := Nat.le_trans hB g1.size
  clear o1 g1 x1 CP HS
  go_wp2_with (at_builtin; go_must (refine app_bytes rfl _ _ rfl B v1 (xs ++ num l.length many) rfl (.inl O1.out) ao l.length cap l rfl rfl S1.out hC hlen hB1 (.inr O1.out) ?_))
  intro v' w' ho' hg' hx'
  have OW : Hid (Own w' B v' (xs ++ (num l.length many ++ l))) := by show Own _ _ _ _; simpa only [List.append_assoc] using ho'
  have GW := hide (grown_trans G1.out X1.out hg')
  have XW := hide (nx_trans X1.out G1.out.size hx')
  clear ho' hg' hx' O1 G1 X1 S1 HA
  go_wp2_with fail
  go_ret
  exact ⟨_, rfl, OW.out, GW.out, XW.out⟩
theorem slot_two (W : World) (d e : Int) (h0 : 0 ≤ d) (h1 : d < 256) (h2 : 0 ≤ e) (h3 : e < 256) : Bs.slot (W.alloc (.cells #[.int .u8 d, .int .u8 e] 5)) (some ⟨W.heap.size, 0, none⟩) [UInt8.ofNat d.toNat, UInt8.ofNat e.toNat] := by
  refine .inr ⟨_, 0, rfl, fun j hj => ?_⟩
  have k : ∀ x : Int, 0 ≤ x → x < 256 → (((UInt8.ofNat x.toNat).toNat : Nat) : Int) = x := by
    intro x a b
    rw [byte_nat (by omega)]
    omega
  match j, hj with
  | 0, _ => simp only [List.getElem_cons_zero]; rw [k d h0 h1]; simp
  | 1, _ => simp only [List.getElem_cons_succ, List.getElem_cons_zero]; rw [k e h2 h3]; simp
set_option maxHeartbeats 1000000 in
set_option maxRecDepth 100000 in
theorem putAttr_is (B : Nat) (v : Value) (xs : List UInt8) (f k : Nat) (ao : Option Addr) (cap : Nat) (l : List UInt8) (hf : f < 256) (hk : k < 256) (hx : xs.length ≤ 80000) (hl : l.length < 256) (w : World) (hB : B ≤ w.heap.size) (hO : Own w B v xs) (hS : Bs.slot w ao l) (hC : camB ao l.length cap) (hA : Apt w ao v.ownBlock) :
    Calls Try.prog 51 #[v, .int .i64 f, .int .i64 k, .slice ao l.length cap] w (Puts w B v (xs ++ one (f, k, l))) := by
  have hf' : (f : Int) % 256 = f := by omega
  have hk' : (k : Int) % 256 = k := by omega
  have A1 := hide (balloc (brefl w) (.cells #[.int .u8 (f : Int), .int .u8 (k : Int)] 5))
  have O1 := hide (own_below hO A1.out)
  have S1 := hide (slot_two w (f : Int) (k : Int) (by omega) (by omega) (by omega) (by omega))
  have hlen : xs.length + 2 ≤ 1000000 := by omega
  have hB1 := Nat.le_trans hB A1.out.size
  have HS := hide (Bs.slot_below hS A1.out)
  have HA := hide (apt_next hA A1.out.size (nx_refl w _))
  have HB := hide hB
  clear hS hA hO hB
  go_enter Try.func51, Try.ntmps51
  go_wp2_with (at_builtin; go_must (refine app_bytes rfl _ _ rfl B v xs rfl (.inl O1.out) (some ⟨w.heap.size, 0, none⟩) 2 2 [UInt8.ofNat (f : Int).toNat, UInt8.ofNat (k : Int).toNat] rfl rfl S1.out (cam_some _ _ _ (Nat.le_refl _)) hlen hB1 (.inr O1.out) ?_))
  intro v1 w1 o1 g1 x1
  have CS := hide (sized_is B v1 (xs ++ [UInt8.ofNat (f : Int).toNat, UInt8.ofNat (k : Int).toNat]) ao cap l 1 (by decide) (by decide) (by rw [List.length_append]; simp; omega) (by omega) w1 (Nat.le_trans hB1 g1.size) o1 (apt_slot HA.out HS.out g1) hC (apt_next HA.out g1.size x1))
  have G1 := hide (grown_trans (grown_of_below (r := v.ownBlock) A1.out) (nx_refl w _) g1)
  have X1 := hide (nx_below A1.out.size x1)
  clear o1 g1 x1 O1 S1 HS HA A1
  go_wp2_with fail
  refine CS.out.mono ?_
  rintro e w2 ⟨v2, rfl, o2, g2, x2⟩
  have OW : Hid (Own w2 B v2 (xs ++ one (f, k, l))) := by
    have e : xs ++ one (f, k, l) = (xs ++ [UInt8.ofNat (f : Int).toNat, UInt8.ofNat (k : Int).toNat]) ++ (num l.length 1 ++ l) := by
      simp only [one, num, List.nil_append, Int.toNat_natCast]
      rw [Nat.mod_eq_of_lt hl]
      simp
    rw [e]
    exact o2
  have GW := hide (grown_trans G1.out X1.out g2)
  have XW := hide (nx_trans X1.out G1.out.size x2)
  clear o2 g2 x2 CS G1 X1
  go_wp2_with fail
  go_ret
  exact ⟨_, rfl, OW.out, GW.out, XW.out⟩
end Go.Proofs.Ytkhmhmopcofejaa

