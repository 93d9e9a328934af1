/- Lists of texts; the contract of a heap's drain. -/
import Derived.Test.YtkfomjinilmjaaaHn
namespace Go.Proofs.Ytkfomjinilmjaaa
open Go.RowKit Go.Maps

def Ks.cells (l : List ByteArray) : List Value := l.map Value.string
/-- Where a list of texts lies. -/
def Ks.slot (w : World) (ao : Option Addr) (l : List ByteArray) : Prop := l = [] ∨ ∃ b off, ao = some ⟨b, off, none⟩ ∧ b < w.heap.size ∧ ∀ j (h : j < l.length), w.cell? ⟨b, off + j, none⟩ = some (.string l[j])
theorem Ks.below {w w' : World} {ao : Option Addr} {l : List ByteArray} (h : Ks.slot w ao l) (hb : Below w.heap.size w w') : Ks.slot w' ao l := by
  rcases h with h | ⟨b, off, e, hl, h⟩
  · exact .inl h
  · exact .inr ⟨b, off, e, Nat.lt_of_lt_of_le hl hb.size, fun j hj => (hb.cell (p := ⟨b, off + j, none⟩) hl).trans (h j hj)⟩
theorem Ks.kept {S : Nat → Prop} {w w' : World} {ao : Option Addr} {l : List ByteArray} (h : Ks.slot w ao l) (hk : Keep S w w') (hs : ∀ a, ao = some a → ¬ S a.block) : Ks.slot w' ao l := by
  rcases h with h | ⟨b, off, rfl, hl, h⟩
  · exact .inl h
  · exact .inr ⟨b, off, rfl, Nat.lt_of_lt_of_le hl hk.size, fun j hj => (World.cell?_of_block (a := ⟨b, off + j, none⟩) (hk.block b (hs _ rfl) hl)).trans (h j hj)⟩
theorem infoS : (Try.prog.info? 9).map (fun i => (i.zero, i.size, i.bytes)) = some (some (.string ⟨#[]⟩), 1, 16) := by kernel_rfl
theorem info_S : ∃ i0 : TypeInfo, Try.prog.info? 9 = some i0 ∧ i0.zero = some (.string ⟨#[]⟩) ∧ i0.size = 1 ∧ i0.bytes = 16 := by
  have h := infoS
  cases hi : Try.prog.info? 9 with
  | none => rw [hi] at h; cases h
  | some i0 =>
    rw [hi] at h
    simp only [Option.map_some, Option.some.injEq, Prod.mk.injEq] at h
    exact ⟨i0, rfl, h.1, h.2.1, h.2.2⟩
theorem append_key {w : World} {B : Nat} {ops : Array Oper} {rest : List Oper} {o : Oper} {a : Act} {Q : Exit → Act → World → Prop} (hgd : o.guard = none) (s x : Operand)
    (ho : o.op = .call { callee := .builtin .append, args := #[s, x], argTypes := #[43, 43] }) (v : Value) (n : Nat) (xs : List ByteArray) (hs : a.eval s = v) (hown : w.ownsRow B 9 1 v n (Ks.cells xs))
    (u : ByteArray) (g0 c : Nat) (hx : a.eval x = .slice (some ⟨g0, 0, none⟩) 1 c) (hc : w.cell? ⟨g0, 0, none⟩ = some (.string u)) (hn : n ≤ 100000) (hB : B ≤ w.heap.size)
    (h : ∀ v' w', w'.ownsRow B 9 1 v' (n + 1) (Ks.cells (xs ++ [u])) → Keep (fun k => B ≤ k) w w' → wpList Try.prog ops Q rest (a.put o.dst v') w') : wpList Try.prog ops Q (o :: rest) a w := by
  obtain ⟨i0, hi, hz0, hz1, hz2⟩ := info_S
  refine wpList_append_own w hgd s x 43 ho B 9 i0 _ 1 16 Try.underlying43 hi hz0 hz1 hz2 rfl (by decide) v n (Ks.cells xs) hs hown ⟨g0, 0, none⟩ 1 c [.string u] hx rfl ?_ (fun w hw => by simp at hw; subst hw; rfl) (by unfold maxLen; omega) (by omega) hB ?_
  · intro j q hj
    match j, hj with
    | 0, hj =>
      simp at hj
      subst hj
      simpa [Addr.add] using hc
  · intro v' w' ho' hg _
    refine h v' w' ?_ (Keep.grown hg fun k hk => (hown.lt k hk).1)
    simpa [Ks.cells] using ho'
theorem ks_shape {w : World} {B n : Nat} {v : Value} {l : List ByteArray} (h : w.ownsRow B 9 1 v n (Ks.cells l)) (hn : l.length = n) : ∃ (ao : Option Addr) (cap : Nat), v = .slice ao l.length cap ∧ Ks.slot w ao l ∧ ∀ a, ao = some a → B ≤ a.block := by
  subst hn
  rcases h.2 with ⟨rfl, h0⟩ | ⟨g, cap, cur, rfl, hB, hg, r⟩
  · have : l = [] := List.length_eq_zero_iff.1 h0
    subst this
    exact ⟨none, 0, rfl, .inl rfl, fun a e => by cases e⟩
  · refine ⟨_, cap, rfl, .inr ⟨g, 0, rfl, lt_of_block hg, fun j hj => ?_⟩, fun a e => by cases e; exact hB⟩
    rw [Nat.zero_add, h.cellAt j (by omega)]
    simp [Ks.cells, hj]
theorem row_keep {w w' : World} {S : Nat → Prop} {B e size n : Nat} {v : Value} {xs : List Value} (h : w.ownsRow B e size v n xs) (hk : Keep S w w') (hs : ∀ g, B ≤ g → g < w.heap.size → ¬ S g) : w'.ownsRow B e size v n xs := by
  obtain ⟨h1, h2⟩ := h
  refine ⟨h1, ?_⟩
  rcases h2 with h2 | ⟨g, cap, cur, hv, hB, hg, r⟩
  · exact .inl h2
  · exact .inr ⟨g, cap, cur, hv, hB, (hk.block g (hs g hB (lt_of_block hg)) (lt_of_block hg)).trans hg, r⟩
def sliceLen : Value → Nat
  | .slice _ n _ => n
  | _ => 0
theorem owns_len {w : World} {B e size n : Nat} {v : Value} {xs : List Value} (h : w.ownsRow B e size v n xs) : sliceLen v = n := by
  rcases h.2 with ⟨rfl, h0⟩ | ⟨g, cap, cur, rfl, _⟩
  · exact h0.symm
  · rfl
section
variable {lt : Int → Int → Bool} {w w' : World} {h f : Nat} {L : List RwS} {T : Int} {ao : Option Addr} {m : Nat}
/-- What drain hands back. -/
def Drained (lt : Int → Int → Bool) (w : World) (h f : Nat) (L : List RwS) (T : Int) (ao : Option Addr) (m : Nat) (e : Ending) (w' : World) : Prop :=
  ∃ (ar : Option Addr) (cr : Nat) (ks : List ByteArray), e = .returned (.slice ar ks.length cr) ∧ Ks.slot w' ar ks ∧ (∀ a, ar = some a → w.heap.size ≤ a.block) ∧ Alls lt L ks ∧ Hp lt w' h f [] T ao m ∧ Keep (Own h m ao) w w'
/-- While a heap is drained. -/
structure Dr (lt : Int → Int → Bool) (w : World) (h f : Nat) (L : List RwS) (T : Int) (ao : Option Addr) (m : Nat) (v : Value) (L' : List RwS) (ks : List ByteArray) (wr : World) : Prop where
  hp : Hp lt wr h f L' T ao m
  row : wr.ownsRow w.heap.size 9 1 v ks.length (Ks.cells ks)
  keep : Keep (Own h m ao) w wr
  all : ∀ r, Alls lt L' r → Alls lt L (ks ++ r)
  len : ks.length + L'.length ≤ L.length
theorem fst_len {x : RwS} (H : Hp lt w h f L T ao m) (hF : Fst lt L x) : (without L x.k).length + 1 = L.length := by
  obtain ⟨j, hj⟩ := List.mem_iff_getElem?.1 hF.1
  have := without_len H.once hj
  have := get_lt hj
  omega
set_option maxHeartbeats 2000000 in
set_option maxRecDepth 100000 in
theorem drain_is (O : Ords lt) (LI : LessIs f lt) (H : Hp lt w h f L T ao m) (hn : L.length ≤ 1000) :
    Calls Try.prog 42 #[.pointer (some ⟨h, 0, none⟩)] w (Drained lt w h f L T ao m) := by
  have HLT := hide H.old
  have D0 : Hid (Dr lt w h f L T ao m (.slice none 0 0) L [] w) := ⟨H, ⟨rfl, .inl ⟨rfl, rfl⟩⟩, Keep.refl _ _, fun r hr => hr, by simp⟩
  clear H
  go_enter Try.func42, Try.ntmps42
  go_wp2_with fail
  go_loopw [3] (fun v3 wr => ∃ (L' : List RwS) (ks : List ByteArray), Hid (Dr lt w h f L T ao m v3 L' ks wr)) (fun v3 _ => L.length - sliceLen v3)
  case atStart => exact ⟨L, [], D0⟩
  case round =>
    obtain ⟨L', ks, D1⟩ := hrel
    clear D0
    have hlen := D1.out.len
    have HLE := hide hlen
    by_cases hL : L' = []
    · subst hL
      have CL := hide (len_is D1.out.hp (by simp))
      simp only [List.length_nil] at CL
      have HA := hide (D1.out.all [] Alls.nil)
      rw [List.append_nil] at HA
      have HH := hide D1.out.hp
      have HK := hide D1.out.keep
      obtain ⟨ar, cr, rfl, hsl, hnew⟩ := ks_shape D1.out.row rfl
      have HSL := hide hsl
      have HNW := hide hnew
      clear hsl hnew hlen D1
      go_wp2_with fail
      refine CL.out.mono ?_
      rintro e w1 ⟨rfl, hw⟩
      have hw' := hw.symm
      clear hw
      subst hw'
      go_wp2_with fail
      go_ret
      exact ⟨ar, cr, ks, rfl, HSL.out, HNW.out, HA.out, HH.out, HK.out⟩
    · obtain ⟨n, hn'⟩ : ∃ n, L'.length = n + 1 := ⟨L'.length - 1, by have := List.length_pos_iff.2 hL; omega⟩
      have CL := hide (len_is D1.out.hp (by omega))
      have CP := hide (pop_is O LI D1.out.hp (by omega))
      rw [hn'] at CL
      have hpos : (0 : Int) < ((n + 1 : Nat) : Int) := by omega
      have hn1 : n ≤ 1000 := by omega
      have hks : ks.length + 1 ≤ L.length := by omega
      clear hlen
      go_wp2_with fail
      refine CL.out.mono ?_
      rintro e w1 ⟨rfl, hw⟩
      have hw' := hw.symm
      clear hw
      subst hw'
      go_wp2_with fail
      refine CP.out.mono ?_
      rintro e w1 hp
      rcases hp with ⟨e2, _⟩ | ⟨x, hF, rfl, h1, k1⟩
      · exact absurd e2 hL
      have hl2 := fst_len D1.out.hp hF
      have HW1 := hide (row_keep D1.out.row k1 (fun g hg _ e => by have := HLT.out _ e; omega))
      have hsz : w.heap.size ≤ w1.heap.size := Nat.le_trans D1.out.keep.size k1.size
      have H1 := hide h1
      have HF := hide hF
      have K1 := hide (D1.out.keep.trans k1)
      have HALL := hide D1.out.all
      clear h1 k1 hF CL CP D1
      have HV := hide (owns_len HW1.out)
      go_wp2_with (at_builtin; go_must (refine append_key (B := w.heap.size) rfl _ _ rfl _ ks.length ks rfl (HW1.out.alloc _) x.k _ _ rfl (by simp) (by omega) (by rw [size_alloc]; omega) ?_))
      intro v4 w4 ho4 hk4
      have D4 : Hid (Dr lt w h f L T ao m v4 (without L' x.k) (ks ++ [x.k]) w4) := by
        have hkb : ∀ b, Own h m ao b → w4.heap[b]? = w1.heap[b]? := fun b hb => by
          have h2 := HLT.out b hb
          rw [hk4.block b (by omega) (by rw [size_alloc]; omega), heap_alloc_lt _ _ _ (by omega)]
        refine ⟨H1.out.kept hkb, by rw [List.length_append]; exact ho4, (K1.out.alloc _).trans' hk4 (fun i hi => .inr hi), fun r hr => ?_, ?_⟩
        · have := HALL.out _ (Alls.cons HF.out hr)
          rw [List.append_assoc]
          exact this
        · rw [List.length_append]
          have := HLE.out
          simp only [List.length_cons, List.length_nil]
          omega
      have hv4 := owns_len ho4
      clear ho4 hk4
      go_wp2_with fail
      refine ⟨⟨_, _, D4⟩, ?_⟩
      rw [hv4, HV.out]
      omega
end
end Go.Proofs.Ytkfomjinilmjaaa
