import Derived.Test.YtkhmhmopcofejaaQG
import Derived.Test.YtkhmhmopcofejaaKA
import Derived.Test.YtkhmhmopcofejaaPE
/- The contract of the reader's attributes. -/
namespace Go.Proofs.Ytkhmhmopcofejaa
open Go.RowKit Go.Sort

/-- Memory from a block on. -/
def Far (w : World) (ao : Option Addr) (N : Nat) : Prop := ∀ ad, ao = some ad → N ≤ ad.block ∧ ad.block < w.heap.size
/-- Attributes with new lists. -/
structure Atm (w : World) (N : Nat) (a : At) (po co ko : Option Addr) (cp cc ck : Nat) : Prop where
  lies : At.lies w a po co ko
  c1 : camB po a.path.length cp
  c2 : camB co a.comms.length cc
  c3 : camB ko a.cl.length ck
  f1 : Far w po N
  f2 : Far w co N
  f3 : Far w ko N
  b1 : a.path.length ≤ 200
  b2 : a.comms.length ≤ 200
  b3 : a.cl.length ≤ 200
/-- Attributes that are being read. -/
structure Ast (w : World) (N p : Nat) (a : At) (po co ko : Option Addr) (cp cc ck : Nat) : Prop where
  cell : w.heap[p]? = some (.cells #[.int .i64 a.pf, .int .i64 a.md, .int .i64 a.og, .slice po a.path.length cp, .slice co a.comms.length cc, .int .i64 a.fr, .slice ko a.cl.length ck] 26 (0, 0))
  pn : p < N
  m : Atm w N a po co ko cp cc ck
theorem Is.slot_grown {w w' : World} {row : Option Nat} {ao : Option Addr} {l : List Int} (h : Is.slot w ao l) (hg : w.grownBy w' row) (hne : ∀ ad, ao = some ad → some ad.block ≠ row) : Is.slot w' ao l := by
  rcases h with h | ⟨b, off, h, hr⟩
  · exact .inl h
  · exact .inr ⟨b, off, h, fun j hj => hg.cell (a := ⟨b, off + j, none⟩) (hr j hj) (hne ⟨b, off, none⟩ h)⟩
theorem Cos.slot_grown {w w' : World} {row : Option Nat} {ao : Option Addr} {l : List Cm.Co.C} (h : Cm.Co.slot w ao l) (hg : w.grownBy w' row) (hne : ∀ ad, ao = some ad → some ad.block ≠ row) : Cm.Co.slot w' ao l := by
  rcases h with h | ⟨b, off, h, hr⟩
  · exact .inl h
  · exact .inr ⟨b, off, h, fun j u hu => hg.cell (a := ⟨b, off + j, none⟩) (hr j u hu) (hne ⟨b, off, none⟩ h)⟩
theorem At.lies_grown {w w' : World} {row : Option Nat} {a : At} {po co ko : Option Addr} (h : At.lies w a po co ko) (hg : w.grownBy w' row) (h1 : ∀ ad, po = some ad → some ad.block ≠ row) (h2 : ∀ ad, co = some ad → some ad.block ≠ row) (h3 : ∀ ad, ko = some ad → some ad.block ≠ row) : At.lies w' a po co ko :=
  ⟨Is.slot_grown h.1 hg h1, Cos.slot_grown h.2.1 hg h2, Is.slot_grown h.2.2 hg h3⟩
theorem Far.mono {w w' : World} {ao : Option Addr} {N : Nat} (h : Far w ao N) (hs : w.heap.size ≤ w'.heap.size) : Far w' ao N := fun ad e => ⟨(h ad e).1, Nat.lt_of_lt_of_le (h ad e).2 hs⟩
theorem Far.down {w : World} {ao : Option Addr} {N M : Nat} (h : Far w ao N) (hs : M ≤ N) : Far w ao M := fun ad e => ⟨Nat.le_trans hs (h ad e).1, (h ad e).2⟩
theorem Far.ne {w : World} {ao : Option Addr} {N x : Nat} (h : Far w ao N) (hx : x < N) : ∀ ad, ao = some ad → some ad.block ≠ some x := fun ad e k => by
  have := (h ad e).1
  have k' : ad.block = x := by simpa using k
  omega
theorem Atm.kept {w w' : World} {N x : Nat} {a : At} {po co ko : Option Addr} {cp cc ck : Nat} (h : Atm w N a po co ko cp cc ck) (hg : w.grownBy w' (some x)) (hx : x < N) : Atm w' N a po co ko cp cc ck :=
  ⟨At.lies_grown h.lies hg (h.f1.ne hx) (h.f2.ne hx) (h.f3.ne hx), h.c1, h.c2, h.c3, h.f1.mono hg.size, h.f2.mono hg.size, h.f3.mono hg.size, h.b1, h.b2, h.b3⟩
theorem Atm.down {w : World} {N M : Nat} {a : At} {po co ko : Option Addr} {cp cc ck : Nat} (h : Atm w N a po co ko cp cc ck) (hs : M ≤ N) : Atm w M a po co ko cp cc ck :=
  ⟨h.lies, h.c1, h.c2, h.c3, h.f1.down hs, h.f2.down hs, h.f3.down hs, h.b1, h.b2, h.b3⟩
theorem Ast.kept {w w' : World} {N rb p : Nat} {a : At} {po co ko : Option Addr} {cp cc ck : Nat} (h : Ast w N p a po co ko cp cc ck) (hg : w.grownBy w' (some rb)) (hp : p ≠ rb) (hr : rb < N) : Ast w' N p a po co ko cp cc ck :=
  ⟨(hg.block p (heap_lt h.cell) (fun e => hp (by simpa using e))).trans h.cell, h.pn, h.m.kept hg hr⟩
theorem grown_put (w : World) (p o : Nat) (v : Value) : w.grownBy (w.setCell ⟨p, o, none⟩ v) (some p) := grown_set (grown_refl w _) o v
theorem own_far {w : World} {B N e s n cap : Nat} {ao : Option Addr} {xs : List Value} (h : w.ownsRow B e s (.slice ao n cap) n xs) (hr : N ≤ B) : Far w ao N := by
  intro ad e
  subst e
  have := h.lt ad.block rfl
  exact ⟨by omega, this.2⟩
theorem Ast.set_pf {w : World} {N p : Nat} {a : At} {po co ko : Option Addr} {cp cc ck : Nat} (h : Ast w N p a po co ko cp cc ck) (x : Int) : Ast (w.setCell ⟨p, 0, none⟩ (.int .i64 x)) N p { a with pf := x } po co ko cp cc ck :=
  ⟨heap_setCell_same w p 0 _ 26 _ h.cell, h.pn, Atm.kept (a := { a with pf := x }) ⟨h.m.lies, h.m.c1, h.m.c2, h.m.c3, h.m.f1, h.m.f2, h.m.f3, h.m.b1, h.m.b2, h.m.b3⟩ (grown_put w p 0 _) h.pn⟩
theorem Ast.set_md {w : World} {N p : Nat} {a : At} {po co ko : Option Addr} {cp cc ck : Nat} (h : Ast w N p a po co ko cp cc ck) (x : Int) : Ast (w.setCell ⟨p, 1, none⟩ (.int .i64 x)) N p { a with md := x } po co ko cp cc ck :=
  ⟨heap_setCell_same w p 1 _ 26 _ h.cell, h.pn, Atm.kept (a := { a with md := x }) ⟨h.m.lies, h.m.c1, h.m.c2, h.m.c3, h.m.f1, h.m.f2, h.m.f3, h.m.b1, h.m.b2, h.m.b3⟩ (grown_put w p 1 _) h.pn⟩
theorem Ast.set_og {w : World} {N p : Nat} {a : At} {po co ko : Option Addr} {cp cc ck : Nat} (h : Ast w N p a po co ko cp cc ck) (x : Int) : Ast (w.setCell ⟨p, 2, none⟩ (.int .i64 x)) N p { a with og := x } po co ko cp cc ck :=
  ⟨heap_setCell_same w p 2 _ 26 _ h.cell, h.pn, Atm.kept (a := { a with og := x }) ⟨h.m.lies, h.m.c1, h.m.c2, h.m.c3, h.m.f1, h.m.f2, h.m.f3, h.m.b1, h.m.b2, h.m.b3⟩ (grown_put w p 2 _) h.pn⟩
theorem Ast.set_fr {w : World} {N p : Nat} {a : At} {po co ko : Option Addr} {cp cc ck : Nat} (h : Ast w N p a po co ko cp cc ck) (x : Int) : Ast (w.setCell ⟨p, 5, none⟩ (.int .i64 x)) N p { a with fr := x } po co ko cp cc ck :=
  ⟨heap_setCell_same w p 5 _ 26 _ h.cell, h.pn, Atm.kept (a := { a with fr := x }) ⟨h.m.lies, h.m.c1, h.m.c2, h.m.c3, h.m.f1, h.m.f2, h.m.f3, h.m.b1, h.m.b2, h.m.b3⟩ (grown_put w p 5 _) h.pn⟩
theorem Ast.set_path {w : World} {N p : Nat} {a : At} {po co ko : Option Addr} {cp cc ck : Nat} (h : Ast w N p a po co ko cp cc ck) (L : List Int) (no : Option Addr) (nc : Nat) (hs : Is.slot w no L) (hc : camB no L.length nc) (hf : Far w no N) (hb : L.length ≤ 200) : Ast (w.setCell ⟨p, 3, none⟩ (.slice no L.length nc)) N p { a with path := L } no co ko nc cc ck :=
  ⟨heap_setCell_same w p 3 _ 26 _ h.cell, h.pn, Atm.kept (a := { a with path := L }) ⟨⟨hs, h.m.lies.2.1, h.m.lies.2.2⟩, hc, h.m.c2, h.m.c3, hf, h.m.f2, h.m.f3, hb, h.m.b2, h.m.b3⟩ (grown_put w p 3 _) h.pn⟩
theorem Ast.set_comms {w : World} {N p : Nat} {a : At} {po co ko : Option Addr} {cp cc ck : Nat} (h : Ast w N p a po co ko cp cc ck) (L : List Cm.Co.C) (no : Option Addr) (nc : Nat) (hs : Cm.Co.slot w no L) (hc : camB no L.length nc) (hf : Far w no N) (hb : L.length ≤ 200) : Ast (w.setCell ⟨p, 4, none⟩ (.slice no L.length nc)) N p { a with comms := L } po no ko cp nc ck :=
  ⟨heap_setCell_same w p 4 _ 26 _ h.cell, h.pn, Atm.kept (a := { a with comms := L }) ⟨⟨h.m.lies.1, hs, h.m.lies.2.2⟩, h.m.c1, hc, h.m.c3, h.m.f1, hf, h.m.f3, h.m.b1, hb, h.m.b3⟩ (grown_put w p 4 _) h.pn⟩
theorem Ast.set_cl {w : World} {N p : Nat} {a : At} {po co ko : Option Addr} {cp cc ck : Nat} (h : Ast w N p a po co ko cp cc ck) (L : List Int) (no : Option Addr) (nc : Nat) (hs : Is.slot w no L) (hc : camB no L.length nc) (hf : Far w no N) (hb : L.length ≤ 200) : Ast (w.setCell ⟨p, 6, none⟩ (.slice no L.length nc)) N p { a with cl := L } po co no cp cc nc :=
  ⟨heap_setCell_same w p 6 _ 26 _ h.cell, h.pn, Atm.kept (a := { a with cl := L }) ⟨⟨h.m.lies.1, h.m.lies.2.1, hs⟩, h.m.c1, h.m.c2, hc, h.m.f1, h.m.f2, hf, h.m.b1, h.m.b2, hb⟩ (grown_put w p 6 _) h.pn⟩
theorem frozen7 {w : World} {b y : Nat} {x : Array Value} (h : w.heap[b]? = some (.cells x y (0, 0))) (o : Nat) : w.frozen? ⟨b, o, none⟩ = false := by
  unfold World.frozen?
  rw [h]
  simp
theorem pathR_len {d : List UInt8} {L : List Int} (h : pathR d = some L) (hd : d.length < 256) : L.length ≤ 200 := by
  unfold pathR at h
  split at h
  · cases h; decide
  · split at h
    · cases h
    · split at h
      · cases h; rw [numsI_length]; omega
      · cases h
theorem ints_own {w : World} {B : Nat} {v : Value} {L : List Int} (h : w.ownsRow B 3 1 v L.length (Is.cells L)) : ∃ o c, v = .slice o L.length c ∧ Is.slot w o L ∧ camB o L.length c := by
  obtain ⟨o, c, rfl⟩ := row_slice h
  refine ⟨o, c, rfl, Is.slot_own h, ?_⟩
  have hc := own_came h
  refine ⟨hc.1, hc.2, ?_⟩
  rcases h.2 with ⟨hv, h0⟩ | ⟨g, cap, cur, hv, _, _, hn, _⟩
  · rw [h0]; exact Nat.zero_le _
  · simp only [Value.slice.injEq] at hv; rw [hv.2.2]; exact hn
theorem comms_own {w : World} {B : Nat} {v : Value} {L : List Cm.Co.C} (h : w.ownsRow B 94 2 v L.length (Cm.Co.cells L)) : ∃ o c, v = .slice o L.length c ∧ Cm.Co.slot w o L ∧ camB o L.length c := by
  obtain ⟨o, c, rfl⟩ := row_slice h
  refine ⟨o, c, rfl, Cm.Co.slot_own h, ?_⟩
  have hc := own_came h
  refine ⟨hc.1, hc.2, ?_⟩
  rcases h.2 with ⟨hv, h0⟩ | ⟨g, cap, cur, hv, _, _, hn, _⟩
  · rw [h0]; exact Nat.zero_le _
  · simp only [Value.slice.injEq] at hv; rw [hv.2.2]; exact hn
def Attrs (w : World) (rb : Nat) (l : List UInt8) (e : Ending) (w' : World) : Prop :=
  (∃ (a : At) (po co ko : Option Addr) (cp cc ck : Nat), e = .returned (.agg #[.int .i64 a.pf, .int .i64 a.md, .int .i64 a.og, .slice po a.path.length cp, .slice co a.comms.length cc, .int .i64 a.fr, .slice ko a.cl.length ck]) ∧ Atm w' w.heap.size a po co ko cp cc ck ∧ IsAt l a ∧ w.grownBy w' (some rb)) ∨ (e = pan ∧ NoAt l ∧ w.grownBy w' (some rb))
set_option maxHeartbeats 8000000 in
set_option maxRecDepth 100000 in
theorem attributes_is (rb b off c : Nat) (l : List UInt8) (w : World) (hR : Rdr w rb b off c l 0) :
    Calls Try.prog 62 #[.pointer (some ⟨rb, 0, none⟩)] w (Attrs w rb l) := by
  have HRB : Hid (rb < w.heap.size ∧ b < w.heap.size ∧ rb ≠ b) := ⟨heap_lt hR.cell, hR.lt, hR.ne⟩
  have hln := hR.len
  have CG := hide (fun W => giveUp_is W)
  have B0 := hide (balloc (balloc (brefl w) (.cells #[.int .i64 0, .int .i64 0, .int .i64 0, .slice none 0 0, .slice none 0 0, .int .i64 0, .slice none 0 0] 26)) (.cells #[.int .i64 0, .int .i64 0, .int .i64 0, .slice none 0 0, .slice none 0 0, .int .i64 0, .slice none 0 0] 26))
  have NP := hide (heap_new (w.alloc (.cells #[.int .i64 0, .int .i64 0, .int .i64 0, .slice none 0 0, .slice none 0 0, .int .i64 0, .slice none 0 0] 26)) #[.int .i64 0, .int .i64 0, .int .i64 0, .slice none 0 0, .slice none 0 0, .int .i64 0, .slice none 0 0] 26)
  have NR := hide ((balloc (brefl (w.alloc (.cells #[.int .i64 0, .int .i64 0, .int .i64 0, .slice none 0 0, .slice none 0 0, .int .i64 0, .slice none 0 0] 26))) (.cells #[.int .i64 0, .int .i64 0, .int .i64 0, .slice none 0 0, .slice none 0 0, .int .i64 0, .slice none 0 0] 26)).block w.heap.size (by simp))
  have NR0 := hide (heap_new w #[.int .i64 0, .int .i64 0, .int .i64 0, .slice none 0 0, .slice none 0 0, .int .i64 0, .slice none 0 0] 26)
  have HP : Hid ((w.alloc (.cells #[.int .i64 0, .int .i64 0, .int .i64 0, .slice none 0 0, .slice none 0 0, .int .i64 0, .slice none 0 0] 26)).heap.size = w.heap.size + 1) := by show _ = _; simp
  have HR := hide (hR.below B0.out)
  rw [NR0.out] at NR
  rw [HP.out] at NP
  clear hR HP NR0
  go_enter Try.func62, Try.ntmps62
  go_wp2_with fail
  have HSW : Hid (w.heap.size + 2 ≤ ((w.alloc (.cells #[.int .i64 0, .int .i64 0, .int .i64 0, .slice none 0 0, .slice none 0 0, .int .i64 0, .slice none 0 0] 26)).alloc (.cells #[.int .i64 0, .int .i64 0, .int .i64 0, .slice none 0 0, .slice none 0 0, .int .i64 0, .slice none 0 0] 26)).heap.size) := by show _ ≤ _; simp
  generalize hW : (w.alloc (.cells #[.int .i64 0, .int .i64 0, .int .i64 0, .slice none 0 0, .slice none 0 0, .int .i64 0, .slice none 0 0] 26)).alloc (.cells #[.int .i64 0, .int .i64 0, .int .i64 0, .slice none 0 0, .slice none 0 0, .int .i64 0, .slice none 0 0] 26) = W at *
  clear hW
  obtain ⟨p, hp⟩ : ∃ p, w.heap.size + 1 = p := ⟨_, rfl⟩
  rw [hp] at NP
  rw [hp]
  have HPP : Hid (w.heap.size < p ∧ p ≠ rb) := ⟨by omega, by have := HRB.out; omega⟩
  obtain ⟨q, hq⟩ : ∃ q, w.heap.size = q := ⟨_, rfl⟩
  have HQ := hide hq
  rw [hq] at NR
  have A0 : Hid (Ast W (w.heap.size + 2) p At.zero none none none 0 0 0) := ⟨NP.out, by omega, ⟨⟨.inl rfl, .inl rfl, .inl rfl⟩, ⟨fun _ => rfl, fun ad e => (by cases e), Nat.le_refl _⟩, ⟨fun _ => rfl, fun ad e => (by cases e), Nat.le_refl _⟩, ⟨fun _ => rfl, fun ad e => (by cases e), Nat.le_refl _⟩, fun ad e => (by cases e), fun ad e => (by cases e), fun ad e => (by cases e), by decide, by decide, by decide⟩⟩
  have IV0 := hide (inv_start l)
  clear hp NP
  rw [hq]
  clear hq
  have GW : Hid (w.grownBy W (some rb)) := grown_of_below B0.out
  have HSZ : Hid (w.heap.size + 2 ≤ W.heap.size) := HSW
  clear B0
  go_loopw [4] (fun _ wr => ∃ (a : At) (k : Nat) (po co ko : Option Addr) (cp cc ck : Nat), Hid (Ast wr (w.heap.size + 2) p a po co ko cp cc ck) ∧ Hid (Rdr wr rb b off c l k) ∧ Hid (wr.heap[q]? = some (.cells #[.int .i64 0, .int .i64 0, .int .i64 0, .slice none 0 0, .slice none 0 0, .int .i64 0, .slice none 0 0] 26 (0, 0))) ∧ Hid (w.grownBy wr (some rb)) ∧ Hid (Inv l k a) ∧ Hid (W.heap.size ≤ wr.heap.size)) (fun _ wr => l.length - (intOf ((wr.cell? ⟨rb, 1, none⟩).getD undef)).toNat)
  case atStart => exact ⟨At.zero, 0, none, none, none, 0, 0, 0, A0, HR, NR, GW, IV0, Nat.le_refl _⟩
  case round =>
    clear A0 HR NR GW IV0
    obtain ⟨a, k, po, co, ko, cp, cc, ck, HA, HRD, HNR, HGR, HIV, WRS⟩ := hrel
    have CL := hide (left_is rb b off c l k wr HRD.out)
    have hk1 := HRD.out.le
    obtain ⟨x0, c1', _, _⟩ := two_cells HRD.out.cell
    clear x0
    go_wp2_with fail
    refine CL.out.mono ?_
    rintro e W0 ⟨rfl, b0⟩
    have R0 := hide (HRD.out.below b0)
    have G0 := hide (grown_of_below (r := some rb) b0)
    clear b0 CL HRD
    have QR : Hid (q < wr.heap.size ∧ q ≠ rb) := ⟨heap_lt HNR.out, by have := HQ.out; have := HRB.out; omega⟩
    by_cases hlt : k < l.length
    · have hlt' : (0 : Int) < (l.length : Int) - (k : Int) := by omega
      have C1 := hide (next_ok rb b off c l k 1 W0 R0.out (by decide) (by omega))
      go_wp2_with fail
      refine C1.out.mono ?_
      rintro e w1 ⟨rfl, r1, g1⟩
      have R1 := hide r1
      have G1 := hide (grown_trans G0.out (nx_refl _ _) g1)
      clear r1 g1 C1 R0 G0
      by_cases h3 : k + 3 ≤ l.length
      · have C2 := hide (next_ok rb b off c l (k + 1) 1 w1 R1.out (by decide) (by omega))
        go_wp2_with fail
        refine C2.out.mono ?_
        rintro e w2 ⟨rfl, r2, g2⟩
        have C3 := hide (next_ok rb b off c l (k + 1 + 1) 1 w2 r2 (by decide) (by omega))
        have G2 := hide (grown_trans G1.out (nx_refl _ _) g2)
        clear r2 g2 C2 R1 G1
        go_wp2_with fail
        refine C3.out.mono ?_
        rintro e w3 ⟨rfl, r3, g3⟩
        have R3 := hide r3
        have G3 := hide (grown_trans G2.out (nx_refl _ _) g3)
        clear r3 g3 C3 G2
        have HV1 : Hid (val ((l.drop (k + 1)).take 1) = vb l (k + 1)) := rfl
        have HV2 : Hid (val ((l.drop (k + 1 + 1)).take 1) = vb l (k + 2)) := rfl
        rw [HV1.out, HV2.out]
        have hnl := vb_lt l (k + 2)
        by_cases hov : k + 3 + vb l (k + 2) ≤ l.length
        · have C4 := hide (part_ok rb b off c l (k + 1 + 1 + 1) (vb l (k + 2)) w3 R3.out (by omega))
          have IS : Hid (∀ a', stp a (vb l (k + 1)) ((l.drop (k + 3)).take (vb l (k + 2))) = some a' → Inv l (k + 3 + vb l (k + 2)) a') := fun a' hs => inv_some hlt HIV.out hs
          have IN : Hid (stp a (vb l (k + 1)) ((l.drop (k + 3)).take (vb l (k + 2))) = none → NoAt l) := fun hs => inv_none hlt HIV.out hs
          have hdl : ((l.drop (k + 3)).take (vb l (k + 2))).length < 256 := by rw [List.length_take]; omega
          go_wp2_with fail
          refine C4.out.mono ?_
          rintro e w4 ⟨g, o', rfl, hg, rg, r4, g4⟩
          have RG : Hid (Rdr w4 g b o' (c - (k + 1 + 1 + 1)) ((l.drop (k + 3)).take (vb l (k + 2))) 0) := rg
          have R4 : Hid (Rdr w4 rb b off c l (k + 3 + vb l (k + 2))) := r4
          have G4 := hide (grown_trans G3.out (nx_refl _ _) g4)
          have GN : Hid (wr.heap.size ≤ g ∧ w3.heap.size ≤ g) := ⟨Nat.le_trans G3.out.size hg, hg⟩
          have GL : Hid (g < w4.heap.size) := heap_lt rg.cell
          clear rg r4 g4 C4 R3 G3 HIV hnl hg
          have KK : Hid (k + 3 + vb l (k + 2) ≤ l.length ∧ k < k + 3 + vb l (k + 2)) := ⟨hov, by omega⟩
          clear hov h3 hlt hlt'
          generalize k + 3 + vb l (k + 2) = k4 at *
          generalize (l.drop (k + 3)).take (vb l (k + 2)) = d at *
          generalize vb l (k + 2) = nn at *
          clear HV1 HV2
          generalize vb l (k + 1) = kk at *
          -- what comes behind each case: the reader, the attributes and the frame
          have FIN : Hid (∀ (w5 : World), w4.grownBy w5 (some g) → wr.grownBy w5 (some rb) ∧ Ast w5 (w.heap.size + 2) p a po co ko cp cc ck ∧ Rdr w5 rb b off c l k4 ∧ w5.heap[q]? = some (.cells #[.int .i64 0, .int .i64 0, .int .i64 0, .slice none 0 0, .slice none 0 0, .int .i64 0, .slice none 0 0] 26 (0, 0)) ∧ w.grownBy w5 (some rb)) := by
            intro w5 h5
            have e1 : wr.grownBy w5 (some rb) := grown_trans G4.out (.inr fun j hj => by cases hj; exact GN.out.1) h5
            refine ⟨e1, HA.out.kept e1 HPP.out.2 (by have := HRB.out.1; omega), R4.out.kept h5 (fun e => ?_) (fun e => ?_), (e1.block q QR.out.1 (fun e => QR.out.2 (by simpa using e))).trans HNR.out, grown_trans HGR.out (nx_refl _ _) e1⟩
            · have e' : rb = g := by simpa using e
              have h1 := HRB.out.1; have h2 := GN.out.1; have h3 := HGR.out.size; omega
            · have e' : b = g := by simpa using e
              have h1 := HRB.out.2.1; have h2 := GN.out.1; have h3 := HGR.out.size; omega
          have PUT : Hid (∀ (w5 : World) (a' : At) (po' co' ko' : Option Addr) (cp' cc' ck' o : Nat) (v : Value), w4.grownBy w5 (some g) → Ast (w5.setCell ⟨p, o, none⟩ v) (w.heap.size + 2) p a' po' co' ko' cp' cc' ck' → stp a kk d = some a' → Ast (w5.setCell ⟨p, o, none⟩ v) (w.heap.size + 2) p a' po' co' ko' cp' cc' ck' ∧ Rdr (w5.setCell ⟨p, o, none⟩ v) rb b off c l k4 ∧ (w5.setCell ⟨p, o, none⟩ v).heap[q]? = some (.cells #[.int .i64 0, .int .i64 0, .int .i64 0, .slice none 0 0, .slice none 0 0, .int .i64 0, .slice none 0 0] 26 (0, 0)) ∧ w.grownBy (w5.setCell ⟨p, o, none⟩ v) (some rb) ∧ Inv l k4 a' ∧ (w5.setCell ⟨p, o, none⟩ v).cell? ⟨rb, 1, none⟩ = some (.int .i64 (k4 : Int)) ∧ W.heap.size ≤ (w5.setCell ⟨p, o, none⟩ v).heap.size) := by
            intro w5 a' po' co' ko' cp' cc' ck' o v h5 hA hs
            obtain ⟨e1, e2, e3, e4, e5⟩ := FIN.out w5 h5
            have gp := grown_put w5 p o v
            have r5 : Rdr (w5.setCell ⟨p, o, none⟩ v) rb b off c l k4 := by
              refine e3.kept gp (fun e => HPP.out.2 (by simpa using e.symm)) (fun e => ?_)
              have e' : b = p := by simpa using e
              have h1 := HPP.out.1
              have h2 := HRB.out.2.1
              omega
            refine ⟨hA, r5, (gp.block q (heap_lt e4) (fun e => ?_)).trans e4, grown_own e5 gp (fun j hj => by cases hj; exact Nat.le_of_lt HPP.out.1), IS.out a' hs, (two_cells r5.cell).2.1, Nat.le_trans WRS.out (Nat.le_trans e1.size gp.size)⟩
            have e' : q = p := by simpa using e
            have := HPP.out.1; have := HQ.out; omega
          have KGO : Hid (∀ w5 : World, w5.cell? ⟨rb, 1, none⟩ = some (.int .i64 (k4 : Int)) → l.length - (intOf ((w5.cell? ⟨rb, 1, none⟩).getD undef)).toNat < l.length - (intOf ((wr.cell? ⟨rb, 1, none⟩).getD undef)).toNat) := by
            intro w5 h5
            rw [h5, c1']
            have := KK.out
            simp [intOf]
            omega
          have HPL : Hid (w.heap.size + 2 ≤ w4.heap.size) := Nat.le_trans (Nat.le_trans HSZ.out WRS.out) G4.out.size
          have GUP : Hid (∀ w5 : World, w4.grownBy w5 (some g) → w.grownBy w5 (some rb)) := fun w5 h5 => (FIN.out w5 h5).2.2.2.2
          have FAS : Hid (∀ w5 : World, w4.grownBy w5 (some g) → Ast w5 (w.heap.size + 2) p a po co ko cp cc ck) := fun w5 h5 => (FIN.out w5 h5).2.1
          clear HRB HA HNR HGR QR R4 G4 FIN
          by_cases h1 : kk = 1
          · have e1 : ((kk : Int) == 1) = true := by rw [h1]; rfl
            by_cases hd : 1 ≤ d.length
            · have CX := hide (next_ok g b o' (c - (k + 1 + 1 + 1)) d 0 1 w4 RG.out (by decide) (by omega))
              have HS : Hid (stp a kk d = some { a with og := ((val ((d.drop 0).take 1) : Nat) : Int) }) := by show _ = _; rw [h1]; unfold stp;  rw [if_pos rfl]; rw [if_neg (by omega), List.drop_zero]
              clear h1
              go_wp2_with fail
              refine CX.out.mono ?_
              rintro e w5 ⟨rfl, _, g5⟩
              have A5 := hide (FAS.out w5 g5)
              have PT := PUT.out w5 _ _ _ _ _ _ _ 2 (.int .i64 ((val ((d.drop 0).take 1) : Nat) : Int)) g5 (A5.out.set_og _) HS.out
              clear g5 CX
              generalize val ((d.drop 0).take 1) = nv at *
              obtain ⟨W6, hW6⟩ : ∃ W6, w5.setCell ⟨p, 2, none⟩ (.int .i64 (nv : Int)) = W6 := ⟨_, rfl⟩
              rw [hW6] at PT
              have PT' := hide PT
              obtain ⟨z0, z1, z2, z3, z4, z5, z6⟩ := seven_cells A5.out.cell
              have y := frozen7 A5.out.cell 2
              clear PT CG IS IN PUT GUP FAS HPL RG GN GL
              go_wp2_with fail
              refine ⟨⟨_, k4, po, co, ko, cp, cc, ck, PT'.out.1, PT'.out.2.1, PT'.out.2.2.1, PT'.out.2.2.2.1, PT'.out.2.2.2.2.1, PT'.out.2.2.2.2.2.2⟩, ?_⟩
              first | exact KGO.out _ PT'.out.2.2.2.2.2.1 | (rw [PT'.out.2.2.2.2.2.1, c1']; have := KK.out; simp [intOf]; omega)
            · have CX := hide (next_no g b o' (c - (k + 1 + 1 + 1)) d 0 1 w4 RG.out (by decide) (by omega))
              have HS : Hid (stp a kk d = none) := by show _ = _; rw [h1]; unfold stp;  rw [if_pos rfl]; rw [if_pos (by omega)]
              clear h1
              go_wp2_with fail
              refine CX.out.mono ?_
              rintro e w5 ⟨rfl, g5⟩
              exact ⟨rfl, .inr ⟨rfl, IN.out HS.out, GUP.out w5 g5⟩⟩
          · skip
            by_cases h2 : kk = 2
            · have e1 : ((kk : Int) == 1) = false := by rw [beq_eq_false_iff_ne]; omega
              have e2 : ((kk : Int) == 2) = true := by rw [h2]; rfl
              have CX := hide (path_is g b o' (c - (k + 1 + 1 + 1)) d w4 RG.out)
              have HK := hide h2
              clear h2
              go_wp2_with fail
              refine CX.out.mono ?_
              intro e w5 h5
              rcases h5 with ⟨vv, L, rfl, hL, o5, g5⟩ | ⟨rfl, hL, g5⟩
              · have A5 := hide (FAS.out w5 g5)
                have HS : Hid (stp a kk d = some { a with path := L }) := by show _ = _; rw [HK.out]; unfold stp; rw [if_neg (by decide)]; rw [if_pos rfl]; rw [hL]
                obtain ⟨no, nc, rfl, s5, k5⟩ := ints_own o5
                have PT := PUT.out w5 _ _ _ _ _ _ _ 3 (.slice no L.length nc) g5 (A5.out.set_path L no nc s5 k5 (own_far o5 HPL.out) (pathR_len hL (by omega))) HS.out
                clear g5 CX s5 k5 o5 hL HK
                obtain ⟨W6, hW6⟩ : ∃ W6, w5.setCell ⟨p, 3, none⟩ (.slice no L.length nc) = W6 := ⟨_, rfl⟩
                rw [hW6] at PT
                have PT' := hide PT
                obtain ⟨z0, z1, z2, z3, z4, z5, z6⟩ := seven_cells A5.out.cell
                have y := frozen7 A5.out.cell 3
                clear PT CG IS IN PUT GUP FAS HPL RG GN GL
                go_wp2_with fail
                refine ⟨⟨_, k4, no, co, ko, nc, cc, ck, PT'.out.1, PT'.out.2.1, PT'.out.2.2.1, PT'.out.2.2.2.1, PT'.out.2.2.2.2.1, PT'.out.2.2.2.2.2.2⟩, ?_⟩
                first | exact KGO.out _ PT'.out.2.2.2.2.2.1 | (rw [PT'.out.2.2.2.2.2.1, c1']; have := KK.out; simp [intOf]; omega)
              · have HS : Hid (stp a kk d = none) := by show _ = _; rw [HK.out]; unfold stp; rw [if_neg (by decide)]; rw [if_pos rfl]; rw [hL]
                exact ⟨rfl, .inr ⟨rfl, IN.out HS.out, GUP.out w5 g5⟩⟩
            · skip
              by_cases h4 : kk = 4
              · have e1 : ((kk : Int) == 1) = false := by rw [beq_eq_false_iff_ne]; omega
                have e2 : ((kk : Int) == 2) = false := by rw [beq_eq_false_iff_ne]; omega
                have e4 : ((kk : Int) == 4) = true := by rw [h4]; rfl
                by_cases hd : 4 ≤ d.length
                · have CX := hide (next_ok g b o' (c - (k + 1 + 1 + 1)) d 0 4 w4 RG.out (by decide) (by omega))
                  have HS : Hid (stp a kk d = some { a with md := ((val ((d.drop 0).take 4) : Nat) : Int) }) := by show _ = _; rw [h4]; unfold stp; rw [if_neg (by decide)]; rw [if_neg (by decide)]; rw [if_pos rfl]; rw [if_neg (by omega), List.drop_zero]
                  clear h4
                  go_wp2_with fail
                  refine CX.out.mono ?_
                  rintro e w5 ⟨rfl, _, g5⟩
                  have A5 := hide (FAS.out w5 g5)
                  have PT := PUT.out w5 _ _ _ _ _ _ _ 1 (.int .i64 ((val ((d.drop 0).take 4) : Nat) : Int)) g5 (A5.out.set_md _) HS.out
                  clear g5 CX
                  generalize val ((d.drop 0).take 4) = nv at *
                  obtain ⟨W6, hW6⟩ : ∃ W6, w5.setCell ⟨p, 1, none⟩ (.int .i64 (nv : Int)) = W6 := ⟨_, rfl⟩
                  rw [hW6] at PT
                  have PT' := hide PT
                  obtain ⟨z0, z1, z2, z3, z4, z5, z6⟩ := seven_cells A5.out.cell
                  have y := frozen7 A5.out.cell 1
                  clear PT CG IS IN PUT GUP FAS HPL RG GN GL
                  go_wp2_with fail
                  refine ⟨⟨_, k4, po, co, ko, cp, cc, ck, PT'.out.1, PT'.out.2.1, PT'.out.2.2.1, PT'.out.2.2.2.1, PT'.out.2.2.2.2.1, PT'.out.2.2.2.2.2.2⟩, ?_⟩
                  first | exact KGO.out _ PT'.out.2.2.2.2.2.1 | (rw [PT'.out.2.2.2.2.2.1, c1']; have := KK.out; simp [intOf]; omega)
                · have CX := hide (next_no g b o' (c - (k + 1 + 1 + 1)) d 0 4 w4 RG.out (by decide) (by omega))
                  have HS : Hid (stp a kk d = none) := by show _ = _; rw [h4]; unfold stp; rw [if_neg (by decide)]; rw [if_neg (by decide)]; rw [if_pos rfl]; rw [if_pos (by omega)]
                  clear h4
                  go_wp2_with fail
                  refine CX.out.mono ?_
                  rintro e w5 ⟨rfl, g5⟩
                  exact ⟨rfl, .inr ⟨rfl, IN.out HS.out, GUP.out w5 g5⟩⟩
              · skip
                by_cases h5 : kk = 5
                · have e1 : ((kk : Int) == 1) = false := by rw [beq_eq_false_iff_ne]; omega
                  have e2 : ((kk : Int) == 2) = false := by rw [beq_eq_false_iff_ne]; omega
                  have e4 : ((kk : Int) == 4) = false := by rw [beq_eq_false_iff_ne]; omega
                  have e5 : ((kk : Int) == 5) = true := by rw [h5]; rfl
                  by_cases hd : 4 ≤ d.length
                  · have CX := hide (next_ok g b o' (c - (k + 1 + 1 + 1)) d 0 4 w4 RG.out (by decide) (by omega))
                    have HS : Hid (stp a kk d = some { a with pf := ((val ((d.drop 0).take 4) : Nat) : Int) }) := by show _ = _; rw [h5]; unfold stp; rw [if_neg (by decide)]; rw [if_neg (by decide)]; rw [if_neg (by decide)]; rw [if_pos rfl]; rw [if_neg (by omega), List.drop_zero]
                    clear h5
                    go_wp2_with fail
                    refine CX.out.mono ?_
                    rintro e w5 ⟨rfl, _, g5⟩
                    have A5 := hide (FAS.out w5 g5)
                    have PT := PUT.out w5 _ _ _ _ _ _ _ 0 (.int .i64 ((val ((d.drop 0).take 4) : Nat) : Int)) g5 (A5.out.set_pf _) HS.out
                    clear g5 CX
                    generalize val ((d.drop 0).take 4) = nv at *
                    obtain ⟨W6, hW6⟩ : ∃ W6, w5.setCell ⟨p, 0, none⟩ (.int .i64 (nv : Int)) = W6 := ⟨_, rfl⟩
                    rw [hW6] at PT
                    have PT' := hide PT
                    obtain ⟨z0, z1, z2, z3, z4, z5, z6⟩ := seven_cells A5.out.cell
                    have y := frozen7 A5.out.cell 0
                    clear PT CG IS IN PUT GUP FAS HPL RG GN GL
                    go_wp2_with fail
                    refine ⟨⟨_, k4, po, co, ko, cp, cc, ck, PT'.out.1, PT'.out.2.1, PT'.out.2.2.1, PT'.out.2.2.2.1, PT'.out.2.2.2.2.1, PT'.out.2.2.2.2.2.2⟩, ?_⟩
                    first | exact KGO.out _ PT'.out.2.2.2.2.2.1 | (rw [PT'.out.2.2.2.2.2.1, c1']; have := KK.out; simp [intOf]; omega)
                  · have CX := hide (next_no g b o' (c - (k + 1 + 1 + 1)) d 0 4 w4 RG.out (by decide) (by omega))
                    have HS : Hid (stp a kk d = none) := by show _ = _; rw [h5]; unfold stp; rw [if_neg (by decide)]; rw [if_neg (by decide)]; rw [if_neg (by decide)]; rw [if_pos rfl]; rw [if_pos (by omega)]
                    clear h5
                    go_wp2_with fail
                    refine CX.out.mono ?_
                    rintro e w5 ⟨rfl, g5⟩
                    exact ⟨rfl, .inr ⟨rfl, IN.out HS.out, GUP.out w5 g5⟩⟩
                · skip
                  by_cases h8 : kk = 8
                  · have e1 : ((kk : Int) == 1) = false := by rw [beq_eq_false_iff_ne]; omega
                    have e2 : ((kk : Int) == 2) = false := by rw [beq_eq_false_iff_ne]; omega
                    have e4 : ((kk : Int) == 4) = false := by rw [beq_eq_false_iff_ne]; omega
                    have e5 : ((kk : Int) == 5) = false := by rw [beq_eq_false_iff_ne]; omega
                    have e8 : ((kk : Int) == 8) = true := by rw [h8]; rfl
                    have CX := hide (comms_is g b o' (c - (k + 1 + 1 + 1)) d w4 RG.out)
                    have HK := hide h8
                    clear h8
                    go_wp2_with fail
                    refine CX.out.mono ?_
                    intro e w5 h5
                    rcases h5 with ⟨vv, i, rfl, hL, o5, g5⟩ | ⟨rfl, hL, g5⟩
                    · have A5 := hide (FAS.out w5 g5)
                      have HS : Hid (stp a kk d = some { a with comms := (commsI d i) }) := by show _ = _; rw [HK.out]; unfold stp; rw [if_neg (by decide)]; rw [if_neg (by decide)]; rw [if_neg (by decide)]; rw [if_neg (by decide)]; rw [if_pos rfl]; rw [if_pos (by omega), show d.length / 4 = i by omega]
                      obtain ⟨no, nc, rfl, s5, k5⟩ := comms_own o5
                      have PT := PUT.out w5 _ _ _ _ _ _ _ 4 (.slice no (commsI d i).length nc) g5 (A5.out.set_comms (commsI d i) no nc s5 k5 (own_far o5 HPL.out) (by rw [commsI_length]; omega)) HS.out
                      clear g5 CX s5 k5 o5 hL HK
                      generalize commsI d i = L at *
                      obtain ⟨W6, hW6⟩ : ∃ W6, w5.setCell ⟨p, 4, none⟩ (.slice no L.length nc) = W6 := ⟨_, rfl⟩
                      rw [hW6] at PT
                      have PT' := hide PT
                      obtain ⟨z0, z1, z2, z3, z4, z5, z6⟩ := seven_cells A5.out.cell
                      have y := frozen7 A5.out.cell 4
                      clear PT CG IS IN PUT GUP FAS HPL RG GN GL
                      go_wp2_with fail
                      refine ⟨⟨_, k4, po, no, ko, cp, nc, ck, PT'.out.1, PT'.out.2.1, PT'.out.2.2.1, PT'.out.2.2.2.1, PT'.out.2.2.2.2.1, PT'.out.2.2.2.2.2.2⟩, ?_⟩
                      first | exact KGO.out _ PT'.out.2.2.2.2.2.1 | (rw [PT'.out.2.2.2.2.2.1, c1']; have := KK.out; simp [intOf]; omega)
                    · have HS : Hid (stp a kk d = none) := by show _ = _; rw [HK.out]; unfold stp; rw [if_neg (by decide)]; rw [if_neg (by decide)]; rw [if_neg (by decide)]; rw [if_neg (by decide)]; rw [if_pos rfl]; rw [if_neg hL]
                      exact ⟨rfl, .inr ⟨rfl, IN.out HS.out, GUP.out w5 g5⟩⟩
                  · skip
                    by_cases h9 : kk = 9
                    · have e1 : ((kk : Int) == 1) = false := by rw [beq_eq_false_iff_ne]; omega
                      have e2 : ((kk : Int) == 2) = false := by rw [beq_eq_false_iff_ne]; omega
                      have e4 : ((kk : Int) == 4) = false := by rw [beq_eq_false_iff_ne]; omega
                      have e5 : ((kk : Int) == 5) = false := by rw [beq_eq_false_iff_ne]; omega
                      have e8 : ((kk : Int) == 8) = false := by rw [beq_eq_false_iff_ne]; omega
                      have e9 : ((kk : Int) == 9) = true := by rw [h9]; rfl
                      by_cases hd : 4 ≤ d.length
                      · have CX := hide (next_ok g b o' (c - (k + 1 + 1 + 1)) d 0 4 w4 RG.out (by decide) (by omega))
                        have HS : Hid (stp a kk d = some { a with fr := ((val ((d.drop 0).take 4) : Nat) : Int) }) := by show _ = _; rw [h9]; unfold stp; rw [if_neg (by decide)]; rw [if_neg (by decide)]; rw [if_neg (by decide)]; rw [if_neg (by decide)]; rw [if_neg (by decide)]; rw [if_pos rfl]; rw [if_neg (by omega), List.drop_zero]
                        clear h9
                        go_wp2_with fail
                        refine CX.out.mono ?_
                        rintro e w5 ⟨rfl, _, g5⟩
                        have A5 := hide (FAS.out w5 g5)
                        have PT := PUT.out w5 _ _ _ _ _ _ _ 5 (.int .i64 ((val ((d.drop 0).take 4) : Nat) : Int)) g5 (A5.out.set_fr _) HS.out
                        clear g5 CX
                        generalize val ((d.drop 0).take 4) = nv at *
                        obtain ⟨W6, hW6⟩ : ∃ W6, w5.setCell ⟨p, 5, none⟩ (.int .i64 (nv : Int)) = W6 := ⟨_, rfl⟩
                        rw [hW6] at PT
                        have PT' := hide PT
                        obtain ⟨z0, z1, z2, z3, z4, z5, z6⟩ := seven_cells A5.out.cell
                        have y := frozen7 A5.out.cell 5
                        clear PT CG IS IN PUT GUP FAS HPL RG GN GL
                        go_wp2_with fail
                        refine ⟨⟨_, k4, po, co, ko, cp, cc, ck, PT'.out.1, PT'.out.2.1, PT'.out.2.2.1, PT'.out.2.2.2.1, PT'.out.2.2.2.2.1, PT'.out.2.2.2.2.2.2⟩, ?_⟩
                        first | exact KGO.out _ PT'.out.2.2.2.2.2.1 | (rw [PT'.out.2.2.2.2.2.1, c1']; have := KK.out; simp [intOf]; omega)
                      · have CX := hide (next_no g b o' (c - (k + 1 + 1 + 1)) d 0 4 w4 RG.out (by decide) (by omega))
                        have HS : Hid (stp a kk d = none) := by show _ = _; rw [h9]; unfold stp; rw [if_neg (by decide)]; rw [if_neg (by decide)]; rw [if_neg (by decide)]; rw [if_neg (by decide)]; rw [if_neg (by decide)]; rw [if_pos rfl]; rw [if_pos (by omega)]
                        clear h9
                        go_wp2_with fail
                        refine CX.out.mono ?_
                        rintro e w5 ⟨rfl, g5⟩
                        exact ⟨rfl, .inr ⟨rfl, IN.out HS.out, GUP.out w5 g5⟩⟩
                    · skip
                      by_cases h10 : kk = 10
                      · have e1 : ((kk : Int) == 1) = false := by rw [beq_eq_false_iff_ne]; omega
                        have e2 : ((kk : Int) == 2) = false := by rw [beq_eq_false_iff_ne]; omega
                        have e4 : ((kk : Int) == 4) = false := by rw [beq_eq_false_iff_ne]; omega
                        have e5 : ((kk : Int) == 5) = false := by rw [beq_eq_false_iff_ne]; omega
                        have e8 : ((kk : Int) == 8) = false := by rw [beq_eq_false_iff_ne]; omega
                        have e9 : ((kk : Int) == 9) = false := by rw [beq_eq_false_iff_ne]; omega
                        have e10 : ((kk : Int) == 10) = true := by rw [h10]; rfl
                        have CX := hide (numbers_is g b o' (c - (k + 1 + 1 + 1)) d 0 4 w4 RG.out (by decide) (by decide))
                        have HK := hide h10
                        clear h10
                        go_wp2_with fail
                        refine CX.out.mono ?_
                        intro e w5 h5
                        rcases h5 with ⟨vv, i, rfl, hL, o5, g5⟩ | ⟨rfl, hL, g5⟩
                        · rw [List.drop_zero] at hL
                          rw [List.drop_zero] at o5
                          have A5 := hide (FAS.out w5 g5)
                          have HS : Hid (stp a kk d = some { a with cl := (numsI 4 d i) }) := by show _ = _; rw [HK.out]; unfold stp; rw [if_neg (by decide)]; rw [if_neg (by decide)]; rw [if_neg (by decide)]; rw [if_neg (by decide)]; rw [if_neg (by decide)]; rw [if_neg (by decide)]; rw [if_pos rfl]; rw [if_pos (by omega), show d.length / 4 = i by omega]
                          obtain ⟨no, nc, rfl, s5, k5⟩ := ints_own o5
                          have PT := PUT.out w5 _ _ _ _ _ _ _ 6 (.slice no (numsI 4 d i).length nc) g5 (A5.out.set_cl (numsI 4 d i) no nc s5 k5 (own_far o5 HPL.out) (by rw [numsI_length]; omega)) HS.out
                          clear g5 CX s5 k5 o5 hL HK
                          generalize numsI 4 d i = L at *
                          obtain ⟨W6, hW6⟩ : ∃ W6, w5.setCell ⟨p, 6, none⟩ (.slice no L.length nc) = W6 := ⟨_, rfl⟩
                          rw [hW6] at PT
                          have PT' := hide PT
                          obtain ⟨z0, z1, z2, z3, z4, z5, z6⟩ := seven_cells A5.out.cell
                          have y := frozen7 A5.out.cell 6
                          clear PT CG IS IN PUT GUP FAS HPL RG GN GL
                          go_wp2_with fail
                          refine ⟨⟨_, k4, po, co, no, cp, cc, nc, PT'.out.1, PT'.out.2.1, PT'.out.2.2.1, PT'.out.2.2.2.1, PT'.out.2.2.2.2.1, PT'.out.2.2.2.2.2.2⟩, ?_⟩
                          first | exact KGO.out _ PT'.out.2.2.2.2.2.1 | (rw [PT'.out.2.2.2.2.2.1, c1']; have := KK.out; simp [intOf]; omega)
                        · rw [List.drop_zero] at hL
                          have HS : Hid (stp a kk d = none) := by show _ = _; rw [HK.out]; unfold stp; rw [if_neg (by decide)]; rw [if_neg (by decide)]; rw [if_neg (by decide)]; rw [if_neg (by decide)]; rw [if_neg (by decide)]; rw [if_neg (by decide)]; rw [if_pos rfl]; rw [if_neg hL]
                          exact ⟨rfl, .inr ⟨rfl, IN.out HS.out, GUP.out w5 g5⟩⟩
                      · skip
                        have e1 : ((kk : Int) == 1) = false := by rw [beq_eq_false_iff_ne]; omega
                        have e2 : ((kk : Int) == 2) = false := by rw [beq_eq_false_iff_ne]; omega
                        have e4 : ((kk : Int) == 4) = false := by rw [beq_eq_false_iff_ne]; omega
                        have e5 : ((kk : Int) == 5) = false := by rw [beq_eq_false_iff_ne]; omega
                        have e8 : ((kk : Int) == 8) = false := by rw [beq_eq_false_iff_ne]; omega
                        have e9 : ((kk : Int) == 9) = false := by rw [beq_eq_false_iff_ne]; omega
                        have e10 : ((kk : Int) == 10) = false := by rw [beq_eq_false_iff_ne]; omega
                        have HS : Hid (stp a kk d = none) := by show _ = _; unfold stp; rw [if_neg h1, if_neg h2, if_neg h4, if_neg h5, if_neg h8, if_neg h9, if_neg h10]
                        clear h1 h2 h4 h5 h8 h9 h10
                        go_wp2_with fail
                        refine (CG.out _).mono ?_
                        rintro e w5 ⟨rfl, rfl⟩
                        exact ⟨rfl, .inr ⟨rfl, IN.out HS.out, GUP.out w4 (grown_refl _ _)⟩⟩
        · have C4 := hide (part_no rb b off c l (k + 1 + 1 + 1) (vb l (k + 2)) w3 R3.out (by omega) (by omega))
          have HN := hide (inv_short hlt HIV.out (.inr (by omega)))
          go_wp2_with fail
          refine C4.out.mono ?_
          rintro e w4 ⟨rfl, g4⟩
          exact ⟨rfl, .inr ⟨rfl, HN.out, grown_trans HGR.out (nx_refl _ _) (grown_trans G3.out (nx_refl _ _) g4)⟩⟩
      · have HN := hide (inv_short hlt HIV.out (.inl (by omega)))
        by_cases h2 : k + 2 ≤ l.length
        · have C2 := hide (next_ok rb b off c l (k + 1) 1 w1 R1.out (by decide) (by omega))
          go_wp2_with fail
          refine C2.out.mono ?_
          rintro e w2 ⟨rfl, r2, g2⟩
          have C3 := hide (next_no rb b off c l (k + 1 + 1) 1 w2 r2 (by decide) (by omega))
          have G2 := hide (grown_trans G1.out (nx_refl _ _) g2)
          clear r2 g2 C2 R1 G1
          go_wp2_with fail
          refine C3.out.mono ?_
          rintro e w3 ⟨rfl, g3⟩
          exact ⟨rfl, .inr ⟨rfl, HN.out, grown_trans HGR.out (nx_refl _ _) (grown_trans G2.out (nx_refl _ _) g3)⟩⟩
        · have C2 := hide (next_no rb b off c l (k + 1) 1 w1 R1.out (by decide) (by omega))
          go_wp2_with fail
          refine C2.out.mono ?_
          rintro e w2 ⟨rfl, g2⟩
          exact ⟨rfl, .inr ⟨rfl, HN.out, grown_trans HGR.out (nx_refl _ _) (grown_trans G1.out (nx_refl _ _) g2)⟩⟩
    · obtain rfl : k = l.length := by omega
      have hlt' : ¬ (0 : Int) < (l.length : Int) - (l.length : Int) := by omega
      have A1 := hide (HA.out.kept G0.out HPP.out.2 (by have := HRB.out.1; omega))
      have N1 := hide ((G0.out.block q QR.out.1 (fun e => QR.out.2 (by simpa using e))).trans HNR.out)
      have HE := hide (inv_end HIV.out)
      have GF := hide (grown_trans HGR.out (nx_refl _ _) G0.out)
      obtain ⟨d0, d1, d2, d3, d4, d5, d6⟩ := seven_cells A1.out.cell
      obtain ⟨z0, z1, z2, z3, z4, z5, z6⟩ := seven_cells N1.out
      have y0 := frozen7 N1.out 0
      have y1 := frozen7 N1.out 1
      have y2 := frozen7 N1.out 2
      have y3 := frozen7 N1.out 3
      have y4 := frozen7 N1.out 4
      have y5 := frozen7 N1.out 5
      have y6 := frozen7 N1.out 6
      clear hlt R0 HA HNR HIV HGR G0
      go_wp2_with fail
      have g7 := grown_set (grown_set (grown_set (grown_set (grown_set (grown_set (grown_put W0 q 0 (.int .i64 a.pf)) 1 (.int .i64 a.md)) 2 (.int .i64 a.og)) 3 (.slice po a.path.length cp)) 4 (.slice co a.comms.length cc)) 5 (.int .i64 a.fr)) 6 (.slice ko a.cl.length ck)
      have A7 := (A1.out.m.kept g7 (by have := HQ.out; omega)).down (by omega : w.heap.size ≤ w.heap.size + 2)
      refine bodyPost_ret (v := .agg #[.int .i64 a.pf, .int .i64 a.md, .int .i64 a.og, .slice po a.path.length cp, .slice co a.comms.length cc, .int .i64 a.fr, .slice ko a.cl.length ck]) ?_ rfl (.inl ⟨a, po, co, ko, cp, cc, ck, rfl, A7, HE.out, grown_own GF.out g7 (fun j hj => by cases hj; rw [HQ.out]; exact Nat.le_refl _)⟩)
      simp [results, Try.results62, go_sem, z0, z1, z2, z3, z4, z5, z6]
end Go.Proofs.Ytkhmhmopcofejaa
