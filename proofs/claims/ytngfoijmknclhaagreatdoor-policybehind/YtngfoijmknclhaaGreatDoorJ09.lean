/- Texts. -/
import Derived.Test.YtngfoijmknclhaaGreatDoorJ07
import Derived.Test.YtngfoijmknclhaaGreatDoorJ08
namespace Go.Proofs.YtngfoijmknclhaaGreatDoor.Pl
open Go.RowKit
/-- A rule's five cells. -/
def Ad.encR (r : Ad.R) : List Value := [.int .u32 r.1, .int .i64 r.2.1, .int .i64 r.2.2.1, .int .i64 r.2.2.2.1, .bool r.2.2.2.2]

set_option maxHeartbeats 1000000 in
theorem rmay_any (a b g l : Int) (p : Bool) (w : World) (ha : 0 ≤ a) (ha2 : a ≤ 4294967295) :
    Calls Tryz.prog 136 #[.agg #[.int .u32 a, .int .i64 b, .int .i64 g, .int .i64 l, .bool p]] w fun e w' => e = .returned (.bool (Ad.rmay (a, b, g, l, p))) ∧ Below w.heap.size w w' := by
  cases hm : Ad.may a b
  · go_enter Tryz.func136, Tryz.ntmps136
    go_wp2_with fail
    refine (may_is _ _ _ hm _ ha ha2).mono ?_
    rintro e w1 ⟨rfl, hb1⟩
    go_wp2_with fail
    go_ret
    exact ⟨ret_bool (by simp [Ad.rmay, hm]), bthen (balloc (brefl w) _) hb1⟩
  · by_cases h1 : b ≤ g
    · by_cases h2 : g ≤ l
      · go_enter Tryz.func136, Tryz.ntmps136
        go_wp2_with fail
        refine (may_is _ _ _ hm _ ha ha2).mono ?_
        rintro e w1 ⟨rfl, hb1⟩
        obtain ⟨hc1, hf1⟩ := bcell hb1
        go_wp2_with fail
        go_ret
        exact ⟨ret_bool (by simp [Ad.rmay, hm]; omega), bthen (balloc (brefl w) _) hb1⟩
      · have hd : decide (g ≤ l) = false := by simpa using h2
        go_enter Tryz.func136, Tryz.ntmps136
        go_wp2_with fail
        refine (may_is _ _ _ hm _ ha ha2).mono ?_
        rintro e w1 ⟨rfl, hb1⟩
        obtain ⟨hc1, hf1⟩ := bcell hb1
        go_wp2_with fail
        go_ret
        exact ⟨ret_bool (by simp [Ad.rmay, hm]; omega), bthen (balloc (brefl w) _) hb1⟩
    · have hd : decide (b ≤ g) = false := by simpa using h1
      go_enter Tryz.func136, Tryz.ntmps136
      go_wp2_with fail
      refine (may_is _ _ _ hm _ ha ha2).mono ?_
      rintro e w1 ⟨rfl, hb1⟩
      obtain ⟨hc1, hf1⟩ := bcell hb1
      go_wp2_with fail
      go_ret
      exact ⟨ret_bool (by simp [Ad.rmay, hm]; omega), bthen (balloc (brefl w) _) hb1⟩

theorem rmay_is (a b g l : Int) (p r : Bool) (h : Ad.rmay (a, b, g, l, p) = r) (w : World) (ha : 0 ≤ a) (ha2 : a ≤ 4294967295) :
    Calls Tryz.prog 136 #[.agg #[.int .u32 a, .int .i64 b, .int .i64 g, .int .i64 l, .bool p]] w fun e w' => e = .returned (.bool r) ∧ Below w.heap.size w w' := by
  rw [← h]; exact rmay_any a b g l p w ha ha2

set_option maxHeartbeats 1000000 in
theorem met_any (a b g l c d : Int) (p : Bool) (w : World) (ha : 0 ≤ a) (ha2 : a ≤ 4294967295) (hc : 0 ≤ c) (hc2 : c ≤ 4294967295) :
    Calls Tryz.prog 139 #[.agg #[.int .u32 a, .int .i64 b, .int .i64 g, .int .i64 l, .bool p], .agg #[.int .u32 c, .int .i64 d]] w fun e w' => e = .returned (.bool (Ad.met (a, b, g, l, p) c d)) ∧ Below w.heap.size w w' := by
  cases hm : Ad.rmay (a, b, g, l, p)
  · go_enter Tryz.func139, Tryz.ntmps139
    go_wp2_with fail
    refine (rmay_is _ _ _ _ _ _ hm _ ha ha2).mono ?_
    rintro e w1 ⟨rfl, hb1⟩
    go_wp2_with fail
    go_ret
    exact ⟨ret_bool (by simp [Ad.met, hm]), bthen (balloc (balloc (brefl w) _) _) hb1⟩
  · cases hk : Ad.contains a b c d
    · go_enter Tryz.func139, Tryz.ntmps139
      go_wp2_with fail
      refine (rmay_is _ _ _ _ _ _ hm _ ha ha2).mono ?_
      rintro e w1 ⟨rfl, hb1⟩
      obtain ⟨hc1, hf1⟩ := bcell hb1
      go_wp2_with fail
      refine (contains_is _ _ _ _ _ hk _ ha ha2 hc hc2).mono ?_
      rintro e w2 ⟨rfl, hb2⟩
      go_wp2_with fail
      go_ret
      exact ⟨ret_bool (by simp [Ad.met, hk]), bthen (bthen (balloc (balloc (brefl w) _) _) hb1) hb2⟩
    · by_cases h1 : g ≤ d
      · go_enter Tryz.func139, Tryz.ntmps139
        go_wp2_with fail
        refine (rmay_is _ _ _ _ _ _ hm _ ha ha2).mono ?_
        rintro e w1 ⟨rfl, hb1⟩
        obtain ⟨hc1, hf1⟩ := bcell hb1
        have hz : w.heap.size + 1 < w1.heap.size := by have := hb1.size; simp at this; omega
        have hz0 : w.heap.size < w1.heap.size := by omega
        go_wp2_with fail
        refine (contains_is _ _ _ _ _ hk _ ha ha2 hc hc2).mono ?_
        rintro e w2 ⟨rfl, hb2⟩
        obtain ⟨hc2', hf2⟩ := bcell hb2
        go_wp2_with fail
        go_ret
        exact ⟨ret_bool (by simp [Ad.met, hm, hk]; omega), bthen (bthen (balloc (balloc (brefl w) _) _) hb1) hb2⟩
      · have hd : decide (g ≤ d) = false := by simpa using h1
        go_enter Tryz.func139, Tryz.ntmps139
        go_wp2_with fail
        refine (rmay_is _ _ _ _ _ _ hm _ ha ha2).mono ?_
        rintro e w1 ⟨rfl, hb1⟩
        obtain ⟨hc1, hf1⟩ := bcell hb1
        have hz : w.heap.size + 1 < w1.heap.size := by have := hb1.size; simp at this; omega
        have hz0 : w.heap.size < w1.heap.size := by omega
        go_wp2_with fail
        refine (contains_is _ _ _ _ _ hk _ ha ha2 hc hc2).mono ?_
        rintro e w2 ⟨rfl, hb2⟩
        obtain ⟨hc2', hf2⟩ := bcell hb2
        go_wp2_with fail
        go_ret
        exact ⟨ret_bool (by simp [Ad.met, hm, hk]; omega), bthen (bthen (balloc (balloc (brefl w) _) _) hb1) hb2⟩

theorem met_is (a b g l c d : Int) (p r : Bool) (h : Ad.met (a, b, g, l, p) c d = r) (w : World) (ha : 0 ≤ a) (ha2 : a ≤ 4294967295) (hc : 0 ≤ c) (hc2 : c ≤ 4294967295) :
    Calls Tryz.prog 139 #[.agg #[.int .u32 a, .int .i64 b, .int .i64 g, .int .i64 l, .bool p], .agg #[.int .u32 c, .int .i64 d]] w fun e w' => e = .returned (.bool r) ∧ Below w.heap.size w w' := by
  rw [← h]; exact met_any a b g l c d p w ha ha2 hc hc2

end Go.Proofs.YtngfoijmknclhaaGreatDoor.Pl
namespace Go.Proofs.YtngfoijmknclhaaGreatDoor.Pl
open Go.RowKit
/-- A prefix's two cells read there, in this world; and its block is an old one. -/
def Two (w : World) (n : Nat) (a b : Int) : Prop := w.cell? ⟨n, 0, none⟩ = some (.int .u32 a) ∧ w.cell? ⟨n, 1, none⟩ = some (.int .i64 b) ∧ n < w.heap.size ∧ n < w.heap.size + 1
theorem two_of {W : World} {n : Nat} {a b : Int} (h0 : W.cell? ⟨n, 0, none⟩ = some (.int .u32 a)) (h1 : W.cell? ⟨n, 1, none⟩ = some (.int .i64 b)) : Two W n a b :=
  ⟨h0, h1, block_lt_of_cell h0, Nat.lt_succ_of_lt (block_lt_of_cell h0)⟩
theorem two_below {W w1 : World} {n : Nat} {a b : Int} (hb : Below W.heap.size W w1) (h0 : W.cell? ⟨n, 0, none⟩ = some (.int .u32 a)) (h1 : W.cell? ⟨n, 1, none⟩ = some (.int .i64 b)) : Two w1 n a b :=
  two_of ((hb.cell (p := ⟨n, 0, none⟩) (block_lt_of_cell h0)).trans h0) ((hb.cell (p := ⟨n, 1, none⟩) (block_lt_of_cell h1)).trans h1)

end Go.Proofs.YtngfoijmknclhaaGreatDoor.Pl
namespace Go.Proofs.YtngfoijmknclhaaGreatDoor.Pl
open Go.RowKit
def Ad.cellsR (l : List Ad.R) : List Value := l.flatMap Ad.encR
def Ad.fitsR (l : List Ad.R) : Prop := ∀ x ∈ l, 0 ≤ x.1 ∧ x.1 ≤ 4294967295
def Ad.readsR (w : World) (b off : Nat) (l : List Ad.R) : Prop := ∀ j u, (Ad.cellsR l)[j]? = some u → w.cell? ⟨b, off + j, none⟩ = some u

theorem Ad.cellsR_length (l : List Ad.R) : (Ad.cellsR l).length = l.length * 5 := by
  induction l with
  | nil => rfl
  | cons x l ih => simp only [Ad.cellsR, List.flatMap_cons, List.length_append, List.length_cons] at *; simp only [Ad.encR, List.length_cons, List.length_nil]; omega

theorem Ad.cellsR_get (l : List Ad.R) (i j : Nat) (h : i < l.length) (hj : j < 5) : (Ad.cellsR l)[i * 5 + j]? = (Ad.encR l[i])[j]? := by
  induction l generalizing i with
  | nil => simp at h
  | cons x l ih =>
    cases i with
    | zero =>
      simp only [Ad.cellsR, List.flatMap_cons, Nat.zero_mul, Nat.zero_add, List.getElem_cons_zero]
      rw [List.getElem?_append_left (by simp [Ad.encR]; omega)]
    | succ i =>
      have := ih i (by simpa using h)
      simp only [Ad.cellsR, List.flatMap_cons, List.getElem_cons_succ] at *
      rw [List.getElem?_append_right (by simp [Ad.encR]; omega)]
      rw [← this]
      congr 1
      simp [Ad.encR]; omega

theorem Ad.readsR_at {w : World} {b off : Nat} {l : List Ad.R} (h : Ad.readsR w b off l) (i : Nat) (hi : i < l.length) :
    w.cell? ⟨b, off + i * 5, none⟩ = some (.int .u32 l[i].1) ∧ w.cell? ⟨b, off + i * 5 + 1, none⟩ = some (.int .i64 l[i].2.1) ∧ w.cell? ⟨b, off + i * 5 + 2, none⟩ = some (.int .i64 l[i].2.2.1) ∧ w.cell? ⟨b, off + i * 5 + 3, none⟩ = some (.int .i64 l[i].2.2.2.1) ∧ w.cell? ⟨b, off + i * 5 + 4, none⟩ = some (.bool l[i].2.2.2.2) := by
  have g := fun j hj => Ad.cellsR_get l i j hi hj
  have k := fun j u hj (hu : (Ad.encR l[i])[j]? = some u) => h (i * 5 + j) u ((g j hj).trans hu)
  refine ⟨k 0 _ (by decide) rfl, ?_, ?_, ?_, ?_⟩
  · rw [Nat.add_assoc]; exact k 1 _ (by decide) rfl
  · rw [Nat.add_assoc]; exact k 2 _ (by decide) rfl
  · rw [Nat.add_assoc]; exact k 3 _ (by decide) rfl
  · rw [Nat.add_assoc]; exact k 4 _ (by decide) rfl

theorem Ad.readsR_below {w w' : World} {b off : Nat} {l : List Ad.R} (h : Ad.readsR w b off l) (hb : Below w.heap.size w w') : Ad.readsR w' b off l := by
  intro j u hu
  have := h j u hu
  rw [hb.cell (p := ⟨b, off + j, none⟩) (block_lt_of_cell this)]
  exact this

/-- A slice at which a list of rules lies: nil has none. -/
def Ad.slotR (w : World) (ao : Option Addr) (l : List Ad.R) : Prop := l = [] ∨ ∃ b off, ao = some ⟨b, off, none⟩ ∧ Ad.readsR w b off l

theorem Ad.slotR_below {w w' : World} {ao : Option Addr} {l : List Ad.R} (h : Ad.slotR w ao l) (hb : Below w.heap.size w w') : Ad.slotR w' ao l := by
  rcases h with h | ⟨b, off, h, hr⟩
  · exact .inl h
  · exact .inr ⟨b, off, h, Ad.readsR_below hr hb⟩

theorem Ad.slotR_at {w : World} {ao : Option Addr} {l : List Ad.R} (h : Ad.slotR w ao l) {k : Nat} (hk : k < l.length) : ∃ b off, ao = some ⟨b, off, none⟩ ∧ Ad.readsR w b off l := by
  rcases h with h | h
  · rw [h] at hk; simp at hk
  · exact h

theorem Ad.rwhy_ok (l : List Ad.R) (h : l.length ≤ 16) (ha : ∀ j (hj : j < l.length), Ad.rmay l[j] = true) : Ad.rwhy l = 0 := by
  have hn : l.all Ad.rmay = true := by
    rw [List.all_eq_true]
    intro x hx
    obtain ⟨j, hj, rfl⟩ := List.getElem_of_mem hx
    exact ha j hj
  rw [Ad.rwhy, if_neg (by omega), if_pos hn]

theorem Ad.rwhy_bad (l : List Ad.R) (h : l.length ≤ 16) (k : Nat) (hk : k < l.length) (ha : Ad.rmay l[k] = false) : Ad.rwhy l = 1 := by
  have hn : l.all Ad.rmay = false := by
    rw [List.all_eq_false]
    exact ⟨l[k], List.getElem_mem hk, by simp [ha]⟩
  rw [Ad.rwhy, if_neg (by omega), if_neg (by rw [hn]; decide)]

set_option maxHeartbeats 1000000 in
theorem pmay_row (ao : Option Addr) (cap : Nat) (l : List Ad.R) (w : World) (hR : Ad.slotR w ao l) (hf : Ad.fitsR l) (hlen : l.length ≤ 16) :
    Calls Tryz.prog 99 #[.slice ao l.length cap] w fun e w' => e = .returned (.int .i64 (Ad.rwhy l)) ∧ Below w.heap.size w w' := by
  have HR := hide hR
  have HF := hide hf
  clear hR hf
  have hgt : ¬ (16 : Int) < (l.length : Int) := by omega
  go_enter Tryz.func99, Tryz.ntmps99
  go_wp2_with fail
  go_loopw [10] (fun i wr => ∃ k : Nat, k ≤ l.length ∧ i = .int .i64 k ∧ (∀ j (hj : j < l.length), j < k → Ad.rmay l[j] = true) ∧ Below w.heap.size w wr) (fun i _ => l.length - (intOf i).toNat)
  case atStart => exact ⟨0, Nat.zero_le _, rfl, fun j _ hj => absurd hj (Nat.not_lt_zero _), brefl w⟩
  case round =>
    obtain ⟨k, hk, rfl, hall, hbr⟩ := hrel
    have HALL := hide hall
    clear hall
    by_cases hlt : k < l.length
    · obtain ⟨b, off, rfl, hrd⟩ := Ad.slotR_at HR.out hlt
      obtain ⟨e0, e1, e2, e3, e4⟩ := Ad.readsR_at (Ad.readsR_below hrd hbr) k hlt
      clear hrd
      have hx := hide (HF.out l[k] (List.getElem_mem hlt))
      generalize hxx : l[k] = x at *
      obtain ⟨a, d, g, t, p⟩ := x
      have HX := hide hxx
      clear hxx
      have hx0 : 0 ≤ a := hx.out.1
      have hx1 : a ≤ 4294967295 := hx.out.2
      cases hm : Ad.rmay (a, d, g, t, p)
      · go_wp2_with fail
        refine (rmay_is _ _ _ _ _ _ hm _ hx0 hx1).mono ?_
        rintro e w1 ⟨rfl, hb1⟩
        go_wp2_with fail
        go_ret
        exact ⟨ret_int (Ad.rwhy_bad l hlen k hlt (by rw [HX.out]; exact hm)).symm, bthen (balloc hbr _) hb1⟩
      · go_wp2_with fail
        refine (rmay_is _ _ _ _ _ _ hm _ hx0 hx1).mono ?_
        rintro e w1 ⟨rfl, hb1⟩
        go_wp2_with fail
        refine ⟨⟨k + 1, by omega, by go_num, fun j hj hjk => ?_, bthen (balloc hbr _) hb1⟩, by simp [intOf]; omega⟩
        rcases Nat.lt_succ_iff_lt_or_eq.1 hjk with h1 | rfl
        · exact HALL.out j hj h1
        · rw [HX.out]; exact hm
    · go_wp2_with fail
      go_ret
      exact ⟨ret_int (Ad.rwhy_ok l hlen fun j hj => HALL.out j hj (by omega)).symm, hbr⟩

set_option maxHeartbeats 1000000 in
theorem pmay_long (a : Option Addr) (n cap : Nat) (w : World) (h : 16 < n) :
    Calls Tryz.prog 99 #[.slice a n cap] w fun e w' => e = .returned (.int .i64 2) ∧ Below w.heap.size w w' := by
  have hgt : (16 : Int) < (n : Int) := by omega
  go_enter Tryz.func99, Tryz.ntmps99
  go_wp2_with fail
  go_ret
  exact ⟨rfl, brefl w⟩

theorem pmay_any (ao : Option Addr) (cap : Nat) (l : List Ad.R) (w : World) (hR : Ad.slotR w ao l) (hf : Ad.fitsR l) :
    Calls Tryz.prog 99 #[.slice ao l.length cap] w fun e w' => e = .returned (.int .i64 (Ad.rwhy l)) ∧ Below w.heap.size w w' := by
  by_cases h : l.length ≤ 16
  · exact pmay_row ao cap l w hR hf h
  · have e : Ad.rwhy l = 2 := by rw [Ad.rwhy, if_pos (by omega)]
    rw [e]
    exact pmay_long ao l.length cap w (by omega)

theorem Ad.get_bang (l : List Ad.R) (k : Nat) (h : k < l.length) : l[k]! = l[k] := by simp [h]

end Go.Proofs.YtngfoijmknclhaaGreatDoor.Pl
namespace Go.Proofs.YtngfoijmknclhaaGreatDoor
open Go.RowKit Go.Sort
/-- Things that lie in a row, each in so many cells. -/
def Rd {α : Type} (w : World) (z : Nat) (R : World → α → List Value → Prop) (v : Value) (l : List α) : Prop :=
  ∃ ao c, v = .slice ao l.length c ∧ (l = [] ∨ ∃ b off, ao = some ⟨b, off, none⟩ ∧ ∀ j (h : j < l.length), ∃ xs, R w l[j] xs ∧ xs.length = z ∧ xs ≠ [] ∧ ∀ i u, xs[i]? = some u → w.cell? ⟨b, off + j * z + i, none⟩ = some u)
/-- What is kept by whatever leaves all old blocks. -/
def Mono {α : Type} (R : World → α → List Value → Prop) : Prop := ∀ w w' a x, Below w.heap.size w w' → R w a x → R w' a x
theorem Rd.below {α : Type} {w w' : World} {z : Nat} {R : World → α → List Value → Prop} {v : Value} {l : List α} (hR : Mono R) (h : Rd w z R v l) (hb : Below w.heap.size w w') : Rd w' z R v l := by
  obtain ⟨ao, c, hv, h⟩ := h
  refine ⟨ao, c, hv, ?_⟩
  rcases h with h | ⟨b, off, h, hr⟩
  · exact .inl h
  · refine .inr ⟨b, off, h, fun j hj => ?_⟩
    obtain ⟨xs, h1, hz, h2, h3⟩ := hr j hj
    refine ⟨xs, hR _ _ _ _ hb h1, hz, h2, fun i u hu => ?_⟩
    have k := h3 i u hu
    exact (hb.cell (p := ⟨b, off + j * z + i, none⟩) (World.block_lt_of_cell? w _ k)).trans k
theorem Rd.slice {α : Type} {w : World} {z : Nat} {R : World → α → List Value → Prop} {v : Value} {l : List α} (h : Rd w z R v l) : ∃ ao c, v = .slice ao l.length c := by
  obtain ⟨ao, c, hv, _⟩ := h
  exact ⟨ao, c, hv⟩
theorem Rd.nil {α : Type} {w : World} {z : Nat} {R : World → α → List Value → Prop} (ao : Option Addr) (c : Nat) : Rd w z R (.slice ao 0 c) ([] : List α) := ⟨ao, c, rfl, .inl rfl⟩
theorem Rd.at_ {α : Type} {w : World} {z : Nat} {R : World → α → List Value → Prop} {ao : Option Addr} {n c : Nat} {l : List α} (h : Rd w z R (.slice ao n c) l) {j : Nat} (hj : j < l.length) : ∃ b off xs, ao = some ⟨b, off, none⟩ ∧ b < w.heap.size ∧ R w l[j] xs ∧ xs.length = z ∧ ∀ i u, xs[i]? = some u → w.cell? ⟨b, off + j * z + i, none⟩ = some u := by
  obtain ⟨ao', c', hv, h⟩ := h
  cases hv
  rcases h with h | ⟨b, off, h, hr⟩
  · rw [h] at hj; simp at hj
  · obtain ⟨xs, h1, hz, h2, h3⟩ := hr j hj
    refine ⟨b, off, xs, h, ?_, h1, hz, h3⟩
    cases xs with
    | nil => exact absurd rfl h2
    | cons x xs => exact World.block_lt_of_cell? w _ (h3 0 x rfl)
/-- A clause. -/
structure Kl where
  n : Int
  ok : Bool
  ls : ByteArray
  pt : ByteArray
  ca : Int
  cn : Int
  s : St
/-- A list. -/
structure Ll where
  nm : ByteArray
  rs : List Pl.Ad.R
def St.came (ao dl pr : Option Addr) (ca cd cr : Nat) : Prop := Cm.Co.nilW ao ca ∧ Cm.Co.nilW dl cd ∧ Cm.Co.nilW pr cr
def Kl.cells (c : Kl) (ao dl pr : Option Addr) (ca cd cr : Nat) : List Value := [.int .i64 c.n, .bool c.ok, .string c.ls, .string c.pt, .int .i64 c.ca, .int .i64 c.cn, .int .i64 c.s.pf, .int .i64 c.s.md, .int .i64 c.s.og, .slice ao c.s.add.length ca, .slice dl c.s.del.length cd, .bool c.s.clr, .slice pr c.s.pre.length cr]
def KlR (w : World) (c : Kl) (x : List Value) : Prop := ∃ ao dl pr ca cd cr, x = c.cells ao dl pr ca cd cr ∧ St.lies w c.s ao dl pr ∧ St.came ao dl pr ca cd cr
def LlR (w : World) (l : Ll) (x : List Value) : Prop := ∃ ao ca, x = [.string l.nm, .slice ao l.rs.length ca] ∧ Pl.Ad.slotR w ao l.rs ∧ Pl.Ad.fitsR l.rs
theorem KlR.mono : Mono KlR := fun _ _ _ _ hb ⟨ao, dl, pr, ca, cd, cr, h, hs, hc⟩ => ⟨ao, dl, pr, ca, cd, cr, h, St.lies_below hs hb, hc⟩
theorem LlR.mono : Mono LlR := fun _ _ _ _ hb ⟨ao, ca, h, hs, hf⟩ => ⟨ao, ca, h, Pl.Ad.slotR_below hs hb, hf⟩
theorem cell_of {w : World} {b : Nat} {cs : Array Value} {t : TypeId} (h : w.heap[b]? = some (.cells cs t (0, 0))) (i : Nat) {u : Value} (hi : cs[i]? = some u) : w.cell? ⟨b, i, none⟩ = some u := by
  simp [World.cell?, h, hi]
theorem sizeA (w : World) (o : Obj) : (w.alloc o).heap.size = w.heap.size + 1 := by simp
/-- A clause, a list as a value. -/
def KlV (w : World) (c : Kl) (v : Value) : Prop := ∃ xs, KlR w c xs ∧ v = .agg xs.toArray
theorem KlV.below {w w' : World} {c : Kl} {v : Value} (h : KlV w c v) (hb : Below w.heap.size w w') : KlV w' c v := by
  obtain ⟨xs, h1, h2⟩ := h
  exact ⟨xs, KlR.mono _ _ _ _ hb h1, h2⟩
def LlV (w : World) (c : Ll) (v : Value) : Prop := ∃ xs, LlR w c xs ∧ v = .agg xs.toArray
/-- A function value that answers p of things. -/
structure FnIs {α : Type} (W0 : World) (f : Nat) (caps : Array Value) (V : World → α → Value → Prop) (G : α → Prop) (p : α → Bool) : Prop where
  enter : ∀ (args : Array Value) (w : World), (callFunc f args).run Tryz.prog w = .ok (.enter f args) w
  ok : ∀ (W : World) (a : α) (x : Value), Below W0.heap.size W0 W → V W a x → G a → Calls Tryz.prog f (#[x] ++ caps) W fun e w' => e = .returned (.bool (p a)) ∧ Below W.heap.size W w'
theorem FnIs.from {α : Type} {W0 W1 : World} {f : Nat} {caps : Array Value} {V : World → α → Value → Prop} {G : α → Prop} {p : α → Bool} (h : FnIs W0 f caps V G p) (hb : Below W0.heap.size W0 W1) : FnIs W1 f caps V G p := ⟨h.enter, fun W a x hW hx hg => h.ok W a x (bthen hb hW) hx hg⟩
theorem list2 {xs : List Value} (h : xs.length = 2) : ∃ x0 x1, xs = [x0, x1] := by
  match xs, h with
  | [x0, x1], _ => exact ⟨x0, x1, rfl⟩
theorem list13 {xs : List Value} (h : xs.length = 13) : ∃ x0 x1 x2 x3 x4 x5 x6 x7 x8 x9 x10 x11 x12, xs = [x0, x1, x2, x3, x4, x5, x6, x7, x8, x9, x10, x11, x12] := by
  match xs, h with
  | [x0, x1, x2, x3, x4, x5, x6, x7, x8, x9, x10, x11, x12], _ => exact ⟨x0, x1, x2, x3, x4, x5, x6, x7, x8, x9, x10, x11, x12, rfl⟩
/-- The first place at which p holds. -/
def FirstAt {α : Type} (p : α → Bool) (l : List α) (i : Int) : Prop := (i = -1 ∧ ∀ k (h : k < l.length), p l[k] = false) ∨ ∃ k, ∃ h : k < l.length, i = k ∧ p l[k] = true ∧ ∀ j (hj : j < k), p (l[j]'(by omega)) = false
end Go.Proofs.YtngfoijmknclhaaGreatDoor
namespace Go.Proofs.YtngfoijmknclhaaGreatDoor
open Go.RowKit Go.Sort
set_option maxHeartbeats 4000000 in
set_option maxRecDepth 100000 in
theorem indexK_is {f : Nat} {caps : Array Value} {G : Kl → Prop} {p : Kl → Bool} (v : Value) (l : List Kl) (w : World) (hf : FnIs w f caps KlV G p) (h : Rd w 13 KlR v l) (hg : ∀ a ∈ l, G a) (hz : l.length ≤ 100000) :
    Calls Tryz.prog 77 #[v, .func (.func f) #[] caps] w fun e w' => ∃ i : Int, e = .returned (.int .i64 i) ∧ FirstAt p l i ∧ Below w.heap.size w w' := by
  obtain ⟨ao, ca, rfl⟩ := h.slice
  have H := hide h
  have hcf := hf.enter
  have HF := hide (fun W a x hW hx hg => hf.ok W a x hW hx hg)
  have HG := hide hg
  clear h hf hg
  go_enter Tryz.func77, Tryz.ntmps77
  go_wp2_with fail
  go_loopw [8] (fun v8 wr => ∃ k : Nat, v8 = .int .i64 k ∧ k ≤ l.length ∧ Hid (∀ j (h : j < l.length), j < k → p l[j] = false) ∧ Hid (Below w.heap.size w wr)) (fun v8 _ => l.length - (intOf v8).toNat)
  case atStart => exact ⟨0, rfl, Nat.zero_le _, hide (fun j _ h => absurd h (Nat.not_lt_zero j)), brefl w⟩
  case round =>
    obtain ⟨k, rfl, hk, HA, HBR⟩ := hrel
    by_cases hkl : k < l.length
    · have hkl' : (k : Int) < (l.length : Int) := by omega
      obtain ⟨b, off, xs, rfl, hbw, hx, hxl, ha⟩ := (Rd.below KlR.mono H.out HBR.out).at_ hkl
      obtain ⟨x0, x1, x2, x3, x4, x5, x6, x7, x8, x9, x10, x11, x12, rfl⟩ := list13 hxl
      have c0 := ha 0 _ rfl
      have c1 := ha 1 _ rfl
      have c2 := ha 2 _ rfl
      have c3 := ha 3 _ rfl
      have c4 := ha 4 _ rfl
      have c5 := ha 5 _ rfl
      have c6 := ha 6 _ rfl
      have c7 := ha 7 _ rfl
      have c8 := ha 8 _ rfl
      have c9 := ha 9 _ rfl
      have c10 := ha 10 _ rfl
      have c11 := ha 11 _ rfl
      have c12 := ha 12 _ rfl
      simp only [Nat.add_zero] at c0
      clear ha
      have CP := hide (HF.out wr l[k] (.agg #[x0, x1, x2, x3, x4, x5, x6, x7, x8, x9, x10, x11, x12]) HBR.out ⟨_, hx, rfl⟩ (HG.out _ (List.getElem_mem hkl)))
      have HY : Hid (p l[k] = true → FirstAt p l k) := fun hp => .inr ⟨k, hkl, rfl, hp, fun j hj => HA.out j (by omega) hj⟩
      have HN : Hid (p l[k] = false → ∀ j (h : j < l.length), j < k + 1 → p l[j] = false) := fun hp j hj hjk => by
        rcases Nat.lt_or_ge j k with h | h
        · exact HA.out j hj h
        · obtain rfl : j = k := by omega
          exact hp
      clear hx HA hxl
      generalize p l[k] = r at *
      cases r with
      | true =>
        have HY2 := hide (HY.out rfl)
        clear HN HY
        go_wp2_with (refine CP.out.mono ?_; rintro e w1 ⟨rfl, hb1⟩)
        have B1 := hide (bthen HBR.out hb1)
        clear hb1
        go_ret
        exact ⟨_, rfl, HY2.out, B1.out⟩
      | false =>
        have HN2 := hide (HN.out rfl)
        clear HN HY
        go_wp2_with (refine CP.out.mono ?_; rintro e w1 ⟨rfl, hb1⟩)
        have B1 := hide (bthen HBR.out hb1)
        clear hb1
        exact ⟨⟨k + 1, by go_num, by omega, HN2, B1⟩, by simp [intOf] <;> omega⟩
    · have hkl' : ¬ (k : Int) < (l.length : Int) := by omega
      go_wp2_with fail
      go_ret
      exact ⟨-1, rfl, .inl ⟨rfl, fun j hj => HA.out j hj (by omega)⟩, HBR.out⟩

set_option maxHeartbeats 4000000 in
set_option maxRecDepth 100000 in
theorem indexL_is {f : Nat} {caps : Array Value} {G : Ll → Prop} {p : Ll → Bool} (v : Value) (l : List Ll) (w : World) (hf : FnIs w f caps LlV G p) (h : Rd w 2 LlR v l) (hg : ∀ a ∈ l, G a) (hz : l.length ≤ 100000) :
    Calls Tryz.prog 102 #[v, .func (.func f) #[] caps] w fun e w' => ∃ i : Int, e = .returned (.int .i64 i) ∧ FirstAt p l i ∧ Below w.heap.size w w' := by
  obtain ⟨ao, ca, rfl⟩ := h.slice
  have H := hide h
  have hcf := hf.enter
  have HF := hide (fun W a x hW hx hg => hf.ok W a x hW hx hg)
  have HG := hide hg
  clear h hf hg
  go_enter Tryz.func102, Tryz.ntmps102
  go_wp2_with fail
  go_loopw [8] (fun v8 wr => ∃ k : Nat, v8 = .int .i64 k ∧ k ≤ l.length ∧ Hid (∀ j (h : j < l.length), j < k → p l[j] = false) ∧ Hid (Below w.heap.size w wr)) (fun v8 _ => l.length - (intOf v8).toNat)
  case atStart => exact ⟨0, rfl, Nat.zero_le _, hide (fun j _ h => absurd h (Nat.not_lt_zero j)), brefl w⟩
  case round =>
    obtain ⟨k, rfl, hk, HA, HBR⟩ := hrel
    by_cases hkl : k < l.length
    · have hkl' : (k : Int) < (l.length : Int) := by omega
      obtain ⟨b, off, xs, rfl, hbw, hx, hxl, ha⟩ := (Rd.below LlR.mono H.out HBR.out).at_ hkl
      obtain ⟨x0, x1, rfl⟩ := list2 hxl
      have c0 := ha 0 _ rfl
      have c1 := ha 1 _ rfl
      simp only [Nat.add_zero] at c0
      clear ha
      have CP := hide (HF.out wr l[k] (.agg #[x0, x1]) HBR.out ⟨_, hx, rfl⟩ (HG.out _ (List.getElem_mem hkl)))
      have HY : Hid (p l[k] = true → FirstAt p l k) := fun hp => .inr ⟨k, hkl, rfl, hp, fun j hj => HA.out j (by omega) hj⟩
      have HN : Hid (p l[k] = false → ∀ j (h : j < l.length), j < k + 1 → p l[j] = false) := fun hp j hj hjk => by
        rcases Nat.lt_or_ge j k with h | h
        · exact HA.out j hj h
        · obtain rfl : j = k := by omega
          exact hp
      clear hx HA hxl
      generalize p l[k] = r at *
      cases r with
      | true =>
        have HY2 := hide (HY.out rfl)
        clear HN HY
        go_wp2_with (refine CP.out.mono ?_; rintro e w1 ⟨rfl, hb1⟩)
        have B1 := hide (bthen HBR.out hb1)
        clear hb1
        go_ret
        exact ⟨_, rfl, HY2.out, B1.out⟩
      | false =>
        have HN2 := hide (HN.out rfl)
        clear HN HY
        go_wp2_with (refine CP.out.mono ?_; rintro e w1 ⟨rfl, hb1⟩)
        have B1 := hide (bthen HBR.out hb1)
        clear hb1
        exact ⟨⟨k + 1, by go_num, by omega, HN2, B1⟩, by simp [intOf] <;> omega⟩
    · have hkl' : ¬ (k : Int) < (l.length : Int) := by omega
      go_wp2_with fail
      go_ret
      exact ⟨-1, rfl, .inl ⟨rfl, fun j hj => HA.out j hj (by omega)⟩, HBR.out⟩
end Go.Proofs.YtngfoijmknclhaaGreatDoor
