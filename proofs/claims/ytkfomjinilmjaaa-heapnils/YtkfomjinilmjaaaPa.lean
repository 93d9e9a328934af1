/- The law's orders, its state, lives and light. -/
import Derived.Test.YtkfomjinilmjaaaHq
namespace Go.Proofs.Ytkfomjinilmjaaa
open Go.RowKit Go.Maps

def ltI (a b : Int) : Bool := decide (a < b)
def gtI (a b : Int) : Bool := decide (b < a)
def noI (_ _ : Int) : Bool := false
theorem ordsI : Ords ltI := ⟨fun a => by simp [ltI], fun a b c h k => by simp [ltI] at *; omega, fun a b c h k => by simp [ltI] at *; omega⟩
theorem ordsG : Ords gtI := ⟨fun a => by simp [gtI], fun a b c h k => by simp [gtI] at *; omega, fun a b c h k => by simp [gtI] at *; omega⟩
theorem ordsN : Ords noI := ⟨fun a => rfl, fun a b c h k => by simp [noI] at h, fun a b c h k => rfl⟩
theorem lessI : LessIs 9 ltI := ⟨by intro args w; go_simp, fun a b w => by
  unfold ltI
  go_enter Try.func9, Try.ntmps9
  go_wp2_with fail
  go_ret
  exact ⟨rfl, rfl⟩⟩
theorem lessG : LessIs 27 gtI := ⟨by intro args w; go_simp, fun a b w => by
  unfold gtI
  go_enter Try.func27, Try.ntmps27
  go_wp2_with fail
  go_ret
  exact ⟨rfl, rfl⟩⟩
theorem lessN : LessIs 35 noI := ⟨by intro args w; go_simp, fun a b w => by
  unfold noI
  go_enter Try.func35, Try.ntmps35
  go_wp2_with fail
  go_ret
  exact ⟨rfl, rfl⟩⟩
/-- The law's state: a heap that the call made. -/
structure HS (lt : Int → Int → Bool) (w0 w : World) (h f : Nat) (L : List RwS) (T : Int) (ao : Option Addr) (m : Nat) : Prop where
  hp : Hp lt w h f L T ao m
  top : ∀ x ∈ L, x.t ≤ T
  t0 : 0 ≤ T
  base : ∀ b, Own h m ao b → w0.heap.size ≤ b
  below : Below w0.heap.size w0 w
section
variable {lt : Int → Int → Bool} {w0 w w' : World} {h f : Nat} {L : List RwS} {T : Int} {ao : Option Addr} {m : Nat}
theorem HS.next (S : HS lt w0 w h f L T ao m) (hb : Below w.heap.size w w') : HS lt w0 w' h f L T ao m := ⟨S.hp.below hb, S.top, S.t0, S.base, bthen S.below hb⟩
/-- A call that writes blocks that are new, but none of the heap's. -/
theorem HS.other {X : Nat → Prop} (S : HS lt w0 w h f L T ao m) (hk : Keep X w w') (h1 : ∀ b, X b → w0.heap.size ≤ b) (h2 : ∀ b, Own h m ao b → ¬ X b) : HS lt w0 w' h f L T ao m :=
  ⟨S.hp.kept fun b hb => hk.block b (h2 b hb) (S.hp.old b hb), S.top, S.t0, S.base, hk.below' S.below h1 S.below.size⟩
theorem HS.made {e : Ending} (hM : Made lt w f e w') (hb : Below w0.heap.size w0 w) : ∃ (h m : Nat), e = .returned (.pointer (some ⟨h, 0, none⟩)) ∧ HS lt w0 w' h f [] 0 none m ∧ w.heap.size ≤ h ∧ w.heap.size ≤ m := by
  obtain ⟨h, m, he, hp, h1, h2, h3⟩ := hM
  refine ⟨h, m, he, ⟨hp, fun x hx => (by cases hx), Int.le_refl _, ?_, bthen hb h1⟩, h2, h3⟩
  rintro b (rfl | rfl | ⟨a, e, _⟩)
  · exact Nat.le_trans hb.size h2
  · exact Nat.le_trans hb.size h3
  · cases e
theorem HS.set {k : ByteArray} {r : Int} {e : Ending} (S : HS lt w0 w h f L T ao m) (hT : SetTo lt w h f L T ao m k r e w') : e = .returned (.bool (rowOf L k).isSome) ∧ ∃ ao', HS lt w0 w' h f (without L k ++ [⟨k, r, T + 1⟩]) (T + 1) ao' m ∧ Keep (Own h m ao) w w' ∧ Near w ao ao' := by
  obtain ⟨he, ao', hp, hk, hn⟩ := hT
  refine ⟨he, ao', ⟨hp, fun x hx => ?_, by have := S.t0; omega, fun b hb => ?_, hk.below' S.below (fun i hi => S.base i hi) S.below.size⟩, hk, hn⟩
  · rcases List.mem_append.1 hx with hx | hx
    · have := S.top x (mem_without.1 hx).1; omega
    · rw [List.mem_singleton] at hx; subst hx; exact Int.le_refl _
  · rcases hn.own b hb with e | e
    · exact S.base b e
    · exact Nat.le_trans S.below.size e
theorem HS.without {k : ByteArray} (S : HS lt w0 w h f L T ao m) (hp : Hp lt w' h f (without L k) T ao m) (hk : Keep (Own h m ao) w w') : HS lt w0 w' h f (without L k) T ao m :=
  ⟨hp, fun x hx => S.top x (mem_without.1 hx).1, S.t0, S.base, hk.below' S.below (fun i hi => S.base i hi) S.below.size⟩
theorem set_len {k : ByteArray} {r : Int} (_S : HS lt w0 w h f L T ao m) : (without L k ++ [(⟨k, r, T + 1⟩ : RwS)]).length ≤ L.length + 1 := by
  rw [List.length_append]
  have : (Go.Proofs.Ytkfomjinilmjaaa.without L k).length ≤ L.length := List.length_filter_le _ _
  simp only [List.length_cons, List.length_nil]
  omega
end
def kA : ByteArray := ⟨#[97]⟩
def kB : ByteArray := ⟨#[98]⟩
theorem kAB : kA ≠ kB := by decide
set_option maxHeartbeats 2000000 in
set_option maxRecDepth 100000 in
theorem lives_is (w : World) : Calls Try.prog 11 #[] w fun e w' => e = .returned (.bool true) ∧ Below w.heap.size w w' := by
  have CN := hide (new_is ltI 9 w)
  go_enter Try.func11, Try.ntmps11
  go_wp2_with fail
  refine CN.out.mono ?_
  intro e w1 hm
  obtain ⟨h, m, rfl, S1, _, _⟩ := HS.made hm (brefl w)
  have C1 := hide (set_is ordsI lessI S1.hp (by simp) (k := kA) (by decide) 2 (by decide) (by decide) S1.top)
  have HS1 := hide S1
  clear hm S1 CN
  unfold kA at C1
  go_wp2_with fail
  refine C1.out.mono ?_
  intro e w2 hm
  obtain ⟨rfl, ao2, S2, _, _⟩ := HS1.out.set hm
  have e2 : without ([] : List RwS) kA ++ [⟨kA, 2, 0 + 1⟩] = [⟨kA, 2, 1⟩] := rfl
  have S2' : HS ltI w w2 h 9 [⟨kA, 2, 1⟩] 1 ao2 m := S2
  have C2 := hide (set_is ordsI lessI S2'.hp (by simp) (k := kB) (by decide) 1 (by decide) (by decide) S2'.top)
  have HS2 := hide S2'
  clear hm S2 S2' C1 HS1 e2
  unfold kB at C2
  go_wp2_with fail
  refine C2.out.mono ?_
  intro e w3 hm
  obtain ⟨rfl, ao3, S3, _, _⟩ := HS2.out.set hm
  have S3' : HS ltI w w3 h 9 [⟨kA, 2, 1⟩, ⟨kB, 1, 2⟩] 2 ao3 m := S3
  have C3 := hide (set_is ordsI lessI S3'.hp (by simp) (k := kA) (by decide) 0 (by decide) (by decide) S3'.top)
  have HS3 := hide S3'
  clear hm S3 S3' C2 HS2
  unfold kA at C3
  go_wp2_with fail
  refine C3.out.mono ?_
  intro e w4 hm
  obtain ⟨rfl, ao4, S4, _, _⟩ := HS3.out.set hm
  have S4' : HS ltI w w4 h 9 [⟨kB, 1, 2⟩, ⟨kA, 0, 3⟩] 3 ao4 m := S4
  have C4 := hide (first_is ordsI S4'.hp (by simp))
  have HS4 := hide S4'
  have e4 : (rowOf [⟨kA, 2, 1⟩, ⟨kB, 1, 2⟩] (⟨#[97]⟩ : ByteArray)).isSome = true := by decide
  rw [e4]
  clear hm S4 S4' C3 HS3 e4
  go_wp2_with fail
  refine C4.out.mono ?_
  rintro e w5 ⟨hf, hb5⟩
  have hx : e = .returned (.tuple #[.string ⟨#[97]⟩, .int .i64 0, .bool true]) := by
    rcases hf with ⟨h0, _⟩ | ⟨x, hx, rfl⟩
    · cases h0
    · have hx1 := hx.1
      simp only [List.mem_cons, List.not_mem_nil, or_false] at hx1
      rcases hx1 with rfl | rfl
      · have := hx.2 ⟨kA, 0, 3⟩ (by simp)
        simp [ahd, ltI] at this
      · rfl
  subst hx
  have C5 := hide (len_is (HS4.out.next hb5).hp (by simp))
  have B5 := hide (bthen HS4.out.below hb5)
  simp only [List.length_cons, List.length_nil] at C5
  clear hf hb5 C4 HS4
  have hbeq : ((⟨#[97]⟩ : ByteArray) == ⟨#[97]⟩) = true := by decide
  go_wp2_with fail
  refine C5.out.mono ?_
  rintro e w6 ⟨rfl, hw⟩
  have hw' := hw.symm
  clear hw
  subst hw'
  go_wp2_with fail
  go_ret
  exact ⟨rfl, B5.out⟩
/-- A step: its kind, its rank, its key. -/
abbrev Opn := Int × Int × ByteArray
def Opn.reads (w : World) (b off : Nat) (l : List Opn) : Prop := ∀ i (h : i < l.length), w.cell? ⟨b, off + i * 3, none⟩ = some (.int .i64 l[i].1) ∧ w.cell? ⟨b, off + i * 3 + 1, none⟩ = some (.int .i64 l[i].2.1) ∧ w.cell? ⟨b, off + i * 3 + 2, none⟩ = some (.string l[i].2.2)
def Opn.rowAt (w : World) (ao : Option Addr) (l : List Opn) : Prop := l = [] ∨ ∃ b off, ao = some ⟨b, off, none⟩ ∧ b < w.heap.size ∧ Opn.reads w b off l
theorem Opn.reads_below {w w' : World} {b off : Nat} {l : List Opn} (h : Opn.reads w b off l) (hl : b < w.heap.size) (hb : Below w.heap.size w w') : Opn.reads w' b off l := by
  intro i hi
  obtain ⟨h0, h1, h2⟩ := h i hi
  exact ⟨(hb.cell (p := ⟨b, off + i * 3, none⟩) hl).trans h0, (hb.cell (p := ⟨b, off + i * 3 + 1, none⟩) hl).trans h1, (hb.cell (p := ⟨b, off + i * 3 + 2, none⟩) hl).trans h2⟩
set_option maxRecDepth 100000 in
theorem light_is (k r : Int) (s : ByteArray) (w : World) : Calls Try.prog 10 #[.agg #[.int .i64 k, .int .i64 r, .string s]] w fun e w' => e = .returned (.bool (decide (s.size ≤ 200))) ∧ Below w.heap.size w w' := by
  have HB := hide (balloc (brefl w) (.cells #[.int .i64 k, .int .i64 r, .string s] 28))
  have hd : decide ((s.size : Int) ≤ 200) = decide (s.size ≤ 200) := by
    congr 1
    simp only [eq_iff_iff]
    omega
  have HD := hide hd
  clear hd
  go_enter Try.func10, Try.ntmps10
  go_wp2_with fail
  go_ret
  exact ⟨by rw [← HD.out]; rfl, HB.out⟩
end Go.Proofs.Ytkfomjinilmjaaa
