import Derived.Test.YtkhmhmopcofejaaPF
/- The contracts of wire's Prefix, message and Alive. -/
namespace Go.Proofs.Ytkhmhmopcofejaa
open Go.RowKit Go.Sort

theorem news_at {w : World} {l : List UInt8} {e : Ending} {w' : World} (h : News w l e w') : ∃ o c, e = .returned (.slice o l.length c) ∧ NewB w l o c w' := by
  obtain ⟨v', rfl, h2, h3⟩ := h
  obtain ⟨o, c, rfl, h4, h5, h6⟩ := own_at h2
  exact ⟨o, c, rfl, h4, h6, h5, h3⟩
set_option maxHeartbeats 1000000 in
set_option maxRecDepth 100000 in
theorem message_is (k : Nat) (ao : Option Addr) (ca : Nat) (l : List UInt8) (hk : k < 256) (hl : l.length ≤ 60000) (w : World) (hS : Bs.slot w ao l) (hC : camB ao l.length ca) (hA : Apt w ao none) :
    Calls Try.prog 28 #[.int .i64 k, .slice ao l.length ca] w (News w (frame k l)) := by
  have A1 := hide (balloc (brefl w) (.cells #[b255] 5))
  have CR := hide (repeat_is w.heap.size 1 (w.alloc (.cells #[b255] 5)) (by simp))
  have HS := hide hS
  have HA := hide hA
  clear hS hA
  go_enter Try.func28, Try.ntmps28
  go_wp2_with fail
  refine CR.out.mono ?_
  rintro e w1 ⟨v1, rfl, f1, b1⟩
  have B1 := hide (bthen A1.out b1)
  have hw1 : w.heap.size ≤ w1.heap.size := B1.out.size
  have F1 : Hid (Ow w1 w.heap.size v1 ff) := by
    obtain ⟨g, h1, h2, h3, h4⟩ := f1
    exact .inr ⟨g, h1, Nat.le_trans A1.out.size h2, h3, h4⟩
  have CP := hide (put_is w.heap.size v1 ff (19 + l.length) 2 (by omega) (by decide) (by decide) (by decide) w1 hw1 F1.out)
  clear f1 b1 CR
  go_wp2_with fail
  refine CP.out.mono ?_
  rintro e w2 ⟨v2, rfl, o2, g2, x2⟩
  have B2 := hide (grown_from B1.out F1.out g2)
  have CQ := hide (put_is w.heap.size v2 _ k 1 (by omega) (by decide) (by decide) (by rw [List.length_append, num_length]; decide) w2 B2.out.size (.inl o2))
  have O2 := hide o2
  clear o2 g2 x2 CP
  go_wp2_with fail
  refine CQ.out.mono ?_
  rintro e w3 ⟨v3, rfl, o3, g3, x3⟩
  have B3 := hide (grown_from B2.out (.inl O2.out) g3)
  have O3 := hide o3
  have S3 := hide (Bs.slot_below HS.out B3.out)
  have hlen : (ff ++ num (19 + l.length) 2 ++ num k 1).length + l.length ≤ 1000000 := by have : ff.length = 16 := rfl; simp only [List.length_append, num_length]; omega
  clear o3 g3 x3 CQ
  go_wp2_with (at_builtin; go_must (refine app_bytes rfl _ _ rfl w.heap.size v3 (ff ++ num (19 + l.length) 2 ++ num k 1) rfl (.inl O3.out) ao l.length ca l rfl rfl S3.out hC hlen B3.out.size (.inr O3.out) ?_))
  intro v4 w4 o4 g4 x4
  have B4 := hide (grown_from B3.out (.inl O3.out) g4)
  have O4 : Hid (Own w4 w.heap.size v4 (frame k l)) := by show Own _ _ _ _; unfold frame; simpa only [List.append_assoc] using o4
  clear o4 g4 x4
  go_wp2_with fail
  go_ret
  exact ⟨_, rfl, O4.out, B4.out⟩
set_option maxRecDepth 100000 in
theorem aliveP_is (w : World) : Calls Try.prog 18 #[] w fun e w' => ∃ o c, e = .returned (.slice o 19 c) ∧ NewB w alive o c w' := by
  have CM := hide (message_is 4 none 0 [] (by decide) (by decide) w (.inl rfl) ⟨fun _ => rfl, fun ad e => (by cases e), Nat.le_refl _⟩ (fun ad e => by cases e))
  go_enter Try.func18, Try.ntmps18
  go_wp2_with fail
  refine CM.out.mono ?_
  intro e w1 h1
  obtain ⟨o, c, rfl, h2⟩ := news_at h1
  have H2 := hide h2
  clear h1 h2
  go_wp2_with fail
  go_ret
  exact ⟨o, c, rfl, H2.out⟩
set_option maxHeartbeats 1000000 in
set_option maxRecDepth 100000 in
theorem prefixP_is (ao : Option Addr) (c : Nat) (l : List UInt8) (p : Int × Int) (hl : l.length ≤ 6000) (hp0 : 0 ≤ p.1) (hp1 : p.1 ≤ 4294967295) (w : World) (hS : Bs.slot w ao l) (hC : camB ao l.length c) :
    Calls Try.prog 21 #[.slice ao l.length c, .agg #[.int .u32 p.1, .int .i64 p.2]] w fun e w' => ∃ o c m, e = .returned (.slice o m c) ∧ m = (if Gp p then l ++ pfx p else l).length ∧ Bs.slot w' o (if Gp p then l ++ pfx p else l) ∧ camB o m c ∧ Below w.heap.size w w' := by
  obtain ⟨a, b⟩ := p
  simp only at hp0 hp1
  generalize hys : (if Gp (a, b) then l ++ pfx (a, b) else l) = ys
  have HY := hide hys
  clear hys
  have A1 := hide (balloc (brefl w) (.cells #[.int .u32 a, .int .i64 b] 56))
  have CC := hide (clone_is ao c l (by omega) (w.alloc (.cells #[.int .u32 a, .int .i64 b] 56)) (Bs.slot_below hS A1.out) hC)
  have C0 : Hid ((w.alloc (.cells #[.int .u32 a, .int .i64 b] 56)).cell? ⟨w.heap.size, 0, none⟩ = some (.int .u32 a) ∧ (w.alloc (.cells #[.int .u32 a, .int .i64 b] 56)).cell? ⟨w.heap.size, 1, none⟩ = some (.int .i64 b)) := by show _ ∧ _; simp
  have hlt : w.heap.size < (w.alloc (.cells #[.int .u32 a, .int .i64 b] 56)).heap.size := by simp
  have HL := hide hlt
  have HLL := hide hl
  clear hS hlt hl
  go_enter Try.func21, Try.ntmps21
  go_wp2_with fail
  generalize w.alloc (.cells #[.int .u32 a, .int .i64 b] 56) = W at *
  refine CC.out.mono ?_
  rintro e w1 ⟨v1, rfl, o1, b1⟩
  have q0 : w1.cell? ⟨w.heap.size, 0, none⟩ = some (.int .u32 a) := (b1.cell (p := ⟨w.heap.size, 0, none⟩) HL.out).trans C0.out.1
  have q1 : w1.cell? ⟨w.heap.size, 1, none⟩ = some (.int .i64 b) := (b1.cell (p := ⟨w.heap.size, 1, none⟩) HL.out).trans C0.out.2
  have O1 := hide (own_base o1 A1.out.size)
  have B1 := hide (bthen A1.out b1)
  have Q1 := hide (And.intro q0 q1)
  have HL1 := hide (Nat.lt_of_lt_of_le HL.out b1.size)
  have CY := hide (fun (hg : Ax.Ad.may a b = true) => Ax.may_is a b _ hg w1 hp0 hp1)
  have CN := hide (fun (hg : Ax.Ad.may a b = false) => Ax.may_is a b _ hg w1 hp0 hp1)
  have GM : Hid (Ax.Ad.may a b = true ↔ Gp (a, b)) := by show _ ↔ _; rw [gp_may hp0 hp1, decide_eq_true_eq]
  clear o1 b1 CC C0
  go_wp2_with fail
  by_cases hg : Gp (a, b)
  · have hy := HY.out
    rw [if_pos hg] at hy
    subst hy
    refine (CY.out (GM.out.2 hg)).mono ?_
    rintro e w2 ⟨rfl, b2⟩
    have r0 : w2.cell? ⟨w.heap.size, 0, none⟩ = some (.int .u32 a) := (b2.cell (p := ⟨w.heap.size, 0, none⟩) HL1.out).trans Q1.out.1
    have r1 : w2.cell? ⟨w.heap.size, 1, none⟩ = some (.int .i64 b) := (b2.cell (p := ⟨w.heap.size, 1, none⟩) HL1.out).trans Q1.out.2
    have O2 := hide (own_below O1.out b2)
    have B2 := hide (bthen B1.out b2)
    have CP := hide (putPrefix_is w.heap.size v1 l (a, b) hg (by have := HLL.out; omega) w2 B2.out.size O2.out)
    clear b2 q0 q1 CY CN
    go_wp2_with fail
    refine CP.out.mono ?_
    rintro e w3 ⟨v3, rfl, o3, g3, x3⟩
    have B3 := hide (grown_from B2.out (.inl O2.out) g3)
    have O3 := hide o3
    clear o3 g3 x3 CP r0 r1
    obtain ⟨o, c', rfl, s3, k3, _⟩ := own_at O3.out
    have S3 := hide (And.intro s3 k3)
    clear s3 k3 O3
    go_wp2_with fail
    go_ret
    exact ⟨o, c', _, rfl, by rw [List.length_append], S3.out.1, by rw [← List.length_append]; exact S3.out.2, B3.out⟩
  · have hy := HY.out
    rw [if_neg hg] at hy
    subst hy
    refine (CN.out (by cases h : Ax.Ad.may a b; rfl; exact absurd (GM.out.1 h) hg)).mono ?_
    rintro e w2 ⟨rfl, b2⟩
    have O2 := hide (own_below O1.out b2)
    have B2 := hide (bthen B1.out b2)
    clear b2 q0 q1 CY CN
    obtain ⟨o, c', rfl, s3, k3, _⟩ := own_at O2.out
    have S3 := hide (And.intro s3 k3)
    clear s3 k3
    go_wp2_with fail
    go_ret
    exact ⟨o, c', _, rfl, rfl, S3.out.1, S3.out.2, B2.out⟩
end Go.Proofs.Ytkhmhmopcofejaa
