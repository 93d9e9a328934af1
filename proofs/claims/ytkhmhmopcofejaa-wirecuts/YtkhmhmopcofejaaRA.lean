import Derived.Test.YtkhmhmopcofejaaWA
import Derived.Test.YtkhmhmopcofejaaXM1
import Derived.Laws.IdiomStrings
import Derived.Laws.Concat
/- The contracts of the document's Number, one, Prefix, prefixes and Framed. -/
namespace Go.Proofs.Ytkhmhmopcofejaa
open Go.RowKit Go.Sort

/-- Two texts joined make a third one. -/
def Adds (x y z : ByteArray) : Prop := ∀ W : World, (Op.stringOp .add x y).run Try.prog W = .ok (.string z) W
theorem adds_mk (x y z : ByteArray) (h : x.size + y.size ≤ maxLen) (hz : x ++ y = z) : Adds x y z := by
  intro W
  subst hz
  exact run_string_add_sum W x y h
theorem ba_app (a b : List UInt8) : (⟨a.toArray⟩ : ByteArray) ++ ⟨b.toArray⟩ = ⟨(a ++ b).toArray⟩ := by
  apply ByteArray.ext
  simp [ByteArray.data_append]
theorem adds_list (x y : List UInt8) (h1 : x.length ≤ 100000) (h2 : y.length ≤ 100000) : Adds ⟨x.toArray⟩ ⟨y.toArray⟩ ⟨(x ++ y).toArray⟩ :=
  adds_mk _ _ _ (by show x.toArray.size + y.toArray.size ≤ maxLen; simp; unfold maxLen; omega) (ba_app x y)
theorem one_byte (W : World) (d : Int) (h0 : 0 ≤ d) (h1 : d < 256) : (convert 31 9 (.slice (some ⟨W.heap.size, 0, none⟩) 1 1)).run Try.prog (W.alloc (.cells #[.int .u8 d] 5)) = .ok (.string ⟨[UInt8.ofNat d.toNat].toArray⟩) (W.alloc (.cells #[.int .u8 d] 5)) := by
  refine run_convert_bytes_back (W.alloc (.cells #[.int .u8 d] 5)) _ _ _ ⟨W.heap.size, 0, none⟩ 1 [UInt8.ofNat d.toNat] Try.underlying31 Try.underlying5 Try.underlying9 ?_
  intro j hj
  simp at hj
  subst hj
  have e : (((UInt8.ofNat d.toNat).toNat : Nat) : Int) = d := by
    rw [UInt8.toNat_ofNat']
    omega
  simp [Addr.add, go_sem]
  omega
theorem three_bytes (W : World) (a b c : Int) (ha : 0 ≤ a ∧ a < 256) (hb : 0 ≤ b ∧ b < 256) (hc : 0 ≤ c ∧ c < 256) : (convert 31 9 (.slice (some ⟨W.heap.size, 0, none⟩) 3 3)).run Try.prog (W.alloc (.cells #[.int .u8 a, .int .u8 b, .int .u8 c] 5)) = .ok (.string ⟨[UInt8.ofNat a.toNat, UInt8.ofNat b.toNat, UInt8.ofNat c.toNat].toArray⟩) (W.alloc (.cells #[.int .u8 a, .int .u8 b, .int .u8 c] 5)) := by
  refine run_convert_bytes_back (W.alloc (.cells #[.int .u8 a, .int .u8 b, .int .u8 c] 5)) _ _ _ ⟨W.heap.size, 0, none⟩ 3 [UInt8.ofNat a.toNat, UInt8.ofNat b.toNat, UInt8.ofNat c.toNat] Try.underlying31 Try.underlying5 Try.underlying9 ?_
  have e : ∀ d : Int, 0 ≤ d → d < 256 → (((UInt8.ofNat d.toNat).toNat : Nat) : Int) = d := by
    intro d h0 h1
    rw [byte_nat (by omega)]
    omega
  intro j hj
  match j, hj with
  | 0, _ => simp [Addr.add, go_sem]; have := e a ha.1 ha.2; simp at this; omega
  | 1, _ => simp [Addr.add, go_sem]; have := e b hb.1 hb.2; simp at this; omega
  | 2, _ => simp [Addr.add, go_sem]; have := e c hc.1 hc.2; simp at this; omega
theorem num_step (m : Int) (k : Nat) : num m.toNat (k + 1) = num (m.toNat / 256) k ++ [UInt8.ofNat (m.toNat % 256)] := rfl
set_option maxHeartbeats 1000000 in
set_option maxRecDepth 100000 in
theorem refNum_is (n : Int) (size : Nat) (t : ByteArray) (ht : t = ⟨(num n.toNat size).toArray⟩) (h0 : 0 ≤ n) (h1 : n ≤ 4294967295) (hs : size ≤ 4) (w : World) :
    Calls Try.prog 38 #[.int .i64 n, .int .i64 size] w fun e w' => e = .returned (.string t) ∧ Below w.heap.size w w' := by
  have HT := hide ht
  clear ht
  go_enter Try.func38, Try.ntmps38
  go_wp2_with fail
  go_loopw [0, 5, 6] (fun v0 v5 v6 wr => ∃ (m : Int) (ds : List UInt8) (k : Nat), 0 ≤ m ∧ m ≤ 4294967295 ∧ k ≤ size ∧ v0 = .int .i64 m ∧ v5 = .string ⟨ds.toArray⟩ ∧ v6 = .int .i64 k ∧ Hid (num m.toNat (size - k) ++ ds = num n.toNat size) ∧ Below w.heap.size w wr) (fun _ _ v6 _ => size - (intOf v6).toNat)
  case atStart => exact ⟨n, [], 0, h0, h1, Nat.zero_le _, rfl, rfl, rfl, (by show _ = _; rw [List.append_nil, Nat.sub_zero]), brefl w⟩
  case round =>
    obtain ⟨m, ds, k, hm0, hm1, hk, rfl, rfl, rfl, HD, hb⟩ := hrel
    have hl : ds.length ≤ 4 := by
      have h2 := congrArg List.length HD.out
      rw [List.length_append, num_length, num_length] at h2
      omega
    have hl' : 1 + ds.length ≤ 9223372036854775807 := by omega
    by_cases hks : k < size
    · have hks' : (k : Int) < (size : Int) := by omega
      have hone := one_byte wr (m % 256) (by omega) (by omega)
      have HE : Hid (num (m / 256).toNat (size - (k + 1)) ++ ([UInt8.ofNat (m % 256).toNat] ++ ds) = num n.toNat size) := by
        show _ = _
        rw [← HD.out, show size - k = (size - (k + 1)) + 1 by omega, num_step, show (m / 256).toNat = m.toNat / 256 by omega, show (m % 256).toNat = m.toNat % 256 by omega, List.append_assoc]
      go_wp2_with fail
      refine ⟨⟨m / 256, [UInt8.ofNat (m % 256).toNat] ++ ds, k + 1, by omega, by omega, hks, rfl, ?_, by go_num, HE, balloc hb _⟩, by simp [intOf] <;> omega⟩
      rw [← ba_app]
    · have hks' : ¬ (k : Int) < (size : Int) := by omega
      have HE : Hid (t = ⟨ds.toArray⟩) := by
        show _ = _
        have := HD.out
        rw [show size - k = 0 by omega] at this
        rw [HT.out, ← this]
        rfl
      go_wp2_with fail
      go_ret
      exact ⟨by rw [HE.out]; rfl, hb⟩
end Go.Proofs.Ytkhmhmopcofejaa

/- The contracts of the document's one, Framed, Prefix and prefixes. -/
namespace Go.Proofs.Ytkhmhmopcofejaa
open Go.RowKit Go.Sort

theorem size_list {s : ByteArray} {d : List UInt8} (h : s = ⟨d.toArray⟩) : s.size = d.length := by
  rw [h]
  show d.toArray.size = d.length
  simp
set_option maxRecDepth 100000 in
theorem refOne_is (f k : Int) (d : List UInt8) (s t : ByteArray) (hsd : s = ⟨d.toArray⟩) (ht : t = ⟨(one (f.toNat, k.toNat, d)).toArray⟩) (hf : 0 ≤ f ∧ f < 256) (hk : 0 ≤ k ∧ k < 256) (hd : d.length < 256) (w : World) :
    Calls Try.prog 64 #[.int .i64 f, .int .i64 k, .string s] w fun e w' => e = .returned (.string t) ∧ Below w.heap.size w w' := by
  have hn := size_list hsd
  have hb := three_bytes w f k (s.size : Int) hf hk (by omega)
  have hA : Adds ⟨[UInt8.ofNat f.toNat, UInt8.ofNat k.toNat, UInt8.ofNat (s.size : Int).toNat].toArray⟩ s t := by
    have := adds_list [UInt8.ofNat f.toNat, UInt8.ofNat k.toNat, UInt8.ofNat d.length] d (by simp) (by omega)
    rw [hsd, ht]
    rw [hsd] at hn
    rw [Int.toNat_natCast, hn]
    exact this
  unfold Adds at hA
  have f1 : f % 256 = f := by omega
  have k1 : k % 256 = k := by omega
  have n1 : (s.size : Int) % 256 = (s.size : Int) := by omega
  have B0 := hide (balloc (brefl w) (.cells #[.int .u8 f, .int .u8 k, .int .u8 (s.size : Int)] 5))
  rw [Int.toNat_natCast] at hb hA
  clear hsd ht hd hf hk hn
  go_enter Try.func64, Try.ntmps64
  go_wp2_with fail
  go_ret
  exact ⟨rfl, B0.out⟩
/-- The first bytes of a head. -/
theorem ff_step (k : Nat) : (List.replicate k (255 : UInt8)) ++ [255] = List.replicate (k + 1) 255 := by
  rw [← List.replicate_succ']
set_option maxHeartbeats 1000000 in
set_option maxRecDepth 100000 in
theorem refFramed_is (k : Int) (d : List UInt8) (s t : ByteArray) (hsd : s = ⟨d.toArray⟩) (ht : t = ⟨(frame k.toNat d).toArray⟩) (hk : 0 ≤ k ∧ k < 256) (hd : d.length ≤ 10000) (w : World) :
    Calls Try.prog 37 #[.int .i64 k, .string s] w fun e w' => e = .returned (.string t) ∧ Below w.heap.size w w' := by
  have hn := size_list hsd
  obtain ⟨u1, hu1⟩ : ∃ u : ByteArray, u = ⟨(num (19 + d.length) 2).toArray⟩ := ⟨_, rfl⟩
  obtain ⟨u2, hu2⟩ : ∃ u : ByteArray, u = ⟨(num k.toNat 1).toArray⟩ := ⟨_, rfl⟩
  obtain ⟨v1, hv1⟩ : ∃ u : ByteArray, u = ⟨(ff ++ num (19 + d.length) 2).toArray⟩ := ⟨_, rfl⟩
  obtain ⟨v2, hv2⟩ : ∃ u : ByteArray, u = ⟨(ff ++ num (19 + d.length) 2 ++ num k.toNat 1).toArray⟩ := ⟨_, rfl⟩
  have C1 : Hid (∀ W : World, Calls Try.prog 38 #[.int .i64 (19 + (s.size : Int)), .int .i64 2] W fun e w' => e = .returned (.string u1) ∧ Below W.heap.size W w') := fun W => refNum_is (19 + (s.size : Int)) 2 u1 (by rw [hu1, show (19 + (s.size : Int)).toNat = 19 + d.length by omega]) (by omega) (by omega) (by decide) W
  have C2 : Hid (∀ W : World, Calls Try.prog 38 #[.int .i64 k, .int .i64 1] W fun e w' => e = .returned (.string u2) ∧ Below W.heap.size W w') := fun W => refNum_is k 1 u2 hu2 (by omega) (by omega) (by decide) W
  have A1 : Adds ⟨ff.toArray⟩ u1 v1 := by rw [hu1, hv1]; exact adds_list _ _ (by decide) (by rw [num_length]; decide)
  have A2 : Adds v1 u2 v2 := by rw [hv1, hu2, hv2]; exact adds_list _ _ (by rw [List.length_append, num_length]; decide) (by rw [num_length]; decide)
  have A3 : Adds v2 s t := by
    rw [hv2, hsd, ht]
    exact adds_list _ _ (by rw [List.length_append, List.length_append, num_length, num_length]; decide) (by omega)
  have HFF := hide (show (⟨ff.toArray⟩ : ByteArray) = ⟨(List.replicate 16 (255 : UInt8)).toArray⟩ from rfl)
  generalize (⟨ff.toArray⟩ : ByteArray) = vf at A1 HFF
  unfold Adds at A1 A2 A3
  have hsz : s.size ≤ 10000 := by omega
  clear hsd ht hu1 hu2 hv1 hv2 hn hd hk
  go_enter Try.func37, Try.ntmps37
  go_wp2_with fail
  go_loopw [5, 6] (fun v5 v6 wr => ∃ k : Nat, k ≤ 16 ∧ v5 = .string ⟨(List.replicate k (255 : UInt8)).toArray⟩ ∧ v6 = .int .i64 k ∧ wr = w) (fun _ v6 _ => 16 - (intOf v6).toNat)
  case atStart => exact ⟨0, by decide, rfl, rfl, rfl⟩
  case round =>
    obtain ⟨k', hk, rfl, rfl, rfl⟩ := hrel
    by_cases h16 : k' < 16
    · have h16' : (k' : Int) < 16 := by omega
      have hadd := adds_list (List.replicate k' (255 : UInt8)) [255] (by simp; omega) (by decide)
      rw [ff_step] at hadd
      unfold Adds at hadd
      obtain ⟨x, hx⟩ : ∃ x : ByteArray, x = ⟨(List.replicate k' (255 : UInt8)).toArray⟩ := ⟨_, rfl⟩
      obtain ⟨y, hy⟩ : ∃ x : ByteArray, x = ⟨(List.replicate (k' + 1) (255 : UInt8)).toArray⟩ := ⟨_, rfl⟩
      rw [← hx, ← hy] at hadd
      rw [← hx]
      have HY := hide hy
      clear hx hy C1 C2 A1 A2 A3
      have hadd' : ∀ W : World, (Op.stringOp .add x ⟨#[255]⟩).run Try.prog W = .ok (.string y) W := hadd
      clear hadd
      go_wp2_with fail
      exact ⟨⟨k' + 1, h16, by rw [HY.out], by go_num, trivial⟩, by simp [intOf] <;> omega⟩
    · obtain rfl : k' = 16 := by omega
      rw [← HFF.out]
      clear HFF
      go_wp2_with fail
      refine (C1.out _).mono ?_
      rintro e w1 ⟨rfl, hb1⟩
      have B1 := hide hb1
      clear hb1 C1
      go_wp2_with fail
      refine (C2.out _).mono ?_
      rintro e w2 ⟨rfl, hb2⟩
      have B2 := hide (bthen B1.out hb2)
      clear hb2 C2
      go_wp2_with fail
      go_ret
      exact ⟨rfl, B2.out⟩
end Go.Proofs.Ytkhmhmopcofejaa

/- The contracts of the document's Prefix and prefixes. -/
namespace Go.Proofs.Ytkhmhmopcofejaa
open Go.RowKit Go.Sort

theorem byte_at {W : World} {g : Nat} {d : Int} (h : W.cell? ⟨g, 0, none⟩ = some (.int .u8 d)) (h0 : 0 ≤ d) (h1 : d < 256) : (convert 31 9 (.slice (some ⟨g, 0, none⟩) 1 1)).run Try.prog W = .ok (.string ⟨[UInt8.ofNat d.toNat].toArray⟩) W := by
  refine run_convert_bytes_back W _ _ _ ⟨g, 0, none⟩ 1 [UInt8.ofNat d.toNat] Try.underlying31 Try.underlying5 Try.underlying9 ?_
  intro j hj
  simp at hj
  subst hj
  have e : (((UInt8.ofNat d.toNat).toNat : Nat) : Int) = d := by
    rw [UInt8.toNat_ofNat']
    omega
  simp only [Addr.add, List.getElem_cons_zero]
  rw [e]
  simpa using h
set_option maxHeartbeats 2000000 in
set_option maxRecDepth 100000 in
theorem refPfx_is (p : Int × Int) (t : ByteArray) (ht : t = ⟨(pfx p).toArray⟩) (hg : Gp p) (w : World) :
    Calls Try.prog 63 #[.agg #[.int .u32 p.1, .int .i64 p.2]] w fun e w' => e = .returned (.string t) ∧ Below w.heap.size w w' := by
  obtain ⟨a, b⟩ := p
  obtain ⟨h0, h1, h2, h3, _⟩ := hg
  simp only at *
  obtain ⟨u, hu⟩ : ∃ u : ByteArray, u = ⟨(num a.toNat 4).toArray⟩ := ⟨_, rfl⟩
  obtain ⟨m, hm⟩ : ∃ m : Nat, m = pn (a, b) := ⟨_, rfl⟩
  obtain ⟨v, hv⟩ : ∃ v : ByteArray, v = ⟨((num a.toNat 4).take m).toArray⟩ := ⟨_, rfl⟩
  obtain ⟨x, hx⟩ : ∃ x : ByteArray, x = ⟨[UInt8.ofNat b.toNat].toArray⟩ := ⟨_, rfl⟩
  have A1 : Adds x v t := by
    rw [hx, hv, ht]
    have := adds_list [UInt8.ofNat b.toNat] ((num a.toNat 4).take m) (by simp) (by simp [num_length]; omega)
    rw [hm] at this ⊢
    exact this
  have CN : Hid (∀ W : World, Calls Try.prog 38 #[.int .i64 a, .int .i64 4] W fun e w' => e = .returned (.string u) ∧ Below W.heap.size W w') := fun W => refNum_is a 4 u hu h0 h1 (by decide) W
  have HC : Hid (∀ (W : World) (g : Nat), W.cell? ⟨g, 0, none⟩ = some (.int .u8 b) → (convert 31 9 (.slice (some ⟨g, 0, none⟩) 1 1)).run Try.prog W = .ok (.string x) W) := fun W g h => by rw [hx]; exact byte_at h h2 (by omega)
  have hus : u.size = 4 := by rw [hu]; show (num a.toNat 4).toArray.size = 4; simp [num_length]
  have hm4 : m ≤ 4 := by rw [hm]; unfold pn; simp only; omega
  have hmb : (b + 7) / 8 = (m : Int) := by rw [hm]; unfold pn; simp only; omega
  have hev : u.extract 0 m = v := by
    rw [hu, hv]
    apply ByteArray.ext
    simp
  have HB := hide (balloc (brefl w) (.cells #[.int .u32 a, .int .i64 b] 56))
  have N0 := hide (heap_new w #[.int .u32 a, .int .i64 b] 56)
  have b1 : b % 256 = b := by omega
  have b2 : b < 4294967296 := by omega
  have w1 : IntKind.u8.wrap b = b := by rw [IntKind.wrap_u8]; omega
  have w2 : IntKind.i64.wrap a = a := by rw [IntKind.wrap_i64]; omega
  have w3 : IntKind.i64.wrap (b + 7) = b + 7 := by rw [IntKind.wrap_i64]; omega
  have w4 : IntKind.i64.wrap ((b + 7).tdiv 8) = (m : Int) := by rw [Int.tdiv_eq_ediv_of_nonneg (by omega), hmb, IntKind.wrap_i64]; omega
  unfold Adds at A1
  clear hu hv hx ht hm
  go_enter Try.func63, Try.ntmps63
  go_wp2_with fail
  generalize w.alloc (.cells #[.int .u32 a, .int .i64 b] 56) = W at *
  obtain ⟨p, hp⟩ : ∃ p, w.heap.size = p := ⟨_, rfl⟩
  rw [hp] at N0
  rw [hp]
  clear hp
  have B0 : Hid (Below W.heap.size W W.drew) := (brefl W).drew
  have SH : Hid (∀ W', Below W.heap.size W W' → (fun w' => w'.cell? ⟨p, 0, none⟩ = some (.int .u32 a) ∧ w'.cell? ⟨p, 1, none⟩ = some (.int .i64 b)) W') := fun W' hb => by
    have h := (hb.block p (heap_lt N0.out)).trans N0.out
    exact ⟨by unfold World.cell?; rw [h]; rfl, by unfold World.cell?; rw [h]; rfl⟩
  refine wp_region_held_drew (S := fun w' => w'.cell? ⟨p, 0, none⟩ = some (.int .u32 a) ∧ w'.cell? ⟨p, 1, none⟩ = some (.int .i64 b)) (by kernel_rfl) (SH.out _ B0.out) (fun hHeld => ?_)
  generalize W.drew = w0 at *
  refine wpAnyH_take (i := 0) (v := .pointer (some ⟨p, 1, none⟩)) rfl (by kernel_rfl) (by kernel_rfl) (by kernel_rfl) (fun _ _ _ h => h) (Or.inl ⟨by rfl, fun w hSw => by dsimp only at hSw; go_simp⟩) hHeld ?_
  simp only [Act.put, List.getElem_toArray, List.getElem_cons_zero, List.setIfInBounds_toArray, List.set_cons_zero, List.set_cons_succ]
  refine wpAnyH_take (i := 1) (v := .int .i64 b) rfl (by kernel_rfl) (by kernel_rfl) (by kernel_rfl) (fun _ _ _ h => h) (Or.inl ⟨by rfl, fun w hSw => by dsimp only at hSw; go_simp⟩) hHeld ?_
  simp only [Act.put, List.getElem_toArray, List.getElem_cons_zero, List.getElem_cons_succ, List.setIfInBounds_toArray, List.set_cons_zero, List.set_cons_succ]
  refine wpAnyH_take (i := 2) (v := .int .u8 b) rfl (by kernel_rfl) (by kernel_rfl) (by kernel_rfl) (fun _ _ _ h => h) (Or.inl ⟨by rfl, fun w hSw => by dsimp only at hSw; go_simp⟩) hHeld ?_
  simp only [Act.put, List.getElem_toArray, List.getElem_cons_zero, List.getElem_cons_succ, List.setIfInBounds_toArray, List.set_cons_zero, List.set_cons_succ]
  refine wpAnyH_take (i := 5) (v := .pointer (some ⟨p, 0, none⟩)) rfl (by kernel_rfl) (by kernel_rfl) (by kernel_rfl) (fun _ _ _ h => h) (Or.inl ⟨by rfl, fun w hSw => by dsimp only at hSw; go_simp⟩) hHeld ?_
  simp only [Act.put, List.getElem_toArray, List.getElem_cons_zero, List.getElem_cons_succ, List.setIfInBounds_toArray, List.set_cons_zero, List.set_cons_succ]
  refine wpAnyH_take (i := 6) (v := .int .u32 a) rfl (by kernel_rfl) (by kernel_rfl) (by kernel_rfl) (fun _ _ _ h => h) (Or.inl ⟨by rfl, fun w hSw => by dsimp only at hSw; go_simp⟩) hHeld ?_
  simp only [Act.put, List.getElem_toArray, List.getElem_cons_zero, List.getElem_cons_succ, List.setIfInBounds_toArray, List.set_cons_zero, List.set_cons_succ]
  refine wpAnyH_take (i := 7) (v := .int .i64 a) rfl (by kernel_rfl) (by kernel_rfl) (by kernel_rfl) (fun _ _ _ h => h) (Or.inl ⟨by rfl, fun w hSw => by dsimp only at hSw; go_simp⟩) hHeld ?_
  simp only [Act.put, List.getElem_toArray, List.getElem_cons_zero, List.getElem_cons_succ, List.setIfInBounds_toArray, List.set_cons_zero, List.set_cons_succ]
  refine wpAnyH_take (i := 9) (v := .pointer (some ⟨p, 1, none⟩)) rfl (by kernel_rfl) (by kernel_rfl) (by kernel_rfl) (fun _ _ _ h => h) (Or.inl ⟨by rfl, fun w hSw => by dsimp only at hSw; go_simp⟩) hHeld ?_
  simp only [Act.put, List.getElem_toArray, List.getElem_cons_zero, List.getElem_cons_succ, List.setIfInBounds_toArray, List.set_cons_zero, List.set_cons_succ]
  refine wpAnyH_take (i := 10) (v := .int .i64 b) rfl (by kernel_rfl) (by kernel_rfl) (by kernel_rfl) (fun _ _ _ h => h) (Or.inl ⟨by rfl, fun w hSw => by dsimp only at hSw; go_simp⟩) hHeld ?_
  simp only [Act.put, List.getElem_toArray, List.getElem_cons_zero, List.getElem_cons_succ, List.setIfInBounds_toArray, List.set_cons_zero, List.set_cons_succ]
  refine wpAnyH_take (i := 11) (v := .int .i64 (b + 7)) rfl (by kernel_rfl) (by kernel_rfl) (by kernel_rfl) (fun _ _ _ h => h) (Or.inl ⟨by rfl, fun w hSw => by dsimp only at hSw; go_simp⟩) hHeld ?_
  simp only [Act.put, List.getElem_toArray, List.getElem_cons_zero, List.getElem_cons_succ, List.setIfInBounds_toArray, List.set_cons_zero, List.set_cons_succ]
  refine wpAnyH_take (i := 12) (v := .int .i64 m) rfl (by kernel_rfl) (by kernel_rfl) (by kernel_rfl) (fun _ _ _ h => h) (Or.inl ⟨by rfl, fun w hSw => by dsimp only at hSw; go_simp⟩) hHeld ?_
  simp only [Act.put, List.getElem_toArray, List.getElem_cons_zero, List.getElem_cons_succ, List.setIfInBounds_toArray, List.set_cons_zero, List.set_cons_succ]
  refine wpAnyH_ready (rs := [3, 8]) (by kernel_rfl) (by simp) ?_
  refine AllReadyH.cons rfl (fun K hK => ?_) ?_
  · have B1 := hide (bthen B0.out (balloc (brefl w0) (.cells #[.int .u8 b] 5)))
    have G := hide (show (w0.alloc (.cells #[.int .u8 b] 5)).cell? ⟨w0.heap.size, 0, none⟩ = some (.int .u8 b) by simp)
    go_simp
    refine hK.out _ _ (SH.out _ B1.out) (fun hHeld => ?_)
    clear hK K
    try simp only [Act.put, List.getElem_toArray, List.getElem_cons_zero, List.getElem_cons_succ, List.setIfInBounds_toArray, List.set_cons_zero, List.set_cons_succ]
    generalize w0.alloc (.cells #[.int .u8 b] 5) = y1 at *
    generalize w0.heap.size = g at *
    refine wpAnyH_ready (rs := [4, 8]) (by kernel_rfl) (by simp) ?_
    refine AllReadyH.cons rfl (fun K hK => ?_) ?_
    · have hcv := HC.out y1 g G.out
      go_simp
      refine hK.out _ _ (SH.out _ B1.out) (fun hHeld => ?_)
      clear hK K
      try simp only [Act.put, List.getElem_toArray, List.getElem_cons_zero, List.getElem_cons_succ, List.setIfInBounds_toArray, List.set_cons_zero, List.set_cons_succ]
      refine wpAnyH_ready (rs := [8]) (by kernel_rfl) (by simp) ?_
      refine AllReadyH.cons rfl (fun K hK => ?_) AllReadyH.nil
      go_simp
      go_wp2_with (refine (CN.out _).mono ?_; rintro e z2 ⟨rfl, hb⟩; have D := hide hb; have B2 := hide (bthen B1.out hb); clear hb)
      refine hK.out _ _ (SH.out _ B2.out) (fun hHeld => ?_)
      clear hK K
      try simp only [Act.put, List.getElem_toArray, List.getElem_cons_zero, List.getElem_cons_succ, List.setIfInBounds_toArray, List.set_cons_zero, List.set_cons_succ]
      refine wpAnyH_take (i := 13) (v := .string v) rfl (by kernel_rfl) (by kernel_rfl) (by kernel_rfl) (fun _ _ _ h => h) (Or.inl ⟨by rfl, fun w hSw => by dsimp only at hSw; (simp [go_sem, hus, hev] <;> omega)⟩) hHeld ?_
      simp only [Act.put, List.getElem_toArray, List.getElem_cons_zero, List.getElem_cons_succ, List.setIfInBounds_toArray, List.set_cons_zero, List.set_cons_succ]
      refine wpAnyH_take (i := 14) (v := .string t) rfl (by kernel_rfl) (by kernel_rfl) (by kernel_rfl) (fun _ _ _ h => h) (Or.inl ⟨by rfl, fun w hSw => by dsimp only at hSw; go_simp⟩) hHeld ?_
      simp only [Act.put, List.getElem_toArray, List.getElem_cons_zero, List.getElem_cons_succ, List.setIfInBounds_toArray, List.set_cons_zero, List.set_cons_succ]
      refine wpAnyH_take (i := 15) (v := .string t) rfl (by kernel_rfl) (by kernel_rfl) (by kernel_rfl) (fun _ _ _ h => h) (Or.inl ⟨by rfl, fun w hSw => by dsimp only at hSw; go_simp⟩) hHeld ?_
      simp only [Act.put, List.getElem_toArray, List.getElem_cons_zero, List.getElem_cons_succ, List.setIfInBounds_toArray, List.set_cons_zero, List.set_cons_succ]
      refine wpAnyH_done (by kernel_rfl) ?_ _
      go_wp2_with fail
      go_ret
      exact ⟨rfl, bthen HB.out B2.out⟩
    refine AllReadyH.cons rfl (fun K hK => ?_) AllReadyH.nil
    go_simp
    go_wp2_with (refine (CN.out _).mono ?_; rintro e z2 ⟨rfl, hb⟩; have D := hide hb; have B2 := hide (bthen B1.out hb); clear hb)
    refine hK.out _ _ (SH.out _ B2.out) (fun hHeld => ?_)
    clear hK K
    try simp only [Act.put, List.getElem_toArray, List.getElem_cons_zero, List.getElem_cons_succ, List.setIfInBounds_toArray, List.set_cons_zero, List.set_cons_succ]
    refine wpAnyH_take (i := 13) (v := .string v) rfl (by kernel_rfl) (by kernel_rfl) (by kernel_rfl) (fun _ _ _ h => h) (Or.inl ⟨by rfl, fun w hSw => by dsimp only at hSw; (simp [go_sem, hus, hev] <;> omega)⟩) hHeld ?_
    simp only [Act.put, List.getElem_toArray, List.getElem_cons_zero, List.getElem_cons_succ, List.setIfInBounds_toArray, List.set_cons_zero, List.set_cons_succ]
    refine wpAnyH_ready (rs := [4]) (by kernel_rfl) (by simp) ?_
    refine AllReadyH.cons rfl (fun K hK => ?_) AllReadyH.nil
    have G2 := (D.out.cell (p := ⟨g, 0, none⟩) (block_lt_of_cell G.out)).trans G.out
    have hcv := HC.out z2 g G2
    go_simp
    refine hK.out _ _ (SH.out _ B2.out) (fun hHeld => ?_)
    clear hK K
    try simp only [Act.put, List.getElem_toArray, List.getElem_cons_zero, List.getElem_cons_succ, List.setIfInBounds_toArray, List.set_cons_zero, List.set_cons_succ]
    refine wpAnyH_take (i := 14) (v := .string t) rfl (by kernel_rfl) (by kernel_rfl) (by kernel_rfl) (fun _ _ _ h => h) (Or.inl ⟨by rfl, fun w hSw => by dsimp only at hSw; go_simp⟩) hHeld ?_
    simp only [Act.put, List.getElem_toArray, List.getElem_cons_zero, List.getElem_cons_succ, List.setIfInBounds_toArray, List.set_cons_zero, List.set_cons_succ]
    refine wpAnyH_take (i := 15) (v := .string t) rfl (by kernel_rfl) (by kernel_rfl) (by kernel_rfl) (fun _ _ _ h => h) (Or.inl ⟨by rfl, fun w hSw => by dsimp only at hSw; go_simp⟩) hHeld ?_
    simp only [Act.put, List.getElem_toArray, List.getElem_cons_zero, List.getElem_cons_succ, List.setIfInBounds_toArray, List.set_cons_zero, List.set_cons_succ]
    refine wpAnyH_done (by kernel_rfl) ?_ _
    go_wp2_with fail
    go_ret
    exact ⟨rfl, bthen HB.out B2.out⟩
  refine AllReadyH.cons rfl (fun K hK => ?_) AllReadyH.nil
  go_simp
  go_wp2_with (refine (CN.out _).mono ?_; rintro e z1 ⟨rfl, hb⟩; have D := hide hb; have B1 := hide (bthen B0.out hb); clear hb)
  refine hK.out _ _ (SH.out _ B1.out) (fun hHeld => ?_)
  clear hK K
  try simp only [Act.put, List.getElem_toArray, List.getElem_cons_zero, List.getElem_cons_succ, List.setIfInBounds_toArray, List.set_cons_zero, List.set_cons_succ]
  refine wpAnyH_take (i := 13) (v := .string v) rfl (by kernel_rfl) (by kernel_rfl) (by kernel_rfl) (fun _ _ _ h => h) (Or.inl ⟨by rfl, fun w hSw => by dsimp only at hSw; (simp [go_sem, hus, hev] <;> omega)⟩) hHeld ?_
  simp only [Act.put, List.getElem_toArray, List.getElem_cons_zero, List.getElem_cons_succ, List.setIfInBounds_toArray, List.set_cons_zero, List.set_cons_succ]
  refine wpAnyH_ready (rs := [3]) (by kernel_rfl) (by simp) ?_
  refine AllReadyH.cons rfl (fun K hK => ?_) AllReadyH.nil
  have B2 := hide (bthen B1.out (balloc (brefl z1) (.cells #[.int .u8 b] 5)))
  have G := hide (show (z1.alloc (.cells #[.int .u8 b] 5)).cell? ⟨z1.heap.size, 0, none⟩ = some (.int .u8 b) by simp)
  go_simp
  refine hK.out _ _ (SH.out _ B2.out) (fun hHeld => ?_)
  clear hK K
  try simp only [Act.put, List.getElem_toArray, List.getElem_cons_zero, List.getElem_cons_succ, List.setIfInBounds_toArray, List.set_cons_zero, List.set_cons_succ]
  generalize z1.alloc (.cells #[.int .u8 b] 5) = y2 at *
  generalize z1.heap.size = g at *
  refine wpAnyH_ready (rs := [4]) (by kernel_rfl) (by simp) ?_
  refine AllReadyH.cons rfl (fun K hK => ?_) AllReadyH.nil
  have hcv := HC.out y2 g G.out
  go_simp
  refine hK.out _ _ (SH.out _ B2.out) (fun hHeld => ?_)
  clear hK K
  try simp only [Act.put, List.getElem_toArray, List.getElem_cons_zero, List.getElem_cons_succ, List.setIfInBounds_toArray, List.set_cons_zero, List.set_cons_succ]
  refine wpAnyH_take (i := 14) (v := .string t) rfl (by kernel_rfl) (by kernel_rfl) (by kernel_rfl) (fun _ _ _ h => h) (Or.inl ⟨by rfl, fun w hSw => by dsimp only at hSw; go_simp⟩) hHeld ?_
  simp only [Act.put, List.getElem_toArray, List.getElem_cons_zero, List.getElem_cons_succ, List.setIfInBounds_toArray, List.set_cons_zero, List.set_cons_succ]
  refine wpAnyH_take (i := 15) (v := .string t) rfl (by kernel_rfl) (by kernel_rfl) (by kernel_rfl) (fun _ _ _ h => h) (Or.inl ⟨by rfl, fun w hSw => by dsimp only at hSw; go_simp⟩) hHeld ?_
  simp only [Act.put, List.getElem_toArray, List.getElem_cons_zero, List.getElem_cons_succ, List.setIfInBounds_toArray, List.set_cons_zero, List.set_cons_succ]
  refine wpAnyH_done (by kernel_rfl) ?_ _
  go_wp2_with fail
  go_ret
  exact ⟨rfl, bthen HB.out B2.out⟩
end Go.Proofs.Ytkhmhmopcofejaa

/- The contract of the document's prefixes, one behind the other. -/
namespace Go.Proofs.Ytkhmhmopcofejaa
open Go.RowKit Go.Sort

theorem pfxs_take {l : List (Int × Int)} {k : Nat} (h : k < l.length) : pfxs (l.take (k + 1)) = pfxs (l.take k) ++ pfx l[k] := by
  unfold pfxs
  rw [List.take_succ_eq_append_getElem h, List.flatMap_append]
  simp only [List.flatMap_cons, List.flatMap_nil, List.append_nil]
theorem pfxs_len {l : List (Int × Int)} (h : ∀ p ∈ l, Gp p) : (pfxs l).length ≤ l.length * 5 := by
  induction l with
  | nil => simp [pfxs]
  | cons p m ih =>
    have hp := h p (List.mem_cons_self ..)
    have h1 := pfx_length p hp
    have h2 := ih fun x hx => h x (List.mem_cons_of_mem _ hx)
    have h3 : pn p ≤ 4 := by unfold pn; have := hp.2.2.2.1; omega
    simp only [pfxs, List.flatMap_cons, List.length_append, List.length_cons] at *
    omega
set_option maxHeartbeats 1000000 in
set_option maxRecDepth 100000 in
theorem refPfxs_is (ao : Option Addr) (ca : Nat) (l : List (Int × Int)) (t : ByteArray) (ht : t = ⟨(pfxs l).toArray⟩) (hg : ∀ p ∈ l, Gp p) (hl : l.length ≤ 100) (w : World) (hA : Ax.Ad.rowAt w ao l) :
    Calls Try.prog 35 #[.slice ao l.length ca] w fun e w' => e = .returned (.string t) ∧ Below w.heap.size w w' := by
  have HT := hide ht
  have HG := hide hg
  have HA := hide hA
  clear ht hg hA
  go_enter Try.func35, Try.ntmps35
  go_wp2_with fail
  go_loopw [3, 4] (fun v3 v4 wr => ∃ (k : Nat) (s : ByteArray), k ≤ l.length ∧ v3 = .string s ∧ v4 = .int .i64 k ∧ Hid (s = ⟨(pfxs (l.take k)).toArray⟩) ∧ Below w.heap.size w wr) (fun _ v4 _ => l.length - (intOf v4).toNat)
  case atStart => exact ⟨0, _, Nat.zero_le _, rfl, rfl, (by show _ = _; rfl), brefl w⟩
  case round =>
    obtain ⟨k, s, hk, rfl, rfl, HS, hb⟩ := hrel
    by_cases hkl : k < l.length
    · have hkl' : (k : Int) < (l.length : Int) := by omega
      obtain ⟨b, off, rfl, hrd⟩ : ∃ b off, ao = some ⟨b, off, none⟩ ∧ Ax.Ad.reads w b off l := by
        rcases HA.out with h | h
        · rw [h] at hkl; simp at hkl
        · exact h
      obtain ⟨c0, c1⟩ := Ax.Ad.reads_at (Ax.Ad.reads_below hrd hb) k hkl
      have hgk := HG.out l[k] (List.getElem_mem hkl)
      obtain ⟨t1, ht1⟩ : ∃ t1 : ByteArray, t1 = ⟨(pfx l[k]).toArray⟩ := ⟨_, rfl⟩
      obtain ⟨s1, hs1⟩ : ∃ s1 : ByteArray, s1 = ⟨(pfxs (l.take (k + 1))).toArray⟩ := ⟨_, rfl⟩
      have CP := hide (fun W => refPfx_is l[k] t1 ht1 hgk W)
      have hA1 : Adds s t1 s1 := by
        have hp := pfx_length l[k] hgk
        have hp2 : pn l[k] ≤ 4 := by unfold pn; have := hgk.2.2.2.1; omega
        have hq := pfxs_len (l := l.take k) fun x hx => HG.out x (List.mem_of_mem_take hx)
        rw [List.length_take] at hq
        rw [HS.out, ht1, hs1, pfxs_take hkl]
        exact adds_list _ _ (by omega) (by omega)
      have HS1 := hide hs1
      have HBR := hide hb
      clear ht1 hs1 hrd hb hgk
      generalize l[k] = pk at *
      obtain ⟨pa, pb⟩ := pk
      unfold Adds at hA1
      go_wp2_with fail
      refine (CP.out _).mono ?_
      rintro e w1 ⟨rfl, hb1⟩
      have B1 := hide (bthen HBR.out hb1)
      clear hb1 CP
      go_wp2_with fail
      exact ⟨⟨k + 1, s1, hkl, rfl, by go_num, HS1, B1.out⟩, by simp [intOf] <;> omega⟩
    · obtain rfl : k = l.length := by omega
      have HE : Hid (s = t) := by show _ = _; rw [HT.out, HS.out, List.take_length]
      go_wp2_with fail
      go_ret
      exact ⟨by rw [← HE.out]; rfl, hb⟩
end Go.Proofs.Ytkhmhmopcofejaa

