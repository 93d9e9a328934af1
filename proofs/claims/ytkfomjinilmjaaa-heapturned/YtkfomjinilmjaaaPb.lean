/- The law HeapPops. -/
import Derived.Test.YtkfomjinilmjaaaPa
namespace Go.Proofs.Ytkfomjinilmjaaa
open Go.RowKit Go.Maps

theorem alls_len {lt : Int → Int → Bool} {L : List RwS} {ks : List ByteArray} (h : Alls lt L ks) : Once L → L.Pairwise (fun a b => a.t < b.t) → ks.length = L.length := by
  induction h with
  | nil => intro _ _; rfl
  | cons f _ ih =>
    intro ho ht
    obtain ⟨j, hj⟩ := List.mem_iff_getElem?.1 f.1
    have h1 := ih (ho.without ht _) (List.Pairwise.filter _ ht)
    have h2 := without_len ho hj
    have h3 := get_lt hj
    rw [List.length_cons, h1, h2]
    omega
theorem alls_inv {lt : Int → Int → Bool} {L : List RwS} {ks : List ByteArray} {x : RwS} (h : Alls lt L ks) (ht : L.Pairwise fun a b => a.t < b.t) (hx : Fst lt L x) : ∃ r, ks = x.k :: r ∧ Alls lt (without L x.k) r := by
  cases h with
  | nil => exact absurd hx.1 (by simp)
  | cons f h2 =>
    have := f.one ht hx
    subst this
    exact ⟨_, rfl, h2⟩
theorem rowOf_without (L : List RwS) (k : ByteArray) : (rowOf (without L k) k).isSome = false := by
  rw [rowOf_none.2 fun x hx => (mem_without.1 hx).2]
  rfl
/-- While a heap is popped. -/
structure Po (w0 wr : World) (h : Nat) (T : Int) (ao : Option Addr) (m : Nat) (ar : Option Addr) (ks : List ByteArray) (n i : Nat) (last : Int) (L : List RwS) : Prop where
  hs : HS ltI w0 wr h 9 L T ao m
  row : Ks.slot wr ar ks
  new : ∀ a, ar = some a → ¬ Own h m ao a.block
  all : Alls ltI L (ks.drop i)
  len : L.length + i = n
  up : 0 < i → ∀ x ∈ L, last ≤ x.r
set_option maxHeartbeats 8000000 in
set_option maxRecDepth 100000 in
theorem law_pops (ao : Option Addr) (cap : Nat) (os : List Opn) (w : World) (hR : Opn.rowAt w ao os) :
    Calls Try.prog 4 #[.slice ao os.length cap] w fun e w' => e = .returned (.bool true) ∧ Below w.heap.size w w' := by
  have CN := hide (new_is ltI 9 w)
  have CV := hide (fun W => lives_is W)
  have HRW := hide hR
  clear hR
  go_enter Try.func4, Try.ntmps4
  go_wp2_with fail
  refine CN.out.mono ?_
  intro e w1 hm
  obtain ⟨h, m, rfl, S1, _, _⟩ := HS.made hm (brefl w)
  have HS1 := hide S1
  clear hm S1 CN
  go_wp2_with fail
  go_loopw [4] (fun v4 wr => ∃ (k : Nat) (L : List RwS) (T : Int) (ah : Option Addr), v4 = .int .i64 k ∧ k ≤ os.length ∧ k ≤ 60 ∧ L.length ≤ k ∧ T ≤ k ∧ Hid (HS ltI w wr h 9 L T ah m)) (fun v4 _ => os.length - (intOf v4).toNat)
  case atStart => exact ⟨0, [], 0, none, rfl, Nat.zero_le _, Nat.zero_le _, Nat.le_refl _, Int.le_refl _, HS1⟩
  case round =>
    obtain ⟨k, L, T, ah, rfl, hk, hk6, hL, hT, S2⟩ := hrel
    clear HS1
    by_cases hlt : k < os.length
    · by_cases h60 : k < 60
      · have hlt' : (k : Int) < (os.length : Int) := by omega
        have h60' : (k : Int) < 60 := by omega
        obtain ⟨b, off, rfl, hbl, hr⟩ : ∃ b off, ao = some ⟨b, off, none⟩ ∧ b < w.heap.size ∧ Opn.reads w b off os := by
          rcases HRW.out with h | h
          · rw [h] at hlt; simp at hlt
          · exact h
        obtain ⟨e0, e1, e2⟩ := Opn.reads_below hr hbl S2.out.below k hlt
        have HR : Hid (∀ W, Below w.heap.size w W → W.cell? ⟨b, off + k * 3 + 1, none⟩ = some (.int .i64 os[k].2.1) ∧ W.cell? ⟨b, off + k * 3 + 2, none⟩ = some (.string os[k].2.2)) := fun W hW => (Opn.reads_below hr hbl hW k hlt).2
        have HR0 : Hid (∀ W, Below w.heap.size w W → W.cell? ⟨b, off + k * 3, none⟩ = some (.int .i64 os[k].1)) := fun W hW => (Opn.reads_below hr hbl hW k hlt).1
        generalize os[k] = x at *
        obtain ⟨x0, x1, x2⟩ := x
        simp only at e0 e1 e2 HR HR0
        have CLt := hide (light_is x0 x1 x2 wr)
        clear hr
        by_cases hx2 : x2.size ≤ 200
        · rw [decide_eq_true hx2] at CLt
          go_wp2_with fail
          refine CLt.out.mono ?_
          rintro e w2 ⟨rfl, hb2⟩
          replace S2 := hide (S2.out.next hb2)
          replace e0 := HR0.out w2 S2.out.below
          replace e1 := (HR.out w2 S2.out.below).1
          replace e2 := (HR.out w2 S2.out.below).2
          clear hb2 CLt
          by_cases hx0 : x0 = 1
          · subst hx0
            have CD := hide (drop_is ordsI lessI S2.out.hp (by omega) hx2)
            go_wp2_with fail
            refine CD.out.mono ?_
            rintro e w3 ⟨rfl, h3, k3⟩
            have HS3 := hide (S2.out.without h3 k3)
            have hl3 : (without L x2).length ≤ L.length := List.length_filter_le _ _
            clear h3 k3 CD S2
            go_wp2_with fail
            exact ⟨⟨k + 1, _, T, ah, by go_num, by omega, by omega, by omega, by omega, HS3⟩, by simp [intOf]; omega⟩
          · have hx0' : (x0 == 1) = false := by simp [hx0]
            have S2d := hide (S2.out.next (brefl w2).drew)
            have CS := hide (set_is ordsI lessI S2d.out.hp (by omega) hx2 x1 S2d.out.t0 (by omega) S2d.out.top)
            have hl3 := set_len (k := x2) (r := x1) S2.out
            go_wp2_with fail
            refine wp_region_held_drew (S := fun w' => w'.cell? ⟨b, off + k * 3 + 1, none⟩ = some (.int .i64 x1) ∧ w'.cell? ⟨b, off + k * 3 + 2, none⟩ = some (.string x2)) (by kernel_rfl) ⟨e1, e2⟩ (fun hHeld => ?_)
            refine wpAnyH_take (i := 0) (v := .pointer (some ⟨h, 0, none⟩)) rfl (by kernel_rfl) (by kernel_rfl) (by kernel_rfl) (fun _ _ _ h => h) (Or.inl ⟨by rfl, fun w hSw => by dsimp only at hSw; go_simp⟩) hHeld ?_
            simp only [Act.put, List.getElem_toArray, List.getElem_cons_zero, List.setIfInBounds_toArray, List.set_cons_zero, List.set_cons_succ]
            refine wpAnyH_take (i := 1) (v := .slice (some ⟨b, off, none⟩) os.length cap) rfl (by kernel_rfl) (by kernel_rfl) (by kernel_rfl) (fun _ _ _ h => h) (Or.inl ⟨by rfl, fun w hSw => by dsimp only at hSw; go_simp⟩) hHeld ?_
            simp only [Act.put, List.getElem_toArray, List.getElem_cons_zero, List.getElem_cons_succ, List.setIfInBounds_toArray, List.set_cons_zero, List.set_cons_succ]
            refine wpAnyH_take (i := 2) (v := .int .i64 k) rfl (by kernel_rfl) (by kernel_rfl) (by kernel_rfl) (fun _ _ _ h => h) (Or.inl ⟨by rfl, fun w hSw => by dsimp only at hSw; go_simp⟩) hHeld ?_
            simp only [Act.put, List.getElem_toArray, List.getElem_cons_zero, List.getElem_cons_succ, List.setIfInBounds_toArray, List.set_cons_zero, List.set_cons_succ]
            refine wpAnyH_take (i := 3) (v := .pointer (some ⟨b, off + k * 3, none⟩)) rfl (by kernel_rfl) (by kernel_rfl) (by kernel_rfl) (fun _ _ _ h => h) (Or.inl ⟨by rfl, fun w hSw => by dsimp only at hSw; go_simp⟩) hHeld ?_
            simp only [Act.put, List.getElem_toArray, List.getElem_cons_zero, List.getElem_cons_succ, List.setIfInBounds_toArray, List.set_cons_zero, List.set_cons_succ]
            refine wpAnyH_take (i := 4) (v := .pointer (some ⟨b, off + k * 3 + 2, none⟩)) rfl (by kernel_rfl) (by kernel_rfl) (by kernel_rfl) (fun _ _ _ h => h) (Or.inl ⟨by rfl, fun w hSw => by dsimp only at hSw; go_simp⟩) hHeld ?_
            simp only [Act.put, List.getElem_toArray, List.getElem_cons_zero, List.getElem_cons_succ, List.setIfInBounds_toArray, List.set_cons_zero, List.set_cons_succ]
            refine wpAnyH_take (i := 5) (v := .string x2) rfl (by kernel_rfl) (by kernel_rfl) (by kernel_rfl) (fun _ _ _ h => h) (Or.inl ⟨by rfl, fun w hSw => by dsimp only at hSw; go_simp⟩) hHeld ?_
            simp only [Act.put, List.getElem_toArray, List.getElem_cons_zero, List.getElem_cons_succ, List.setIfInBounds_toArray, List.set_cons_zero, List.set_cons_succ]
            refine wpAnyH_take (i := 6) (v := .slice (some ⟨b, off, none⟩) os.length cap) rfl (by kernel_rfl) (by kernel_rfl) (by kernel_rfl) (fun _ _ _ h => h) (Or.inl ⟨by rfl, fun w hSw => by dsimp only at hSw; go_simp⟩) hHeld ?_
            simp only [Act.put, List.getElem_toArray, List.getElem_cons_zero, List.getElem_cons_succ, List.setIfInBounds_toArray, List.set_cons_zero, List.set_cons_succ]
            refine wpAnyH_take (i := 7) (v := .int .i64 k) rfl (by kernel_rfl) (by kernel_rfl) (by kernel_rfl) (fun _ _ _ h => h) (Or.inl ⟨by rfl, fun w hSw => by dsimp only at hSw; go_simp⟩) hHeld ?_
            simp only [Act.put, List.getElem_toArray, List.getElem_cons_zero, List.getElem_cons_succ, List.setIfInBounds_toArray, List.set_cons_zero, List.set_cons_succ]
            refine wpAnyH_take (i := 8) (v := .pointer (some ⟨b, off + k * 3, none⟩)) rfl (by kernel_rfl) (by kernel_rfl) (by kernel_rfl) (fun _ _ _ h => h) (Or.inl ⟨by rfl, fun w hSw => by dsimp only at hSw; go_simp⟩) hHeld ?_
            simp only [Act.put, List.getElem_toArray, List.getElem_cons_zero, List.getElem_cons_succ, List.setIfInBounds_toArray, List.set_cons_zero, List.set_cons_succ]
            refine wpAnyH_take (i := 9) (v := .pointer (some ⟨b, off + k * 3 + 1, none⟩)) rfl (by kernel_rfl) (by kernel_rfl) (by kernel_rfl) (fun _ _ _ h => h) (Or.inl ⟨by rfl, fun w hSw => by dsimp only at hSw; go_simp⟩) hHeld ?_
            simp only [Act.put, List.getElem_toArray, List.getElem_cons_zero, List.getElem_cons_succ, List.setIfInBounds_toArray, List.set_cons_zero, List.set_cons_succ]
            refine wpAnyH_take (i := 10) (v := .int .i64 x1) rfl (by kernel_rfl) (by kernel_rfl) (by kernel_rfl) (fun _ _ _ h => h) (Or.inl ⟨by rfl, fun w hSw => by dsimp only at hSw; go_simp⟩) hHeld ?_
            simp only [Act.put, List.getElem_toArray, List.getElem_cons_zero, List.getElem_cons_succ, List.setIfInBounds_toArray, List.set_cons_zero, List.set_cons_succ]
            refine wpAnyH_ready (rs := [11]) (by kernel_rfl) (by simp) ?_
            refine AllReadyH.cons rfl (fun K hK => ?_) AllReadyH.nil
            go_simp
            go_wp2_with (refine CS.out.mono ?_; intro e w3 hs; obtain ⟨rfl, ao3, S3, _, _⟩ := S2d.out.set hs; have HS3 := hide S3; clear hs S3)
            refine hK.out _ _ ⟨(HR.out w3 HS3.out.below).1, (HR.out w3 HS3.out.below).2⟩ (fun hHeld => ?_)
            clear hK K
            try simp only [Act.put, List.getElem_toArray, List.getElem_cons_zero, List.getElem_cons_succ, List.setIfInBounds_toArray, List.set_cons_zero, List.set_cons_succ]
            refine wpAnyH_done (by kernel_rfl) ?_ _
            clear CS S2 S2d
            go_wp2_with fail
            exact ⟨⟨k + 1, _, T + 1, ao3, by go_num, by omega, by omega, by omega, by omega, HS3⟩, by simp [intOf]; omega⟩
        · rw [decide_eq_false hx2] at CLt
          go_wp2_with fail
          refine CLt.out.mono ?_
          rintro e w2 ⟨rfl, hb2⟩
          have B2 := hide (bthen S2.out.below hb2)
          clear hb2 CLt S2
          go_wp2_with fail
          refine (CV.out _).mono ?_
          rintro e w3 ⟨rfl, hb3⟩
          have B3 := hide (bthen B2.out hb3)
          clear hb3
          go_wp2_with fail
          go_ret
          exact ⟨rfl, B3.out⟩
      · have h60' : ¬ (k : Int) < 60 := by omega
        have hlt' : (k : Int) < (os.length : Int) := by omega
        have CA := hide (all_is ordsI lessI S2.out.hp (by omega))
        go_wp2_with fail
        refine CA.out.mono ?_
        rintro e w2 ⟨ar, cr, ks, rfl, hsl, hnw, hall, hb2⟩
        have hks := alls_len hall S2.out.hp.once S2.out.hp.turn
        have CL := hide (len_is (S2.out.next hb2).hp (by omega))
        have P2 : Hid (Po w w2 h T ah m ar ks L.length 0 0 L) := ⟨S2.out.next hb2, hsl, fun a e hO => by have := hnw a e; have := S2.out.hp.old _ hO; omega, hall, rfl, fun h => absurd h (by omega)⟩
        clear hsl hnw hall hb2 CA S2
        go_wp2_with fail
        refine CL.out.mono ?_
        rintro e w3 ⟨rfl, hw⟩
        have hw' := hw.symm
        clear hw
        subst hw'
        clear CL
        obtain ⟨n, hn⟩ : ∃ n, L.length = n := ⟨_, rfl⟩
        rw [hn] at P2 hks ⊢
        have hn6 : n ≤ 60 := by omega
        clear hn
        go_wp2_with fail
        go_loopw [7, 8] (fun v7 v8 wr => ∃ (i : Nat) (last : Int) (L' : List RwS), v7 = .int .i64 last ∧ v8 = .int .i64 i ∧ i ≤ n ∧ Hid (Po w wr h T ah m ar ks n i last L')) (fun _ v8 _ => n - (intOf v8).toNat)
        case atStart => exact ⟨0, 0, L, rfl, rfl, Nat.zero_le _, P2⟩
        case round =>
          obtain ⟨i, last, L', rfl, rfl, hi, P3⟩ := hrel
          clear P2
          have hlen := P3.out.len
          by_cases hin : i < n
          · have hin' : (i : Int) < (n : Int) := by omega
            have CP := hide (pop_is ordsI lessI P3.out.hs.hp (by omega))
            obtain ⟨bs, os', rfl, hbs, hrs⟩ : ∃ b off, ar = some ⟨b, off, none⟩ ∧ b < wr.heap.size ∧ ∀ j (h : j < ks.length), wr.cell? ⟨b, off + j, none⟩ = some (.string ks[j]) := by
              rcases P3.out.row with h | h
              · rw [h] at hks; simp at hks; omega
              · exact h
            go_wp2_with fail
            refine CP.out.mono ?_
            rintro e w4 hp
            rcases hp with ⟨e2, _⟩ | ⟨x, hF, rfl, h4, k4⟩
            · rw [e2] at hlen; simp at hlen; omega
            have hl2 := fst_len P3.out.hs.hp hF
            obtain ⟨rs, hrs1, hrs2⟩ := alls_inv P3.out.all P3.out.hs.hp.turn hF
            have hki : ks[i]'(by omega) = x.k ∧ ks.drop (i + 1) = rs := by
              rw [List.drop_eq_getElem_cons (by omega)] at hrs1
              exact ⟨(List.cons.inj hrs1).1, (List.cons.inj hrs1).2⟩
            have hnB : ¬ Own h m ah bs := P3.out.new _ rfl
            have e0 : w4.cell? ⟨bs, os' + i, none⟩ = some (.string x.k) := by
              rw [World.cell?_of_block (a := ⟨bs, os' + i, none⟩) (k4.block bs hnB hbs), hrs i (by omega), hki.1]
            have P4 : Hid (Po w w4 h T ah m (some ⟨bs, os', none⟩) ks n (i + 1) x.r (without L' x.k)) := ⟨P3.out.hs.without h4 k4, Ks.kept P3.out.row k4 P3.out.new, P3.out.new, by rw [hki.2]; exact hrs2, by omega, fun _ y hy => by
              have := hF.2 y (mem_without.1 hy).1
              rw [ahd_false] at this
              have := this.1
              simp [ltI] at this
              exact this⟩
            have CL := hide (len_is P4.out.hs.hp (by omega))
            have CR := hide (rank_is P4.out.hs.hp (by omega) (P3.out.hs.hp.sm x hF.1))
            rw [rowOf_without] at CR
            have hup : 0 < i → ¬ x.r < last := fun h0 => by have := P3.out.up h0 x hF.1; omega
            have hll : ((without L' x.k).length : Int) = (n : Int) - (i : Int) - 1 := by omega
            have hne : (((without L' x.k).length : Int) != (n : Int) - (i : Int) - 1) = false := by rw [hll]; simp
            have hnk : ¬ (ks.length : Int) ≤ (i : Int) := by omega
            have hki2 : (i : Int) < (ks.length : Int) := by omega
            clear hlen hl2 hrs1 hrs2 hki hrs CP hll P3 h4 k4 hF
            generalize without L' x.k = L4 at *
            generalize (match rowOf L4 x.k with | some a => a.r | none => 0) = rr at *
            generalize L4.length = n4 at *
            obtain ⟨xk, xr, xt⟩ := x
            simp only at e0 P4 CR hup
            have hbeq : (xk != xk) = false := by rw [bne, (Go.MapKept.bytes_beq xk xk).2 rfl]; rfl
            by_cases hpos : 0 < i
            · have hpos' : (0 : Int) < (i : Int) := by omega
              have hup' := hup hpos
              clear hup
              go_wp2_with fail
              refine CL.out.mono ?_
              rintro e w5 ⟨rfl, hw⟩
              have hw' := hw.symm
              clear hw
              subst hw'
              go_wp2_with fail
              refine CR.out.mono ?_
              rintro e w6 ⟨rfl, hw⟩
              have hw' := hw.symm
              clear hw
              subst hw'
              go_wp2_with fail
              exact ⟨⟨i + 1, xr, L4, rfl, by go_num, by omega, P4⟩, by simp [intOf]; omega⟩
            · have hpos' : ¬ (0 : Int) < (i : Int) := by omega
              clear hup
              go_wp2_with fail
              refine CL.out.mono ?_
              rintro e w5 ⟨rfl, hw⟩
              have hw' := hw.symm
              clear hw
              subst hw'
              go_wp2_with fail
              refine CR.out.mono ?_
              rintro e w6 ⟨rfl, hw⟩
              have hw' := hw.symm
              clear hw
              subst hw'
              go_wp2_with fail
              exact ⟨⟨i + 1, xr, L4, rfl, by go_num, by omega, P4⟩, by simp [intOf]; omega⟩
          · obtain rfl : i = n := by omega
            have hin' : ¬ (i : Int) < (i : Int) := by omega
            have hL0 : L' = [] := List.length_eq_zero_iff.1 (by omega)
            subst hL0
            have CP := hide (pop_is ordsI lessI P3.out.hs.hp (by simp))
            have B3 := hide P3.out.hs.below
            have hkn : ((ks.length : Int) == (i : Int)) = true := by simp; omega
            clear hlen P3
            go_wp2_with fail
            refine CP.out.mono ?_
            rintro e w4 hp
            rcases hp with ⟨_, rfl, hw⟩ | ⟨x, hF, _⟩
            · have hw' := hw.symm
              clear hw
              subst hw'
              go_wp2_with fail
              refine (CV.out _).mono ?_
              rintro e w5 ⟨rfl, hb5⟩
              have B5 := hide (bthen B3.out hb5)
              clear hb5
              go_wp2_with fail
              go_ret
              exact ⟨rfl, B5.out⟩
            · exact absurd hF.1 (by simp)
    · have hlt' : ¬ (k : Int) < (os.length : Int) := by omega
      have CA := hide (all_is ordsI lessI S2.out.hp (by omega))
      go_wp2_with fail
      refine CA.out.mono ?_
      rintro e w2 ⟨ar, cr, ks, rfl, hsl, hnw, hall, hb2⟩
      have hks := alls_len hall S2.out.hp.once S2.out.hp.turn
      have CL := hide (len_is (S2.out.next hb2).hp (by omega))
      have P2 : Hid (Po w w2 h T ah m ar ks L.length 0 0 L) := ⟨S2.out.next hb2, hsl, fun a e hO => by have := hnw a e; have := S2.out.hp.old _ hO; omega, hall, rfl, fun h => absurd h (by omega)⟩
      clear hsl hnw hall hb2 CA S2
      go_wp2_with fail
      refine CL.out.mono ?_
      rintro e w3 ⟨rfl, hw⟩
      have hw' := hw.symm
      clear hw
      subst hw'
      clear CL
      obtain ⟨n, hn⟩ : ∃ n, L.length = n := ⟨_, rfl⟩
      rw [hn] at P2 hks ⊢
      have hn6 : n ≤ 60 := by omega
      clear hn
      go_wp2_with fail
      go_loopw [7, 8] (fun v7 v8 wr => ∃ (i : Nat) (last : Int) (L' : List RwS), v7 = .int .i64 last ∧ v8 = .int .i64 i ∧ i ≤ n ∧ Hid (Po w wr h T ah m ar ks n i last L')) (fun _ v8 _ => n - (intOf v8).toNat)
      case atStart => exact ⟨0, 0, L, rfl, rfl, Nat.zero_le _, P2⟩
      case round =>
        obtain ⟨i, last, L', rfl, rfl, hi, P3⟩ := hrel
        clear P2
        have hlen := P3.out.len
        by_cases hin : i < n
        · have hin' : (i : Int) < (n : Int) := by omega
          have CP := hide (pop_is ordsI lessI P3.out.hs.hp (by omega))
          obtain ⟨bs, os', rfl, hbs, hrs⟩ : ∃ b off, ar = some ⟨b, off, none⟩ ∧ b < wr.heap.size ∧ ∀ j (h : j < ks.length), wr.cell? ⟨b, off + j, none⟩ = some (.string ks[j]) := by
            rcases P3.out.row with h | h
            · rw [h] at hks; simp at hks; omega
            · exact h
          go_wp2_with fail
          refine CP.out.mono ?_
          rintro e w4 hp
          rcases hp with ⟨e2, _⟩ | ⟨x, hF, rfl, h4, k4⟩
          · rw [e2] at hlen; simp at hlen; omega
          have hl2 := fst_len P3.out.hs.hp hF
          obtain ⟨rs, hrs1, hrs2⟩ := alls_inv P3.out.all P3.out.hs.hp.turn hF
          have hki : ks[i]'(by omega) = x.k ∧ ks.drop (i + 1) = rs := by
            rw [List.drop_eq_getElem_cons (by omega)] at hrs1
            exact ⟨(List.cons.inj hrs1).1, (List.cons.inj hrs1).2⟩
          have hnB : ¬ Own h m ah bs := P3.out.new _ rfl
          have e0 : w4.cell? ⟨bs, os' + i, none⟩ = some (.string x.k) := by
            rw [World.cell?_of_block (a := ⟨bs, os' + i, none⟩) (k4.block bs hnB hbs), hrs i (by omega), hki.1]
          have P4 : Hid (Po w w4 h T ah m (some ⟨bs, os', none⟩) ks n (i + 1) x.r (without L' x.k)) := ⟨P3.out.hs.without h4 k4, Ks.kept P3.out.row k4 P3.out.new, P3.out.new, by rw [hki.2]; exact hrs2, by omega, fun _ y hy => by
            have := hF.2 y (mem_without.1 hy).1
            rw [ahd_false] at this
            have := this.1
            simp [ltI] at this
            exact this⟩
          have CL := hide (len_is P4.out.hs.hp (by omega))
          have CR := hide (rank_is P4.out.hs.hp (by omega) (P3.out.hs.hp.sm x hF.1))
          rw [rowOf_without] at CR
          have hup : 0 < i → ¬ x.r < last := fun h0 => by have := P3.out.up h0 x hF.1; omega
          have hll : ((without L' x.k).length : Int) = (n : Int) - (i : Int) - 1 := by omega
          have hne : (((without L' x.k).length : Int) != (n : Int) - (i : Int) - 1) = false := by rw [hll]; simp
          have hnk : ¬ (ks.length : Int) ≤ (i : Int) := by omega
          have hki2 : (i : Int) < (ks.length : Int) := by omega
          clear hlen hl2 hrs1 hrs2 hki hrs CP hll P3 h4 k4 hF
          generalize without L' x.k = L4 at *
          generalize (match rowOf L4 x.k with | some a => a.r | none => 0) = rr at *
          generalize L4.length = n4 at *
          obtain ⟨xk, xr, xt⟩ := x
          simp only at e0 P4 CR hup
          have hbeq : (xk != xk) = false := by rw [bne, (Go.MapKept.bytes_beq xk xk).2 rfl]; rfl
          by_cases hpos : 0 < i
          · have hpos' : (0 : Int) < (i : Int) := by omega
            have hup' := hup hpos
            clear hup
            go_wp2_with fail
            refine CL.out.mono ?_
            rintro e w5 ⟨rfl, hw⟩
            have hw' := hw.symm
            clear hw
            subst hw'
            go_wp2_with fail
            refine CR.out.mono ?_
            rintro e w6 ⟨rfl, hw⟩
            have hw' := hw.symm
            clear hw
            subst hw'
            go_wp2_with fail
            exact ⟨⟨i + 1, xr, L4, rfl, by go_num, by omega, P4⟩, by simp [intOf]; omega⟩
          · have hpos' : ¬ (0 : Int) < (i : Int) := by omega
            clear hup
            go_wp2_with fail
            refine CL.out.mono ?_
            rintro e w5 ⟨rfl, hw⟩
            have hw' := hw.symm
            clear hw
            subst hw'
            go_wp2_with fail
            refine CR.out.mono ?_
            rintro e w6 ⟨rfl, hw⟩
            have hw' := hw.symm
            clear hw
            subst hw'
            go_wp2_with fail
            exact ⟨⟨i + 1, xr, L4, rfl, by go_num, by omega, P4⟩, by simp [intOf]; omega⟩
        · obtain rfl : i = n := by omega
          have hin' : ¬ (i : Int) < (i : Int) := by omega
          have hL0 : L' = [] := List.length_eq_zero_iff.1 (by omega)
          subst hL0
          have CP := hide (pop_is ordsI lessI P3.out.hs.hp (by simp))
          have B3 := hide P3.out.hs.below
          have hkn : ((ks.length : Int) == (i : Int)) = true := by simp; omega
          clear hlen P3
          go_wp2_with fail
          refine CP.out.mono ?_
          rintro e w4 hp
          rcases hp with ⟨_, rfl, hw⟩ | ⟨x, hF, _⟩
          · have hw' := hw.symm
            clear hw
            subst hw'
            go_wp2_with fail
            refine (CV.out _).mono ?_
            rintro e w5 ⟨rfl, hb5⟩
            have B5 := hide (bthen B3.out hb5)
            clear hb5
            go_wp2_with fail
            go_ret
            exact ⟨rfl, B5.out⟩
          · exact absurd hF.1 (by simp)
end Go.Proofs.Ytkfomjinilmjaaa
