/- The law LexJoins. -/
import Derived.Test.YtdkfamlnmjhcfaaB6
namespace Go.Proofs.Ytdkfamlnmjhcfaa
open Go.RowKit Go.Sort

set_option maxHeartbeats 2000000 in
set_option maxRecDepth 100000 in
theorem law_joins (K : Kit11) (ao : Option Addr) (c : Nat) (l : List Tv) (N : Nat) (hN : l.length = N) (w : World) (hr : Tv.slot w ao l) : Calls Try.prog 3 #[.slice ao N c] w fun e w' => e = .returned (.bool true) ∧ Below w.heap.size w w' := by
  have CL := hide (fun W => lives11_is K W)
  have HR := hide hr
  have HN := hide hN
  clear hr hN
  go_enter Try.func3, Try.ntmps3
  by_cases h3 : 300 < N
  · have h3' : (300 : Int) < (N : Int) := by omega
    go_wp2_with fail
    refine (CL.out _).mono ?_
    rintro e wz ⟨rfl, hbz⟩
    go_wp2_with fail
    go_ret
    exact ⟨rfl, hbz⟩
  · have h3' : ¬ (300 : Int) < (N : Int) := by omega
    go_wp2_with fail
    go_loopw [3] (fun v3 wr => ∃ i : Nat, v3 = .int .i64 (i : Int) ∧ i ≤ N ∧ Hid (∀ j (h : j < l.length), j < i → l[j].s.size ≤ 200) ∧ w = wr) (fun v3 _ => N - (intOf v3).toNat)
    case atStart => exact ⟨0, rfl, Nat.zero_le _, fun j _ h => by omega, rfl⟩
    case round =>
      obtain ⟨i, rfl, hiN, HZ, rfl⟩ := hrel
      rcases Nat.lt_or_ge i N with hlt | hge
      · have h1 : (i : Int) < (N : Int) := by omega
        have hil : i < l.length := by rw [HN.out]; exact hlt
        obtain ⟨b, off, rfl, hat⟩ : ∃ b off, ao = some ⟨b, off, none⟩ ∧ ∀ j (h : j < l.length), Tv.at_ w b (off + j * 4) l[j] := by
          rcases HR.out with h | h
          · rw [h] at hil; simp at hil
          · exact h
        obtain ⟨_, c1, _, _⟩ := hat i hil
        clear hat
        by_cases hz : 200 < l[i].s.size
        · have hz' : (200 : Int) < (l[i].s.size : Int) := by omega
          go_wp2_with fail
          refine (CL.out _).mono ?_
          rintro e wz ⟨rfl, hbz⟩
          go_wp2_with fail
          go_ret
          exact ⟨rfl, hbz⟩
        · have hz' : ¬ (200 : Int) < (l[i].s.size : Int) := by omega
          have HZ2 : Hid (∀ j (h : j < l.length), j < i + 1 → l[j].s.size ≤ 200) := fun j h hj => by
            rcases Nat.lt_or_ge j i with h' | h'
            · exact HZ.out j h h'
            · obtain rfl : j = i := by omega
              omega
          clear HZ
          go_wp2_with fail
          exact ⟨⟨i + 1, by go_num, by omega, HZ2, trivial⟩, by simp [intOf]; omega⟩
      · obtain rfl : i = N := by omega
        have h1 : ¬ (i : Int) < (i : Int) := by omega
        have HZA : Hid (∀ t ∈ l, t.s.size ≤ 200) := fun t ht => by
          obtain ⟨j, hj, rfl⟩ := List.getElem_of_mem ht
          exact HZ.out j hj (by rw [← HN.out]; exact hj)
        have CM := hide (mine_is ao c l i HN.out (by omega) w HR.out)
        have CR : Hid (∀ W : World, Below w.heap.size w W → Calls Try.prog 10 #[.slice ao i c] W fun e w' => e = .returned (.string (txt (join l))) ∧ W = w') := fun W hW => by
          have h := refJoin_is ao c l (by rw [HN.out]; omega) (fun t ht => Nat.le_trans (HZA.out t ht) (by decide)) W (Tv.slot_below HR.out hW)
          rw [HN.out] at h
          exact h
        clear HZ
        go_wp2_with fail
        refine CM.out.mono ?_
        rintro e w1 ⟨v, rfl, hrow, hb⟩
        have CJ := hide (K.join w.heap.size v l (by rw [HN.out]; omega) (fun t ht => Nat.le_trans (HZA.out t ht) (by decide)) w1 (by rw [HN.out]; exact hrow))
        have B1 := hide hb
        clear hb hrow CM
        generalize txt (join l) = J at *
        go_wp2_with fail
        refine CJ.out.mono ?_
        rintro e w2 ⟨rfl, hb2⟩
        have B2 := hide (bthen B1.out hb2)
        clear hb2 CJ
        go_wp2_with fail
        refine (CR.out _ B2.out).mono ?_
        rintro e w3 ⟨rfl, rfl⟩
        go_wp2_with fail
        refine (CL.out _).mono ?_
        rintro e wz ⟨rfl, hbz⟩
        have BZ := hide (bthen B2.out hbz)
        clear hbz
        go_wp2_with fail
        go_ret
        exact ⟨rfl, BZ.out⟩
end Go.Proofs.Ytdkfamlnmjhcfaa
