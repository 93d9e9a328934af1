/- The program's areNumbers. -/
import Derived.Test.YtnbedjgjkoeflaaDoorK1
import Derived.Test.YtnbedjgjkoeflaaDoorS4
import Derived.Test.YtnbedjgjkoeflaaDoorM2
namespace Go.Proofs.YtnbedjgjkoeflaaDoor
open Go.RowKit Go.Sort

/-- Texts that lie there. -/
def St.reads (w : World) (b off : Nat) (l : List ByteArray) : Prop := ∀ j (h : j < l.length), w.cell? ⟨b, off + j, none⟩ = some (.string l[j])
theorem St.reads_below {w w' : World} {b off : Nat} {l : List ByteArray} (h : St.reads w b off l) (hb : Below w.heap.size w w') : St.reads w' b off l := by
  intro j hj
  have := h j hj
  rw [hb.cell (p := ⟨b, off + j, none⟩) (block_lt_of_cell this)]
  exact this

theorem trim_is (t r : ByteArray) (hr : r = ⟨(Lib.trimS t.data.toList tens).toArray⟩) (w : World) (ht : t.size ≤ 2000) :
    Calls Tryd.prog 56 #[.string t, .string ⟨#[48, 49, 50, 51, 52, 53, 54, 55, 56, 57]⟩] w fun e w' => e = .returned (.string r) ∧ Below w.heap.size w w' := by
  subst hr
  exact Any.strings_Trim_laid Tryd.lays160 (by kernel_rfl) t ⟨#[48, 49, 50, 51, 52, 53, 54, 55, 56, 57]⟩ w (by omega) (by decide) (ascii_of_all (by decide))

theorem num_zero (t : ByteArray) (hp : 0 < t.size) (hz : t[0].toNat = 48) (h1 : 1 < t.size) : Ad.isNum t.data.toList = false := by
  have hh := Ad.head_iff t hp
  have hc : t[0] = 48 := UInt8.toNat_inj.1 hz
  have hza : Ad.zeroAhead t.data.toList = true := by
    unfold Ad.zeroAhead
    rw [hh, hc, Ad.size_list, decide_eq_true h1]
    rfl
  unfold Ad.isNum
  rw [hza]
  simp
theorem num_digs (t : ByteArray) (hp : 0 < t.size) (h : ¬ (t[0].toNat = 48 ∧ 1 < t.size)) : Ad.isNum t.data.toList = Ad.digs t.data.toList := by
  have hh := Ad.head_iff t hp
  have hne : t.data.toList ≠ [] := by
    intro e
    have := Ad.size_list t
    rw [e] at this
    simp at this
    omega
  have hza : Ad.zeroAhead t.data.toList = false := by
    unfold Ad.zeroAhead
    rw [hh, Ad.size_list]
    by_cases h1 : 1 < t.size
    · have hz : t[0] ≠ 48 := fun e => h ⟨by rw [e]; rfl, h1⟩
      rw [decide_eq_true h1]
      simpa using hz
    · rw [decide_eq_false h1]; rfl
  unfold Ad.isNum
  rw [hza]
  have he : t.data.toList.isEmpty = false := by simpa using hne
  rw [he]
  rfl

set_option maxHeartbeats 2000000 in
theorem areNumbers_is (b off c : Nat) (ws : List ByteArray) (r : Bool) (hr : (ws.all fun t => Ad.isNum t.data.toList) = r) (w : World) (hA : St.reads w b off ws) (hl : ws.length ≤ 3000) (hs : ∀ t ∈ ws, t.size ≤ 2000) :
    Calls Tryd.prog 36 #[.slice (some ⟨b, off, none⟩) ws.length c] w fun e w' => e = .returned (.bool r) ∧ Below w.heap.size w w' := by
  have HA := hide hA
  have HS := hide hs
  have HBAD : Hid (∀ j (h : j < ws.length), Ad.isNum ws[j].data.toList = false → r = false) := by
    intro j h hn
    rw [← hr, List.all_eq_false]
    exact ⟨_, List.getElem_mem h, by rw [hn]; decide⟩
  have HEND : Hid ((∀ j (h : j < ws.length), Ad.isNum ws[j].data.toList = true) → r = true) := by
    intro h
    rw [← hr, List.all_eq_true]
    intro t ht
    obtain ⟨j, hj, rfl⟩ := List.getElem_of_mem ht
    exact h j hj
  clear hA hs hr
  go_enter Tryd.func36, Tryd.ntmps36
  go_wp2_with fail
  go_loopw [7] (fun v wr => ∃ k : Nat, v = .int .i64 k ∧ k ≤ ws.length ∧ Hid (∀ j (h : j < ws.length), j < k → Ad.isNum ws[j].data.toList = true) ∧ Below w.heap.size w wr) (fun v _ => ws.length - (intOf v).toNat)
  case atStart => exact ⟨0, rfl, Nat.zero_le _, hide fun j _ hj => absurd hj (Nat.not_lt_zero _), brefl w⟩
  case round =>
    obtain ⟨k, rfl, hk, HALL, hbr⟩ := hrel
    have HBR := hide hbr
    clear hbr
    by_cases hkl : k < ws.length
    · have hkl' : (k : Int) < (ws.length : Int) := by omega
      have e0 := St.reads_below HA.out HBR.out k hkl
      have hts := HS.out _ (List.getElem_mem hkl)
      have HB := hide (HBAD.out k hkl)
      have HNX : Hid (Ad.isNum ws[k].data.toList = true → ∀ j (h : j < ws.length), j < k + 1 → Ad.isNum ws[j].data.toList = true) := by
        intro h j hj hjk
        rcases Nat.lt_or_ge j k with h1 | h1
        · exact HALL.out j hj h1
        · obtain rfl : j = k := by omega
          exact h
      generalize ws[k] = t at *
      by_cases h0 : t.size = 0
      · obtain rfl : t = ⟨#[]⟩ := ByteArray.ext (Array.eq_empty_of_size_eq_zero h0)
        obtain rfl := HB.out rfl
        clear HB HNX
        go_wp2_with fail
        go_ret
        exact ⟨rfl, HBR.out⟩
      · have he : t.toList.isEmpty = false := by rw [Ad.empty_iff]; exact decide_eq_false h0
        have hp : 0 < t.size := by omega
        have hp' : (0 : Int) < (t.size : Int) := by omega
        by_cases hz : t[0].toNat = 48
        · by_cases h1 : 1 < t.size
          · obtain rfl := HB.out (num_zero t hp hz h1)
            clear HB HNX
            go_wp2_with fail
            go_ret
            exact ⟨rfl, HBR.out⟩
          · have HNUM := hide (num_digs t hp fun h => h1 h.2)
            cases hd : Ad.digs t.data.toList
            · obtain rfl := HB.out (by rw [HNUM.out]; exact hd)
              obtain ⟨v, hv⟩ : ∃ v : ByteArray, v = ⟨(Lib.trimS t.data.toList tens).toArray⟩ := ⟨_, rfl⟩
              have hve : v.toList.isEmpty = false := by
                rw [Ad.empty_iff]
                refine decide_eq_false fun e => ?_
                have h2 : Lib.trimS t.data.toList tens = [] := by
                  have h3 : v.size = (Lib.trimS t.data.toList tens).length := by rw [hv]; show (Lib.trimS t.data.toList tens).toArray.size = _; simp
                  exact List.length_eq_zero_iff.1 (by omega)
                rw [(trim_digs _).1 h2] at hd
                cases hd
              have CT := hide (fun W => trim_is t v hv W hts)
              clear HB HNX HNUM hd hv
              go_wp2_with fail
              refine (CT.out _).mono ?_
              rintro e w2 ⟨rfl, hb2⟩
              have B2 := hide (bthen HBR.out hb2)
              clear hb2 CT
              go_wp2_with fail
              go_ret
              exact ⟨rfl, B2.out⟩
            · have HNX := hide (HNX.out (by rw [HNUM.out]; exact hd))
              have CT := hide (fun W => trim_is t ⟨#[]⟩ (by rw [(trim_digs _).2 hd]) W hts)
              clear HB HNUM hd
              go_wp2_with fail
              refine (CT.out _).mono ?_
              rintro e w2 ⟨rfl, hb2⟩
              have B2 := hide (bthen HBR.out hb2)
              clear hb2 CT e0
              go_wp2_with fail
              exact ⟨⟨k + 1, by go_num, by omega, HNX, B2.out⟩, by simp [intOf] <;> omega⟩
        · have HNUM := hide (num_digs t hp fun h => hz h.1)
          cases hd : Ad.digs t.data.toList
          · obtain rfl := HB.out (by rw [HNUM.out]; exact hd)
            obtain ⟨v, hv⟩ : ∃ v : ByteArray, v = ⟨(Lib.trimS t.data.toList tens).toArray⟩ := ⟨_, rfl⟩
            have hve : v.toList.isEmpty = false := by
              rw [Ad.empty_iff]
              refine decide_eq_false fun e => ?_
              have h2 : Lib.trimS t.data.toList tens = [] := by
                have h3 : v.size = (Lib.trimS t.data.toList tens).length := by rw [hv]; show (Lib.trimS t.data.toList tens).toArray.size = _; simp
                exact List.length_eq_zero_iff.1 (by omega)
              rw [(trim_digs _).1 h2] at hd
              cases hd
            have CT := hide (fun W => trim_is t v hv W hts)
            clear HB HNX HNUM hd hv
            go_wp2_with fail
            refine (CT.out _).mono ?_
            rintro e w2 ⟨rfl, hb2⟩
            have B2 := hide (bthen HBR.out hb2)
            clear hb2 CT
            go_wp2_with fail
            go_ret
            exact ⟨rfl, B2.out⟩
          · have HNX := hide (HNX.out (by rw [HNUM.out]; exact hd))
            have CT := hide (fun W => trim_is t ⟨#[]⟩ (by rw [(trim_digs _).2 hd]) W hts)
            clear HB HNUM hd
            go_wp2_with fail
            refine (CT.out _).mono ?_
            rintro e w2 ⟨rfl, hb2⟩
            have B2 := hide (bthen HBR.out hb2)
            clear hb2 CT e0
            go_wp2_with fail
            exact ⟨⟨k + 1, by go_num, by omega, HNX, B2.out⟩, by simp [intOf] <;> omega⟩
    · obtain rfl : k = ws.length := by omega
      obtain rfl : r = true := HEND.out fun j h => HALL.out j h h
      go_wp2_with fail
      go_ret
      exact ⟨rfl, HBR.out⟩
end Go.Proofs.YtnbedjgjkoeflaaDoor
