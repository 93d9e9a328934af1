/- The program's areNumbers. -/
import Derived.Test.YtngfoijmknclhaaGreatDoorJ14
import Derived.Test.YtngfoijmknclhaaGreatDoorJ15
import Derived.Test.YtngfoijmknclhaaGreatDoorJ22
namespace Go.Proofs.YtngfoijmknclhaaGreatDoor.Ar.Y4
open Go.RowKit Go.Sort
/-- Texts that lie there. -/
def St.reads (w : World) (b off : Nat) (l : List ByteArray) : Prop := ∀ j (h : j < l.length), w.cell? ⟨b, off + j, none⟩ = some (.string l[j])
theorem St.reads_below {w w' : World} {b off : Nat} {l : List ByteArray} (h : St.reads w b off l) (hb : Below w.heap.size w w') : St.reads w' b off l := by
  intro j hj
  have := h j hj
  rw [hb.cell (p := ⟨b, off + j, none⟩) (block_lt_of_cell this)]
  exact this

theorem trim_is (t r : ByteArray) (hr : r = ⟨(Lib.trimS t.data.toList tens).toArray⟩) (w : World) (ht : t.size ≤ 2000) :
    Calls Tryz.prog 227 #[.string t, .string ⟨#[48, 49, 50, 51, 52, 53, 54, 55, 56, 57]⟩] w fun e w' => e = .returned (.string r) ∧ Below w.heap.size w w' := by
  subst hr
  exact Any.strings_Trim_laid Tryz.lays160 (by kernel_rfl) t ⟨#[48, 49, 50, 51, 52, 53, 54, 55, 56, 57]⟩ w (by omega) (by decide) (ascii_of_all (by decide))

theorem num_zero (t : ByteArray) (hp : 0 < t.size) (hz : t[0].toNat = 48) (h1 : 1 < t.size) : Ad.isNum t.data.toList = false := by
  have hh := Ad.head_iff t hp
  have hc : t[0] = 48 := UInt8.toNat_inj.1 hz
  have hza : Ad.zeroAhead t.data.toList = true := by
    unfold Ad.zeroAhead
    rw [hh, hc, Ad.size_list, decide_eq_true h1]
    rfl
  unfold Ad.isNum
  rw [hza]
  simp
theorem num_digs (t : ByteArray) (hp : 0 < t.size) (h : ¬ (t[0].toNat = 48 ∧ 1 < t.size)) : Ad.isNum t.data.toList = Ad.digs t.data.toList := by
  have hh := Ad.head_iff t hp
  have hne : t.data.toList ≠ [] := by
    intro e
    have := Ad.size_list t
    rw [e] at this
    simp at this
    omega
  have hza : Ad.zeroAhead t.data.toList = false := by
    unfold Ad.zeroAhead
    rw [hh, Ad.size_list]
    by_cases h1 : 1 < t.size
    · have hz : t[0] ≠ 48 := fun e => h ⟨by rw [e]; rfl, h1⟩
      rw [decide_eq_true h1]
      simpa using hz
    · rw [decide_eq_false h1]; rfl
  unfold Ad.isNum
  rw [hza]
  have he : t.data.toList.isEmpty = false := by simpa using hne
  rw [he]
  rfl

set_option maxHeartbeats 2000000 in
theorem areNumbers_is (b off c : Nat) (ws : List ByteArray) (r : Bool) (hr : (ws.all fun t => Ad.isNum t.data.toList) = r) (w : World) (hA : St.reads w b off ws) (hl : ws.length ≤ 3000) (hs : ∀ t ∈ ws, t.size ≤ 2000) :
    Calls Tryz.prog 215 #[.slice (some ⟨b, off, none⟩) ws.length c] w fun e w' => e = .returned (.bool r) ∧ Below w.heap.size w w' := by
  have HA := hide hA
  have HS := hide hs
  have HBAD : Hid (∀ j (h : j < ws.length), Ad.isNum ws[j].data.toList = false → r = false) := by
    intro j h hn
    rw [← hr, List.all_eq_false]
    exact ⟨_, List.getElem_mem h, by rw [hn]; decide⟩
  have HEND : Hid ((∀ j (h : j < ws.length), Ad.isNum ws[j].data.toList = true) → r = true) := by
    intro h
    rw [← hr, List.all_eq_true]
    intro t ht
    obtain ⟨j, hj, rfl⟩ := List.getElem_of_mem ht
    exact h j hj
  clear hA hs hr
  go_enter Tryz.func215, Tryz.ntmps215
  go_wp2_with fail
  go_loopw [7] (fun v wr => ∃ k : Nat, v = .int .i64 k ∧ k ≤ ws.length ∧ Hid (∀ j (h : j < ws.length), j < k → Ad.isNum ws[j].data.toList = true) ∧ Below w.heap.size w wr) (fun v _ => ws.length - (intOf v).toNat)
  case atStart => exact ⟨0, rfl, Nat.zero_le _, hide fun j _ hj => absurd hj (Nat.not_lt_zero _), brefl w⟩
  case round =>
    obtain ⟨k, rfl, hk, HALL, hbr⟩ := hrel
    have HBR := hide hbr
    clear hbr
    by_cases hkl : k < ws.length
    · have hkl' : (k : Int) < (ws.length : Int) := by omega
      have e0 := St.reads_below HA.out HBR.out k hkl
      have hts := HS.out _ (List.getElem_mem hkl)
      have HB := hide (HBAD.out k hkl)
      have HNX : Hid (Ad.isNum ws[k].data.toList = true → ∀ j (h : j < ws.length), j < k + 1 → Ad.isNum ws[j].data.toList = true) := by
        intro h j hj hjk
        rcases Nat.lt_or_ge j k with h1 | h1
        · exact HALL.out j hj h1
        · obtain rfl : j = k := by omega
          exact h
      generalize ws[k] = t at *
      by_cases h0 : t.size = 0
      · obtain rfl : t = ⟨#[]⟩ := ByteArray.ext (Array.eq_empty_of_size_eq_zero h0)
        obtain rfl := HB.out rfl
        clear HB HNX
        go_wp2_with fail
        go_ret
        exact ⟨rfl, HBR.out⟩
      · have he : t.toList.isEmpty = false := by rw [Ad.empty_iff]; exact decide_eq_false h0
        have hp : 0 < t.size := by omega
        have hp' : (0 : Int) < (t.size : Int) := by omega
        by_cases hz : t[0].toNat = 48
        · by_cases h1 : 1 < t.size
          · obtain rfl := HB.out (num_zero t hp hz h1)
            clear HB HNX
            go_wp2_with fail
            go_ret
            exact ⟨rfl, HBR.out⟩
          · have HNUM := hide (num_digs t hp fun h => h1 h.2)
            cases hd : Ad.digs t.data.toList
            · obtain rfl := HB.out (by rw [HNUM.out]; exact hd)
              obtain ⟨v, hv⟩ : ∃ v : ByteArray, v = ⟨(Lib.trimS t.data.toList tens).toArray⟩ := ⟨_, rfl⟩
              have hve : v.toList.isEmpty = false := by
                rw [Ad.empty_iff]
                refine decide_eq_false fun e => ?_
                have h2 : Lib.trimS t.data.toList tens = [] := by
                  have h3 : v.size = (Lib.trimS t.data.toList tens).length := by rw [hv]; show (Lib.trimS t.data.toList tens).toArray.size = _; simp
                  exact List.length_eq_zero_iff.1 (by omega)
                rw [(trim_digs _).1 h2] at hd
                cases hd
              have CT := hide (fun W => trim_is t v hv W hts)
              clear HB HNX HNUM hd hv
              go_wp2_with fail
              refine (CT.out _).mono ?_
              rintro e w2 ⟨rfl, hb2⟩
              have B2 := hide (bthen HBR.out hb2)
              clear hb2 CT
              go_wp2_with fail
              go_ret
              exact ⟨rfl, B2.out⟩
            · have HNX := hide (HNX.out (by rw [HNUM.out]; exact hd))
              have CT := hide (fun W => trim_is t ⟨#[]⟩ (by rw [(trim_digs _).2 hd]) W hts)
              clear HB HNUM hd
              go_wp2_with fail
              refine (CT.out _).mono ?_
              rintro e w2 ⟨rfl, hb2⟩
              have B2 := hide (bthen HBR.out hb2)
              clear hb2 CT e0
              go_wp2_with fail
              exact ⟨⟨k + 1, by go_num, by omega, HNX, B2.out⟩, by simp [intOf] <;> omega⟩
        · have HNUM := hide (num_digs t hp fun h => hz h.1)
          cases hd : Ad.digs t.data.toList
          · obtain rfl := HB.out (by rw [HNUM.out]; exact hd)
            obtain ⟨v, hv⟩ : ∃ v : ByteArray, v = ⟨(Lib.trimS t.data.toList tens).toArray⟩ := ⟨_, rfl⟩
            have hve : v.toList.isEmpty = false := by
              rw [Ad.empty_iff]
              refine decide_eq_false fun e => ?_
              have h2 : Lib.trimS t.data.toList tens = [] := by
                have h3 : v.size = (Lib.trimS t.data.toList tens).length := by rw [hv]; show (Lib.trimS t.data.toList tens).toArray.size = _; simp
                exact List.length_eq_zero_iff.1 (by omega)
              rw [(trim_digs _).1 h2] at hd
              cases hd
            have CT := hide (fun W => trim_is t v hv W hts)
            clear HB HNX HNUM hd hv
            go_wp2_with fail
            refine (CT.out _).mono ?_
            rintro e w2 ⟨rfl, hb2⟩
            have B2 := hide (bthen HBR.out hb2)
            clear hb2 CT
            go_wp2_with fail
            go_ret
            exact ⟨rfl, B2.out⟩
          · have HNX := hide (HNX.out (by rw [HNUM.out]; exact hd))
            have CT := hide (fun W => trim_is t ⟨#[]⟩ (by rw [(trim_digs _).2 hd]) W hts)
            clear HB HNUM hd
            go_wp2_with fail
            refine (CT.out _).mono ?_
            rintro e w2 ⟨rfl, hb2⟩
            have B2 := hide (bthen HBR.out hb2)
            clear hb2 CT e0
            go_wp2_with fail
            exact ⟨⟨k + 1, by go_num, by omega, HNX, B2.out⟩, by simp [intOf] <;> omega⟩
    · obtain rfl : k = ws.length := by omega
      obtain rfl : r = true := HEND.out fun j h => HALL.out j h h
      go_wp2_with fail
      go_ret
      exact ⟨rfl, HBR.out⟩
end Go.Proofs.YtngfoijmknclhaaGreatDoor.Ar.Y4
namespace Go.Proofs.YtngfoijmknclhaaGreatDoor.Ar.Y4
open Go.RowKit Go.Sort
theorem path_none (w : World) (q : Int) {w' : World} (hb : Below w.heap.size w w') : PathGood w [] q (.returned (.tuple #[.slice none 0 0, .int .i64 q])) w' := ⟨none, 0, rfl, World.ownsRow_nil _ _ _ _, hb⟩

/-- What Parse asks of package variables: the greatest length of a search reads as a number, the error of a range as an error. -/
def Pt (w : World) : Prop := (∃ m, w.cell? ⟨1, 0, none⟩ = some (.int .i64 m)) ∧ ∃ ev, w.cell? ⟨7, 0, none⟩ = some ev ∧ (ev = .nilIface ∨ ∃ te pe, ev = .iface te pe)
theorem Pt.on {w w' : World} (h : Pt w) (hb : Below w.heap.size w w') : Pt w' := by
  obtain ⟨⟨m, h1⟩, ev, h2, h3⟩ := h
  exact ⟨⟨m, (hb.cell (p := ⟨1, 0, none⟩) (block_lt_of_cell h1)).trans h1⟩, ev, (hb.cell (p := ⟨7, 0, none⟩) (block_lt_of_cell h2)).trans h2, h3⟩

/-- strconv.Atoi at a number: its value, or an error where it is too great. -/
theorem atoi_is (t : ByteArray) (hn : Ad.isNum t.data.toList = true) (ht : t.size ≤ 2000) (w : World) (hT : Pt w) :
    (Calls Tryz.prog 216 #[.string t] w fun e w' => e = .returned (.tuple #[.int .i64 (Ad.num t.data.toList), .nilIface]) ∧ Below w.heap.size w w') ∨
    (65535 < Ad.num t.data.toList ∧ ∃ v : Int, Calls Tryz.prog 216 #[.string t] w fun e w' => ∃ N : Nat, e = .returned (.tuple #[.int .i64 v, .iface 265 (.pointer (some ⟨N, 0, none⟩))]) ∧ Below w.heap.size w w') := by
  rcases atoi_num _ hn with h | ⟨h, h1⟩
  · left
    refine (Tryz.strconv_Atoi_ok t (by omega) _ h w).mono ?_
    rintro e w' ⟨rfl, rfl | ⟨u, rfl⟩⟩
    · exact ⟨rfl, brefl _⟩
    · exact ⟨rfl, Lib.bytesWorld_below w 5 u⟩
  · right
    obtain ⟨_, ev, h2, h3⟩ := hT
    refine ⟨h1, Lib.atoiSat t.data.toList, (Tryz.strconv_Atoi_range t (by omega) h ev w h2 h3).mono ?_⟩
    rintro e w' ⟨N, rfl, _, _, hb⟩
    exact ⟨N, rfl, hb⟩

theorem Is.parse_good (l : List UInt8) (h0 : l ≠ []) (ha : (Sp.split l).all Ad.isNum = true) (y : List Int) (q : Int) (h : Is.parse l = (y, q)) :
    ((∃ f ∈ Sp.split l, Is.as (Ad.num f) = false) → y = [] ∧ q = 7) ∧ ((∀ f ∈ Sp.split l, Is.as (Ad.num f) = true) → (16 < (Sp.split l).length ∧ y = [] ∧ q = 2) ∨ ((Sp.split l).length ≤ 16 ∧ y = (Sp.split l).map Ad.num ∧ q = 0)) := by
  unfold Is.parse at h
  rw [if_neg h0, if_pos ha] at h
  constructor
  · rintro ⟨f, hf, hn⟩
    have hb : ((Sp.split l).map Ad.num).all Is.as = false := by
      rw [List.all_eq_false]
      exact ⟨_, List.mem_map.2 ⟨f, hf, rfl⟩, by rw [hn]; decide⟩
    rw [hb] at h
    simp at h
    exact ⟨h.1, h.2.symm⟩
  · intro hall
    have hb : ((Sp.split l).map Ad.num).all Is.as = true := by
      rw [List.all_eq_true]
      intro x hx
      obtain ⟨f, hf, rfl⟩ := List.mem_map.1 hx
      exact hall f hf
    rw [if_pos hb] at h
    split at h
    · rename_i h16
      simp at h
      exact .inl ⟨h16, h.1, h.2.symm⟩
    · rename_i h16
      simp only [Prod.mk.injEq] at h
      exact .inr ⟨by omega, h.1.symm, h.2.symm⟩

theorem split_is (s : ByteArray) (ws : List ByteArray) (hw : Lib.splitB ⟨#[32]⟩ 0 (Lib.countB s ⟨#[32]⟩) s = ws) (w : World) (hT : Pt w) (hs : s.size ≤ 2000) :
    Calls Tryz.prog 214 #[.string s, .string ⟨#[32]⟩] w fun e w' => e = .returned (.slice (some ⟨w.heap.size, 0, none⟩) ws.length ws.length) ∧ St.reads w' w.heap.size 0 ws ∧ Below w.heap.size w w' := by
  obtain ⟨⟨m, hm⟩, _⟩ := hT
  have hl : ws.length = Lib.countB s ⟨#[32]⟩ + 1 := by rw [← hw]; exact Lib.splitB_all ⟨#[32]⟩ (by decide) 0 _ s rfl
  refine (Tryz.strings_Split s ⟨#[32]⟩ m w (by omega) hm (by decide)).mono ?_
  rintro e w' ⟨rfl, rfl⟩
  rw [← hl, hw]
  refine ⟨rfl, fun j hj => ?_, balloc (brefl w) _⟩
  rw [Nat.zero_add]
  simp [hj]

theorem own_mono {w : World} {B B' e size n : Nat} {v : Value} {xs : List Value} (h : w.ownsRow B e size v n xs) (hB : B' ≤ B) : w.ownsRow B' e size v n xs := by
  refine ⟨h.1, ?_⟩
  rcases h.2 with h2 | ⟨g, cap, cur, hv, hg, r⟩
  · exact .inl h2
  · exact .inr ⟨g, cap, cur, hv, Nat.le_trans hB hg, r⟩
set_option maxHeartbeats 4000000 in
theorem parse_is (s : ByteArray) (y : List Int) (q : Int) (hs : s.size ≤ 2000) (h : Is.parse s.data.toList = (y, q)) (w : World) (hT : Pt w) : Calls Tryz.prog 201 #[.string s] w (PathGood w y q) := by
  by_cases h0 : s.size = 0
  · obtain rfl : s = ⟨#[]⟩ := ByteArray.ext (Array.eq_empty_of_size_eq_zero h0)
    obtain ⟨rfl, rfl⟩ : y = [] ∧ q = 0 := by
      have h : (([], 0) : List Int × Int) = (y, q) := h
      simp at h
      exact ⟨h.1, h.2.symm⟩
    clear h hT
    go_enter Tryz.func201, Tryz.ntmps201
    go_wp2_with fail
    exact bodyPost_ret (v := .tuple #[.slice none 0 0, .int .i64 0]) (by simp [results, Tryz.results201, go_sem]) rfl (path_none _ _ (brefl _))
  · have he : s.toList.isEmpty = false := by rw [Ad.empty_iff]; exact decide_eq_false h0
    have hne : s.data.toList ≠ [] := by
      intro e
      have := Ad.size_list s
      rw [e] at this
      simp at this
      omega
    obtain ⟨ws, hw⟩ : ∃ ws, Lib.splitB ⟨#[32]⟩ 0 (Lib.countB s ⟨#[32]⟩) s = ws := ⟨_, rfl⟩
    have hsp : ws.map (·.data.toList) = Sp.split s.data.toList := by rw [← hw]; exact splitB_is s
    have hwl : ws.length ≤ 2001 := by
      have h1 := Sp.split_count s.data.toList
      rw [← hsp, List.length_map, Ad.size_list] at h1
      omega
    have hsz : ∀ t ∈ ws, t.size ≤ 2000 := by
      intro t ht
      have h1 := Sp.split_size s.data.toList t.data.toList (by rw [← hsp]; exact List.mem_map.2 ⟨t, ht, rfl⟩)
      rw [Ad.size_list, Ad.size_list] at h1
      omega
    have CS := hide (split_is s ws hw w hT hs)
    have HALLN : Hid ((ws.all fun t => Ad.isNum t.data.toList) = (Sp.split s.data.toList).all Ad.isNum) := by
      show _ = _
      rw [← hsp, List.all_map]
      rfl
    cases hall : ws.all fun t => Ad.isNum t.data.toList
    · obtain ⟨rfl, rfl⟩ : y = [] ∧ q = 4 := by
        rw [HALLN.out, List.all_eq_false] at hall
        obtain ⟨f, hf, hn⟩ := hall
        exact Is.parse_bad _ hne f hf (by simpa using hn) y q h
      have CN := hide (fun b off c w1 hrd => areNumbers_is b off c ws false hall w1 hrd (by omega) hsz)
      clear h hT hne hw hsp hsz hall HALLN
      go_enter Tryz.func201, Tryz.ntmps201
      go_wp2_with fail
      refine CS.out.mono ?_
      rintro e w1 ⟨rfl, hrd, hb1⟩
      have B1 := hide hb1
      have CN1 := hide (CN.out _ 0 ws.length w1 hrd)
      clear CS CN hrd hb1
      go_wp2_with fail
      refine CN1.out.mono ?_
      rintro e w2 ⟨rfl, hb2⟩
      have B2 := hide (bthen B1.out hb2)
      clear hb2 CN1 B1
      go_wp2_with fail
      exact bodyPost_ret (v := .tuple #[.slice none 0 0, .int .i64 4]) (by simp [results, Tryz.results201, go_sem]) rfl (path_none _ _ B2.out)
    · have hg := Is.parse_good s.data.toList hne (by rw [← HALLN.out]; exact hall) y q h
      rw [← hsp] at hg
      have HBAD : Hid (∀ j (hj : j < ws.length), Is.as (Ad.num ws[j].data.toList) = false → y = [] ∧ q = 7) := by
        intro j hj hn
        exact hg.1 ⟨_, List.mem_map.2 ⟨ws[j], List.getElem_mem hj, rfl⟩, hn⟩
      have HEND : Hid ((∀ j (hj : j < ws.length), Is.as (Ad.num ws[j].data.toList) = true) → (16 < ws.length ∧ y = [] ∧ q = 2) ∨ (ws.length ≤ 16 ∧ y = ws.map (fun t => Ad.num t.data.toList) ∧ q = 0)) := by
        intro hj
        have := hg.2 (by
          intro f hf
          obtain ⟨t, ht, rfl⟩ := List.mem_map.1 hf
          obtain ⟨j, hj', rfl⟩ := List.getElem_of_mem ht
          exact hj j hj')
        rw [List.length_map, List.map_map] at this
        exact this
      have HNUM : Hid (∀ j (hj : j < ws.length), Ad.isNum ws[j].data.toList = true) := by
        intro j hj
        exact List.all_eq_true.1 hall _ (List.getElem_mem hj)
      have CN := hide (fun b off c w1 hrd => areNumbers_is b off c ws true hall w1 hrd (by omega) hsz)
      have HT := hide hT
      have HSZ := hide hsz
      clear h hT hne hw hsp hsz hall HALLN hg
      go_enter Tryz.func201, Tryz.ntmps201
      go_wp2_with fail
      refine CS.out.mono ?_
      rintro e w1 ⟨rfl, hrd, hb1⟩
      have B1 := hide hb1
      have RD1 := hide hrd
      have CN1 := hide (CN.out _ 0 ws.length w1 hrd)
      clear CS CN hrd hb1
      generalize w.heap.size = G at RD1 CN1 ⊢
      go_wp2_with fail
      refine CN1.out.mono ?_
      rintro e w2 ⟨rfl, hb2⟩
      have B2 := hide (bthen B1.out hb2)
      have RD := hide (St.reads_below RD1.out hb2)
      clear hb2 CN1 B1 RD1
      go_wp2_with fail
      go_loopw [5, 19] (fun v5 v19 wr => ∃ (k : Nat) (o : Option Addr) (c : Nat) (p : List Int), v19 = .int .i64 k ∧ v5 = .slice o k c ∧ k ≤ ws.length ∧ Hid (p = (ws.take k).map fun t => Ad.num t.data.toList) ∧ Hid (∀ j (hj : j < ws.length), j < k → Is.as (Ad.num ws[j].data.toList) = true) ∧ wr.ownsRow w2.heap.size 3 1 (.slice o k c) k (Is.cells p) ∧ Below w2.heap.size w2 wr) (fun _ v19 _ => ws.length - (intOf v19).toNat)
      case atStart => exact ⟨0, none, 0, [], rfl, rfl, Nat.zero_le _, hide rfl, hide fun j _ h => absurd h (Nat.not_lt_zero _), World.ownsRow_nil _ _ _ _, brefl _⟩
      case round =>
        obtain ⟨k, o, c, p, rfl, rfl, hk, HP, HAS, hown, hbr2⟩ := hrel
        have HO := hide hown
        have HBR := hide (bthen B2.out hbr2)
        have HB2 := hide hbr2
        clear hown hbr2
        by_cases hkl : k < ws.length
        · have hkl' : (k : Int) < (ws.length : Int) := by omega
          have e0 := St.reads_below RD.out HB2.out k hkl
          rw [Nat.zero_add] at e0
          have hts := HSZ.out _ (List.getElem_mem hkl)
          have hnum := HNUM.out k hkl
          have CA := atoi_is ws[k] hnum hts wr (HT.out.on HBR.out)
          have HBD := hide (HBAD.out k hkl)
          have HNP : Hid ((ws.take (k + 1)).map (fun t => Ad.num t.data.toList) = p ++ [Ad.num ws[k].data.toList]) := by
            show _ = _
            rw [List.take_succ_eq_append_getElem hkl, List.map_append, HP.out]
            rfl
          have HNA : Hid (Is.as (Ad.num ws[k].data.toList) = true → ∀ j (hj : j < ws.length), j < k + 1 → Is.as (Ad.num ws[j].data.toList) = true) := by
            intro h j hj hjk
            rcases Nat.lt_or_ge j k with h1 | h1
            · exact HAS.out j hj h1
            · obtain rfl : j = k := by omega
              exact h
          generalize ws[k] = t at *
          clear hts hnum HP HAS
          generalize Ad.num t.data.toList = n at *
          rcases CA with CA | ⟨hbig, v, CA⟩
          · have CAH := hide CA
            clear CA
            cases has : Is.as n
            · obtain ⟨rfl, rfl⟩ := HBD.out has
              have CM := hide (fun W => mayAS_is n false has W)
              clear HBD HNP HNA has
              go_wp2_with fail
              refine CAH.out.mono ?_
              rintro e w3 ⟨rfl, hb3⟩
              have B3 := hide (bthen HBR.out hb3)
              clear hb3 CAH
              go_wp2_with fail
              refine (CM.out _).mono ?_
              rintro e w4 ⟨rfl, rfl⟩
              go_wp2_with fail
              exact bodyPost_ret (v := .tuple #[.slice none 0 0, .int .i64 7]) (by simp [results, Tryz.results201, go_sem]) rfl (path_none _ _ B3.out)
            · have CM := hide (fun W => mayAS_is n true has W)
              have HNA := hide (HNA.out has)
              clear HBD has
              go_wp2_with fail
              refine CAH.out.mono ?_
              rintro e w3 ⟨rfl, hb3⟩
              have B3 := hide (bthen HBR.out hb3)
              have D3 := hide (bthen HB2.out hb3)
              have HO3 := hide (row_below HO.out hb3)
              clear hb3 CAH HO
              go_wp2_with fail
              refine (CM.out _).mono ?_
              rintro e w4 ⟨rfl, rfl⟩
              go_wp2_with (at_builtin; go_must (refine append_ints (w0 := w2) rfl _ _ rfl _ k p rfl (HO3.out.alloc _) (some ⟨w4.heap.size, 0, none⟩) 1 _ [n] rfl rfl (Is.slot_one _ _ _) (came_some _ _ _) (by omega) (balloc D3.out _) ?_))
              intro v' w5 hnew hb5
              obtain ⟨no, nc, rfl⟩ := row_slice hnew
              have HNW := hide hnew
              have D5 := hide hb5
              clear hnew hb5
              go_wp2_with fail
              exact ⟨⟨k + 1, no, nc, p ++ [n], by go_num, rfl, by omega, hide HNP.out.symm, HNA, HNW.out, D5.out⟩, by simp [intOf] <;> omega⟩
          · have hna : Is.as n = false := (Is.as_not n).2 (by omega)
            obtain ⟨rfl, rfl⟩ := HBD.out hna
            have CAH := hide CA
            clear CA HBD HNP HNA hna
            go_wp2_with fail
            refine CAH.out.mono ?_
            rintro e w3 ⟨N, rfl, hb3⟩
            have B3 := hide (bthen HBR.out hb3)
            clear hb3 CAH
            go_wp2_with fail
            exact bodyPost_ret (v := .tuple #[.slice none 0 0, .int .i64 7]) (by simp [results, Tryz.results201, go_sem]) rfl (path_none _ _ B3.out)
        · obtain rfl : k = ws.length := by omega
          have hcs := HEND.out fun j hj => HAS.out j hj hj
          have hpp := HP.out
          rw [List.take_length] at hpp
          rcases hcs with ⟨h16, rfl, rfl⟩ | ⟨h16, hy, rfl⟩
          · have h16' : (16 : Int) < (ws.length : Int) := by omega
            clear hpp
            go_wp2_with fail
            exact bodyPost_ret (v := .tuple #[.slice none 0 0, .int .i64 2]) (by simp [results, Tryz.results201, go_sem]) rfl (path_none _ _ HBR.out)
          · have h16' : ¬ (16 : Int) < (ws.length : Int) := by omega
            obtain rfl : p = y := by rw [hy, hpp]
            have HPL : Hid (p.length = ws.length) := by show _ = _; rw [hpp, List.length_map]
            clear hpp hy
            go_wp2_with fail
            exact bodyPost_ret (v := .tuple #[.slice o ws.length c, .int .i64 0]) (by simp [results, Tryz.results201, go_sem]) rfl ⟨o, c, by rw [HPL.out], by rw [HPL.out]; exact own_mono HO.out B2.out.size, HBR.out⟩
end Go.Proofs.YtngfoijmknclhaaGreatDoor.Ar.Y4
namespace Go.Proofs.YtngfoijmknclhaaGreatDoor.Ar
open Go.RowKit Go.Sort
theorem contains_dig (c : UInt8) : ([48, 49, 50, 51, 52, 53, 54, 55, 56, 57] : List UInt8).contains c = Ad.dig c := by
  rw [Bool.eq_iff_iff]
  unfold Ad.dig
  simp only [List.contains_cons, List.contains_nil, Bool.or_false, Bool.or_eq_true, beq_iff_eq, Bool.and_eq_true, decide_eq_true_eq]
  have h : ∀ n : Nat, n < 256 → ((n = 48 ∨ n = 49 ∨ n = 50 ∨ n = 51 ∨ n = 52 ∨ n = 53 ∨ n = 54 ∨ n = 55 ∨ n = 56 ∨ n = 57) ↔ (48 ≤ n ∧ n ≤ 57)) := fun n _ => by omega
  have e : ∀ k : UInt8, c = k ↔ c.toNat = k.toNat := fun k => ⟨fun h => by rw [h], fun h => UInt8.toNat_inj.1 h⟩
  simp only [e]
  exact h c.toNat c.toNat_lt
theorem trims : Trims := {
  blank := fun r W => by
    have h := Any.strings_TrimLeft_laid (P := Tryz.prog) Tryz.lays161 (by kernel_rfl) (tx r) ⟨#[32]⟩ W (by decide) (ascii_of_all (by decide))
    refine Calls.mono (P := Tryz.prog) (f := 162) h ?_
    rintro e w' ⟨rfl, hb⟩
    refine ⟨?_, hb⟩
    have : Lib.trimLeftS (tx r).data.toList [32] = Px.skip r := by
      unfold Lib.trimLeftS Px.skip
      congr 1
      funext c
      rw [Bool.eq_iff_iff]
      simp
    show Ending.returned (Value.string ⟨(Lib.trimLeftS (tx r).data.toList [32]).toArray⟩) = _
    rw [this]
  digs := fun r W => by
    have h := Any.strings_TrimLeft_laid (P := Tryz.prog) Tryz.lays161 (by kernel_rfl) (tx r) ⟨#[48, 49, 50, 51, 52, 53, 54, 55, 56, 57]⟩ W (by decide) (ascii_of_all (by decide))
    refine Calls.mono (P := Tryz.prog) (f := 162) h ?_
    rintro e w' ⟨rfl, hb⟩
    refine ⟨?_, hb⟩
    have : Lib.trimLeftS (tx r).data.toList [48, 49, 50, 51, 52, 53, 54, 55, 56, 57] = r.dropWhile Ad.dig := by
      unfold Lib.trimLeftS
      congr 1
      funext c
      exact contains_dig c
    show Ending.returned (Value.string ⟨(Lib.trimLeftS (tx r).data.toList [48, 49, 50, 51, 52, 53, 54, 55, 56, 57]).toArray⟩) = _
    rw [this] }
theorem readKit : ReadKit Y4.Pt := { trims := trims, on := fun h hb => h.on hb, path := fun s y q hs h w hT => Y4.parse_is s y q hs h w hT }
end Go.Proofs.YtngfoijmknclhaaGreatDoor.Ar
namespace Go.Proofs.YtngfoijmknclhaaGreatDoor.Ar
theorem pair_len {p : Prt} (h : Px.goodPair p) : (Px.pair p).length ≤ 43 := by
  obtain ⟨h1, h2, _⟩ := h
  have h1 := (Is.as_iff _).1 h1
  have h2 := (Is.as_iff _).1 h2
  have l1 := itoa_len p.1 (by omega) (by omega)
  have l2 := itoa_len p.2.1 (by omega) (by omega)
  unfold Px.pair
  split
  · simp only [List.length_append, List.length_cons]; omega
  · omega
theorem pairs_push (acc : List (Prt)) {p : Prt} (h : Px.goodPair p) : (Px.pairs (acc ++ [p])).length ≤ (Px.pairs acc).length + 44 := by
  have := pair_len h
  rw [Px.pairs_app, List.length_append, List.length_append]
  split <;> simp <;> omega
theorem set_len : ∀ (f : Nat) (acc : List (Prt)) (r : Bs) (rs : List (Prt)) (k : Bs), Px.set f acc r = .ok (rs, k) → (Px.pairs rs).length + 50 * k.length ≤ (Px.pairs acc).length + 50 * r.length
  | 0, _, _, _, _, h => by cases h
  | f + 1, acc, r, rs, k, h => by
    rw [Px.set] at h
    split at h
    · rename_i hc
      simp only [Except.ok.injEq, Prod.mk.injEq] at h
      obtain ⟨rfl, rfl⟩ := h
      have := Px.next_len hc.2
      omega
    · split at h
      · cases h
      · rename_i a k1 hn
        have h1 := (Px.number_suf hn).2
        have ga := number_as hn
        split at h
        · rename_i h45
          have h2 := Px.next_len h45
          split at h
          · cases h
          · rename_i b k2 hn2
            have h3 := (Px.number_suf hn2).2
            have gb := number_as hn2
            split at h
            · cases h
            · rename_i hlt
              have h4 := set_len f _ k2 rs k h
              have h5 := pairs_push acc (p := (a, b, true)) ⟨ga, gb, by simpa using hlt, fun e => by cases e⟩
              omega
        · have h4 := set_len f _ k1 rs k h
          have h5 := pairs_push acc (p := (a, a, false)) ⟨ga, ga, Int.le_refl _, fun _ => rfl⟩
          omega
/-- A reader's text and size are paid by what it reads. -/
def Pays (ch : Bs → Except Int (List (List Nd) × Bs)) : Prop := ∀ r c k, ch r = .ok (c, k) → (Nd.rowsText c).length + 50 * k.length ≤ 1 + 50 * r.length ∧ Nd.sizeRows c + k.length ≤ r.length
theorem atom_len {ch : Bs → Except Int (List (List Nd) × Bs)} (hc : Pays ch) {r : Bs} {n : Nd} {k : Bs} (h : Px.atom ch r = .ok (n, k)) : (Nd.text n).length + 1 + 50 * k.length ≤ 50 * r.length ∧ Nd.size n + k.length ≤ r.length := by
  unfold Px.atom at h
  split at h
  · rename_i h1
    simp only [Except.ok.injEq, Prod.mk.injEq] at h
    obtain ⟨rfl, rfl⟩ := h
    have := Px.next_len h1
    simp [Nd.text, Nd.size]
    omega
  · split at h
    · rename_i h1
      have hl := Px.next_len h1
      split at h
      · cases h
      · rename_i rs k1 hs
        simp only [Except.ok.injEq, Prod.mk.injEq] at h
        obtain ⟨rfl, rfl⟩ := h
        have h2 := set_len _ _ _ _ _ hs
        have h3 := (Px.set_suf _ _ _ _ _ hs).2
        simp [Nd.text, Nd.size, Px.pairs] at h2 ⊢
        omega
    · split at h
      · rename_i h1
        have hl := Px.next_len h1
        split at h
        · cases h
        · rename_i c k1 hs
          obtain ⟨h2, h3⟩ := hc _ _ _ hs
          split at h
          · rename_i h41
            have h4 := Px.next_len h41
            simp only [Except.ok.injEq, Prod.mk.injEq] at h
            obtain ⟨rfl, rfl⟩ := h
            simp [Nd.text, Nd.size]
            omega
          · cases h
      · split at h
        · cases h
        · rename_i x k1 hn
          simp only [Except.ok.injEq, Prod.mk.injEq] at h
          obtain ⟨rfl, rfl⟩ := h
          have h1 := (Px.number_suf hn).2
          have ga := (Is.as_iff _).1 (number_as hn)
          have l1 := itoa_len x (by omega) (by omega)
          simp [Nd.text, Nd.size, Px.pairs, Px.pair]
          omega
theorem item_len {ch : Bs → Except Int (List (List Nd) × Bs)} (hc : Pays ch) {r : Bs} {n : Nd} {k : Bs} (h : Px.item ch r = .ok (n, k)) : (Nd.text n).length + 1 + 50 * k.length ≤ 50 * r.length ∧ Nd.size n + k.length ≤ r.length := by
  unfold Px.item at h
  split at h
  · cases h
  · rename_i n1 k1 hs
    have h1 := atom_len hc hs
    split at h
    · simp only [Except.ok.injEq, Prod.mk.injEq] at h
      obtain ⟨rfl, rfl⟩ := h
      exact h1
    · rename_i hsg
      simp only [Except.ok.injEq, Prod.mk.injEq] at h
      obtain ⟨rfl, rfl⟩ := h
      obtain ⟨d, hd⟩ := sign_isAt hsg
      have h2 := Px.next_len hd
      have h3 : (Px.signText (Px.sign k1)).length = 1 := by
        unfold Px.signText
        split
        · rfl
        · split <;> rfl
      simp only [Nd.text, Nd.size, List.length_append, h3]
      omega
theorem Nd.sizeRow_app (a : List Nd) (x : Nd) : Nd.sizeRow (a ++ [x]) = Nd.sizeRow a + Nd.size x := by
  induction a with
  | nil => simp [Nd.sizeRow]
  | cons y r ih => simp only [List.cons_append, Nd.sizeRow, ih]; omega
theorem Nd.sizeRows_app (a : List (List Nd)) (x : List Nd) : Nd.sizeRows (a ++ [x]) = Nd.sizeRows a + Nd.sizeRow x := by
  induction a with
  | nil => simp [Nd.sizeRows]
  | cons y r ih => simp only [List.cons_append, Nd.sizeRows, ih]; omega
theorem row_len {ch : Bs → Except Int (List (List Nd) × Bs)} (hc : Pays ch) : ∀ (f : Nat) (acc : List Nd) (r : Bs) (l : List Nd) (k : Bs), Px.row ch f acc r = .ok (l, k) → (Nd.rowText l).length + 50 * k.length ≤ (Nd.rowText acc).length + 50 * r.length ∧ Nd.sizeRow l + k.length ≤ Nd.sizeRow acc + r.length
  | 0, _, _, _, _, h => by cases h
  | f + 1, acc, r, l, k, h => by
    rw [Px.row] at h
    have hsk := (Px.skip_suf r).length_le
    split at h
    · simp only [Except.ok.injEq, Prod.mk.injEq] at h
      obtain ⟨rfl, rfl⟩ := h
      simp
    · rename_i c t hs
      rw [hs] at hsk
      split at h
      · split at h
        · cases h
        · rename_i n k1 hi
          obtain ⟨h1, h2⟩ := item_len hc hi
          obtain ⟨h3, h4⟩ := row_len hc f _ k1 l k h
          rw [Nd.rowText_app, List.length_append, List.length_append] at h3
          rw [Nd.sizeRow_app] at h4
          have h5 : (if acc.length = 0 then ([] : Bs) else [32]).length ≤ 1 := by split <;> simp
          omega
      · simp only [Except.ok.injEq, Prod.mk.injEq] at h
        obtain ⟨rfl, rfl⟩ := h
        omega
theorem rows_len {ch : Bs → Except Int (List (List Nd) × Bs)} (hc : Pays ch) : ∀ (f : Nat) (acc : List (List Nd)) (r : Bs) (l : List (List Nd)) (k : Bs), Px.rows ch f acc r = .ok (l, k) → (Nd.rowsText l).length + 50 * k.length ≤ (Nd.rowsText acc).length + 1 + 50 * r.length ∧ Nd.sizeRows l + k.length ≤ Nd.sizeRows acc + r.length
  | 0, _, _, _, _, h => by cases h
  | f + 1, acc, r, l, k, h => by
    rw [Px.rows] at h
    split at h
    · cases h
    · rename_i l1 k1 hr
      obtain ⟨h1, h2⟩ := row_len hc _ _ _ _ _ hr
      simp only [Nd.rowText, Nd.sizeRow, List.length_nil, Nat.zero_add] at h1 h2
      have h5 : (if acc.length = 0 then ([] : Bs) else [124]).length ≤ 1 := by split <;> simp
      have e1 := congrArg List.length (Nd.rowsText_app acc l1)
      rw [List.length_append, List.length_append] at e1
      have e2 := Nd.sizeRows_app acc l1
      split at h
      · rename_i hb
        have h6 := Px.next_len hb
        obtain ⟨h3, h4⟩ := rows_len hc f _ _ l k h
        omega
      · simp only [Except.ok.injEq, Prod.mk.injEq] at h
        obtain ⟨rfl, rfl⟩ := h
        omega
theorem choice_pays : ∀ d, Pays (Px.choice d)
  | 0 => fun r c k h => by cases h
  | d + 1 => fun r c k h => by
    have := rows_len (choice_pays d) _ _ _ _ _ h
    simp only [Nd.rowsText, Nd.sizeRows, List.length_nil] at this
    omega
theorem parse_bounds {s : Bs} {f l : Bool} {rows : List (List Nd)} (h : Px.parse s = .ok (f, l, rows)) : (∃ d, Nd.GoodRows d rows) ∧ (Nd.rowsText rows).length ≤ 10000 ∧ Nd.sizeRows rows ≤ 1000000 := by
  obtain ⟨k, hc, _, _, _, hl⟩ := parse_parts h
  have hg := parse_good h
  rw [Nd.Good] at hg
  have h1 := choice_pays 8 _ _ _ hc
  have h2 : (if Px.isAt s 94 = true then Px.next s else s).length ≤ s.length := by
    split
    · exact (Px.next_suf s).length_le
    · exact Nat.le_refl _
  exact ⟨⟨_, hg.2⟩, by omega, by omega⟩
end Go.Proofs.YtngfoijmknclhaaGreatDoor.Ar
