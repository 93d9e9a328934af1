import Derived.Test.YtbceoinhmpnjaaaGreatDoorY1
import Derived.Test.YtbceoinhmpnjaaaGreatDoorU1
/- The program's Parse of a path. -/
namespace Go.Proofs.YtbceoinhmpnjaaaGreatDoor.Y4
open Go.RowKit Go.Sort

theorem path_none (w : World) (q : Int) {w' : World} (hb : Below w.heap.size w w') : PathGood w [] q (.returned (.tuple #[.slice none 0 0, .int .i64 q])) w' := ⟨none, 0, rfl, World.ownsRow_nil _ _ _ _, hb⟩

/-- What Parse asks of package variables: the greatest length of a search reads as a number, the error of a range as an error. -/
def Pt (w : World) : Prop := (∃ m, w.cell? ⟨2, 0, none⟩ = some (.int .i64 m)) ∧ ∃ ev, w.cell? ⟨5, 0, none⟩ = some ev ∧ (ev = .nilIface ∨ ∃ te pe, ev = .iface te pe)
theorem Pt.on {w w' : World} (h : Pt w) (hb : Below w.heap.size w w') : Pt w' := by
  obtain ⟨⟨m, h1⟩, ev, h2, h3⟩ := h
  exact ⟨⟨m, (hb.cell (p := ⟨2, 0, none⟩) (block_lt_of_cell h1)).trans h1⟩, ev, (hb.cell (p := ⟨5, 0, none⟩) (block_lt_of_cell h2)).trans h2, h3⟩

/-- strconv.Atoi at a number: its value, or an error where it is too great. -/
theorem atoi_is (t : ByteArray) (hn : Ad.isNum t.data.toList = true) (ht : t.size ≤ 2000) (w : World) (hT : Pt w) :
    (Calls Tryz.prog 98 #[.string t] w fun e w' => e = .returned (.tuple #[.int .i64 (Ad.num t.data.toList), .nilIface]) ∧ Below w.heap.size w w') ∨
    (65535 < Ad.num t.data.toList ∧ ∃ v : Int, Calls Tryz.prog 98 #[.string t] w fun e w' => ∃ N : Nat, e = .returned (.tuple #[.int .i64 v, .iface 157 (.pointer (some ⟨N, 0, none⟩))]) ∧ Below w.heap.size w w') := by
  rcases atoi_num _ hn with h | ⟨h, h1⟩
  · left
    refine (Tryz.strconv_Atoi_ok t (by omega) _ h w).mono ?_
    rintro e w' ⟨rfl, rfl | ⟨u, rfl⟩⟩
    · exact ⟨rfl, brefl _⟩
    · exact ⟨rfl, Lib.bytesWorld_below w 5 u⟩
  · right
    obtain ⟨_, ev, h2, h3⟩ := hT
    refine ⟨h1, Lib.atoiSat t.data.toList, (Tryz.strconv_Atoi_range t (by omega) h ev w h2 h3).mono ?_⟩
    rintro e w' ⟨N, rfl, _, _, hb⟩
    exact ⟨N, rfl, hb⟩

theorem Is.parse_good (l : List UInt8) (h0 : l ≠ []) (ha : (Sp.split l).all Ad.isNum = true) (y : List Int) (q : Int) (h : Is.parse l = (y, q)) :
    ((∃ f ∈ Sp.split l, Is.as (Ad.num f) = false) → y = [] ∧ q = 7) ∧ ((∀ f ∈ Sp.split l, Is.as (Ad.num f) = true) → (16 < (Sp.split l).length ∧ y = [] ∧ q = 2) ∨ ((Sp.split l).length ≤ 16 ∧ y = (Sp.split l).map Ad.num ∧ q = 0)) := by
  unfold Is.parse at h
  rw [if_neg h0, if_pos ha] at h
  constructor
  · rintro ⟨f, hf, hn⟩
    have hb : ((Sp.split l).map Ad.num).all Is.as = false := by
      rw [List.all_eq_false]
      exact ⟨_, List.mem_map.2 ⟨f, hf, rfl⟩, by rw [hn]; decide⟩
    rw [hb] at h
    simp at h
    exact ⟨h.1, h.2.symm⟩
  · intro hall
    have hb : ((Sp.split l).map Ad.num).all Is.as = true := by
      rw [List.all_eq_true]
      intro x hx
      obtain ⟨f, hf, rfl⟩ := List.mem_map.1 hx
      exact hall f hf
    rw [if_pos hb] at h
    split at h
    · rename_i h16
      simp at h
      exact .inl ⟨h16, h.1, h.2.symm⟩
    · rename_i h16
      simp only [Prod.mk.injEq] at h
      exact .inr ⟨by omega, h.1.symm, h.2.symm⟩

theorem split_is (s : ByteArray) (ws : List ByteArray) (hw : Lib.splitB ⟨#[32]⟩ 0 (Lib.countB s ⟨#[32]⟩) s = ws) (w : World) (hT : Pt w) (hs : s.size ≤ 2000) :
    Calls Tryz.prog 96 #[.string s, .string ⟨#[32]⟩] w fun e w' => e = .returned (.slice (some ⟨w.heap.size, 0, none⟩) ws.length ws.length) ∧ St.reads w' w.heap.size 0 ws ∧ Below w.heap.size w w' := by
  obtain ⟨⟨m, hm⟩, _⟩ := hT
  have hl : ws.length = Lib.countB s ⟨#[32]⟩ + 1 := by rw [← hw]; exact Lib.splitB_all ⟨#[32]⟩ (by decide) 0 _ s rfl
  refine (Tryz.strings_Split s ⟨#[32]⟩ m w (by omega) hm (by decide)).mono ?_
  rintro e w' ⟨rfl, rfl⟩
  rw [← hl, hw]
  refine ⟨rfl, fun j hj => ?_, balloc (brefl w) _⟩
  rw [Nat.zero_add]
  simp [hj]

theorem own_mono {w : World} {B B' e size n : Nat} {v : Value} {xs : List Value} (h : w.ownsRow B e size v n xs) (hB : B' ≤ B) : w.ownsRow B' e size v n xs := by
  refine ⟨h.1, ?_⟩
  rcases h.2 with h2 | ⟨g, cap, cur, hv, hg, r⟩
  · exact .inl h2
  · exact .inr ⟨g, cap, cur, hv, Nat.le_trans hB hg, r⟩
set_option maxHeartbeats 4000000 in
theorem parse_is (s : ByteArray) (y : List Int) (q : Int) (hs : s.size ≤ 2000) (h : Is.parse s.data.toList = (y, q)) (w : World) (hT : Pt w) : Calls Tryz.prog 88 #[.string s] w (PathGood w y q) := by
  by_cases h0 : s.size = 0
  · obtain rfl : s = ⟨#[]⟩ := ByteArray.ext (Array.eq_empty_of_size_eq_zero h0)
    obtain ⟨rfl, rfl⟩ : y = [] ∧ q = 0 := by
      have h : (([], 0) : List Int × Int) = (y, q) := h
      simp at h
      exact ⟨h.1, h.2.symm⟩
    clear h hT
    go_enter Tryz.func88, Tryz.ntmps88
    go_wp2_with fail
    exact bodyPost_ret (v := .tuple #[.slice none 0 0, .int .i64 0]) (by simp [results, Tryz.results88, go_sem]) rfl (path_none _ _ (brefl _))
  · have he : s.toList.isEmpty = false := by rw [Ad.empty_iff]; exact decide_eq_false h0
    have hne : s.data.toList ≠ [] := by
      intro e
      have := Ad.size_list s
      rw [e] at this
      simp at this
      omega
    obtain ⟨ws, hw⟩ : ∃ ws, Lib.splitB ⟨#[32]⟩ 0 (Lib.countB s ⟨#[32]⟩) s = ws := ⟨_, rfl⟩
    have hsp : ws.map (·.data.toList) = Sp.split s.data.toList := by rw [← hw]; exact splitB_is s
    have hwl : ws.length ≤ 2001 := by
      have h1 := Sp.split_count s.data.toList
      rw [← hsp, List.length_map, Ad.size_list] at h1
      omega
    have hsz : ∀ t ∈ ws, t.size ≤ 2000 := by
      intro t ht
      have h1 := Sp.split_size s.data.toList t.data.toList (by rw [← hsp]; exact List.mem_map.2 ⟨t, ht, rfl⟩)
      rw [Ad.size_list, Ad.size_list] at h1
      omega
    have CS := hide (split_is s ws hw w hT hs)
    have HALLN : Hid ((ws.all fun t => Ad.isNum t.data.toList) = (Sp.split s.data.toList).all Ad.isNum) := by
      show _ = _
      rw [← hsp, List.all_map]
      rfl
    cases hall : ws.all fun t => Ad.isNum t.data.toList
    · obtain ⟨rfl, rfl⟩ : y = [] ∧ q = 4 := by
        rw [HALLN.out, List.all_eq_false] at hall
        obtain ⟨f, hf, hn⟩ := hall
        exact Is.parse_bad _ hne f hf (by simpa using hn) y q h
      have CN := hide (fun b off c w1 hrd => areNumbers_is b off c ws false hall w1 hrd (by omega) hsz)
      clear h hT hne hw hsp hsz hall HALLN
      go_enter Tryz.func88, Tryz.ntmps88
      go_wp2_with fail
      refine CS.out.mono ?_
      rintro e w1 ⟨rfl, hrd, hb1⟩
      have B1 := hide hb1
      have CN1 := hide (CN.out _ 0 ws.length w1 hrd)
      clear CS CN hrd hb1
      go_wp2_with fail
      refine CN1.out.mono ?_
      rintro e w2 ⟨rfl, hb2⟩
      have B2 := hide (bthen B1.out hb2)
      clear hb2 CN1 B1
      go_wp2_with fail
      exact bodyPost_ret (v := .tuple #[.slice none 0 0, .int .i64 4]) (by simp [results, Tryz.results88, go_sem]) rfl (path_none _ _ B2.out)
    · have hg := Is.parse_good s.data.toList hne (by rw [← HALLN.out]; exact hall) y q h
      rw [← hsp] at hg
      have HBAD : Hid (∀ j (hj : j < ws.length), Is.as (Ad.num ws[j].data.toList) = false → y = [] ∧ q = 7) := by
        intro j hj hn
        exact hg.1 ⟨_, List.mem_map.2 ⟨ws[j], List.getElem_mem hj, rfl⟩, hn⟩
      have HEND : Hid ((∀ j (hj : j < ws.length), Is.as (Ad.num ws[j].data.toList) = true) → (16 < ws.length ∧ y = [] ∧ q = 2) ∨ (ws.length ≤ 16 ∧ y = ws.map (fun t => Ad.num t.data.toList) ∧ q = 0)) := by
        intro hj
        have := hg.2 (by
          intro f hf
          obtain ⟨t, ht, rfl⟩ := List.mem_map.1 hf
          obtain ⟨j, hj', rfl⟩ := List.getElem_of_mem ht
          exact hj j hj')
        rw [List.length_map, List.map_map] at this
        exact this
      have HNUM : Hid (∀ j (hj : j < ws.length), Ad.isNum ws[j].data.toList = true) := by
        intro j hj
        exact List.all_eq_true.1 hall _ (List.getElem_mem hj)
      have CN := hide (fun b off c w1 hrd => areNumbers_is b off c ws true hall w1 hrd (by omega) hsz)
      have HT := hide hT
      have HSZ := hide hsz
      clear h hT hne hw hsp hsz hall HALLN hg
      go_enter Tryz.func88, Tryz.ntmps88
      go_wp2_with fail
      refine CS.out.mono ?_
      rintro e w1 ⟨rfl, hrd, hb1⟩
      have B1 := hide hb1
      have RD1 := hide hrd
      have CN1 := hide (CN.out _ 0 ws.length w1 hrd)
      clear CS CN hrd hb1
      generalize w.heap.size = G at RD1 CN1 ⊢
      go_wp2_with fail
      refine CN1.out.mono ?_
      rintro e w2 ⟨rfl, hb2⟩
      have B2 := hide (bthen B1.out hb2)
      have RD := hide (St.reads_below RD1.out hb2)
      clear hb2 CN1 B1 RD1
      go_wp2_with fail
      go_loopw [5, 19] (fun v5 v19 wr => ∃ (k : Nat) (o : Option Addr) (c : Nat) (p : List Int), v19 = .int .i64 k ∧ v5 = .slice o k c ∧ k ≤ ws.length ∧ Hid (p = (ws.take k).map fun t => Ad.num t.data.toList) ∧ Hid (∀ j (hj : j < ws.length), j < k → Is.as (Ad.num ws[j].data.toList) = true) ∧ wr.ownsRow w2.heap.size 3 1 (.slice o k c) k (Is.cells p) ∧ Below w2.heap.size w2 wr) (fun _ v19 _ => ws.length - (intOf v19).toNat)
      case atStart => exact ⟨0, none, 0, [], rfl, rfl, Nat.zero_le _, hide rfl, hide fun j _ h => absurd h (Nat.not_lt_zero _), World.ownsRow_nil _ _ _ _, brefl _⟩
      case round =>
        obtain ⟨k, o, c, p, rfl, rfl, hk, HP, HAS, hown, hbr2⟩ := hrel
        have HO := hide hown
        have HBR := hide (bthen B2.out hbr2)
        have HB2 := hide hbr2
        clear hown hbr2
        by_cases hkl : k < ws.length
        · have hkl' : (k : Int) < (ws.length : Int) := by omega
          have e0 := St.reads_below RD.out HB2.out k hkl
          rw [Nat.zero_add] at e0
          have hts := HSZ.out _ (List.getElem_mem hkl)
          have hnum := HNUM.out k hkl
          have CA := atoi_is ws[k] hnum hts wr (HT.out.on HBR.out)
          have HBD := hide (HBAD.out k hkl)
          have HNP : Hid ((ws.take (k + 1)).map (fun t => Ad.num t.data.toList) = p ++ [Ad.num ws[k].data.toList]) := by
            show _ = _
            rw [List.take_succ_eq_append_getElem hkl, List.map_append, HP.out]
            rfl
          have HNA : Hid (Is.as (Ad.num ws[k].data.toList) = true → ∀ j (hj : j < ws.length), j < k + 1 → Is.as (Ad.num ws[j].data.toList) = true) := by
            intro h j hj hjk
            rcases Nat.lt_or_ge j k with h1 | h1
            · exact HAS.out j hj h1
            · obtain rfl : j = k := by omega
              exact h
          generalize ws[k] = t at *
          clear hts hnum HP HAS
          generalize Ad.num t.data.toList = n at *
          rcases CA with CA | ⟨hbig, v, CA⟩
          · have CAH := hide CA
            clear CA
            cases has : Is.as n
            · obtain ⟨rfl, rfl⟩ := HBD.out has
              have CM := hide (fun W => mayAS_is n false has W)
              clear HBD HNP HNA has
              go_wp2_with fail
              refine CAH.out.mono ?_
              rintro e w3 ⟨rfl, hb3⟩
              have B3 := hide (bthen HBR.out hb3)
              clear hb3 CAH
              go_wp2_with fail
              refine (CM.out _).mono ?_
              rintro e w4 ⟨rfl, rfl⟩
              go_wp2_with fail
              exact bodyPost_ret (v := .tuple #[.slice none 0 0, .int .i64 7]) (by simp [results, Tryz.results88, go_sem]) rfl (path_none _ _ B3.out)
            · have CM := hide (fun W => mayAS_is n true has W)
              have HNA := hide (HNA.out has)
              clear HBD has
              go_wp2_with fail
              refine CAH.out.mono ?_
              rintro e w3 ⟨rfl, hb3⟩
              have B3 := hide (bthen HBR.out hb3)
              have D3 := hide (bthen HB2.out hb3)
              have HO3 := hide (row_below HO.out hb3)
              clear hb3 CAH HO
              go_wp2_with fail
              refine (CM.out _).mono ?_
              rintro e w4 ⟨rfl, rfl⟩
              go_wp2_with (at_builtin; go_must (refine append_ints (w0 := w2) rfl _ _ rfl _ k p rfl (HO3.out.alloc _) (some ⟨w4.heap.size, 0, none⟩) 1 _ [n] rfl rfl (Is.slot_one _ _ _) (came_some _ _ _) (by omega) (balloc D3.out _) ?_))
              intro v' w5 hnew hb5
              obtain ⟨no, nc, rfl⟩ := row_slice hnew
              have HNW := hide hnew
              have D5 := hide hb5
              clear hnew hb5
              go_wp2_with fail
              exact ⟨⟨k + 1, no, nc, p ++ [n], by go_num, rfl, by omega, hide HNP.out.symm, HNA, HNW.out, D5.out⟩, by simp [intOf] <;> omega⟩
          · have hna : Is.as n = false := (Is.as_not n).2 (by omega)
            obtain ⟨rfl, rfl⟩ := HBD.out hna
            have CAH := hide CA
            clear CA HBD HNP HNA hna
            go_wp2_with fail
            refine CAH.out.mono ?_
            rintro e w3 ⟨N, rfl, hb3⟩
            have B3 := hide (bthen HBR.out hb3)
            clear hb3 CAH
            go_wp2_with fail
            exact bodyPost_ret (v := .tuple #[.slice none 0 0, .int .i64 7]) (by simp [results, Tryz.results88, go_sem]) rfl (path_none _ _ B3.out)
        · obtain rfl : k = ws.length := by omega
          have hcs := HEND.out fun j hj => HAS.out j hj hj
          have hpp := HP.out
          rw [List.take_length] at hpp
          rcases hcs with ⟨h16, rfl, rfl⟩ | ⟨h16, hy, rfl⟩
          · have h16' : (16 : Int) < (ws.length : Int) := by omega
            clear hpp
            go_wp2_with fail
            exact bodyPost_ret (v := .tuple #[.slice none 0 0, .int .i64 2]) (by simp [results, Tryz.results88, go_sem]) rfl (path_none _ _ HBR.out)
          · have h16' : ¬ (16 : Int) < (ws.length : Int) := by omega
            obtain rfl : p = y := by rw [hy, hpp]
            have HPL : Hid (p.length = ws.length) := by show _ = _; rw [hpp, List.length_map]
            clear hpp hy
            go_wp2_with fail
            exact bodyPost_ret (v := .tuple #[.slice o ws.length c, .int .i64 0]) (by simp [results, Tryz.results88, go_sem]) rfl ⟨o, c, by rw [HPL.out], by rw [HPL.out]; exact own_mono HO.out B2.out.size, HBR.out⟩
end Go.Proofs.YtbceoinhmpnjaaaGreatDoor.Y4
