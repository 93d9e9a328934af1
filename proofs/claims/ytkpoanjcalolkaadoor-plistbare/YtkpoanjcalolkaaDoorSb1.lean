import Derived.Test.YtkpoanjcalolkaaDoorSa5
import Derived.Test.YtkpoanjcalolkaaDoorSa9
import Derived.Sort.AssemblyPlain
/- The library's sort at uint32: its parts, from a world of the sort's own; what each leaves. -/
namespace Go.Proofs.YtkpoanjcalolkaaDoor
open Go.RowKit Go.Sort

/-- The row is put in order in a part. -/
def Done (w : World) (blk off : Nat) (d dk : Array Int) (a b : Nat) (w' : World) : Prop := ∃ d', PermIn a b dk d' ∧ SortedIn ltInt a b d' ∧ SW w blk off d d' w'
/-- The row is turned in a part. -/
def Turned (w : World) (blk off : Nat) (d dk : Array Int) (a b : Nat) (w' : World) : Prop := ∃ d', PermIn a b dk d' ∧ SW w blk off d d' w'

variable {w W : World} {blk off cap a b : Nat} {d dk : Array Int}

theorem ins_sw (hH : Holds (Value.int .u32) w blk off d) (hblk : blk < w.heap.size) (h : SW w blk off d dk W) (hab : a ≤ b) (hb : b ≤ d.size) (hsz : d.size ≤ 1000000) :
    Calls Tryd.prog 64 #[.slice (some ⟨blk, off, none⟩) d.size cap, .int .i64 a, .int .i64 b] W fun e w' => e = .returned (.tuple #[]) ∧ Done w blk off d dk a b w' := by
  have hho := sw_holds hH hblk h
  have hs := h.1
  have := insertion_u blk off cap a b dk W hho.1 hho.2 hab (by omega) (by omega)
  rw [hs] at this
  refine this.mono ?_
  rintro e w' ⟨he, h2⟩
  have hsp := insertionSort_holds (lt := ltInt) swo_ltInt dk a b hab (by omega)
  exact ⟨he, _, hsp.1, hsp.2, sw_trans hblk h h2⟩

theorem heap_sw (hH : Holds (Value.int .u32) w blk off d) (hblk : blk < w.heap.size) (h : SW w blk off d dk W) (hab : a < b) (hb : b ≤ d.size) (hsz : d.size ≤ 1000000) :
    Calls Tryd.prog 65 #[.slice (some ⟨blk, off, none⟩) d.size cap, .int .i64 a, .int .i64 b] W fun e w' => e = .returned (.tuple #[]) ∧ Done w blk off d dk a b w' := by
  have hho := sw_holds hH hblk h
  have hs := h.1
  have := heap_u blk off cap a b dk W hho.1 hho.2 hab (by omega) (by omega)
  rw [hs] at this
  refine this.mono ?_
  rintro e w' ⟨he, h2⟩
  have hsp := heapSort_holds (lt := ltInt) swo_ltInt dk a b (by omega) (by omega)
  exact ⟨he, _, hsp.1, hsp.2, sw_trans hblk h h2⟩

theorem rev_sw (hH : Holds (Value.int .u32) w blk off d) (hblk : blk < w.heap.size) (h : SW w blk off d dk W) (hab : a < b) (hb : b ≤ d.size) (hsz : d.size ≤ 1000000) :
    Calls Tryd.prog 68 #[.slice (some ⟨blk, off, none⟩) d.size cap, .int .i64 a, .int .i64 b] W fun e w' => e = .returned (.tuple #[]) ∧ Turned w blk off d dk a b w' := by
  have hho := sw_holds hH hblk h
  have hs := h.1
  have := reverse_u blk off cap a b dk W hho.1 hho.2 hab (by omega) (by omega)
  rw [hs] at this
  refine this.mono ?_
  rintro e w' ⟨he, h2⟩
  exact ⟨he, _, reverseRange_holds dk a b (by omega) (by omega), sw_trans hblk h h2⟩

theorem break_sw (hH : Holds (Value.int .u32) w blk off d) (hblk : blk < w.heap.size) (h : SW w blk off d dk W) (hab : 12 < b - a) (hb : b ≤ d.size) (hsz : d.size ≤ 1000000) :
    Calls Tryd.prog 66 #[.slice (some ⟨blk, off, none⟩) d.size cap, .int .i64 a, .int .i64 b] W fun e w' => e = .returned (.tuple #[]) ∧ Turned w blk off d dk a b w' := by
  have hho := sw_holds hH hblk h
  have hs := h.1
  obtain ⟨m, rfl⟩ : ∃ m, b = a + m := ⟨b - a, by omega⟩
  have := break_u blk off cap a m dk W hho.1 hho.2 (by omega) (by omega) (by omega)
  rw [hs] at this
  rw [show ((a + m : Nat) : Int) = (a : Int) + (m : Int) by omega]
  refine this.mono ?_
  rintro e w' ⟨he, h2⟩
  exact ⟨he, _, breakPatterns_holds dk a (a + m) (by omega) (by omega), sw_trans hblk h h2⟩

theorem pivot_sw (hH : Holds (Value.int .u32) w blk off d) (hblk : blk < w.heap.size) (h : SW w blk off d dk W) (hab : 12 < b - a) (hb : b ≤ d.size) (hsz : d.size ≤ 1000000) :
    Calls Tryd.prog 67 #[.slice (some ⟨blk, off, none⟩) d.size cap, .int .i64 a, .int .i64 b] W fun e w' => ∃ (p : Nat) (z : Int), e = .returned (.tuple #[.int .i64 p, .int .i64 z]) ∧ a ≤ p ∧ p < b ∧ SW w blk off d dk w' := by
  have hho := sw_holds hH hblk h
  have hs := h.1
  obtain ⟨m, rfl⟩ : ∃ m, b = a + m := ⟨b - a, by omega⟩
  have := pivot_u blk off cap a m dk W hho.1 hho.2 (by omega) (by omega) (by omega)
  rw [hs] at this
  rw [show ((a + m : Nat) : Int) = (a : Int) + (m : Int) by omega]
  refine this.mono ?_
  rintro e w' ⟨he, h2⟩
  have hc := choosePivot_holds ltInt dk a (a + m) (by omega)
  exact ⟨_, _, he, hc.1, hc.2, sw_trans hblk h h2⟩

theorem pi_sw (hH : Holds (Value.int .u32) w blk off d) (hblk : blk < w.heap.size) (h : SW w blk off d dk W) (hab : a < b) (hb : b ≤ d.size) (hsz : d.size ≤ 1000000) (hB : Sort.Below ltInt a b dk) :
    Calls Tryd.prog 69 #[.slice (some ⟨blk, off, none⟩) d.size cap, .int .i64 a, .int .i64 b] W fun e w' => ∃ (r : Bool), e = .returned (.bool r) ∧ (r = true → Done w blk off d dk a b w') ∧ Turned w blk off d dk a b w' := by
  have hho := sw_holds hH hblk h
  have hs := h.1
  have := partialIns_u blk off cap a b dk W hho.1 hho.2 hab (by omega) (by omega)
  rw [hs] at this
  refine this.mono ?_
  rintro e w' ⟨he, h2⟩
  have hsp := partialInsertionSort_holds (lt := ltInt) swo_ltInt dk a b hab (by omega) hB
  exact ⟨_, he, fun hr => ⟨_, hsp.1, hsp.2 hr, sw_trans hblk h h2⟩, _, hsp.1, sw_trans hblk h h2⟩

theorem pe_sw {p mid : Nat} {d4 : Array Int} (hH : Holds (Value.int .u32) w blk off d) (hblk : blk < w.heap.size) (h : SW w blk off d dk W) (h1 : a ≤ p) (h2 : p < b) (hb : b ≤ d.size) (hsz : d.size ≤ 1000000) (e : partitionEqual ltInt dk a b p = (mid, d4)) :
    Calls Tryd.prog 71 #[.slice (some ⟨blk, off, none⟩) d.size cap, .int .i64 a, .int .i64 b, .int .i64 p] W fun e w' => e = .returned (.int .i64 mid) ∧ SW w blk off d d4 w' := by
  have hho := sw_holds hH hblk h
  have hs := h.1
  have := partEq_u blk off cap a b p dk W hho.1 hho.2 h1 h2 (by omega) (by omega)
  rw [hs, e] at this
  refine this.mono ?_
  rintro e w' ⟨he, h3⟩
  exact ⟨he, sw_trans hblk h h3⟩

theorem pt_sw {p mid : Nat} {r : Bool} {d4 : Array Int} (hH : Holds (Value.int .u32) w blk off d) (hblk : blk < w.heap.size) (h : SW w blk off d dk W) (h1 : a ≤ p) (h2 : p < b) (hb : b ≤ d.size) (hsz : d.size ≤ 1000000) (e : partition ltInt dk a b p = (mid, r, d4)) :
    Calls Tryd.prog 72 #[.slice (some ⟨blk, off, none⟩) d.size cap, .int .i64 a, .int .i64 b, .int .i64 p] W fun e w' => e = .returned (.tuple #[.int .i64 mid, .bool r]) ∧ SW w blk off d d4 w' := by
  have hho := sw_holds hH hblk h
  have hs := h.1
  have := part_u blk off cap a b p dk W hho.1 hho.2 h1 h2 (by omega) (by omega)
  rw [hs, e] at this
  refine this.mono ?_
  rintro e w' ⟨he, h3⟩
  exact ⟨he, sw_trans hblk h h3⟩
end Go.Proofs.YtkpoanjcalolkaaDoor

/- The library's sort at uint32: pdqsortOrdered. -/
namespace Go.Proofs.YtkpoanjcalolkaaDoor
open Go.RowKit Go.Sort

/-- Whatever puts this part in order puts the whole in order. -/
def Comp (d : Array Int) (a0 b0 : Nat) (dk : Array Int) (a b : Nat) : Prop := ∀ R, PermIn a b dk R → SortedIn ltInt a b R → PermIn a0 b0 d R ∧ SortedIn ltInt a0 b0 R

theorem comp_perm {d dk d2 : Array Int} {a0 b0 a b : Nat} (h : Comp d a0 b0 dk a b) (hp : PermIn a b dk d2) : Comp d a0 b0 d2 a b := fun R h1 h2 => h R (permIn_trans _ _ _ a b hp h1) h2

/-- What the sort does of parts shorter than N. -/
def PdqAt (N blk off cap : Nat) : Prop := ∀ (a0 b0 lim0 : Nat) (d : Array Int) (w : World), b0 - a0 < N → Holds (Value.int .u32) w blk off d → blk < w.heap.size → a0 ≤ b0 → b0 ≤ d.size → d.size ≤ 1000000 → lim0 ≤ 1000 → Sort.Below ltInt a0 b0 d →
    Calls Tryd.prog 57 #[.slice (some ⟨blk, off, none⟩) d.size cap, .int .i64 a0, .int .i64 b0, .int .i64 lim0] w fun e w' => e = .returned (.tuple #[]) ∧ Done w blk off d d a0 b0 w'

theorem pdq_rel (N blk off cap : Nat) (HIH : PdqAt N blk off cap) (a b lim : Nat) (d dk : Array Int) (w W : World) (hN : b - a < N) (hH : Holds (Value.int .u32) w blk off d) (hblk : blk < w.heap.size) (h : SW w blk off d dk W) (hab : a ≤ b) (hb : b ≤ d.size) (hsz : d.size ≤ 1000000) (hlim : lim ≤ 1000) (hB : Sort.Below ltInt a b dk) :
    Calls Tryd.prog 57 #[.slice (some ⟨blk, off, none⟩) d.size cap, .int .i64 a, .int .i64 b, .int .i64 lim] W fun e w' => e = .returned (.tuple #[]) ∧ Done w blk off d dk a b w' := by
  have hho := sw_holds hH hblk h
  have hs := h.1
  have := HIH a b lim dk W hN hho.1 hho.2 hab (by omega) (by omega) hlim hB
  rw [hs] at this
  refine this.mono ?_
  rintro e w' ⟨he, d', p1, p2, p3⟩
  exact ⟨he, d', p1, p2, sw_trans hblk h p3⟩

/-- What holds at a round's head. -/
def At57 (w : World) (blk off : Nat) (d : Array Int) (a0 b0 a b lim : Nat) (dk : Array Int) (wr : World) : Prop := a ≤ b ∧ b ≤ d.size ∧ b - a ≤ b0 - a0 ∧ lim ≤ 1000 ∧ SW w blk off d dk wr ∧ Sort.Below ltInt a b dk ∧ Comp d a0 b0 dk a b

set_option maxHeartbeats 4000000 in
set_option maxRecDepth 100000 in
theorem pdq_step (N blk off cap : Nat) (HIH : PdqAt N blk off cap) (a0 b0 lim0 : Nat) (d : Array Int) (w : World) (hN : b0 - a0 < N + 1) (hH : Holds (Value.int .u32) w blk off d) (hblk : blk < w.heap.size) (hab0 : a0 ≤ b0) (hb0 : b0 ≤ d.size) (hsz : d.size ≤ 1000000) (hlim0 : lim0 ≤ 1000) (hB0 : Sort.Below ltInt a0 b0 d) :
    Calls Tryd.prog 57 #[.slice (some ⟨blk, off, none⟩) d.size cap, .int .i64 a0, .int .i64 b0, .int .i64 lim0] w fun e w' => e = .returned (.tuple #[]) ∧ Done w blk off d d a0 b0 w' := by
    have HH := hide hH
    have A0 : Hid (At57 w blk off d a0 b0 a0 b0 lim0 d w) := ⟨hab0, hb0, Nat.le_refl _, hlim0, sw_refl hH, hB0, fun R h1 h2 => ⟨h1, h2⟩⟩
    clear hH hB0
    go_enter Tryd.func57, Tryd.ntmps57
    go_wp2_with fail
    go_loopw [1, 2, 3, 8, 9] (fun v1 v2 v3 v8 v9 wr => ∃ (a b lim : Nat) (wb wp : Bool) (dk : Array Int), v1 = .int .i64 a ∧ v2 = .int .i64 b ∧ v3 = .int .i64 lim ∧ v8 = .bool wb ∧ v9 = .bool wp ∧ Hid (At57 w blk off d a0 b0 a b lim dk wr)) (fun v1 v2 _ _ _ _ => (intOf v2 - intOf v1).toNat)
    case atStart => exact ⟨a0, b0, lim0, true, true, d, rfl, rfl, rfl, rfl, rfl, A0⟩
    case round =>
      obtain ⟨a, b, lim, wb, wp, dk, rfl, rfl, rfl, rfl, rfl, HAT⟩ := hrel
      obtain ⟨hab, hb, hba, hlim, hsk, hBk, hCk⟩ := HAT.out
      have HSK := hide hsk
      have HBK := hide hBk
      have HCK := hide hCk
      have hss : Hid (dk.size = d.size) := hsk.1
      clear hsk hBk hCk HAT A0
      by_cases h12 : b - a ≤ 12
      · have h12' : (b : Int) - (a : Int) ≤ 12 := by omega
        go_wp2_with fail
        refine (ins_sw HH.out hblk HSK.out hab hb hsz).mono ?_
        rintro e w1 ⟨rfl, hd1⟩
        have HD1 := hide hd1
        clear hd1
        go_wp2_with fail
        (try simp only [Exit.inBlock, Exit.then])
        refine bodyPost_ret (results_none rfl _ _ _) rfl ⟨rfl, ?_⟩
        obtain ⟨d', p1, p2, p3⟩ := HD1.out
        exact ⟨d', (HCK.out d' p1 p2).1, (HCK.out d' p1 p2).2, p3⟩
      · have h12' : ¬ (b : Int) - (a : Int) ≤ 12 := by omega
        by_cases hl0 : lim = 0
        · have hl0' : ((lim : Int) == 0) = true := by simp; omega
          go_wp2_with fail
          refine (heap_sw HH.out hblk HSK.out (by omega) hb hsz).mono ?_
          rintro e w1 ⟨rfl, hd1⟩
          have HD1 := hide hd1
          clear hd1
          go_wp2_with fail
          (try simp only [Exit.inBlock, Exit.then])
          refine bodyPost_ret (results_none rfl _ _ _) rfl ⟨rfl, ?_⟩
          obtain ⟨d', p1, p2, p3⟩ := HD1.out
          exact ⟨d', (HCK.out d' p1 p2).1, (HCK.out d' p1 p2).2, p3⟩
        · have hl0' : ((lim : Int) == 0) = false := by simp; omega
          go_upto_if 35 with fail
          go_cut [3] from 19 (fun v3 W => ∃ (l1 : Nat) (d1 : Array Int), v3 = .int .i64 l1 ∧ l1 ≤ 1000 ∧ PermIn a b dk d1 ∧ SW w blk off d d1 W)
          case first =>
            cases wb
            · go_wp2_with fail
              refine (break_sw HH.out hblk HSK.out (by omega) hb hsz).mono ?_
              rintro e w1 ⟨rfl, hd1⟩
              have HD1 := hide hd1
              clear hd1
              go_wp2_with fail
              go_meet
              case rel =>
                obtain ⟨d', p1, p3⟩ := HD1.out
                exact ⟨lim - 1, d', by go_num, by omega, p1, p3⟩
            · go_wp2_with fail
              go_meet
              case rel => exact ⟨lim, dk, rfl, hlim, permIn_refl _ _ _, HSK.out⟩
          case rest =>
            obtain ⟨l1, d1, rfl, hl1, hp1, hs1⟩ := hcut
            have HS1 := hide hs1
            have HB1 := hide (HBK.out.perm (by have := hss.out; omega) hp1)
            have HC1 := hide (comp_perm HCK.out hp1)
            have hss1 : Hid (d1.size = d.size) := hs1.1
            clear hp1 hs1 HSK HBK HCK hss
            go_wp2_with fail
            refine (pivot_sw HH.out hblk HS1.out (by omega) hb hsz).mono ?_
            rintro e w2 ⟨p, z, rfl, hap, hpb, hs2⟩
            have HS2 := hide hs2
            clear hs2 HS1
            go_upto_if 50 with fail
            go_cut [11, 12] from 19 (fun v11 v12 W => ∃ (p2 : Nat) (z2 : Int) (d2 : Array Int), v11 = .int .i64 p2 ∧ v12 = .int .i64 z2 ∧ a ≤ p2 ∧ p2 < b ∧ PermIn a b d1 d2 ∧ SW w blk off d d2 W)
            case first =>
              cases hz : (z == 2)
              · go_wp2_with fail
                go_meet
                case rel => exact ⟨p, z, d1, rfl, rfl, hap, hpb, permIn_refl _ _ _, HS2.out⟩
              · go_wp2_with fail
                refine (rev_sw HH.out hblk HS2.out (by omega) hb hsz).mono ?_
                rintro e w3 ⟨rfl, hd3⟩
                have HD3 := hide hd3
                clear hd3
                go_wp2_with fail
                go_meet
                case rel =>
                  obtain ⟨d', q1, q3⟩ := HD3.out
                  exact ⟨b - 1 - (p - a), 1, d', by go_num, rfl, by omega, by omega, q1, q3⟩
            case rest =>
              obtain ⟨p2, z2, d2, rfl, rfl, hap2, hpb2, hp2, hs3⟩ := hcut
              have HS3 := hide hs3
              have HB2 := hide (HB1.out.perm (by have := hss1.out; omega) hp2)
              have HC2 := hide (comp_perm HC1.out hp2)
              have hss2 : Hid (d2.size = d.size) := hs3.1
              clear hp2 hs3 HS2 HB1 HC1 hss1 hap hpb
              go_upto_region 15 with fail
              go_cut [68] from 19 (fun v68 W => ∃ c : Bool, v68 = .bool c ∧ SW w blk off d d2 W)
              case first =>
                cases wb <;> cases wp <;> cases hz1 : (z2 == 1)
                all_goals
                  go_wp2_with fail
                  go_meet
                  case rel => exact ⟨_, rfl, HS3.out⟩
              case rest =>
                obtain ⟨c, rfl, hs4⟩ := hcut
                have HS4 := hide hs4
                clear hs4 HS3
                go_upto_if 68 with fail
                go_cut [] from 19 (fun W => ∃ d3 : Array Int, PermIn a b d2 d3 ∧ SW w blk off d d3 W)
                case first =>
                  cases c
                  · go_wp2_with fail
                    go_meet
                    case rel => exact ⟨d2, permIn_refl _ _ _, HS4.out⟩
                  · go_wp2_with fail
                    refine (pi_sw HH.out hblk HS4.out (by omega) hb hsz HB2.out).mono ?_
                    rintro e w5 ⟨r, rfl, hr5, ht5⟩
                    have HR5 := hide hr5
                    have HT5 := hide ht5
                    clear hr5 ht5
                    cases r
                    · go_wp2_with fail
                      go_meet
                      case rel => exact HT5.out
                    · go_wp2_with fail
                      (try simp only [Exit.inBlock, Exit.then])
                      refine bodyPost_ret (results_none rfl _ _ _) rfl ⟨rfl, ?_⟩
                      obtain ⟨d', q1, q2, q3⟩ := HR5.out (by first | rfl | trivial)
                      exact ⟨d', (HC2.out d' q1 q2).1, (HC2.out d' q1 q2).2, q3⟩
                case rest =>
                  obtain ⟨d3, hp3, hs5⟩ := hcut
                  have HS5 := hide hs5
                  have HB3 := hide (HB2.out.perm (by have := hss2.out; omega) hp3)
                  have HC3 := hide (comp_perm HC2.out hp3)
                  have hss3 : Hid (d3.size = d.size) := hs5.1
                  clear hp3 hs5 HS4 HB2 HC2 hss2
                  go_upto_region 17 with fail
                  go_cut [87] from 19 (fun v87 W => ∃ c : Bool, v87 = .bool c ∧ (c = true → 0 < a ∧ ltInt d3[a - 1]! d3[p2]! = false) ∧ SW w blk off d d3 W)
                  case first =>
                    have hho := sw_holds HH.out hblk HS5.out
                    obtain ⟨G, hG⟩ : ∃ G : Nat → Int, ∀ t, G t = d3[t]! := ⟨fun t => d3[t]!, fun _ => rfl⟩
                    have hcw : ∀ t, t < d.size → wc.cell? ⟨blk, off + t, none⟩ = some (.int .u32 (G t)) := fun t ht => by rw [hG]; exact (hho.1 t (by have := hss3.out; omega)).1
                    have HG := hide hG
                    clear hG hho
                    rcases Nat.eq_zero_or_pos a with ha0 | ha0
                    · have ha0' : decide ((0 : Int) < (a : Int)) = false := decide_eq_false (by omega)
                      go_wp2_with fail
                      go_big_quiet (fail)
                      go_wp2_with fail
                      go_meet
                      case rel => exact ⟨false, rfl, fun h => (by cases h), sw_drew HS5.out _⟩
                    · have ha0' : (0 : Int) < (a : Int) := by omega
                      go_wp2_with fail
                      go_big_quiet ((go_at_call 70; refine Calls.quiet_of_same (less_u _ _ _)))
                      go_wp2_with fail
                      go_meet
                      case rel => exact ⟨_, rfl, fun h => ⟨ha0, by simp only [← HG.out]; simpa using h⟩, sw_drew HS5.out _⟩
                  case rest =>
                    obtain ⟨c2, rfl, hc2, hs6⟩ := hcut
                    have HS6 := hide hs6
                    have HC4 := hide hc2
                    clear hs6 hc2 HS5
                    cases c2
                    · obtain ⟨⟨mid, ap, d4⟩, hx⟩ : ∃ r, partition ltInt d3 a b p2 = r := ⟨_, rfl⟩
                      have RP := round_part swo_ltInt (partition_holds ltInt) hap2 hpb2 (by have := hss3.out; omega) HB3.out hx
                      have HX := hide hx
                      obtain ⟨m1, m2, hs4', hBl, hBr, hL, hR⟩ := RP
                      have HSZ := hide hs4'
                      have HBL := hide hBl
                      have HBR := hide hBr
                      have HL := hide hL
                      have HR := hide hR
                      clear hx hs4' hBl hBr hL hR
                      go_wp2_with fail
                      refine (pt_sw HH.out hblk HS6.out hap2 hpb2 hb hsz HX.out).mono ?_
                      rintro e w7 ⟨rfl, hs7⟩
                      have HS7 := hide hs7
                      clear hs7 HS6
                      by_cases hlr : mid - a < b - mid
                      · have hlr' : (mid : Int) - (a : Int) < (b : Int) - (mid : Int) := by omega
                        have CP := hide (pdq_rel N blk off cap HIH a mid l1 d d4 w w7 (by omega) HH.out hblk HS7.out m1 (by omega) hsz hl1 HBL.out)
                        go_wp2_with fail
                        refine CP.out.mono ?_
                        rintro e w8 ⟨rfl, hd8⟩
                        have HD8 := hide hd8
                        clear hd8 CP
                        go_wp2_with fail
                        obtain ⟨d5, q1, q2, q3⟩ := HD8.out
                        have L5 := HL.out d5 q1 q2
                        exact ⟨⟨mid + 1, b, l1, _, ap, d5, by go_num, rfl, rfl, rfl, rfl, ⟨by omega, hb, by omega, hl1, q3, L5.1, fun R h1 h2 => HC3.out R (L5.2 R h1 h2).1 (L5.2 R h1 h2).2⟩⟩, by simp [intOf] <;> omega⟩
                      · have hlr' : ¬ (mid : Int) - (a : Int) < (b : Int) - (mid : Int) := by omega
                        have CP := hide (pdq_rel N blk off cap HIH (mid + 1) b l1 d d4 w w7 (by omega) HH.out hblk HS7.out (by omega) hb hsz hl1 HBR.out)
                        rw [show ((mid + 1 : Nat) : Int) = (mid : Int) + 1 by omega] at CP
                        go_wp2_with fail
                        refine CP.out.mono ?_
                        rintro e w8 ⟨rfl, hd8⟩
                        have HD8 := hide hd8
                        clear hd8 CP
                        go_wp2_with fail
                        obtain ⟨d5, q1, q2, q3⟩ := HD8.out
                        have L5 := HR.out d5 q1 q2
                        exact ⟨⟨a, mid, l1, _, ap, d5, rfl, rfl, rfl, rfl, rfl, ⟨m1, by omega, by omega, hl1, q3, L5.1, fun R h1 h2 => HC3.out R (L5.2 R h1 h2).1 (L5.2 R h1 h2).2⟩⟩, by simp [intOf] <;> omega⟩
                    · obtain ⟨⟨mid, d4⟩, hx⟩ : ∃ r, partitionEqual ltInt d3 a b p2 = r := ⟨_, rfl⟩
                      have hc := HC4.out (by first | rfl | trivial)
                      have RE := round_eq swo_ltInt (partitionEqual_holds ltInt) hc.1 hap2 hpb2 (by have := hss3.out; omega) HB3.out hc.2 hx
                      have HX := hide hx
                      have HRE := hide RE
                      have m1 : a < mid := RE.1
                      have m2 : mid ≤ b := RE.2.1
                      clear hx hc RE
                      go_wp2_with fail
                      refine (pe_sw HH.out hblk HS6.out hap2 hpb2 hb hsz HX.out).mono ?_
                      rintro e w7 ⟨rfl, hs7⟩
                      have HS7 := hide hs7
                      clear hs7 HS6
                      go_wp2_with fail
                      exact ⟨⟨mid, b, l1, wb, wp, d4, rfl, rfl, rfl, rfl, rfl, ⟨m2, hb, by omega, hl1, HS7.out, HRE.out.2.2.2.1, fun R h1 h2 => HC3.out R (HRE.out.2.2.2.2 R h1 h2).1 (HRE.out.2.2.2.2 R h1 h2).2⟩⟩, by simp [intOf] <;> omega⟩

theorem pdq_all : ∀ (N blk off cap : Nat), PdqAt N blk off cap
  | 0, _, _, _ => fun _ _ _ _ _ h _ _ _ _ _ _ _ => absurd h (Nat.not_lt_zero _)
  | N + 1, blk, off, cap => fun a0 b0 lim0 d w h1 h2 h3 h4 h5 h6 h7 h8 => pdq_step N blk off cap (pdq_all N blk off cap) a0 b0 lim0 d w h1 h2 h3 h4 h5 h6 h7 h8

set_option maxHeartbeats 1000000 in
/-- slices.Sort of a row of uint32: what it leaves is the row, in order. -/
theorem sort_u (blk off cap : Nat) (d : Array Int) (w : World) (hH : Holds (Value.int .u32) w blk off d) (hblk : blk < w.heap.size) (hsz : d.size ≤ 1000000) :
    Calls Tryd.prog 53 #[.slice (some ⟨blk, off, none⟩) d.size cap] w fun e w' => e = .returned (.tuple #[]) ∧ Done w blk off d d 0 d.size w' := by
  have hl : bitsLen d.size ≤ 20 := (bitsLen_le_iff _ _).2 (by omega)
  have CL := hide fun W => len_u d.size (by omega) W
  have CP := hide (pdq_all (d.size + 1) blk off cap 0 d.size (bitsLen d.size) d w (by omega) hH hblk (Nat.zero_le _) (Nat.le_refl _) hsz (by omega) (.inl rfl))
  clear hH
  generalize bitsLen d.size = n at *
  go_enter Tryd.func53, Tryd.ntmps53
  go_wp2_with fail
  refine (CL.out _).mono ?_
  rintro e w1 ⟨rfl, rfl⟩
  go_wp2_with fail
  refine CP.out.mono ?_
  rintro e w2 ⟨rfl, hd⟩
  go_wp2_with fail
  go_end0
  exact ⟨rfl, hd⟩
end Go.Proofs.YtkpoanjcalolkaaDoor

