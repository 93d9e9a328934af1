/- The contract of the document's own Edges, of one prefix. -/
import Derived.Test.YtkpoanjcalolkaaDoorF1
import Derived.Test.YtkpoanjcalolkaaDoorH1
import Derived.Deep.RegionHeldLaw
import Derived.Deep.AppendLies
namespace Go.Proofs.YtkpoanjcalolkaaDoor
open Go.RowKit

theorem infoU32 : (Tryd.prog.info? 23).map (fun i => (i.zero, i.size, i.bytes)) = some (some (.int .u32 0), 1, 4) := by kernel_rfl

def Ad.u32s (es : List Int) : List Value := es.map (Value.int .u32)
def Ad.addrs (es : List Int) : Prop := ∀ e ∈ es, 0 ≤ e ∧ e ≤ 4294967295
theorem Ad.u32s_append (x y : List Int) : Ad.u32s (x ++ y) = Ad.u32s x ++ Ad.u32s y := by simp [Ad.u32s]
theorem Ad.u32s_one (es : List Int) : ∀ u ∈ Ad.u32s es, u.oneCell' = true := by
  intro u hu
  simp only [Ad.u32s, List.mem_map] at hu
  obtain ⟨e, _, rfl⟩ := hu
  rfl
theorem Ad.addrs_append {x y : List Int} (h1 : Ad.addrs x) (h2 : Ad.addrs y) : Ad.addrs (x ++ y) := by
  intro e he
  rcases List.mem_append.1 he with h | h
  · exact h1 e h
  · exact h2 e h

set_option maxHeartbeats 1000000 in
theorem reflast_at (a b : Int) (w : World) (h0 : 0 ≤ a) (h1 : a ≤ 4294967295) (hm : Ad.may a b = true) :
    Calls Tryd.prog 38 #[.agg #[.int .u32 a, .int .i64 b]] w fun e w' => e = .returned (.int .u32 (a + Ad.sz b - 1)) ∧ w' = w.alloc (.cells #[.int .u32 a, .int .i64 b] 25) := by
  obtain ⟨hb, hb2, hca⟩ := (Ad.may_iff _ _).1 hm
  have hend := Ad.end_le a b hb h1 hca
  obtain ⟨B, rfl⟩ := Int.eq_ofNat_of_zero_le hb
  have hB : B ≤ 32 := by omega
  have HS : Hid (Ad.sz B = ((2 ^ (32 - B) : Nat) : Int)) := by show _ = _; unfold Ad.sz; rw [Int.toNat_natCast]
  have HE := hide hend
  clear hca hm hend
  go_enter Tryd.func38, Tryd.ntmps38
  go_wp2_with fail
  go_loop [3, 4, 5] (fun s u t => ∃ r : Nat, r ≤ 32 - B ∧ t = .int .i64 (31 - (r : Int)) ∧ s = .int .u32 (a + ((2 ^ r : Nat) : Int) - 1) ∧ u = .int .u32 (((2 ^ r : Nat) : Int) % 4294967296)) (fun _ _ t => (intOf t + 1).toNat)
  case atStart => exact ⟨0, Nat.zero_le _, rfl, by simp, by simp⟩
  case round =>
    obtain ⟨r, hr, rfl, rfl, rfl⟩ := hrel
    by_cases hlt : r < 32 - B
    · have hp1 : (2 : Nat) ^ (r + 1) ≤ 2 ^ (32 - B) := Nat.pow_le_pow_right (by decide) (by omega)
      have hp2 : (2 : Nat) ^ r ≤ 2 ^ 31 := Nat.pow_le_pow_right (by decide) (by omega)
      have hp3 := Nat.two_pow_pos r
      have hsz := HS.out
      have hend := HE.out
      have HP : Hid (2 ^ (r + 1) = 2 ^ r * 2) := Nat.pow_succ 2 r
      rw [HP.out] at hp1
      have hu1 : (1 : Int) ≤ ((2 ^ r : Nat) : Int) := by omega
      have hu2 : ((2 ^ r : Nat) : Int) ≤ 2147483648 := by omega
      have hu3 : a + ((2 ^ r : Nat) : Int) * 2 - 1 ≤ 4294967295 := by omega
      clear hp1 hp2 hp3 hsz hend
      have hmod : ((2 ^ r : Nat) : Int) % 4294967296 = ((2 ^ r : Nat) : Int) := by omega
      have HPr : Hid (((2 ^ (r + 1) : Nat) : Int) = ((2 ^ r : Nat) : Int) * 2) := by show _ = _; rw [HP.out]; omega
      rw [hmod]
      clear hmod HP
      generalize ((2 ^ r : Nat) : Int) = u at *
      go_wp2_with fail
      go_round
      case rel => exact ⟨r + 1, by omega, by go_num, by rw [HPr.out]; go_num, by rw [HPr.out]⟩
      case measure => simp [intOf]; omega
    · have hr' : r = 32 - B := by omega
      subst hr'
      rw [← HS.out]
      go_wp2_with fail
      go_ret
      exact ⟨rfl, rfl⟩

/-- The four addresses that a prefix adds. -/
def Ad.four (a L : Int) : List Int := [a, IntKind.u32.wrap (a - 1), L, IntKind.u32.wrap (L + 1)]

/-- The edges of one prefix. -/
def Ad.edges (a L : Int) : List Int := [0, 4294967295] ++ Ad.four a L

set_option maxHeartbeats 2000000 in
set_option maxRecDepth 100000 in
theorem refEdges_one (b off c : Nat) (a d : Int) (w : World) (e0 : w.cell? ⟨b, off, none⟩ = some (.int .u32 a)) (e1 : w.cell? ⟨b, off + 1, none⟩ = some (.int .i64 d)) (hx0 : 0 ≤ a) (hx1 : a ≤ 4294967295) (hm : Ad.may a d = true) :
    Calls Tryd.prog 21 #[.slice (some ⟨b, off, none⟩) 1 c] w fun e w' => ∃ g cap, e = .returned (.slice (some ⟨g, 0, none⟩) 6 cap) ∧ w'.ownsRow w.heap.size 23 1 (.slice (some ⟨g, 0, none⟩) 6 cap) 6 (Ad.u32s (Ad.edges a (a + Ad.sz d - 1))) ∧ Below w.heap.size w w' := by
  obtain ⟨i0, hi, hz0, hz1, hz2⟩ := info_parts infoU32
  have hbw : b < w.heap.size := block_lt_of_cell e0
  have hlast := fun W => reflast_at a d W hx0 hx1 hm
  generalize a + Ad.sz d - 1 = L at *
  have E0 := hide e0
  have E1 := hide e1
  clear e0 e1 hm
  go_enter Tryd.func21, Tryd.ntmps21
  go_wp2_with fail
  go_loopw [3, 4] (fun v i wr => ∃ (k : Nat) (es : List Int) (g cap : Nat), i = .int .i64 k ∧ v = .slice (some ⟨g, 0, none⟩) es.length cap ∧ ((k = 0 ∧ es = [0, 4294967295]) ∨ (k = 1 ∧ es = Ad.edges a L)) ∧ wr.ownsRow w.heap.size 23 1 (.slice (some ⟨g, 0, none⟩) es.length cap) es.length (Ad.u32s es) ∧ Below w.heap.size w wr) (fun _ i _ => 1 - (intOf i).toNat)
  case atStart =>
    refine ⟨0, [0, 4294967295], w.heap.size, 2, rfl, rfl, .inl ⟨rfl, rfl⟩, ?_, balloc (brefl w) _⟩
    exact World.ownsRow_lit w #[.int .u32 0, .int .u32 4294967295] 2 (Nat.le_refl _) (by decide) (by decide)
  case round =>
    obtain ⟨k, es, g, cap, rfl, rfl, hk, hown, hbr⟩ := hrel
    have HO := hide hown
    have HK := hide hk
    clear hown hk
    rcases HK.out with ⟨rfl, hes⟩ | ⟨rfl, hes⟩
    · have HEL : Hid (es.length = 2) := by show _ = _; rw [hes]; rfl
      have HES := hide hes
      clear hes HK
      have e0 : wr.cell? ⟨b, off, none⟩ = some (.int .u32 a) := (hbr.cell (p := ⟨b, off, none⟩) hbw).trans E0.out
      have e1 : wr.cell? ⟨b, off + 1, none⟩ = some (.int .i64 d) := (hbr.cell (p := ⟨b, off + 1, none⟩) hbw).trans E1.out
      have hgl : w.heap.size ≤ g ∧ g < wr.heap.size := HO.out.lt g rfl
      have hbg : b ≠ g := by omega
      have hbr' : b < wr.heap.size := by omega
      have HBR := hide hbr
      have hn1 : wr.heap.size ≠ b := by omega
      have hn2 : wr.heap.size + 1 ≠ b := by omega
      have hn3 : wr.heap.size + 1 + 1 ≠ b := by omega
      go_wp2_with fail
      have hr1 : wr.heap.size < wr.heap.size + 1 := by omega
      go_region_held_law (fun w' => w'.cell? ⟨b, off, none⟩ = some (.int .u32 a) ∧ w'.cell? ⟨b, off + 1, none⟩ = some (.int .i64 d))
        (first
          | exact ⟨e0, e1⟩
          | (refine ⟨(World.cell?_alloc_past _ _ _ (by first | exact hbr' | (simp; omega))).trans ?_, (World.cell?_alloc_past _ _ _ (by first | exact hbr' | (simp; omega))).trans ?_⟩ <;> (go_split_ands; assumption))
          | (refine ⟨(hgrow.cell_far _ (by simp; omega) (by simp [Value.ownBlock]; omega)).trans ?_, (hgrow.cell_far _ (by simp; omega) (by simp [Value.ownBlock]; omega)).trans ?_⟩ <;> (go_split_ands; assumption)))
        (first
          | (refine step_append_lies _ rfl (.tmp 12) (.tmp 35) 42 rfl w.heap.size 23 i0 (.int .u32 0) 1 4 Tryd.underlying42 hi hz0 hz1 hz2 rfl (by decide) (.slice (some ⟨g, 0, none⟩) es.length cap) es.length (Ad.u32s es) (by simp [Act.eval]) (((HO.out.alloc _).alloc _).alloc _) ⟨wr.heap.size + 1 + 1, 0, none⟩ 4 4 (Ad.u32s (Ad.four a L)) (by simp [Act.eval]) rfl (by
              intro j u hj
              match j, hj with
              | 0, hj => simp [Ad.u32s, Ad.four] at hj; subst hj; simp [Addr.add, go_sem]
              | 1, hj => simp [Ad.u32s, Ad.four] at hj; subst hj; simp [Addr.add, go_sem]
              | 2, hj => simp [Ad.u32s, Ad.four] at hj; subst hj; simp [Addr.add, go_sem]
              | 3, hj => simp [Ad.u32s, Ad.four] at hj; subst hj; simp [Addr.add, go_sem]) (Ad.u32s_one _) (by decide) (by have := HEL.out; unfold maxLen; omega) (by have := HEL.out; omega) (by have := HBR.out.size; simp; omega) _ rfl ?_
             intro g' cap' w1 hown hgrow hat hlt')
          | (go_at_call 38; refine (hlast _).mono ?_; rintro e w' ⟨rfl, rfl⟩))
      have hb1 := hide (Below.grown (row := Value.ownBlock (.slice (some ⟨g, 0, none⟩) es.length cap)) (balloc (balloc (balloc HBR.out.drew _) _) _) hgrow (by have := HBR.out.size; simp; omega) (fun k hk => by simp [Value.ownBlock] at hk; omega))
      have HO1 := hide hown
      clear hown hgrow hat
      go_wp2_with fail
      refine ⟨⟨1, es ++ Ad.four a L, g', cap', by go_num, ?_, .inr ⟨rfl, ?_⟩, ?_, hb1.out⟩, by simp [intOf]⟩
      · simp [Ad.four]
      · rw [HES.out]; rfl
      · have := HO1.out
        rw [Ad.u32s_append]
        simpa [Ad.four] using this
    · subst hes
      go_wp2_with fail
      go_ret
      exact ⟨g, cap, rfl, HO.out, hbr⟩
end Go.Proofs.YtkpoanjcalolkaaDoor
