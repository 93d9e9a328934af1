/- The contract of the document's own Edges: some addresses. -/
import Derived.Test.YtfkajefminopjabDoorF3
import Derived.Test.YtfkajefminopjabDoorJ1
import Derived.Deep.RegionHeldLaw
import Derived.Deep.AppendLies
namespace Go.Proofs.YtfkajefminopjabDoor
open Go.RowKit

theorem infoU32 : (Tryd.prog.info? 23).map (fun i => (i.zero, i.size, i.bytes)) = some (some (.int .u32 0), 1, 4) := by kernel_rfl

def Ad.u32s (es : List Int) : List Value := es.map (Value.int .u32)
def Ad.addrs (es : List Int) : Prop := ∀ e ∈ es, 0 ≤ e ∧ e ≤ 4294967295
theorem Ad.u32s_append (x y : List Int) : Ad.u32s (x ++ y) = Ad.u32s x ++ Ad.u32s y := by simp [Ad.u32s]
theorem Ad.u32s_one (es : List Int) : ∀ u ∈ Ad.u32s es, u.oneCell' = true := by
  intro u hu
  simp only [Ad.u32s, List.mem_map] at hu
  obtain ⟨e, _, rfl⟩ := hu
  rfl
theorem Ad.addrs_append {x y : List Int} (h1 : Ad.addrs x) (h2 : Ad.addrs y) : Ad.addrs (x ++ y) := by
  intro e he
  rcases List.mem_append.1 he with h | h
  · exact h1 e h
  · exact h2 e h

set_option maxHeartbeats 1000000 in
theorem reflast_at (a b : Int) (w : World) (h0 : 0 ≤ a) (h1 : a ≤ 4294967295) (hm : Ad.may a b = true) :
    Calls Tryd.prog 23 #[.agg #[.int .u32 a, .int .i64 b]] w fun e w' => e = .returned (.int .u32 (a + Ad.sz b - 1)) ∧ w' = w.alloc (.cells #[.int .u32 a, .int .i64 b] 25) := by
  obtain ⟨hb, hb2, hca⟩ := (Ad.may_iff _ _).1 hm
  have hend := Ad.end_le a b hb h1 hca
  obtain ⟨B, rfl⟩ := Int.eq_ofNat_of_zero_le hb
  have hB : B ≤ 32 := by omega
  have HS : Hid (Ad.sz B = ((2 ^ (32 - B) : Nat) : Int)) := by show _ = _; unfold Ad.sz; rw [Int.toNat_natCast]
  have HE := hide hend
  clear hca hm hend
  go_enter Tryd.func23, Tryd.ntmps23
  go_wp2_with fail
  go_loop [3, 4, 5] (fun s u t => ∃ r : Nat, r ≤ 32 - B ∧ t = .int .i64 (31 - (r : Int)) ∧ s = .int .u32 (a + ((2 ^ r : Nat) : Int) - 1) ∧ u = .int .u32 (((2 ^ r : Nat) : Int) % 4294967296)) (fun _ _ t => (intOf t + 1).toNat)
  case atStart => exact ⟨0, Nat.zero_le _, rfl, by simp, by simp⟩
  case round =>
    obtain ⟨r, hr, rfl, rfl, rfl⟩ := hrel
    by_cases hlt : r < 32 - B
    · have hp1 : (2 : Nat) ^ (r + 1) ≤ 2 ^ (32 - B) := Nat.pow_le_pow_right (by decide) (by omega)
      have hp2 : (2 : Nat) ^ r ≤ 2 ^ 31 := Nat.pow_le_pow_right (by decide) (by omega)
      have hp3 := Nat.two_pow_pos r
      have hsz := HS.out
      have hend := HE.out
      have HP : Hid (2 ^ (r + 1) = 2 ^ r * 2) := Nat.pow_succ 2 r
      rw [HP.out] at hp1
      have hu1 : (1 : Int) ≤ ((2 ^ r : Nat) : Int) := by omega
      have hu2 : ((2 ^ r : Nat) : Int) ≤ 2147483648 := by omega
      have hu3 : a + ((2 ^ r : Nat) : Int) * 2 - 1 ≤ 4294967295 := by omega
      clear hp1 hp2 hp3 hsz hend
      have hmod : ((2 ^ r : Nat) : Int) % 4294967296 = ((2 ^ r : Nat) : Int) := by omega
      have HPr : Hid (((2 ^ (r + 1) : Nat) : Int) = ((2 ^ r : Nat) : Int) * 2) := by show _ = _; rw [HP.out]; omega
      rw [hmod]
      clear hmod HP
      generalize ((2 ^ r : Nat) : Int) = u at *
      go_wp2_with fail
      go_round
      case rel => exact ⟨r + 1, by omega, by go_num, by rw [HPr.out]; go_num, by rw [HPr.out]⟩
      case measure => simp [intOf]; omega
    · have hr' : r = 32 - B := by omega
      subst hr'
      rw [← HS.out]
      go_wp2_with fail
      go_ret
      exact ⟨rfl, rfl⟩

/-- The four addresses that a prefix adds. -/
def Ad.four (a L : Int) : List Int := [a, IntKind.u32.wrap (a - 1), L, IntKind.u32.wrap (L + 1)]

set_option maxHeartbeats 2000000 in
set_option maxRecDepth 100000 in
theorem refEdges_any (ao : Option Addr) (c : Nat) (l : List (Int × Int)) (w : World) (hR : l = [] ∨ ∃ b off, ao = some ⟨b, off, none⟩ ∧ Ad.reads w b off l) (hg : Ad.good l) (hlen : l.length ≤ 1000000) :
    Calls Tryd.prog 9 #[.slice ao l.length c] w fun e w' => ∃ g cap es, e = .returned (.slice (some ⟨g, 0, none⟩) es.length cap) ∧ es.length = 2 + 4 * l.length ∧ Ad.addrs es ∧ w'.ownsRow w.heap.size 23 1 (.slice (some ⟨g, 0, none⟩) es.length cap) es.length (Ad.u32s es) ∧ Below w.heap.size w w' := by
  obtain ⟨i0, hi, hz0, hz1, hz2⟩ := info_parts infoU32
  have HR := hide hR
  have HG := hide hg
  clear hR hg
  go_enter Tryd.func9, Tryd.ntmps9
  go_wp2_with fail
  go_loopw [3, 4] (fun v i wr => ∃ (k : Nat) (es : List Int) (g cap : Nat), k ≤ l.length ∧ i = .int .i64 k ∧ v = .slice (some ⟨g, 0, none⟩) es.length cap ∧ es.length = 2 + 4 * k ∧ Ad.addrs es ∧ wr.ownsRow w.heap.size 23 1 (.slice (some ⟨g, 0, none⟩) es.length cap) es.length (Ad.u32s es) ∧ Below w.heap.size w wr) (fun _ i _ => l.length - (intOf i).toNat)
  case atStart =>
    refine ⟨0, [0, 4294967295], w.heap.size, 2, Nat.zero_le _, rfl, rfl, rfl, ?_, ?_, balloc (brefl w) _⟩
    · intro e he
      simp at he
      rcases he with rfl | rfl <;> decide
    · exact World.ownsRow_lit w #[.int .u32 0, .int .u32 4294967295] 2 (Nat.le_refl _) (by decide) (by decide)
  case round =>
    obtain ⟨k, es, g, cap, hk, rfl, rfl, hel, hads, hown, hbr⟩ := hrel
    have HA := hide hads
    have HO := hide hown
    have HEL := hide hel
    clear hads hown
    by_cases hlt : k < l.length
    · obtain ⟨b, off, rfl, hrd⟩ : ∃ b off, ao = some ⟨b, off, none⟩ ∧ Ad.reads w b off l := by
        rcases HR.out with h | h
        · rw [h] at hlt; simp at hlt
        · exact h
      obtain ⟨w0, w1⟩ := Ad.reads_at hrd k hlt
      obtain ⟨e0, e1⟩ := Ad.reads_at (Ad.reads_below hrd hbr) k hlt
      have hbw : b < w.heap.size := block_lt_of_cell w0
      clear hrd w0 w1
      have hgl : w.heap.size ≤ g ∧ g < wr.heap.size := HO.out.lt g rfl
      have hbg : b ≠ g := by omega
      have hbr' : b < wr.heap.size := by omega
      have hgk := hide (HG.out l[k] (List.getElem_mem hlt))
      generalize hxx : l[k] = y at *
      obtain ⟨a, d⟩ := y
      clear hxx
      have hx0 : 0 ≤ a := hgk.out.1
      have hx1 : a ≤ 4294967295 := hgk.out.2.1
      have hlast := fun W => reflast_at a d W hx0 hx1 hgk.out.2.2
      have hLb : Hid (0 ≤ a + Ad.sz d - 1 ∧ a + Ad.sz d - 1 ≤ 4294967295) := by
        obtain ⟨hb, hb2, hca⟩ := (Ad.may_iff _ _).1 hgk.out.2.2
        have hend := Ad.end_le a d hb hx1 hca
        have := Ad.sz_pos d
        show _ ∧ _
        constructor <;> omega
      generalize a + Ad.sz d - 1 = L at *
      have HBR := hide hbr
      have hn1 : wr.heap.size ≠ b := by omega
      have hn2 : wr.heap.size + 1 ≠ b := by omega
      have hn3 : wr.heap.size + 1 + 1 ≠ b := by omega
      clear hgk hel
      go_wp2_with fail
      have hr1 : wr.heap.size < wr.heap.size + 1 := by omega
      go_region_held_law (fun w' => w'.cell? ⟨b, off + k * 2, none⟩ = some (.int .u32 a) ∧ w'.cell? ⟨b, off + k * 2 + 1, none⟩ = some (.int .i64 d))
        (first
          | exact ⟨e0, e1⟩
          | (refine ⟨(World.cell?_alloc_past _ _ _ (by first | exact hbr' | (simp; omega))).trans ?_, (World.cell?_alloc_past _ _ _ (by first | exact hbr' | (simp; omega))).trans ?_⟩ <;> (go_split_ands; assumption))
          | (refine ⟨(hgrow.cell_far _ (by simp; omega) (by simp [Value.ownBlock]; omega)).trans ?_, (hgrow.cell_far _ (by simp; omega) (by simp [Value.ownBlock]; omega)).trans ?_⟩ <;> (go_split_ands; assumption)))
        (first
          | (refine step_append_lies _ rfl (.tmp 12) (.tmp 35) 33 rfl w.heap.size 23 i0 (.int .u32 0) 1 4 Tryd.underlying33 hi hz0 hz1 hz2 rfl (by decide) (.slice (some ⟨g, 0, none⟩) es.length cap) es.length (Ad.u32s es) (by simp [Act.eval]) (((HO.out.alloc _).alloc _).alloc _) ⟨wr.heap.size + 1 + 1, 0, none⟩ 4 4 (Ad.u32s (Ad.four a L)) (by simp [Act.eval]) rfl (by
              intro j u hj
              match j, hj with
              | 0, hj => simp [Ad.u32s, Ad.four] at hj; subst hj; simp [Addr.add, go_sem]
              | 1, hj => simp [Ad.u32s, Ad.four] at hj; subst hj; simp [Addr.add, go_sem]
              | 2, hj => simp [Ad.u32s, Ad.four] at hj; subst hj; simp [Addr.add, go_sem]
              | 3, hj => simp [Ad.u32s, Ad.four] at hj; subst hj; simp [Addr.add, go_sem]) (Ad.u32s_one _) (by decide) (by have := HEL.out; unfold maxLen; omega) (by have := HEL.out; omega) (by have := HBR.out.size; simp; omega) _ rfl ?_
             intro g' cap' w1 hown hgrow hat hlt')
          | (go_at_call 23; refine (hlast _).mono ?_; rintro e w' ⟨rfl, rfl⟩))
      have hb1 := hide (Below.grown (row := Value.ownBlock (.slice (some ⟨g, 0, none⟩) es.length cap)) (balloc (balloc (balloc HBR.out.drew _) _) _) hgrow (by have := HBR.out.size; simp; omega) (fun k hk => by simp [Value.ownBlock] at hk; omega))
      have HO1 := hide hown
      clear hown hgrow hat
      go_wp2_with fail
      refine ⟨⟨k + 1, es ++ Ad.four a L, g', cap', by omega, by go_num, ?_, ?_, ?_, ?_, hb1.out⟩, by simp [intOf]; omega⟩
      · simp [Ad.four]
      · have := HEL.out
        simp [Ad.four]
        omega
      · refine Ad.addrs_append HA.out ?_
        intro e he
        have := hLb.out
        simp only [Ad.four, List.mem_cons, List.not_mem_nil, or_false] at he
        rcases he with rfl | rfl | rfl | rfl
        · exact ⟨hx0, hx1⟩
        · rw [IntKind.wrap_u32']; omega
        · exact this
        · rw [IntKind.wrap_u32']; omega
      · have := HO1.out
        rw [Ad.u32s_append]
        simpa [Ad.four] using this
    · go_wp2_with fail
      go_ret
      have hkl : k = l.length := by omega
      subst hkl
      exact ⟨g, cap, es, rfl, HEL.out, HA.out, HO.out, hbr⟩
end Go.Proofs.YtfkajefminopjabDoor
