/- The law PlistBare: the mathematics of its two loops, and two rules that are not the same. -/
import Derived.Test.YtkpoanjcalolkaaDoorBa3
import Derived.Test.YtkpoanjcalolkaaDoorSm1
import Derived.Test.YtkpoanjcalolkaaDoorE2
import Derived.Test.YtkpoanjcalolkaaDoorPa1
namespace Go.Proofs.YtkpoanjcalolkaaDoor
open Go.RowKit

theorem Ad.sub_step {b l : List Ad.R} {i k : Nat} (hi : i < b.length) (h : (b.drop i).Sublist (l.drop k)) :
    ∃ hk : k < l.length, (l[k] = b[i] → (b.drop (i + 1)).Sublist (l.drop (k + 1))) ∧ (l[k] ≠ b[i] → (b.drop i).Sublist (l.drop (k + 1))) := by
  have hk : k < l.length := by
    have h1 := h.length_le
    rw [List.length_drop, List.length_drop] at h1
    omega
  refine ⟨hk, ?_⟩
  rw [List.drop_eq_getElem_cons hi] at h ⊢
  rw [List.drop_eq_getElem_cons hk] at h
  generalize b[i] = x at h ⊢
  generalize l[k] = y at h ⊢
  cases h with
  | cons _ h => exact ⟨fun _ => (List.sublist_cons_self x _).trans h, fun _ => h⟩
  | cons_cons _ h => exact ⟨fun _ => h, fun h => absurd rfl h⟩

theorem Ad.bare_sub_all {l b : List Ad.R} (h : Ad.BareAt l l.length b) : b.Sublist l := by
  have := Ad.bare_sub l l.length b (Nat.le_refl _) h
  rwa [List.take_of_length_le (Nat.le_refl _)] at this

theorem Ad.bare_fit_all {l b : List Ad.R} (h : Ad.BareAt l l.length b) (hx : Ad.rwhy l = 0) (hf : Ad.fitsR l) : Ad.rwhy b = 0 ∧ Ad.fitsR b := by
  have hs := Ad.bare_sub_all h
  have h2 := (Ad.rwhy_iff l).1 hx
  exact ⟨(Ad.rwhy_iff _).2 ⟨Nat.le_trans hs.length_le h2.1, List.all_eq_true.2 fun r hr => List.all_eq_true.1 h2.2 r (hs.subset hr)⟩, fun r hr => hf r (hs.subset hr)⟩

theorem Ad.bare_ps_all {l b : List Ad.R} (h : Ad.BareAt l l.length b) (x d : Int) (h0 : 0 ≤ x) (h1 : x ≤ 4294967295) : Ad.ps b x d = Ad.ps l x d := by
  have := (Ad.bare_ps l x d h0 h1 l.length b (Nat.le_refl _) h).2
  rwa [List.take_of_length_le (Nat.le_refl _)] at this

theorem Ad.bare_idle {l b : List Ad.R} (h : Ad.BareAt l l.length b) (i : Nat) (hi : i < b.length) : Ad.Idle b i false := Ad.idle_up b i hi (Ad.bare_keeps l _ b h i hi)

theorem Ad.bare_again {l b c : List Ad.R} (h : Ad.BareAt l l.length b) (h2 : Ad.BareAt b b.length c) : c = b := by
  have := Ad.bare_bare b (Ad.bare_keeps l _ b h) b.length c (Nat.le_refl _) h2
  rwa [List.take_of_length_le (Nat.le_refl _)] at this

theorem Ad.lets_good (l : List Ad.R) (c d : Int) (h : Ad.rwhy l = 0) : Ad.lets l c d = (Ad.ps l c d, Ad.first l c d) := by
  unfold Ad.lets Ad.ps
  rw [if_pos h]

theorem neR (a b g l c d k m : Int) (p q : Bool) (w : World) (h : (a, b, g, l, p) ≠ (c, d, k, m, q)) : (binOp .neq 32 (.agg #[.int .u32 a, .int .i64 b, .int .i64 g, .int .i64 l, .bool p]) (.agg #[.int .u32 c, .int .i64 d, .int .i64 k, .int .i64 m, .bool q])).run Tryd.prog w = .ok (.bool true) w := by
  have u3 := Tryd.underlying3
  have u4 := Tryd.underlying4
  have a3 := Tryd.isAgg3
  have a4 := Tryd.isAgg4
  have a25 := Tryd.isAgg25
  have z3 := Tryd.sizeOf3
  have z4 := Tryd.sizeOf4
  have z25 := Tryd.sizeOf25
  have inner := eqIn25 a b c d w
  have hS : Tryd.prog.underlying 32 = some (.struct (Tryd.prog.fieldsOf 32)) := by kernel_rfl
  have hp : Tryd.prog.stoodInHeld 32 = false := by kernel_rfl
  rw [run_neq_struct, show (10000 : Nat) = 9999 + 1 from rfl, run_equalIn_agg w 9999 32 _ _ hS hp]
  simp only [Program.fieldsOf, Tryd.underlying32]
  clear hS hp
  go_simp
  by_cases h1 : a = c <;> by_cases h2 : b = d <;> by_cases h3 : g = k <;> by_cases h4 : l = m <;> by_cases h5 : p = q <;> simp_all
end Go.Proofs.YtkpoanjcalolkaaDoor
