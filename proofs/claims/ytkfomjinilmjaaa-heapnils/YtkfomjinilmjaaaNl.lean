/- Keys of two numbers, compared. -/
import Derived.Test.YtkfomjinilmjaaaNk
namespace Go.Proofs.Ytkfomjinilmjaaa
open Go.RowKit Go.Maps

theorem pairs_eql (k l : Int × Int) (hk : In64 k) (hl : In64 l) (w : World) : ∃ r : Bool, (Op.equalIn 10000 58 (kv k) (kv l)).run Try.prog w = .ok r w ∧ (r = true ↔ k = l) := by
  obtain ⟨r, h1, h2⟩ := Go.run_equal_deep (P := Try.prog) (m := 2) (k := 58) w (by omega) (by kernel_rfl) wide58 (hkey2 hk) (hkey2 hl)
  exact ⟨r, h1, h2.trans ⟨kl2_inj hk hl, fun e => by rw [e]⟩⟩
theorem pair_same (k : Int × Int) (hk : In64 k) (w : World) : (Op.equalIn 10000 58 (.agg #[.int .i64 k.1, .int .i64 k.2]) (.agg #[.int .i64 k.1, .int .i64 k.2])).run Try.prog w = .ok true w := by
  obtain ⟨r, h1, h2⟩ := pairs_eql k k hk hk w
  rw [h2.2 rfl] at h1
  exact h1
end Go.Proofs.Ytkfomjinilmjaaa
