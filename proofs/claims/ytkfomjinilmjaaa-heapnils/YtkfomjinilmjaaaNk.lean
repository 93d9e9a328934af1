/- Keys of two numbers, and maps by them. -/
import Derived.Test.YtkfomjinilmjaaaHc
import Derived.DeepKeys3
namespace Go.Proofs.Ytkfomjinilmjaaa
open Go.RowKit Go.Maps

theorem wide58 : (match Try.prog.underlying 58 with | some (.array _ _) | some (.struct _) => true | _ => false) = true := by kernel_rfl
theorem klaw2 : Keyed Try.prog 58 := Keyed.of_law (Go.deep_law (m := 2) (by decide) (by kernel_rfl) (by kernel_rfl) wide58)
/-- A key of two numbers. -/
def kv (k : Int × Int) : Value := .agg #[.int .i64 k.1, .int .i64 k.2]
/-- What it reads as. -/
def kl2 (k : Int × Int) : Lit := .string (keyBytes [.int .i64 k.1, .int .i64 k.2])
def In64 (k : Int × Int) : Prop := (Lit.int .i64 k.1).wf = true ∧ (Lit.int .i64 k.2).wf = true
theorem cells58 : Try.prog.cellsOf 58 = 2 := by kernel_rfl
theorem cellsI : Try.prog.cellsOf 3 = 1 := by kernel_rfl
theorem hkey2 {k : Int × Int} (h : In64 k) : keyOf Try.prog 58 (kv k) = some (kl2 k) := by
  have hk : Try.prog.keyType 58 = true := by kernel_rfl
  obtain ⟨n, hn⟩ : ∃ n, Try.prog.types.size + 1 = n + 2 := ⟨Try.prog.types.size - 1, by
    have : 1 ≤ Try.prog.types.size := of_decide_eq_true (by kernel_rfl)
    omega⟩
  unfold keyOf
  rw [hn, Try.underlying58]
  simp [hk, kv, kl2, Program.keyLits, Try.underlying58, Try.underlying3, cells58, cellsI, Value.formed, Value.cells, h.1, h.2, List.range_succ]
theorem kl2_inj {a b : Int × Int} (ha : In64 a) (hb : In64 b) (h : kl2 a = kl2 b) : a = b := by
  have h2 := hkey2 hb
  rw [← h] at h2
  have := klaw2.inj (hkey2 ha) h2
  obtain ⟨a1, a2⟩ := a
  obtain ⟨b1, b2⟩ := b
  simpa [kv] using this
theorem kl2_key (k : Int × Int) : WideAt.IsKeyLit (kl2 k) := by unfold kl2; trivial
end Go.Proofs.Ytkfomjinilmjaaa
