/- The law HeapPlays. -/
import Derived.Test.YtkfomjinilmjaaaPc
namespace Go.Proofs.Ytkfomjinilmjaaa
open Go.RowKit Go.Maps

theorem three_new (w : World) (k r : Int) (s : ByteArray) : (w.alloc (.cells #[.int .i64 k, .int .i64 r, .string s] 28)).heap[w.heap.size]? = some (.cells #[.int .i64 k, .int .i64 r, .string s] 28 (0, 0)) := heap_alloc_new _ _
/-- Behind a Set of both. -/
theorem HL.set {w0 w w1 w2 : World} {h : Nat} {L : List RwS} {T : Int} {ao : Option Addr} {m : Nat} {al : Option Addr} {cl : Nat} {k : ByteArray} {r : Int} {e1 e2 : Ending} (S : HL w0 w h L T ao m al cl) (h1 : RefSet w L k r (T + 1) e1 w1) (h2 : SetTo ltI w1 h 9 L T ao m k r e2 w2) :
    ∃ ao' al' cl', e1 = .returned (.tuple #[.slice al' (without L k ++ [(⟨k, r, T + 1⟩ : RwS)]).length cl', .bool (rowOf L k).isSome]) ∧ e2 = .returned (.bool (rowOf L k).isSome) ∧ HL w0 w2 h (without L k ++ [⟨k, r, T + 1⟩]) (T + 1) ao' m al' cl' ∧ Keep (Own h m ao) w1 w2 := by
  obtain ⟨al', cl', he1, hg, hb, hnew⟩ := h1
  obtain ⟨he2, ao', S2, hk, hn⟩ := (S.hs.next hb).set h2
  refine ⟨ao', al', cl', he1, he2, ⟨S2, hg.kept hk (fun a e hO => ?_), fun a e hO => ?_⟩, hk⟩
  · have := hnew a e
    have := S.hs.hp.old _ hO
    omega
  · rcases hn.own a.block hO with e3 | e3
    · have := hnew a e
      have := S.hs.hp.old _ e3
      omega
    · have := hg.old a e
      omega
/-- Behind a Drop of both. -/
theorem HL.drop {w0 w w1 w2 : World} {h : Nat} {L : List RwS} {T : Int} {ao : Option Addr} {m : Nat} {al : Option Addr} {cl : Nat} {k : ByteArray} {al' : Option Addr} {cl' : Nat} (S : HL w0 w h L T ao m al cl) (hg : Th.Good w1 al' cl' (without L k)) (hb : Below w.heap.size w w1) (hnr : Near w al al') (hp : Hp ltI w2 h 9 (without L k) T ao m) (hk : Keep (Own h m ao) w1 w2) : HL w0 w2 h (without L k) T ao m al' cl' := by
  have hap : ∀ a, al' = some a → ¬ Own h m ao a.block := fun a e hO => by
    rcases hnr a e with ⟨b, hb', e2⟩ | e2
    · rw [e2] at hO
      exact S.apart b hb' hO
    · have := S.hs.hp.old _ hO
      omega
  exact ⟨(S.hs.next hb).without hp hk, hg.kept hk hap, hap⟩
/-- The heap first, then the list. -/
theorem HL.drop' {w0 w w1 w2 : World} {h : Nat} {L : List RwS} {T : Int} {ao : Option Addr} {m : Nat} {al : Option Addr} {cl : Nat} {k : ByteArray} {al' : Option Addr} {cl' : Nat} (S : HL w0 w h L T ao m al cl) (hp : Hp ltI w1 h 9 (without L k) T ao m) (hk : Keep (Own h m ao) w w1) (hg : Th.Good w2 al' cl' (without L k)) (hb : Below w1.heap.size w1 w2) (hnr : Near w1 al al') : HL w0 w2 h (without L k) T ao m al' cl' := by
  have hap : ∀ a, al' = some a → ¬ Own h m ao a.block := fun a e hO => by
    rcases hnr a e with ⟨b, hb', e2⟩ | e2
    · rw [e2] at hO
      exact S.apart b hb' hO
    · have := S.hs.hp.old _ hO
      have := hk.size
      omega
  exact ⟨(S.hs.without hp hk).next hb, hg, hap⟩
end Go.Proofs.Ytkfomjinilmjaaa
