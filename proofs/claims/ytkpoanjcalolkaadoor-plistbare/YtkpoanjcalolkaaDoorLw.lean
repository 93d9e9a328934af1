import Derived.Test.YtkpoanjcalolkaaDoorProg
import Derived.WalkKit
import Derived.Laws.AppendOwnNone
/- One operation that loads or stores the whole grid. -/
namespace Go.Proofs.YtkpoanjcalolkaaDoor
open Go.RowKit

theorem wpList_load62 {w : World} {ops : Array Oper} {rest : List Oper} {o : Oper} {a : Act} {Q : Exit → Act → World → Prop} (hgd : o.guard = none) (x : Operand) (ho : o.op = .load 62 x)
    (p : Value) (hx : a.eval x = p) (v : Value) (hl : (Instr.loadAt 62 p).run Tryd.prog w = .ok v w) (h : wpList Tryd.prog ops Q rest (a.put o.dst v) w) : wpList Tryd.prog ops Q (o :: rest) a w := by
  refine wpList_plain hgd fun K hK => ?_
  unfold Oper.wp
  simp only [execOp, ho, hx]
  rw [Sem.run_bind, hl]
  exact hK _ _ h

theorem wpList_store62 {w w' : World} {ops : Array Oper} {rest : List Oper} {o : Oper} {a : Act} {Q : Exit → Act → World → Prop} (hgd : o.guard = none) (x y : Operand) (ho : o.op = .store 62 x y)
    (p v : Value) (hx : a.eval x = p) (hy : a.eval y = v) (hl : (Instr.storeAt 62 p v).run Tryd.prog w = .ok () w') (h : wpList Tryd.prog ops Q rest (a.put o.dst undef) w') : wpList Tryd.prog ops Q (o :: rest) a w := by
  refine wpList_plain hgd fun K hK => ?_
  unfold Oper.wp
  simp only [execOp, ho, hx, hy]
  rw [Sem.run_bind, hl]
  exact hK _ _ h

theorem load62 (w : World) (ad : Addr) (V : Array Value) (h : Sem.run Tryd.prog (loadCellsFrom ad 0 66 #[]) w = .ok V w) : (Instr.loadAt 62 (.pointer (some ad))).run Tryd.prog w = .ok (.agg V) w := by
  simp only [Instr.loadAt, Instr.sureAddr, Sem.run_bind, Sem.run_pure, Result.andThen_ok, loadVar, Tryd.isAgg62, if_true, Tryd.sizeOf62, loadCells, h]

theorem load62v (w : World) (ad : Addr) (V : Array Value) (h : Sem.run Tryd.prog (loadCellsFrom ad 0 66 #[]) w = .ok V w) : (loadVar 62 ad).run Tryd.prog w = .ok (.agg V) w := by
  simp only [Sem.run_bind, Sem.run_pure, Result.andThen_ok, loadVar, Tryd.isAgg62, if_true, Tryd.sizeOf62, loadCells, h]

theorem res39 (w : World) (ad : Addr) (V : Array Value) (tmps : Array Value) (h2 : tmps.getD 2 undef = .pointer (some ad)) (h : Sem.run Tryd.prog (loadCellsFrom ad 0 66 #[]) w = .ok V w) : (results Tryd.f39 tmps).run Tryd.prog w = .ok (.agg V) w := by
  have hv := load62v w ad V h
  unfold results
  rw [Tryd.results39]
  rw [Array.getD_eq_getD_getElem?] at h2
  simp [h2, asAddr, hv]

theorem save62 (w w' : World) (ad : Addr) (V : Array Value) (hV : V.size = 66) (h : Sem.run Tryd.prog (storeCells ad V.toList) w = .ok () w') : (Instr.storeAt 62 (.pointer (some ad)) (.agg V)).run Tryd.prog w = .ok () w' := by
  simp only [Instr.storeAt, Instr.sureAddr, Sem.run_bind, Sem.run_pure, Result.andThen_ok, storeVar, Tryd.sizeOf62, Value.cells, hV]
  simp [h]
end Go.Proofs.YtkpoanjcalolkaaDoor
