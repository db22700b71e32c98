/- Steps of a drawn region: two values are compared; from some operation on the rest is quiet. No condition but those that are named. -/
import Derived.Test.YtmabbiemjeeicaaDoorZQTail
import Derived.Test.YtmabbiemjeeicaaDoorZDigE
import Derived.Test.YtmabbiemjeeicaaDoorM7
import Derived.Laws.StructEq
namespace Go.Proofs.YtmabbiemjeeicaaDoor
open Go.RowKit
namespace QTail
section
variable {P : Program} {ops : Array Oper} {C : World → Prop} {Q : Act → Prop} {a : Act} {o : Oper} {rest : List Oper}
theorem binG (hw : Region.wanted o (yielded ops a.tmps) = true) (b : BinOp) (t t2 : TypeId) (x y : Operand) (ho : o.op = .binOp b t x y t2) (X Y : Value) (hx : a.eval x = X) (hy : a.eval y = Y) (r : Bool)
    (hg : ∀ W, (eqGuard b t x y X Y).run P W = .ok () W) (he : ∀ W, C W → (binOp b t X Y).run P W = .ok (.bool r) W) (h : wpQuiet P ops C Q rest (a.put o.dst (.bool r))) : wpQuiet P ops C Q (o :: rest) a := by
  unfold wpQuiet
  rw [if_pos hw]
  refine ⟨.bool r, fun w' hw' => ?_, h⟩
  unfold Oper.quietAt execOp
  simp only [ho, hx, hy, Sem.run_bind, Sem.run_pure, hg w', he w' hw', Result.andThen_ok]
  exact ⟨rfl, rfl⟩
theorem binC (hw : Region.wanted o (yielded ops a.tmps) = true) (b : BinOp) (t t2 : TypeId) (x y : Operand) (ho : o.op = .binOp b t x y t2) (X Y : Array Value) (hx : a.eval x = .agg X) (hy : a.eval y = .agg Y) (r : Bool)
    (hm : P.eqGuardType P.depth t = false) (he : ∀ W, C W → (binOp b t (.agg X) (.agg Y)).run P W = .ok (.bool r) W) (h : wpQuiet P ops C Q rest (a.put o.dst (.bool r))) : wpQuiet P ops C Q (o :: rest) a :=
  binG hw b t t2 x y ho (.agg X) (.agg Y) hx hy r (fun W => run_eqGuard_agg W b t x y X Y hm) he h
end
theorem eqg : Tryd.prog.eqGuardType Tryd.prog.depth 23 = false := by kernel_rfl
theorem eqgS (b : BinOp) (t : TypeId) (x y : Operand) (u v : ByteArray) (W : World) : (eqGuard b t x y (.string u) (.string v)).run Tryd.prog W = .ok () W := by
  cases b <;> rfl
theorem eqlS (u : ByteArray) (W : World) : (binOp .eql 9 (.string u) (.string u)).run Tryd.prog W = .ok (.bool true) W := by
  unfold binOp
  simp [Op.stringOp]
end QTail
namespace RegC
/-- From operation n on all are quiet, in the order of the text. -/
theorem quietFrom {P : Program} {md : Region.Mode} {l : List Oper} {Q : Exit → Act → World → Prop} {listed : Array Bool} {a : Act} {w : World} {C : World → Prop} (n m : Nat) (hm : (l.drop n).length = m) (hs : Region.noSelect l.toArray = true)
    (hB : Region.lexFrom md l.toArray m n listed = true) (hC : C w) (h : wpQuiet P l.toArray C (fun a' => ∀ w', C w' → Q .normal a' w') (l.drop n) a) : wpAny P md l.toArray Q m listed a w := by
  subst hm
  refine wpAny_of_quiet (Q := fun a' => ∀ w', C w' → Q .normal a' w') (fun _ w' hw' h => h w' hw') _ _ _ _ hC ?_
  exact wpAnyQ_lex (C := C) (md := md) hs (l.drop n) n listed a (fun j => by simp) hB h
end RegC
end Go.Proofs.YtmabbiemjeeicaaDoor
