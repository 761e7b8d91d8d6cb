/- A row of eight steps, built at once. -/
import Derived.Test.YtjfbbfmnghccdaaGre
import Derived.Test.YtjfbbfmnghccdaaGrf
namespace Go.Proofs.Ytjfbbfmnghccdaa
open Go.RowKit Go.BigFrame Go.Maps
set_option linter.unusedVariables false
set_option linter.unusedSimpArgs false

theorem wpList_build8 {P : Program} {w w' : World} {ops : Array Oper} {rest : List Oper} {o : Oper} {a : Act} {Q : Exit → Act → World → Prop} (hgd : o.guard = none) {T : TypeId} (x0 x1 x2 x3 x4 x5 x6 x7 : Operand) {v0 v1 v2 v3 v4 v5 v6 v7 v : Value} (ho : o.op = .buildSlice T 8 #[(0, x0), (1, x1), (2, x2), (3, x3), (4, x4), (5, x5), (6, x6), (7, x7)])
    (h0 : a.eval x0 = v0) (h1 : a.eval x1 = v1) (h2 : a.eval x2 = v2) (h3 : a.eval x3 = v3) (h4 : a.eval x4 = v4) (h5 : a.eval x5 = v5) (h6 : a.eval x6 = v6) (h7 : a.eval x7 = v7) (hr : (Instr.buildSlice T 8 #[(0, v0), (1, v1), (2, v2), (3, v3), (4, v4), (5, v5), (6, v6), (7, v7)]).run P w = .ok v w')
    (h : wpList P ops Q rest (a.put o.dst v) w') : wpList P ops Q (o :: rest) a w := by
  refine wpList_plain hgd fun K hK => ?_
  unfold Oper.wp execOp
  simp only [ho, List.map_toArray, List.map_cons, List.map_nil, h0, h1, h2, h3, h4, h5, h6, h7, Sem.run_bind, hr, Result.andThen_ok, Sem.run_pure]
  exact hK _ _ h
def gop8 (a b c d e f g h : Gop) : Array Value := gopC a ++ gopC b ++ gopC c ++ gopC d ++ gopC e ++ gopC f ++ gopC g ++ gopC h
theorem gop8_fl (a b c d e f g h : Gop) : (gop8 a b c d e f g h).toList = fl gopC [a, b, c, d, e, f, g, h] := by
  unfold gop8 fl
  simp
set_option maxRecDepth 100000 in
theorem gop8_build (a b c d e f g h : Gop) (w : World) : (Instr.buildSlice 70 8 #[(0, .agg (gopC a)), (1, .agg (gopC b)), (2, .agg (gopC c)), (3, .agg (gopC d)), (4, .agg (gopC e)), (5, .agg (gopC f)), (6, .agg (gopC g)), (7, .agg (gopC h))]).run Try.prog w = .ok (.slice (some ⟨w.heap.size, 0, none⟩) 8 8) (w.alloc (.cells (gop8 a b c d e f g h) 76)) := by kernel_rfl

end Go.Proofs.Ytjfbbfmnghccdaa
