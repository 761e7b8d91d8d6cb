/- The same of names. -/
import Derived.Test.YtoheombjbndolaaHpn
namespace Go.Proofs.Ytoheombjbndolaa
open Go.RowKit Go.BigFrame
set_option linter.unusedVariables false
set_option linter.unusedSimpArgs false

theorem nmMeth (n : Nat) (v : Array Value) (u : World) : (method (n + 1) 44 (.agg v) "Before").run Try.prog u = .ok (71, .agg v) u := by kernel_rfl
set_option maxHeartbeats 1000000 in
theorem nmCatch (w : World) : CallsD Try.prog 53 #[] .returning w fun e u' w' => e = .returned (.tuple #[]) ∧ u' = .returning ∧ w' = w := by
  refine callsD_of_wpS Try.func53 rfl fun c₀ cs hu => ?_
  apply wpS_region
  simp [wpOpsS, go_sem, recoverD, hu, Try.ntmps53, Exit.thenS]
  cases c₀
  simp_all [bodyPostS, results, Try.results53]
set_option maxHeartbeats 1000000 in
theorem nmIs_any (x y : Nm) (w : World) :
    Calls Try.prog 51 #[.agg (nmC x), .agg (nmC y)] w fun e w' => e = .returned (.bool (nmLt x y)) ∧ Below w.heap.size w w' := by
  have B := galloc (galloc (Below.refl w.heap.size w) (.cells (nmC x) 44)) (.cells (nmC y) 44)
  have b1 := (Bk.new w (nmC x) 44).alloc (.cells (nmC y) 44)
  have b2 := Bk.newE (w := w.alloc (.cells (nmC x) 44)) (g := w.heap.size + 1) (by simp) (nmC y) 44
  go_enter_defers Try.func51, Try.ntmps51
  go_upto_region 1 with fail
  generalize (w.alloc _).alloc _ = V at *
  have c1 := nmBefore_any x y V
  have r1 := b1.range
  have r2 := b2.range
  have hm := fun n v u => nmMeth n v u
  go_wp2_with (first
    | (refine wpList_load_mid rfl 44 (.tmp 2) rfl _ 0 rfl (nmC x).toList _ r1 Try.underlying44 rfl infoNm ?_)
    | (refine wpList_load_mid rfl 44 (.tmp 3) rfl _ 0 rfl (nmC y).toList _ r2 Try.underlying44 rfl infoNm ?_)
    | (go_at_call 71; (with_reducible refine c1.mono ?_); rintro e u ⟨rfl, g1⟩))
  refine leaves_cons (f := 53) (args := #[]) (by simp) (by simp [go_sem]) ?_
  refine (nmCatch _).mono ?_
  rintro e u' w'' ⟨rfl, rfl, rfl⟩
  simp [Leaves, settle, results, Try.results51, go_sem]
  exact gtrans B g1



end Go.Proofs.Ytoheombjbndolaa
