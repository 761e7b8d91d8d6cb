/- isBefore. -/
import Derived.Test.YthjnkcapjhelgaaHpb
namespace Go.Proofs.Ythjnkcapjhelgaa
open Go.RowKit Go.BigFrame
set_option linter.unusedVariables false
set_option linter.unusedSimpArgs false

theorem evMeth (n : Nat) (v : Array Value) (u : World) : (method (n + 1) 47 (.agg v) "Before").run Try.prog u = .ok (45, .agg v) u := by kernel_rfl
set_option maxHeartbeats 1000000 in
theorem evCatch (w : World) : CallsD Try.prog 61 #[] .returning w fun e u' w' => e = .returned (.tuple #[]) ∧ u' = .returning ∧ w' = w := by
  refine callsD_of_wpS Try.func61 rfl fun c₀ cs hu => ?_
  apply wpS_region
  simp [wpOpsS, go_sem, recoverD, hu, Try.ntmps61, Exit.thenS]
  cases c₀
  simp_all [bodyPostS, results, Try.results61]
set_option maxHeartbeats 1000000 in
theorem evIs_any (x y : Ev) (w : World) :
    Calls Try.prog 59 #[.agg (evC x), .agg (evC y)] w fun e w' => e = .returned (.bool (evLt x y)) ∧ Below w.heap.size w w' := by
  have B := galloc (galloc (Below.refl w.heap.size w) (.cells (evC x) 47)) (.cells (evC y) 47)
  have b1 := (Bk.new w (evC x) 47).alloc (.cells (evC y) 47)
  have b2 := Bk.newE (w := w.alloc (.cells (evC x) 47)) (g := w.heap.size + 1) (by simp) (evC y) 47
  go_enter_defers Try.func59, Try.ntmps59
  go_upto_region 1 with fail
  generalize (w.alloc _).alloc _ = V at *
  have c1 := evBefore_any x y V
  have r1 := b1.range
  have r2 := b2.range
  have hm := fun n v u => evMeth n v u
  go_wp2_with (first
    | (refine wpList_load_mid rfl 47 (.tmp 2) rfl _ 0 rfl (evC x).toList _ r1 Try.underlying47 rfl infoEv ?_)
    | (refine wpList_load_mid rfl 47 (.tmp 3) rfl _ 0 rfl (evC y).toList _ r2 Try.underlying47 rfl infoEv ?_)
    | (go_at_call 45; (with_reducible refine c1.mono ?_); rintro e u ⟨rfl, g1⟩))
  refine leaves_cons (f := 61) (args := #[]) (by simp) (by simp [go_sem]) ?_
  refine (evCatch _).mono ?_
  rintro e u' w'' ⟨rfl, rfl, rfl⟩
  simp [Leaves, settle, results, Try.results59, go_sem]
  exact gtrans B g1


end Go.Proofs.Ythjnkcapjhelgaa
