/- isBefore. -/
import Derived.Test.YtjfbbfmnghccdaaHpb
namespace Go.Proofs.Ytjfbbfmnghccdaa
open Go.RowKit Go.BigFrame
set_option linter.unusedVariables false
set_option linter.unusedSimpArgs false

theorem evMeth (n : Nat) (v : Array Value) (u : World) : (method (n + 1) 29 (.agg v) "Before").run Try.prog u = .ok (80, .agg v) u := by kernel_rfl
set_option maxHeartbeats 1000000 in
theorem evCatch (w : World) : CallsD Try.prog 85 #[] .returning w fun e u' w' => e = .returned (.tuple #[]) ∧ u' = .returning ∧ w' = w := by
  refine callsD_of_wpS Try.func85 rfl fun c₀ cs hu => ?_
  apply wpS_region
  simp [wpOpsS, go_sem, recoverD, hu, Try.ntmps85, Exit.thenS]
  cases c₀
  simp_all [bodyPostS, results, Try.results85]
set_option maxHeartbeats 1000000 in
theorem evIs_any (x y : Ev) (w : World) :
    Calls Try.prog 82 #[.agg (evC x), .agg (evC y)] w fun e w' => e = .returned (.bool (evLt x y)) ∧ Below w.heap.size w w' := by
  have B := galloc (galloc (Below.refl w.heap.size w) (.cells (evC x) 29)) (.cells (evC y) 29)
  have b1 := (Bk.new w (evC x) 29).alloc (.cells (evC y) 29)
  have b2 := Bk.newE (w := w.alloc (.cells (evC x) 29)) (g := w.heap.size + 1) (by simp) (evC y) 29
  go_enter_defers Try.func82, Try.ntmps82
  go_upto_region 1 with fail
  generalize (w.alloc _).alloc _ = V at *
  have c1 := evBefore_any x y V
  have r1 := b1.range
  have r2 := b2.range
  have hm := fun n v u => evMeth n v u
  go_wp2_with (first
    | (refine wpList_load_mid rfl 29 (.tmp 2) rfl _ 0 rfl (evC x).toList _ r1 Try.underlying29 rfl infoEv ?_)
    | (refine wpList_load_mid rfl 29 (.tmp 3) rfl _ 0 rfl (evC y).toList _ r2 Try.underlying29 rfl infoEv ?_)
    | (go_at_call 80; (with_reducible refine c1.mono ?_); rintro e u ⟨rfl, g1⟩))
  refine leaves_cons (f := 85) (args := #[]) (by simp) (by simp [go_sem]) ?_
  refine (evCatch _).mono ?_
  rintro e u' w'' ⟨rfl, rfl, rfl⟩
  simp [Leaves, settle, results, Try.results82, go_sem]
  exact gtrans B g1


end Go.Proofs.Ytjfbbfmnghccdaa
