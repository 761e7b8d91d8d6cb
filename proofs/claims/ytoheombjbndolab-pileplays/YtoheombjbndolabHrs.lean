/- The document's sort. -/
import Derived.Test.YtoheombjbndolabHpn
import Derived.Test.YtoheombjbndolabHrm
namespace Go.Proofs.Ytoheombjbndolab
open Go.RowKit Go.BigFrame
set_option linter.unusedVariables false
set_option linter.unusedSimpArgs false

set_option maxHeartbeats 1000000 in
theorem refNameBefore_any (ta ia tb ib : Int) (w : World) :
    Calls Try.prog 47 #[.agg #[.int .i64 ta, .int .u64 ia], .agg #[.int .i64 tb, .int .u64 ib]] w fun e w' => e = .returned (.bool (befB ta ia tb ib)) ∧ Below w.heap.size w w' := by
  obtain ⟨v, hv⟩ : ∃ v, befB ta ia tb ib = v := ⟨_, rfl⟩
  rw [hv]
  have HV : Hid (decide (ta < tb ∨ ta = tb ∧ ia < ib) = v) := hv
  clear hv
  go_enter Try.func47, Try.ntmps47
  go_wp2
  all_goals
    have hv : decide (ta < tb ∨ ta = tb ∧ ia < ib) = v := HV
    go_ret
    refine ⟨?_, galloc (galloc (Below.refl _ _) _) _⟩
    subst hv
    refine congrArg (fun b => Ending.returned (Value.bool b)) ?_
    (try simp only [bne_iff_ne, ne_eq, Decidable.not_not, bne_eq_false_iff_eq, Bool.not_eq_true] at *)
    exact decide_eq_decide.2 (by omega)
theorem refNm_any (a b : Nm) (w : World) : Calls Try.prog 47 #[.agg (nmC a), .agg (nmC b)] w fun e w' => e = .returned (.bool (nmLt a b)) ∧ Below w.heap.size w w' := refNameBefore_any a.ts a.id b.ts b.id w
set_option maxHeartbeats 1000000 in
theorem refEv_any (x y : Ev) (w : World) :
    Calls Try.prog 54 #[.agg (evC x), .agg (evC y)] w fun e w' => e = .returned (.bool (evLt x y)) ∧ Below w.heap.size w w' := by
  have B := galloc (galloc (Below.refl w.heap.size w) (.cells (evC x) 29)) (.cells (evC y) 29)
  have c1 := refNameBefore_any x.ts x.id y.ts y.id ((w.alloc (.cells (evC x) 29)).alloc (.cells (evC y) 29))
  unfold evC at *
  go_enter Try.func54, Try.ntmps54
  go_wp2_with (first
    | (go_at_call 47; (with_reducible refine c1.mono ?_); rintro e u ⟨rfl, g1⟩))
  go_ret
  exact ⟨rfl, gtrans B g1⟩
/-- What holds at the head of the merge's loop. -/
structure evMg (A B : List Ev) (k m : Nat) (u2 : World) (vo vi vj : Value) (wr : World) : Prop where
  ex : ∃ (i j : Nat) (os : List Ev), i ≤ k ∧ j ≤ m ∧ vi = .int .i64 (i : Int) ∧ vj = .int .i64 (j : Int) ∧ os.length = i + j ∧ os ++ mrgL evLt (A.drop i) (B.drop j) = mrgL evLt A B ∧ wr.ownsRow u2.heap.size 29 11 vo (i + j) (fl evC os) ∧ Below u2.heap.size u2 wr
end Go.Proofs.Ytoheombjbndolab
