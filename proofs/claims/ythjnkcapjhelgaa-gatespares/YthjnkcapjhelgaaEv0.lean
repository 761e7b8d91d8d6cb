/- Events: their cells. -/
import Derived.Test.YthjnkcapjhelgaaWb
namespace Go.Proofs.Ythjnkcapjhelgaa
open Go.RowKit Go.BigFrame
set_option linter.unusedVariables false
set_option linter.unusedSimpArgs false

structure Ev where
  ts : Int
  id : Int
  typ : Int
  a0 : Int
  a1 : Int
  a2 : Int
  a3 : Int
  a4 : Int
  a5 : Int
  a6 : Int
  a7 : Int
def Ev.at (e : Ev) (j : Nat) : Int := [e.a0, e.a1, e.a2, e.a3, e.a4, e.a5, e.a6, e.a7].getD j 0
/-- The numbers of an event are of their types. -/
structure Ev.ok (e : Ev) : Prop where
  t0 : -9223372036854775808 ≤ e.ts
  t1 : e.ts ≤ 9223372036854775807
  i0 : 0 ≤ e.id
  i1 : e.id < 18446744073709551616
  at0 : ∀ j, j < 8 → -9223372036854775808 ≤ e.at j
  at1 : ∀ j, j < 8 → e.at j ≤ 9223372036854775807
def evC (e : Ev) : Array Value := #[.int .i64 e.ts, .int .u64 e.id, .int .i64 e.typ, .int .i64 e.a0, .int .i64 e.a1, .int .i64 e.a2, .int .i64 e.a3, .int .i64 e.a4, .int .i64 e.a5, .int .i64 e.a6, .int .i64 e.a7]
def zeroE : Ev := ⟨0, 0, 0, 0, 0, 0, 0, 0, 0, 0, 0⟩
theorem zeroE_ok : zeroE.ok := ⟨by decide, by decide, by decide, by decide, fun j hj => by rcases (show j = 0 ∨ j = 1 ∨ j = 2 ∨ j = 3 ∨ j = 4 ∨ j = 5 ∨ j = 6 ∨ j = 7 from by omega) with rfl | rfl | rfl | rfl | rfl | rfl | rfl | rfl <;> decide, fun j hj => by rcases (show j = 0 ∨ j = 1 ∨ j = 2 ∨ j = 3 ∨ j = 4 ∨ j = 5 ∨ j = 6 ∨ j = 7 from by omega) with rfl | rfl | rfl | rfl | rfl | rfl | rfl | rfl <;> decide⟩
def Ev.put (e : Ev) (j : Nat) (z : Int) : Ev :=
  ⟨e.ts, e.id, e.typ, if j = 0 then z else e.a0, if j = 1 then z else e.a1, if j = 2 then z else e.a2, if j = 3 then z else e.a3, if j = 4 then z else e.a4, if j = 5 then z else e.a5, if j = 6 then z else e.a6, if j = 7 then z else e.a7⟩
theorem Ev.put_at (e : Ev) (j : Nat) (z : Int) (k : Nat) (hk : k < 8) : (e.put j z).at k = if j = k then z else e.at k := by
  rcases (show k = 0 ∨ k = 1 ∨ k = 2 ∨ k = 3 ∨ k = 4 ∨ k = 5 ∨ k = 6 ∨ k = 7 from by omega) with rfl | rfl | rfl | rfl | rfl | rfl | rfl | rfl <;> simp [Ev.put, Ev.at]
theorem Ev.put_ok {e : Ev} (h : e.ok) (j : Nat) {z : Int} (h0 : -9223372036854775808 ≤ z) (h1 : z ≤ 9223372036854775807) : (e.put j z).ok :=
  ⟨h.t0, h.t1, h.i0, h.i1, fun k hk => by rw [Ev.put_at _ _ _ _ hk]; split; exact h0; exact h.at0 k hk, fun k hk => by rw [Ev.put_at _ _ _ _ hk]; split; exact h1; exact h.at1 k hk⟩
theorem evC_at (e : Ev) (j : Nat) (hj : j < 8) : (evC e).toList[3 + j]? = some (.int .i64 (e.at j)) := by
  rcases (show j = 0 ∨ j = 1 ∨ j = 2 ∨ j = 3 ∨ j = 4 ∨ j = 5 ∨ j = 6 ∨ j = 7 from by omega) with rfl | rfl | rfl | rfl | rfl | rfl | rfl | rfl <;> rfl
theorem evC_put (e : Ev) (j : Nat) (hj : j < 8) (z : Int) : (evC (e.put j z)).toList = (evC e).toList.set (3 + j) (.int .i64 z) := by
  rcases (show j = 0 ∨ j = 1 ∨ j = 2 ∨ j = 3 ∨ j = 4 ∨ j = 5 ∨ j = 6 ∨ j = 7 from by omega) with rfl | rfl | rfl | rfl | rfl | rfl | rfl | rfl <;> simp [Ev.put, evC]

end Go.Proofs.Ythjnkcapjhelgaa
