/- num's And, Or, Not, True as functions of values, and the laws of a lattice that they keep. -/
import Derived.Test.YtcjldhnjcmhfhaaDoorTruth
namespace Go.Proofs.YtcjldhnjcmhfhaaDoor
open Go.RowKit
set_option linter.unusedVariables false

def aK (k : Bool) (n : Int) (k' : Bool) (n' : Int) : Bool := vK (minI (rd k n) (rd k' n'))
def aN (k : Bool) (n : Int) (k' : Bool) (n' : Int) : Int := vN (minI (rd k n) (rd k' n'))
def oK (k : Bool) (n : Int) (k' : Bool) (n' : Int) : Bool := vK (maxI (rd k n) (rd k' n'))
def oN (k : Bool) (n : Int) (k' : Bool) (n' : Int) : Int := vN (maxI (rd k n) (rd k' n'))
def nK (k : Bool) (n : Int) : Bool := vK (2 - rd k n)
def nN (k : Bool) (n : Int) : Int := vN (2 - rd k n)
def tr (k : Bool) (n : Int) : Bool := rd k n == 2

theorem rd_v {g : Int} (h : g = 0 ∨ g = 1 ∨ g = 2) : rd (vK g) (vN g) = g := by
  rcases h with rfl | rfl | rfl <;> decide
theorem min3 {x y : Int} (hx : x = 0 ∨ x = 1 ∨ x = 2) (hy : y = 0 ∨ y = 1 ∨ y = 2) : minI x y = 0 ∨ minI x y = 1 ∨ minI x y = 2 := by
  unfold minI; split <;> assumption
theorem max3 {x y : Int} (hx : x = 0 ∨ x = 1 ∨ x = 2) (hy : y = 0 ∨ y = 1 ∨ y = 2) : maxI x y = 0 ∨ maxI x y = 1 ∨ maxI x y = 2 := by
  unfold maxI; split <;> assumption
theorem not3 {x : Int} (hx : x = 0 ∨ x = 1 ∨ x = 2) : 2 - x = 0 ∨ 2 - x = 1 ∨ 2 - x = 2 := by omega
theorem rd_a (k : Bool) (n : Int) (k' : Bool) (n' : Int) : rd (aK k n k' n') (aN k n k' n') = minI (rd k n) (rd k' n') := rd_v (min3 (rd_cases k n) (rd_cases k' n'))
theorem rd_o (k : Bool) (n : Int) (k' : Bool) (n' : Int) : rd (oK k n k' n') (oN k n k' n') = maxI (rd k n) (rd k' n') := rd_v (max3 (rd_cases k n) (rd_cases k' n'))
theorem rd_n (k : Bool) (n : Int) : rd (nK k n) (nN k n) = 2 - rd k n := rd_v (not3 (rd_cases k n))
theorem rd_yes : rd true 1 = 2 := rfl
theorem rd_no : rd true 0 = 0 := rfl
theorem rd_un : rd false 0 = 1 := rfl
theorem vK_rd (k : Bool) (n : Int) : vK (rd k n) = k := by
  cases k
  · rfl
  · by_cases h : n = 0
    · subst h; rfl
    · simp [rd, h, vK]

theorem comm_a (x y : Int) : minI y x = minI x y := by unfold minI; split <;> split <;> omega
theorem comm_o (x y : Int) : maxI y x = maxI x y := by unfold maxI; split <;> split <;> omega
theorem asso_a (x y z : Int) : minI (minI x y) z = minI x (minI y z) := by
  unfold minI
  repeat' split
  all_goals omega
theorem asso_o (x y z : Int) : maxI (maxI x y) z = maxI x (maxI y z) := by
  unfold maxI
  repeat' split
  all_goals omega
theorem dist_a (x y z : Int) : maxI (minI x y) (minI x z) = minI x (maxI y z) := by
  unfold minI maxI
  repeat' split
  all_goals omega
theorem dist_o (x y z : Int) : minI (maxI x y) (maxI x z) = maxI x (minI y z) := by
  unfold minI maxI
  repeat' split
  all_goals omega
theorem swal_a (x y : Int) : minI x (maxI x y) = x := by
  unfold minI maxI
  repeat' split
  all_goals omega
theorem swal_o (x y : Int) : maxI x (minI x y) = x := by
  unfold minI maxI
  repeat' split
  all_goals omega
theorem demo_a (x y : Int) : 2 - minI x y = maxI (2 - x) (2 - y) := by
  unfold minI maxI
  repeat' split
  all_goals omega
theorem demo_o (x y : Int) : 2 - maxI x y = minI (2 - x) (2 - y) := by
  unfold minI maxI
  repeat' split
  all_goals omega
theorem top_a (k : Bool) (n : Int) : minI (rd k n) 2 = rd k n := by have := rd_lt k n; unfold minI; split <;> omega
theorem bot_o (k : Bool) (n : Int) : maxI (rd k n) 0 = rd k n := by have := rd_nn k n; unfold maxI; split <;> omega
theorem true_a (k : Bool) (n : Int) (k' : Bool) (n' : Int) : tr (aK k n k' n') (aN k n k' n') = (tr k n && tr k' n') := by
  unfold tr; rw [rd_a]
  have h1 := rd_cases k n
  have h2 := rd_cases k' n'
  generalize rd k n = x at *
  generalize rd k' n' = y at *
  rcases h1 with rfl | rfl | rfl <;> rcases h2 with rfl | rfl | rfl <;> decide
theorem true_o (k : Bool) (n : Int) (k' : Bool) (n' : Int) : tr (oK k n k' n') (oN k n k' n') = (tr k n || tr k' n') := by
  unfold tr; rw [rd_o]
  have h1 := rd_cases k n
  have h2 := rd_cases k' n'
  generalize rd k n = x at *
  generalize rd k' n' = y at *
  rcases h1 with rfl | rfl | rfl <;> rcases h2 with rfl | rfl | rfl <;> decide

theorem tr_cases (k : Bool) (n : Int) : (k = false ∧ tr k n = false) ∨ (k = true ∧ (n != 0) = false ∧ tr k n = false) ∨ (k = true ∧ (n != 0) = true ∧ tr k n = true) := by
  cases k
  · left; exact ⟨rfl, rfl⟩
  · by_cases h : n = 0
    · subst h; right; left; exact ⟨rfl, rfl, rfl⟩
    · right; right
      refine ⟨rfl, by simpa using h, ?_⟩
      simp [tr, rd, h]
theorem and_op (k : Bool) (n : Int) (k' : Bool) (n' : Int) (w : World) (T : Tabs w) : Calls Tryd.prog 5 #[.agg #[.bool k, .int .i64 n], .agg #[.bool k', .int .i64 n']] w fun e w' => e = .returned (.agg #[.bool (aK k n k' n'), .int .i64 (aN k n k' n')]) ∧ Below w.heap.size w w' := and_any k k' n n' w T
theorem or_op (k : Bool) (n : Int) (k' : Bool) (n' : Int) (w : World) (T : Tabs w) : Calls Tryd.prog 6 #[.agg #[.bool k, .int .i64 n], .agg #[.bool k', .int .i64 n']] w fun e w' => e = .returned (.agg #[.bool (oK k n k' n'), .int .i64 (oN k n k' n')]) ∧ Below w.heap.size w w' := or_any k k' n n' w T
theorem not_op (k : Bool) (n : Int) (w : World) (T : TabN w) : Calls Tryd.prog 7 #[.agg #[.bool k, .int .i64 n]] w fun e w' => e = .returned (.agg #[.bool (nK k n), .int .i64 (nN k n)]) ∧ Below w.heap.size w w' := not_any k n w T
theorem true_op (k : Bool) (n : Int) (w : World) : Calls Tryd.prog 8 #[.agg #[.bool k, .int .i64 n]] w fun e w' => e = .returned (.bool (tr k n)) ∧ Below w.heap.size w w' := true_any k n w
theorem true_lit {k : Bool} {n : Int} {v : Bool} (h : tr k n = v) (w : World) : Calls Tryd.prog 8 #[.agg #[.bool k, .int .i64 n]] w fun e w' => e = .returned (.bool v) ∧ Below w.heap.size w w' := by
  rw [← h]; exact true_op k n w

end Go.Proofs.YtcjldhnjcmhfhaaDoor
