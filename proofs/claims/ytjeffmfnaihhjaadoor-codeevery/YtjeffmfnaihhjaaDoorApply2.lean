/- What Apply of both sides comes to, by every operator, as one function of values. -/
import Derived.Test.YtjeffmfnaihhjaaDoorApply
namespace Go.Proofs.YtjeffmfnaihhjaaDoor
open Go.RowKit
set_option linter.unusedVariables false
set_option linter.unusedSimpArgs false

abbrev V2 := Bool × Int
def cmpV (op : Int) (x y : V2) : V2 :=
  if (x.1 && y.1) = false then (false, 0) else if op = 19 then (true, bitOf (x.2 == y.2)) else if op = 20 then (true, bitOf (x.2 != y.2)) else if op = 21 then (true, bitOf (decide (x.2 < y.2)))
  else if op = 22 then (true, bitOf (decide (x.2 ≤ y.2))) else if op = 23 then (true, bitOf (decide (y.2 < x.2))) else if op = 24 then (true, bitOf (decide (y.2 ≤ x.2))) else (false, 0)
def applyV (op : Int) (x y : V2) : V2 :=
  if op = 14 then (opK x.1 y.1 (x.2 + y.2), opN x.1 y.1 (x.2 + y.2)) else if op = 15 then (opK x.1 y.1 (x.2 - y.2), opN x.1 y.1 (x.2 - y.2)) else if op = 16 then (opK x.1 y.1 (x.2 * y.2), opN x.1 y.1 (x.2 * y.2))
  else if op = 17 then (opK x.1 (y.1 && !(y.2 == 0)) (x.2.tdiv y.2), opN x.1 (y.1 && !(y.2 == 0)) (x.2.tdiv y.2)) else if op = 18 then (opK x.1 (y.1 && !(y.2 == 0)) (x.2.tmod y.2), opN x.1 (y.1 && !(y.2 == 0)) (x.2.tmod y.2))
  else if op = 25 then (vK (minI (rd x.1 x.2) (rd y.1 y.2)), vN (minI (rd x.1 x.2) (rd y.1 y.2))) else if op = 26 then (vK (maxI (rd x.1 x.2) (rd y.1 y.2)), vN (maxI (rd x.1 x.2) (rd y.1 y.2)))
  else cmpV op x y
abbrev VA (x : V2) : Value := .agg #[.bool x.1, .int .i64 x.2]

theorem bit_fits (b : Bool) : fitsB (bitOf b) = true := by cases b <;> decide
theorem cmpV_fits (op : Int) (x y : V2) : fitsB (cmpV op x y).2 = true := by
  unfold cmpV
  repeat' split
  all_goals first | exact bit_fits _ | decide
theorem vN_fits (t : Int) : fitsB (vN t) = true := by unfold vN; split <;> decide
theorem applyV_fits (op : Int) (x y : V2) : fitsB (applyV op x y).2 = true := by
  unfold applyV
  repeat' split
  all_goals first | exact opN_fits _ _ _ | exact vN_fits _ | exact cmpV_fits _ _ _

theorem compare_is (op : Int) (x y : V2) : (∀ w, Calls Tryd.prog 45 #[.int .i64 op, VA x, VA y] w (fun e w' => e = .returned (VA (cmpV op x y)) ∧ Below w.heap.size w w')) ∧ (∀ w, Calls Tryd.prog 72 #[.int .i64 op, VA x, VA y] w (fun e w' => e = .returned (VA (cmpV op x y)) ∧ Below w.heap.size w w')) := by
  obtain ⟨ka, a⟩ := x
  obtain ⟨kb, b⟩ := y
  unfold cmpV
  cases h : (ka && kb)
  · rw [if_pos rfl]
    exact ⟨fun w => cmp_no op ka kb a b w h, fun w => rcmp_no op ka kb a b w h⟩
  · rw [if_neg (by decide)]
    simp only [Bool.and_eq_true] at h
    obtain ⟨rfl, rfl⟩ := h
    by_cases h19 : op = 19
    · subst h19; exact ⟨fun w => cmp19 a b w, fun w => rcmp19 a b w⟩
    rw [if_neg h19]
    by_cases h20 : op = 20
    · subst h20; exact ⟨fun w => cmp20 a b w, fun w => rcmp20 a b w⟩
    rw [if_neg h20]
    by_cases h21 : op = 21
    · subst h21; exact ⟨fun w => cmp21 a b w, fun w => rcmp21 a b w⟩
    rw [if_neg h21]
    by_cases h22 : op = 22
    · subst h22; exact ⟨fun w => cmp22 a b w, fun w => rcmp22 a b w⟩
    rw [if_neg h22]
    by_cases h23 : op = 23
    · subst h23; exact ⟨fun w => cmp23 a b w, fun w => rcmp23 a b w⟩
    rw [if_neg h23]
    by_cases h24 : op = 24
    · subst h24; exact ⟨fun w => cmp24 a b w, fun w => rcmp24 a b w⟩
    rw [if_neg h24]
    exact ⟨fun w => cmp_else op a b w (by simpa using h19) (by simpa using h20) (by simpa using h21) (by simpa using h22) (by simpa using h23) (by simpa using h24), fun w => rcmp_else op a b w (by simpa using h19) (by simpa using h20) (by simpa using h21) (by simpa using h22) (by simpa using h23) (by simpa using h24)⟩

theorem apply_is (op : Int) (x y : V2) (b0 : fitsB x.2 = true) (b1 : fitsB y.2 = true) : (∀ w, Tabs w → Calls Tryd.prog 26 #[.int .i64 op, VA x, VA y] w (fun e w' => e = .returned (VA (applyV op x y)) ∧ Below w.heap.size w w')) ∧ (∀ w, Calls Tryd.prog 50 #[.int .i64 op, VA x, VA y] w (fun e w' => e = .returned (VA (applyV op x y)) ∧ Below w.heap.size w w')) := by
  obtain ⟨ka, a⟩ := x
  obtain ⟨kb, b⟩ := y
  unfold applyV
  by_cases h14 : op = 14
  · subst h14; exact ⟨fun w _ => apply14 (fun w => add_any ka kb a b w b0 b1) w, fun w => rapply14 (fun w => refAdd_any ka kb a b w b0 b1) w⟩
  rw [if_neg h14]
  by_cases h15 : op = 15
  · subst h15; exact ⟨fun w _ => apply15 (fun w => sub_any ka kb a b w b0 b1) w, fun w => rapply15 (fun w => refSub_any ka kb a b w b0 b1) w⟩
  rw [if_neg h15]
  by_cases h16 : op = 16
  · subst h16; exact ⟨fun w _ => apply16 (fun w => mul_any ka kb a b w b0 b1) w, fun w => rapply16 (fun w => refMul_any ka kb a b w b0 b1) w⟩
  rw [if_neg h16]
  by_cases h17 : op = 17
  · subst h17; exact ⟨fun w _ => apply17 (fun w => div_any ka kb a b w b0) w, fun w => rapply17 (fun w => refDiv_any ka kb a b w b0) w⟩
  rw [if_neg h17]
  by_cases h18 : op = 18
  · subst h18; exact ⟨fun w _ => apply18 (fun w => mod_any ka kb a b w b0) w, fun w => rapply18 (fun w => refMod_any ka kb a b w b0) w⟩
  rw [if_neg h18]
  by_cases h25 : op = 25
  · subst h25; exact ⟨fun w T => apply25 (fun w T => and_any ka kb a b w T) w T, fun w => rapply25 (fun w => refAnd_any ka kb a b w) w⟩
  rw [if_neg h25]
  by_cases h26 : op = 26
  · subst h26; exact ⟨fun w T => apply26 (fun w T => or_any ka kb a b w T) w T, fun w => rapply26 (fun w => refOr_any ka kb a b w) w⟩
  rw [if_neg h26]
  obtain ⟨c, d⟩ := compare_is op (ka, a) (kb, b)
  exact ⟨fun w _ => apply_else c (by simpa using h14) (by simpa using h15) (by simpa using h16) (by simpa using h17) (by simpa using h18) (by simpa using h25) (by simpa using h26) w, fun w => rapply_else d (by simpa using h14) (by simpa using h15) (by simpa using h16) (by simpa using h17) (by simpa using h18) (by simpa using h25) (by simpa using h26) w⟩

end Go.Proofs.YtjeffmfnaihhjaaDoor
