/- What num's truthOf, val and Compare come to. -/
import Derived.Test.YtcjldhnjcmhfhaaArith
namespace Go.Proofs.Ytcjldhnjcmhfhaa
open Go.RowKit
set_option linter.unusedVariables false

def gradeOf (b : Bool) : Int := if b = true then 2 else 0
def bitOf (b : Bool) : Int := if b = true then 1 else 0

set_option maxHeartbeats 400000 in
theorem truthOf_any (b : Bool) (w : World) :
    Calls Try.prog 23 #[.bool b] w fun e w' => e = .returned (.int .i64 (gradeOf b)) ∧ w = w' := by
  cases b
  all_goals
    go_enter Try.func23, Try.ntmps23
    go_wp2
    go_ret
    exact ⟨rfl, rfl⟩

set_option maxHeartbeats 400000 in
theorem val_truth (b : Bool) (w : World) :
    Calls Try.prog 24 #[.int .i64 (gradeOf b)] w fun e w' => e = .returned (.agg #[.bool true, .int .i64 (bitOf b)]) ∧ Below w.heap.size w w' := by
  cases b
  · have e1 : gradeOf false = 0 := rfl
    have e2 : bitOf false = 0 := rfl
    rw [e1, e2]
    go_enter Try.func24, Try.ntmps24
    go_wp2_with (go_at_call 22; refine (known_any _ _).mono ?_; rintro e w0 ⟨rfl, g0⟩; obtain ⟨hc0, hf0⟩ := bcell g0)
    refine bodyPost_ret (v := .agg #[.bool true, .int .i64 0]) (by simp [results, Try.results24, go_sem, hc0]) rfl ⟨rfl, ?_⟩
    exact gset (gset (gtrans (galloc (Below.refl _ _) _) g0) (by simp) _) (by simp) _
  · have e1 : gradeOf true = 2 := rfl
    have e2 : bitOf true = 1 := rfl
    rw [e1, e2]
    go_enter Try.func24, Try.ntmps24
    go_wp2_with (go_at_call 22; refine (known_any _ _).mono ?_; rintro e w0 ⟨rfl, g0⟩; obtain ⟨hc0, hf0⟩ := bcell g0)
    refine bodyPost_ret (v := .agg #[.bool true, .int .i64 1]) (by simp [results, Try.results24, go_sem, hc0]) rfl ⟨rfl, ?_⟩
    exact gset (gset (gtrans (galloc (Below.refl _ _) _) g0) (by simp) _) (by simp) _

set_option maxHeartbeats 400000 in
theorem cmp19 (a b : Int) (w : World) :
    Calls Try.prog 13 #[.int .i64 19, .agg #[.bool true, .int .i64 a], .agg #[.bool true, .int .i64 b]] w fun e w' => e = .returned (.agg #[.bool true, .int .i64 (bitOf (a == b))]) ∧ Below w.heap.size w w' := by
  go_enter Try.func13, Try.ntmps13
  go_wp2_with (first
    | (go_at_call 16; refine (both_any _ _ _ _ _).mono ?_; rintro e w0 ⟨rfl, g0⟩; obtain ⟨hc0, hf0⟩ := bcell g0)
    | (go_at_call 23; refine (truthOf_any _ _).mono ?_; rintro e w1 ⟨rfl, rfl⟩)
    | (go_at_call 24; refine (val_truth _ _).mono ?_; rintro e w1 ⟨rfl, g1⟩; replace g0 := gtrans g0 g1; obtain ⟨hc1, hf1⟩ := bcell g0))
  refine bodyPost_ret (v := .agg #[.bool true, .int .i64 (bitOf (a == b))]) (by simp [results, Try.results13, go_sem, hc1]) rfl ⟨rfl, ?_⟩
  exact gset (gset (gtrans (galloc (galloc (galloc (Below.refl _ _) _) _) _) g0) (by simp; omega) _) (by simp; omega) _

set_option maxHeartbeats 400000 in
theorem cmp20 (a b : Int) (w : World) :
    Calls Try.prog 13 #[.int .i64 20, .agg #[.bool true, .int .i64 a], .agg #[.bool true, .int .i64 b]] w fun e w' => e = .returned (.agg #[.bool true, .int .i64 (bitOf (a != b))]) ∧ Below w.heap.size w w' := by
  go_enter Try.func13, Try.ntmps13
  go_wp2_with (first
    | (go_at_call 16; refine (both_any _ _ _ _ _).mono ?_; rintro e w0 ⟨rfl, g0⟩; obtain ⟨hc0, hf0⟩ := bcell g0)
    | (go_at_call 23; refine (truthOf_any _ _).mono ?_; rintro e w1 ⟨rfl, rfl⟩)
    | (go_at_call 24; refine (val_truth _ _).mono ?_; rintro e w1 ⟨rfl, g1⟩; replace g0 := gtrans g0 g1; obtain ⟨hc1, hf1⟩ := bcell g0))
  refine bodyPost_ret (v := .agg #[.bool true, .int .i64 (bitOf (a != b))]) (by simp [results, Try.results13, go_sem, hc1]) rfl ⟨rfl, ?_⟩
  exact gset (gset (gtrans (galloc (galloc (galloc (Below.refl _ _) _) _) _) g0) (by simp; omega) _) (by simp; omega) _

set_option maxHeartbeats 400000 in
theorem cmp21 (a b : Int) (w : World) :
    Calls Try.prog 13 #[.int .i64 21, .agg #[.bool true, .int .i64 a], .agg #[.bool true, .int .i64 b]] w fun e w' => e = .returned (.agg #[.bool true, .int .i64 (bitOf (decide (a < b)))]) ∧ Below w.heap.size w w' := by
  go_enter Try.func13, Try.ntmps13
  go_wp2_with (first
    | (go_at_call 16; refine (both_any _ _ _ _ _).mono ?_; rintro e w0 ⟨rfl, g0⟩; obtain ⟨hc0, hf0⟩ := bcell g0)
    | (go_at_call 23; refine (truthOf_any _ _).mono ?_; rintro e w1 ⟨rfl, rfl⟩)
    | (go_at_call 24; refine (val_truth _ _).mono ?_; rintro e w1 ⟨rfl, g1⟩; replace g0 := gtrans g0 g1; obtain ⟨hc1, hf1⟩ := bcell g0))
  refine bodyPost_ret (v := .agg #[.bool true, .int .i64 (bitOf (decide (a < b)))]) (by simp [results, Try.results13, go_sem, hc1]) rfl ⟨rfl, ?_⟩
  exact gset (gset (gtrans (galloc (galloc (galloc (Below.refl _ _) _) _) _) g0) (by simp; omega) _) (by simp; omega) _

set_option maxHeartbeats 400000 in
theorem cmp22 (a b : Int) (w : World) :
    Calls Try.prog 13 #[.int .i64 22, .agg #[.bool true, .int .i64 a], .agg #[.bool true, .int .i64 b]] w fun e w' => e = .returned (.agg #[.bool true, .int .i64 (bitOf (decide (a ≤ b)))]) ∧ Below w.heap.size w w' := by
  go_enter Try.func13, Try.ntmps13
  go_wp2_with (first
    | (go_at_call 16; refine (both_any _ _ _ _ _).mono ?_; rintro e w0 ⟨rfl, g0⟩; obtain ⟨hc0, hf0⟩ := bcell g0)
    | (go_at_call 23; refine (truthOf_any _ _).mono ?_; rintro e w1 ⟨rfl, rfl⟩)
    | (go_at_call 24; refine (val_truth _ _).mono ?_; rintro e w1 ⟨rfl, g1⟩; replace g0 := gtrans g0 g1; obtain ⟨hc1, hf1⟩ := bcell g0))
  refine bodyPost_ret (v := .agg #[.bool true, .int .i64 (bitOf (decide (a ≤ b)))]) (by simp [results, Try.results13, go_sem, hc1]) rfl ⟨rfl, ?_⟩
  exact gset (gset (gtrans (galloc (galloc (galloc (Below.refl _ _) _) _) _) g0) (by simp; omega) _) (by simp; omega) _

set_option maxHeartbeats 400000 in
theorem cmp23 (a b : Int) (w : World) :
    Calls Try.prog 13 #[.int .i64 23, .agg #[.bool true, .int .i64 a], .agg #[.bool true, .int .i64 b]] w fun e w' => e = .returned (.agg #[.bool true, .int .i64 (bitOf (decide (b < a)))]) ∧ Below w.heap.size w w' := by
  go_enter Try.func13, Try.ntmps13
  go_wp2_with (first
    | (go_at_call 16; refine (both_any _ _ _ _ _).mono ?_; rintro e w0 ⟨rfl, g0⟩; obtain ⟨hc0, hf0⟩ := bcell g0)
    | (go_at_call 23; refine (truthOf_any _ _).mono ?_; rintro e w1 ⟨rfl, rfl⟩)
    | (go_at_call 24; refine (val_truth _ _).mono ?_; rintro e w1 ⟨rfl, g1⟩; replace g0 := gtrans g0 g1; obtain ⟨hc1, hf1⟩ := bcell g0))
  refine bodyPost_ret (v := .agg #[.bool true, .int .i64 (bitOf (decide (b < a)))]) (by simp [results, Try.results13, go_sem, hc1]) rfl ⟨rfl, ?_⟩
  exact gset (gset (gtrans (galloc (galloc (galloc (Below.refl _ _) _) _) _) g0) (by simp; omega) _) (by simp; omega) _

set_option maxHeartbeats 400000 in
theorem cmp24 (a b : Int) (w : World) :
    Calls Try.prog 13 #[.int .i64 24, .agg #[.bool true, .int .i64 a], .agg #[.bool true, .int .i64 b]] w fun e w' => e = .returned (.agg #[.bool true, .int .i64 (bitOf (decide (b ≤ a)))]) ∧ Below w.heap.size w w' := by
  go_enter Try.func13, Try.ntmps13
  go_wp2_with (first
    | (go_at_call 16; refine (both_any _ _ _ _ _).mono ?_; rintro e w0 ⟨rfl, g0⟩; obtain ⟨hc0, hf0⟩ := bcell g0)
    | (go_at_call 23; refine (truthOf_any _ _).mono ?_; rintro e w1 ⟨rfl, rfl⟩)
    | (go_at_call 24; refine (val_truth _ _).mono ?_; rintro e w1 ⟨rfl, g1⟩; replace g0 := gtrans g0 g1; obtain ⟨hc1, hf1⟩ := bcell g0))
  refine bodyPost_ret (v := .agg #[.bool true, .int .i64 (bitOf (decide (b ≤ a)))]) (by simp [results, Try.results13, go_sem, hc1]) rfl ⟨rfl, ?_⟩
  exact gset (gset (gtrans (galloc (galloc (galloc (Below.refl _ _) _) _) _) g0) (by simp; omega) _) (by simp; omega) _

end Go.Proofs.Ytcjldhnjcmhfhaa
