/- Compare and Apply, num's and the document's, by every operator and by what is none: they come to the same. And what goes with it: 2 texts in one. -/
import Derived.Test.YtglagbedgjkdbaaGreatDoorJb11
namespace Go.Proofs.YtglagbedgjkdbaaGreatDoor
open Go.RowKit
set_option linter.unusedVariables false

def gradeOf (b : Bool) : Int := if b = true then 2 else 0
def bitOf (b : Bool) : Int := if b = true then 1 else 0
theorem truthOf_grade (b : Bool) (w : World) :
    Calls Tryz.prog 66 #[.bool b] w fun e w' => e = .returned (.int .i64 (gradeOf b)) ∧ w = w' := truthOf_any b w
theorem val_bit (b : Bool) (w : World) :
    Calls Tryz.prog 84 #[.int .i64 (gradeOf b)] w fun e w' => e = .returned (.agg #[.bool true, .int .i64 (bitOf b)]) ∧ Below w.heap.size w w' := by
  cases b
  · exact val_any 0 w (by omega)
  · exact val_any 2 w (by omega)

set_option maxHeartbeats 400000 in
theorem refTruth_any (b : Bool) (w : World) :
    Calls Tryz.prog 137 #[.bool b] w fun e w' => e = .returned (.agg #[.bool true, .int .i64 (bitOf b)]) ∧ Below w.heap.size w w' := by
  cases b
  · show Calls _ _ _ _ fun e w' => e = .returned (.agg #[.bool true, .int .i64 0]) ∧ _
    go_enter Tryz.func137, Tryz.ntmps137
    go_wp2_with (go_at_call 73; refine (refNumber_any _ _).mono ?_; rintro e w0 ⟨rfl, g0⟩; obtain ⟨hc0, hf0⟩ := bcell g0)
    refine bodyPost_ret (v := .agg #[.bool true, .int .i64 0]) (by simp [results, Tryz.results137, go_sem, hc0]) rfl ⟨rfl, ?_⟩
    exact gset (gset (gtrans (galloc (Below.refl _ _) _) g0) (by simp) _) (by simp) _
  · show Calls _ _ _ _ fun e w' => e = .returned (.agg #[.bool true, .int .i64 1]) ∧ _
    go_enter Tryz.func137, Tryz.ntmps137
    go_wp2_with (go_at_call 73; refine (refNumber_any _ _).mono ?_; rintro e w0 ⟨rfl, g0⟩; obtain ⟨hc0, hf0⟩ := bcell g0)
    refine bodyPost_ret (v := .agg #[.bool true, .int .i64 1]) (by simp [results, Tryz.results137, go_sem, hc0]) rfl ⟨rfl, ?_⟩
    exact gset (gset (gtrans (galloc (Below.refl _ _) _) g0) (by simp) _) (by simp) _

set_option maxHeartbeats 400000 in
theorem cmp19 (a b : Int) (w : World) : Calls Tryz.prog 91 #[.int .i64 19, .agg #[.bool true, .int .i64 a], .agg #[.bool true, .int .i64 b]] w fun e w' => e = .returned (.agg #[.bool true, .int .i64 (bitOf (a == b))]) ∧ Below w.heap.size w w' := by
  go_enter Tryz.func91, Tryz.ntmps91
  go_wp2_with (first | (go_at_call 117; refine (both_any _ _ _ _ _).mono ?_; rintro e w0 ⟨rfl, g0⟩; obtain ⟨hc0, hf0⟩ := bcell g0) | (go_at_call 66; refine (truthOf_grade _ _).mono ?_; rintro e w1 ⟨rfl, rfl⟩) | (go_at_call 84; refine (val_bit _ _).mono ?_; rintro e w1 ⟨rfl, g1⟩; replace g0 := gtrans g0 g1; obtain ⟨hc1, hf1⟩ := bcell g0))
  refine bodyPost_ret (v := .agg #[.bool true, .int .i64 (bitOf (a == b))]) (by simp [results, Tryz.results91, go_sem, hc1]) rfl ⟨rfl, ?_⟩
  exact gset (gset (gtrans (galloc (galloc (galloc (Below.refl _ _) _) _) _) g0) (by simp; omega) _) (by simp; omega) _

set_option maxHeartbeats 400000 in
theorem rcmp19 (a b : Int) (w : World) : Calls Tryz.prog 114 #[.int .i64 19, .agg #[.bool true, .int .i64 a], .agg #[.bool true, .int .i64 b]] w fun e w' => e = .returned (.agg #[.bool true, .int .i64 (bitOf (a == b))]) ∧ Below w.heap.size w w' := by
  go_enter Tryz.func114, Tryz.ntmps114
  go_wp2_with (first | (go_at_call 137; refine (refTruth_any _ _).mono ?_; rintro e w0 ⟨rfl, g0⟩; obtain ⟨hc0, hf0⟩ := bcell g0) | (go_at_call 46; refine (refNothing_any _).mono ?_; rintro e w0 ⟨rfl, g0⟩; obtain ⟨hc0, hf0⟩ := bcell g0))
  refine bodyPost_ret (v := .agg #[.bool true, .int .i64 (bitOf (a == b))]) (by simp [results, Tryz.results114, go_sem, hc0]) rfl ⟨rfl, ?_⟩
  exact gset (gset (gtrans (galloc (galloc (galloc (Below.refl _ _) _) _) _) g0) (by simp; omega) _) (by simp; omega) _

set_option maxHeartbeats 400000 in
theorem cmp20 (a b : Int) (w : World) : Calls Tryz.prog 91 #[.int .i64 20, .agg #[.bool true, .int .i64 a], .agg #[.bool true, .int .i64 b]] w fun e w' => e = .returned (.agg #[.bool true, .int .i64 (bitOf (a != b))]) ∧ Below w.heap.size w w' := by
  go_enter Tryz.func91, Tryz.ntmps91
  go_wp2_with (first | (go_at_call 117; refine (both_any _ _ _ _ _).mono ?_; rintro e w0 ⟨rfl, g0⟩; obtain ⟨hc0, hf0⟩ := bcell g0) | (go_at_call 66; refine (truthOf_grade _ _).mono ?_; rintro e w1 ⟨rfl, rfl⟩) | (go_at_call 84; refine (val_bit _ _).mono ?_; rintro e w1 ⟨rfl, g1⟩; replace g0 := gtrans g0 g1; obtain ⟨hc1, hf1⟩ := bcell g0))
  refine bodyPost_ret (v := .agg #[.bool true, .int .i64 (bitOf (a != b))]) (by simp [results, Tryz.results91, go_sem, hc1]) rfl ⟨rfl, ?_⟩
  exact gset (gset (gtrans (galloc (galloc (galloc (Below.refl _ _) _) _) _) g0) (by simp; omega) _) (by simp; omega) _

set_option maxHeartbeats 400000 in
theorem rcmp20 (a b : Int) (w : World) : Calls Tryz.prog 114 #[.int .i64 20, .agg #[.bool true, .int .i64 a], .agg #[.bool true, .int .i64 b]] w fun e w' => e = .returned (.agg #[.bool true, .int .i64 (bitOf (a != b))]) ∧ Below w.heap.size w w' := by
  go_enter Tryz.func114, Tryz.ntmps114
  go_wp2_with (first | (go_at_call 137; refine (refTruth_any _ _).mono ?_; rintro e w0 ⟨rfl, g0⟩; obtain ⟨hc0, hf0⟩ := bcell g0) | (go_at_call 46; refine (refNothing_any _).mono ?_; rintro e w0 ⟨rfl, g0⟩; obtain ⟨hc0, hf0⟩ := bcell g0))
  refine bodyPost_ret (v := .agg #[.bool true, .int .i64 (bitOf (a != b))]) (by simp [results, Tryz.results114, go_sem, hc0]) rfl ⟨rfl, ?_⟩
  exact gset (gset (gtrans (galloc (galloc (galloc (Below.refl _ _) _) _) _) g0) (by simp; omega) _) (by simp; omega) _

set_option maxHeartbeats 400000 in
theorem cmp21 (a b : Int) (w : World) : Calls Tryz.prog 91 #[.int .i64 21, .agg #[.bool true, .int .i64 a], .agg #[.bool true, .int .i64 b]] w fun e w' => e = .returned (.agg #[.bool true, .int .i64 (bitOf (decide (a < b)))]) ∧ Below w.heap.size w w' := by
  go_enter Tryz.func91, Tryz.ntmps91
  go_wp2_with (first | (go_at_call 117; refine (both_any _ _ _ _ _).mono ?_; rintro e w0 ⟨rfl, g0⟩; obtain ⟨hc0, hf0⟩ := bcell g0) | (go_at_call 66; refine (truthOf_grade _ _).mono ?_; rintro e w1 ⟨rfl, rfl⟩) | (go_at_call 84; refine (val_bit _ _).mono ?_; rintro e w1 ⟨rfl, g1⟩; replace g0 := gtrans g0 g1; obtain ⟨hc1, hf1⟩ := bcell g0))
  refine bodyPost_ret (v := .agg #[.bool true, .int .i64 (bitOf (decide (a < b)))]) (by simp [results, Tryz.results91, go_sem, hc1]) rfl ⟨rfl, ?_⟩
  exact gset (gset (gtrans (galloc (galloc (galloc (Below.refl _ _) _) _) _) g0) (by simp; omega) _) (by simp; omega) _

set_option maxHeartbeats 400000 in
theorem rcmp21 (a b : Int) (w : World) : Calls Tryz.prog 114 #[.int .i64 21, .agg #[.bool true, .int .i64 a], .agg #[.bool true, .int .i64 b]] w fun e w' => e = .returned (.agg #[.bool true, .int .i64 (bitOf (decide (a < b)))]) ∧ Below w.heap.size w w' := by
  go_enter Tryz.func114, Tryz.ntmps114
  go_wp2_with (first | (go_at_call 137; refine (refTruth_any _ _).mono ?_; rintro e w0 ⟨rfl, g0⟩; obtain ⟨hc0, hf0⟩ := bcell g0) | (go_at_call 46; refine (refNothing_any _).mono ?_; rintro e w0 ⟨rfl, g0⟩; obtain ⟨hc0, hf0⟩ := bcell g0))
  refine bodyPost_ret (v := .agg #[.bool true, .int .i64 (bitOf (decide (a < b)))]) (by simp [results, Tryz.results114, go_sem, hc0]) rfl ⟨rfl, ?_⟩
  exact gset (gset (gtrans (galloc (galloc (galloc (Below.refl _ _) _) _) _) g0) (by simp; omega) _) (by simp; omega) _

set_option maxHeartbeats 400000 in
theorem cmp22 (a b : Int) (w : World) : Calls Tryz.prog 91 #[.int .i64 22, .agg #[.bool true, .int .i64 a], .agg #[.bool true, .int .i64 b]] w fun e w' => e = .returned (.agg #[.bool true, .int .i64 (bitOf (decide (a ≤ b)))]) ∧ Below w.heap.size w w' := by
  go_enter Tryz.func91, Tryz.ntmps91
  go_wp2_with (first | (go_at_call 117; refine (both_any _ _ _ _ _).mono ?_; rintro e w0 ⟨rfl, g0⟩; obtain ⟨hc0, hf0⟩ := bcell g0) | (go_at_call 66; refine (truthOf_grade _ _).mono ?_; rintro e w1 ⟨rfl, rfl⟩) | (go_at_call 84; refine (val_bit _ _).mono ?_; rintro e w1 ⟨rfl, g1⟩; replace g0 := gtrans g0 g1; obtain ⟨hc1, hf1⟩ := bcell g0))
  refine bodyPost_ret (v := .agg #[.bool true, .int .i64 (bitOf (decide (a ≤ b)))]) (by simp [results, Tryz.results91, go_sem, hc1]) rfl ⟨rfl, ?_⟩
  exact gset (gset (gtrans (galloc (galloc (galloc (Below.refl _ _) _) _) _) g0) (by simp; omega) _) (by simp; omega) _

set_option maxHeartbeats 400000 in
theorem rcmp22 (a b : Int) (w : World) : Calls Tryz.prog 114 #[.int .i64 22, .agg #[.bool true, .int .i64 a], .agg #[.bool true, .int .i64 b]] w fun e w' => e = .returned (.agg #[.bool true, .int .i64 (bitOf (decide (a ≤ b)))]) ∧ Below w.heap.size w w' := by
  go_enter Tryz.func114, Tryz.ntmps114
  go_wp2_with (first | (go_at_call 137; refine (refTruth_any _ _).mono ?_; rintro e w0 ⟨rfl, g0⟩; obtain ⟨hc0, hf0⟩ := bcell g0) | (go_at_call 46; refine (refNothing_any _).mono ?_; rintro e w0 ⟨rfl, g0⟩; obtain ⟨hc0, hf0⟩ := bcell g0))
  refine bodyPost_ret (v := .agg #[.bool true, .int .i64 (bitOf (decide (a ≤ b)))]) (by simp [results, Tryz.results114, go_sem, hc0]) rfl ⟨rfl, ?_⟩
  exact gset (gset (gtrans (galloc (galloc (galloc (Below.refl _ _) _) _) _) g0) (by simp; omega) _) (by simp; omega) _

set_option maxHeartbeats 400000 in
theorem cmp23 (a b : Int) (w : World) : Calls Tryz.prog 91 #[.int .i64 23, .agg #[.bool true, .int .i64 a], .agg #[.bool true, .int .i64 b]] w fun e w' => e = .returned (.agg #[.bool true, .int .i64 (bitOf (decide (b < a)))]) ∧ Below w.heap.size w w' := by
  go_enter Tryz.func91, Tryz.ntmps91
  go_wp2_with (first | (go_at_call 117; refine (both_any _ _ _ _ _).mono ?_; rintro e w0 ⟨rfl, g0⟩; obtain ⟨hc0, hf0⟩ := bcell g0) | (go_at_call 66; refine (truthOf_grade _ _).mono ?_; rintro e w1 ⟨rfl, rfl⟩) | (go_at_call 84; refine (val_bit _ _).mono ?_; rintro e w1 ⟨rfl, g1⟩; replace g0 := gtrans g0 g1; obtain ⟨hc1, hf1⟩ := bcell g0))
  refine bodyPost_ret (v := .agg #[.bool true, .int .i64 (bitOf (decide (b < a)))]) (by simp [results, Tryz.results91, go_sem, hc1]) rfl ⟨rfl, ?_⟩
  exact gset (gset (gtrans (galloc (galloc (galloc (Below.refl _ _) _) _) _) g0) (by simp; omega) _) (by simp; omega) _

set_option maxHeartbeats 400000 in
theorem rcmp23 (a b : Int) (w : World) : Calls Tryz.prog 114 #[.int .i64 23, .agg #[.bool true, .int .i64 a], .agg #[.bool true, .int .i64 b]] w fun e w' => e = .returned (.agg #[.bool true, .int .i64 (bitOf (decide (b < a)))]) ∧ Below w.heap.size w w' := by
  go_enter Tryz.func114, Tryz.ntmps114
  go_wp2_with (first | (go_at_call 137; refine (refTruth_any _ _).mono ?_; rintro e w0 ⟨rfl, g0⟩; obtain ⟨hc0, hf0⟩ := bcell g0) | (go_at_call 46; refine (refNothing_any _).mono ?_; rintro e w0 ⟨rfl, g0⟩; obtain ⟨hc0, hf0⟩ := bcell g0))
  refine bodyPost_ret (v := .agg #[.bool true, .int .i64 (bitOf (decide (b < a)))]) (by simp [results, Tryz.results114, go_sem, hc0]) rfl ⟨rfl, ?_⟩
  exact gset (gset (gtrans (galloc (galloc (galloc (Below.refl _ _) _) _) _) g0) (by simp; omega) _) (by simp; omega) _

set_option maxHeartbeats 400000 in
theorem cmp24 (a b : Int) (w : World) : Calls Tryz.prog 91 #[.int .i64 24, .agg #[.bool true, .int .i64 a], .agg #[.bool true, .int .i64 b]] w fun e w' => e = .returned (.agg #[.bool true, .int .i64 (bitOf (decide (b ≤ a)))]) ∧ Below w.heap.size w w' := by
  go_enter Tryz.func91, Tryz.ntmps91
  go_wp2_with (first | (go_at_call 117; refine (both_any _ _ _ _ _).mono ?_; rintro e w0 ⟨rfl, g0⟩; obtain ⟨hc0, hf0⟩ := bcell g0) | (go_at_call 66; refine (truthOf_grade _ _).mono ?_; rintro e w1 ⟨rfl, rfl⟩) | (go_at_call 84; refine (val_bit _ _).mono ?_; rintro e w1 ⟨rfl, g1⟩; replace g0 := gtrans g0 g1; obtain ⟨hc1, hf1⟩ := bcell g0))
  refine bodyPost_ret (v := .agg #[.bool true, .int .i64 (bitOf (decide (b ≤ a)))]) (by simp [results, Tryz.results91, go_sem, hc1]) rfl ⟨rfl, ?_⟩
  exact gset (gset (gtrans (galloc (galloc (galloc (Below.refl _ _) _) _) _) g0) (by simp; omega) _) (by simp; omega) _

set_option maxHeartbeats 400000 in
theorem rcmp24 (a b : Int) (w : World) : Calls Tryz.prog 114 #[.int .i64 24, .agg #[.bool true, .int .i64 a], .agg #[.bool true, .int .i64 b]] w fun e w' => e = .returned (.agg #[.bool true, .int .i64 (bitOf (decide (b ≤ a)))]) ∧ Below w.heap.size w w' := by
  go_enter Tryz.func114, Tryz.ntmps114
  go_wp2_with (first | (go_at_call 137; refine (refTruth_any _ _).mono ?_; rintro e w0 ⟨rfl, g0⟩; obtain ⟨hc0, hf0⟩ := bcell g0) | (go_at_call 46; refine (refNothing_any _).mono ?_; rintro e w0 ⟨rfl, g0⟩; obtain ⟨hc0, hf0⟩ := bcell g0))
  refine bodyPost_ret (v := .agg #[.bool true, .int .i64 (bitOf (decide (b ≤ a)))]) (by simp [results, Tryz.results114, go_sem, hc0]) rfl ⟨rfl, ?_⟩
  exact gset (gset (gtrans (galloc (galloc (galloc (Below.refl _ _) _) _) _) g0) (by simp; omega) _) (by simp; omega) _

set_option maxHeartbeats 400000 in
theorem cmp_else (op a b : Int) (w : World) (h19 : (op == 19) = false) (h20 : (op == 20) = false) (h21 : (op == 21) = false) (h22 : (op == 22) = false) (h23 : (op == 23) = false) (h24 : (op == 24) = false) : Calls Tryz.prog 91 #[.int .i64 op, .agg #[.bool true, .int .i64 a], .agg #[.bool true, .int .i64 b]] w fun e w' => e = .returned (.agg #[.bool false, .int .i64 0]) ∧ Below w.heap.size w w' := by
  go_enter Tryz.func91, Tryz.ntmps91
  go_wp2_with (first | (go_at_call 117; refine (both_any _ _ _ _ _).mono ?_; rintro e w0 ⟨rfl, g0⟩; obtain ⟨hc0, hf0⟩ := bcell g0) | (go_at_call 66; refine (truthOf_grade _ _).mono ?_; rintro e w1 ⟨rfl, rfl⟩) | (go_at_call 84; refine (val_bit _ _).mono ?_; rintro e w1 ⟨rfl, g1⟩; replace g0 := gtrans g0 g1; obtain ⟨hc1, hf1⟩ := bcell g0))
  refine bodyPost_ret (v := .agg #[.bool false, .int .i64 0]) (by simp [results, Tryz.results91, go_sem, hc0]) rfl ⟨rfl, ?_⟩
  exact gset (gset (gtrans (galloc (galloc (galloc (Below.refl _ _) _) _) _) g0) (by simp; omega) _) (by simp; omega) _

set_option maxHeartbeats 400000 in
theorem rcmp_else (op a b : Int) (w : World) (h19 : (op == 19) = false) (h20 : (op == 20) = false) (h21 : (op == 21) = false) (h22 : (op == 22) = false) (h23 : (op == 23) = false) (h24 : (op == 24) = false) : Calls Tryz.prog 114 #[.int .i64 op, .agg #[.bool true, .int .i64 a], .agg #[.bool true, .int .i64 b]] w fun e w' => e = .returned (.agg #[.bool false, .int .i64 0]) ∧ Below w.heap.size w w' := by
  go_enter Tryz.func114, Tryz.ntmps114
  go_wp2_with (first | (go_at_call 137; refine (refTruth_any _ _).mono ?_; rintro e w0 ⟨rfl, g0⟩; obtain ⟨hc0, hf0⟩ := bcell g0) | (go_at_call 46; refine (refNothing_any _).mono ?_; rintro e w0 ⟨rfl, g0⟩; obtain ⟨hc0, hf0⟩ := bcell g0))
  refine bodyPost_ret (v := .agg #[.bool false, .int .i64 0]) (by simp [results, Tryz.results114, go_sem, hc0]) rfl ⟨rfl, ?_⟩
  exact gset (gset (gtrans (galloc (galloc (galloc (Below.refl _ _) _) _) _) g0) (by simp; omega) _) (by simp; omega) _

set_option maxHeartbeats 400000 in
theorem cmp_no (op : Int) (ka kb : Bool) (a b : Int) (w : World) (h : (ka && kb) = false) : Calls Tryz.prog 91 #[.int .i64 op, .agg #[.bool ka, .int .i64 a], .agg #[.bool kb, .int .i64 b]] w fun e w' => e = .returned (.agg #[.bool false, .int .i64 0]) ∧ Below w.heap.size w w' := by
  go_enter Tryz.func91, Tryz.ntmps91
  go_wp2_with (go_at_call 117; refine (both_any _ _ _ _ _).mono ?_; rintro e w0 ⟨rfl, g0⟩; obtain ⟨hc0, hf0⟩ := bcell g0)
  refine bodyPost_ret (v := .agg #[.bool false, .int .i64 0]) (by simp [results, Tryz.results91, go_sem, hc0]) rfl ⟨rfl, ?_⟩
  exact gset (gset (gtrans (galloc (galloc (galloc (Below.refl _ _) _) _) _) g0) (by simp; omega) _) (by simp; omega) _

set_option maxHeartbeats 400000 in
theorem rcmp_no (op : Int) (ka kb : Bool) (a b : Int) (w : World) (h : (ka && kb) = false) : Calls Tryz.prog 114 #[.int .i64 op, .agg #[.bool ka, .int .i64 a], .agg #[.bool kb, .int .i64 b]] w fun e w' => e = .returned (.agg #[.bool false, .int .i64 0]) ∧ Below w.heap.size w w' := by
  cases ka <;> cases kb <;> first | (simp at h; done) | clear h
  all_goals
    go_enter Tryz.func114, Tryz.ntmps114
    go_wp2_with (go_at_call 46; refine (refNothing_any _).mono ?_; rintro e w0 ⟨rfl, g0⟩; obtain ⟨hc0, hf0⟩ := bcell g0)
    refine bodyPost_ret (v := .agg #[.bool false, .int .i64 0]) (by simp [results, Tryz.results114, go_sem, hc0]) rfl ⟨rfl, ?_⟩
    exact gset (gset (gtrans (galloc (galloc (galloc (Below.refl _ _) _) _) _) g0) (by simp; omega) _) (by simp; omega) _

theorem compare_both (op : Int) (ka kb : Bool) (a b : Int) : ∃ k n, (∀ w, Calls Tryz.prog 91 #[.int .i64 op, .agg #[.bool ka, .int .i64 a], .agg #[.bool kb, .int .i64 b]] w (fun e w' => e = .returned (.agg #[.bool k, .int .i64 n]) ∧ Below w.heap.size w w')) ∧ (∀ w, Calls Tryz.prog 114 #[.int .i64 op, .agg #[.bool ka, .int .i64 a], .agg #[.bool kb, .int .i64 b]] w (fun e w' => e = .returned (.agg #[.bool k, .int .i64 n]) ∧ Below w.heap.size w w')) := by
  cases h : (ka && kb)
  · exact ⟨_, _, fun w => cmp_no op ka kb a b w h, fun w => rcmp_no op ka kb a b w h⟩
  · simp only [Bool.and_eq_true] at h
    obtain ⟨rfl, rfl⟩ := h
    by_cases h19 : op = 19
    · subst h19; exact ⟨_, _, fun w => cmp19 a b w, fun w => rcmp19 a b w⟩
    by_cases h20 : op = 20
    · subst h20; exact ⟨_, _, fun w => cmp20 a b w, fun w => rcmp20 a b w⟩
    by_cases h21 : op = 21
    · subst h21; exact ⟨_, _, fun w => cmp21 a b w, fun w => rcmp21 a b w⟩
    by_cases h22 : op = 22
    · subst h22; exact ⟨_, _, fun w => cmp22 a b w, fun w => rcmp22 a b w⟩
    by_cases h23 : op = 23
    · subst h23; exact ⟨_, _, fun w => cmp23 a b w, fun w => rcmp23 a b w⟩
    by_cases h24 : op = 24
    · subst h24; exact ⟨_, _, fun w => cmp24 a b w, fun w => rcmp24 a b w⟩
    exact ⟨_, _, fun w => cmp_else op a b w (by simpa using h19) (by simpa using h20) (by simpa using h21) (by simpa using h22) (by simpa using h23) (by simpa using h24), fun w => rcmp_else op a b w (by simpa using h19) (by simpa using h20) (by simpa using h21) (by simpa using h22) (by simpa using h23) (by simpa using h24)⟩

set_option maxHeartbeats 400000 in
theorem apply14 {ka kb k : Bool} {a b n : Int} (c : ∀ w, Calls Tryz.prog 85 #[.agg #[.bool ka, .int .i64 a], .agg #[.bool kb, .int .i64 b]] w (fun e w' => e = .returned (.agg #[.bool k, .int .i64 n]) ∧ Below w.heap.size w w')) (w : World) : Calls Tryz.prog 57 #[.int .i64 14, .agg #[.bool ka, .int .i64 a], .agg #[.bool kb, .int .i64 b]] w fun e w' => e = .returned (.agg #[.bool k, .int .i64 n]) ∧ Below w.heap.size w w' := by
  go_enter Tryz.func57, Tryz.ntmps57
  go_wp2_with (go_at_call 85; refine (c _).mono ?_; rintro e w0 ⟨rfl, g0⟩; obtain ⟨hc0, hf0⟩ := bcell g0)
  refine bodyPost_ret (v := .agg #[.bool k, .int .i64 n]) (by simp [results, Tryz.results57, go_sem, hc0]) rfl ⟨rfl, ?_⟩
  exact gset (gset (gtrans (galloc (galloc (galloc (Below.refl _ _) _) _) _) g0) (by simp; omega) _) (by simp; omega) _

set_option maxHeartbeats 400000 in
theorem rapply14 {ka kb k : Bool} {a b n : Int} (c : ∀ w, Calls Tryz.prog 107 #[.agg #[.bool ka, .int .i64 a], .agg #[.bool kb, .int .i64 b]] w (fun e w' => e = .returned (.agg #[.bool k, .int .i64 n]) ∧ Below w.heap.size w w')) (w : World) : Calls Tryz.prog 78 #[.int .i64 14, .agg #[.bool ka, .int .i64 a], .agg #[.bool kb, .int .i64 b]] w fun e w' => e = .returned (.agg #[.bool k, .int .i64 n]) ∧ Below w.heap.size w w' := by
  go_enter Tryz.func78, Tryz.ntmps78
  go_wp2_with (go_at_call 107; refine (c _).mono ?_; rintro e w0 ⟨rfl, g0⟩; obtain ⟨hc0, hf0⟩ := bcell g0)
  refine bodyPost_ret (v := .agg #[.bool k, .int .i64 n]) (by simp [results, Tryz.results78, go_sem, hc0]) rfl ⟨rfl, ?_⟩
  exact gset (gset (gtrans (galloc (galloc (galloc (Below.refl _ _) _) _) _) g0) (by simp; omega) _) (by simp; omega) _

set_option maxHeartbeats 400000 in
theorem apply15 {ka kb k : Bool} {a b n : Int} (c : ∀ w, Calls Tryz.prog 82 #[.agg #[.bool ka, .int .i64 a], .agg #[.bool kb, .int .i64 b]] w (fun e w' => e = .returned (.agg #[.bool k, .int .i64 n]) ∧ Below w.heap.size w w')) (w : World) : Calls Tryz.prog 57 #[.int .i64 15, .agg #[.bool ka, .int .i64 a], .agg #[.bool kb, .int .i64 b]] w fun e w' => e = .returned (.agg #[.bool k, .int .i64 n]) ∧ Below w.heap.size w w' := by
  go_enter Tryz.func57, Tryz.ntmps57
  go_wp2_with (go_at_call 82; refine (c _).mono ?_; rintro e w0 ⟨rfl, g0⟩; obtain ⟨hc0, hf0⟩ := bcell g0)
  refine bodyPost_ret (v := .agg #[.bool k, .int .i64 n]) (by simp [results, Tryz.results57, go_sem, hc0]) rfl ⟨rfl, ?_⟩
  exact gset (gset (gtrans (galloc (galloc (galloc (Below.refl _ _) _) _) _) g0) (by simp; omega) _) (by simp; omega) _

set_option maxHeartbeats 400000 in
theorem rapply15 {ka kb k : Bool} {a b n : Int} (c : ∀ w, Calls Tryz.prog 108 #[.agg #[.bool ka, .int .i64 a], .agg #[.bool kb, .int .i64 b]] w (fun e w' => e = .returned (.agg #[.bool k, .int .i64 n]) ∧ Below w.heap.size w w')) (w : World) : Calls Tryz.prog 78 #[.int .i64 15, .agg #[.bool ka, .int .i64 a], .agg #[.bool kb, .int .i64 b]] w fun e w' => e = .returned (.agg #[.bool k, .int .i64 n]) ∧ Below w.heap.size w w' := by
  go_enter Tryz.func78, Tryz.ntmps78
  go_wp2_with (go_at_call 108; refine (c _).mono ?_; rintro e w0 ⟨rfl, g0⟩; obtain ⟨hc0, hf0⟩ := bcell g0)
  refine bodyPost_ret (v := .agg #[.bool k, .int .i64 n]) (by simp [results, Tryz.results78, go_sem, hc0]) rfl ⟨rfl, ?_⟩
  exact gset (gset (gtrans (galloc (galloc (galloc (Below.refl _ _) _) _) _) g0) (by simp; omega) _) (by simp; omega) _

set_option maxHeartbeats 400000 in
theorem apply16 {ka kb k : Bool} {a b n : Int} (c : ∀ w, Calls Tryz.prog 86 #[.agg #[.bool ka, .int .i64 a], .agg #[.bool kb, .int .i64 b]] w (fun e w' => e = .returned (.agg #[.bool k, .int .i64 n]) ∧ Below w.heap.size w w')) (w : World) : Calls Tryz.prog 57 #[.int .i64 16, .agg #[.bool ka, .int .i64 a], .agg #[.bool kb, .int .i64 b]] w fun e w' => e = .returned (.agg #[.bool k, .int .i64 n]) ∧ Below w.heap.size w w' := by
  go_enter Tryz.func57, Tryz.ntmps57
  go_wp2_with (go_at_call 86; refine (c _).mono ?_; rintro e w0 ⟨rfl, g0⟩; obtain ⟨hc0, hf0⟩ := bcell g0)
  refine bodyPost_ret (v := .agg #[.bool k, .int .i64 n]) (by simp [results, Tryz.results57, go_sem, hc0]) rfl ⟨rfl, ?_⟩
  exact gset (gset (gtrans (galloc (galloc (galloc (Below.refl _ _) _) _) _) g0) (by simp; omega) _) (by simp; omega) _

set_option maxHeartbeats 400000 in
theorem rapply16 {ka kb k : Bool} {a b n : Int} (c : ∀ w, Calls Tryz.prog 109 #[.agg #[.bool ka, .int .i64 a], .agg #[.bool kb, .int .i64 b]] w (fun e w' => e = .returned (.agg #[.bool k, .int .i64 n]) ∧ Below w.heap.size w w')) (w : World) : Calls Tryz.prog 78 #[.int .i64 16, .agg #[.bool ka, .int .i64 a], .agg #[.bool kb, .int .i64 b]] w fun e w' => e = .returned (.agg #[.bool k, .int .i64 n]) ∧ Below w.heap.size w w' := by
  go_enter Tryz.func78, Tryz.ntmps78
  go_wp2_with (go_at_call 109; refine (c _).mono ?_; rintro e w0 ⟨rfl, g0⟩; obtain ⟨hc0, hf0⟩ := bcell g0)
  refine bodyPost_ret (v := .agg #[.bool k, .int .i64 n]) (by simp [results, Tryz.results78, go_sem, hc0]) rfl ⟨rfl, ?_⟩
  exact gset (gset (gtrans (galloc (galloc (galloc (Below.refl _ _) _) _) _) g0) (by simp; omega) _) (by simp; omega) _

set_option maxHeartbeats 400000 in
theorem apply17 {ka kb k : Bool} {a b n : Int} (c : ∀ w, Calls Tryz.prog 87 #[.agg #[.bool ka, .int .i64 a], .agg #[.bool kb, .int .i64 b]] w (fun e w' => e = .returned (.agg #[.bool k, .int .i64 n]) ∧ Below w.heap.size w w')) (w : World) : Calls Tryz.prog 57 #[.int .i64 17, .agg #[.bool ka, .int .i64 a], .agg #[.bool kb, .int .i64 b]] w fun e w' => e = .returned (.agg #[.bool k, .int .i64 n]) ∧ Below w.heap.size w w' := by
  go_enter Tryz.func57, Tryz.ntmps57
  go_wp2_with (go_at_call 87; refine (c _).mono ?_; rintro e w0 ⟨rfl, g0⟩; obtain ⟨hc0, hf0⟩ := bcell g0)
  refine bodyPost_ret (v := .agg #[.bool k, .int .i64 n]) (by simp [results, Tryz.results57, go_sem, hc0]) rfl ⟨rfl, ?_⟩
  exact gset (gset (gtrans (galloc (galloc (galloc (Below.refl _ _) _) _) _) g0) (by simp; omega) _) (by simp; omega) _

set_option maxHeartbeats 400000 in
theorem rapply17 {ka kb k : Bool} {a b n : Int} (c : ∀ w, Calls Tryz.prog 110 #[.agg #[.bool ka, .int .i64 a], .agg #[.bool kb, .int .i64 b]] w (fun e w' => e = .returned (.agg #[.bool k, .int .i64 n]) ∧ Below w.heap.size w w')) (w : World) : Calls Tryz.prog 78 #[.int .i64 17, .agg #[.bool ka, .int .i64 a], .agg #[.bool kb, .int .i64 b]] w fun e w' => e = .returned (.agg #[.bool k, .int .i64 n]) ∧ Below w.heap.size w w' := by
  go_enter Tryz.func78, Tryz.ntmps78
  go_wp2_with (go_at_call 110; refine (c _).mono ?_; rintro e w0 ⟨rfl, g0⟩; obtain ⟨hc0, hf0⟩ := bcell g0)
  refine bodyPost_ret (v := .agg #[.bool k, .int .i64 n]) (by simp [results, Tryz.results78, go_sem, hc0]) rfl ⟨rfl, ?_⟩
  exact gset (gset (gtrans (galloc (galloc (galloc (Below.refl _ _) _) _) _) g0) (by simp; omega) _) (by simp; omega) _

set_option maxHeartbeats 400000 in
theorem apply18 {ka kb k : Bool} {a b n : Int} (c : ∀ w, Calls Tryz.prog 88 #[.agg #[.bool ka, .int .i64 a], .agg #[.bool kb, .int .i64 b]] w (fun e w' => e = .returned (.agg #[.bool k, .int .i64 n]) ∧ Below w.heap.size w w')) (w : World) : Calls Tryz.prog 57 #[.int .i64 18, .agg #[.bool ka, .int .i64 a], .agg #[.bool kb, .int .i64 b]] w fun e w' => e = .returned (.agg #[.bool k, .int .i64 n]) ∧ Below w.heap.size w w' := by
  go_enter Tryz.func57, Tryz.ntmps57
  go_wp2_with (go_at_call 88; refine (c _).mono ?_; rintro e w0 ⟨rfl, g0⟩; obtain ⟨hc0, hf0⟩ := bcell g0)
  refine bodyPost_ret (v := .agg #[.bool k, .int .i64 n]) (by simp [results, Tryz.results57, go_sem, hc0]) rfl ⟨rfl, ?_⟩
  exact gset (gset (gtrans (galloc (galloc (galloc (Below.refl _ _) _) _) _) g0) (by simp; omega) _) (by simp; omega) _

set_option maxHeartbeats 400000 in
theorem rapply18 {ka kb k : Bool} {a b n : Int} (c : ∀ w, Calls Tryz.prog 111 #[.agg #[.bool ka, .int .i64 a], .agg #[.bool kb, .int .i64 b]] w (fun e w' => e = .returned (.agg #[.bool k, .int .i64 n]) ∧ Below w.heap.size w w')) (w : World) : Calls Tryz.prog 78 #[.int .i64 18, .agg #[.bool ka, .int .i64 a], .agg #[.bool kb, .int .i64 b]] w fun e w' => e = .returned (.agg #[.bool k, .int .i64 n]) ∧ Below w.heap.size w w' := by
  go_enter Tryz.func78, Tryz.ntmps78
  go_wp2_with (go_at_call 111; refine (c _).mono ?_; rintro e w0 ⟨rfl, g0⟩; obtain ⟨hc0, hf0⟩ := bcell g0)
  refine bodyPost_ret (v := .agg #[.bool k, .int .i64 n]) (by simp [results, Tryz.results78, go_sem, hc0]) rfl ⟨rfl, ?_⟩
  exact gset (gset (gtrans (galloc (galloc (galloc (Below.refl _ _) _) _) _) g0) (by simp; omega) _) (by simp; omega) _

set_option maxHeartbeats 400000 in
theorem apply25 {ka kb k : Bool} {a b n : Int} (c : ∀ w, Tabs w → Calls Tryz.prog 89 #[.agg #[.bool ka, .int .i64 a], .agg #[.bool kb, .int .i64 b]] w (fun e w' => e = .returned (.agg #[.bool k, .int .i64 n]) ∧ Below w.heap.size w w')) (w : World) (T : Tabs w) : Calls Tryz.prog 57 #[.int .i64 25, .agg #[.bool ka, .int .i64 a], .agg #[.bool kb, .int .i64 b]] w fun e w' => e = .returned (.agg #[.bool k, .int .i64 n]) ∧ Below w.heap.size w w' := by
  go_enter Tryz.func57, Tryz.ntmps57
  go_wp2_with (go_at_call 89; refine (c _ (T.keep (galloc (galloc (galloc (Below.refl _ _) _) _) _))).mono ?_; rintro e w0 ⟨rfl, g0⟩; obtain ⟨hc0, hf0⟩ := bcell g0)
  refine bodyPost_ret (v := .agg #[.bool k, .int .i64 n]) (by simp [results, Tryz.results57, go_sem, hc0]) rfl ⟨rfl, ?_⟩
  exact gset (gset (gtrans (galloc (galloc (galloc (Below.refl _ _) _) _) _) g0) (by simp; omega) _) (by simp; omega) _

set_option maxHeartbeats 400000 in
theorem rapply25 {ka kb k : Bool} {a b n : Int} (c : ∀ w, Calls Tryz.prog 112 #[.agg #[.bool ka, .int .i64 a], .agg #[.bool kb, .int .i64 b]] w (fun e w' => e = .returned (.agg #[.bool k, .int .i64 n]) ∧ Below w.heap.size w w')) (w : World) : Calls Tryz.prog 78 #[.int .i64 25, .agg #[.bool ka, .int .i64 a], .agg #[.bool kb, .int .i64 b]] w fun e w' => e = .returned (.agg #[.bool k, .int .i64 n]) ∧ Below w.heap.size w w' := by
  go_enter Tryz.func78, Tryz.ntmps78
  go_wp2_with (go_at_call 112; refine (c _).mono ?_; rintro e w0 ⟨rfl, g0⟩; obtain ⟨hc0, hf0⟩ := bcell g0)
  refine bodyPost_ret (v := .agg #[.bool k, .int .i64 n]) (by simp [results, Tryz.results78, go_sem, hc0]) rfl ⟨rfl, ?_⟩
  exact gset (gset (gtrans (galloc (galloc (galloc (Below.refl _ _) _) _) _) g0) (by simp; omega) _) (by simp; omega) _

set_option maxHeartbeats 400000 in
theorem apply26 {ka kb k : Bool} {a b n : Int} (c : ∀ w, Tabs w → Calls Tryz.prog 90 #[.agg #[.bool ka, .int .i64 a], .agg #[.bool kb, .int .i64 b]] w (fun e w' => e = .returned (.agg #[.bool k, .int .i64 n]) ∧ Below w.heap.size w w')) (w : World) (T : Tabs w) : Calls Tryz.prog 57 #[.int .i64 26, .agg #[.bool ka, .int .i64 a], .agg #[.bool kb, .int .i64 b]] w fun e w' => e = .returned (.agg #[.bool k, .int .i64 n]) ∧ Below w.heap.size w w' := by
  go_enter Tryz.func57, Tryz.ntmps57
  go_wp2_with (go_at_call 90; refine (c _ (T.keep (galloc (galloc (galloc (Below.refl _ _) _) _) _))).mono ?_; rintro e w0 ⟨rfl, g0⟩; obtain ⟨hc0, hf0⟩ := bcell g0)
  refine bodyPost_ret (v := .agg #[.bool k, .int .i64 n]) (by simp [results, Tryz.results57, go_sem, hc0]) rfl ⟨rfl, ?_⟩
  exact gset (gset (gtrans (galloc (galloc (galloc (Below.refl _ _) _) _) _) g0) (by simp; omega) _) (by simp; omega) _

set_option maxHeartbeats 400000 in
theorem rapply26 {ka kb k : Bool} {a b n : Int} (c : ∀ w, Calls Tryz.prog 113 #[.agg #[.bool ka, .int .i64 a], .agg #[.bool kb, .int .i64 b]] w (fun e w' => e = .returned (.agg #[.bool k, .int .i64 n]) ∧ Below w.heap.size w w')) (w : World) : Calls Tryz.prog 78 #[.int .i64 26, .agg #[.bool ka, .int .i64 a], .agg #[.bool kb, .int .i64 b]] w fun e w' => e = .returned (.agg #[.bool k, .int .i64 n]) ∧ Below w.heap.size w w' := by
  go_enter Tryz.func78, Tryz.ntmps78
  go_wp2_with (go_at_call 113; refine (c _).mono ?_; rintro e w0 ⟨rfl, g0⟩; obtain ⟨hc0, hf0⟩ := bcell g0)
  refine bodyPost_ret (v := .agg #[.bool k, .int .i64 n]) (by simp [results, Tryz.results78, go_sem, hc0]) rfl ⟨rfl, ?_⟩
  exact gset (gset (gtrans (galloc (galloc (galloc (Below.refl _ _) _) _) _) g0) (by simp; omega) _) (by simp; omega) _

set_option maxHeartbeats 400000 in
theorem apply_else {op : Int} {ka kb k : Bool} {a b n : Int} (c : ∀ w, Calls Tryz.prog 91 #[.int .i64 op, .agg #[.bool ka, .int .i64 a], .agg #[.bool kb, .int .i64 b]] w (fun e w' => e = .returned (.agg #[.bool k, .int .i64 n]) ∧ Below w.heap.size w w')) (h14 : (op == 14) = false) (h15 : (op == 15) = false) (h16 : (op == 16) = false) (h17 : (op == 17) = false) (h18 : (op == 18) = false) (h25 : (op == 25) = false) (h26 : (op == 26) = false) (w : World) : Calls Tryz.prog 57 #[.int .i64 op, .agg #[.bool ka, .int .i64 a], .agg #[.bool kb, .int .i64 b]] w fun e w' => e = .returned (.agg #[.bool k, .int .i64 n]) ∧ Below w.heap.size w w' := by
  go_enter Tryz.func57, Tryz.ntmps57
  go_wp2_with (go_at_call 91; refine (c _).mono ?_; rintro e w0 ⟨rfl, g0⟩; obtain ⟨hc0, hf0⟩ := bcell g0)
  refine bodyPost_ret (v := .agg #[.bool k, .int .i64 n]) (by simp [results, Tryz.results57, go_sem, hc0]) rfl ⟨rfl, ?_⟩
  exact gset (gset (gtrans (galloc (galloc (galloc (Below.refl _ _) _) _) _) g0) (by simp; omega) _) (by simp; omega) _

set_option maxHeartbeats 400000 in
theorem rapply_else {op : Int} {ka kb k : Bool} {a b n : Int} (c : ∀ w, Calls Tryz.prog 114 #[.int .i64 op, .agg #[.bool ka, .int .i64 a], .agg #[.bool kb, .int .i64 b]] w (fun e w' => e = .returned (.agg #[.bool k, .int .i64 n]) ∧ Below w.heap.size w w')) (h14 : (op == 14) = false) (h15 : (op == 15) = false) (h16 : (op == 16) = false) (h17 : (op == 17) = false) (h18 : (op == 18) = false) (h25 : (op == 25) = false) (h26 : (op == 26) = false) (w : World) : Calls Tryz.prog 78 #[.int .i64 op, .agg #[.bool ka, .int .i64 a], .agg #[.bool kb, .int .i64 b]] w fun e w' => e = .returned (.agg #[.bool k, .int .i64 n]) ∧ Below w.heap.size w w' := by
  go_enter Tryz.func78, Tryz.ntmps78
  go_wp2_with (go_at_call 114; refine (c _).mono ?_; rintro e w0 ⟨rfl, g0⟩; obtain ⟨hc0, hf0⟩ := bcell g0)
  refine bodyPost_ret (v := .agg #[.bool k, .int .i64 n]) (by simp [results, Tryz.results78, go_sem, hc0]) rfl ⟨rfl, ?_⟩
  exact gset (gset (gtrans (galloc (galloc (galloc (Below.refl _ _) _) _) _) g0) (by simp; omega) _) (by simp; omega) _

theorem apply_both (op : Int) (ka kb : Bool) (a b : Int) (b0 : fitsB a = true) (b1 : fitsB b = true) : ∃ k n, (∀ w, Tabs w → Calls Tryz.prog 57 #[.int .i64 op, .agg #[.bool ka, .int .i64 a], .agg #[.bool kb, .int .i64 b]] w (fun e w' => e = .returned (.agg #[.bool k, .int .i64 n]) ∧ Below w.heap.size w w')) ∧ (∀ w, Calls Tryz.prog 78 #[.int .i64 op, .agg #[.bool ka, .int .i64 a], .agg #[.bool kb, .int .i64 b]] w (fun e w' => e = .returned (.agg #[.bool k, .int .i64 n]) ∧ Below w.heap.size w w')) := by
  by_cases h14 : op = 14
  · subst h14; exact ⟨_, _, fun w _ => apply14 (fun w => add_any ka kb a b w b0 b1) w, fun w => rapply14 (fun w => refAdd_any ka kb a b w b0 b1) w⟩
  by_cases h15 : op = 15
  · subst h15; exact ⟨_, _, fun w _ => apply15 (fun w => sub_any ka kb a b w b0 b1) w, fun w => rapply15 (fun w => refSub_any ka kb a b w b0 b1) w⟩
  by_cases h16 : op = 16
  · subst h16; exact ⟨_, _, fun w _ => apply16 (fun w => mul_any ka kb a b w b0 b1) w, fun w => rapply16 (fun w => refMul_any ka kb a b w b0 b1) w⟩
  by_cases h17 : op = 17
  · subst h17; exact ⟨_, _, fun w _ => apply17 (fun w => div_any ka kb a b w b0) w, fun w => rapply17 (fun w => refDiv_any ka kb a b w b0) w⟩
  by_cases h18 : op = 18
  · subst h18; exact ⟨_, _, fun w _ => apply18 (fun w => mod_any ka kb a b w b0) w, fun w => rapply18 (fun w => refMod_any ka kb a b w b0) w⟩
  by_cases h25 : op = 25
  · subst h25; exact ⟨_, _, fun w T => apply25 (fun w T => and_any ka kb a b w T) w T, fun w => rapply25 (fun w => refAnd_any ka kb a b w) w⟩
  by_cases h26 : op = 26
  · subst h26; exact ⟨_, _, fun w T => apply26 (fun w T => or_any ka kb a b w T) w T, fun w => rapply26 (fun w => refOr_any ka kb a b w) w⟩
  obtain ⟨k, n, c, d⟩ := compare_both op ka kb a b
  exact ⟨k, n, fun w _ => apply_else c (by simpa using h14) (by simpa using h15) (by simpa using h16) (by simpa using h17) (by simpa using h18) (by simpa using h25) (by simpa using h26) w, fun w => rapply_else d (by simpa using h14) (by simpa using h15) (by simpa using h16) (by simpa using h17) (by simpa using h18) (by simpa using h25) (by simpa using h26) w⟩

end Go.Proofs.YtglagbedgjkdbaaGreatDoor
namespace Go.Proofs.YtglagbedgjkdbaaGreatDoor
open Go.RowKit
set_option linter.unusedVariables false
set_option linter.unusedSimpArgs false

abbrev V2 := Bool × Int
def cmpV (op : Int) (x y : V2) : V2 :=
  if (x.1 && y.1) = false then (false, 0) else if op = 19 then (true, bitOf (x.2 == y.2)) else if op = 20 then (true, bitOf (x.2 != y.2)) else if op = 21 then (true, bitOf (decide (x.2 < y.2)))
  else if op = 22 then (true, bitOf (decide (x.2 ≤ y.2))) else if op = 23 then (true, bitOf (decide (y.2 < x.2))) else if op = 24 then (true, bitOf (decide (y.2 ≤ x.2))) else (false, 0)
def applyV (op : Int) (x y : V2) : V2 :=
  if op = 14 then (opK x.1 y.1 (x.2 + y.2), opN x.1 y.1 (x.2 + y.2)) else if op = 15 then (opK x.1 y.1 (x.2 - y.2), opN x.1 y.1 (x.2 - y.2)) else if op = 16 then (opK x.1 y.1 (x.2 * y.2), opN x.1 y.1 (x.2 * y.2))
  else if op = 17 then (opK x.1 (y.1 && !(y.2 == 0)) (x.2.tdiv y.2), opN x.1 (y.1 && !(y.2 == 0)) (x.2.tdiv y.2)) else if op = 18 then (opK x.1 (y.1 && !(y.2 == 0)) (x.2.tmod y.2), opN x.1 (y.1 && !(y.2 == 0)) (x.2.tmod y.2))
  else if op = 25 then (vK (minI (rd x.1 x.2) (rd y.1 y.2)), vN (minI (rd x.1 x.2) (rd y.1 y.2))) else if op = 26 then (vK (maxI (rd x.1 x.2) (rd y.1 y.2)), vN (maxI (rd x.1 x.2) (rd y.1 y.2)))
  else cmpV op x y
abbrev VA (x : V2) : Value := .agg #[.bool x.1, .int .i64 x.2]

theorem bit_fits (b : Bool) : fitsB (bitOf b) = true := by cases b <;> decide
theorem cmpV_fits (op : Int) (x y : V2) : fitsB (cmpV op x y).2 = true := by
  unfold cmpV
  repeat' split
  all_goals first | exact bit_fits _ | decide
theorem vN_fits (t : Int) : fitsB (vN t) = true := by unfold vN; split <;> decide
theorem applyV_fits (op : Int) (x y : V2) : fitsB (applyV op x y).2 = true := by
  unfold applyV
  repeat' split
  all_goals first | exact opN_fits _ _ _ | exact vN_fits _ | exact cmpV_fits _ _ _

theorem compare_is (op : Int) (x y : V2) : (∀ w, Calls Tryz.prog 91 #[.int .i64 op, VA x, VA y] w (fun e w' => e = .returned (VA (cmpV op x y)) ∧ Below w.heap.size w w')) ∧ (∀ w, Calls Tryz.prog 114 #[.int .i64 op, VA x, VA y] w (fun e w' => e = .returned (VA (cmpV op x y)) ∧ Below w.heap.size w w')) := by
  obtain ⟨ka, a⟩ := x
  obtain ⟨kb, b⟩ := y
  unfold cmpV
  cases h : (ka && kb)
  · rw [if_pos rfl]
    exact ⟨fun w => cmp_no op ka kb a b w h, fun w => rcmp_no op ka kb a b w h⟩
  · rw [if_neg (by decide)]
    simp only [Bool.and_eq_true] at h
    obtain ⟨rfl, rfl⟩ := h
    by_cases h19 : op = 19
    · subst h19; exact ⟨fun w => cmp19 a b w, fun w => rcmp19 a b w⟩
    rw [if_neg h19]
    by_cases h20 : op = 20
    · subst h20; exact ⟨fun w => cmp20 a b w, fun w => rcmp20 a b w⟩
    rw [if_neg h20]
    by_cases h21 : op = 21
    · subst h21; exact ⟨fun w => cmp21 a b w, fun w => rcmp21 a b w⟩
    rw [if_neg h21]
    by_cases h22 : op = 22
    · subst h22; exact ⟨fun w => cmp22 a b w, fun w => rcmp22 a b w⟩
    rw [if_neg h22]
    by_cases h23 : op = 23
    · subst h23; exact ⟨fun w => cmp23 a b w, fun w => rcmp23 a b w⟩
    rw [if_neg h23]
    by_cases h24 : op = 24
    · subst h24; exact ⟨fun w => cmp24 a b w, fun w => rcmp24 a b w⟩
    rw [if_neg h24]
    exact ⟨fun w => cmp_else op a b w (by simpa using h19) (by simpa using h20) (by simpa using h21) (by simpa using h22) (by simpa using h23) (by simpa using h24), fun w => rcmp_else op a b w (by simpa using h19) (by simpa using h20) (by simpa using h21) (by simpa using h22) (by simpa using h23) (by simpa using h24)⟩

theorem apply_is (op : Int) (x y : V2) (b0 : fitsB x.2 = true) (b1 : fitsB y.2 = true) : (∀ w, Tabs w → Calls Tryz.prog 57 #[.int .i64 op, VA x, VA y] w (fun e w' => e = .returned (VA (applyV op x y)) ∧ Below w.heap.size w w')) ∧ (∀ w, Calls Tryz.prog 78 #[.int .i64 op, VA x, VA y] w (fun e w' => e = .returned (VA (applyV op x y)) ∧ Below w.heap.size w w')) := by
  obtain ⟨ka, a⟩ := x
  obtain ⟨kb, b⟩ := y
  unfold applyV
  by_cases h14 : op = 14
  · subst h14; exact ⟨fun w _ => apply14 (fun w => add_any ka kb a b w b0 b1) w, fun w => rapply14 (fun w => refAdd_any ka kb a b w b0 b1) w⟩
  rw [if_neg h14]
  by_cases h15 : op = 15
  · subst h15; exact ⟨fun w _ => apply15 (fun w => sub_any ka kb a b w b0 b1) w, fun w => rapply15 (fun w => refSub_any ka kb a b w b0 b1) w⟩
  rw [if_neg h15]
  by_cases h16 : op = 16
  · subst h16; exact ⟨fun w _ => apply16 (fun w => mul_any ka kb a b w b0 b1) w, fun w => rapply16 (fun w => refMul_any ka kb a b w b0 b1) w⟩
  rw [if_neg h16]
  by_cases h17 : op = 17
  · subst h17; exact ⟨fun w _ => apply17 (fun w => div_any ka kb a b w b0) w, fun w => rapply17 (fun w => refDiv_any ka kb a b w b0) w⟩
  rw [if_neg h17]
  by_cases h18 : op = 18
  · subst h18; exact ⟨fun w _ => apply18 (fun w => mod_any ka kb a b w b0) w, fun w => rapply18 (fun w => refMod_any ka kb a b w b0) w⟩
  rw [if_neg h18]
  by_cases h25 : op = 25
  · subst h25; exact ⟨fun w T => apply25 (fun w T => and_any ka kb a b w T) w T, fun w => rapply25 (fun w => refAnd_any ka kb a b w) w⟩
  rw [if_neg h25]
  by_cases h26 : op = 26
  · subst h26; exact ⟨fun w T => apply26 (fun w T => or_any ka kb a b w T) w T, fun w => rapply26 (fun w => refOr_any ka kb a b w) w⟩
  rw [if_neg h26]
  obtain ⟨c, d⟩ := compare_is op (ka, a) (kb, b)
  exact ⟨fun w _ => apply_else c (by simpa using h14) (by simpa using h15) (by simpa using h16) (by simpa using h17) (by simpa using h18) (by simpa using h25) (by simpa using h26) w, fun w => rapply_else d (by simpa using h14) (by simpa using h15) (by simpa using h16) (by simpa using h17) (by simpa using h18) (by simpa using h25) (by simpa using h26) w⟩

end Go.Proofs.YtglagbedgjkdbaaGreatDoor
