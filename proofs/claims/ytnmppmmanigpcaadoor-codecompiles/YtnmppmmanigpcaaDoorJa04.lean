/- Compare and Apply, num's and the document's, by every operator and by what is none: they come to the same. And what goes with it: 5 texts in one. -/
import Derived.Test.YtnmppmmanigpcaaDoorJa03
import Derived.WideShapes
import Derived.Laws.OwnMore
import Derived.WalkKit
namespace Go.Proofs.YtnmppmmanigpcaaDoor
open Go.RowKit
set_option linter.unusedVariables false

def gradeOf (b : Bool) : Int := if b = true then 2 else 0
def bitOf (b : Bool) : Int := if b = true then 1 else 0
theorem truthOf_grade (b : Bool) (w : World) :
    Calls Tryd.prog 93 #[.bool b] w fun e w' => e = .returned (.int .i64 (gradeOf b)) ∧ w = w' := truthOf_any b w
theorem val_bit (b : Bool) (w : World) :
    Calls Tryd.prog 68 #[.int .i64 (gradeOf b)] w fun e w' => e = .returned (.agg #[.bool true, .int .i64 (bitOf b)]) ∧ Below w.heap.size w w' := by
  cases b
  · exact val_any 0 w (by omega)
  · exact val_any 2 w (by omega)

set_option maxHeartbeats 400000 in
theorem cmp19 (a b : Int) (w : World) : Calls Tryd.prog 75 #[.int .i64 19, .agg #[.bool true, .int .i64 a], .agg #[.bool true, .int .i64 b]] w fun e w' => e = .returned (.agg #[.bool true, .int .i64 (bitOf (a == b))]) ∧ Below w.heap.size w w' := by
  go_enter Tryd.func75, Tryd.ntmps75
  go_wp2_with (first | (go_at_call 89; refine (both_any _ _ _ _ _).mono ?_; rintro e w0 ⟨rfl, g0⟩; obtain ⟨hc0, hf0⟩ := bcell g0) | (go_at_call 93; refine (truthOf_grade _ _).mono ?_; rintro e w1 ⟨rfl, rfl⟩) | (go_at_call 68; refine (val_bit _ _).mono ?_; rintro e w1 ⟨rfl, g1⟩; replace g0 := gtrans g0 g1; obtain ⟨hc1, hf1⟩ := bcell g0))
  refine bodyPost_ret (v := .agg #[.bool true, .int .i64 (bitOf (a == b))]) (by simp [results, Tryd.results75, go_sem, hc1]) rfl ⟨rfl, ?_⟩
  exact gset (gset (gtrans (galloc (galloc (galloc (Below.refl _ _) _) _) _) g0) (by simp; omega) _) (by simp; omega) _

set_option maxHeartbeats 400000 in
theorem cmp20 (a b : Int) (w : World) : Calls Tryd.prog 75 #[.int .i64 20, .agg #[.bool true, .int .i64 a], .agg #[.bool true, .int .i64 b]] w fun e w' => e = .returned (.agg #[.bool true, .int .i64 (bitOf (a != b))]) ∧ Below w.heap.size w w' := by
  go_enter Tryd.func75, Tryd.ntmps75
  go_wp2_with (first | (go_at_call 89; refine (both_any _ _ _ _ _).mono ?_; rintro e w0 ⟨rfl, g0⟩; obtain ⟨hc0, hf0⟩ := bcell g0) | (go_at_call 93; refine (truthOf_grade _ _).mono ?_; rintro e w1 ⟨rfl, rfl⟩) | (go_at_call 68; refine (val_bit _ _).mono ?_; rintro e w1 ⟨rfl, g1⟩; replace g0 := gtrans g0 g1; obtain ⟨hc1, hf1⟩ := bcell g0))
  refine bodyPost_ret (v := .agg #[.bool true, .int .i64 (bitOf (a != b))]) (by simp [results, Tryd.results75, go_sem, hc1]) rfl ⟨rfl, ?_⟩
  exact gset (gset (gtrans (galloc (galloc (galloc (Below.refl _ _) _) _) _) g0) (by simp; omega) _) (by simp; omega) _

set_option maxHeartbeats 400000 in
theorem cmp21 (a b : Int) (w : World) : Calls Tryd.prog 75 #[.int .i64 21, .agg #[.bool true, .int .i64 a], .agg #[.bool true, .int .i64 b]] w fun e w' => e = .returned (.agg #[.bool true, .int .i64 (bitOf (decide (a < b)))]) ∧ Below w.heap.size w w' := by
  go_enter Tryd.func75, Tryd.ntmps75
  go_wp2_with (first | (go_at_call 89; refine (both_any _ _ _ _ _).mono ?_; rintro e w0 ⟨rfl, g0⟩; obtain ⟨hc0, hf0⟩ := bcell g0) | (go_at_call 93; refine (truthOf_grade _ _).mono ?_; rintro e w1 ⟨rfl, rfl⟩) | (go_at_call 68; refine (val_bit _ _).mono ?_; rintro e w1 ⟨rfl, g1⟩; replace g0 := gtrans g0 g1; obtain ⟨hc1, hf1⟩ := bcell g0))
  refine bodyPost_ret (v := .agg #[.bool true, .int .i64 (bitOf (decide (a < b)))]) (by simp [results, Tryd.results75, go_sem, hc1]) rfl ⟨rfl, ?_⟩
  exact gset (gset (gtrans (galloc (galloc (galloc (Below.refl _ _) _) _) _) g0) (by simp; omega) _) (by simp; omega) _

set_option maxHeartbeats 400000 in
theorem cmp22 (a b : Int) (w : World) : Calls Tryd.prog 75 #[.int .i64 22, .agg #[.bool true, .int .i64 a], .agg #[.bool true, .int .i64 b]] w fun e w' => e = .returned (.agg #[.bool true, .int .i64 (bitOf (decide (a ≤ b)))]) ∧ Below w.heap.size w w' := by
  go_enter Tryd.func75, Tryd.ntmps75
  go_wp2_with (first | (go_at_call 89; refine (both_any _ _ _ _ _).mono ?_; rintro e w0 ⟨rfl, g0⟩; obtain ⟨hc0, hf0⟩ := bcell g0) | (go_at_call 93; refine (truthOf_grade _ _).mono ?_; rintro e w1 ⟨rfl, rfl⟩) | (go_at_call 68; refine (val_bit _ _).mono ?_; rintro e w1 ⟨rfl, g1⟩; replace g0 := gtrans g0 g1; obtain ⟨hc1, hf1⟩ := bcell g0))
  refine bodyPost_ret (v := .agg #[.bool true, .int .i64 (bitOf (decide (a ≤ b)))]) (by simp [results, Tryd.results75, go_sem, hc1]) rfl ⟨rfl, ?_⟩
  exact gset (gset (gtrans (galloc (galloc (galloc (Below.refl _ _) _) _) _) g0) (by simp; omega) _) (by simp; omega) _

set_option maxHeartbeats 400000 in
theorem cmp23 (a b : Int) (w : World) : Calls Tryd.prog 75 #[.int .i64 23, .agg #[.bool true, .int .i64 a], .agg #[.bool true, .int .i64 b]] w fun e w' => e = .returned (.agg #[.bool true, .int .i64 (bitOf (decide (b < a)))]) ∧ Below w.heap.size w w' := by
  go_enter Tryd.func75, Tryd.ntmps75
  go_wp2_with (first | (go_at_call 89; refine (both_any _ _ _ _ _).mono ?_; rintro e w0 ⟨rfl, g0⟩; obtain ⟨hc0, hf0⟩ := bcell g0) | (go_at_call 93; refine (truthOf_grade _ _).mono ?_; rintro e w1 ⟨rfl, rfl⟩) | (go_at_call 68; refine (val_bit _ _).mono ?_; rintro e w1 ⟨rfl, g1⟩; replace g0 := gtrans g0 g1; obtain ⟨hc1, hf1⟩ := bcell g0))
  refine bodyPost_ret (v := .agg #[.bool true, .int .i64 (bitOf (decide (b < a)))]) (by simp [results, Tryd.results75, go_sem, hc1]) rfl ⟨rfl, ?_⟩
  exact gset (gset (gtrans (galloc (galloc (galloc (Below.refl _ _) _) _) _) g0) (by simp; omega) _) (by simp; omega) _

set_option maxHeartbeats 400000 in
theorem cmp24 (a b : Int) (w : World) : Calls Tryd.prog 75 #[.int .i64 24, .agg #[.bool true, .int .i64 a], .agg #[.bool true, .int .i64 b]] w fun e w' => e = .returned (.agg #[.bool true, .int .i64 (bitOf (decide (b ≤ a)))]) ∧ Below w.heap.size w w' := by
  go_enter Tryd.func75, Tryd.ntmps75
  go_wp2_with (first | (go_at_call 89; refine (both_any _ _ _ _ _).mono ?_; rintro e w0 ⟨rfl, g0⟩; obtain ⟨hc0, hf0⟩ := bcell g0) | (go_at_call 93; refine (truthOf_grade _ _).mono ?_; rintro e w1 ⟨rfl, rfl⟩) | (go_at_call 68; refine (val_bit _ _).mono ?_; rintro e w1 ⟨rfl, g1⟩; replace g0 := gtrans g0 g1; obtain ⟨hc1, hf1⟩ := bcell g0))
  refine bodyPost_ret (v := .agg #[.bool true, .int .i64 (bitOf (decide (b ≤ a)))]) (by simp [results, Tryd.results75, go_sem, hc1]) rfl ⟨rfl, ?_⟩
  exact gset (gset (gtrans (galloc (galloc (galloc (Below.refl _ _) _) _) _) g0) (by simp; omega) _) (by simp; omega) _

set_option maxHeartbeats 400000 in
theorem cmp_else (op a b : Int) (w : World) (h19 : (op == 19) = false) (h20 : (op == 20) = false) (h21 : (op == 21) = false) (h22 : (op == 22) = false) (h23 : (op == 23) = false) (h24 : (op == 24) = false) : Calls Tryd.prog 75 #[.int .i64 op, .agg #[.bool true, .int .i64 a], .agg #[.bool true, .int .i64 b]] w fun e w' => e = .returned (.agg #[.bool false, .int .i64 0]) ∧ Below w.heap.size w w' := by
  go_enter Tryd.func75, Tryd.ntmps75
  go_wp2_with (first | (go_at_call 89; refine (both_any _ _ _ _ _).mono ?_; rintro e w0 ⟨rfl, g0⟩; obtain ⟨hc0, hf0⟩ := bcell g0) | (go_at_call 93; refine (truthOf_grade _ _).mono ?_; rintro e w1 ⟨rfl, rfl⟩) | (go_at_call 68; refine (val_bit _ _).mono ?_; rintro e w1 ⟨rfl, g1⟩; replace g0 := gtrans g0 g1; obtain ⟨hc1, hf1⟩ := bcell g0))
  refine bodyPost_ret (v := .agg #[.bool false, .int .i64 0]) (by simp [results, Tryd.results75, go_sem, hc0]) rfl ⟨rfl, ?_⟩
  exact gset (gset (gtrans (galloc (galloc (galloc (Below.refl _ _) _) _) _) g0) (by simp; omega) _) (by simp; omega) _

set_option maxHeartbeats 400000 in
theorem cmp_no (op : Int) (ka kb : Bool) (a b : Int) (w : World) (h : (ka && kb) = false) : Calls Tryd.prog 75 #[.int .i64 op, .agg #[.bool ka, .int .i64 a], .agg #[.bool kb, .int .i64 b]] w fun e w' => e = .returned (.agg #[.bool false, .int .i64 0]) ∧ Below w.heap.size w w' := by
  go_enter Tryd.func75, Tryd.ntmps75
  go_wp2_with (go_at_call 89; refine (both_any _ _ _ _ _).mono ?_; rintro e w0 ⟨rfl, g0⟩; obtain ⟨hc0, hf0⟩ := bcell g0)
  refine bodyPost_ret (v := .agg #[.bool false, .int .i64 0]) (by simp [results, Tryd.results75, go_sem, hc0]) rfl ⟨rfl, ?_⟩
  exact gset (gset (gtrans (galloc (galloc (galloc (Below.refl _ _) _) _) _) g0) (by simp; omega) _) (by simp; omega) _

set_option maxHeartbeats 400000 in
theorem apply14 {ka kb k : Bool} {a b n : Int} (c : ∀ w, Calls Tryd.prog 69 #[.agg #[.bool ka, .int .i64 a], .agg #[.bool kb, .int .i64 b]] w (fun e w' => e = .returned (.agg #[.bool k, .int .i64 n]) ∧ Below w.heap.size w w')) (w : World) : Calls Tryd.prog 46 #[.int .i64 14, .agg #[.bool ka, .int .i64 a], .agg #[.bool kb, .int .i64 b]] w fun e w' => e = .returned (.agg #[.bool k, .int .i64 n]) ∧ Below w.heap.size w w' := by
  go_enter Tryd.func46, Tryd.ntmps46
  go_wp2_with (go_at_call 69; refine (c _).mono ?_; rintro e w0 ⟨rfl, g0⟩; obtain ⟨hc0, hf0⟩ := bcell g0)
  refine bodyPost_ret (v := .agg #[.bool k, .int .i64 n]) (by simp [results, Tryd.results46, go_sem, hc0]) rfl ⟨rfl, ?_⟩
  exact gset (gset (gtrans (galloc (galloc (galloc (Below.refl _ _) _) _) _) g0) (by simp; omega) _) (by simp; omega) _

set_option maxHeartbeats 400000 in
theorem apply15 {ka kb k : Bool} {a b n : Int} (c : ∀ w, Calls Tryd.prog 65 #[.agg #[.bool ka, .int .i64 a], .agg #[.bool kb, .int .i64 b]] w (fun e w' => e = .returned (.agg #[.bool k, .int .i64 n]) ∧ Below w.heap.size w w')) (w : World) : Calls Tryd.prog 46 #[.int .i64 15, .agg #[.bool ka, .int .i64 a], .agg #[.bool kb, .int .i64 b]] w fun e w' => e = .returned (.agg #[.bool k, .int .i64 n]) ∧ Below w.heap.size w w' := by
  go_enter Tryd.func46, Tryd.ntmps46
  go_wp2_with (go_at_call 65; refine (c _).mono ?_; rintro e w0 ⟨rfl, g0⟩; obtain ⟨hc0, hf0⟩ := bcell g0)
  refine bodyPost_ret (v := .agg #[.bool k, .int .i64 n]) (by simp [results, Tryd.results46, go_sem, hc0]) rfl ⟨rfl, ?_⟩
  exact gset (gset (gtrans (galloc (galloc (galloc (Below.refl _ _) _) _) _) g0) (by simp; omega) _) (by simp; omega) _

set_option maxHeartbeats 400000 in
theorem apply16 {ka kb k : Bool} {a b n : Int} (c : ∀ w, Calls Tryd.prog 70 #[.agg #[.bool ka, .int .i64 a], .agg #[.bool kb, .int .i64 b]] w (fun e w' => e = .returned (.agg #[.bool k, .int .i64 n]) ∧ Below w.heap.size w w')) (w : World) : Calls Tryd.prog 46 #[.int .i64 16, .agg #[.bool ka, .int .i64 a], .agg #[.bool kb, .int .i64 b]] w fun e w' => e = .returned (.agg #[.bool k, .int .i64 n]) ∧ Below w.heap.size w w' := by
  go_enter Tryd.func46, Tryd.ntmps46
  go_wp2_with (go_at_call 70; refine (c _).mono ?_; rintro e w0 ⟨rfl, g0⟩; obtain ⟨hc0, hf0⟩ := bcell g0)
  refine bodyPost_ret (v := .agg #[.bool k, .int .i64 n]) (by simp [results, Tryd.results46, go_sem, hc0]) rfl ⟨rfl, ?_⟩
  exact gset (gset (gtrans (galloc (galloc (galloc (Below.refl _ _) _) _) _) g0) (by simp; omega) _) (by simp; omega) _

set_option maxHeartbeats 400000 in
theorem apply17 {ka kb k : Bool} {a b n : Int} (c : ∀ w, Calls Tryd.prog 71 #[.agg #[.bool ka, .int .i64 a], .agg #[.bool kb, .int .i64 b]] w (fun e w' => e = .returned (.agg #[.bool k, .int .i64 n]) ∧ Below w.heap.size w w')) (w : World) : Calls Tryd.prog 46 #[.int .i64 17, .agg #[.bool ka, .int .i64 a], .agg #[.bool kb, .int .i64 b]] w fun e w' => e = .returned (.agg #[.bool k, .int .i64 n]) ∧ Below w.heap.size w w' := by
  go_enter Tryd.func46, Tryd.ntmps46
  go_wp2_with (go_at_call 71; refine (c _).mono ?_; rintro e w0 ⟨rfl, g0⟩; obtain ⟨hc0, hf0⟩ := bcell g0)
  refine bodyPost_ret (v := .agg #[.bool k, .int .i64 n]) (by simp [results, Tryd.results46, go_sem, hc0]) rfl ⟨rfl, ?_⟩
  exact gset (gset (gtrans (galloc (galloc (galloc (Below.refl _ _) _) _) _) g0) (by simp; omega) _) (by simp; omega) _

set_option maxHeartbeats 400000 in
theorem apply18 {ka kb k : Bool} {a b n : Int} (c : ∀ w, Calls Tryd.prog 72 #[.agg #[.bool ka, .int .i64 a], .agg #[.bool kb, .int .i64 b]] w (fun e w' => e = .returned (.agg #[.bool k, .int .i64 n]) ∧ Below w.heap.size w w')) (w : World) : Calls Tryd.prog 46 #[.int .i64 18, .agg #[.bool ka, .int .i64 a], .agg #[.bool kb, .int .i64 b]] w fun e w' => e = .returned (.agg #[.bool k, .int .i64 n]) ∧ Below w.heap.size w w' := by
  go_enter Tryd.func46, Tryd.ntmps46
  go_wp2_with (go_at_call 72; refine (c _).mono ?_; rintro e w0 ⟨rfl, g0⟩; obtain ⟨hc0, hf0⟩ := bcell g0)
  refine bodyPost_ret (v := .agg #[.bool k, .int .i64 n]) (by simp [results, Tryd.results46, go_sem, hc0]) rfl ⟨rfl, ?_⟩
  exact gset (gset (gtrans (galloc (galloc (galloc (Below.refl _ _) _) _) _) g0) (by simp; omega) _) (by simp; omega) _

set_option maxHeartbeats 400000 in
theorem apply25 {ka kb k : Bool} {a b n : Int} (c : ∀ w, Tabs w → Calls Tryd.prog 73 #[.agg #[.bool ka, .int .i64 a], .agg #[.bool kb, .int .i64 b]] w (fun e w' => e = .returned (.agg #[.bool k, .int .i64 n]) ∧ Below w.heap.size w w')) (w : World) (T : Tabs w) : Calls Tryd.prog 46 #[.int .i64 25, .agg #[.bool ka, .int .i64 a], .agg #[.bool kb, .int .i64 b]] w fun e w' => e = .returned (.agg #[.bool k, .int .i64 n]) ∧ Below w.heap.size w w' := by
  go_enter Tryd.func46, Tryd.ntmps46
  go_wp2_with (go_at_call 73; refine (c _ (T.keep (galloc (galloc (galloc (Below.refl _ _) _) _) _))).mono ?_; rintro e w0 ⟨rfl, g0⟩; obtain ⟨hc0, hf0⟩ := bcell g0)
  refine bodyPost_ret (v := .agg #[.bool k, .int .i64 n]) (by simp [results, Tryd.results46, go_sem, hc0]) rfl ⟨rfl, ?_⟩
  exact gset (gset (gtrans (galloc (galloc (galloc (Below.refl _ _) _) _) _) g0) (by simp; omega) _) (by simp; omega) _

set_option maxHeartbeats 400000 in
theorem apply26 {ka kb k : Bool} {a b n : Int} (c : ∀ w, Tabs w → Calls Tryd.prog 74 #[.agg #[.bool ka, .int .i64 a], .agg #[.bool kb, .int .i64 b]] w (fun e w' => e = .returned (.agg #[.bool k, .int .i64 n]) ∧ Below w.heap.size w w')) (w : World) (T : Tabs w) : Calls Tryd.prog 46 #[.int .i64 26, .agg #[.bool ka, .int .i64 a], .agg #[.bool kb, .int .i64 b]] w fun e w' => e = .returned (.agg #[.bool k, .int .i64 n]) ∧ Below w.heap.size w w' := by
  go_enter Tryd.func46, Tryd.ntmps46
  go_wp2_with (go_at_call 74; refine (c _ (T.keep (galloc (galloc (galloc (Below.refl _ _) _) _) _))).mono ?_; rintro e w0 ⟨rfl, g0⟩; obtain ⟨hc0, hf0⟩ := bcell g0)
  refine bodyPost_ret (v := .agg #[.bool k, .int .i64 n]) (by simp [results, Tryd.results46, go_sem, hc0]) rfl ⟨rfl, ?_⟩
  exact gset (gset (gtrans (galloc (galloc (galloc (Below.refl _ _) _) _) _) g0) (by simp; omega) _) (by simp; omega) _

set_option maxHeartbeats 400000 in
theorem apply_else {op : Int} {ka kb k : Bool} {a b n : Int} (c : ∀ w, Calls Tryd.prog 75 #[.int .i64 op, .agg #[.bool ka, .int .i64 a], .agg #[.bool kb, .int .i64 b]] w (fun e w' => e = .returned (.agg #[.bool k, .int .i64 n]) ∧ Below w.heap.size w w')) (h14 : (op == 14) = false) (h15 : (op == 15) = false) (h16 : (op == 16) = false) (h17 : (op == 17) = false) (h18 : (op == 18) = false) (h25 : (op == 25) = false) (h26 : (op == 26) = false) (w : World) : Calls Tryd.prog 46 #[.int .i64 op, .agg #[.bool ka, .int .i64 a], .agg #[.bool kb, .int .i64 b]] w fun e w' => e = .returned (.agg #[.bool k, .int .i64 n]) ∧ Below w.heap.size w w' := by
  go_enter Tryd.func46, Tryd.ntmps46
  go_wp2_with (go_at_call 75; refine (c _).mono ?_; rintro e w0 ⟨rfl, g0⟩; obtain ⟨hc0, hf0⟩ := bcell g0)
  refine bodyPost_ret (v := .agg #[.bool k, .int .i64 n]) (by simp [results, Tryd.results46, go_sem, hc0]) rfl ⟨rfl, ?_⟩
  exact gset (gset (gtrans (galloc (galloc (galloc (Below.refl _ _) _) _) _) g0) (by simp; omega) _) (by simp; omega) _

end Go.Proofs.YtnmppmmanigpcaaDoor
namespace Go.Proofs.YtnmppmmanigpcaaDoor
open Go.RowKit
set_option linter.unusedVariables false
set_option linter.unusedSimpArgs false

abbrev V2 := Bool × Int
def cmpV (op : Int) (x y : V2) : V2 :=
  if (x.1 && y.1) = false then (false, 0) else if op = 19 then (true, bitOf (x.2 == y.2)) else if op = 20 then (true, bitOf (x.2 != y.2)) else if op = 21 then (true, bitOf (decide (x.2 < y.2)))
  else if op = 22 then (true, bitOf (decide (x.2 ≤ y.2))) else if op = 23 then (true, bitOf (decide (y.2 < x.2))) else if op = 24 then (true, bitOf (decide (y.2 ≤ x.2))) else (false, 0)
def applyV (op : Int) (x y : V2) : V2 :=
  if op = 14 then (opK x.1 y.1 (x.2 + y.2), opN x.1 y.1 (x.2 + y.2)) else if op = 15 then (opK x.1 y.1 (x.2 - y.2), opN x.1 y.1 (x.2 - y.2)) else if op = 16 then (opK x.1 y.1 (x.2 * y.2), opN x.1 y.1 (x.2 * y.2))
  else if op = 17 then (opK x.1 (y.1 && !(y.2 == 0)) (x.2.tdiv y.2), opN x.1 (y.1 && !(y.2 == 0)) (x.2.tdiv y.2)) else if op = 18 then (opK x.1 (y.1 && !(y.2 == 0)) (x.2.tmod y.2), opN x.1 (y.1 && !(y.2 == 0)) (x.2.tmod y.2))
  else if op = 25 then (vK (minI (rd x.1 x.2) (rd y.1 y.2)), vN (minI (rd x.1 x.2) (rd y.1 y.2))) else if op = 26 then (vK (maxI (rd x.1 x.2) (rd y.1 y.2)), vN (maxI (rd x.1 x.2) (rd y.1 y.2)))
  else cmpV op x y
abbrev VA (x : V2) : Value := .agg #[.bool x.1, .int .i64 x.2]

theorem bit_fits (b : Bool) : fitsB (bitOf b) = true := by cases b <;> decide
theorem cmpV_fits (op : Int) (x y : V2) : fitsB (cmpV op x y).2 = true := by
  unfold cmpV
  repeat' split
  all_goals first | exact bit_fits _ | decide
theorem vN_fits (t : Int) : fitsB (vN t) = true := by unfold vN; split <;> decide
theorem applyV_fits (op : Int) (x y : V2) : fitsB (applyV op x y).2 = true := by
  unfold applyV
  repeat' split
  all_goals first | exact opN_fits _ _ _ | exact vN_fits _ | exact cmpV_fits _ _ _

end Go.Proofs.YtnmppmmanigpcaaDoor
namespace Go.Proofs.YtnmppmmanigpcaaDoor
open Go.RowKit
set_option linter.unusedVariables false

/-- The slice that begins at ao with len elements holds the numbers zs. -/
def IsRow (w : World) (ao : Option Addr) (len : Nat) (zs : List Int) : Prop :=
  zs.length = len ∧ len ≤ 9223372036854775807 ∧ (∀ j, fitsB (zs.getD j 0) = true) ∧
    (len = 0 ∨ ∃ b off, ao = some ⟨b, off, none⟩ ∧ b < w.heap.size ∧ ∀ j, j < len → w.cell? ⟨b, off + j, none⟩ = some (.int .i64 (zs.getD j 0)))

theorem IsRow.keep {w u : World} {ao : Option Addr} {len : Nat} {zs : List Int} (h : IsRow w ao len zs) (G : Below w.heap.size w u) : IsRow u ao len zs := by
  obtain ⟨h1, h2, h3, h4⟩ := h
  refine ⟨h1, h2, h3, ?_⟩
  rcases h4 with h4 | ⟨b, off, e, hb, hc⟩
  · exact .inl h4
  · exact .inr ⟨b, off, e, Nat.lt_of_lt_of_le hb G.size, fun j hj => (G.cell (p := ⟨b, off + j, none⟩) hb).trans (hc j hj)⟩
theorem IsRow.nil (w : World) (ao : Option Addr) : IsRow w ao 0 [] := ⟨rfl, by omega, by intro j; simp; decide, .inl rfl⟩

def sumU (zs : List Int) : Nat → Int
  | 0 => 0
  | k + 1 => sumU zs k + zs.getD k 0
def step (g : Bool) (m y : Int) : Int := if g = true then (if m < y then y else m) else (if y < m then y else m)
def extU (g : Bool) (zs : List Int) : Nat → Int
  | 0 => zs.getD 0 0
  | k + 1 => step g (extU g zs k) (zs.getD (k + 1) 0)

theorem extU_at (g : Bool) (zs : List Int) (k : Nat) (h : 1 ≤ k) : extU g zs k = step g (extU g zs (k - 1)) (zs.getD k 0) := by
  obtain ⟨j, rfl⟩ : ∃ j, k = j + 1 := ⟨k - 1, by omega⟩
  simp [extU]
theorem sumU_bound (zs : List Int) (h : ∀ j, fitsB (zs.getD j 0) = true) (k : Nat) : -9223372036854775808 * (k : Int) ≤ sumU zs k ∧ sumU zs k ≤ 9223372036854775808 * (k : Int) := by
  induction k with
  | zero => simp [sumU]
  | succ k ih =>
    have := (fits_iff _).1 (h k)
    unfold sumU
    omega
theorem step_fits (g : Bool) (m y : Int) (h1 : fitsB m = true) (h2 : fitsB y = true) : fitsB (step g m y) = true := by
  unfold step; split <;> split <;> assumption
theorem extU_fits (g : Bool) (zs : List Int) (h : ∀ j, fitsB (zs.getD j 0) = true) (k : Nat) : fitsB (extU g zs k) = true := by
  induction k with
  | zero => exact h 0
  | succ k ih => exact step_fits g _ _ ih (h _)
theorem fits_getD (zs : List Int) (h : ∀ n ∈ zs, (Lit.int .i64 n).wf = true) (j : Nat) : fitsB (zs.getD j 0) = true := by
  by_cases hj : j < zs.length
  · have : zs.getD j 0 = zs[j] := by simp [List.getD, hj]
    rw [this]; exact fits_wf (h _ (List.getElem_mem hj))
  · have : zs.getD j 0 = 0 := by simp [List.getD, Nat.le_of_not_lt hj]
    rw [this]; decide

theorem isRow_open {W : World} {a : Addr} {len cap : Nat} {zs : List Int} (hl : len ≤ cap) (hm : cap ≤ maxLen) (hz : zs.length = cap) (hcell : ∀ i, i < zs.length → W.cell? (a.add i) = some (.int .i64 (zs.getD i 0))) (hwz : ∀ n ∈ zs, (Lit.int .i64 n).wf = true) : IsRow W (some a) len (zs.take len) := by
  refine ⟨by simp; omega, by unfold maxLen at hm; omega, fun j => fits_getD _ (fun n hn => hwz n (List.mem_of_mem_take hn)) j, ?_⟩
  rcases Nat.eq_zero_or_pos len with h0 | h0
  · exact .inl h0
  · refine .inr ?_
    obtain ⟨b, off, spot⟩ := a
    have hspot : spot = none := by simpa [Addr.add] using World.cell?_spot (hcell 0 (by omega))
    subst hspot
    refine ⟨b, off, rfl, lt_of_cell (hcell 0 (by omega)), fun j hj => ?_⟩
    have := hcell j (by omega)
    rw [Go.WideShapes.add_plain] at this
    rw [this]
    simp [List.getD, hj]
theorem isRow_news {w : World} {ad : Addr} {len : Nat} {zs : List Int} (h : IsRow w (some ad) len zs) (j : Nat) (u : Value) (hj : (zs.map (Value.int .i64))[j]? = some u) : w.cell? (ad.add j) = some u := by
  obtain ⟨h1, h2, h3, h4⟩ := h
  simp only [List.getElem?_map, Option.map_eq_some_iff] at hj
  obtain ⟨z, hz, rfl⟩ := hj
  have hlt := (List.getElem?_eq_some_iff.1 hz).1
  rcases h4 with h4 | ⟨b, off, e, hb, hc⟩
  · omega
  · simp only [Option.some.injEq] at e
    subst e
    rw [Go.WideShapes.add_plain, hc j (by omega)]
    simp [List.getD, hz]
theorem ints_one (zs : List Int) : ∀ u ∈ zs.map (Value.int .i64), u.oneCell' = true := by
  intro u hu
  simp only [List.mem_map] at hu
  obtain ⟨z, _, rfl⟩ := hu
  rfl
/-- An empty slice that was just laid. -/
theorem own_empty (w : World) (e : TypeId) : (w.alloc (.cells #[] e)).ownsRow w.heap.size e 1 (.slice (some ⟨w.heap.size, 0, none⟩) 0 0) 0 [] :=
  ⟨rfl, .inr ⟨w.heap.size, 0, #[], rfl, Nat.le_refl _, by show (w.heap.push _)[w.heap.size]? = _; simp, Nat.le_refl _, Nat.zero_le _, rfl, rfl⟩⟩
/-- A slice of the call's own, as a row. -/
theorem isRow_own {w : World} {base : Nat} {e : TypeId} {v : Value} {n : Nat} {zs : List Int} (h : w.ownsRow base e 1 v n (zs.map (Value.int .i64))) (hf : ∀ j, fitsB (zs.getD j 0) = true) :
    ∃ ao cap, v = .slice ao n cap ∧ IsRow w ao n zs ∧ (n = 0 ∨ ∃ g, ao = some ⟨g, 0, none⟩ ∧ base ≤ g) ∧ n ≤ cap := by
  obtain ⟨h1, h2⟩ := h
  have hlen : zs.length = n := by simpa using h1
  rcases h2 with ⟨rfl, rfl⟩ | ⟨g, cap, cur, rfl, hb, hh, hc, hm, hs, ht⟩
  · have : zs = [] := List.length_eq_zero_iff.1 hlen
    subst this
    exact ⟨none, 0, rfl, IsRow.nil _ _, .inl rfl, Nat.le_refl _⟩
  · refine ⟨_, cap, rfl, ⟨hlen, by unfold maxLen at hm; omega, hf, .inr ⟨g, 0, rfl, lt_of_block hh, fun j hj => ?_⟩⟩, .inr ⟨g, rfl, hb⟩, hc⟩
    rw [Nat.zero_add, cell_of_row w g j cur e (0, 0) hh]
    have e1 : cur.toList[j]? = (zs.map (Value.int .i64))[j]? := by rw [← ht, List.getElem?_take, if_pos (by omega)]
    have e2 : cur[j]? = cur.toList[j]? := by simp
    rw [e2, e1]
    simp [List.getD, List.getElem?_eq_getElem (show j < zs.length by omega)]

end Go.Proofs.YtnmppmmanigpcaaDoor
namespace Go.Proofs.YtnmppmmanigpcaaDoor
open Go.RowKit
set_option linter.unusedVariables false

def Two (w : World) (b : Nat) (x y : Value) (t : TypeId) : Prop := w.heap[b]? = some (.cells #[x, y] t (0, 0))

theorem Two.at0 {w : World} {b : Nat} {x y : Value} {t : TypeId} (h : Two w b x y t) : w.cell? ⟨b, 0, none⟩ = some x := by unfold Two at h; simp [World.cell?, h]
theorem Two.at1 {w : World} {b : Nat} {x y : Value} {t : TypeId} (h : Two w b x y t) : w.cell? ⟨b, 1, none⟩ = some y := by unfold Two at h; simp [World.cell?, h]
theorem Two.free {w : World} {b : Nat} {x y : Value} {t : TypeId} (h : Two w b x y t) (o : Nat) : w.frozen? ⟨b, o, none⟩ = false := by unfold Two at h; simp [World.frozen?, h]
theorem Two.lt {w : World} {b : Nat} {x y : Value} {t : TypeId} (h : Two w b x y t) : b < w.heap.size := by
  rcases Nat.lt_or_ge b w.heap.size with h' | h'
  · exact h'
  · unfold Two at h; simp [Array.getElem?_eq_none h'] at h
theorem Two.new (w : World) (x y : Value) (t : TypeId) : Two (w.alloc (.cells #[x, y] t)) w.heap.size x y t := by
  show (w.heap.push _)[w.heap.size]? = _
  simp
theorem Two.alloc {w : World} {b : Nat} {x y : Value} {t : TypeId} (h : Two w b x y t) (o : Obj) : Two (w.alloc o) b x y t := (Below.heap_alloc w o b h.lt).trans h
theorem Two.keep {w u : World} {b : Nat} {x y : Value} {t : TypeId} (h : Two w b x y t) (G : Below w.heap.size w u) : Two u b x y t := (G.block b h.lt).trans h
theorem Two.other {w : World} {b : Nat} {x y : Value} {t : TypeId} (h : Two w b x y t) {p : Addr} (hp : b ≠ p.block) (u : Value) : Two (w.setCell p u) b x y t := (Below.heap_setCell w p u b hp).trans h
theorem Two.drew {w : World} {b : Nat} {x y : Value} {t : TypeId} (h : Two w b x y t) : Two w.drew b x y t := h
theorem Two.set0 {w : World} {b : Nat} {x y : Value} {t : TypeId} (h : Two w b x y t) (u : Value) : Two (w.setCell ⟨b, 0, none⟩ u) b u y t := by
  have hlt := h.lt
  unfold Two at h
  have h' : w.heap[b] = .cells #[x, y] t (0, 0) := by simpa [Array.getElem?_eq_getElem hlt] using h
  show (w.heap.modify b _)[b]? = _
  rw [Array.getElem?_eq_getElem (by simpa using hlt), Array.getElem_modify_self, h']
  rfl
theorem Two.set1 {w : World} {b : Nat} {x y : Value} {t : TypeId} (h : Two w b x y t) (u : Value) : Two (w.setCell ⟨b, 1, none⟩ u) b x u t := by
  have hlt := h.lt
  unfold Two at h
  have h' : w.heap[b] = .cells #[x, y] t (0, 0) := by simpa [Array.getElem?_eq_getElem hlt] using h
  show (w.heap.modify b _)[b]? = _
  rw [Array.getElem?_eq_getElem (by simpa using hlt), Array.getElem_modify_self, h']
  rfl
theorem Two.set {w : World} {b : Nat} {x y : Value} {t : TypeId} (h : Two w b x y t) (u v : Value) : Two ((w.setCell ⟨b, 0, none⟩ u).setCell ⟨b, 1, none⟩ v) b u v t := (h.set0 u).set1 v

end Go.Proofs.YtnmppmmanigpcaaDoor
namespace Go.Proofs.YtnmppmmanigpcaaDoor
open Go.RowKit
set_option linter.unusedVariables false

set_option maxHeartbeats 1000000 in
theorem min_some (b off len cap : Nat) (zs : List Int) (w : World) (hn : 0 < len) (hl : len ≤ 9223372036854775807) (hc : ∀ j, j < len → w.cell? ⟨b, off + j, none⟩ = some (.int .i64 (zs.getD j 0))) :
    Calls Tryd.prog 105 #[.slice (some ⟨b, off, none⟩) len cap] w fun e w' => e = .returned (.int .i64 (extU false zs (len - 1))) ∧ w = w' := by
  have hc0 := hc 0 hn
  rw [Nat.add_zero] at hc0
  go_enter Tryd.func105, Tryd.ntmps105
  go_wp2
  go_loop [3, 4] (fun m i => ∃ k : Nat, 1 ≤ k ∧ k ≤ len ∧ i = .int .i64 k ∧ m = .int .i64 (extU false zs (k - 1))) (fun _ i => len - (intOf i).toNat)
  case atStart => exact ⟨1, Nat.le_refl _, hn, rfl, by simp [extU]⟩
  case round =>
    obtain ⟨k, hk1, hk, rfl, rfl⟩ := hrel
    have hck : k < len → w.cell? ⟨b, off + k, none⟩ = some (.int .i64 (zs.getD k 0)) := fun h => hc _ h
    go_wp2
    · have hlt : k < len := by assumption
      go_round
      case rel => exact ⟨k + 1, by omega, by omega, by go_num, by rw [Nat.add_sub_cancel, extU_at false zs k hk1]; simp [step, List.getD]; congr⟩
      case measure => simp [intOf]; omega
    · have hge : ¬ k < len := by assumption
      obtain rfl : k = len := by omega
      go_ret
      exact ⟨rfl, rfl⟩

set_option maxHeartbeats 1000000 in
theorem max_some (b off len cap : Nat) (zs : List Int) (w : World) (hn : 0 < len) (hl : len ≤ 9223372036854775807) (hc : ∀ j, j < len → w.cell? ⟨b, off + j, none⟩ = some (.int .i64 (zs.getD j 0))) :
    Calls Tryd.prog 106 #[.slice (some ⟨b, off, none⟩) len cap] w fun e w' => e = .returned (.int .i64 (extU true zs (len - 1))) ∧ w = w' := by
  have hc0 := hc 0 hn
  rw [Nat.add_zero] at hc0
  go_enter Tryd.func106, Tryd.ntmps106
  go_wp2
  go_loop [3, 4] (fun m i => ∃ k : Nat, 1 ≤ k ∧ k ≤ len ∧ i = .int .i64 k ∧ m = .int .i64 (extU true zs (k - 1))) (fun _ i => len - (intOf i).toNat)
  case atStart => exact ⟨1, Nat.le_refl _, hn, rfl, by simp [extU]⟩
  case round =>
    obtain ⟨k, hk1, hk, rfl, rfl⟩ := hrel
    have hck : k < len → w.cell? ⟨b, off + k, none⟩ = some (.int .i64 (zs.getD k 0)) := fun h => hc _ h
    go_wp2
    · have hlt : k < len := by assumption
      go_round
      case rel => exact ⟨k + 1, by omega, by omega, by go_num, by rw [Nat.add_sub_cancel, extU_at true zs k hk1]; simp [step, List.getD]; congr⟩
      case measure => simp [intOf]; omega
    · have hge : ¬ k < len := by assumption
      obtain rfl : k = len := by omega
      go_ret
      exact ⟨rfl, rfl⟩


set_option maxHeartbeats 2000000 in
theorem total_some (b off len cap : Nat) (zs : List Int) (w : World) (hb : b < w.heap.size) (hl : len ≤ 9223372036854775807) (hz : ∀ j, fitsB (zs.getD j 0) = true) (hc : ∀ j, j < len → w.cell? ⟨b, off + j, none⟩ = some (.int .i64 (zs.getD j 0))) :
    Calls Tryd.prog 104 #[.slice (some ⟨b, off, none⟩) len cap] w fun e w' => e = .returned (.agg #[.int .u64 (hiOf (sumU zs len)), .int .u64 (loOf (sumU zs len))]) ∧ Below w.heap.size w w' := by
  go_enter Tryd.func104, Tryd.ntmps104
  go_wp2
  go_loopw [8] (fun i wr => ∃ k : Nat, k ≤ len ∧ i = .int .i64 k ∧ Two wr w.heap.size (.int .u64 0) (.int .u64 0) 144 ∧ Two wr (w.heap.size + 1) (.int .u64 (hiOf (sumU zs k))) (.int .u64 (loOf (sumU zs k))) 144 ∧ Below w.heap.size w wr) (fun i _ => len - (intOf i).toNat)
  case atStart => exact ⟨0, Nat.zero_le _, rfl, (Two.new _ _ _ _).alloc _, by have := Two.new (w.alloc (.cells #[.int .u64 0, .int .u64 0] 144)) (.int .u64 0) (.int .u64 0) 144; simpa [sumU, hiOf, loOf] using this, galloc (galloc (Below.refl _ _) _) _⟩
  case round =>
    obtain ⟨k, hk, rfl, T0, T1, G⟩ := hrel
    have hck : k < len → wr.cell? ⟨b, off + k, none⟩ = some (.int .i64 (zs.getD k 0)) := fun h => (G.cell (p := ⟨b, off + k, none⟩) hb).trans (hc _ h)
    have hzk : -9223372036854775808 ≤ zs[k]?.getD 0 ∧ zs[k]?.getD 0 ≤ 9223372036854775807 := (fits_iff _).1 (by simpa [List.getD] using hz k)
    have c00 := T0.at0
    have c01 := T0.at1
    have c10 := T1.at0
    have c11 := T1.at1
    have f0 := T0.free
    have f1 := T1.free
    have l0 := T0.lt
    have l1 := T1.lt
    go_wp2
    · have hlt : k < len := by assumption
      have R := Below.refl wr.heap.size wr
      replace R := R.drew
      go_region_with (first
        | (go_at_call 90; refine (widen_any _ _ hzk.1 hzk.2).mono ?_; rintro e u ⟨rfl, g⟩; replace R := gtrans R g; obtain ⟨hc2, hf2⟩ := bcell R)
        | (go_at_call 94; refine (plus_any _ _ _).mono ?_; rintro e u ⟨rfl, g⟩; replace R := gtrans R g; obtain ⟨hc2, hf2⟩ := bcell R))
      all_goals
        have T0' := ((T0.keep R).other (p := ⟨w.heap.size + 1, 0, none⟩) (by simp) (.int .u64 (hiOf (sumU zs k + zs[k]?.getD 0)))).other (p := ⟨w.heap.size + 1, 1, none⟩) (by simp) (.int .u64 (loOf (sumU zs k + zs[k]?.getD 0)))
        have T1' := (T1.keep R).set (.int .u64 (hiOf (sumU zs k + zs[k]?.getD 0))) (.int .u64 (loOf (sumU zs k + zs[k]?.getD 0)))
        have G' := ((G.trans (R.mono G.size)).setCell (p := ⟨w.heap.size + 1, 0, none⟩) (by simp) (.int .u64 (hiOf (sumU zs k + zs[k]?.getD 0)))).setCell (p := ⟨w.heap.size + 1, 1, none⟩) (by simp) (.int .u64 (loOf (sumU zs k + zs[k]?.getD 0)))
        clear hc2 hf2 c00 c01 c10 c11 f0 f1
        generalize ((u.setCell ⟨w.heap.size + 1, 0, none⟩ (Value.int .u64 (hiOf (sumU zs k + zs[k]?.getD 0)))).setCell ⟨w.heap.size + 1, 1, none⟩ (Value.int .u64 (loOf (sumU zs k + zs[k]?.getD 0)))) = wz at T0' T1' G' ⊢
        go_wp2
        go_roundw
        case rel => exact ⟨k + 1, by omega, by go_num, T0', by simpa [sumU, List.getD] using T1', G'⟩
        case measure => simp [intOf]; omega
    · have hge : ¬ k < len := by assumption
      obtain rfl : k = len := by omega
      refine bodyPost_ret (v := .agg #[.int .u64 (hiOf (sumU zs k)), .int .u64 (loOf (sumU zs k))]) ?_ rfl ⟨rfl, ?_⟩
      · simp [results, Tryd.results104, go_sem, c00, c01]
      · exact (G.setCell (by simp) _).setCell (by simp) _

theorem min_any (ao : Option Addr) (len cap : Nat) (zs : List Int) (w : World) (hn : 0 < len) (h : IsRow w ao len zs) :
    Calls Tryd.prog 105 #[.slice ao len cap] w fun e w' => e = .returned (.int .i64 (extU false zs (len - 1))) ∧ w = w' := by
  obtain ⟨h1, h2, h3, h4⟩ := h
  rcases h4 with rfl | ⟨b, off, rfl, hb, hc⟩
  · omega
  · exact min_some b off len cap zs w hn h2 hc
theorem max_any (ao : Option Addr) (len cap : Nat) (zs : List Int) (w : World) (hn : 0 < len) (h : IsRow w ao len zs) :
    Calls Tryd.prog 106 #[.slice ao len cap] w fun e w' => e = .returned (.int .i64 (extU true zs (len - 1))) ∧ w = w' := by
  obtain ⟨h1, h2, h3, h4⟩ := h
  rcases h4 with rfl | ⟨b, off, rfl, hb, hc⟩
  · omega
  · exact max_some b off len cap zs w hn h2 hc

set_option maxHeartbeats 1000000 in
theorem total_none (ao : Option Addr) (cap : Nat) (w : World) :
    Calls Tryd.prog 104 #[.slice ao 0 cap] w fun e w' => e = .returned (.agg #[.int .u64 0, .int .u64 0]) ∧ Below w.heap.size w w' := by
  go_enter Tryd.func104, Tryd.ntmps104
  go_wp2
  refine wp_loop_rounds 1 ?_
  rw [rounds_succ]
  go_wp2
  refine bodyPost_ret (v := .agg #[.int .u64 0, .int .u64 0]) (by simp [results, Tryd.results104, go_sem]) rfl ⟨rfl, ?_⟩
  first | exact galloc (galloc (Below.refl _ _) _) _ | exact gset (gset (galloc (galloc (Below.refl _ _) _) _) (by simp) _) (by simp) _

theorem total_any (ao : Option Addr) (len cap : Nat) (zs : List Int) (w : World) (h : IsRow w ao len zs) :
    Calls Tryd.prog 104 #[.slice ao len cap] w fun e w' => e = .returned (.agg #[.int .u64 (hiOf (sumU zs len)), .int .u64 (loOf (sumU zs len))]) ∧ Below w.heap.size w w' := by
  obtain ⟨h1, h2, h3, h4⟩ := h
  rcases h4 with rfl | ⟨b, off, rfl, hb, hc⟩
  · have e1 : hiOf (sumU zs 0) = 0 := by simp [sumU, hiOf]
    have e2 : loOf (sumU zs 0) = 0 := by simp [sumU, loOf]
    rw [e1, e2]; exact total_none ao cap w
  · exact total_some b off len cap zs w hb h2 h3 hc

def foldK (op : Int) (zs : List Int) : Bool :=
  if op = 5 then true else if op = 6 then fitsB (sumU zs zs.length) else if zs.length = 0 then false else decide (op = 7 ∨ op = 8 ∨ op = 9 ∨ op = 10)
def foldN (op : Int) (zs : List Int) : Int :=
  if op = 5 then zs.length else if op = 6 then fitN (sumU zs zs.length) else if zs.length = 0 then 0 else
    if op = 7 then extU false zs (zs.length - 1) else if op = 8 then extU true zs (zs.length - 1) else if op = 9 then zs.getD 0 0 else if op = 10 then zs.getD (zs.length - 1) 0 else 0

set_option maxHeartbeats 1000000 in
theorem fold_five (ao : Option Addr) (len cap : Nat) (zs : List Int) (w : World) (h : IsRow w ao len zs) :
    Calls Tryd.prog 88 #[.int .i64 5, .slice ao len cap] w fun e w' => e = .returned (.agg #[.bool true, .int .i64 len]) ∧ Below w.heap.size w w' := by
  clear h
  go_enter Tryd.func88, Tryd.ntmps88
  go_wp2_with (go_at_call 66; refine (known_any _ _).mono ?_; rintro e w0 ⟨rfl, g0⟩; obtain ⟨hc0, hf0⟩ := bcell g0)
  refine bodyPost_ret (v := .agg #[.bool true, .int .i64 len]) (by simp [results, Tryd.results88, go_sem, hc0]) rfl ⟨rfl, ?_⟩
  exact gset (gset (gtrans (galloc (Below.refl _ _) _) g0) (by simp) _) (by simp) _

set_option maxHeartbeats 1000000 in
theorem fold_six (ao : Option Addr) (len cap : Nat) (zs : List Int) (w : World) (h : IsRow w ao len zs) :
    Calls Tryd.prog 88 #[.int .i64 6, .slice ao len cap] w fun e w' => e = .returned (.agg #[.bool (fitsB (sumU zs len)), .int .i64 (fitN (sumU zs len))]) ∧ Below w.heap.size w w' := by
  have B := sumU_bound zs h.2.2.1 len
  have hl := h.2.1
  have hr := h.keep (galloc (Below.refl w.heap.size w) (.cells #[.bool false, .int .i64 0] 53))
  have ct := total_any ao len cap zs _ hr
  have cn := narrow_any (sumU zs len)
  clear h hr
  go_enter Tryd.func88, Tryd.ntmps88
  go_wp2_with (first
    | (go_at_call 104; refine ct.mono ?_; rintro e w0 ⟨rfl, g0⟩; obtain ⟨hc0, hf0⟩ := bcell g0)
    | (go_at_call 92; refine (cn _ (by omega) (by omega)).mono ?_; rintro e w1 ⟨rfl, g1⟩; replace g0 := gtrans g0 g1; obtain ⟨hc1, hf1⟩ := bcell g0))
  refine bodyPost_ret (v := .agg #[.bool (fitsB (sumU zs len)), .int .i64 (fitN (sumU zs len))]) (by simp [results, Tryd.results88, go_sem, hc1]) rfl ⟨rfl, ?_⟩
  exact gset (gset (gtrans (galloc (Below.refl _ _) _) g0) (by simp) _) (by simp) _

set_option maxHeartbeats 1000000 in
theorem fold_seven (ao : Option Addr) (len cap : Nat) (zs : List Int) (w : World) (h : IsRow w ao len zs) (hn : 0 < len) :
    Calls Tryd.prog 88 #[.int .i64 7, .slice ao len cap] w fun e w' => e = .returned (.agg #[.bool true, .int .i64 (extU false zs (len - 1))]) ∧ Below w.heap.size w w' := by
  have hr := h.keep (galloc (Below.refl w.heap.size w) (.cells #[.bool false, .int .i64 0] 53))
  have ct := min_any ao len cap zs _ hn hr
  have hn0 : ((len : Int) == 0) = false := by simp; omega
  clear h hr
  go_enter Tryd.func88, Tryd.ntmps88
  go_wp2_with (first
    | (go_at_call 105; refine ct.mono ?_; rintro e w9 ⟨rfl, rfl⟩)
    | (go_at_call 66; refine (known_any _ _).mono ?_; rintro e w0 ⟨rfl, g0⟩; obtain ⟨hc0, hf0⟩ := bcell g0))
  refine bodyPost_ret (v := .agg #[.bool true, .int .i64 (extU false zs (len - 1))]) (by simp [results, Tryd.results88, go_sem, hc0]) rfl ⟨rfl, ?_⟩
  exact gset (gset (gtrans (galloc (Below.refl _ _) _) g0) (by simp) _) (by simp) _

set_option maxHeartbeats 1000000 in
theorem fold_eight (ao : Option Addr) (len cap : Nat) (zs : List Int) (w : World) (h : IsRow w ao len zs) (hn : 0 < len) :
    Calls Tryd.prog 88 #[.int .i64 8, .slice ao len cap] w fun e w' => e = .returned (.agg #[.bool true, .int .i64 (extU true zs (len - 1))]) ∧ Below w.heap.size w w' := by
  have hr := h.keep (galloc (Below.refl w.heap.size w) (.cells #[.bool false, .int .i64 0] 53))
  have ct := max_any ao len cap zs _ hn hr
  have hn0 : ((len : Int) == 0) = false := by simp; omega
  clear h hr
  go_enter Tryd.func88, Tryd.ntmps88
  go_wp2_with (first
    | (go_at_call 106; refine ct.mono ?_; rintro e w9 ⟨rfl, rfl⟩)
    | (go_at_call 66; refine (known_any _ _).mono ?_; rintro e w0 ⟨rfl, g0⟩; obtain ⟨hc0, hf0⟩ := bcell g0))
  refine bodyPost_ret (v := .agg #[.bool true, .int .i64 (extU true zs (len - 1))]) (by simp [results, Tryd.results88, go_sem, hc0]) rfl ⟨rfl, ?_⟩
  exact gset (gset (gtrans (galloc (Below.refl _ _) _) g0) (by simp) _) (by simp) _

set_option maxHeartbeats 1000000 in
theorem fold_nine (ao : Option Addr) (len cap : Nat) (zs : List Int) (w : World) (h : IsRow w ao len zs) (hn : 0 < len) :
    Calls Tryd.prog 88 #[.int .i64 9, .slice ao len cap] w fun e w' => e = .returned (.agg #[.bool true, .int .i64 (zs.getD 0 0)]) ∧ Below w.heap.size w w' := by
  obtain ⟨h1, h2, h3, h4⟩ := h
  rcases h4 with rfl | ⟨b, off, rfl, hb, hc⟩
  · omega
  obtain ⟨v, hv⟩ : ∃ v, v = zs.getD 0 0 := ⟨_, rfl⟩
  have hcv : w.cell? ⟨b, off + 0, none⟩ = some (.int .i64 v) := hv ▸ hc 0 (by omega)
  rw [← hv]
  clear hv hc h3 h1
  have hn0 : ((len : Int) == 0) = false := by simp; omega
  try rw [Nat.add_zero] at hcv
  go_enter Tryd.func88, Tryd.ntmps88
  go_wp2_with (go_at_call 66; refine (known_any _ _).mono ?_; rintro e w0 ⟨rfl, g0⟩; obtain ⟨hc0, hf0⟩ := bcell g0)
  refine bodyPost_ret (v := .agg #[.bool true, .int .i64 v]) (by simp [results, Tryd.results88, go_sem, hc0]) rfl ⟨rfl, ?_⟩
  exact gset (gset (gtrans (galloc (Below.refl _ _) _) g0) (by simp) _) (by simp) _

set_option maxHeartbeats 1000000 in
theorem fold_ten (ao : Option Addr) (len cap : Nat) (zs : List Int) (w : World) (h : IsRow w ao len zs) (hn : 0 < len) :
    Calls Tryd.prog 88 #[.int .i64 10, .slice ao len cap] w fun e w' => e = .returned (.agg #[.bool true, .int .i64 (zs.getD (len - 1) 0)]) ∧ Below w.heap.size w w' := by
  obtain ⟨h1, h2, h3, h4⟩ := h
  rcases h4 with rfl | ⟨b, off, rfl, hb, hc⟩
  · omega
  obtain ⟨v, hv⟩ : ∃ v, v = zs.getD (len - 1) 0 := ⟨_, rfl⟩
  have hcv : w.cell? ⟨b, off + (len - 1), none⟩ = some (.int .i64 v) := hv ▸ hc (len - 1) (by omega)
  rw [← hv]
  clear hv hc h3 h1
  have hn0 : ((len : Int) == 0) = false := by simp; omega
  try rw [Nat.add_zero] at hcv
  go_enter Tryd.func88, Tryd.ntmps88
  go_wp2_with (go_at_call 66; refine (known_any _ _).mono ?_; rintro e w0 ⟨rfl, g0⟩; obtain ⟨hc0, hf0⟩ := bcell g0)
  refine bodyPost_ret (v := .agg #[.bool true, .int .i64 v]) (by simp [results, Tryd.results88, go_sem, hc0]) rfl ⟨rfl, ?_⟩
  exact gset (gset (gtrans (galloc (Below.refl _ _) _) g0) (by simp) _) (by simp) _

set_option maxHeartbeats 1000000 in
theorem fold_empty (op : Int) (ao : Option Addr) (len cap : Nat) (zs : List Int) (w : World) (h : IsRow w ao len zs) (hn : len = 0) (h5 : (op == 5) = false) (h6 : (op == 6) = false) :
    Calls Tryd.prog 88 #[.int .i64 op, .slice ao len cap] w fun e w' => e = .returned (.agg #[.bool false, .int .i64 0]) ∧ Below w.heap.size w w' := by
  subst hn
  clear h
  go_enter Tryd.func88, Tryd.ntmps88
  go_wp2
  refine bodyPost_ret (v := .agg #[.bool false, .int .i64 0]) (by simp [results, Tryd.results88, go_sem]) rfl ⟨rfl, ?_⟩
  first | exact galloc (Below.refl _ _) _ | exact gset (gset (galloc (Below.refl _ _) _) (by simp) _) (by simp) _

set_option maxHeartbeats 1000000 in
theorem fold_else (op : Int) (ao : Option Addr) (len cap : Nat) (zs : List Int) (w : World) (h : IsRow w ao len zs) (hn : 0 < len) (h5 : (op == 5) = false) (h6 : (op == 6) = false) (h7 : (op == 7) = false) (h8 : (op == 8) = false) (h9 : (op == 9) = false) (h10 : (op == 10) = false) :
    Calls Tryd.prog 88 #[.int .i64 op, .slice ao len cap] w fun e w' => e = .returned (.agg #[.bool false, .int .i64 0]) ∧ Below w.heap.size w w' := by
  have hn0 : ((len : Int) == 0) = false := by simp; omega
  clear h
  go_enter Tryd.func88, Tryd.ntmps88
  go_wp2
  refine bodyPost_ret (v := .agg #[.bool false, .int .i64 0]) (by simp [results, Tryd.results88, go_sem]) rfl ⟨rfl, ?_⟩
  first | exact galloc (Below.refl _ _) _ | exact gset (gset (galloc (Below.refl _ _) _) (by simp) _) (by simp) _

theorem fold_any (op : Int) (ao : Option Addr) (len cap : Nat) (zs : List Int) (w : World) (h : IsRow w ao len zs) :
    Calls Tryd.prog 88 #[.int .i64 op, .slice ao len cap] w fun e w' => e = .returned (.agg #[.bool (foldK op zs), .int .i64 (foldN op zs)]) ∧ Below w.heap.size w w' := by
  have hlen : zs.length = len := h.1
  unfold foldK foldN
  rw [hlen]
  by_cases h5 : op = 5
  · subst h5; exact fold_five ao len cap zs w h
  by_cases h6 : op = 6
  · subst h6; exact fold_six ao len cap zs w h
  rw [if_neg h5, if_neg h5, if_neg h6, if_neg h6]
  by_cases hn : len = 0
  · rw [if_pos hn, if_pos hn]; exact fold_empty op ao len cap zs w h hn (by simpa using h5) (by simpa using h6)
  rw [if_neg hn, if_neg hn]
  have hp : 0 < len := by omega
  by_cases h7 : op = 7
  · subst h7; exact fold_seven ao len cap zs w h hp
  by_cases h8 : op = 8
  · subst h8; exact fold_eight ao len cap zs w h hp
  by_cases h9 : op = 9
  · subst h9; exact fold_nine ao len cap zs w h hp
  by_cases h10 : op = 10
  · subst h10; exact fold_ten ao len cap zs w h hp
  rw [if_neg h7, if_neg h8, if_neg h9, if_neg h10, decide_eq_false (by simp [h7, h8, h9, h10])]
  exact fold_else op ao len cap zs w h hp (by simpa using h5) (by simpa using h6) (by simpa using h7) (by simpa using h8) (by simpa using h9) (by simpa using h10)

end Go.Proofs.YtnmppmmanigpcaaDoor
