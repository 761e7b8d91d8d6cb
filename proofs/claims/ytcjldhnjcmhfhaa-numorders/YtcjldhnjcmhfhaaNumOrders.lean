/- For every three int64 a, b, c the law NumOrders returns true: just one of less, equal and greater holds of known numbers, the other comparisons are by these, less goes on, and it is the sign of the difference where that is known. No condition. -/
import Derived.Test.YtcjldhnjcmhfhaaOps
import Derived.Test.YtcjldhnjcmhfhaaCmp
import Derived.Test.YtcjldhnjcmhfhaaKeep
import Derived.Test.YtcjldhnjcmhfhaaNumber
import Derived.Deep.CutRange
import Derived.OpenShut
import Derived.Carry
namespace Go.Proofs.Ytcjldhnjcmhfhaa.numOrders
open Go.ChangeShapes Go.WideShapes Go.ChangeAt Go.RowKit
set_option linter.unusedVariables false

theorem bit_lt {n a b : Int} (h : n = bitOf (decide (a < b))) : (a < b ∧ n = 1) ∨ (b ≤ a ∧ n = 0) := by
  by_cases g : a < b
  · left; rw [h]; simp [bitOf, g]
  · right; rw [h]; simp [bitOf, g]; omega
theorem tri_of {a b n1 n2 n3 n4 n5 n6 n7 : Int} (h1 : n1 = bitOf (decide (a < b))) (h2 : n2 = bitOf (a == b)) (h3 : n3 = bitOf (decide (b < a))) (h4 : n4 = bitOf (decide (a ≤ b))) (h5 : n5 = bitOf (decide (b ≤ a))) (h6 : n6 = bitOf (a != b)) (h7 : n7 = bitOf (decide (a < b))) :
    (a < b ∧ n1 = 1 ∧ n2 = 0 ∧ n3 = 0 ∧ n4 = 1 ∧ n5 = 0 ∧ n6 = 1 ∧ n7 = 1 ∧ (a == b) = false) ∨ ((a ≤ b ∧ b ≤ a) ∧ n1 = 0 ∧ n2 = 1 ∧ n3 = 0 ∧ n4 = 1 ∧ n5 = 1 ∧ n6 = 0 ∧ n7 = 0 ∧ (a == b) = true) ∨ (b < a ∧ n1 = 0 ∧ n2 = 0 ∧ n3 = 1 ∧ n4 = 0 ∧ n5 = 1 ∧ n6 = 1 ∧ n7 = 0 ∧ (a == b) = false) := by
  subst h1 h2 h3 h4 h5 h6 h7
  rcases Int.lt_trichotomy a b with h | h | h
  · left
    have e1 : ¬ b < a := by omega
    have e2 : ¬ b ≤ a := by omega
    have e3 : a ≤ b := by omega
    have e4 : ¬ a = b := by omega
    simp [bitOf, h, e1, e2, e3, e4]
  · right; left
    subst h
    simp [bitOf]
  · right; right
    have e1 : ¬ a < b := by omega
    have e2 : ¬ a ≤ b := by omega
    have e3 : b ≤ a := by omega
    have e4 : ¬ a = b := by omega
    simp [bitOf, h, e1, e2, e3, e4]

set_option maxRecDepth 20000 in
set_option maxHeartbeats 8000000 in
theorem walk (a0 : Int) (w0 : (Lit.int .i64 a0).wf = true) (a1 : Int) (w1 : (Lit.int .i64 a1).wf = true) (a2 : Int) (w2 : (Lit.int .i64 a2).wf = true) (w : World) :
    Calls Try.prog 5 #[.int .i64 a0, .int .i64 a1, .int .i64 a2] w fun e w' => e = .returned (.bool true) ∧ Below w.heap.size w w' := by
  have b0 : fitsB a0 = true := fits_wf w0
  have b1 : fitsB a1 = true := fits_wf w1
  clear w0 w1 w2
  obtain ⟨klt, nlt, Hlt, clt⟩ : ∃ k n, Hid (k = true ∧ n = bitOf (decide (a0 < a1))) ∧ ∀ w, Calls Try.prog 13 #[.int .i64 21, .agg #[.bool true, .int .i64 a0], .agg #[.bool true, .int .i64 a1]] w (fun e w' => e = .returned (.agg #[.bool k, .int .i64 n]) ∧ Below w.heap.size w w') := ⟨_, _, ⟨rfl, rfl⟩, fun w => cmp21 a0 a1 w⟩
  obtain ⟨keq, neq, Heq, ceq⟩ : ∃ k n, Hid (k = true ∧ n = bitOf (a0 == a1)) ∧ ∀ w, Calls Try.prog 13 #[.int .i64 19, .agg #[.bool true, .int .i64 a0], .agg #[.bool true, .int .i64 a1]] w (fun e w' => e = .returned (.agg #[.bool k, .int .i64 n]) ∧ Below w.heap.size w w') := ⟨_, _, ⟨rfl, rfl⟩, fun w => cmp19 a0 a1 w⟩
  obtain ⟨kgt, ngt, Hgt, cgt⟩ : ∃ k n, Hid (k = true ∧ n = bitOf (decide (a1 < a0))) ∧ ∀ w, Calls Try.prog 13 #[.int .i64 23, .agg #[.bool true, .int .i64 a0], .agg #[.bool true, .int .i64 a1]] w (fun e w' => e = .returned (.agg #[.bool k, .int .i64 n]) ∧ Below w.heap.size w w') := ⟨_, _, ⟨rfl, rfl⟩, fun w => cmp23 a0 a1 w⟩
  obtain ⟨kle, nle, Hle, cle⟩ : ∃ k n, Hid (k = true ∧ n = bitOf (decide (a0 ≤ a1))) ∧ ∀ w, Calls Try.prog 13 #[.int .i64 22, .agg #[.bool true, .int .i64 a0], .agg #[.bool true, .int .i64 a1]] w (fun e w' => e = .returned (.agg #[.bool k, .int .i64 n]) ∧ Below w.heap.size w w') := ⟨_, _, ⟨rfl, rfl⟩, fun w => cmp22 a0 a1 w⟩
  obtain ⟨kge, nge, Hge, cge⟩ : ∃ k n, Hid (k = true ∧ n = bitOf (decide (a1 ≤ a0))) ∧ ∀ w, Calls Try.prog 13 #[.int .i64 24, .agg #[.bool true, .int .i64 a0], .agg #[.bool true, .int .i64 a1]] w (fun e w' => e = .returned (.agg #[.bool k, .int .i64 n]) ∧ Below w.heap.size w w') := ⟨_, _, ⟨rfl, rfl⟩, fun w => cmp24 a0 a1 w⟩
  obtain ⟨kne, nne, Hne, cne⟩ : ∃ k n, Hid (k = true ∧ n = bitOf (a0 != a1)) ∧ ∀ w, Calls Try.prog 13 #[.int .i64 20, .agg #[.bool true, .int .i64 a0], .agg #[.bool true, .int .i64 a1]] w (fun e w' => e = .returned (.agg #[.bool k, .int .i64 n]) ∧ Below w.heap.size w w') := ⟨_, _, ⟨rfl, rfl⟩, fun w => cmp20 a0 a1 w⟩
  obtain ⟨kbk, nbk, Hbk, cbk⟩ : ∃ k n, Hid (k = true ∧ n = bitOf (decide (a0 < a1))) ∧ ∀ w, Calls Try.prog 13 #[.int .i64 23, .agg #[.bool true, .int .i64 a1], .agg #[.bool true, .int .i64 a0]] w (fun e w' => e = .returned (.agg #[.bool k, .int .i64 n]) ∧ Below w.heap.size w w') := ⟨_, _, ⟨rfl, rfl⟩, fun w => cmp23 a1 a0 w⟩
  obtain ⟨kon, non, Hon, con⟩ : ∃ k n, Hid (k = true ∧ n = bitOf (decide (a1 < a2))) ∧ ∀ w, Calls Try.prog 13 #[.int .i64 21, .agg #[.bool true, .int .i64 a1], .agg #[.bool true, .int .i64 a2]] w (fun e w' => e = .returned (.agg #[.bool k, .int .i64 n]) ∧ Below w.heap.size w w') := ⟨_, _, ⟨rfl, rfl⟩, fun w => cmp21 a1 a2 w⟩
  obtain ⟨kov, nov, Hov, cov⟩ : ∃ k n, Hid (k = true ∧ n = bitOf (decide (a0 < a2))) ∧ ∀ w, Calls Try.prog 13 #[.int .i64 21, .agg #[.bool true, .int .i64 a0], .agg #[.bool true, .int .i64 a2]] w (fun e w' => e = .returned (.agg #[.bool k, .int .i64 n]) ∧ Below w.heap.size w w') := ⟨_, _, ⟨rfl, rfl⟩, fun w => cmp21 a0 a2 w⟩
  obtain ⟨kd, nd, Hd, cd⟩ : ∃ k n, Hid (k = opK true true (a0 - a1) ∧ n = opN true true (a0 - a1)) ∧ ∀ w, Calls Try.prog 10 #[.agg #[.bool true, .int .i64 a0], .agg #[.bool true, .int .i64 a1]] w (fun e w' => e = .returned (.agg #[.bool k, .int .i64 n]) ∧ Below w.heap.size w w') := ⟨_, _, ⟨rfl, rfl⟩, fun w => sub_any true true a0 a1 w b0 b1⟩
  go_enter Try.func5, Try.ntmps5
  have G := Below.refl w.heap.size w
  have B := Below.refl w.heap.size w
  go_upto_region 2 with (first | (go_at_call 9; refine (number_any _ _).mono ?_; rintro e u0 ⟨rfl, g⟩; replace G := gtrans G g; obtain ⟨hc, hf⟩ := bcell G))
  replace B := galloc (gtrans B G) (.cells #[.bool true, .int .i64 a0] 23)
  have rx0 := knew u0 #[.bool true, .int .i64 a0] 23 0 _ rfl
  have rx1 := knew u0 #[.bool true, .int .i64 a0] 23 1 _ rfl
  have sx := ksnew u0 (.cells #[.bool true, .int .i64 a0] 23)
  clear G
  generalize (u0.alloc (.cells #[.bool true, .int .i64 a0] 23)) = V1 at *
  have G := Below.refl V1.heap.size V1
  go_upto_region 3 with (first | (go_at_call 9; refine (number_any _ _).mono ?_; rintro e u1 ⟨rfl, g⟩; replace G := gtrans G g; obtain ⟨hc, hf⟩ := bcell G))
  replace rx0 := kold G (.cells #[.bool true, .int .i64 a1] 23) sx rx0
  replace rx1 := kold G (.cells #[.bool true, .int .i64 a1] 23) sx rx1
  replace sx := ksize G (.cells #[.bool true, .int .i64 a1] 23) sx
  replace B := galloc (gtrans B G) (.cells #[.bool true, .int .i64 a1] 23)
  have ry0 := knew u1 #[.bool true, .int .i64 a1] 23 0 _ rfl
  have ry1 := knew u1 #[.bool true, .int .i64 a1] 23 1 _ rfl
  have sy := ksnew u1 (.cells #[.bool true, .int .i64 a1] 23)
  clear G
  generalize (u1.alloc (.cells #[.bool true, .int .i64 a1] 23)) = V2 at *
  have G := Below.refl V2.heap.size V2
  go_upto_region 4 with (first | (go_at_call 13; refine (clt _).mono ?_; rintro e u2 ⟨rfl, g⟩; replace G := gtrans G g; obtain ⟨hc, hf⟩ := bcell G))
  replace rx0 := kold G (.cells #[.bool klt, .int .i64 nlt] 23) sx rx0
  replace rx1 := kold G (.cells #[.bool klt, .int .i64 nlt] 23) sx rx1
  replace sx := ksize G (.cells #[.bool klt, .int .i64 nlt] 23) sx
  replace ry0 := kold G (.cells #[.bool klt, .int .i64 nlt] 23) sy ry0
  replace ry1 := kold G (.cells #[.bool klt, .int .i64 nlt] 23) sy ry1
  replace sy := ksize G (.cells #[.bool klt, .int .i64 nlt] 23) sy
  replace B := galloc (gtrans B G) (.cells #[.bool klt, .int .i64 nlt] 23)
  have rlt0 := knew u2 #[.bool klt, .int .i64 nlt] 23 0 _ rfl
  have rlt1 := knew u2 #[.bool klt, .int .i64 nlt] 23 1 _ rfl
  have slt := ksnew u2 (.cells #[.bool klt, .int .i64 nlt] 23)
  clear G
  generalize (u2.alloc (.cells #[.bool klt, .int .i64 nlt] 23)) = V3 at *
  have G := Below.refl V3.heap.size V3
  go_upto_region 5 with (first | (go_at_call 13; refine (ceq _).mono ?_; rintro e u3 ⟨rfl, g⟩; replace G := gtrans G g; obtain ⟨hc, hf⟩ := bcell G))
  replace rx0 := kold G (.cells #[.bool keq, .int .i64 neq] 23) sx rx0
  replace rx1 := kold G (.cells #[.bool keq, .int .i64 neq] 23) sx rx1
  replace sx := ksize G (.cells #[.bool keq, .int .i64 neq] 23) sx
  replace ry0 := kold G (.cells #[.bool keq, .int .i64 neq] 23) sy ry0
  replace ry1 := kold G (.cells #[.bool keq, .int .i64 neq] 23) sy ry1
  replace sy := ksize G (.cells #[.bool keq, .int .i64 neq] 23) sy
  replace rlt0 := kold G (.cells #[.bool keq, .int .i64 neq] 23) slt rlt0
  replace rlt1 := kold G (.cells #[.bool keq, .int .i64 neq] 23) slt rlt1
  replace slt := ksize G (.cells #[.bool keq, .int .i64 neq] 23) slt
  replace B := galloc (gtrans B G) (.cells #[.bool keq, .int .i64 neq] 23)
  have req0 := knew u3 #[.bool keq, .int .i64 neq] 23 0 _ rfl
  have req1 := knew u3 #[.bool keq, .int .i64 neq] 23 1 _ rfl
  have seq := ksnew u3 (.cells #[.bool keq, .int .i64 neq] 23)
  clear G
  generalize (u3.alloc (.cells #[.bool keq, .int .i64 neq] 23)) = V4 at *
  have G := Below.refl V4.heap.size V4
  go_upto_region 6 with (first | (go_at_call 13; refine (cgt _).mono ?_; rintro e u4 ⟨rfl, g⟩; replace G := gtrans G g; obtain ⟨hc, hf⟩ := bcell G))
  replace rx0 := kold G (.cells #[.bool kgt, .int .i64 ngt] 23) sx rx0
  replace rx1 := kold G (.cells #[.bool kgt, .int .i64 ngt] 23) sx rx1
  replace sx := ksize G (.cells #[.bool kgt, .int .i64 ngt] 23) sx
  replace ry0 := kold G (.cells #[.bool kgt, .int .i64 ngt] 23) sy ry0
  replace ry1 := kold G (.cells #[.bool kgt, .int .i64 ngt] 23) sy ry1
  replace sy := ksize G (.cells #[.bool kgt, .int .i64 ngt] 23) sy
  replace rlt0 := kold G (.cells #[.bool kgt, .int .i64 ngt] 23) slt rlt0
  replace rlt1 := kold G (.cells #[.bool kgt, .int .i64 ngt] 23) slt rlt1
  replace slt := ksize G (.cells #[.bool kgt, .int .i64 ngt] 23) slt
  replace req0 := kold G (.cells #[.bool kgt, .int .i64 ngt] 23) seq req0
  replace req1 := kold G (.cells #[.bool kgt, .int .i64 ngt] 23) seq req1
  replace seq := ksize G (.cells #[.bool kgt, .int .i64 ngt] 23) seq
  replace B := galloc (gtrans B G) (.cells #[.bool kgt, .int .i64 ngt] 23)
  have rgt0 := knew u4 #[.bool kgt, .int .i64 ngt] 23 0 _ rfl
  have rgt1 := knew u4 #[.bool kgt, .int .i64 ngt] 23 1 _ rfl
  have sgt := ksnew u4 (.cells #[.bool kgt, .int .i64 ngt] 23)
  clear G
  generalize (u4.alloc (.cells #[.bool kgt, .int .i64 ngt] 23)) = V5 at *
  have G := Below.refl V5.heap.size V5
  go_upto_region 7 with (first | (go_at_call 13; refine (cle _).mono ?_; rintro e u5 ⟨rfl, g⟩; replace G := gtrans G g; obtain ⟨hc, hf⟩ := bcell G))
  replace rx0 := kold G (.cells #[.bool kle, .int .i64 nle] 23) sx rx0
  replace rx1 := kold G (.cells #[.bool kle, .int .i64 nle] 23) sx rx1
  replace sx := ksize G (.cells #[.bool kle, .int .i64 nle] 23) sx
  replace ry0 := kold G (.cells #[.bool kle, .int .i64 nle] 23) sy ry0
  replace ry1 := kold G (.cells #[.bool kle, .int .i64 nle] 23) sy ry1
  replace sy := ksize G (.cells #[.bool kle, .int .i64 nle] 23) sy
  replace rlt0 := kold G (.cells #[.bool kle, .int .i64 nle] 23) slt rlt0
  replace rlt1 := kold G (.cells #[.bool kle, .int .i64 nle] 23) slt rlt1
  replace slt := ksize G (.cells #[.bool kle, .int .i64 nle] 23) slt
  replace req0 := kold G (.cells #[.bool kle, .int .i64 nle] 23) seq req0
  replace req1 := kold G (.cells #[.bool kle, .int .i64 nle] 23) seq req1
  replace seq := ksize G (.cells #[.bool kle, .int .i64 nle] 23) seq
  replace rgt0 := kold G (.cells #[.bool kle, .int .i64 nle] 23) sgt rgt0
  replace rgt1 := kold G (.cells #[.bool kle, .int .i64 nle] 23) sgt rgt1
  replace sgt := ksize G (.cells #[.bool kle, .int .i64 nle] 23) sgt
  replace B := galloc (gtrans B G) (.cells #[.bool kle, .int .i64 nle] 23)
  have rle0 := knew u5 #[.bool kle, .int .i64 nle] 23 0 _ rfl
  have rle1 := knew u5 #[.bool kle, .int .i64 nle] 23 1 _ rfl
  have sle := ksnew u5 (.cells #[.bool kle, .int .i64 nle] 23)
  clear G
  generalize (u5.alloc (.cells #[.bool kle, .int .i64 nle] 23)) = V6 at *
  have G := Below.refl V6.heap.size V6
  go_upto_region 8 with (first | (go_at_call 13; refine (cge _).mono ?_; rintro e u6 ⟨rfl, g⟩; replace G := gtrans G g; obtain ⟨hc, hf⟩ := bcell G))
  replace rx0 := kold G (.cells #[.bool kge, .int .i64 nge] 23) sx rx0
  replace rx1 := kold G (.cells #[.bool kge, .int .i64 nge] 23) sx rx1
  replace sx := ksize G (.cells #[.bool kge, .int .i64 nge] 23) sx
  replace ry0 := kold G (.cells #[.bool kge, .int .i64 nge] 23) sy ry0
  replace ry1 := kold G (.cells #[.bool kge, .int .i64 nge] 23) sy ry1
  replace sy := ksize G (.cells #[.bool kge, .int .i64 nge] 23) sy
  replace rlt0 := kold G (.cells #[.bool kge, .int .i64 nge] 23) slt rlt0
  replace rlt1 := kold G (.cells #[.bool kge, .int .i64 nge] 23) slt rlt1
  replace slt := ksize G (.cells #[.bool kge, .int .i64 nge] 23) slt
  replace req0 := kold G (.cells #[.bool kge, .int .i64 nge] 23) seq req0
  replace req1 := kold G (.cells #[.bool kge, .int .i64 nge] 23) seq req1
  replace seq := ksize G (.cells #[.bool kge, .int .i64 nge] 23) seq
  replace rgt0 := kold G (.cells #[.bool kge, .int .i64 nge] 23) sgt rgt0
  replace rgt1 := kold G (.cells #[.bool kge, .int .i64 nge] 23) sgt rgt1
  replace sgt := ksize G (.cells #[.bool kge, .int .i64 nge] 23) sgt
  replace rle0 := kold G (.cells #[.bool kge, .int .i64 nge] 23) sle rle0
  replace rle1 := kold G (.cells #[.bool kge, .int .i64 nge] 23) sle rle1
  replace sle := ksize G (.cells #[.bool kge, .int .i64 nge] 23) sle
  replace B := galloc (gtrans B G) (.cells #[.bool kge, .int .i64 nge] 23)
  have rge0 := knew u6 #[.bool kge, .int .i64 nge] 23 0 _ rfl
  have rge1 := knew u6 #[.bool kge, .int .i64 nge] 23 1 _ rfl
  have sge := ksnew u6 (.cells #[.bool kge, .int .i64 nge] 23)
  clear G
  generalize (u6.alloc (.cells #[.bool kge, .int .i64 nge] 23)) = V7 at *
  have G := Below.refl V7.heap.size V7
  go_upto_region 9 with (first | (go_at_call 13; refine (cne _).mono ?_; rintro e u7 ⟨rfl, g⟩; replace G := gtrans G g; obtain ⟨hc, hf⟩ := bcell G))
  replace rx0 := kold G (.cells #[.bool kne, .int .i64 nne] 23) sx rx0
  replace rx1 := kold G (.cells #[.bool kne, .int .i64 nne] 23) sx rx1
  replace sx := ksize G (.cells #[.bool kne, .int .i64 nne] 23) sx
  replace ry0 := kold G (.cells #[.bool kne, .int .i64 nne] 23) sy ry0
  replace ry1 := kold G (.cells #[.bool kne, .int .i64 nne] 23) sy ry1
  replace sy := ksize G (.cells #[.bool kne, .int .i64 nne] 23) sy
  replace rlt0 := kold G (.cells #[.bool kne, .int .i64 nne] 23) slt rlt0
  replace rlt1 := kold G (.cells #[.bool kne, .int .i64 nne] 23) slt rlt1
  replace slt := ksize G (.cells #[.bool kne, .int .i64 nne] 23) slt
  replace req0 := kold G (.cells #[.bool kne, .int .i64 nne] 23) seq req0
  replace req1 := kold G (.cells #[.bool kne, .int .i64 nne] 23) seq req1
  replace seq := ksize G (.cells #[.bool kne, .int .i64 nne] 23) seq
  replace rgt0 := kold G (.cells #[.bool kne, .int .i64 nne] 23) sgt rgt0
  replace rgt1 := kold G (.cells #[.bool kne, .int .i64 nne] 23) sgt rgt1
  replace sgt := ksize G (.cells #[.bool kne, .int .i64 nne] 23) sgt
  replace rle0 := kold G (.cells #[.bool kne, .int .i64 nne] 23) sle rle0
  replace rle1 := kold G (.cells #[.bool kne, .int .i64 nne] 23) sle rle1
  replace sle := ksize G (.cells #[.bool kne, .int .i64 nne] 23) sle
  replace rge0 := kold G (.cells #[.bool kne, .int .i64 nne] 23) sge rge0
  replace rge1 := kold G (.cells #[.bool kne, .int .i64 nne] 23) sge rge1
  replace sge := ksize G (.cells #[.bool kne, .int .i64 nne] 23) sge
  replace B := galloc (gtrans B G) (.cells #[.bool kne, .int .i64 nne] 23)
  have rne0 := knew u7 #[.bool kne, .int .i64 nne] 23 0 _ rfl
  have rne1 := knew u7 #[.bool kne, .int .i64 nne] 23 1 _ rfl
  have sne := ksnew u7 (.cells #[.bool kne, .int .i64 nne] 23)
  clear G
  generalize (u7.alloc (.cells #[.bool kne, .int .i64 nne] 23)) = V8 at *
  have G := Below.refl V8.heap.size V8
  clear clt ceq cgt cle cge cne
  have tri : (a0 < a1 ∧ nlt = 1 ∧ neq = 0 ∧ ngt = 0 ∧ nle = 1 ∧ nge = 0 ∧ nne = 1 ∧ nbk = 1 ∧ (a0 == a1) = false) ∨ ((a0 ≤ a1 ∧ a1 ≤ a0) ∧ nlt = 0 ∧ neq = 1 ∧ ngt = 0 ∧ nle = 1 ∧ nge = 1 ∧ nne = 0 ∧ nbk = 0 ∧ (a0 == a1) = true) ∨ (a1 < a0 ∧ nlt = 0 ∧ neq = 0 ∧ ngt = 1 ∧ nle = 0 ∧ nge = 1 ∧ nne = 1 ∧ nbk = 0 ∧ (a0 == a1) = false) := tri_of Hlt.out.2 Heq.out.2 Hgt.out.2 Hle.out.2 Hge.out.2 Hne.out.2 Hbk.out.2
  have qlt := Hlt.out.1
  have qeq := Heq.out.1
  have qgt := Hgt.out.1
  have qle := Hle.out.1
  have qge := Hge.out.1
  have qne := Hne.out.1
  have qbk := Hbk.out.1
  clear Hlt Heq Hgt Hle Hge Hne Hbk
  subst qlt qeq qgt qle qge qne qbk
  rcases tri with ⟨h0, h1, h2, h3, h4, h5, h6, h7, h8⟩ | ⟨h0, h1, h2, h3, h4, h5, h6, h7, h8⟩ | ⟨h0, h1, h2, h3, h4, h5, h6, h7, h8⟩
  all_goals
    subst h1 h2 h3 h4 h5 h6
    have h9 : Hid (nbk = _) := h7
    clear h7
    go_upto_region 13 with fail
    go_upto_region 14 with (first | (go_at_call 13; refine (cbk _).mono ?_; rintro e u8 ⟨rfl, g⟩; replace G := gtrans G g; obtain ⟨hc, hf⟩ := bcell G))
    replace rx0 := kold G (.cells #[.bool true, .int .i64 nbk] 23) sx rx0
    replace rx1 := kold G (.cells #[.bool true, .int .i64 nbk] 23) sx rx1
    replace sx := ksize G (.cells #[.bool true, .int .i64 nbk] 23) sx
    replace ry0 := kold G (.cells #[.bool true, .int .i64 nbk] 23) sy ry0
    replace ry1 := kold G (.cells #[.bool true, .int .i64 nbk] 23) sy ry1
    replace sy := ksize G (.cells #[.bool true, .int .i64 nbk] 23) sy
    replace rlt0 := kold G (.cells #[.bool true, .int .i64 nbk] 23) slt rlt0
    replace rlt1 := kold G (.cells #[.bool true, .int .i64 nbk] 23) slt rlt1
    replace slt := ksize G (.cells #[.bool true, .int .i64 nbk] 23) slt
    replace req0 := kold G (.cells #[.bool true, .int .i64 nbk] 23) seq req0
    replace req1 := kold G (.cells #[.bool true, .int .i64 nbk] 23) seq req1
    replace seq := ksize G (.cells #[.bool true, .int .i64 nbk] 23) seq
    replace rgt0 := kold G (.cells #[.bool true, .int .i64 nbk] 23) sgt rgt0
    replace rgt1 := kold G (.cells #[.bool true, .int .i64 nbk] 23) sgt rgt1
    replace sgt := ksize G (.cells #[.bool true, .int .i64 nbk] 23) sgt
    replace rle0 := kold G (.cells #[.bool true, .int .i64 nbk] 23) sle rle0
    replace rle1 := kold G (.cells #[.bool true, .int .i64 nbk] 23) sle rle1
    replace sle := ksize G (.cells #[.bool true, .int .i64 nbk] 23) sle
    replace rge0 := kold G (.cells #[.bool true, .int .i64 nbk] 23) sge rge0
    replace rge1 := kold G (.cells #[.bool true, .int .i64 nbk] 23) sge rge1
    replace sge := ksize G (.cells #[.bool true, .int .i64 nbk] 23) sge
    replace rne0 := kold G (.cells #[.bool true, .int .i64 nbk] 23) sne rne0
    replace rne1 := kold G (.cells #[.bool true, .int .i64 nbk] 23) sne rne1
    replace sne := ksize G (.cells #[.bool true, .int .i64 nbk] 23) sne
    replace B := galloc (gtrans B G) (.cells #[.bool true, .int .i64 nbk] 23)
    have rbk0 := knew u8 #[.bool true, .int .i64 nbk] 23 0 _ rfl
    have rbk1 := knew u8 #[.bool true, .int .i64 nbk] 23 1 _ rfl
    have sbk := ksnew u8 (.cells #[.bool true, .int .i64 nbk] 23)
    clear G
    generalize (u8.alloc (.cells #[.bool true, .int .i64 nbk] 23)) = V9 at *
    have G := Below.refl V9.heap.size V9
    have h7 := h9.out
    clear h9
    subst h7
    go_upto_region 16 with fail
    clear req0 req1 seq rgt0 rgt1 sgt rle0 rle1 sle rge0 rge1 sge rne0 rne1 sne rbk0 rbk1 sbk
    have qon := Hon.out.1
    have qov := Hov.out.1
    subst qon qov
    have G0 := Below.refl V9.heap.size V9
    replace G := G.drew
    go_cut [16] from 138 to 141 (fun sl wx => ∃ b, sl = .pointer (some ⟨b, 0, none⟩) ∧ wx.cell? ⟨b, 0, none⟩ = some (.bool true) ∧ wx.cell? ⟨b, 1, none⟩ = some (.int .i64 non) ∧ b < wx.heap.size ∧ Below V9.heap.size V9 wx)
    case first =>
      go_region_with (first | (go_at_call 9; refine (number_any _ _).mono ?_; rintro e u9 ⟨rfl, g⟩; (first | replace G := gtrans G g | replace G := gtrans (galloc G _) g | replace G := gtrans (galloc G0 _).drew g); obtain ⟨hc, hf⟩ := bcell G; obtain ⟨hd, he⟩ := bcell g; have hl := bsize g; have hm := bsize G; have hz := G.size) | (go_at_call 13; refine (con _).mono ?_; rintro e u9 ⟨rfl, g⟩; (first | replace G := gtrans G g | replace G := gtrans (galloc G _) g | replace G := gtrans (galloc G0 _).drew g); obtain ⟨hc, hf⟩ := bcell G; obtain ⟨hd, he⟩ := bcell g; have hl := bsize g; have hm := bsize G; have hz := G.size))
      all_goals
        go_wp2_with fail
        go_meet
        first | exact relA G true non _ | (refine relB G true non ?_ ?_ ?_ ?_ <;> first | (go_simp; done) | omega | (simp; omega))
    case rest =>
    obtain ⟨bon, rfl, ron0, ron1, son, G1⟩ := hcut
    replace rx0 := kkeep G1 sx rx0
    replace rx1 := kkeep G1 sx rx1
    replace sx := Nat.lt_of_lt_of_le sx G1.size
    replace ry0 := kkeep G1 sy ry0
    replace ry1 := kkeep G1 sy ry1
    replace sy := Nat.lt_of_lt_of_le sy G1.size
    replace rlt0 := kkeep G1 slt rlt0
    replace rlt1 := kkeep G1 slt rlt1
    replace slt := Nat.lt_of_lt_of_le slt G1.size
    replace B := gtrans B G1
    clear G G1 G0
    have G := Below.refl wc.heap.size wc
    go_upto_region 17 with fail
    have G0 := Below.refl wc.heap.size wc
    replace G := G.drew
    go_cut [17] from 142 to 145 (fun sl wx => ∃ b, sl = .pointer (some ⟨b, 0, none⟩) ∧ wx.cell? ⟨b, 0, none⟩ = some (.bool true) ∧ wx.cell? ⟨b, 1, none⟩ = some (.int .i64 nov) ∧ b < wx.heap.size ∧ Below wc.heap.size wc wx)
    case first =>
      go_region_with (first | (go_at_call 9; refine (number_any _ _).mono ?_; rintro e u10 ⟨rfl, g⟩; (first | replace G := gtrans G g | replace G := gtrans (galloc G _) g | replace G := gtrans (galloc G0 _).drew g); obtain ⟨hc, hf⟩ := bcell G; obtain ⟨hd, he⟩ := bcell g; have hl := bsize g; have hm := bsize G; have hz := G.size) | (go_at_call 13; refine (cov _).mono ?_; rintro e u10 ⟨rfl, g⟩; (first | replace G := gtrans G g | replace G := gtrans (galloc G _) g | replace G := gtrans (galloc G0 _).drew g); obtain ⟨hc, hf⟩ := bcell G; obtain ⟨hd, he⟩ := bcell g; have hl := bsize g; have hm := bsize G; have hz := G.size))
      all_goals
        go_wp2_with fail
        go_meet
        first | exact relA G true nov _ | (refine relB G true nov ?_ ?_ ?_ ?_ <;> first | (go_simp; done) | omega | (simp; omega))
    case rest =>
    obtain ⟨bov, rfl, rov0, rov1, sov, G1⟩ := hcut
    replace rx0 := kkeep G1 sx rx0
    replace rx1 := kkeep G1 sx rx1
    replace sx := Nat.lt_of_lt_of_le sx G1.size
    replace ry0 := kkeep G1 sy ry0
    replace ry1 := kkeep G1 sy ry1
    replace sy := Nat.lt_of_lt_of_le sy G1.size
    replace rlt0 := kkeep G1 slt rlt0
    replace rlt1 := kkeep G1 slt rlt1
    replace slt := Nat.lt_of_lt_of_le slt G1.size
    replace ron0 := kkeep G1 son ron0
    replace ron1 := kkeep G1 son ron1
    replace son := Nat.lt_of_lt_of_le son G1.size
    replace B := gtrans B G1
    clear G G1 G0
    have G := Below.refl wc.heap.size wc
    have ton := bit_lt Hon.out.2
    have tov := bit_lt Hov.out.2
    clear Hon Hov con cov
    rcases ton with ⟨g1, g2⟩ | ⟨g1, g2⟩ <;> rcases tov with ⟨g3, g4⟩ | ⟨g3, g4⟩
    all_goals try (exfalso; omega)
    all_goals
      subst g2
      go_upto_region 20 with fail
      go_upto_region 21 with (first | (go_at_call 10; refine (cd _).mono ?_; rintro e u11 ⟨rfl, g⟩; replace G := gtrans G g; obtain ⟨hc, hf⟩ := bcell G))
      replace rx0 := kold G (.cells #[.bool kd, .int .i64 nd] 23) sx rx0
      replace rx1 := kold G (.cells #[.bool kd, .int .i64 nd] 23) sx rx1
      replace sx := ksize G (.cells #[.bool kd, .int .i64 nd] 23) sx
      replace ry0 := kold G (.cells #[.bool kd, .int .i64 nd] 23) sy ry0
      replace ry1 := kold G (.cells #[.bool kd, .int .i64 nd] 23) sy ry1
      replace sy := ksize G (.cells #[.bool kd, .int .i64 nd] 23) sy
      replace rlt0 := kold G (.cells #[.bool kd, .int .i64 nd] 23) slt rlt0
      replace rlt1 := kold G (.cells #[.bool kd, .int .i64 nd] 23) slt rlt1
      replace slt := ksize G (.cells #[.bool kd, .int .i64 nd] 23) slt
      replace ron0 := kold G (.cells #[.bool kd, .int .i64 nd] 23) son ron0
      replace ron1 := kold G (.cells #[.bool kd, .int .i64 nd] 23) son ron1
      replace son := ksize G (.cells #[.bool kd, .int .i64 nd] 23) son
      replace rov0 := kold G (.cells #[.bool kd, .int .i64 nd] 23) sov rov0
      replace rov1 := kold G (.cells #[.bool kd, .int .i64 nd] 23) sov rov1
      replace sov := ksize G (.cells #[.bool kd, .int .i64 nd] 23) sov
      replace B := galloc (gtrans B G) (.cells #[.bool kd, .int .i64 nd] 23)
      have rd0 := knew u11 #[.bool kd, .int .i64 nd] 23 0 _ rfl
      have rd1 := knew u11 #[.bool kd, .int .i64 nd] 23 1 _ rfl
      have sd := ksnew u11 (.cells #[.bool kd, .int .i64 nd] 23)
      clear G
      generalize (u11.alloc (.cells #[.bool kd, .int .i64 nd] 23)) = V12 at *
      have G := Below.refl V12.heap.size V12
      subst g4
      obtain ⟨e1, e2⟩ := Hd.out
      rw [opK_tt] at e1
      rw [opN_tt] at e2
      cases hfit : fitsB (a0 - a1)
      · rw [hfit] at e1
        clear e2
        subst e1
        go_wp2
        go_ret
        exact ⟨rfl, B⟩
      · rw [hfit] at e1
        rw [fitN_yes _ hfit] at e2
        have e3 : (nd < 0 ∧ a0 < a1) ∨ (0 ≤ nd ∧ a1 ≤ a0) := by omega
        clear e2
        subst e1
        rcases e3 with e3 | e3
        all_goals try (exfalso; omega)
        all_goals
          go_wp2
          go_ret
          first | exact ⟨rfl, B⟩ | exact ⟨ret_bool (by first | (simp; omega) | (simp_all; done)), B⟩

theorem own : ownKnob Try.prog.godebug = none := by kernel_rfl
theorem laidOut : laidOutB Try.prog = true := by kernel_rfl

set_option maxRecDepth 100000 in
theorem lifted (os : Os) (started : os.Started) (H : Type) (enc : TypeId × Value → H) :
    ReturnsInHanded {} Try.checked os 5 .any (Rows.numOrdersSpec.pre6 enc Try.prog Try.f5 Rows.numOrdersRow.domain false) (Rows.numOrdersSpec.post enc Try.prog Try.f5 false true false false) := by
  refine returnsInHanded_of_change (C := Try.checked) own started (by kernel_rfl) Try.func5
    (ChangeSpec.witness6 (enc := enc) (C := Try.checked) false ⟨#[], #[.int .i64 0, .int .i64 0, .int .i64 0], []⟩ 8 (by kernel_rfl) (by kernel_rfl) (by kernel_rfl) (by kernel_rfl)) ?_
  intro W base args ds gs before hval0 hW hcnd _
  have hval : ∀ (j : Nat) t v, Try.f5.params[j]? = some t → args[j]? = some v → Value.okWide Try.prog W .any base t v := hval0
  have hW' := hW
  obtain ⟨p, q, hA0, hV, rfl, hfz, hnd⟩ := hW
  have hA : DataW.TrodAll enc Try.prog W 0 (fun _ => true) true Try.f5.params.toList args.toList ds p := hA0
  rw [Try.params5] at hA hval
  obtain ⟨v0, vs0, d0, ds0, p0, q0, hargs, rfl, rfl, h0, r0⟩ := trodAll_cons hA
  obtain ⟨v1, vs1, d1, ds1, p1, q1, rfl, rfl, rfl, h1, r1⟩ := trodAll_cons r0
  obtain ⟨v2, vs2, d2, ds2, p2, q2, rfl, rfl, rfl, h2, r2⟩ := trodAll_cons r1
  obtain ⟨rfl, rfl, rfl⟩ := trodAll_nil r2
  obtain rfl : args = #[v0, v1, v2] := by cases args; simp_all
  obtain ⟨rfl, rfl⟩ := trodVars_none hV
  have k0 := h0
  have lt0 : ∀ x ∈ p0, x.block < W.heap.size := by obtain ⟨m, hm⟩ := k0; exact DataW.trod_lt m _ _ _ hm
  obtain ⟨a0, e0, _, _, w0⟩ := open_int Try.underlying2 (hval 0 2 v0 rfl rfl) h0
  subst e0
  have k1 := h1
  have lt1 : ∀ x ∈ p1, x.block < W.heap.size := by obtain ⟨m, hm⟩ := k1; exact DataW.trod_lt m _ _ _ hm
  obtain ⟨a1, e1, _, _, w1⟩ := open_int Try.underlying2 (hval 1 2 v1 rfl rfl) h1
  subst e1
  have k2 := h2
  have lt2 : ∀ x ∈ p2, x.block < W.heap.size := by obtain ⟨m, hm⟩ := k2; exact DataW.trod_lt m _ _ _ hm
  obtain ⟨a2, e2, _, _, w2⟩ := open_int Try.underlying2 (hval 2 2 v2 rfl rfl) h2
  subst e2
  clear hA0 hval0
  refine (walk a0 w0 a1 w1 a2 w2 W).mono fun e W' ⟨he, bel⟩ => ?_
  subst he
  exact ⟨_, rfl, _, _, _, [], _, [], hW', trodAll_mk1 (shut_bool Try.underlying4 _), (trodAll_cons_mk (Below.trod laidOut (by kernel_rfl) (of_decide_eq_true (by kernel_rfl)) k0 bel lt0) (trodAll_cons_mk (Below.trod laidOut (by kernel_rfl) (of_decide_eq_true (by kernel_rfl)) k1 bel lt1) (trodAll_cons_mk (Below.trod laidOut (by kernel_rfl) (of_decide_eq_true (by kernel_rfl)) k2 bel lt2) trodAll_mk0))), rfl, bel.frame _, fun h => by cases h⟩

theorem over : Rows.numOrdersRow.holds Try.pinned (OpenSpec.ofChange Rows.numOrdersSpec) :=
  OpenClaim.holds_of_wide 5 Try.f5 rfl rfl rfl rfl rfl rfl rfl ⟨rfl, rfl, rfl, rfl, rfl⟩ rfl rfl rfl rfl rfl (by kernel_rfl) Try.func5 (by kernel_rfl)
    (of_decide_eq_true (by kernel_rfl)) (by unfold Func.isWrapper; first | (rw [if_pos (by decide +kernel)]; kernel_rfl) | (rw [if_neg (by decide +kernel)]; exact ⟨rfl, rfl⟩))
    (fun os started H enc _ => lifted os started H enc)

end Go.Proofs.Ytcjldhnjcmhfhaa.numOrders
namespace Go.Proofs.Ytcjldhnjcmhfhaa
theorem numOrders_holds : Rows.NumOrdersSaid := numOrders.over
#print axioms numOrders_holds
end Go.Proofs.Ytcjldhnjcmhfhaa
