/- What num's Add, Sub and Neg come to, of any two values, known or not: 'opK', 'opN' of the true result. -/
import Derived.Test.YtjeffmfnaihhjaaDoorArith
namespace Go.Proofs.YtjeffmfnaihhjaaDoor
open Go.RowKit
set_option linter.unusedVariables false

set_option maxHeartbeats 1000000 in
theorem add_yes (a b : Int) (w : World) (ha : fitsB a = true) (hb : fitsB b = true) :
    Calls Tryd.prog 39 #[.agg #[.bool true, .int .i64 a], .agg #[.bool true, .int .i64 b]] w fun e w' => e = .returned (.agg #[.bool (fitsB (a + b)), .int .i64 (fitN (a + b))]) ∧ Below w.heap.size w w' := by
  have ha' := (fits_iff a).1 ha
  have hb' := (fits_iff b).1 hb
  go_enter Tryd.func39, Tryd.ntmps39
  go_wp2_with (go_at_call 54; refine (both_any _ _ _ _ _).mono ?_; rintro e w0 ⟨rfl, h0⟩; obtain ⟨hc0, hf0⟩ := bcell h0)
  replace h0 := h0.drew
  go_region_with (first
    | (go_at_call 55; refine (widen_any _ _ (by omega) (by omega)).mono ?_; rintro e w1 ⟨rfl, h1⟩; replace h0 := gtrans h0 h1; obtain ⟨hc1, hf1⟩ := bcell h0)
    | (go_at_call 59; refine (plus_any _ _ _).mono ?_; rintro e w1 ⟨rfl, h1⟩; replace h0 := gtrans h0 h1; obtain ⟨hc1, hf1⟩ := bcell h0)
    | (go_at_call 57; refine (narrow_any _ _ (by omega) (by omega)).mono ?_; rintro e w1 ⟨rfl, h1⟩; replace h0 := gtrans h0 h1; obtain ⟨hc1, hf1⟩ := bcell h0))
  all_goals
    obtain ⟨hc, hf⟩ := bcell h0
    go_wp2
    refine bodyPost_ret (v := .agg #[.bool (fitsB (a + b)), .int .i64 (fitN (a + b))]) (by simp [results, Tryd.results39, go_sem, hc]) rfl ⟨rfl, ?_⟩
    exact gset (gset (gtrans (galloc (galloc (galloc (Below.refl _ _) _) _) _) h0) (by simp; omega) _) (by simp; omega) _

set_option maxHeartbeats 400000 in
theorem add_no (ka kb : Bool) (a b : Int) (w : World) (h : (ka && kb) = false) :
    Calls Tryd.prog 39 #[.agg #[.bool ka, .int .i64 a], .agg #[.bool kb, .int .i64 b]] w fun e w' => e = .returned (.agg #[.bool false, .int .i64 0]) ∧ Below w.heap.size w w' := by
  go_enter Tryd.func39, Tryd.ntmps39
  go_wp2_with (go_at_call 54; refine (both_any _ _ _ _ _).mono ?_; rintro e w0 ⟨rfl, h0⟩; obtain ⟨hc0, hf0⟩ := bcell h0)
  refine bodyPost_ret (v := .agg #[.bool false, .int .i64 0]) (by simp [results, Tryd.results39, go_sem, hc0]) rfl ⟨rfl, ?_⟩
  exact gset (gset (gtrans (galloc (galloc (galloc (Below.refl _ _) _) _) _) h0) (by simp; omega) _) (by simp; omega) _

theorem add_any (ka kb : Bool) (a b : Int) (w : World) (ha : fitsB a = true) (hb : fitsB b = true) :
    Calls Tryd.prog 39 #[.agg #[.bool ka, .int .i64 a], .agg #[.bool kb, .int .i64 b]] w fun e w' => e = .returned (.agg #[.bool (opK ka kb (a + b)), .int .i64 (opN ka kb (a + b))]) ∧ Below w.heap.size w w' := by
  cases h : (ka && kb)
  · have e1 : opK ka kb (a + b) = false := opK_no ka kb _ h
    have e2 : opN ka kb (a + b) = 0 := opN_no ka kb _ h
    rw [e1, e2]; exact add_no ka kb a b w h
  · simp only [Bool.and_eq_true] at h
    obtain ⟨rfl, rfl⟩ := h
    rw [opK_tt, opN_tt]; exact add_yes a b w ha hb

set_option maxHeartbeats 1000000 in
theorem sub_yes (a b : Int) (w : World) (ha : fitsB a = true) (hb : fitsB b = true) :
    Calls Tryd.prog 35 #[.agg #[.bool true, .int .i64 a], .agg #[.bool true, .int .i64 b]] w fun e w' => e = .returned (.agg #[.bool (fitsB (a - b)), .int .i64 (fitN (a - b))]) ∧ Below w.heap.size w w' := by
  have ha' := (fits_iff a).1 ha
  have hb' := (fits_iff b).1 hb
  go_enter Tryd.func35, Tryd.ntmps35
  go_wp2_with (go_at_call 54; refine (both_any _ _ _ _ _).mono ?_; rintro e w0 ⟨rfl, h0⟩; obtain ⟨hc0, hf0⟩ := bcell h0)
  replace h0 := h0.drew
  go_region_with (first
    | (go_at_call 55; refine (widen_any _ _ (by omega) (by omega)).mono ?_; rintro e w1 ⟨rfl, h1⟩; replace h0 := gtrans h0 h1; obtain ⟨hc1, hf1⟩ := bcell h0)
    | (go_at_call 56; refine (minus_any _ _ _).mono ?_; rintro e w1 ⟨rfl, h1⟩; replace h0 := gtrans h0 h1; obtain ⟨hc1, hf1⟩ := bcell h0)
    | (go_at_call 57; refine (narrow_any _ _ (by omega) (by omega)).mono ?_; rintro e w1 ⟨rfl, h1⟩; replace h0 := gtrans h0 h1; obtain ⟨hc1, hf1⟩ := bcell h0))
  all_goals
    obtain ⟨hc, hf⟩ := bcell h0
    go_wp2
    refine bodyPost_ret (v := .agg #[.bool (fitsB (a - b)), .int .i64 (fitN (a - b))]) (by simp [results, Tryd.results35, go_sem, hc]) rfl ⟨rfl, ?_⟩
    exact gset (gset (gtrans (galloc (galloc (galloc (Below.refl _ _) _) _) _) h0) (by simp; omega) _) (by simp; omega) _

set_option maxHeartbeats 400000 in
theorem sub_no (ka kb : Bool) (a b : Int) (w : World) (h : (ka && kb) = false) :
    Calls Tryd.prog 35 #[.agg #[.bool ka, .int .i64 a], .agg #[.bool kb, .int .i64 b]] w fun e w' => e = .returned (.agg #[.bool false, .int .i64 0]) ∧ Below w.heap.size w w' := by
  go_enter Tryd.func35, Tryd.ntmps35
  go_wp2_with (go_at_call 54; refine (both_any _ _ _ _ _).mono ?_; rintro e w0 ⟨rfl, h0⟩; obtain ⟨hc0, hf0⟩ := bcell h0)
  refine bodyPost_ret (v := .agg #[.bool false, .int .i64 0]) (by simp [results, Tryd.results35, go_sem, hc0]) rfl ⟨rfl, ?_⟩
  exact gset (gset (gtrans (galloc (galloc (galloc (Below.refl _ _) _) _) _) h0) (by simp; omega) _) (by simp; omega) _

theorem sub_any (ka kb : Bool) (a b : Int) (w : World) (ha : fitsB a = true) (hb : fitsB b = true) :
    Calls Tryd.prog 35 #[.agg #[.bool ka, .int .i64 a], .agg #[.bool kb, .int .i64 b]] w fun e w' => e = .returned (.agg #[.bool (opK ka kb (a - b)), .int .i64 (opN ka kb (a - b))]) ∧ Below w.heap.size w w' := by
  cases h : (ka && kb)
  · have e1 : opK ka kb (a - b) = false := opK_no ka kb _ h
    have e2 : opN ka kb (a - b) = 0 := opN_no ka kb _ h
    rw [e1, e2]; exact sub_no ka kb a b w h
  · simp only [Bool.and_eq_true] at h
    obtain ⟨rfl, rfl⟩ := h
    rw [opK_tt, opN_tt]; exact sub_yes a b w ha hb

set_option maxHeartbeats 400000 in
theorem neg_any (ka : Bool) (a : Int) (w : World) (ha : fitsB a = true) :
    Calls Tryd.prog 23 #[.agg #[.bool ka, .int .i64 a]] w fun e w' => e = .returned (.agg #[.bool (opK true ka (0 - a)), .int .i64 (opN true ka (0 - a))]) ∧ Below w.heap.size w w' := by
  go_enter Tryd.func23, Tryd.ntmps23
  go_wp2
  go_region_with (first
    | (go_at_call 36; refine (known_any _ _).mono ?_; rintro e w0 ⟨rfl, h0⟩; obtain ⟨hc0, hf0⟩ := bcell h0)
    | (go_at_call 35; refine (sub_any _ _ _ _ _ rfl ha).mono ?_; rintro e w1 ⟨rfl, h1⟩; replace h0 := gtrans h0 h1; obtain ⟨hc1, hf1⟩ := bcell h0))
  all_goals
    obtain ⟨hc, hf⟩ := bcell h0
    go_wp2
    refine bodyPost_ret (v := .agg #[.bool (opK true ka (0 - a)), .int .i64 (opN true ka (0 - a))]) (by simp [results, Tryd.results23, go_sem, hc]) rfl ⟨rfl, ?_⟩
    exact gset (gset (gtrans (galloc (galloc (Below.refl _ _) _) _).drew h0) (by simp) _) (by simp) _

end Go.Proofs.YtjeffmfnaihhjaaDoor
