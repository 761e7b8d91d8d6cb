/- What num's Div and Mod come to, of any two values, known or not. -/
import Derived.Test.YtjeffmfnaihhjaaDoorOps
namespace Go.Proofs.YtjeffmfnaihhjaaDoor
open Go.RowKit
set_option linter.unusedVariables false

theorem tdiv_fits (a b : Int) (ha : fitsB a = true) (h1 : b ≠ -1) : fitsB (a.tdiv b) = true := by
  rw [fits_iff] at *
  have h := Int.natAbs_tdiv a b
  by_cases hb : b.natAbs ≤ 1
  · have : b = 0 ∨ b = 1 := by omega
    rcases this with rfl | rfl
    · simp
    · simp; omega
  · have h2 : a.natAbs / b.natAbs ≤ a.natAbs / 2 := Nat.div_le_div_left (by omega) (by omega)
    have h3 : (a.tdiv b).natAbs ≤ a.natAbs / 2 := by rw [h]; exact h2
    omega
theorem wrap_fits (x : Int) (h : fitsB x = true) : wrap64 x = x := by
  rw [fits_iff] at h; unfold wrap64; omega
theorem tmod_fits (a b : Int) (ha : fitsB a = true) : fitsB (a.tmod b) = true := by
  rw [fits_iff] at *
  have h := Int.natAbs_tmod a b
  have h2 : a.natAbs % b.natAbs ≤ a.natAbs := Nat.mod_le _ _
  rw [← h] at h2
  have h4 : ¬ 0 ≤ a → a.tmod b ≤ 0 := fun h => by
    have := Int.tmod_nonneg (a := -a) b (by omega)
    rw [Int.neg_tmod] at this; omega
  omega

set_option maxHeartbeats 400000 in
theorem div_no (ka kb : Bool) (a b : Int) (w : World) (h : (ka && kb) = false) :
    Calls Tryd.prog 41 #[.agg #[.bool ka, .int .i64 a], .agg #[.bool kb, .int .i64 b]] w fun e w' => e = .returned (.agg #[.bool false, .int .i64 0]) ∧ Below w.heap.size w w' := by
  go_enter Tryd.func41, Tryd.ntmps41
  go_wp2_with (go_at_call 54; refine (both_any _ _ _ _ _).mono ?_; rintro e w0 ⟨rfl, g0⟩; obtain ⟨hc0, hf0⟩ := bcell g0)
  refine bodyPost_ret (v := .agg #[.bool false, .int .i64 0]) (by simp [results, Tryd.results41, go_sem, hc0]) rfl ⟨rfl, ?_⟩
  exact gset (gset (gtrans (galloc (galloc (galloc (Below.refl _ _) _) _) _) g0) (by simp; omega) _) (by simp; omega) _

set_option maxHeartbeats 400000 in
theorem div_zero (a : Int) (w : World) :
    Calls Tryd.prog 41 #[.agg #[.bool true, .int .i64 a], .agg #[.bool true, .int .i64 0]] w fun e w' => e = .returned (.agg #[.bool false, .int .i64 0]) ∧ Below w.heap.size w w' := by
  go_enter Tryd.func41, Tryd.ntmps41
  go_wp2_with (go_at_call 54; refine (both_any _ _ _ _ _).mono ?_; rintro e w0 ⟨rfl, g0⟩; obtain ⟨hc0, hf0⟩ := bcell g0)
  refine bodyPost_ret (v := .agg #[.bool false, .int .i64 0]) (by simp [results, Tryd.results41, go_sem, hc0]) rfl ⟨rfl, ?_⟩
  exact gset (gset (gtrans (galloc (galloc (galloc (Below.refl _ _) _) _) _) g0) (by simp; omega) _) (by simp; omega) _

set_option maxHeartbeats 1000000 in
theorem div_yes (a b : Int) (w : World) (ha : fitsB a = true) (h0 : (b == 0) = false) (h1 : (b == -1) = false) :
    Calls Tryd.prog 41 #[.agg #[.bool true, .int .i64 a], .agg #[.bool true, .int .i64 b]] w fun e w' => e = .returned (.agg #[.bool true, .int .i64 (a.tdiv b)]) ∧ Below w.heap.size w w' := by
  have hw := wrap_fits _ (tdiv_fits a b ha (by simpa using h1))
  have h0' : ¬ b = 0 := by simpa using h0
  go_enter Tryd.func41, Tryd.ntmps41
  go_wp2_with (first | (go_at_call 54; refine (both_any _ _ _ _ _).mono ?_; rintro e w0 ⟨rfl, g0⟩; obtain ⟨hc0, hf0⟩ := bcell g0) | (go_at_call 36; refine (known_any _ _).mono ?_; rintro e w1 ⟨rfl, g1⟩; replace g0 := gtrans g0 g1; obtain ⟨hc1, hf1⟩ := bcell g0))
  refine bodyPost_ret (v := .agg #[.bool true, .int .i64 (a.tdiv b)]) (by simp [results, Tryd.results41, go_sem, hc1]) rfl ⟨rfl, ?_⟩
  exact gset (gset (gtrans (galloc (galloc (galloc (Below.refl _ _) _) _) _) g0) (by simp; omega) _) (by simp; omega) _

set_option maxHeartbeats 1000000 in
theorem div_neg (a : Int) (w : World) (ha : fitsB a = true) :
    Calls Tryd.prog 41 #[.agg #[.bool true, .int .i64 a], .agg #[.bool true, .int .i64 (-1)]] w fun e w' => e = .returned (.agg #[.bool (opK true true (0 - a)), .int .i64 (opN true true (0 - a))]) ∧ Below w.heap.size w w' := by
  go_enter Tryd.func41, Tryd.ntmps41
  go_wp2_with (first | (go_at_call 54; refine (both_any _ _ _ _ _).mono ?_; rintro e w0 ⟨rfl, g0⟩; obtain ⟨hc0, hf0⟩ := bcell g0) | (go_at_call 23; refine (neg_any _ _ _ ha).mono ?_; rintro e w1 ⟨rfl, g1⟩; replace g0 := gtrans g0 g1; obtain ⟨hc1, hf1⟩ := bcell g0))
  refine bodyPost_ret (v := .agg #[.bool (opK true true (0 - a)), .int .i64 (opN true true (0 - a))]) (by simp [results, Tryd.results41, go_sem, hc1]) rfl ⟨rfl, ?_⟩
  exact gset (gset (gtrans (galloc (galloc (galloc (Below.refl _ _) _) _) _) g0) (by simp; omega) _) (by simp; omega) _

theorem div_any (ka kb : Bool) (a b : Int) (w : World) (ha : fitsB a = true) :
    Calls Tryd.prog 41 #[.agg #[.bool ka, .int .i64 a], .agg #[.bool kb, .int .i64 b]] w fun e w' => e = .returned (.agg #[.bool (opK ka (kb && !(b == 0)) (a.tdiv b)), .int .i64 (opN ka (kb && !(b == 0)) (a.tdiv b))]) ∧ Below w.heap.size w w' := by
  cases h : (ka && kb)
  · have h' : (ka && (kb && !(b == 0))) = false := by cases ka <;> cases kb <;> simp_all
    rw [opK_no _ _ _ h', opN_no _ _ _ h']; exact div_no ka kb a b w h
  · simp only [Bool.and_eq_true] at h
    obtain ⟨rfl, rfl⟩ := h
    cases h0 : (b == 0)
    · cases h1 : (b == -1)
      · have hf := tdiv_fits a b ha (by simpa using h1)
        simp only [Bool.not_false, Bool.and_true, opK_tt, opN_tt, fitN_yes _ hf, hf]
        exact div_yes a b w ha h0 h1
      · have : b = -1 := by simpa using h1
        subst this
        have e : a.tdiv (-1) = 0 - a := by rw [Int.tdiv_neg, Int.tdiv_one]; omega
        rw [e]; exact div_neg a w ha
    · have : b = 0 := by simpa using h0
      subst this
      simp only [Bool.not_true, Bool.and_false, opK_f2, opN_f2]
      exact div_zero a w

set_option maxHeartbeats 400000 in
theorem mod_no (ka kb : Bool) (a b : Int) (w : World) (h : (ka && kb) = false) :
    Calls Tryd.prog 42 #[.agg #[.bool ka, .int .i64 a], .agg #[.bool kb, .int .i64 b]] w fun e w' => e = .returned (.agg #[.bool false, .int .i64 0]) ∧ Below w.heap.size w w' := by
  go_enter Tryd.func42, Tryd.ntmps42
  go_wp2_with (go_at_call 54; refine (both_any _ _ _ _ _).mono ?_; rintro e w0 ⟨rfl, g0⟩; obtain ⟨hc0, hf0⟩ := bcell g0)
  refine bodyPost_ret (v := .agg #[.bool false, .int .i64 0]) (by simp [results, Tryd.results42, go_sem, hc0]) rfl ⟨rfl, ?_⟩
  exact gset (gset (gtrans (galloc (galloc (galloc (Below.refl _ _) _) _) _) g0) (by simp; omega) _) (by simp; omega) _

set_option maxHeartbeats 400000 in
theorem mod_zero (a : Int) (w : World) :
    Calls Tryd.prog 42 #[.agg #[.bool true, .int .i64 a], .agg #[.bool true, .int .i64 0]] w fun e w' => e = .returned (.agg #[.bool false, .int .i64 0]) ∧ Below w.heap.size w w' := by
  go_enter Tryd.func42, Tryd.ntmps42
  go_wp2_with (go_at_call 54; refine (both_any _ _ _ _ _).mono ?_; rintro e w0 ⟨rfl, g0⟩; obtain ⟨hc0, hf0⟩ := bcell g0)
  refine bodyPost_ret (v := .agg #[.bool false, .int .i64 0]) (by simp [results, Tryd.results42, go_sem, hc0]) rfl ⟨rfl, ?_⟩
  exact gset (gset (gtrans (galloc (galloc (galloc (Below.refl _ _) _) _) _) g0) (by simp; omega) _) (by simp; omega) _

set_option maxHeartbeats 1000000 in
theorem mod_yes (a b : Int) (w : World) (ha : fitsB a = true) (h0 : (b == 0) = false) :
    Calls Tryd.prog 42 #[.agg #[.bool true, .int .i64 a], .agg #[.bool true, .int .i64 b]] w fun e w' => e = .returned (.agg #[.bool true, .int .i64 (a.tmod b)]) ∧ Below w.heap.size w w' := by
  have hw := wrap_fits _ (tmod_fits a b ha)
  have h0' : ¬ b = 0 := by simpa using h0
  go_enter Tryd.func42, Tryd.ntmps42
  go_wp2_with (first | (go_at_call 54; refine (both_any _ _ _ _ _).mono ?_; rintro e w0 ⟨rfl, g0⟩; obtain ⟨hc0, hf0⟩ := bcell g0) | (go_at_call 36; refine (known_any _ _).mono ?_; rintro e w1 ⟨rfl, g1⟩; replace g0 := gtrans g0 g1; obtain ⟨hc1, hf1⟩ := bcell g0))
  refine bodyPost_ret (v := .agg #[.bool true, .int .i64 (a.tmod b)]) (by simp [results, Tryd.results42, go_sem, hc1]) rfl ⟨rfl, ?_⟩
  exact gset (gset (gtrans (galloc (galloc (galloc (Below.refl _ _) _) _) _) g0) (by simp; omega) _) (by simp; omega) _

theorem mod_any (ka kb : Bool) (a b : Int) (w : World) (ha : fitsB a = true) :
    Calls Tryd.prog 42 #[.agg #[.bool ka, .int .i64 a], .agg #[.bool kb, .int .i64 b]] w fun e w' => e = .returned (.agg #[.bool (opK ka (kb && !(b == 0)) (a.tmod b)), .int .i64 (opN ka (kb && !(b == 0)) (a.tmod b))]) ∧ Below w.heap.size w w' := by
  cases h : (ka && kb)
  · have h' : (ka && (kb && !(b == 0))) = false := by cases ka <;> cases kb <;> simp_all
    rw [opK_no _ _ _ h', opN_no _ _ _ h']; exact mod_no ka kb a b w h
  · simp only [Bool.and_eq_true] at h
    obtain ⟨rfl, rfl⟩ := h
    cases h0 : (b == 0)
    · have hf := tmod_fits a b ha
      simp only [Bool.not_false, Bool.and_true, opK_tt, opN_tt, fitN_yes _ hf, hf]
      exact mod_yes a b w ha h0
    · have : b = 0 := by simpa using h0
      subst this
      simp only [Bool.not_true, Bool.and_false, opK_f2, opN_f2]
      exact mod_zero a w

end Go.Proofs.YtjeffmfnaihhjaaDoor
