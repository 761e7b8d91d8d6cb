/- What the document's own Div and Mod come to: the same as num's. -/
import Derived.Test.YtjeffmfnaihhjaaDoorRef1
namespace Go.Proofs.YtjeffmfnaihhjaaDoor
open Go.RowKit
set_option linter.unusedVariables false
set_option maxHeartbeats 400000 in
theorem refDiv_no (ka kb : Bool) (a b : Int) (w : World) (h : (ka && kb) = false) :
    Calls Tryd.prog 68 #[.agg #[.bool ka, .int .i64 a], .agg #[.bool kb, .int .i64 b]] w fun e w' => e = .returned (.agg #[.bool false, .int .i64 0]) ∧ Below w.heap.size w w' := by
  cases ka <;> cases kb <;> first | (simp at h; done) | clear h
  all_goals
    go_enter Tryd.func68, Tryd.ntmps68
    go_wp2_with (go_at_call 28; refine (refNothing_any _).mono ?_; rintro e w0 ⟨rfl, g0⟩; obtain ⟨hc0, hf0⟩ := bcell g0)
    refine bodyPost_ret (v := .agg #[.bool false, .int .i64 0]) (by simp [results, Tryd.results68, go_sem, hc0]) rfl ⟨rfl, ?_⟩
    exact gset (gset (gtrans (galloc (galloc (galloc (Below.refl _ _) _) _) _) g0) (by simp; omega) _) (by simp; omega) _

set_option maxHeartbeats 400000 in
theorem refDiv_zero (a : Int) (w : World) :
    Calls Tryd.prog 68 #[.agg #[.bool true, .int .i64 a], .agg #[.bool true, .int .i64 0]] w fun e w' => e = .returned (.agg #[.bool false, .int .i64 0]) ∧ Below w.heap.size w w' := by
  go_enter Tryd.func68, Tryd.ntmps68
  go_wp2_with (go_at_call 28; refine (refNothing_any _).mono ?_; rintro e w0 ⟨rfl, g0⟩; obtain ⟨hc0, hf0⟩ := bcell g0)
  refine bodyPost_ret (v := .agg #[.bool false, .int .i64 0]) (by simp [results, Tryd.results68, go_sem, hc0]) rfl ⟨rfl, ?_⟩
  exact gset (gset (gtrans (galloc (galloc (galloc (Below.refl _ _) _) _) _) g0) (by simp; omega) _) (by simp; omega) _

set_option maxHeartbeats 1000000 in
theorem refDiv_yes (a b : Int) (w : World) (ha : fitsB a = true) (h0 : (b == 0) = false) (h1 : (b == -1) = false) :
    Calls Tryd.prog 68 #[.agg #[.bool true, .int .i64 a], .agg #[.bool true, .int .i64 b]] w fun e w' => e = .returned (.agg #[.bool true, .int .i64 (a.tdiv b)]) ∧ Below w.heap.size w w' := by
  have hw := wrap_fits _ (tdiv_fits a b ha (by simpa using h1))
  have h0' : ¬ b = 0 := by simpa using h0
  go_enter Tryd.func68, Tryd.ntmps68
  go_wp2_with (go_at_call 61; refine (refNumber_any _ _).mono ?_; rintro e w0 ⟨rfl, g0⟩; obtain ⟨hc0, hf0⟩ := bcell g0)
  refine bodyPost_ret (v := .agg #[.bool true, .int .i64 (a.tdiv b)]) (by simp [results, Tryd.results68, go_sem, hc0]) rfl ⟨rfl, ?_⟩
  exact gset (gset (gtrans (galloc (galloc (galloc (Below.refl _ _) _) _) _) g0) (by simp; omega) _) (by simp; omega) _

set_option maxHeartbeats 1000000 in
theorem refDiv_neg (a : Int) (w : World) (ha : fitsB a = true) :
    Calls Tryd.prog 68 #[.agg #[.bool true, .int .i64 a], .agg #[.bool true, .int .i64 (-1)]] w fun e w' => e = .returned (.agg #[.bool (opK true true (0 - a)), .int .i64 (opN true true (0 - a))]) ∧ Below w.heap.size w w' := by
  go_enter Tryd.func68, Tryd.ntmps68
  go_wp2_with (go_at_call 48; refine (refNeg_any _ _ _ ha).mono ?_; rintro e w0 ⟨rfl, g0⟩; obtain ⟨hc0, hf0⟩ := bcell g0)
  refine bodyPost_ret (v := .agg #[.bool (opK true true (0 - a)), .int .i64 (opN true true (0 - a))]) (by simp [results, Tryd.results68, go_sem, hc0]) rfl ⟨rfl, ?_⟩
  exact gset (gset (gtrans (galloc (galloc (galloc (Below.refl _ _) _) _) _) g0) (by simp; omega) _) (by simp; omega) _

theorem refDiv_any (ka kb : Bool) (a b : Int) (w : World) (ha : fitsB a = true) :
    Calls Tryd.prog 68 #[.agg #[.bool ka, .int .i64 a], .agg #[.bool kb, .int .i64 b]] w fun e w' => e = .returned (.agg #[.bool (opK ka (kb && !(b == 0)) (a.tdiv b)), .int .i64 (opN ka (kb && !(b == 0)) (a.tdiv b))]) ∧ Below w.heap.size w w' := by
  cases h : (ka && kb)
  · have h' : (ka && (kb && !(b == 0))) = false := by cases ka <;> cases kb <;> simp_all
    rw [opK_no _ _ _ h', opN_no _ _ _ h']; exact refDiv_no ka kb a b w h
  · simp only [Bool.and_eq_true] at h
    obtain ⟨rfl, rfl⟩ := h
    cases h0 : (b == 0)
    · cases h1 : (b == -1)
      · have hf := tdiv_fits a b ha (by simpa using h1)
        simp only [Bool.not_false, Bool.and_true, opK_tt, opN_tt, fitN_yes _ hf, hf]
        exact refDiv_yes a b w ha h0 h1
      · have : b = -1 := by simpa using h1
        subst this
        have e : a.tdiv (-1) = 0 - a := by rw [Int.tdiv_neg, Int.tdiv_one]; omega
        rw [e]; exact refDiv_neg a w ha
    · have : b = 0 := by simpa using h0
      subst this
      simp only [Bool.not_true, Bool.and_false, opK_f2, opN_f2]
      exact refDiv_zero a w

set_option maxHeartbeats 400000 in
theorem refMod_no (ka kb : Bool) (a b : Int) (w : World) (h : (ka && kb) = false) :
    Calls Tryd.prog 69 #[.agg #[.bool ka, .int .i64 a], .agg #[.bool kb, .int .i64 b]] w fun e w' => e = .returned (.agg #[.bool false, .int .i64 0]) ∧ Below w.heap.size w w' := by
  cases ka <;> cases kb <;> first | (simp at h; done) | clear h
  all_goals
    go_enter Tryd.func69, Tryd.ntmps69
    go_wp2_with (go_at_call 28; refine (refNothing_any _).mono ?_; rintro e w0 ⟨rfl, g0⟩; obtain ⟨hc0, hf0⟩ := bcell g0)
    refine bodyPost_ret (v := .agg #[.bool false, .int .i64 0]) (by simp [results, Tryd.results69, go_sem, hc0]) rfl ⟨rfl, ?_⟩
    exact gset (gset (gtrans (galloc (galloc (galloc (Below.refl _ _) _) _) _) g0) (by simp; omega) _) (by simp; omega) _

set_option maxHeartbeats 400000 in
theorem refMod_zero (a : Int) (w : World) :
    Calls Tryd.prog 69 #[.agg #[.bool true, .int .i64 a], .agg #[.bool true, .int .i64 0]] w fun e w' => e = .returned (.agg #[.bool false, .int .i64 0]) ∧ Below w.heap.size w w' := by
  go_enter Tryd.func69, Tryd.ntmps69
  go_wp2_with (go_at_call 28; refine (refNothing_any _).mono ?_; rintro e w0 ⟨rfl, g0⟩; obtain ⟨hc0, hf0⟩ := bcell g0)
  refine bodyPost_ret (v := .agg #[.bool false, .int .i64 0]) (by simp [results, Tryd.results69, go_sem, hc0]) rfl ⟨rfl, ?_⟩
  exact gset (gset (gtrans (galloc (galloc (galloc (Below.refl _ _) _) _) _) g0) (by simp; omega) _) (by simp; omega) _

theorem wrapEq (x : Int) : IntKind.i64.wrap x = wrap64 x := by rw [IntKind.wrap_i64]; unfold wrap64; rfl
theorem mul_back (a b : Int) (ha : fitsB a = true) : fitsB (b * a.tdiv b) = true ∧ a - b * a.tdiv b = a.tmod b := by
  have h1 := Int.tmod_add_mul_tdiv a b
  have h2 := tmod_fits a b ha
  have h6 : a < 0 → a.tmod b ≤ 0 := fun h => by
    have := Int.tmod_nonneg (a := -a) b (by omega)
    rw [Int.neg_tmod] at this; omega
  have h5 : 0 ≤ a → 0 ≤ a.tmod b := fun h => Int.tmod_nonneg b h
  have h3 := Int.natAbs_tmod a b
  have h4 : a.natAbs % b.natAbs ≤ a.natAbs := Nat.mod_le _ _
  rw [← h3] at h4
  rw [fits_iff] at *
  generalize b * a.tdiv b = m at *
  omega

set_option maxHeartbeats 4000000 in
theorem refMod_yes (a b : Int) (w : World) (ha : fitsB a = true) (h0 : (b == 0) = false) (h1 : (b == -1) = false) :
    Calls Tryd.prog 69 #[.agg #[.bool true, .int .i64 a], .agg #[.bool true, .int .i64 b]] w fun e w' => e = .returned (.agg #[.bool true, .int .i64 (a.tmod b)]) ∧ Below w.heap.size w w' := by
  have hw := wrap_fits _ (tdiv_fits a b ha (by simpa using h1))
  have h0' : ¬ b = 0 := by simpa using h0
  obtain ⟨hm, hm2⟩ := mul_back a b ha
  have hw2 := wrap_fits _ hm
  have hw3 := wrap_fits _ (tmod_fits a b ha)
  have hi1 : IntKind.i64.wrap (a.tdiv b) = a.tdiv b := (wrapEq _).trans hw
  have hi2 : IntKind.i64.wrap (b * a.tdiv b) = b * a.tdiv b := (wrapEq _).trans hw2
  have hi3 : IntKind.i64.wrap (a.tmod b) = a.tmod b := (wrapEq _).trans hw3
  go_enter Tryd.func69, Tryd.ntmps69
  go_wp2
  go_region_with (go_at_call 61; refine (refNumber_any _ _).mono ?_; rintro e w0 ⟨rfl, g0⟩; obtain ⟨hc0, hf0⟩ := bcell g0)
  all_goals
    obtain ⟨hc, hf⟩ := bcell g0
    go_wp2
    refine bodyPost_ret (v := .agg #[.bool true, .int .i64 (a.tmod b)]) (by simp [results, Tryd.results69, go_sem, hc]) rfl ⟨rfl, ?_⟩
    exact gset (gset (gtrans (galloc (galloc (galloc (Below.refl _ _) _) _) _).drew g0) (by simp; omega) _) (by simp; omega) _

set_option maxHeartbeats 1000000 in
theorem refMod_neg (a : Int) (w : World) :
    Calls Tryd.prog 69 #[.agg #[.bool true, .int .i64 a], .agg #[.bool true, .int .i64 (-1)]] w fun e w' => e = .returned (.agg #[.bool true, .int .i64 0]) ∧ Below w.heap.size w w' := by
  go_enter Tryd.func69, Tryd.ntmps69
  go_wp2_with (go_at_call 61; refine (refNumber_any _ _).mono ?_; rintro e w0 ⟨rfl, g0⟩; obtain ⟨hc0, hf0⟩ := bcell g0)
  refine bodyPost_ret (v := .agg #[.bool true, .int .i64 0]) (by simp [results, Tryd.results69, go_sem, hc0]) rfl ⟨rfl, ?_⟩
  exact gset (gset (gtrans (galloc (galloc (galloc (Below.refl _ _) _) _) _) g0) (by simp; omega) _) (by simp; omega) _

theorem refMod_any (ka kb : Bool) (a b : Int) (w : World) (ha : fitsB a = true) :
    Calls Tryd.prog 69 #[.agg #[.bool ka, .int .i64 a], .agg #[.bool kb, .int .i64 b]] w fun e w' => e = .returned (.agg #[.bool (opK ka (kb && !(b == 0)) (a.tmod b)), .int .i64 (opN ka (kb && !(b == 0)) (a.tmod b))]) ∧ Below w.heap.size w w' := by
  cases h : (ka && kb)
  · have h' : (ka && (kb && !(b == 0))) = false := by cases ka <;> cases kb <;> simp_all
    rw [opK_no _ _ _ h', opN_no _ _ _ h']; exact refMod_no ka kb a b w h
  · simp only [Bool.and_eq_true] at h
    obtain ⟨rfl, rfl⟩ := h
    cases h0 : (b == 0)
    · have hf := tmod_fits a b ha
      simp only [Bool.not_false, Bool.and_true, opK_tt, opN_tt, fitN_yes _ hf, hf]
      cases h1 : (b == -1)
      · exact refMod_yes a b w ha h0 h1
      · have : b = -1 := by simpa using h1
        subst this
        have e : a.tmod (-1) = 0 := by rw [Int.tmod_neg, Int.tmod_one]
        rw [e]; exact refMod_neg a w
    · have : b = 0 := by simpa using h0
      subst this
      simp only [Bool.not_true, Bool.and_false, opK_f2, opN_f2]
      exact refMod_zero a w

end Go.Proofs.YtjeffmfnaihhjaaDoor
