/- What num's Add, Sub and Neg come to, of any two values, known or not: 'opK', 'opN' of the true result. And what goes with it: 6 texts in one. -/
import Derived.Test.YtglagbedgjkdbaaGreatDoorJb09
import Derived.Shelf.Bits.Mul64
namespace Go.Proofs.YtglagbedgjkdbaaGreatDoor
open Go.RowKit
set_option linter.unusedVariables false

set_option maxHeartbeats 1000000 in
theorem add_yes (a b : Int) (w : World) (ha : fitsB a = true) (hb : fitsB b = true) :
    Calls Tryz.prog 85 #[.agg #[.bool true, .int .i64 a], .agg #[.bool true, .int .i64 b]] w fun e w' => e = .returned (.agg #[.bool (fitsB (a + b)), .int .i64 (fitN (a + b))]) ∧ Below w.heap.size w w' := by
  have ha' := (fits_iff a).1 ha
  have hb' := (fits_iff b).1 hb
  go_enter Tryz.func85, Tryz.ntmps85
  go_wp2_with (go_at_call 117; refine (both_any _ _ _ _ _).mono ?_; rintro e w0 ⟨rfl, h0⟩; obtain ⟨hc0, hf0⟩ := bcell h0)
  replace h0 := h0.drew
  go_region_with (first
    | (go_at_call 118; refine (widen_any _ _ (by omega) (by omega)).mono ?_; rintro e w1 ⟨rfl, h1⟩; replace h0 := gtrans h0 h1; obtain ⟨hc1, hf1⟩ := bcell h0)
    | (go_at_call 121; refine (plus_any _ _ _).mono ?_; rintro e w1 ⟨rfl, h1⟩; replace h0 := gtrans h0 h1; obtain ⟨hc1, hf1⟩ := bcell h0)
    | (go_at_call 120; refine (narrow_any _ _ (by omega) (by omega)).mono ?_; rintro e w1 ⟨rfl, h1⟩; replace h0 := gtrans h0 h1; obtain ⟨hc1, hf1⟩ := bcell h0))
  all_goals
    obtain ⟨hc, hf⟩ := bcell h0
    go_wp2
    refine bodyPost_ret (v := .agg #[.bool (fitsB (a + b)), .int .i64 (fitN (a + b))]) (by simp [results, Tryz.results85, go_sem, hc]) rfl ⟨rfl, ?_⟩
    exact gset (gset (gtrans (galloc (galloc (galloc (Below.refl _ _) _) _) _) h0) (by simp; omega) _) (by simp; omega) _

set_option maxHeartbeats 400000 in
theorem add_no (ka kb : Bool) (a b : Int) (w : World) (h : (ka && kb) = false) :
    Calls Tryz.prog 85 #[.agg #[.bool ka, .int .i64 a], .agg #[.bool kb, .int .i64 b]] w fun e w' => e = .returned (.agg #[.bool false, .int .i64 0]) ∧ Below w.heap.size w w' := by
  go_enter Tryz.func85, Tryz.ntmps85
  go_wp2_with (go_at_call 117; refine (both_any _ _ _ _ _).mono ?_; rintro e w0 ⟨rfl, h0⟩; obtain ⟨hc0, hf0⟩ := bcell h0)
  refine bodyPost_ret (v := .agg #[.bool false, .int .i64 0]) (by simp [results, Tryz.results85, go_sem, hc0]) rfl ⟨rfl, ?_⟩
  exact gset (gset (gtrans (galloc (galloc (galloc (Below.refl _ _) _) _) _) h0) (by simp; omega) _) (by simp; omega) _

theorem add_any (ka kb : Bool) (a b : Int) (w : World) (ha : fitsB a = true) (hb : fitsB b = true) :
    Calls Tryz.prog 85 #[.agg #[.bool ka, .int .i64 a], .agg #[.bool kb, .int .i64 b]] w fun e w' => e = .returned (.agg #[.bool (opK ka kb (a + b)), .int .i64 (opN ka kb (a + b))]) ∧ Below w.heap.size w w' := by
  cases h : (ka && kb)
  · have e1 : opK ka kb (a + b) = false := opK_no ka kb _ h
    have e2 : opN ka kb (a + b) = 0 := opN_no ka kb _ h
    rw [e1, e2]; exact add_no ka kb a b w h
  · simp only [Bool.and_eq_true] at h
    obtain ⟨rfl, rfl⟩ := h
    rw [opK_tt, opN_tt]; exact add_yes a b w ha hb

set_option maxHeartbeats 1000000 in
theorem sub_yes (a b : Int) (w : World) (ha : fitsB a = true) (hb : fitsB b = true) :
    Calls Tryz.prog 82 #[.agg #[.bool true, .int .i64 a], .agg #[.bool true, .int .i64 b]] w fun e w' => e = .returned (.agg #[.bool (fitsB (a - b)), .int .i64 (fitN (a - b))]) ∧ Below w.heap.size w w' := by
  have ha' := (fits_iff a).1 ha
  have hb' := (fits_iff b).1 hb
  go_enter Tryz.func82, Tryz.ntmps82
  go_wp2_with (go_at_call 117; refine (both_any _ _ _ _ _).mono ?_; rintro e w0 ⟨rfl, h0⟩; obtain ⟨hc0, hf0⟩ := bcell h0)
  replace h0 := h0.drew
  go_region_with (first
    | (go_at_call 118; refine (widen_any _ _ (by omega) (by omega)).mono ?_; rintro e w1 ⟨rfl, h1⟩; replace h0 := gtrans h0 h1; obtain ⟨hc1, hf1⟩ := bcell h0)
    | (go_at_call 119; refine (minus_any _ _ _).mono ?_; rintro e w1 ⟨rfl, h1⟩; replace h0 := gtrans h0 h1; obtain ⟨hc1, hf1⟩ := bcell h0)
    | (go_at_call 120; refine (narrow_any _ _ (by omega) (by omega)).mono ?_; rintro e w1 ⟨rfl, h1⟩; replace h0 := gtrans h0 h1; obtain ⟨hc1, hf1⟩ := bcell h0))
  all_goals
    obtain ⟨hc, hf⟩ := bcell h0
    go_wp2
    refine bodyPost_ret (v := .agg #[.bool (fitsB (a - b)), .int .i64 (fitN (a - b))]) (by simp [results, Tryz.results82, go_sem, hc]) rfl ⟨rfl, ?_⟩
    exact gset (gset (gtrans (galloc (galloc (galloc (Below.refl _ _) _) _) _) h0) (by simp; omega) _) (by simp; omega) _

set_option maxHeartbeats 400000 in
theorem sub_no (ka kb : Bool) (a b : Int) (w : World) (h : (ka && kb) = false) :
    Calls Tryz.prog 82 #[.agg #[.bool ka, .int .i64 a], .agg #[.bool kb, .int .i64 b]] w fun e w' => e = .returned (.agg #[.bool false, .int .i64 0]) ∧ Below w.heap.size w w' := by
  go_enter Tryz.func82, Tryz.ntmps82
  go_wp2_with (go_at_call 117; refine (both_any _ _ _ _ _).mono ?_; rintro e w0 ⟨rfl, h0⟩; obtain ⟨hc0, hf0⟩ := bcell h0)
  refine bodyPost_ret (v := .agg #[.bool false, .int .i64 0]) (by simp [results, Tryz.results82, go_sem, hc0]) rfl ⟨rfl, ?_⟩
  exact gset (gset (gtrans (galloc (galloc (galloc (Below.refl _ _) _) _) _) h0) (by simp; omega) _) (by simp; omega) _

theorem sub_any (ka kb : Bool) (a b : Int) (w : World) (ha : fitsB a = true) (hb : fitsB b = true) :
    Calls Tryz.prog 82 #[.agg #[.bool ka, .int .i64 a], .agg #[.bool kb, .int .i64 b]] w fun e w' => e = .returned (.agg #[.bool (opK ka kb (a - b)), .int .i64 (opN ka kb (a - b))]) ∧ Below w.heap.size w w' := by
  cases h : (ka && kb)
  · have e1 : opK ka kb (a - b) = false := opK_no ka kb _ h
    have e2 : opN ka kb (a - b) = 0 := opN_no ka kb _ h
    rw [e1, e2]; exact sub_no ka kb a b w h
  · simp only [Bool.and_eq_true] at h
    obtain ⟨rfl, rfl⟩ := h
    rw [opK_tt, opN_tt]; exact sub_yes a b w ha hb

set_option maxHeartbeats 400000 in
theorem neg_any (ka : Bool) (a : Int) (w : World) (ha : fitsB a = true) :
    Calls Tryz.prog 54 #[.agg #[.bool ka, .int .i64 a]] w fun e w' => e = .returned (.agg #[.bool (opK true ka (0 - a)), .int .i64 (opN true ka (0 - a))]) ∧ Below w.heap.size w w' := by
  go_enter Tryz.func54, Tryz.ntmps54
  go_wp2
  go_region_with (first
    | (go_at_call 83; refine (known_any _ _).mono ?_; rintro e w0 ⟨rfl, h0⟩; obtain ⟨hc0, hf0⟩ := bcell h0)
    | (go_at_call 82; refine (sub_any _ _ _ _ _ rfl ha).mono ?_; rintro e w1 ⟨rfl, h1⟩; replace h0 := gtrans h0 h1; obtain ⟨hc1, hf1⟩ := bcell h0))
  all_goals
    obtain ⟨hc, hf⟩ := bcell h0
    go_wp2
    refine bodyPost_ret (v := .agg #[.bool (opK true ka (0 - a)), .int .i64 (opN true ka (0 - a))]) (by simp [results, Tryz.results54, go_sem, hc]) rfl ⟨rfl, ?_⟩
    exact gset (gset (gtrans (galloc (galloc (Below.refl _ _) _) _).drew h0) (by simp) _) (by simp) _

end Go.Proofs.YtglagbedgjkdbaaGreatDoor
namespace Go.Proofs.YtglagbedgjkdbaaGreatDoor
open Go.RowKit
set_option linter.unusedVariables false

theorem tdiv_fits (a b : Int) (ha : fitsB a = true) (h1 : b ≠ -1) : fitsB (a.tdiv b) = true := by
  rw [fits_iff] at *
  have h := Int.natAbs_tdiv a b
  by_cases hb : b.natAbs ≤ 1
  · have : b = 0 ∨ b = 1 := by omega
    rcases this with rfl | rfl
    · simp
    · simp; omega
  · have h2 : a.natAbs / b.natAbs ≤ a.natAbs / 2 := Nat.div_le_div_left (by omega) (by omega)
    have h3 : (a.tdiv b).natAbs ≤ a.natAbs / 2 := by rw [h]; exact h2
    omega
theorem wrap_fits (x : Int) (h : fitsB x = true) : wrap64 x = x := by
  rw [fits_iff] at h; unfold wrap64; omega
theorem tmod_fits (a b : Int) (ha : fitsB a = true) : fitsB (a.tmod b) = true := by
  rw [fits_iff] at *
  have h := Int.natAbs_tmod a b
  have h2 : a.natAbs % b.natAbs ≤ a.natAbs := Nat.mod_le _ _
  rw [← h] at h2
  have h4 : ¬ 0 ≤ a → a.tmod b ≤ 0 := fun h => by
    have := Int.tmod_nonneg (a := -a) b (by omega)
    rw [Int.neg_tmod] at this; omega
  omega

set_option maxHeartbeats 400000 in
theorem div_no (ka kb : Bool) (a b : Int) (w : World) (h : (ka && kb) = false) :
    Calls Tryz.prog 87 #[.agg #[.bool ka, .int .i64 a], .agg #[.bool kb, .int .i64 b]] w fun e w' => e = .returned (.agg #[.bool false, .int .i64 0]) ∧ Below w.heap.size w w' := by
  go_enter Tryz.func87, Tryz.ntmps87
  go_wp2_with (go_at_call 117; refine (both_any _ _ _ _ _).mono ?_; rintro e w0 ⟨rfl, g0⟩; obtain ⟨hc0, hf0⟩ := bcell g0)
  refine bodyPost_ret (v := .agg #[.bool false, .int .i64 0]) (by simp [results, Tryz.results87, go_sem, hc0]) rfl ⟨rfl, ?_⟩
  exact gset (gset (gtrans (galloc (galloc (galloc (Below.refl _ _) _) _) _) g0) (by simp; omega) _) (by simp; omega) _

set_option maxHeartbeats 400000 in
theorem div_zero (a : Int) (w : World) :
    Calls Tryz.prog 87 #[.agg #[.bool true, .int .i64 a], .agg #[.bool true, .int .i64 0]] w fun e w' => e = .returned (.agg #[.bool false, .int .i64 0]) ∧ Below w.heap.size w w' := by
  go_enter Tryz.func87, Tryz.ntmps87
  go_wp2_with (go_at_call 117; refine (both_any _ _ _ _ _).mono ?_; rintro e w0 ⟨rfl, g0⟩; obtain ⟨hc0, hf0⟩ := bcell g0)
  refine bodyPost_ret (v := .agg #[.bool false, .int .i64 0]) (by simp [results, Tryz.results87, go_sem, hc0]) rfl ⟨rfl, ?_⟩
  exact gset (gset (gtrans (galloc (galloc (galloc (Below.refl _ _) _) _) _) g0) (by simp; omega) _) (by simp; omega) _

set_option maxHeartbeats 1000000 in
theorem div_yes (a b : Int) (w : World) (ha : fitsB a = true) (h0 : (b == 0) = false) (h1 : (b == -1) = false) :
    Calls Tryz.prog 87 #[.agg #[.bool true, .int .i64 a], .agg #[.bool true, .int .i64 b]] w fun e w' => e = .returned (.agg #[.bool true, .int .i64 (a.tdiv b)]) ∧ Below w.heap.size w w' := by
  have hw := wrap_fits _ (tdiv_fits a b ha (by simpa using h1))
  have h0' : ¬ b = 0 := by simpa using h0
  go_enter Tryz.func87, Tryz.ntmps87
  go_wp2_with (first | (go_at_call 117; refine (both_any _ _ _ _ _).mono ?_; rintro e w0 ⟨rfl, g0⟩; obtain ⟨hc0, hf0⟩ := bcell g0) | (go_at_call 83; refine (known_any _ _).mono ?_; rintro e w1 ⟨rfl, g1⟩; replace g0 := gtrans g0 g1; obtain ⟨hc1, hf1⟩ := bcell g0))
  refine bodyPost_ret (v := .agg #[.bool true, .int .i64 (a.tdiv b)]) (by simp [results, Tryz.results87, go_sem, hc1]) rfl ⟨rfl, ?_⟩
  exact gset (gset (gtrans (galloc (galloc (galloc (Below.refl _ _) _) _) _) g0) (by simp; omega) _) (by simp; omega) _

set_option maxHeartbeats 1000000 in
theorem div_neg (a : Int) (w : World) (ha : fitsB a = true) :
    Calls Tryz.prog 87 #[.agg #[.bool true, .int .i64 a], .agg #[.bool true, .int .i64 (-1)]] w fun e w' => e = .returned (.agg #[.bool (opK true true (0 - a)), .int .i64 (opN true true (0 - a))]) ∧ Below w.heap.size w w' := by
  go_enter Tryz.func87, Tryz.ntmps87
  go_wp2_with (first | (go_at_call 117; refine (both_any _ _ _ _ _).mono ?_; rintro e w0 ⟨rfl, g0⟩; obtain ⟨hc0, hf0⟩ := bcell g0) | (go_at_call 54; refine (neg_any _ _ _ ha).mono ?_; rintro e w1 ⟨rfl, g1⟩; replace g0 := gtrans g0 g1; obtain ⟨hc1, hf1⟩ := bcell g0))
  refine bodyPost_ret (v := .agg #[.bool (opK true true (0 - a)), .int .i64 (opN true true (0 - a))]) (by simp [results, Tryz.results87, go_sem, hc1]) rfl ⟨rfl, ?_⟩
  exact gset (gset (gtrans (galloc (galloc (galloc (Below.refl _ _) _) _) _) g0) (by simp; omega) _) (by simp; omega) _

theorem div_any (ka kb : Bool) (a b : Int) (w : World) (ha : fitsB a = true) :
    Calls Tryz.prog 87 #[.agg #[.bool ka, .int .i64 a], .agg #[.bool kb, .int .i64 b]] w fun e w' => e = .returned (.agg #[.bool (opK ka (kb && !(b == 0)) (a.tdiv b)), .int .i64 (opN ka (kb && !(b == 0)) (a.tdiv b))]) ∧ Below w.heap.size w w' := by
  cases h : (ka && kb)
  · have h' : (ka && (kb && !(b == 0))) = false := by cases ka <;> cases kb <;> simp_all
    rw [opK_no _ _ _ h', opN_no _ _ _ h']; exact div_no ka kb a b w h
  · simp only [Bool.and_eq_true] at h
    obtain ⟨rfl, rfl⟩ := h
    cases h0 : (b == 0)
    · cases h1 : (b == -1)
      · have hf := tdiv_fits a b ha (by simpa using h1)
        simp only [Bool.not_false, Bool.and_true, opK_tt, opN_tt, fitN_yes _ hf, hf]
        exact div_yes a b w ha h0 h1
      · have : b = -1 := by simpa using h1
        subst this
        have e : a.tdiv (-1) = 0 - a := by rw [Int.tdiv_neg, Int.tdiv_one]; omega
        rw [e]; exact div_neg a w ha
    · have : b = 0 := by simpa using h0
      subst this
      simp only [Bool.not_true, Bool.and_false, opK_f2, opN_f2]
      exact div_zero a w

set_option maxHeartbeats 400000 in
theorem mod_no (ka kb : Bool) (a b : Int) (w : World) (h : (ka && kb) = false) :
    Calls Tryz.prog 88 #[.agg #[.bool ka, .int .i64 a], .agg #[.bool kb, .int .i64 b]] w fun e w' => e = .returned (.agg #[.bool false, .int .i64 0]) ∧ Below w.heap.size w w' := by
  go_enter Tryz.func88, Tryz.ntmps88
  go_wp2_with (go_at_call 117; refine (both_any _ _ _ _ _).mono ?_; rintro e w0 ⟨rfl, g0⟩; obtain ⟨hc0, hf0⟩ := bcell g0)
  refine bodyPost_ret (v := .agg #[.bool false, .int .i64 0]) (by simp [results, Tryz.results88, go_sem, hc0]) rfl ⟨rfl, ?_⟩
  exact gset (gset (gtrans (galloc (galloc (galloc (Below.refl _ _) _) _) _) g0) (by simp; omega) _) (by simp; omega) _

set_option maxHeartbeats 400000 in
theorem mod_zero (a : Int) (w : World) :
    Calls Tryz.prog 88 #[.agg #[.bool true, .int .i64 a], .agg #[.bool true, .int .i64 0]] w fun e w' => e = .returned (.agg #[.bool false, .int .i64 0]) ∧ Below w.heap.size w w' := by
  go_enter Tryz.func88, Tryz.ntmps88
  go_wp2_with (go_at_call 117; refine (both_any _ _ _ _ _).mono ?_; rintro e w0 ⟨rfl, g0⟩; obtain ⟨hc0, hf0⟩ := bcell g0)
  refine bodyPost_ret (v := .agg #[.bool false, .int .i64 0]) (by simp [results, Tryz.results88, go_sem, hc0]) rfl ⟨rfl, ?_⟩
  exact gset (gset (gtrans (galloc (galloc (galloc (Below.refl _ _) _) _) _) g0) (by simp; omega) _) (by simp; omega) _

set_option maxHeartbeats 1000000 in
theorem mod_yes (a b : Int) (w : World) (ha : fitsB a = true) (h0 : (b == 0) = false) :
    Calls Tryz.prog 88 #[.agg #[.bool true, .int .i64 a], .agg #[.bool true, .int .i64 b]] w fun e w' => e = .returned (.agg #[.bool true, .int .i64 (a.tmod b)]) ∧ Below w.heap.size w w' := by
  have hw := wrap_fits _ (tmod_fits a b ha)
  have h0' : ¬ b = 0 := by simpa using h0
  go_enter Tryz.func88, Tryz.ntmps88
  go_wp2_with (first | (go_at_call 117; refine (both_any _ _ _ _ _).mono ?_; rintro e w0 ⟨rfl, g0⟩; obtain ⟨hc0, hf0⟩ := bcell g0) | (go_at_call 83; refine (known_any _ _).mono ?_; rintro e w1 ⟨rfl, g1⟩; replace g0 := gtrans g0 g1; obtain ⟨hc1, hf1⟩ := bcell g0))
  refine bodyPost_ret (v := .agg #[.bool true, .int .i64 (a.tmod b)]) (by simp [results, Tryz.results88, go_sem, hc1]) rfl ⟨rfl, ?_⟩
  exact gset (gset (gtrans (galloc (galloc (galloc (Below.refl _ _) _) _) _) g0) (by simp; omega) _) (by simp; omega) _

theorem mod_any (ka kb : Bool) (a b : Int) (w : World) (ha : fitsB a = true) :
    Calls Tryz.prog 88 #[.agg #[.bool ka, .int .i64 a], .agg #[.bool kb, .int .i64 b]] w fun e w' => e = .returned (.agg #[.bool (opK ka (kb && !(b == 0)) (a.tmod b)), .int .i64 (opN ka (kb && !(b == 0)) (a.tmod b))]) ∧ Below w.heap.size w w' := by
  cases h : (ka && kb)
  · have h' : (ka && (kb && !(b == 0))) = false := by cases ka <;> cases kb <;> simp_all
    rw [opK_no _ _ _ h', opN_no _ _ _ h']; exact mod_no ka kb a b w h
  · simp only [Bool.and_eq_true] at h
    obtain ⟨rfl, rfl⟩ := h
    cases h0 : (b == 0)
    · have hf := tmod_fits a b ha
      simp only [Bool.not_false, Bool.and_true, opK_tt, opN_tt, fitN_yes _ hf, hf]
      exact mod_yes a b w ha h0
    · have : b = 0 := by simpa using h0
      subst this
      simp only [Bool.not_true, Bool.and_false, opK_f2, opN_f2]
      exact mod_zero a w

end Go.Proofs.YtglagbedgjkdbaaGreatDoor
namespace Go.Proofs.YtglagbedgjkdbaaGreatDoor
open Go.RowKit
set_option linter.unusedVariables false

set_option maxHeartbeats 400000 in
theorem refNumber_any (n : Int) (w : World) :
    Calls Tryz.prog 73 #[.int .i64 n] w fun e w' => e = .returned (.agg #[.bool true, .int .i64 n]) ∧ Below w.heap.size w w' := by
  go_enter Tryz.func73, Tryz.ntmps73
  go_wp2
  exact bodyPost_ret (v := .agg #[.bool true, .int .i64 n]) (by simp [results, Tryz.results73, go_sem]) rfl ⟨rfl, (Below.refl _ _).alloc (Nat.le_refl _) _⟩

set_option maxHeartbeats 400000 in
theorem refNothing_any (w : World) :
    Calls Tryz.prog 46 #[] w fun e w' => e = .returned (.agg #[.bool false, .int .i64 0]) ∧ Below w.heap.size w w' := by
  go_enter Tryz.func46, Tryz.ntmps46
  go_wp2
  exact bodyPost_ret (v := .agg #[.bool false, .int .i64 0]) (by simp [results, Tryz.results46, go_sem]) rfl ⟨rfl, (Below.refl _ _).alloc (Nat.le_refl _) _⟩

end Go.Proofs.YtglagbedgjkdbaaGreatDoor
namespace Go.Proofs.YtglagbedgjkdbaaGreatDoor
open Go.RowKit
set_option linter.unusedVariables false

set_option maxHeartbeats 400000 in
theorem refNeg_any (ka : Bool) (a : Int) (w : World) (ha : fitsB a = true) :
    Calls Tryz.prog 76 #[.agg #[.bool ka, .int .i64 a]] w fun e w' => e = .returned (.agg #[.bool (opK true ka (0 - a)), .int .i64 (opN true ka (0 - a))]) ∧ Below w.heap.size w w' := by
  have hA := (fits_iff a).1 ha
  cases ka
  · rw [opK_f2, opN_f2]
    go_enter Tryz.func76, Tryz.ntmps76
    go_wp2_with (first | (go_at_call 73; refine (refNumber_any _ _).mono ?_; rintro e w0 ⟨rfl, g0⟩; obtain ⟨hc0, hf0⟩ := bcell g0) | (go_at_call 46; refine (refNothing_any _).mono ?_; rintro e w0 ⟨rfl, g0⟩; obtain ⟨hc0, hf0⟩ := bcell g0))
    refine bodyPost_ret (v := .agg #[.bool false, .int .i64 0]) (by simp [results, Tryz.results76, go_sem, hc0]) rfl ⟨rfl, ?_⟩
    exact gset (gset (gtrans (galloc (galloc (Below.refl _ _) _) _) g0) (by simp) _) (by simp) _
  · rw [opK_tt, opN_tt]
    by_cases h : a = -9223372036854775808
    · subst h
      have e1 : fitsB (0 - -9223372036854775808) = false := by decide
      rw [fitN_no _ e1, e1]
      go_enter Tryz.func76, Tryz.ntmps76
      go_wp2_with (first | (go_at_call 73; refine (refNumber_any _ _).mono ?_; rintro e w0 ⟨rfl, g0⟩; obtain ⟨hc0, hf0⟩ := bcell g0) | (go_at_call 46; refine (refNothing_any _).mono ?_; rintro e w0 ⟨rfl, g0⟩; obtain ⟨hc0, hf0⟩ := bcell g0))
      refine bodyPost_ret (v := .agg #[.bool false, .int .i64 0]) (by simp [results, Tryz.results76, go_sem, hc0]) rfl ⟨rfl, ?_⟩
      exact gset (gset (gtrans (galloc (galloc (Below.refl _ _) _) _) g0) (by simp) _) (by simp) _
    · have e1 : fitsB (0 - a) = true := by rw [fits_iff]; omega
      have e2 : (a == -9223372036854775808) = false := by simpa using h
      have e3 : 0 - a = -a := by omega
      rw [fitN_yes _ e1, e1, e3]
      go_enter Tryz.func76, Tryz.ntmps76
      go_wp2_with (first | (go_at_call 73; refine (refNumber_any _ _).mono ?_; rintro e w0 ⟨rfl, g0⟩; obtain ⟨hc0, hf0⟩ := bcell g0) | (go_at_call 46; refine (refNothing_any _).mono ?_; rintro e w0 ⟨rfl, g0⟩; obtain ⟨hc0, hf0⟩ := bcell g0))
      refine bodyPost_ret (v := .agg #[.bool true, .int .i64 (-a)]) (by simp [results, Tryz.results76, go_sem, hc0]) rfl ⟨rfl, ?_⟩
      exact gset (gset (gtrans (galloc (galloc (Below.refl _ _) _) _) g0) (by simp) _) (by simp) _
end Go.Proofs.YtglagbedgjkdbaaGreatDoor
namespace Go.Proofs.YtglagbedgjkdbaaGreatDoor
open Go.RowKit
set_option linter.unusedVariables false
set_option maxHeartbeats 400000 in
theorem refDiv_no (ka kb : Bool) (a b : Int) (w : World) (h : (ka && kb) = false) :
    Calls Tryz.prog 110 #[.agg #[.bool ka, .int .i64 a], .agg #[.bool kb, .int .i64 b]] w fun e w' => e = .returned (.agg #[.bool false, .int .i64 0]) ∧ Below w.heap.size w w' := by
  cases ka <;> cases kb <;> first | (simp at h; done) | clear h
  all_goals
    go_enter Tryz.func110, Tryz.ntmps110
    go_wp2_with (go_at_call 46; refine (refNothing_any _).mono ?_; rintro e w0 ⟨rfl, g0⟩; obtain ⟨hc0, hf0⟩ := bcell g0)
    refine bodyPost_ret (v := .agg #[.bool false, .int .i64 0]) (by simp [results, Tryz.results110, go_sem, hc0]) rfl ⟨rfl, ?_⟩
    exact gset (gset (gtrans (galloc (galloc (galloc (Below.refl _ _) _) _) _) g0) (by simp; omega) _) (by simp; omega) _

set_option maxHeartbeats 400000 in
theorem refDiv_zero (a : Int) (w : World) :
    Calls Tryz.prog 110 #[.agg #[.bool true, .int .i64 a], .agg #[.bool true, .int .i64 0]] w fun e w' => e = .returned (.agg #[.bool false, .int .i64 0]) ∧ Below w.heap.size w w' := by
  go_enter Tryz.func110, Tryz.ntmps110
  go_wp2_with (go_at_call 46; refine (refNothing_any _).mono ?_; rintro e w0 ⟨rfl, g0⟩; obtain ⟨hc0, hf0⟩ := bcell g0)
  refine bodyPost_ret (v := .agg #[.bool false, .int .i64 0]) (by simp [results, Tryz.results110, go_sem, hc0]) rfl ⟨rfl, ?_⟩
  exact gset (gset (gtrans (galloc (galloc (galloc (Below.refl _ _) _) _) _) g0) (by simp; omega) _) (by simp; omega) _

set_option maxHeartbeats 1000000 in
theorem refDiv_yes (a b : Int) (w : World) (ha : fitsB a = true) (h0 : (b == 0) = false) (h1 : (b == -1) = false) :
    Calls Tryz.prog 110 #[.agg #[.bool true, .int .i64 a], .agg #[.bool true, .int .i64 b]] w fun e w' => e = .returned (.agg #[.bool true, .int .i64 (a.tdiv b)]) ∧ Below w.heap.size w w' := by
  have hw := wrap_fits _ (tdiv_fits a b ha (by simpa using h1))
  have h0' : ¬ b = 0 := by simpa using h0
  go_enter Tryz.func110, Tryz.ntmps110
  go_wp2_with (go_at_call 73; refine (refNumber_any _ _).mono ?_; rintro e w0 ⟨rfl, g0⟩; obtain ⟨hc0, hf0⟩ := bcell g0)
  refine bodyPost_ret (v := .agg #[.bool true, .int .i64 (a.tdiv b)]) (by simp [results, Tryz.results110, go_sem, hc0]) rfl ⟨rfl, ?_⟩
  exact gset (gset (gtrans (galloc (galloc (galloc (Below.refl _ _) _) _) _) g0) (by simp; omega) _) (by simp; omega) _

set_option maxHeartbeats 1000000 in
theorem refDiv_neg (a : Int) (w : World) (ha : fitsB a = true) :
    Calls Tryz.prog 110 #[.agg #[.bool true, .int .i64 a], .agg #[.bool true, .int .i64 (-1)]] w fun e w' => e = .returned (.agg #[.bool (opK true true (0 - a)), .int .i64 (opN true true (0 - a))]) ∧ Below w.heap.size w w' := by
  go_enter Tryz.func110, Tryz.ntmps110
  go_wp2_with (go_at_call 76; refine (refNeg_any _ _ _ ha).mono ?_; rintro e w0 ⟨rfl, g0⟩; obtain ⟨hc0, hf0⟩ := bcell g0)
  refine bodyPost_ret (v := .agg #[.bool (opK true true (0 - a)), .int .i64 (opN true true (0 - a))]) (by simp [results, Tryz.results110, go_sem, hc0]) rfl ⟨rfl, ?_⟩
  exact gset (gset (gtrans (galloc (galloc (galloc (Below.refl _ _) _) _) _) g0) (by simp; omega) _) (by simp; omega) _

theorem refDiv_any (ka kb : Bool) (a b : Int) (w : World) (ha : fitsB a = true) :
    Calls Tryz.prog 110 #[.agg #[.bool ka, .int .i64 a], .agg #[.bool kb, .int .i64 b]] w fun e w' => e = .returned (.agg #[.bool (opK ka (kb && !(b == 0)) (a.tdiv b)), .int .i64 (opN ka (kb && !(b == 0)) (a.tdiv b))]) ∧ Below w.heap.size w w' := by
  cases h : (ka && kb)
  · have h' : (ka && (kb && !(b == 0))) = false := by cases ka <;> cases kb <;> simp_all
    rw [opK_no _ _ _ h', opN_no _ _ _ h']; exact refDiv_no ka kb a b w h
  · simp only [Bool.and_eq_true] at h
    obtain ⟨rfl, rfl⟩ := h
    cases h0 : (b == 0)
    · cases h1 : (b == -1)
      · have hf := tdiv_fits a b ha (by simpa using h1)
        simp only [Bool.not_false, Bool.and_true, opK_tt, opN_tt, fitN_yes _ hf, hf]
        exact refDiv_yes a b w ha h0 h1
      · have : b = -1 := by simpa using h1
        subst this
        have e : a.tdiv (-1) = 0 - a := by rw [Int.tdiv_neg, Int.tdiv_one]; omega
        rw [e]; exact refDiv_neg a w ha
    · have : b = 0 := by simpa using h0
      subst this
      simp only [Bool.not_true, Bool.and_false, opK_f2, opN_f2]
      exact refDiv_zero a w

set_option maxHeartbeats 400000 in
theorem refMod_no (ka kb : Bool) (a b : Int) (w : World) (h : (ka && kb) = false) :
    Calls Tryz.prog 111 #[.agg #[.bool ka, .int .i64 a], .agg #[.bool kb, .int .i64 b]] w fun e w' => e = .returned (.agg #[.bool false, .int .i64 0]) ∧ Below w.heap.size w w' := by
  cases ka <;> cases kb <;> first | (simp at h; done) | clear h
  all_goals
    go_enter Tryz.func111, Tryz.ntmps111
    go_wp2_with (go_at_call 46; refine (refNothing_any _).mono ?_; rintro e w0 ⟨rfl, g0⟩; obtain ⟨hc0, hf0⟩ := bcell g0)
    refine bodyPost_ret (v := .agg #[.bool false, .int .i64 0]) (by simp [results, Tryz.results111, go_sem, hc0]) rfl ⟨rfl, ?_⟩
    exact gset (gset (gtrans (galloc (galloc (galloc (Below.refl _ _) _) _) _) g0) (by simp; omega) _) (by simp; omega) _

set_option maxHeartbeats 400000 in
theorem refMod_zero (a : Int) (w : World) :
    Calls Tryz.prog 111 #[.agg #[.bool true, .int .i64 a], .agg #[.bool true, .int .i64 0]] w fun e w' => e = .returned (.agg #[.bool false, .int .i64 0]) ∧ Below w.heap.size w w' := by
  go_enter Tryz.func111, Tryz.ntmps111
  go_wp2_with (go_at_call 46; refine (refNothing_any _).mono ?_; rintro e w0 ⟨rfl, g0⟩; obtain ⟨hc0, hf0⟩ := bcell g0)
  refine bodyPost_ret (v := .agg #[.bool false, .int .i64 0]) (by simp [results, Tryz.results111, go_sem, hc0]) rfl ⟨rfl, ?_⟩
  exact gset (gset (gtrans (galloc (galloc (galloc (Below.refl _ _) _) _) _) g0) (by simp; omega) _) (by simp; omega) _

theorem wrapEq (x : Int) : IntKind.i64.wrap x = wrap64 x := by rw [IntKind.wrap_i64]; unfold wrap64; rfl
theorem mul_back (a b : Int) (ha : fitsB a = true) : fitsB (b * a.tdiv b) = true ∧ a - b * a.tdiv b = a.tmod b := by
  have h1 := Int.tmod_add_mul_tdiv a b
  have h2 := tmod_fits a b ha
  have h6 : a < 0 → a.tmod b ≤ 0 := fun h => by
    have := Int.tmod_nonneg (a := -a) b (by omega)
    rw [Int.neg_tmod] at this; omega
  have h5 : 0 ≤ a → 0 ≤ a.tmod b := fun h => Int.tmod_nonneg b h
  have h3 := Int.natAbs_tmod a b
  have h4 : a.natAbs % b.natAbs ≤ a.natAbs := Nat.mod_le _ _
  rw [← h3] at h4
  rw [fits_iff] at *
  generalize b * a.tdiv b = m at *
  omega

set_option maxHeartbeats 4000000 in
theorem refMod_yes (a b : Int) (w : World) (ha : fitsB a = true) (h0 : (b == 0) = false) (h1 : (b == -1) = false) :
    Calls Tryz.prog 111 #[.agg #[.bool true, .int .i64 a], .agg #[.bool true, .int .i64 b]] w fun e w' => e = .returned (.agg #[.bool true, .int .i64 (a.tmod b)]) ∧ Below w.heap.size w w' := by
  have hw := wrap_fits _ (tdiv_fits a b ha (by simpa using h1))
  have h0' : ¬ b = 0 := by simpa using h0
  obtain ⟨hm, hm2⟩ := mul_back a b ha
  have hw2 := wrap_fits _ hm
  have hw3 := wrap_fits _ (tmod_fits a b ha)
  have hi1 : IntKind.i64.wrap (a.tdiv b) = a.tdiv b := (wrapEq _).trans hw
  have hi2 : IntKind.i64.wrap (b * a.tdiv b) = b * a.tdiv b := (wrapEq _).trans hw2
  have hi3 : IntKind.i64.wrap (a.tmod b) = a.tmod b := (wrapEq _).trans hw3
  go_enter Tryz.func111, Tryz.ntmps111
  go_wp2
  go_region_with (go_at_call 73; refine (refNumber_any _ _).mono ?_; rintro e w0 ⟨rfl, g0⟩; obtain ⟨hc0, hf0⟩ := bcell g0)
  all_goals
    obtain ⟨hc, hf⟩ := bcell g0
    go_wp2
    refine bodyPost_ret (v := .agg #[.bool true, .int .i64 (a.tmod b)]) (by simp [results, Tryz.results111, go_sem, hc]) rfl ⟨rfl, ?_⟩
    exact gset (gset (gtrans (galloc (galloc (galloc (Below.refl _ _) _) _) _).drew g0) (by simp; omega) _) (by simp; omega) _

set_option maxHeartbeats 1000000 in
theorem refMod_neg (a : Int) (w : World) :
    Calls Tryz.prog 111 #[.agg #[.bool true, .int .i64 a], .agg #[.bool true, .int .i64 (-1)]] w fun e w' => e = .returned (.agg #[.bool true, .int .i64 0]) ∧ Below w.heap.size w w' := by
  go_enter Tryz.func111, Tryz.ntmps111
  go_wp2_with (go_at_call 73; refine (refNumber_any _ _).mono ?_; rintro e w0 ⟨rfl, g0⟩; obtain ⟨hc0, hf0⟩ := bcell g0)
  refine bodyPost_ret (v := .agg #[.bool true, .int .i64 0]) (by simp [results, Tryz.results111, go_sem, hc0]) rfl ⟨rfl, ?_⟩
  exact gset (gset (gtrans (galloc (galloc (galloc (Below.refl _ _) _) _) _) g0) (by simp; omega) _) (by simp; omega) _

theorem refMod_any (ka kb : Bool) (a b : Int) (w : World) (ha : fitsB a = true) :
    Calls Tryz.prog 111 #[.agg #[.bool ka, .int .i64 a], .agg #[.bool kb, .int .i64 b]] w fun e w' => e = .returned (.agg #[.bool (opK ka (kb && !(b == 0)) (a.tmod b)), .int .i64 (opN ka (kb && !(b == 0)) (a.tmod b))]) ∧ Below w.heap.size w w' := by
  cases h : (ka && kb)
  · have h' : (ka && (kb && !(b == 0))) = false := by cases ka <;> cases kb <;> simp_all
    rw [opK_no _ _ _ h', opN_no _ _ _ h']; exact refMod_no ka kb a b w h
  · simp only [Bool.and_eq_true] at h
    obtain ⟨rfl, rfl⟩ := h
    cases h0 : (b == 0)
    · have hf := tmod_fits a b ha
      simp only [Bool.not_false, Bool.and_true, opK_tt, opN_tt, fitN_yes _ hf, hf]
      cases h1 : (b == -1)
      · exact refMod_yes a b w ha h0 h1
      · have : b = -1 := by simpa using h1
        subst this
        have e : a.tmod (-1) = 0 := by rw [Int.tmod_neg, Int.tmod_one]
        rw [e]; exact refMod_neg a w
    · have : b = 0 := by simpa using h0
      subst this
      simp only [Bool.not_true, Bool.and_false, opK_f2, opN_f2]
      exact refMod_zero a w

end Go.Proofs.YtglagbedgjkdbaaGreatDoor
namespace Go.Proofs.YtglagbedgjkdbaaGreatDoor
open Go.RowKit
set_option linter.unusedVariables false

def mulHi (a b : Int) : Int := (loOf a * loOf b) / 18446744073709551616
theorem mulHi_nn (a b : Int) : 0 ≤ mulHi a b := by
  have h := Int.mul_nonneg (lo_nn a) (lo_nn b)
  unfold mulHi; omega
theorem mul_lo (a b : Int) : (loOf a * loOf b) % 18446744073709551616 = loOf (a * b) := by
  unfold loOf; rw [← Int.mul_emod]

theorem lo_pos (a : Int) (h : fitsB a = true) (g : 0 ≤ a) : loOf a = a := by rw [fits_iff] at h; unfold loOf; omega
theorem lo_neg (a : Int) (h : fitsB a = true) (g : a < 0) : loOf a = a + 18446744073709551616 := by rw [fits_iff] at h; unfold loOf; omega

theorem hi_pp (a b : Int) (ha : fitsB a = true) (hb : fitsB b = true) (ga : 0 ≤ a) (gb : 0 ≤ b) : mulHi a b = hiOf (a * b) := by
  have h0 : mulHi a b < 18446744073709551616 := by
    unfold mulHi
    have h1 := lo_lt a
    have h2 := lo_lt b
    have h3 : loOf a * loOf b ≤ 18446744073709551615 * 18446744073709551615 := Int.mul_le_mul (by omega) (by omega) (lo_nn b) (by omega)
    omega
  have h1 := mulHi_nn a b
  unfold mulHi at *
  rw [lo_pos a ha ga, lo_pos b hb gb] at *
  unfold hiOf
  omega
theorem hi_np (a b : Int) (ha : fitsB a = true) (hb : fitsB b = true) (ga : a < 0) (gb : 0 ≤ b) : IntKind.u64.wrap (mulHi a b - loOf b) = hiOf (a * b) := by
  rw [IntKind.wrap_u64]
  have e : a * b = loOf a * loOf b - 18446744073709551616 * loOf b := by
    rw [lo_neg a ha ga, lo_pos b hb gb, Int.add_mul]; omega
  rw [e]; unfold mulHi hiOf
  generalize loOf a * loOf b = p
  generalize loOf b = q
  omega
theorem hi_pn (a b : Int) (ha : fitsB a = true) (hb : fitsB b = true) (ga : 0 ≤ a) (gb : b < 0) : IntKind.u64.wrap (mulHi a b - loOf a) = hiOf (a * b) := by
  rw [IntKind.wrap_u64]
  have e : a * b = loOf a * loOf b - 18446744073709551616 * loOf a := by
    rw [lo_pos a ha ga, lo_neg b hb gb, Int.mul_add]; omega
  rw [e]; unfold mulHi hiOf
  generalize loOf a * loOf b = p
  generalize loOf a = q
  omega
theorem hi_nn2 (a b : Int) (ha : fitsB a = true) (hb : fitsB b = true) (ga : a < 0) (gb : b < 0) : IntKind.u64.wrap (IntKind.u64.wrap (mulHi a b - loOf b) - loOf a) = hiOf (a * b) := by
  rw [IntKind.wrap_u64, IntKind.wrap_u64]
  have e : a * b = loOf a * loOf b - 18446744073709551616 * (loOf a + loOf b) + 340282366920938463463374607431768211456 := by
    rw [lo_neg a ha ga, lo_neg b hb gb, Int.add_mul, Int.mul_add, Int.mul_add]; omega
  rw [e]; unfold mulHi hiOf
  generalize loOf a * loOf b = p
  generalize loOf a = q
  generalize loOf b = r
  omega
theorem mul_bound (a b : Int) (ha : fitsB a = true) (hb : fitsB b = true) : -170141183460469231731687303715884105728 ≤ a * b ∧ a * b < 170141183460469231731687303715884105728 := by
  rw [fits_iff] at ha hb
  have h : (a * b).natAbs ≤ 9223372036854775808 * 9223372036854775808 := by
    rw [Int.natAbs_mul]; exact Nat.mul_le_mul (by omega) (by omega)
  omega

set_option maxHeartbeats 1000000 in
theorem mul64_nat (x y : Nat) (hx : x < 18446744073709551616) (hy : y < 18446744073709551616) (w : World) :
    Calls Tryz.prog 143 #[.int .u64 x, .int .u64 y] w fun e w' => e = .returned (.tuple #[.int .u64 ((x * y / 18446744073709551616 : Nat) : Int), .int .u64 ((x * y % 18446744073709551616 : Nat) : Int)]) ∧ w = w' := by
  obtain ⟨bd, bt, bw, hhi⟩ := Lib.mul64_hi x y hx hy
  have ba := Lib.half_mul_le (a := x / 4294967296) (b := y / 4294967296) (by omega) (by omega)
  have bb := Lib.half_mul_le (a := x / 4294967296) (b := y % 4294967296) (by omega) (by omega)
  have bc := Lib.half_mul_le (a := x % 4294967296) (b := y / 4294967296) (by omega) (by omega)
  have ba' : x / 4294967296 * (y / 4294967296) < 18446744073709551616 := by omega
  have bb' : x / 4294967296 * (y % 4294967296) < 18446744073709551616 := by omega
  have bc' : x % 4294967296 * (y / 4294967296) < 18446744073709551616 := by omega
  have bh1 : x / 4294967296 * (y / 4294967296) + (x / 4294967296 * (y % 4294967296) + x % 4294967296 * (y % 4294967296) / 4294967296) / 4294967296 < 18446744073709551616 := by omega
  have bh : x / 4294967296 * (y / 4294967296) + (x / 4294967296 * (y % 4294967296) + x % 4294967296 * (y % 4294967296) / 4294967296) / 4294967296 + ((x / 4294967296 * (y % 4294967296) + x % 4294967296 * (y % 4294967296) / 4294967296) % 4294967296 + x % 4294967296 * (y / 4294967296)) / 4294967296 < 18446744073709551616 := by omega
  go_enter Tryz.func143, Tryz.ntmps143
  go_wp2
  simp only [Mul64.maskN x hx, Mul64.maskN y hy, Mul64.divN, Mul64.mulN, Mul64.addN, Mul64.wrapN _ bd, Mul64.wrapN _ bb', Mul64.wrapN _ bt, Mul64.maskN _ bt, Mul64.wrapN _ bc', Mul64.wrapN _ bw, Mul64.wrapN _ ba', Mul64.wrapN _ bh1, Mul64.wrapN _ bh, Mul64.wrapM (x * y)]
  rw [hhi]
  go_ret2
  exact ⟨rfl, rfl⟩

theorem mul64_any (a b : Int) (w : World) :
    Calls Tryz.prog 143 #[.int .u64 (loOf a), .int .u64 (loOf b)] w fun e w' => e = .returned (.tuple #[.int .u64 (mulHi a b), .int .u64 (loOf (a * b))]) ∧ w = w' := by
  obtain ⟨X, hX⟩ := Int.eq_ofNat_of_zero_le (lo_nn a)
  obtain ⟨Y, hY⟩ := Int.eq_ofNat_of_zero_le (lo_nn b)
  have h := mul64_nat X Y (by have := lo_lt a; omega) (by have := lo_lt b; omega) w
  have e1 : ((X * Y / 18446744073709551616 : Nat) : Int) = mulHi a b := by unfold mulHi; rw [hX, hY]; simp
  have e2 : ((X * Y % 18446744073709551616 : Nat) : Int) = loOf (a * b) := by rw [← mul_lo, hX, hY]; simp
  rw [e1, e2] at h
  rw [hX, hY]; exact h

set_option maxHeartbeats 1000000 in
theorem product_any (a b : Int) (w : World) (ha : fitsB a = true) (hb : fitsB b = true) :
    Calls Tryz.prog 122 #[.int .i64 a, .int .i64 b] w fun e w' => e = .returned (.agg #[.int .u64 (hiOf (a * b)), .int .u64 (loOf (a * b))]) ∧ Below w.heap.size w w' := by
  have e1 := lo_small a
  have e2 := lo_small b
  have ga : a < 0 ∨ 0 ≤ a := by omega
  have gb : b < 0 ∨ 0 ≤ b := by omega
  rcases ga with ga | ga <;> rcases gb with gb | gb
  · have f := hi_nn2 a b ha hb ga gb
    clear ha hb
    go_enter Tryz.func122, Tryz.ntmps122
    go_wp2_with (go_at_call 143; refine (mul64_any _ _ _).mono ?_; rintro e w0 ⟨rfl, rfl⟩)
    exact bodyPost_ret (v := .agg #[.int .u64 (hiOf (a * b)), .int .u64 (loOf (a * b))]) (by simp [results, Tryz.results122, go_sem]) rfl ⟨rfl, galloc (Below.refl _ _) _⟩
  · have f := hi_np a b ha hb ga gb
    clear ha hb
    go_enter Tryz.func122, Tryz.ntmps122
    go_wp2_with (go_at_call 143; refine (mul64_any _ _ _).mono ?_; rintro e w0 ⟨rfl, rfl⟩)
    exact bodyPost_ret (v := .agg #[.int .u64 (hiOf (a * b)), .int .u64 (loOf (a * b))]) (by simp [results, Tryz.results122, go_sem]) rfl ⟨rfl, galloc (Below.refl _ _) _⟩
  · have f := hi_pn a b ha hb ga gb
    clear ha hb
    go_enter Tryz.func122, Tryz.ntmps122
    go_wp2_with (go_at_call 143; refine (mul64_any _ _ _).mono ?_; rintro e w0 ⟨rfl, rfl⟩)
    exact bodyPost_ret (v := .agg #[.int .u64 (hiOf (a * b)), .int .u64 (loOf (a * b))]) (by simp [results, Tryz.results122, go_sem]) rfl ⟨rfl, galloc (Below.refl _ _) _⟩
  · have f := hi_pp a b ha hb ga gb
    clear ha hb
    go_enter Tryz.func122, Tryz.ntmps122
    go_wp2_with (go_at_call 143; refine (mul64_any _ _ _).mono ?_; rintro e w0 ⟨rfl, rfl⟩)
    exact bodyPost_ret (v := .agg #[.int .u64 (hiOf (a * b)), .int .u64 (loOf (a * b))]) (by simp [results, Tryz.results122, go_sem]) rfl ⟨rfl, galloc (Below.refl _ _) _⟩

set_option maxHeartbeats 1000000 in
theorem mul_yes (a b : Int) (w : World) (ha : fitsB a = true) (hb : fitsB b = true) :
    Calls Tryz.prog 86 #[.agg #[.bool true, .int .i64 a], .agg #[.bool true, .int .i64 b]] w fun e w' => e = .returned (.agg #[.bool (fitsB (a * b)), .int .i64 (fitN (a * b))]) ∧ Below w.heap.size w w' := by
  obtain ⟨m1, m2⟩ := mul_bound a b ha hb
  go_enter Tryz.func86, Tryz.ntmps86
  go_wp2_with (first
    | (go_at_call 117; refine (both_any _ _ _ _ _).mono ?_; rintro e w0 ⟨rfl, h0⟩; obtain ⟨hc0, hf0⟩ := bcell h0)
    | (go_at_call 122; refine (product_any _ _ _ ha hb).mono ?_; rintro e w1 ⟨rfl, h1⟩; replace h0 := gtrans h0 h1; obtain ⟨hc1, hf1⟩ := bcell h0)
    | (go_at_call 120; refine (narrow_any _ _ m1 m2).mono ?_; rintro e w1 ⟨rfl, h1⟩; replace h0 := gtrans h0 h1; obtain ⟨hc1, hf1⟩ := bcell h0))
  refine bodyPost_ret (v := .agg #[.bool (fitsB (a * b)), .int .i64 (fitN (a * b))]) (by simp [results, Tryz.results86, go_sem, hc1]) rfl ⟨rfl, ?_⟩
  exact gset (gset (gtrans (galloc (galloc (galloc (Below.refl _ _) _) _) _) h0) (by simp; omega) _) (by simp; omega) _

set_option maxHeartbeats 400000 in
theorem mul_no (ka kb : Bool) (a b : Int) (w : World) (h : (ka && kb) = false) :
    Calls Tryz.prog 86 #[.agg #[.bool ka, .int .i64 a], .agg #[.bool kb, .int .i64 b]] w fun e w' => e = .returned (.agg #[.bool false, .int .i64 0]) ∧ Below w.heap.size w w' := by
  go_enter Tryz.func86, Tryz.ntmps86
  go_wp2_with (go_at_call 117; refine (both_any _ _ _ _ _).mono ?_; rintro e w0 ⟨rfl, h0⟩; obtain ⟨hc0, hf0⟩ := bcell h0)
  refine bodyPost_ret (v := .agg #[.bool false, .int .i64 0]) (by simp [results, Tryz.results86, go_sem, hc0]) rfl ⟨rfl, ?_⟩
  exact gset (gset (gtrans (galloc (galloc (galloc (Below.refl _ _) _) _) _) h0) (by simp; omega) _) (by simp; omega) _

theorem mul_any (ka kb : Bool) (a b : Int) (w : World) (ha : fitsB a = true) (hb : fitsB b = true) :
    Calls Tryz.prog 86 #[.agg #[.bool ka, .int .i64 a], .agg #[.bool kb, .int .i64 b]] w fun e w' => e = .returned (.agg #[.bool (opK ka kb (a * b)), .int .i64 (opN ka kb (a * b))]) ∧ Below w.heap.size w w' := by
  cases h : (ka && kb)
  · have e1 : opK ka kb (a * b) = false := opK_no ka kb _ h
    have e2 : opN ka kb (a * b) = 0 := opN_no ka kb _ h
    rw [e1, e2]; exact mul_no ka kb a b w h
  · simp only [Bool.and_eq_true] at h
    obtain ⟨rfl, rfl⟩ := h
    rw [opK_tt, opN_tt]; exact mul_yes a b w ha hb

end Go.Proofs.YtglagbedgjkdbaaGreatDoor
