/- What the document's own Mul comes to: the same as num's. -/
import Derived.Test.YtjeffmfnaihhjaaDoorRef3
namespace Go.Proofs.YtjeffmfnaihhjaaDoor
open Go.RowKit
set_option linter.unusedVariables false

theorem wrap_split (x : Int) : ∃ k : Int, wrap64 x = x - k * 18446744073709551616 ∧ (fitsB x = false → k ≠ 0) := by
  refine ⟨(x + 9223372036854775808) / 18446744073709551616, by unfold wrap64; omega, fun h => ?_⟩
  rw [fits_not] at h; omega
theorem mul_back_no (a b : Int) (ha : fitsB a = true) (hb : fitsB b = true) (h0 : ¬ b = 0) (h : fitsB (a * b) = false) : ¬ (wrap64 (a * b)).tdiv b = a := by
  intro he
  obtain ⟨k, hk, hk0⟩ := wrap_split (a * b)
  have hk1 := hk0 h
  have h1 := Int.tmod_add_mul_tdiv (wrap64 (a * b)) b
  have h2 := Int.natAbs_tmod (wrap64 (a * b)) b
  have h3 : (wrap64 (a * b)).natAbs % b.natAbs < b.natAbs := Nat.mod_lt _ (by omega)
  rw [← h2] at h3
  rw [he, Int.mul_comm b a] at h1
  rw [fits_iff] at hb
  generalize (wrap64 (a * b)).tmod b = r at *
  generalize wrap64 (a * b) = p at *
  generalize a * b = m at *
  omega
theorem mul_back_yes (a b : Int) (h0 : ¬ b = 0) : (a * b).tdiv b = a := Int.mul_tdiv_cancel a h0

set_option maxHeartbeats 400000 in
theorem refMul_no (ka kb : Bool) (a b : Int) (w : World) (h : (ka && kb) = false) :
    Calls Tryd.prog 67 #[.agg #[.bool ka, .int .i64 a], .agg #[.bool kb, .int .i64 b]] w fun e w' => e = .returned (.agg #[.bool false, .int .i64 0]) ∧ Below w.heap.size w w' := by
  cases ka <;> cases kb <;> first | (simp at h; done) | clear h
  all_goals
    go_enter Tryd.func67, Tryd.ntmps67
    go_wp2_with (go_at_call 28; refine (refNothing_any _).mono ?_; rintro e w0 ⟨rfl, g0⟩; obtain ⟨hc0, hf0⟩ := bcell g0)
    refine bodyPost_ret (v := .agg #[.bool false, .int .i64 0]) (by simp [results, Tryd.results67, go_sem, hc0]) rfl ⟨rfl, ?_⟩
    exact gset (gset (gtrans (galloc (galloc (galloc (Below.refl _ _) _) _) _) g0) (by simp; omega) _) (by simp; omega) _

set_option maxHeartbeats 400000 in
theorem refMul_zero (a : Int) (w : World) :
    Calls Tryd.prog 67 #[.agg #[.bool true, .int .i64 a], .agg #[.bool true, .int .i64 0]] w fun e w' => e = .returned (.agg #[.bool true, .int .i64 0]) ∧ Below w.heap.size w w' := by
  go_enter Tryd.func67, Tryd.ntmps67
  go_wp2_with (go_at_call 61; refine (refNumber_any _ _).mono ?_; rintro e w0 ⟨rfl, g0⟩; obtain ⟨hc0, hf0⟩ := bcell g0)
  refine bodyPost_ret (v := .agg #[.bool true, .int .i64 0]) (by simp [results, Tryd.results67, go_sem, hc0]) rfl ⟨rfl, ?_⟩
  exact gset (gset (gtrans (galloc (galloc (galloc (Below.refl _ _) _) _) _) g0) (by simp; omega) _) (by simp; omega) _

set_option maxHeartbeats 400000 in
theorem refMul_neg (a : Int) (w : World) (ha : fitsB a = true) :
    Calls Tryd.prog 67 #[.agg #[.bool true, .int .i64 a], .agg #[.bool true, .int .i64 (-1)]] w fun e w' => e = .returned (.agg #[.bool (opK true true (0 - a)), .int .i64 (opN true true (0 - a))]) ∧ Below w.heap.size w w' := by
  go_enter Tryd.func67, Tryd.ntmps67
  go_wp2_with (go_at_call 48; refine (refNeg_any _ _ _ ha).mono ?_; rintro e w0 ⟨rfl, g0⟩; obtain ⟨hc0, hf0⟩ := bcell g0)
  refine bodyPost_ret (v := .agg #[.bool (opK true true (0 - a)), .int .i64 (opN true true (0 - a))]) (by simp [results, Tryd.results67, go_sem, hc0]) rfl ⟨rfl, ?_⟩
  exact gset (gset (gtrans (galloc (galloc (galloc (Below.refl _ _) _) _) _) g0) (by simp; omega) _) (by simp; omega) _

theorem wrapEq4 (x : Int) : IntKind.i64.wrap x = wrap64 x := by rw [IntKind.wrap_i64]; unfold wrap64; rfl

set_option maxHeartbeats 1000000 in
theorem refMul_fit (a b : Int) (w : World) (ha : fitsB a = true) (hb : fitsB b = true) (h0 : (b == 0) = false) (h1 : (b == -1) = false) (h : fitsB (a * b) = true) :
    Calls Tryd.prog 67 #[.agg #[.bool true, .int .i64 a], .agg #[.bool true, .int .i64 b]] w fun e w' => e = .returned (.agg #[.bool true, .int .i64 (a * b)]) ∧ Below w.heap.size w w' := by
  have h0' : ¬ b = 0 := by simpa using h0
  have f1 := wrap_fits _ h
  have f2 := mul_back_yes a b h0'
  have f3 := wrap_fits _ ha
  have f4 := wrapEq4 a
  go_enter Tryd.func67, Tryd.ntmps67
  go_wp2
  go_quiet (fail)
  go_wp2_with (go_at_call 61; refine (refNumber_any _ _).mono ?_; rintro e w0 ⟨rfl, g0⟩; obtain ⟨hc0, hf0⟩ := bcell g0)
  refine bodyPost_ret (v := .agg #[.bool true, .int .i64 (a * b)]) (by simp [results, Tryd.results67, go_sem, hc0]) rfl ⟨rfl, ?_⟩
  exact gset (gset (gtrans (below_drewN (galloc (galloc (galloc (Below.refl _ _) _) _) _) _) g0) (by simp; omega) _) (by simp; omega) _

set_option maxHeartbeats 1000000 in
theorem refMul_out (a b : Int) (w : World) (ha : fitsB a = true) (hb : fitsB b = true) (h0 : (b == 0) = false) (h1 : (b == -1) = false) (h : fitsB (a * b) = false) :
    Calls Tryd.prog 67 #[.agg #[.bool true, .int .i64 a], .agg #[.bool true, .int .i64 b]] w fun e w' => e = .returned (.agg #[.bool false, .int .i64 0]) ∧ Below w.heap.size w w' := by
  have h0' : ¬ b = 0 := by simpa using h0
  have h1' : ¬ b = -1 := by simpa using h1
  have f2 := mul_back_no a b ha hb h0' h
  have f5 : fitsB (wrap64 (a * b)) = true := (fits_iff _).2 ⟨wrap_ge _, wrap_le _⟩
  have f3 := wrap_fits _ (tdiv_fits (wrap64 (a * b)) b f5 h1')
  have f4 := (wrapEq4 ((wrap64 (a * b)).tdiv b)).trans f3
  go_enter Tryd.func67, Tryd.ntmps67
  go_wp2
  go_quiet (fail)
  go_wp2_with (go_at_call 28; refine (refNothing_any _).mono ?_; rintro e w0 ⟨rfl, g0⟩; obtain ⟨hc0, hf0⟩ := bcell g0)
  refine bodyPost_ret (v := .agg #[.bool false, .int .i64 0]) (by simp [results, Tryd.results67, go_sem, hc0]) rfl ⟨rfl, ?_⟩
  exact gset (gset (gtrans (below_drewN (galloc (galloc (galloc (Below.refl _ _) _) _) _) _) g0) (by simp; omega) _) (by simp; omega) _

theorem refMul_any (ka kb : Bool) (a b : Int) (w : World) (ha : fitsB a = true) (hb : fitsB b = true) :
    Calls Tryd.prog 67 #[.agg #[.bool ka, .int .i64 a], .agg #[.bool kb, .int .i64 b]] w fun e w' => e = .returned (.agg #[.bool (opK ka kb (a * b)), .int .i64 (opN ka kb (a * b))]) ∧ Below w.heap.size w w' := by
  cases h : (ka && kb)
  · rw [opK_no ka kb _ h, opN_no ka kb _ h]; exact refMul_no ka kb a b w h
  · simp only [Bool.and_eq_true] at h
    obtain ⟨rfl, rfl⟩ := h
    cases h0 : (b == 0)
    · cases h1 : (b == -1)
      · rw [opK_tt, opN_tt]
        cases h2 : fitsB (a * b)
        · rw [fitN_no _ h2]; exact refMul_out a b w ha hb h0 h1 h2
        · rw [fitN_yes _ h2]; exact refMul_fit a b w ha hb h0 h1 h2
      · have : b = -1 := by simpa using h1
        subst this
        have e : a * -1 = 0 - a := by omega
        rw [e]; exact refMul_neg a w ha
    · have : b = 0 := by simpa using h0
      subst this
      have e : a * 0 = 0 := by omega
      rw [e]
      exact refMul_zero a w
end Go.Proofs.YtjeffmfnaihhjaaDoor
