/- What the document's own answers (package sluiceref1) come to: Number, Nothing, Neg, Div, Mod. -/
import Derived.Test.YtjeffmfnaihhjaaDoorOps2
import Derived.Test.YtjeffmfnaihhjaaDoorRef0
namespace Go.Proofs.YtjeffmfnaihhjaaDoor
open Go.RowKit
set_option linter.unusedVariables false

set_option maxHeartbeats 400000 in
theorem refNeg_any (ka : Bool) (a : Int) (w : World) (ha : fitsB a = true) :
    Calls Tryd.prog 48 #[.agg #[.bool ka, .int .i64 a]] w fun e w' => e = .returned (.agg #[.bool (opK true ka (0 - a)), .int .i64 (opN true ka (0 - a))]) ∧ Below w.heap.size w w' := by
  have hA := (fits_iff a).1 ha
  cases ka
  · rw [opK_f2, opN_f2]
    go_enter Tryd.func48, Tryd.ntmps48
    go_wp2_with (first | (go_at_call 61; refine (refNumber_any _ _).mono ?_; rintro e w0 ⟨rfl, g0⟩; obtain ⟨hc0, hf0⟩ := bcell g0) | (go_at_call 28; refine (refNothing_any _).mono ?_; rintro e w0 ⟨rfl, g0⟩; obtain ⟨hc0, hf0⟩ := bcell g0))
    refine bodyPost_ret (v := .agg #[.bool false, .int .i64 0]) (by simp [results, Tryd.results48, go_sem, hc0]) rfl ⟨rfl, ?_⟩
    exact gset (gset (gtrans (galloc (galloc (Below.refl _ _) _) _) g0) (by simp) _) (by simp) _
  · rw [opK_tt, opN_tt]
    by_cases h : a = -9223372036854775808
    · subst h
      have e1 : fitsB (0 - -9223372036854775808) = false := by decide
      rw [fitN_no _ e1, e1]
      go_enter Tryd.func48, Tryd.ntmps48
      go_wp2_with (first | (go_at_call 61; refine (refNumber_any _ _).mono ?_; rintro e w0 ⟨rfl, g0⟩; obtain ⟨hc0, hf0⟩ := bcell g0) | (go_at_call 28; refine (refNothing_any _).mono ?_; rintro e w0 ⟨rfl, g0⟩; obtain ⟨hc0, hf0⟩ := bcell g0))
      refine bodyPost_ret (v := .agg #[.bool false, .int .i64 0]) (by simp [results, Tryd.results48, go_sem, hc0]) rfl ⟨rfl, ?_⟩
      exact gset (gset (gtrans (galloc (galloc (Below.refl _ _) _) _) g0) (by simp) _) (by simp) _
    · have e1 : fitsB (0 - a) = true := by rw [fits_iff]; omega
      have e2 : (a == -9223372036854775808) = false := by simpa using h
      have e3 : 0 - a = -a := by omega
      rw [fitN_yes _ e1, e1, e3]
      go_enter Tryd.func48, Tryd.ntmps48
      go_wp2_with (first | (go_at_call 61; refine (refNumber_any _ _).mono ?_; rintro e w0 ⟨rfl, g0⟩; obtain ⟨hc0, hf0⟩ := bcell g0) | (go_at_call 28; refine (refNothing_any _).mono ?_; rintro e w0 ⟨rfl, g0⟩; obtain ⟨hc0, hf0⟩ := bcell g0))
      refine bodyPost_ret (v := .agg #[.bool true, .int .i64 (-a)]) (by simp [results, Tryd.results48, go_sem, hc0]) rfl ⟨rfl, ?_⟩
      exact gset (gset (gtrans (galloc (galloc (Below.refl _ _) _) _) g0) (by simp) _) (by simp) _
end Go.Proofs.YtjeffmfnaihhjaaDoor
