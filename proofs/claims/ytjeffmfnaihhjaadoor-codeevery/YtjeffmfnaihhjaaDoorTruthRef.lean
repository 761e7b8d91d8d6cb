/- What the document's own grade, graded, And, Or, Not, True come to. -/
import Derived.Test.YtjeffmfnaihhjaaDoorTruth
import Derived.Test.YtjeffmfnaihhjaaDoorRef0
namespace Go.Proofs.YtjeffmfnaihhjaaDoor
open Go.RowKit
set_option linter.unusedVariables false

set_option maxHeartbeats 400000 in
theorem grade_any (k : Bool) (a : Int) (w : World) :
    Calls Tryd.prog 51 #[.agg #[.bool k, .int .i64 a]] w fun e w' => e = .returned (.int .i64 (rd k a)) ∧ Below w.heap.size w w' := by
  cases k
  · go_enter Tryd.func51, Tryd.ntmps51
    go_wp2
    go_ret
    exact ⟨rfl, galloc (Below.refl _ _) _⟩
  · by_cases h : a = 0
    · subst h
      go_enter Tryd.func51, Tryd.ntmps51
      go_wp2
      go_ret
      exact ⟨rfl, galloc (Below.refl _ _) _⟩
    · have h' : (a == 0) = false := by simpa using h
      have e : rd true a = 2 := by simp [rd, h]
      rw [e]
      go_enter Tryd.func51, Tryd.ntmps51
      go_wp2
      go_ret
      exact ⟨rfl, galloc (Below.refl _ _) _⟩

set_option maxHeartbeats 400000 in
theorem graded_any (t : Int) (w : World) (h : t = 0 ∨ t = 1 ∨ t = 2) :
    Calls Tryd.prog 64 #[.int .i64 t] w fun e w' => e = .returned (.agg #[.bool (vK t), .int .i64 (vN t)]) ∧ Below w.heap.size w w' := by
  rcases h with rfl | rfl | rfl
  · show Calls _ _ _ _ fun e w' => e = .returned (.agg #[.bool true, .int .i64 0]) ∧ _
    go_enter Tryd.func64, Tryd.ntmps64
    go_wp2_with (go_at_call 61; refine (refNumber_any _ _).mono ?_; rintro e w0 ⟨rfl, g0⟩; obtain ⟨hc0, hf0⟩ := bcell g0)
    refine bodyPost_ret (v := .agg #[.bool true, .int .i64 0]) (by simp [results, Tryd.results64, go_sem, hc0]) rfl ⟨rfl, ?_⟩
    exact gset (gset (gtrans (galloc (Below.refl _ _) _) g0) (by simp) _) (by simp) _
  · show Calls _ _ _ _ fun e w' => e = .returned (.agg #[.bool false, .int .i64 0]) ∧ _
    go_enter Tryd.func64, Tryd.ntmps64
    go_wp2_with (go_at_call 28; refine (refNothing_any _).mono ?_; rintro e w0 ⟨rfl, g0⟩; obtain ⟨hc0, hf0⟩ := bcell g0)
    refine bodyPost_ret (v := .agg #[.bool false, .int .i64 0]) (by simp [results, Tryd.results64, go_sem, hc0]) rfl ⟨rfl, ?_⟩
    exact gset (gset (gtrans (galloc (Below.refl _ _) _) g0) (by simp) _) (by simp) _
  · show Calls _ _ _ _ fun e w' => e = .returned (.agg #[.bool true, .int .i64 1]) ∧ _
    go_enter Tryd.func64, Tryd.ntmps64
    go_wp2_with (go_at_call 61; refine (refNumber_any _ _).mono ?_; rintro e w0 ⟨rfl, g0⟩; obtain ⟨hc0, hf0⟩ := bcell g0)
    refine bodyPost_ret (v := .agg #[.bool true, .int .i64 1]) (by simp [results, Tryd.results64, go_sem, hc0]) rfl ⟨rfl, ?_⟩
    exact gset (gset (gtrans (galloc (Below.refl _ _) _) g0) (by simp) _) (by simp) _

set_option maxHeartbeats 400000 in
theorem refTrue_any (k : Bool) (a : Int) (w : World) :
    Calls Tryd.prog 30 #[.agg #[.bool k, .int .i64 a]] w fun e w' => e = .returned (.bool (rd k a == 2)) ∧ Below w.heap.size w w' := by
  go_enter Tryd.func30, Tryd.ntmps30
  go_wp2_with (go_at_call 51; refine (grade_any _ _ _).mono ?_; rintro e w0 ⟨rfl, g0⟩)
  go_ret
  exact ⟨rfl, gtrans (galloc (Below.refl _ _) _) g0⟩

set_option maxHeartbeats 1000000 in
theorem refNot_any (k : Bool) (a : Int) (w : World) :
    Calls Tryd.prog 49 #[.agg #[.bool k, .int .i64 a]] w fun e w' => e = .returned (.agg #[.bool (vK (2 - rd k a)), .int .i64 (vN (2 - rd k a))]) ∧ Below w.heap.size w w' := by
  have h0 := rd_nn k a
  have h1 := rd_lt k a
  have hv := fun w => graded_any (2 - rd k a) w (by omega)
  go_enter Tryd.func49, Tryd.ntmps49
  go_wp2_with (first
    | (go_at_call 51; refine (grade_any _ _ _).mono ?_; rintro e w0 ⟨rfl, g0⟩; obtain ⟨hc0, hf0⟩ := bcell g0)
    | (go_at_call 64; refine (hv _).mono ?_; rintro e w1 ⟨rfl, g1⟩; replace g0 := gtrans g0 g1; obtain ⟨hc1, hf1⟩ := bcell g0))
  refine bodyPost_ret (v := .agg #[.bool (vK (2 - rd k a)), .int .i64 (vN (2 - rd k a))]) (by simp [results, Tryd.results49, go_sem, hc1]) rfl ⟨rfl, ?_⟩
  exact gset (gset (gtrans (galloc (galloc (Below.refl _ _) _) _) g0) (by simp) _) (by simp) _

set_option maxHeartbeats 1000000 in
theorem refAnd_any (ka kb : Bool) (a b : Int) (w : World) :
    Calls Tryd.prog 70 #[.agg #[.bool ka, .int .i64 a], .agg #[.bool kb, .int .i64 b]] w fun e w' => e = .returned (.agg #[.bool (vK (minI (rd ka a) (rd kb b))), .int .i64 (vN (minI (rd ka a) (rd kb b)))]) ∧ Below w.heap.size w w' := by
  have hva := fun w => graded_any (rd ka a) w (rd_cases ka a)
  have hvb := fun w => graded_any (rd kb b) w (rd_cases kb b)
  have hra := grade_any ka a
  have hrb := grade_any kb b
  by_cases h : rd kb b < rd ka a
  · have e : minI (rd ka a) (rd kb b) = rd kb b := by simp [minI, h]
    rw [e]
    generalize rd ka a = i at *
    generalize rd kb b = j at *
    clear e hva
    go_enter Tryd.func70, Tryd.ntmps70
    go_wp2_with (first
      | (go_at_call_of 51 (Value.int IntKind.i64 a); refine (hra _).mono ?_; rintro e w0 ⟨rfl, g0⟩; obtain ⟨hc0, hf0⟩ := bcell g0)
      | (go_at_call_of 51 (Value.int IntKind.i64 b); refine (hrb _).mono ?_; rintro e w1 ⟨rfl, g1⟩; replace g0 := gtrans g0 g1; obtain ⟨hc1, hf1⟩ := bcell g0)
      | (go_at_call 64; refine (hvb _).mono ?_; rintro e w1 ⟨rfl, g1⟩; replace g0 := gtrans g0 g1; obtain ⟨hc2, hf2⟩ := bcell g0))
    refine bodyPost_ret (v := .agg #[.bool (vK j), .int .i64 (vN j)]) (by simp [results, Tryd.results70, go_sem, hc2]) rfl ⟨rfl, ?_⟩
    exact gset (gset (gtrans (galloc (galloc (galloc (Below.refl _ _) _) _) _) g0) (by simp; omega) _) (by simp; omega) _
  · have e : minI (rd ka a) (rd kb b) = rd ka a := by simp [minI, h]
    rw [e]
    generalize rd ka a = i at *
    generalize rd kb b = j at *
    clear e hvb
    go_enter Tryd.func70, Tryd.ntmps70
    go_wp2_with (first
      | (go_at_call_of 51 (Value.int IntKind.i64 a); refine (hra _).mono ?_; rintro e w0 ⟨rfl, g0⟩; obtain ⟨hc0, hf0⟩ := bcell g0)
      | (go_at_call_of 51 (Value.int IntKind.i64 b); refine (hrb _).mono ?_; rintro e w1 ⟨rfl, g1⟩; replace g0 := gtrans g0 g1; obtain ⟨hc1, hf1⟩ := bcell g0)
      | (go_at_call 64; refine (hva _).mono ?_; rintro e w1 ⟨rfl, g1⟩; replace g0 := gtrans g0 g1; obtain ⟨hc2, hf2⟩ := bcell g0))
    refine bodyPost_ret (v := .agg #[.bool (vK i), .int .i64 (vN i)]) (by simp [results, Tryd.results70, go_sem, hc2]) rfl ⟨rfl, ?_⟩
    exact gset (gset (gtrans (galloc (galloc (galloc (Below.refl _ _) _) _) _) g0) (by simp; omega) _) (by simp; omega) _

set_option maxHeartbeats 1000000 in
theorem refOr_any (ka kb : Bool) (a b : Int) (w : World) :
    Calls Tryd.prog 71 #[.agg #[.bool ka, .int .i64 a], .agg #[.bool kb, .int .i64 b]] w fun e w' => e = .returned (.agg #[.bool (vK (maxI (rd ka a) (rd kb b))), .int .i64 (vN (maxI (rd ka a) (rd kb b)))]) ∧ Below w.heap.size w w' := by
  have hva := fun w => graded_any (rd ka a) w (rd_cases ka a)
  have hvb := fun w => graded_any (rd kb b) w (rd_cases kb b)
  have hra := grade_any ka a
  have hrb := grade_any kb b
  by_cases h : rd ka a < rd kb b
  · have e : maxI (rd ka a) (rd kb b) = rd kb b := by simp [maxI, h]
    rw [e]
    generalize rd ka a = i at *
    generalize rd kb b = j at *
    clear e hva
    go_enter Tryd.func71, Tryd.ntmps71
    go_wp2_with (first
      | (go_at_call_of 51 (Value.int IntKind.i64 a); refine (hra _).mono ?_; rintro e w0 ⟨rfl, g0⟩; obtain ⟨hc0, hf0⟩ := bcell g0)
      | (go_at_call_of 51 (Value.int IntKind.i64 b); refine (hrb _).mono ?_; rintro e w1 ⟨rfl, g1⟩; replace g0 := gtrans g0 g1; obtain ⟨hc1, hf1⟩ := bcell g0)
      | (go_at_call 64; refine (hvb _).mono ?_; rintro e w1 ⟨rfl, g1⟩; replace g0 := gtrans g0 g1; obtain ⟨hc2, hf2⟩ := bcell g0))
    refine bodyPost_ret (v := .agg #[.bool (vK j), .int .i64 (vN j)]) (by simp [results, Tryd.results71, go_sem, hc2]) rfl ⟨rfl, ?_⟩
    exact gset (gset (gtrans (galloc (galloc (galloc (Below.refl _ _) _) _) _) g0) (by simp; omega) _) (by simp; omega) _
  · have e : maxI (rd ka a) (rd kb b) = rd ka a := by simp [maxI, h]
    rw [e]
    generalize rd ka a = i at *
    generalize rd kb b = j at *
    clear e hvb
    go_enter Tryd.func71, Tryd.ntmps71
    go_wp2_with (first
      | (go_at_call_of 51 (Value.int IntKind.i64 a); refine (hra _).mono ?_; rintro e w0 ⟨rfl, g0⟩; obtain ⟨hc0, hf0⟩ := bcell g0)
      | (go_at_call_of 51 (Value.int IntKind.i64 b); refine (hrb _).mono ?_; rintro e w1 ⟨rfl, g1⟩; replace g0 := gtrans g0 g1; obtain ⟨hc1, hf1⟩ := bcell g0)
      | (go_at_call 64; refine (hva _).mono ?_; rintro e w1 ⟨rfl, g1⟩; replace g0 := gtrans g0 g1; obtain ⟨hc2, hf2⟩ := bcell g0))
    refine bodyPost_ret (v := .agg #[.bool (vK i), .int .i64 (vN i)]) (by simp [results, Tryd.results71, go_sem, hc2]) rfl ⟨rfl, ?_⟩
    exact gset (gset (gtrans (galloc (galloc (galloc (Below.refl _ _) _) _) _) g0) (by simp; omega) _) (by simp; omega) _

end Go.Proofs.YtjeffmfnaihhjaaDoor
