/- What the document's own widen, plus, minus, fit, Add, Sub, Mul come to. And what goes with it: 5 texts in one. -/
import Derived.Test.YtglagbedgjkdbaaGreatDoorJb10
import Derived.Deep.QuietTactic
import Derived.BigQuiet
namespace Go.Proofs.YtglagbedgjkdbaaGreatDoor
open Go.RowKit
set_option linter.unusedVariables false

def rHi (x : Int) : Int := x / 4294967296
def rLo (x : Int) : Int := x % 4294967296
theorem rLo_nn (x : Int) : 0 ≤ rLo x := by unfold rLo; omega
theorem rLo_lt (x : Int) : rLo x < 4294967296 := by unfold rLo; omega
theorem and_mask (n : Int) : bits .and .i64 n 4294967295 = rLo n := by
  have h127 : (BitVec.ofInt 64 4294967295).toNat = 2 ^ 32 - 1 := by decide
  have key : (BitVec.ofInt 64 n &&& BitVec.ofInt 64 4294967295).toNat = (n % ((2 ^ 64 : Nat) : Int)).toNat % 2 ^ 32 := by
    rw [BitVec.toNat_and, BitVec.toNat_ofInt, h127, Nat.and_two_pow_sub_one_eq_mod]
  show IntKind.i64.wrap ((BitVec.ofInt 64 n &&& BitVec.ofInt 64 4294967295).toNat : Nat) = rLo n
  rw [key, IntKind.wrap_i64]
  unfold rLo
  omega
theorem shr_hi (n : Int) : n / 4294967296 = rHi n := rfl

set_option maxHeartbeats 400000 in
theorem refWiden_any (n : Int) (w : World) (hn : fitsB n = true) :
    Calls Tryz.prog 135 #[.int .i64 n] w fun e w' => e = .returned (.agg #[.int .i64 (rHi n), .int .i64 (rLo n)]) ∧ Below w.heap.size w w' := by
  have e1 := and_mask n
  have e2 := shr_hi n
  have hN := (fits_iff n).1 hn
  go_enter Tryz.func135, Tryz.ntmps135
  go_wp2
  exact bodyPost_ret (v := .agg #[.int .i64 (rHi n), .int .i64 (rLo n)]) (by simp [results, Tryz.results135, go_sem]) rfl ⟨rfl, galloc (Below.refl _ _) _⟩

theorem rplus_hi1 (x y : Int) (h : 4294967296 ≤ rLo x + rLo y) : rHi x + rHi y + 1 = rHi (x + y) := by unfold rHi rLo at *; omega
theorem rplus_lo1 (x y : Int) (h : 4294967296 ≤ rLo x + rLo y) : rLo x + rLo y - 4294967296 = rLo (x + y) := by unfold rLo at *; omega
theorem rplus_hi2 (x y : Int) (h : ¬ 4294967296 ≤ rLo x + rLo y) : rHi x + rHi y = rHi (x + y) := by unfold rHi rLo at *; omega
theorem rplus_lo2 (x y : Int) (h : ¬ 4294967296 ≤ rLo x + rLo y) : rLo x + rLo y = rLo (x + y) := by unfold rLo at *; omega
set_option maxHeartbeats 1000000 in
theorem refplus_any (x y : Int) (w : World) (h1 : -2305843009213693952 ≤ rHi x) (h2 : rHi x ≤ 2305843009213693952) (h3 : -2305843009213693952 ≤ rHi y) (h4 : rHi y ≤ 2305843009213693952) :
    Calls Tryz.prog 134 #[.agg #[.int .i64 (rHi x), .int .i64 (rLo x)], .agg #[.int .i64 (rHi y), .int .i64 (rLo y)]] w fun e w' => e = .returned (.agg #[.int .i64 (rHi (x + y)), .int .i64 (rLo (x + y))]) ∧ Below w.heap.size w w' := by
  have l1 := rLo_nn x
  have l2 := rLo_lt x
  have l3 := rLo_nn y
  have l4 := rLo_lt y
  by_cases h : 4294967296 ≤ rLo x + rLo y
  · have f1 := rplus_hi1 x y h
    have f2 := rplus_lo1 x y h
    rw [← f1, ← f2]
    clear f1 f2
    go_enter Tryz.func134, Tryz.ntmps134
    go_wp2
    exact bodyPost_ret (v := .agg #[.int .i64 (rHi x + rHi y + 1), .int .i64 (rLo x + rLo y - 4294967296)]) (by simp [results, Tryz.results134, go_sem]) rfl ⟨rfl, galloc (galloc (galloc (Below.refl _ _) _) _) _⟩
  · have f1 := rplus_hi2 x y h
    have f2 := rplus_lo2 x y h
    rw [← f1, ← f2]
    clear f1 f2
    go_enter Tryz.func134, Tryz.ntmps134
    go_wp2
    exact bodyPost_ret (v := .agg #[.int .i64 (rHi x + rHi y), .int .i64 (rLo x + rLo y)]) (by simp [results, Tryz.results134, go_sem]) rfl ⟨rfl, galloc (galloc (galloc (Below.refl _ _) _) _) _⟩

theorem rminus_hi1 (x y : Int) (h : rLo x - rLo y < 0) : rHi x - rHi y - 1 = rHi (x - y) := by unfold rHi rLo at *; omega
theorem rminus_lo1 (x y : Int) (h : rLo x - rLo y < 0) : rLo x - rLo y + 4294967296 = rLo (x - y) := by unfold rLo at *; omega
theorem rminus_hi2 (x y : Int) (h : ¬ rLo x - rLo y < 0) : rHi x - rHi y = rHi (x - y) := by unfold rHi rLo at *; omega
theorem rminus_lo2 (x y : Int) (h : ¬ rLo x - rLo y < 0) : rLo x - rLo y = rLo (x - y) := by unfold rLo at *; omega
set_option maxHeartbeats 1000000 in
theorem refminus_any (x y : Int) (w : World) (h1 : -2305843009213693952 ≤ rHi x) (h2 : rHi x ≤ 2305843009213693952) (h3 : -2305843009213693952 ≤ rHi y) (h4 : rHi y ≤ 2305843009213693952) :
    Calls Tryz.prog 136 #[.agg #[.int .i64 (rHi x), .int .i64 (rLo x)], .agg #[.int .i64 (rHi y), .int .i64 (rLo y)]] w fun e w' => e = .returned (.agg #[.int .i64 (rHi (x - y)), .int .i64 (rLo (x - y))]) ∧ Below w.heap.size w w' := by
  have l1 := rLo_nn x
  have l2 := rLo_lt x
  have l3 := rLo_nn y
  have l4 := rLo_lt y
  by_cases h : rLo x - rLo y < 0
  · have f1 := rminus_hi1 x y h
    have f2 := rminus_lo1 x y h
    rw [← f1, ← f2]
    clear f1 f2
    go_enter Tryz.func136, Tryz.ntmps136
    go_wp2
    exact bodyPost_ret (v := .agg #[.int .i64 (rHi x - rHi y - 1), .int .i64 (rLo x - rLo y + 4294967296)]) (by simp [results, Tryz.results136, go_sem]) rfl ⟨rfl, galloc (galloc (galloc (Below.refl _ _) _) _) _⟩
  · have f1 := rminus_hi2 x y h
    have f2 := rminus_lo2 x y h
    rw [← f1, ← f2]
    clear f1 f2
    go_enter Tryz.func136, Tryz.ntmps136
    go_wp2
    exact bodyPost_ret (v := .agg #[.int .i64 (rHi x - rHi y), .int .i64 (rLo x - rLo y)]) (by simp [results, Tryz.results136, go_sem]) rfl ⟨rfl, galloc (galloc (galloc (Below.refl _ _) _) _) _⟩

theorem fit_hi (x : Int) (h : fitsB x = true) : -2147483648 ≤ rHi x ∧ rHi x < 2147483648 ∧ rHi x * 4294967296 + rLo x = x := by
  rw [fits_iff] at h; unfold rHi rLo; omega
theorem fit_no (x : Int) (h : fitsB x = false) : rHi x < -2147483648 ∨ (-2147483648 ≤ rHi x ∧ 2147483648 ≤ rHi x) := by
  rw [fits_not] at h; unfold rHi; omega
set_option maxHeartbeats 1000000 in
theorem refFit_any (x : Int) (w : World) :
    Calls Tryz.prog 133 #[.agg #[.int .i64 (rHi x), .int .i64 (rLo x)]] w fun e w' => e = .returned (.agg #[.bool (fitsB x), .int .i64 (fitN x)]) ∧ Below w.heap.size w w' := by
  cases h : fitsB x
  · rw [fitN_no x h]
    have hh := fit_no x h
    clear h
    rcases hh with hh | hh
    all_goals
      go_enter Tryz.func133, Tryz.ntmps133
      go_wp2_with (go_at_call 46; refine (refNothing_any _).mono ?_; rintro e w0 ⟨rfl, g0⟩; obtain ⟨hc0, hf0⟩ := bcell g0)
      refine bodyPost_ret (v := .agg #[.bool false, .int .i64 0]) (by simp [results, Tryz.results133, go_sem, hc0]) rfl ⟨rfl, ?_⟩
      exact gset (gset (gtrans (galloc (galloc (Below.refl _ _) _) _) g0) (by simp) _) (by simp) _
  · rw [fitN_yes x h]
    obtain ⟨h1, h2, h3⟩ := fit_hi x h
    have h4 := (fits_iff x).1 h
    have l1 := rLo_nn x
    have l2 := rLo_lt x
    have e1 : wrap64 (rHi x * 4294967296) = rHi x * 4294967296 := by unfold wrap64; omega
    have e2 : wrap64 x = x := by unfold wrap64; omega
    have h3' : Hid (rHi x * 4294967296 + rLo x = x) := h3
    clear h
    go_enter Tryz.func133, Tryz.ntmps133
    go_wp2_with (go_at_call 73; refine (refNumber_any _ _).mono ?_; rintro e w0 ⟨rfl, g0⟩; obtain ⟨hc0, hf0⟩ := bcell g0)
    refine bodyPost_ret (v := .agg #[.bool true, .int .i64 x]) (by simp [results, Tryz.results133, go_sem, hc0]) rfl ⟨rfl, ?_⟩
    exact gset (gset (gtrans (galloc (galloc (Below.refl _ _) _) _) g0) (by simp) _) (by simp) _

set_option maxHeartbeats 1000000 in
theorem refAdd_yes (a b : Int) (w : World) (ha : fitsB a = true) (hb : fitsB b = true) :
    Calls Tryz.prog 107 #[.agg #[.bool true, .int .i64 a], .agg #[.bool true, .int .i64 b]] w fun e w' => e = .returned (.agg #[.bool (fitsB (a + b)), .int .i64 (fitN (a + b))]) ∧ Below w.heap.size w w' := by
  obtain ⟨a1, a2, _⟩ := fit_hi a ha
  obtain ⟨b1, b2, _⟩ := fit_hi b hb
  go_enter Tryz.func107, Tryz.ntmps107
  go_wp2
  have h0 := (galloc (galloc (galloc (Below.refl w.heap.size w) (.cells #[.bool true, .int .i64 a] 51)) (.cells #[.bool true, .int .i64 b] 51)) (.cells #[.bool false, .int .i64 0] 51)).drew
  go_region_with (first
    | (go_at_call 135; refine (refWiden_any _ _ (by assumption)).mono ?_; rintro e w1 ⟨rfl, h1⟩; (first | replace g0 := gtrans g0 h1 | (have g0 := h1)); obtain ⟨hc1, hf1⟩ := bcell g0)
    | (go_at_call 134; refine (refplus_any _ _ _ (by omega) (by omega) (by omega) (by omega)).mono ?_; rintro e w1 ⟨rfl, h1⟩; replace g0 := gtrans g0 h1; obtain ⟨hc1, hf1⟩ := bcell g0)
    | (go_at_call 133; refine (refFit_any _ _).mono ?_; rintro e w1 ⟨rfl, h1⟩; replace g0 := gtrans g0 h1; obtain ⟨hc1, hf1⟩ := bcell g0))
  all_goals
    obtain ⟨hc, hf⟩ := bcell g0
    go_wp2
    refine bodyPost_ret (v := .agg #[.bool (fitsB (a + b)), .int .i64 (fitN (a + b))]) (by simp [results, Tryz.results107, go_sem, hc]) rfl ⟨rfl, ?_⟩
    exact gset (gset (gtrans h0 g0) (by simp; omega) _) (by simp; omega) _

set_option maxHeartbeats 400000 in
theorem refAdd_no (ka kb : Bool) (a b : Int) (w : World) (h : (ka && kb) = false) :
    Calls Tryz.prog 107 #[.agg #[.bool ka, .int .i64 a], .agg #[.bool kb, .int .i64 b]] w fun e w' => e = .returned (.agg #[.bool false, .int .i64 0]) ∧ Below w.heap.size w w' := by
  cases ka <;> cases kb <;> first | (simp at h; done) | clear h
  all_goals
    go_enter Tryz.func107, Tryz.ntmps107
    go_wp2_with (go_at_call 46; refine (refNothing_any _).mono ?_; rintro e w0 ⟨rfl, g0⟩; obtain ⟨hc0, hf0⟩ := bcell g0)
    refine bodyPost_ret (v := .agg #[.bool false, .int .i64 0]) (by simp [results, Tryz.results107, go_sem, hc0]) rfl ⟨rfl, ?_⟩
    exact gset (gset (gtrans (galloc (galloc (galloc (Below.refl _ _) _) _) _) g0) (by simp; omega) _) (by simp; omega) _

theorem refAdd_any (ka kb : Bool) (a b : Int) (w : World) (ha : fitsB a = true) (hb : fitsB b = true) :
    Calls Tryz.prog 107 #[.agg #[.bool ka, .int .i64 a], .agg #[.bool kb, .int .i64 b]] w fun e w' => e = .returned (.agg #[.bool (opK ka kb (a + b)), .int .i64 (opN ka kb (a + b))]) ∧ Below w.heap.size w w' := by
  cases h : (ka && kb)
  · rw [opK_no ka kb _ h, opN_no ka kb _ h]; exact refAdd_no ka kb a b w h
  · simp only [Bool.and_eq_true] at h
    obtain ⟨rfl, rfl⟩ := h
    rw [opK_tt, opN_tt]; exact refAdd_yes a b w ha hb

set_option maxHeartbeats 1000000 in
theorem refSub_yes (a b : Int) (w : World) (ha : fitsB a = true) (hb : fitsB b = true) :
    Calls Tryz.prog 108 #[.agg #[.bool true, .int .i64 a], .agg #[.bool true, .int .i64 b]] w fun e w' => e = .returned (.agg #[.bool (fitsB (a - b)), .int .i64 (fitN (a - b))]) ∧ Below w.heap.size w w' := by
  obtain ⟨a1, a2, _⟩ := fit_hi a ha
  obtain ⟨b1, b2, _⟩ := fit_hi b hb
  go_enter Tryz.func108, Tryz.ntmps108
  go_wp2
  have h0 := (galloc (galloc (galloc (Below.refl w.heap.size w) (.cells #[.bool true, .int .i64 a] 51)) (.cells #[.bool true, .int .i64 b] 51)) (.cells #[.bool false, .int .i64 0] 51)).drew
  go_region_with (first
    | (go_at_call 135; refine (refWiden_any _ _ (by assumption)).mono ?_; rintro e w1 ⟨rfl, h1⟩; (first | replace g0 := gtrans g0 h1 | (have g0 := h1)); obtain ⟨hc1, hf1⟩ := bcell g0)
    | (go_at_call 136; refine (refminus_any _ _ _ (by omega) (by omega) (by omega) (by omega)).mono ?_; rintro e w1 ⟨rfl, h1⟩; replace g0 := gtrans g0 h1; obtain ⟨hc1, hf1⟩ := bcell g0)
    | (go_at_call 133; refine (refFit_any _ _).mono ?_; rintro e w1 ⟨rfl, h1⟩; replace g0 := gtrans g0 h1; obtain ⟨hc1, hf1⟩ := bcell g0))
  all_goals
    obtain ⟨hc, hf⟩ := bcell g0
    go_wp2
    refine bodyPost_ret (v := .agg #[.bool (fitsB (a - b)), .int .i64 (fitN (a - b))]) (by simp [results, Tryz.results108, go_sem, hc]) rfl ⟨rfl, ?_⟩
    exact gset (gset (gtrans h0 g0) (by simp; omega) _) (by simp; omega) _

set_option maxHeartbeats 400000 in
theorem refSub_no (ka kb : Bool) (a b : Int) (w : World) (h : (ka && kb) = false) :
    Calls Tryz.prog 108 #[.agg #[.bool ka, .int .i64 a], .agg #[.bool kb, .int .i64 b]] w fun e w' => e = .returned (.agg #[.bool false, .int .i64 0]) ∧ Below w.heap.size w w' := by
  cases ka <;> cases kb <;> first | (simp at h; done) | clear h
  all_goals
    go_enter Tryz.func108, Tryz.ntmps108
    go_wp2_with (go_at_call 46; refine (refNothing_any _).mono ?_; rintro e w0 ⟨rfl, g0⟩; obtain ⟨hc0, hf0⟩ := bcell g0)
    refine bodyPost_ret (v := .agg #[.bool false, .int .i64 0]) (by simp [results, Tryz.results108, go_sem, hc0]) rfl ⟨rfl, ?_⟩
    exact gset (gset (gtrans (galloc (galloc (galloc (Below.refl _ _) _) _) _) g0) (by simp; omega) _) (by simp; omega) _

theorem refSub_any (ka kb : Bool) (a b : Int) (w : World) (ha : fitsB a = true) (hb : fitsB b = true) :
    Calls Tryz.prog 108 #[.agg #[.bool ka, .int .i64 a], .agg #[.bool kb, .int .i64 b]] w fun e w' => e = .returned (.agg #[.bool (opK ka kb (a - b)), .int .i64 (opN ka kb (a - b))]) ∧ Below w.heap.size w w' := by
  cases h : (ka && kb)
  · rw [opK_no ka kb _ h, opN_no ka kb _ h]; exact refSub_no ka kb a b w h
  · simp only [Bool.and_eq_true] at h
    obtain ⟨rfl, rfl⟩ := h
    rw [opK_tt, opN_tt]; exact refSub_yes a b w ha hb

end Go.Proofs.YtglagbedgjkdbaaGreatDoor
namespace Go.Proofs.YtglagbedgjkdbaaGreatDoor
open Go.RowKit
set_option linter.unusedVariables false

theorem wrap_split (x : Int) : ∃ k : Int, wrap64 x = x - k * 18446744073709551616 ∧ (fitsB x = false → k ≠ 0) := by
  refine ⟨(x + 9223372036854775808) / 18446744073709551616, by unfold wrap64; omega, fun h => ?_⟩
  rw [fits_not] at h; omega
theorem mul_back_no (a b : Int) (ha : fitsB a = true) (hb : fitsB b = true) (h0 : ¬ b = 0) (h : fitsB (a * b) = false) : ¬ (wrap64 (a * b)).tdiv b = a := by
  intro he
  obtain ⟨k, hk, hk0⟩ := wrap_split (a * b)
  have hk1 := hk0 h
  have h1 := Int.tmod_add_mul_tdiv (wrap64 (a * b)) b
  have h2 := Int.natAbs_tmod (wrap64 (a * b)) b
  have h3 : (wrap64 (a * b)).natAbs % b.natAbs < b.natAbs := Nat.mod_lt _ (by omega)
  rw [← h2] at h3
  rw [he, Int.mul_comm b a] at h1
  rw [fits_iff] at hb
  generalize (wrap64 (a * b)).tmod b = r at *
  generalize wrap64 (a * b) = p at *
  generalize a * b = m at *
  omega
theorem mul_back_yes (a b : Int) (h0 : ¬ b = 0) : (a * b).tdiv b = a := Int.mul_tdiv_cancel a h0

set_option maxHeartbeats 400000 in
theorem refMul_no (ka kb : Bool) (a b : Int) (w : World) (h : (ka && kb) = false) :
    Calls Tryz.prog 109 #[.agg #[.bool ka, .int .i64 a], .agg #[.bool kb, .int .i64 b]] w fun e w' => e = .returned (.agg #[.bool false, .int .i64 0]) ∧ Below w.heap.size w w' := by
  cases ka <;> cases kb <;> first | (simp at h; done) | clear h
  all_goals
    go_enter Tryz.func109, Tryz.ntmps109
    go_wp2_with (go_at_call 46; refine (refNothing_any _).mono ?_; rintro e w0 ⟨rfl, g0⟩; obtain ⟨hc0, hf0⟩ := bcell g0)
    refine bodyPost_ret (v := .agg #[.bool false, .int .i64 0]) (by simp [results, Tryz.results109, go_sem, hc0]) rfl ⟨rfl, ?_⟩
    exact gset (gset (gtrans (galloc (galloc (galloc (Below.refl _ _) _) _) _) g0) (by simp; omega) _) (by simp; omega) _

set_option maxHeartbeats 400000 in
theorem refMul_zero (a : Int) (w : World) :
    Calls Tryz.prog 109 #[.agg #[.bool true, .int .i64 a], .agg #[.bool true, .int .i64 0]] w fun e w' => e = .returned (.agg #[.bool true, .int .i64 0]) ∧ Below w.heap.size w w' := by
  go_enter Tryz.func109, Tryz.ntmps109
  go_wp2_with (go_at_call 73; refine (refNumber_any _ _).mono ?_; rintro e w0 ⟨rfl, g0⟩; obtain ⟨hc0, hf0⟩ := bcell g0)
  refine bodyPost_ret (v := .agg #[.bool true, .int .i64 0]) (by simp [results, Tryz.results109, go_sem, hc0]) rfl ⟨rfl, ?_⟩
  exact gset (gset (gtrans (galloc (galloc (galloc (Below.refl _ _) _) _) _) g0) (by simp; omega) _) (by simp; omega) _

set_option maxHeartbeats 400000 in
theorem refMul_neg (a : Int) (w : World) (ha : fitsB a = true) :
    Calls Tryz.prog 109 #[.agg #[.bool true, .int .i64 a], .agg #[.bool true, .int .i64 (-1)]] w fun e w' => e = .returned (.agg #[.bool (opK true true (0 - a)), .int .i64 (opN true true (0 - a))]) ∧ Below w.heap.size w w' := by
  go_enter Tryz.func109, Tryz.ntmps109
  go_wp2_with (go_at_call 76; refine (refNeg_any _ _ _ ha).mono ?_; rintro e w0 ⟨rfl, g0⟩; obtain ⟨hc0, hf0⟩ := bcell g0)
  refine bodyPost_ret (v := .agg #[.bool (opK true true (0 - a)), .int .i64 (opN true true (0 - a))]) (by simp [results, Tryz.results109, go_sem, hc0]) rfl ⟨rfl, ?_⟩
  exact gset (gset (gtrans (galloc (galloc (galloc (Below.refl _ _) _) _) _) g0) (by simp; omega) _) (by simp; omega) _

theorem wrapEq4 (x : Int) : IntKind.i64.wrap x = wrap64 x := by rw [IntKind.wrap_i64]; unfold wrap64; rfl

set_option maxHeartbeats 1000000 in
theorem refMul_fit (a b : Int) (w : World) (ha : fitsB a = true) (hb : fitsB b = true) (h0 : (b == 0) = false) (h1 : (b == -1) = false) (h : fitsB (a * b) = true) :
    Calls Tryz.prog 109 #[.agg #[.bool true, .int .i64 a], .agg #[.bool true, .int .i64 b]] w fun e w' => e = .returned (.agg #[.bool true, .int .i64 (a * b)]) ∧ Below w.heap.size w w' := by
  have h0' : ¬ b = 0 := by simpa using h0
  have f1 := wrap_fits _ h
  have f2 := mul_back_yes a b h0'
  have f3 := wrap_fits _ ha
  have f4 := wrapEq4 a
  go_enter Tryz.func109, Tryz.ntmps109
  go_wp2
  go_quiet (fail)
  go_wp2_with (go_at_call 73; refine (refNumber_any _ _).mono ?_; rintro e w0 ⟨rfl, g0⟩; obtain ⟨hc0, hf0⟩ := bcell g0)
  refine bodyPost_ret (v := .agg #[.bool true, .int .i64 (a * b)]) (by simp [results, Tryz.results109, go_sem, hc0]) rfl ⟨rfl, ?_⟩
  exact gset (gset (gtrans (below_drewN (galloc (galloc (galloc (Below.refl _ _) _) _) _) _) g0) (by simp; omega) _) (by simp; omega) _

set_option maxHeartbeats 1000000 in
theorem refMul_out (a b : Int) (w : World) (ha : fitsB a = true) (hb : fitsB b = true) (h0 : (b == 0) = false) (h1 : (b == -1) = false) (h : fitsB (a * b) = false) :
    Calls Tryz.prog 109 #[.agg #[.bool true, .int .i64 a], .agg #[.bool true, .int .i64 b]] w fun e w' => e = .returned (.agg #[.bool false, .int .i64 0]) ∧ Below w.heap.size w w' := by
  have h0' : ¬ b = 0 := by simpa using h0
  have h1' : ¬ b = -1 := by simpa using h1
  have f2 := mul_back_no a b ha hb h0' h
  have f5 : fitsB (wrap64 (a * b)) = true := (fits_iff _).2 ⟨wrap_ge _, wrap_le _⟩
  have f3 := wrap_fits _ (tdiv_fits (wrap64 (a * b)) b f5 h1')
  have f4 := (wrapEq4 ((wrap64 (a * b)).tdiv b)).trans f3
  go_enter Tryz.func109, Tryz.ntmps109
  go_wp2
  go_quiet (fail)
  go_wp2_with (go_at_call 46; refine (refNothing_any _).mono ?_; rintro e w0 ⟨rfl, g0⟩; obtain ⟨hc0, hf0⟩ := bcell g0)
  refine bodyPost_ret (v := .agg #[.bool false, .int .i64 0]) (by simp [results, Tryz.results109, go_sem, hc0]) rfl ⟨rfl, ?_⟩
  exact gset (gset (gtrans (below_drewN (galloc (galloc (galloc (Below.refl _ _) _) _) _) _) g0) (by simp; omega) _) (by simp; omega) _

theorem refMul_any (ka kb : Bool) (a b : Int) (w : World) (ha : fitsB a = true) (hb : fitsB b = true) :
    Calls Tryz.prog 109 #[.agg #[.bool ka, .int .i64 a], .agg #[.bool kb, .int .i64 b]] w fun e w' => e = .returned (.agg #[.bool (opK ka kb (a * b)), .int .i64 (opN ka kb (a * b))]) ∧ Below w.heap.size w w' := by
  cases h : (ka && kb)
  · rw [opK_no ka kb _ h, opN_no ka kb _ h]; exact refMul_no ka kb a b w h
  · simp only [Bool.and_eq_true] at h
    obtain ⟨rfl, rfl⟩ := h
    cases h0 : (b == 0)
    · cases h1 : (b == -1)
      · rw [opK_tt, opN_tt]
        cases h2 : fitsB (a * b)
        · rw [fitN_no _ h2]; exact refMul_out a b w ha hb h0 h1 h2
        · rw [fitN_yes _ h2]; exact refMul_fit a b w ha hb h0 h1 h2
      · have : b = -1 := by simpa using h1
        subst this
        have e : a * -1 = 0 - a := by omega
        rw [e]; exact refMul_neg a w ha
    · have : b = 0 := by simpa using h0
      subst this
      have e : a * 0 = 0 := by omega
      rw [e]
      exact refMul_zero a w
end Go.Proofs.YtglagbedgjkdbaaGreatDoor
namespace Go.Proofs.YtglagbedgjkdbaaGreatDoor
open Go.RowKit
set_option linter.unusedVariables false

/-- A local's cell, over calls that make memory alone, and a new local behind them. -/
theorem kold {W u : World} (G : Below W.heap.size W u) (o : Obj) {b i : Nat} {v : Value} (s : b < W.heap.size) (r : W.cell? ⟨b, i, none⟩ = some v) : (u.alloc o).cell? ⟨b, i, none⟩ = some v :=
  (World.cell?_alloc_past (w := u) o b i (Nat.lt_of_lt_of_le s G.size)).trans ((G.cell (p := ⟨b, i, none⟩) s).trans r)
theorem kkeep {W u : World} (G : Below W.heap.size W u) {b i : Nat} {v : Value} (s : b < W.heap.size) (r : W.cell? ⟨b, i, none⟩ = some v) : u.cell? ⟨b, i, none⟩ = some v := (G.cell (p := ⟨b, i, none⟩) s).trans r
theorem ksize {W u : World} (G : Below W.heap.size W u) (o : Obj) {b : Nat} (s : b < W.heap.size) : b < (u.alloc o).heap.size := by
  show b < (u.heap.push _).size
  simp; exact Nat.lt_succ_of_lt (Nat.lt_of_lt_of_le s G.size)
theorem knew (u : World) (c : Array Value) (t : TypeId) (i : Nat) (v : Value) (h : c[i]? = some v) : (u.alloc (.cells c t)).cell? ⟨u.heap.size, i, none⟩ = some v := by
  rw [World.cell?_alloc_new]; exact h
theorem ksnew (u : World) (o : Obj) : u.heap.size < (u.alloc o).heap.size := by
  show u.heap.size < (u.heap.push _).size
  simp
theorem bsize {W u : World} (G : Below W.heap.size W u) : ∀ b, b < W.heap.size → b < u.heap.size := fun _ h => Nat.lt_of_lt_of_le h G.size
theorem relA {W u : World} (G : Below W.heap.size W u) (k : Bool) (n : Int) (t : TypeId) : ∃ b, Value.pointer (some ⟨u.heap.size, 0, none⟩) = .pointer (some ⟨b, 0, none⟩) ∧ (u.alloc (.cells #[.bool k, .int .i64 n] t)).cell? ⟨b, 0, none⟩ = some (.bool k) ∧ (u.alloc (.cells #[.bool k, .int .i64 n] t)).cell? ⟨b, 1, none⟩ = some (.int .i64 n) ∧ b < (u.alloc (.cells #[.bool k, .int .i64 n] t)).heap.size ∧ Below W.heap.size W (u.alloc (.cells #[.bool k, .int .i64 n] t)) :=
  ⟨_, rfl, knew u _ t 0 _ rfl, knew u _ t 1 _ rfl, ksnew u _, G.alloc G.size _⟩
theorem relB {W u : World} {c : Nat} (G : Below W.heap.size W u) (k : Bool) (n : Int) (h0 : u.cell? ⟨c, 0, none⟩ = some (.bool false)) (h1 : u.cell? ⟨c, 1, none⟩ = some (.int .i64 0)) (hc : c < u.heap.size) (hW : W.heap.size ≤ c) :
    ∃ b, Value.pointer (some ⟨c, 0, none⟩) = .pointer (some ⟨b, 0, none⟩) ∧ ((u.setCell ⟨c, 0, none⟩ (.bool k)).setCell ⟨c, 1, none⟩ (.int .i64 n)).cell? ⟨b, 0, none⟩ = some (.bool k) ∧ ((u.setCell ⟨c, 0, none⟩ (.bool k)).setCell ⟨c, 1, none⟩ (.int .i64 n)).cell? ⟨b, 1, none⟩ = some (.int .i64 n) ∧ b < ((u.setCell ⟨c, 0, none⟩ (.bool k)).setCell ⟨c, 1, none⟩ (.int .i64 n)).heap.size ∧ Below W.heap.size W ((u.setCell ⟨c, 0, none⟩ (.bool k)).setCell ⟨c, 1, none⟩ (.int .i64 n)) := by
  refine ⟨_, rfl, ?_, ?_, ?_, (G.setCell hW _).setCell hW _⟩
  · simp [go_sem, h0]
  · simp [go_sem, h1]
  · simpa [World.setCell] using hc

end Go.Proofs.YtglagbedgjkdbaaGreatDoor
namespace Go.Proofs.YtglagbedgjkdbaaGreatDoor
open Go.RowKit
set_option linter.unusedVariables false

/-- 0 no, 1 unknown, 2 yes. -/
def rd (k : Bool) (a : Int) : Int := if k = true then (if a = 0 then 0 else 2) else 1
def vK (t : Int) : Bool := !(t == 1)
def vN (t : Int) : Int := if t = 2 then 1 else 0
def minI (a b : Int) : Int := if b < a then b else a
def maxI (a b : Int) : Int := if a < b then b else a
theorem rd_cases (k : Bool) (a : Int) : rd k a = 0 ∨ rd k a = 1 ∨ rd k a = 2 := by unfold rd; split <;> (try split) <;> simp
theorem rd_nn (k : Bool) (a : Int) : 0 ≤ rd k a := by have := rd_cases k a; omega
theorem rd_lt (k : Bool) (a : Int) : rd k a < 3 := by have := rd_cases k a; omega

/-- The tables lie in memory as the text lays them. -/
structure Tabs (w : World) : Prop where
  sz : 3 < w.heap.size
  andT : ∀ i j : Nat, i < 3 → j < 3 → w.cell? ⟨2, i * 3 + j, none⟩ = some (.int .i64 (minI i j))
  orT : ∀ i j : Nat, i < 3 → j < 3 → w.cell? ⟨3, i * 3 + j, none⟩ = some (.int .i64 (maxI i j))
structure TabN (w : World) : Prop where
  sz : 1 < w.heap.size
  notT : ∀ i : Nat, i < 3 → w.cell? ⟨1, i, none⟩ = some (.int .i64 (2 - i))
theorem Tabs.keep {w w' : World} (T : Tabs w) (b : Below w.heap.size w w') : Tabs w' :=
  ⟨Nat.lt_of_lt_of_le T.sz b.size, fun i j hi hj => kkeep b (Nat.lt_of_le_of_lt (by omega) T.sz) (T.andT i j hi hj), fun i j hi hj => kkeep b T.sz (T.orT i j hi hj)⟩
theorem TabN.keep {w w' : World} (T : TabN w) (b : Below w.heap.size w w') : TabN w' :=
  ⟨Nat.lt_of_lt_of_le T.sz b.size, fun i hi => kkeep b T.sz (T.notT i hi)⟩

set_option maxHeartbeats 400000 in
theorem truthOf_any (b : Bool) (w : World) :
    Calls Tryz.prog 66 #[.bool b] w fun e w' => e = .returned (.int .i64 (if b = true then 2 else 0)) ∧ w = w' := by
  cases b
  all_goals
    go_enter Tryz.func66, Tryz.ntmps66
    go_wp2
    go_ret
    exact ⟨rfl, rfl⟩

set_option maxHeartbeats 400000 in
theorem read_any (k : Bool) (a : Int) (w : World) :
    Calls Tryz.prog 43 #[.agg #[.bool k, .int .i64 a]] w fun e w' => e = .returned (.int .i64 (rd k a)) ∧ Below w.heap.size w w' := by
  cases k
  · go_enter Tryz.func43, Tryz.ntmps43
    go_wp2
    go_ret
    exact ⟨rfl, galloc (Below.refl _ _) _⟩
  · by_cases h : a = 0
    · subst h
      go_enter Tryz.func43, Tryz.ntmps43
      go_wp2_with (go_at_call 66; refine (truthOf_any _ _).mono ?_; rintro e w1 ⟨rfl, rfl⟩)
      go_ret
      exact ⟨rfl, galloc (Below.refl _ _) _⟩
    · have h' : (a != 0) = true := by simpa using h
      have e : rd true a = 2 := by simp [rd, h]
      rw [e]
      go_enter Tryz.func43, Tryz.ntmps43
      go_wp2_with (go_at_call 66; refine (truthOf_any _ _).mono ?_; rintro e w1 ⟨rfl, rfl⟩)
      go_ret
      exact ⟨rfl, galloc (Below.refl _ _) _⟩

set_option maxHeartbeats 400000 in
theorem val_any (t : Int) (w : World) (h : t = 0 ∨ t = 1 ∨ t = 2) :
    Calls Tryz.prog 84 #[.int .i64 t] w fun e w' => e = .returned (.agg #[.bool (vK t), .int .i64 (vN t)]) ∧ Below w.heap.size w w' := by
  rcases h with rfl | rfl | rfl
  · show Calls _ _ _ _ fun e w' => e = .returned (.agg #[.bool true, .int .i64 0]) ∧ _
    go_enter Tryz.func84, Tryz.ntmps84
    go_wp2_with (go_at_call 83; refine (known_any _ _).mono ?_; rintro e w0 ⟨rfl, g0⟩; obtain ⟨hc0, hf0⟩ := bcell g0)
    refine bodyPost_ret (v := .agg #[.bool true, .int .i64 0]) (by simp [results, Tryz.results84, go_sem, hc0]) rfl ⟨rfl, ?_⟩
    exact gset (gset (gtrans (galloc (Below.refl _ _) _) g0) (by simp) _) (by simp) _
  · show Calls _ _ _ _ fun e w' => e = .returned (.agg #[.bool false, .int .i64 0]) ∧ _
    go_enter Tryz.func84, Tryz.ntmps84
    go_wp2
    exact bodyPost_ret (v := .agg #[.bool false, .int .i64 0]) (by simp [results, Tryz.results84, go_sem]) rfl ⟨rfl, galloc (Below.refl _ _) _⟩
  · show Calls _ _ _ _ fun e w' => e = .returned (.agg #[.bool true, .int .i64 1]) ∧ _
    go_enter Tryz.func84, Tryz.ntmps84
    go_wp2_with (go_at_call 83; refine (known_any _ _).mono ?_; rintro e w0 ⟨rfl, g0⟩; obtain ⟨hc0, hf0⟩ := bcell g0)
    refine bodyPost_ret (v := .agg #[.bool true, .int .i64 1]) (by simp [results, Tryz.results84, go_sem, hc0]) rfl ⟨rfl, ?_⟩
    exact gset (gset (gtrans (galloc (Below.refl _ _) _) g0) (by simp) _) (by simp) _

set_option maxHeartbeats 400000 in
theorem true_any (k : Bool) (a : Int) (w : World) :
    Calls Tryz.prog 15 #[.agg #[.bool k, .int .i64 a]] w fun e w' => e = .returned (.bool (rd k a == 2)) ∧ Below w.heap.size w w' := by
  go_enter Tryz.func15, Tryz.ntmps15
  go_wp2_with (go_at_call 43; refine (read_any _ _ _).mono ?_; rintro e w0 ⟨rfl, g0⟩)
  go_ret
  exact ⟨rfl, gtrans (galloc (Below.refl _ _) _) g0⟩

set_option maxHeartbeats 1000000 in
theorem not_any (k : Bool) (a : Int) (w : World) (T : TabN w) :
    Calls Tryz.prog 55 #[.agg #[.bool k, .int .i64 a]] w fun e w' => e = .returned (.agg #[.bool (vK (2 - rd k a)), .int .i64 (vN (2 - rd k a))]) ∧ Below w.heap.size w w' := by
  obtain ⟨g, hg, hg3⟩ : ∃ g : Nat, rd k a = g ∧ g < 3 := ⟨(rd k a).toNat, by have := rd_nn k a; omega, by have := rd_lt k a; omega⟩
  have hr := read_any k a
  rw [hg] at hr ⊢
  have hv := fun w => val_any (2 - g) w (by omega)
  have hi : (g : Int) < 3 := by omega
  have T1 := T.notT g hg3
  have hz : 1 < w.heap.size := T.sz
  have hz1 : 1 < w.heap.size + 1 := by omega
  have hz2 : 1 < w.heap.size + 1 + 1 := by omega
  go_enter Tryz.func55, Tryz.ntmps55
  go_wp2_with (first
    | (go_at_call 43; refine (hr _).mono ?_; rintro e w0 ⟨rfl, g0⟩; obtain ⟨hc0, hf0⟩ := bcell g0)
    | (go_at_call 84; refine (hv _).mono ?_; rintro e w1 ⟨rfl, g1⟩; replace g0 := gtrans g0 g1; obtain ⟨hc1, hf1⟩ := bcell g0))
  refine bodyPost_ret (v := .agg #[.bool (vK (2 - g)), .int .i64 (vN (2 - g))]) (by simp [results, Tryz.results55, go_sem, hc1]) rfl ⟨rfl, ?_⟩
  exact gset (gset (gtrans (galloc (galloc (Below.refl _ _) _) _) g0) (by simp) _) (by simp) _

theorem minI_cases (i j : Nat) (hi : i < 3) (hj : j < 3) : minI i j = 0 ∨ minI i j = 1 ∨ minI i j = 2 := by unfold minI; split <;> omega
set_option maxHeartbeats 2000000 in
theorem and_any (ka kb : Bool) (a b : Int) (w : World) (T : Tabs w) :
    Calls Tryz.prog 89 #[.agg #[.bool ka, .int .i64 a], .agg #[.bool kb, .int .i64 b]] w fun e w' => e = .returned (.agg #[.bool (vK (minI (rd ka a) (rd kb b))), .int .i64 (vN (minI (rd ka a) (rd kb b)))]) ∧ Below w.heap.size w w' := by
  obtain ⟨i, hi, hi3⟩ : ∃ i : Nat, rd ka a = i ∧ i < 3 := ⟨(rd ka a).toNat, by have := rd_nn ka a; omega, by have := rd_lt ka a; omega⟩
  obtain ⟨j, hj, hj3⟩ : ∃ j : Nat, rd kb b = j ∧ j < 3 := ⟨(rd kb b).toNat, by have := rd_nn kb b; omega, by have := rd_lt kb b; omega⟩
  have hra := read_any ka a
  have hrb := read_any kb b
  rw [hi] at hra ⊢
  rw [hj] at hrb ⊢
  have hv := fun w => val_any (minI i j) w (minI_cases i j hi3 hj3)
  have hi' : (i : Int) < 3 := by omega
  have hj' : (j : Int) < 3 := by omega
  have c30 : Tryz.prog.cellsOf 133 = 3 := by kernel_rfl
  have c29 : Tryz.prog.cellsOf 90 = 1 := by kernel_rfl
  clear hi hj
  have T1 := T.andT i j hi3 hj3
  have hz : 2 < w.heap.size := Nat.lt_of_le_of_lt (by omega) T.sz
  have hz1 : 2 < w.heap.size + 1 := by omega
  have hz2 : 2 < w.heap.size + 1 + 1 := by omega
  have hz3 : 2 < w.heap.size + 1 + 1 + 1 := by omega
  have hz4 : 2 < w.heap.size + 2 := by omega
  have hz5 : 2 < w.heap.size + 3 := by omega
  go_enter Tryz.func89, Tryz.ntmps89
  go_wp2
  have B := (galloc (galloc (galloc (Below.refl w.heap.size w) (.cells #[.bool ka, .int .i64 a] 51)) (.cells #[.bool kb, .int .i64 b] 51)) (.cells #[.bool false, .int .i64 0] 51)).drew
  have g0 := (Below.refl (((w.alloc (.cells #[.bool ka, .int .i64 a] 51)).alloc (.cells #[.bool kb, .int .i64 b] 51)).alloc (.cells #[.bool false, .int .i64 0] 51)).heap.size (((w.alloc (.cells #[.bool ka, .int .i64 a] 51)).alloc (.cells #[.bool kb, .int .i64 b] 51)).alloc (.cells #[.bool false, .int .i64 0] 51))).drew
  go_region_with (first
    | (go_at_call_of 43 (Value.int IntKind.i64 a); refine (hra _).mono ?_; rintro e w1 ⟨rfl, g1⟩; replace g0 := gtrans g0 g1; replace B := gtrans B g1; obtain ⟨hc1, hf1⟩ := bcell g0)
    | (go_at_call_of 43 (Value.int IntKind.i64 b); refine (hrb _).mono ?_; rintro e w1 ⟨rfl, g1⟩; replace g0 := gtrans g0 g1; replace B := gtrans B g1; obtain ⟨hc1, hf1⟩ := bcell g0)
    | (go_at_call 84; refine (hv _).mono ?_; rintro e w1 ⟨rfl, g1⟩; replace g0 := gtrans g0 g1; replace B := gtrans B g1; obtain ⟨hc1, hf1⟩ := bcell g0))
  all_goals
    obtain ⟨hc, hf⟩ := bcell g0
    go_wp2
    refine bodyPost_ret (v := .agg #[.bool (vK (minI i j)), .int .i64 (vN (minI i j))]) (by simp [results, Tryz.results89, go_sem, hc]) rfl ⟨rfl, ?_⟩
    exact gset (gset B (by simp; omega) _) (by simp; omega) _

theorem maxI_cases (i j : Nat) (hi : i < 3) (hj : j < 3) : maxI i j = 0 ∨ maxI i j = 1 ∨ maxI i j = 2 := by unfold maxI; split <;> omega
set_option maxHeartbeats 2000000 in
theorem or_any (ka kb : Bool) (a b : Int) (w : World) (T : Tabs w) :
    Calls Tryz.prog 90 #[.agg #[.bool ka, .int .i64 a], .agg #[.bool kb, .int .i64 b]] w fun e w' => e = .returned (.agg #[.bool (vK (maxI (rd ka a) (rd kb b))), .int .i64 (vN (maxI (rd ka a) (rd kb b)))]) ∧ Below w.heap.size w w' := by
  obtain ⟨i, hi, hi3⟩ : ∃ i : Nat, rd ka a = i ∧ i < 3 := ⟨(rd ka a).toNat, by have := rd_nn ka a; omega, by have := rd_lt ka a; omega⟩
  obtain ⟨j, hj, hj3⟩ : ∃ j : Nat, rd kb b = j ∧ j < 3 := ⟨(rd kb b).toNat, by have := rd_nn kb b; omega, by have := rd_lt kb b; omega⟩
  have hra := read_any ka a
  have hrb := read_any kb b
  rw [hi] at hra ⊢
  rw [hj] at hrb ⊢
  have hv := fun w => val_any (maxI i j) w (maxI_cases i j hi3 hj3)
  have hi' : (i : Int) < 3 := by omega
  have hj' : (j : Int) < 3 := by omega
  have c30 : Tryz.prog.cellsOf 133 = 3 := by kernel_rfl
  have c29 : Tryz.prog.cellsOf 90 = 1 := by kernel_rfl
  clear hi hj
  have T1 := T.orT i j hi3 hj3
  have hz : 3 < w.heap.size := Nat.lt_of_le_of_lt (by omega) T.sz
  have hz1 : 3 < w.heap.size + 1 := by omega
  have hz2 : 3 < w.heap.size + 1 + 1 := by omega
  have hz3 : 3 < w.heap.size + 1 + 1 + 1 := by omega
  have hz4 : 3 < w.heap.size + 2 := by omega
  have hz5 : 3 < w.heap.size + 3 := by omega
  go_enter Tryz.func90, Tryz.ntmps90
  go_wp2
  have B := (galloc (galloc (galloc (Below.refl w.heap.size w) (.cells #[.bool ka, .int .i64 a] 51)) (.cells #[.bool kb, .int .i64 b] 51)) (.cells #[.bool false, .int .i64 0] 51)).drew
  have g0 := (Below.refl (((w.alloc (.cells #[.bool ka, .int .i64 a] 51)).alloc (.cells #[.bool kb, .int .i64 b] 51)).alloc (.cells #[.bool false, .int .i64 0] 51)).heap.size (((w.alloc (.cells #[.bool ka, .int .i64 a] 51)).alloc (.cells #[.bool kb, .int .i64 b] 51)).alloc (.cells #[.bool false, .int .i64 0] 51))).drew
  go_region_with (first
    | (go_at_call_of 43 (Value.int IntKind.i64 a); refine (hra _).mono ?_; rintro e w1 ⟨rfl, g1⟩; replace g0 := gtrans g0 g1; replace B := gtrans B g1; obtain ⟨hc1, hf1⟩ := bcell g0)
    | (go_at_call_of 43 (Value.int IntKind.i64 b); refine (hrb _).mono ?_; rintro e w1 ⟨rfl, g1⟩; replace g0 := gtrans g0 g1; replace B := gtrans B g1; obtain ⟨hc1, hf1⟩ := bcell g0)
    | (go_at_call 84; refine (hv _).mono ?_; rintro e w1 ⟨rfl, g1⟩; replace g0 := gtrans g0 g1; replace B := gtrans B g1; obtain ⟨hc1, hf1⟩ := bcell g0))
  all_goals
    obtain ⟨hc, hf⟩ := bcell g0
    go_wp2
    refine bodyPost_ret (v := .agg #[.bool (vK (maxI i j)), .int .i64 (vN (maxI i j))]) (by simp [results, Tryz.results90, go_sem, hc]) rfl ⟨rfl, ?_⟩
    exact gset (gset B (by simp; omega) _) (by simp; omega) _

end Go.Proofs.YtglagbedgjkdbaaGreatDoor
namespace Go.Proofs.YtglagbedgjkdbaaGreatDoor
open Go.RowKit
set_option linter.unusedVariables false

set_option maxHeartbeats 400000 in
theorem grade_any (k : Bool) (a : Int) (w : World) :
    Calls Tryz.prog 106 #[.agg #[.bool k, .int .i64 a]] w fun e w' => e = .returned (.int .i64 (rd k a)) ∧ Below w.heap.size w w' := by
  cases k
  · go_enter Tryz.func106, Tryz.ntmps106
    go_wp2
    go_ret
    exact ⟨rfl, galloc (Below.refl _ _) _⟩
  · by_cases h : a = 0
    · subst h
      go_enter Tryz.func106, Tryz.ntmps106
      go_wp2
      go_ret
      exact ⟨rfl, galloc (Below.refl _ _) _⟩
    · have h' : (a == 0) = false := by simpa using h
      have e : rd true a = 2 := by simp [rd, h]
      rw [e]
      go_enter Tryz.func106, Tryz.ntmps106
      go_wp2
      go_ret
      exact ⟨rfl, galloc (Below.refl _ _) _⟩

set_option maxHeartbeats 400000 in
theorem graded_any (t : Int) (w : World) (h : t = 0 ∨ t = 1 ∨ t = 2) :
    Calls Tryz.prog 105 #[.int .i64 t] w fun e w' => e = .returned (.agg #[.bool (vK t), .int .i64 (vN t)]) ∧ Below w.heap.size w w' := by
  rcases h with rfl | rfl | rfl
  · show Calls _ _ _ _ fun e w' => e = .returned (.agg #[.bool true, .int .i64 0]) ∧ _
    go_enter Tryz.func105, Tryz.ntmps105
    go_wp2_with (go_at_call 73; refine (refNumber_any _ _).mono ?_; rintro e w0 ⟨rfl, g0⟩; obtain ⟨hc0, hf0⟩ := bcell g0)
    refine bodyPost_ret (v := .agg #[.bool true, .int .i64 0]) (by simp [results, Tryz.results105, go_sem, hc0]) rfl ⟨rfl, ?_⟩
    exact gset (gset (gtrans (galloc (Below.refl _ _) _) g0) (by simp) _) (by simp) _
  · show Calls _ _ _ _ fun e w' => e = .returned (.agg #[.bool false, .int .i64 0]) ∧ _
    go_enter Tryz.func105, Tryz.ntmps105
    go_wp2_with (go_at_call 46; refine (refNothing_any _).mono ?_; rintro e w0 ⟨rfl, g0⟩; obtain ⟨hc0, hf0⟩ := bcell g0)
    refine bodyPost_ret (v := .agg #[.bool false, .int .i64 0]) (by simp [results, Tryz.results105, go_sem, hc0]) rfl ⟨rfl, ?_⟩
    exact gset (gset (gtrans (galloc (Below.refl _ _) _) g0) (by simp) _) (by simp) _
  · show Calls _ _ _ _ fun e w' => e = .returned (.agg #[.bool true, .int .i64 1]) ∧ _
    go_enter Tryz.func105, Tryz.ntmps105
    go_wp2_with (go_at_call 73; refine (refNumber_any _ _).mono ?_; rintro e w0 ⟨rfl, g0⟩; obtain ⟨hc0, hf0⟩ := bcell g0)
    refine bodyPost_ret (v := .agg #[.bool true, .int .i64 1]) (by simp [results, Tryz.results105, go_sem, hc0]) rfl ⟨rfl, ?_⟩
    exact gset (gset (gtrans (galloc (Below.refl _ _) _) g0) (by simp) _) (by simp) _

set_option maxHeartbeats 1000000 in
theorem refNot_any (k : Bool) (a : Int) (w : World) :
    Calls Tryz.prog 77 #[.agg #[.bool k, .int .i64 a]] w fun e w' => e = .returned (.agg #[.bool (vK (2 - rd k a)), .int .i64 (vN (2 - rd k a))]) ∧ Below w.heap.size w w' := by
  have h0 := rd_nn k a
  have h1 := rd_lt k a
  have hv := fun w => graded_any (2 - rd k a) w (by omega)
  go_enter Tryz.func77, Tryz.ntmps77
  go_wp2_with (first
    | (go_at_call 106; refine (grade_any _ _ _).mono ?_; rintro e w0 ⟨rfl, g0⟩; obtain ⟨hc0, hf0⟩ := bcell g0)
    | (go_at_call 105; refine (hv _).mono ?_; rintro e w1 ⟨rfl, g1⟩; replace g0 := gtrans g0 g1; obtain ⟨hc1, hf1⟩ := bcell g0))
  refine bodyPost_ret (v := .agg #[.bool (vK (2 - rd k a)), .int .i64 (vN (2 - rd k a))]) (by simp [results, Tryz.results77, go_sem, hc1]) rfl ⟨rfl, ?_⟩
  exact gset (gset (gtrans (galloc (galloc (Below.refl _ _) _) _) g0) (by simp) _) (by simp) _

set_option maxHeartbeats 1000000 in
theorem refAnd_any (ka kb : Bool) (a b : Int) (w : World) :
    Calls Tryz.prog 112 #[.agg #[.bool ka, .int .i64 a], .agg #[.bool kb, .int .i64 b]] w fun e w' => e = .returned (.agg #[.bool (vK (minI (rd ka a) (rd kb b))), .int .i64 (vN (minI (rd ka a) (rd kb b)))]) ∧ Below w.heap.size w w' := by
  have hva := fun w => graded_any (rd ka a) w (rd_cases ka a)
  have hvb := fun w => graded_any (rd kb b) w (rd_cases kb b)
  have hra := grade_any ka a
  have hrb := grade_any kb b
  by_cases h : rd kb b < rd ka a
  · have e : minI (rd ka a) (rd kb b) = rd kb b := by simp [minI, h]
    rw [e]
    generalize rd ka a = i at *
    generalize rd kb b = j at *
    clear e hva
    go_enter Tryz.func112, Tryz.ntmps112
    go_wp2_with (first
      | (go_at_call_of 106 (Value.int IntKind.i64 a); refine (hra _).mono ?_; rintro e w0 ⟨rfl, g0⟩; obtain ⟨hc0, hf0⟩ := bcell g0)
      | (go_at_call_of 106 (Value.int IntKind.i64 b); refine (hrb _).mono ?_; rintro e w1 ⟨rfl, g1⟩; replace g0 := gtrans g0 g1; obtain ⟨hc1, hf1⟩ := bcell g0)
      | (go_at_call 105; refine (hvb _).mono ?_; rintro e w1 ⟨rfl, g1⟩; replace g0 := gtrans g0 g1; obtain ⟨hc2, hf2⟩ := bcell g0))
    refine bodyPost_ret (v := .agg #[.bool (vK j), .int .i64 (vN j)]) (by simp [results, Tryz.results112, go_sem, hc2]) rfl ⟨rfl, ?_⟩
    exact gset (gset (gtrans (galloc (galloc (galloc (Below.refl _ _) _) _) _) g0) (by simp; omega) _) (by simp; omega) _
  · have e : minI (rd ka a) (rd kb b) = rd ka a := by simp [minI, h]
    rw [e]
    generalize rd ka a = i at *
    generalize rd kb b = j at *
    clear e hvb
    go_enter Tryz.func112, Tryz.ntmps112
    go_wp2_with (first
      | (go_at_call_of 106 (Value.int IntKind.i64 a); refine (hra _).mono ?_; rintro e w0 ⟨rfl, g0⟩; obtain ⟨hc0, hf0⟩ := bcell g0)
      | (go_at_call_of 106 (Value.int IntKind.i64 b); refine (hrb _).mono ?_; rintro e w1 ⟨rfl, g1⟩; replace g0 := gtrans g0 g1; obtain ⟨hc1, hf1⟩ := bcell g0)
      | (go_at_call 105; refine (hva _).mono ?_; rintro e w1 ⟨rfl, g1⟩; replace g0 := gtrans g0 g1; obtain ⟨hc2, hf2⟩ := bcell g0))
    refine bodyPost_ret (v := .agg #[.bool (vK i), .int .i64 (vN i)]) (by simp [results, Tryz.results112, go_sem, hc2]) rfl ⟨rfl, ?_⟩
    exact gset (gset (gtrans (galloc (galloc (galloc (Below.refl _ _) _) _) _) g0) (by simp; omega) _) (by simp; omega) _

set_option maxHeartbeats 1000000 in
theorem refOr_any (ka kb : Bool) (a b : Int) (w : World) :
    Calls Tryz.prog 113 #[.agg #[.bool ka, .int .i64 a], .agg #[.bool kb, .int .i64 b]] w fun e w' => e = .returned (.agg #[.bool (vK (maxI (rd ka a) (rd kb b))), .int .i64 (vN (maxI (rd ka a) (rd kb b)))]) ∧ Below w.heap.size w w' := by
  have hva := fun w => graded_any (rd ka a) w (rd_cases ka a)
  have hvb := fun w => graded_any (rd kb b) w (rd_cases kb b)
  have hra := grade_any ka a
  have hrb := grade_any kb b
  by_cases h : rd ka a < rd kb b
  · have e : maxI (rd ka a) (rd kb b) = rd kb b := by simp [maxI, h]
    rw [e]
    generalize rd ka a = i at *
    generalize rd kb b = j at *
    clear e hva
    go_enter Tryz.func113, Tryz.ntmps113
    go_wp2_with (first
      | (go_at_call_of 106 (Value.int IntKind.i64 a); refine (hra _).mono ?_; rintro e w0 ⟨rfl, g0⟩; obtain ⟨hc0, hf0⟩ := bcell g0)
      | (go_at_call_of 106 (Value.int IntKind.i64 b); refine (hrb _).mono ?_; rintro e w1 ⟨rfl, g1⟩; replace g0 := gtrans g0 g1; obtain ⟨hc1, hf1⟩ := bcell g0)
      | (go_at_call 105; refine (hvb _).mono ?_; rintro e w1 ⟨rfl, g1⟩; replace g0 := gtrans g0 g1; obtain ⟨hc2, hf2⟩ := bcell g0))
    refine bodyPost_ret (v := .agg #[.bool (vK j), .int .i64 (vN j)]) (by simp [results, Tryz.results113, go_sem, hc2]) rfl ⟨rfl, ?_⟩
    exact gset (gset (gtrans (galloc (galloc (galloc (Below.refl _ _) _) _) _) g0) (by simp; omega) _) (by simp; omega) _
  · have e : maxI (rd ka a) (rd kb b) = rd ka a := by simp [maxI, h]
    rw [e]
    generalize rd ka a = i at *
    generalize rd kb b = j at *
    clear e hvb
    go_enter Tryz.func113, Tryz.ntmps113
    go_wp2_with (first
      | (go_at_call_of 106 (Value.int IntKind.i64 a); refine (hra _).mono ?_; rintro e w0 ⟨rfl, g0⟩; obtain ⟨hc0, hf0⟩ := bcell g0)
      | (go_at_call_of 106 (Value.int IntKind.i64 b); refine (hrb _).mono ?_; rintro e w1 ⟨rfl, g1⟩; replace g0 := gtrans g0 g1; obtain ⟨hc1, hf1⟩ := bcell g0)
      | (go_at_call 105; refine (hva _).mono ?_; rintro e w1 ⟨rfl, g1⟩; replace g0 := gtrans g0 g1; obtain ⟨hc2, hf2⟩ := bcell g0))
    refine bodyPost_ret (v := .agg #[.bool (vK i), .int .i64 (vN i)]) (by simp [results, Tryz.results113, go_sem, hc2]) rfl ⟨rfl, ?_⟩
    exact gset (gset (gtrans (galloc (galloc (galloc (Below.refl _ _) _) _) _) g0) (by simp; omega) _) (by simp; omega) _

end Go.Proofs.YtglagbedgjkdbaaGreatDoor
