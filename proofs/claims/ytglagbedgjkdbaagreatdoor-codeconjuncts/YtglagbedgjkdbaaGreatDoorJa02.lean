/- What the document's own Div and Mod come to: the same as num's. And what goes with it: 5 texts in one. -/
import Derived.Test.YtglagbedgjkdbaaGreatDoorJa01
import Derived.Shelf.Bits.Mul64
import Derived.Deep.QuietTactic
import Derived.BigQuiet
namespace Go.Proofs.YtglagbedgjkdbaaGreatDoor
open Go.RowKit
set_option linter.unusedVariables false
set_option maxHeartbeats 400000 in
theorem refDiv_no (ka kb : Bool) (a b : Int) (w : World) (h : (ka && kb) = false) :
    Calls Tryz.prog 110 #[.agg #[.bool ka, .int .i64 a], .agg #[.bool kb, .int .i64 b]] w fun e w' => e = .returned (.agg #[.bool false, .int .i64 0]) ∧ Below w.heap.size w w' := by
  cases ka <;> cases kb <;> first | (simp at h; done) | clear h
  all_goals
    go_enter Tryz.func110, Tryz.ntmps110
    go_wp2_with (go_at_call 46; refine (refNothing_any _).mono ?_; rintro e w0 ⟨rfl, g0⟩; obtain ⟨hc0, hf0⟩ := bcell g0)
    refine bodyPost_ret (v := .agg #[.bool false, .int .i64 0]) (by simp [results, Tryz.results110, go_sem, hc0]) rfl ⟨rfl, ?_⟩
    exact gset (gset (gtrans (galloc (galloc (galloc (Below.refl _ _) _) _) _) g0) (by simp; omega) _) (by simp; omega) _

set_option maxHeartbeats 400000 in
theorem refDiv_zero (a : Int) (w : World) :
    Calls Tryz.prog 110 #[.agg #[.bool true, .int .i64 a], .agg #[.bool true, .int .i64 0]] w fun e w' => e = .returned (.agg #[.bool false, .int .i64 0]) ∧ Below w.heap.size w w' := by
  go_enter Tryz.func110, Tryz.ntmps110
  go_wp2_with (go_at_call 46; refine (refNothing_any _).mono ?_; rintro e w0 ⟨rfl, g0⟩; obtain ⟨hc0, hf0⟩ := bcell g0)
  refine bodyPost_ret (v := .agg #[.bool false, .int .i64 0]) (by simp [results, Tryz.results110, go_sem, hc0]) rfl ⟨rfl, ?_⟩
  exact gset (gset (gtrans (galloc (galloc (galloc (Below.refl _ _) _) _) _) g0) (by simp; omega) _) (by simp; omega) _

set_option maxHeartbeats 1000000 in
theorem refDiv_yes (a b : Int) (w : World) (ha : fitsB a = true) (h0 : (b == 0) = false) (h1 : (b == -1) = false) :
    Calls Tryz.prog 110 #[.agg #[.bool true, .int .i64 a], .agg #[.bool true, .int .i64 b]] w fun e w' => e = .returned (.agg #[.bool true, .int .i64 (a.tdiv b)]) ∧ Below w.heap.size w w' := by
  have hw := wrap_fits _ (tdiv_fits a b ha (by simpa using h1))
  have h0' : ¬ b = 0 := by simpa using h0
  go_enter Tryz.func110, Tryz.ntmps110
  go_wp2_with (go_at_call 73; refine (refNumber_any _ _).mono ?_; rintro e w0 ⟨rfl, g0⟩; obtain ⟨hc0, hf0⟩ := bcell g0)
  refine bodyPost_ret (v := .agg #[.bool true, .int .i64 (a.tdiv b)]) (by simp [results, Tryz.results110, go_sem, hc0]) rfl ⟨rfl, ?_⟩
  exact gset (gset (gtrans (galloc (galloc (galloc (Below.refl _ _) _) _) _) g0) (by simp; omega) _) (by simp; omega) _

set_option maxHeartbeats 1000000 in
theorem refDiv_neg (a : Int) (w : World) (ha : fitsB a = true) :
    Calls Tryz.prog 110 #[.agg #[.bool true, .int .i64 a], .agg #[.bool true, .int .i64 (-1)]] w fun e w' => e = .returned (.agg #[.bool (opK true true (0 - a)), .int .i64 (opN true true (0 - a))]) ∧ Below w.heap.size w w' := by
  go_enter Tryz.func110, Tryz.ntmps110
  go_wp2_with (go_at_call 76; refine (refNeg_any _ _ _ ha).mono ?_; rintro e w0 ⟨rfl, g0⟩; obtain ⟨hc0, hf0⟩ := bcell g0)
  refine bodyPost_ret (v := .agg #[.bool (opK true true (0 - a)), .int .i64 (opN true true (0 - a))]) (by simp [results, Tryz.results110, go_sem, hc0]) rfl ⟨rfl, ?_⟩
  exact gset (gset (gtrans (galloc (galloc (galloc (Below.refl _ _) _) _) _) g0) (by simp; omega) _) (by simp; omega) _

theorem refDiv_any (ka kb : Bool) (a b : Int) (w : World) (ha : fitsB a = true) :
    Calls Tryz.prog 110 #[.agg #[.bool ka, .int .i64 a], .agg #[.bool kb, .int .i64 b]] w fun e w' => e = .returned (.agg #[.bool (opK ka (kb && !(b == 0)) (a.tdiv b)), .int .i64 (opN ka (kb && !(b == 0)) (a.tdiv b))]) ∧ Below w.heap.size w w' := by
  cases h : (ka && kb)
  · have h' : (ka && (kb && !(b == 0))) = false := by cases ka <;> cases kb <;> simp_all
    rw [opK_no _ _ _ h', opN_no _ _ _ h']; exact refDiv_no ka kb a b w h
  · simp only [Bool.and_eq_true] at h
    obtain ⟨rfl, rfl⟩ := h
    cases h0 : (b == 0)
    · cases h1 : (b == -1)
      · have hf := tdiv_fits a b ha (by simpa using h1)
        simp only [Bool.not_false, Bool.and_true, opK_tt, opN_tt, fitN_yes _ hf, hf]
        exact refDiv_yes a b w ha h0 h1
      · have : b = -1 := by simpa using h1
        subst this
        have e : a.tdiv (-1) = 0 - a := by rw [Int.tdiv_neg, Int.tdiv_one]; omega
        rw [e]; exact refDiv_neg a w ha
    · have : b = 0 := by simpa using h0
      subst this
      simp only [Bool.not_true, Bool.and_false, opK_f2, opN_f2]
      exact refDiv_zero a w

set_option maxHeartbeats 400000 in
theorem refMod_no (ka kb : Bool) (a b : Int) (w : World) (h : (ka && kb) = false) :
    Calls Tryz.prog 111 #[.agg #[.bool ka, .int .i64 a], .agg #[.bool kb, .int .i64 b]] w fun e w' => e = .returned (.agg #[.bool false, .int .i64 0]) ∧ Below w.heap.size w w' := by
  cases ka <;> cases kb <;> first | (simp at h; done) | clear h
  all_goals
    go_enter Tryz.func111, Tryz.ntmps111
    go_wp2_with (go_at_call 46; refine (refNothing_any _).mono ?_; rintro e w0 ⟨rfl, g0⟩; obtain ⟨hc0, hf0⟩ := bcell g0)
    refine bodyPost_ret (v := .agg #[.bool false, .int .i64 0]) (by simp [results, Tryz.results111, go_sem, hc0]) rfl ⟨rfl, ?_⟩
    exact gset (gset (gtrans (galloc (galloc (galloc (Below.refl _ _) _) _) _) g0) (by simp; omega) _) (by simp; omega) _

set_option maxHeartbeats 400000 in
theorem refMod_zero (a : Int) (w : World) :
    Calls Tryz.prog 111 #[.agg #[.bool true, .int .i64 a], .agg #[.bool true, .int .i64 0]] w fun e w' => e = .returned (.agg #[.bool false, .int .i64 0]) ∧ Below w.heap.size w w' := by
  go_enter Tryz.func111, Tryz.ntmps111
  go_wp2_with (go_at_call 46; refine (refNothing_any _).mono ?_; rintro e w0 ⟨rfl, g0⟩; obtain ⟨hc0, hf0⟩ := bcell g0)
  refine bodyPost_ret (v := .agg #[.bool false, .int .i64 0]) (by simp [results, Tryz.results111, go_sem, hc0]) rfl ⟨rfl, ?_⟩
  exact gset (gset (gtrans (galloc (galloc (galloc (Below.refl _ _) _) _) _) g0) (by simp; omega) _) (by simp; omega) _

theorem wrapEq (x : Int) : IntKind.i64.wrap x = wrap64 x := by rw [IntKind.wrap_i64]; unfold wrap64; rfl
theorem mul_back (a b : Int) (ha : fitsB a = true) : fitsB (b * a.tdiv b) = true ∧ a - b * a.tdiv b = a.tmod b := by
  have h1 := Int.tmod_add_mul_tdiv a b
  have h2 := tmod_fits a b ha
  have h6 : a < 0 → a.tmod b ≤ 0 := fun h => by
    have := Int.tmod_nonneg (a := -a) b (by omega)
    rw [Int.neg_tmod] at this; omega
  have h5 : 0 ≤ a → 0 ≤ a.tmod b := fun h => Int.tmod_nonneg b h
  have h3 := Int.natAbs_tmod a b
  have h4 : a.natAbs % b.natAbs ≤ a.natAbs := Nat.mod_le _ _
  rw [← h3] at h4
  rw [fits_iff] at *
  generalize b * a.tdiv b = m at *
  omega

set_option maxHeartbeats 4000000 in
theorem refMod_yes (a b : Int) (w : World) (ha : fitsB a = true) (h0 : (b == 0) = false) (h1 : (b == -1) = false) :
    Calls Tryz.prog 111 #[.agg #[.bool true, .int .i64 a], .agg #[.bool true, .int .i64 b]] w fun e w' => e = .returned (.agg #[.bool true, .int .i64 (a.tmod b)]) ∧ Below w.heap.size w w' := by
  have hw := wrap_fits _ (tdiv_fits a b ha (by simpa using h1))
  have h0' : ¬ b = 0 := by simpa using h0
  obtain ⟨hm, hm2⟩ := mul_back a b ha
  have hw2 := wrap_fits _ hm
  have hw3 := wrap_fits _ (tmod_fits a b ha)
  have hi1 : IntKind.i64.wrap (a.tdiv b) = a.tdiv b := (wrapEq _).trans hw
  have hi2 : IntKind.i64.wrap (b * a.tdiv b) = b * a.tdiv b := (wrapEq _).trans hw2
  have hi3 : IntKind.i64.wrap (a.tmod b) = a.tmod b := (wrapEq _).trans hw3
  go_enter Tryz.func111, Tryz.ntmps111
  go_wp2
  go_region_with (go_at_call 73; refine (refNumber_any _ _).mono ?_; rintro e w0 ⟨rfl, g0⟩; obtain ⟨hc0, hf0⟩ := bcell g0)
  all_goals
    obtain ⟨hc, hf⟩ := bcell g0
    go_wp2
    refine bodyPost_ret (v := .agg #[.bool true, .int .i64 (a.tmod b)]) (by simp [results, Tryz.results111, go_sem, hc]) rfl ⟨rfl, ?_⟩
    exact gset (gset (gtrans (galloc (galloc (galloc (Below.refl _ _) _) _) _).drew g0) (by simp; omega) _) (by simp; omega) _

set_option maxHeartbeats 1000000 in
theorem refMod_neg (a : Int) (w : World) :
    Calls Tryz.prog 111 #[.agg #[.bool true, .int .i64 a], .agg #[.bool true, .int .i64 (-1)]] w fun e w' => e = .returned (.agg #[.bool true, .int .i64 0]) ∧ Below w.heap.size w w' := by
  go_enter Tryz.func111, Tryz.ntmps111
  go_wp2_with (go_at_call 73; refine (refNumber_any _ _).mono ?_; rintro e w0 ⟨rfl, g0⟩; obtain ⟨hc0, hf0⟩ := bcell g0)
  refine bodyPost_ret (v := .agg #[.bool true, .int .i64 0]) (by simp [results, Tryz.results111, go_sem, hc0]) rfl ⟨rfl, ?_⟩
  exact gset (gset (gtrans (galloc (galloc (galloc (Below.refl _ _) _) _) _) g0) (by simp; omega) _) (by simp; omega) _

theorem refMod_any (ka kb : Bool) (a b : Int) (w : World) (ha : fitsB a = true) :
    Calls Tryz.prog 111 #[.agg #[.bool ka, .int .i64 a], .agg #[.bool kb, .int .i64 b]] w fun e w' => e = .returned (.agg #[.bool (opK ka (kb && !(b == 0)) (a.tmod b)), .int .i64 (opN ka (kb && !(b == 0)) (a.tmod b))]) ∧ Below w.heap.size w w' := by
  cases h : (ka && kb)
  · have h' : (ka && (kb && !(b == 0))) = false := by cases ka <;> cases kb <;> simp_all
    rw [opK_no _ _ _ h', opN_no _ _ _ h']; exact refMod_no ka kb a b w h
  · simp only [Bool.and_eq_true] at h
    obtain ⟨rfl, rfl⟩ := h
    cases h0 : (b == 0)
    · have hf := tmod_fits a b ha
      simp only [Bool.not_false, Bool.and_true, opK_tt, opN_tt, fitN_yes _ hf, hf]
      cases h1 : (b == -1)
      · exact refMod_yes a b w ha h0 h1
      · have : b = -1 := by simpa using h1
        subst this
        have e : a.tmod (-1) = 0 := by rw [Int.tmod_neg, Int.tmod_one]
        rw [e]; exact refMod_neg a w
    · have : b = 0 := by simpa using h0
      subst this
      simp only [Bool.not_true, Bool.and_false, opK_f2, opN_f2]
      exact refMod_zero a w

end Go.Proofs.YtglagbedgjkdbaaGreatDoor
namespace Go.Proofs.YtglagbedgjkdbaaGreatDoor
open Go.RowKit
set_option linter.unusedVariables false

def mulHi (a b : Int) : Int := (loOf a * loOf b) / 18446744073709551616
theorem mulHi_nn (a b : Int) : 0 ≤ mulHi a b := by
  have h := Int.mul_nonneg (lo_nn a) (lo_nn b)
  unfold mulHi; omega
theorem mul_lo (a b : Int) : (loOf a * loOf b) % 18446744073709551616 = loOf (a * b) := by
  unfold loOf; rw [← Int.mul_emod]

theorem lo_pos (a : Int) (h : fitsB a = true) (g : 0 ≤ a) : loOf a = a := by rw [fits_iff] at h; unfold loOf; omega
theorem lo_neg (a : Int) (h : fitsB a = true) (g : a < 0) : loOf a = a + 18446744073709551616 := by rw [fits_iff] at h; unfold loOf; omega

theorem hi_pp (a b : Int) (ha : fitsB a = true) (hb : fitsB b = true) (ga : 0 ≤ a) (gb : 0 ≤ b) : mulHi a b = hiOf (a * b) := by
  have h0 : mulHi a b < 18446744073709551616 := by
    unfold mulHi
    have h1 := lo_lt a
    have h2 := lo_lt b
    have h3 : loOf a * loOf b ≤ 18446744073709551615 * 18446744073709551615 := Int.mul_le_mul (by omega) (by omega) (lo_nn b) (by omega)
    omega
  have h1 := mulHi_nn a b
  unfold mulHi at *
  rw [lo_pos a ha ga, lo_pos b hb gb] at *
  unfold hiOf
  omega
theorem hi_np (a b : Int) (ha : fitsB a = true) (hb : fitsB b = true) (ga : a < 0) (gb : 0 ≤ b) : IntKind.u64.wrap (mulHi a b - loOf b) = hiOf (a * b) := by
  rw [IntKind.wrap_u64]
  have e : a * b = loOf a * loOf b - 18446744073709551616 * loOf b := by
    rw [lo_neg a ha ga, lo_pos b hb gb, Int.add_mul]; omega
  rw [e]; unfold mulHi hiOf
  generalize loOf a * loOf b = p
  generalize loOf b = q
  omega
theorem hi_pn (a b : Int) (ha : fitsB a = true) (hb : fitsB b = true) (ga : 0 ≤ a) (gb : b < 0) : IntKind.u64.wrap (mulHi a b - loOf a) = hiOf (a * b) := by
  rw [IntKind.wrap_u64]
  have e : a * b = loOf a * loOf b - 18446744073709551616 * loOf a := by
    rw [lo_pos a ha ga, lo_neg b hb gb, Int.mul_add]; omega
  rw [e]; unfold mulHi hiOf
  generalize loOf a * loOf b = p
  generalize loOf a = q
  omega
theorem hi_nn2 (a b : Int) (ha : fitsB a = true) (hb : fitsB b = true) (ga : a < 0) (gb : b < 0) : IntKind.u64.wrap (IntKind.u64.wrap (mulHi a b - loOf b) - loOf a) = hiOf (a * b) := by
  rw [IntKind.wrap_u64, IntKind.wrap_u64]
  have e : a * b = loOf a * loOf b - 18446744073709551616 * (loOf a + loOf b) + 340282366920938463463374607431768211456 := by
    rw [lo_neg a ha ga, lo_neg b hb gb, Int.add_mul, Int.mul_add, Int.mul_add]; omega
  rw [e]; unfold mulHi hiOf
  generalize loOf a * loOf b = p
  generalize loOf a = q
  generalize loOf b = r
  omega
theorem mul_bound (a b : Int) (ha : fitsB a = true) (hb : fitsB b = true) : -170141183460469231731687303715884105728 ≤ a * b ∧ a * b < 170141183460469231731687303715884105728 := by
  rw [fits_iff] at ha hb
  have h : (a * b).natAbs ≤ 9223372036854775808 * 9223372036854775808 := by
    rw [Int.natAbs_mul]; exact Nat.mul_le_mul (by omega) (by omega)
  omega

set_option maxHeartbeats 1000000 in
theorem mul64_nat (x y : Nat) (hx : x < 18446744073709551616) (hy : y < 18446744073709551616) (w : World) :
    Calls Tryz.prog 143 #[.int .u64 x, .int .u64 y] w fun e w' => e = .returned (.tuple #[.int .u64 ((x * y / 18446744073709551616 : Nat) : Int), .int .u64 ((x * y % 18446744073709551616 : Nat) : Int)]) ∧ w = w' := by
  obtain ⟨bd, bt, bw, hhi⟩ := Lib.mul64_hi x y hx hy
  have ba := Lib.half_mul_le (a := x / 4294967296) (b := y / 4294967296) (by omega) (by omega)
  have bb := Lib.half_mul_le (a := x / 4294967296) (b := y % 4294967296) (by omega) (by omega)
  have bc := Lib.half_mul_le (a := x % 4294967296) (b := y / 4294967296) (by omega) (by omega)
  have ba' : x / 4294967296 * (y / 4294967296) < 18446744073709551616 := by omega
  have bb' : x / 4294967296 * (y % 4294967296) < 18446744073709551616 := by omega
  have bc' : x % 4294967296 * (y / 4294967296) < 18446744073709551616 := by omega
  have bh1 : x / 4294967296 * (y / 4294967296) + (x / 4294967296 * (y % 4294967296) + x % 4294967296 * (y % 4294967296) / 4294967296) / 4294967296 < 18446744073709551616 := by omega
  have bh : x / 4294967296 * (y / 4294967296) + (x / 4294967296 * (y % 4294967296) + x % 4294967296 * (y % 4294967296) / 4294967296) / 4294967296 + ((x / 4294967296 * (y % 4294967296) + x % 4294967296 * (y % 4294967296) / 4294967296) % 4294967296 + x % 4294967296 * (y / 4294967296)) / 4294967296 < 18446744073709551616 := by omega
  go_enter Tryz.func143, Tryz.ntmps143
  go_wp2
  simp only [Mul64.maskN x hx, Mul64.maskN y hy, Mul64.divN, Mul64.mulN, Mul64.addN, Mul64.wrapN _ bd, Mul64.wrapN _ bb', Mul64.wrapN _ bt, Mul64.maskN _ bt, Mul64.wrapN _ bc', Mul64.wrapN _ bw, Mul64.wrapN _ ba', Mul64.wrapN _ bh1, Mul64.wrapN _ bh, Mul64.wrapM (x * y)]
  rw [hhi]
  go_ret2
  exact ⟨rfl, rfl⟩

theorem mul64_any (a b : Int) (w : World) :
    Calls Tryz.prog 143 #[.int .u64 (loOf a), .int .u64 (loOf b)] w fun e w' => e = .returned (.tuple #[.int .u64 (mulHi a b), .int .u64 (loOf (a * b))]) ∧ w = w' := by
  obtain ⟨X, hX⟩ := Int.eq_ofNat_of_zero_le (lo_nn a)
  obtain ⟨Y, hY⟩ := Int.eq_ofNat_of_zero_le (lo_nn b)
  have h := mul64_nat X Y (by have := lo_lt a; omega) (by have := lo_lt b; omega) w
  have e1 : ((X * Y / 18446744073709551616 : Nat) : Int) = mulHi a b := by unfold mulHi; rw [hX, hY]; simp
  have e2 : ((X * Y % 18446744073709551616 : Nat) : Int) = loOf (a * b) := by rw [← mul_lo, hX, hY]; simp
  rw [e1, e2] at h
  rw [hX, hY]; exact h

set_option maxHeartbeats 1000000 in
theorem product_any (a b : Int) (w : World) (ha : fitsB a = true) (hb : fitsB b = true) :
    Calls Tryz.prog 122 #[.int .i64 a, .int .i64 b] w fun e w' => e = .returned (.agg #[.int .u64 (hiOf (a * b)), .int .u64 (loOf (a * b))]) ∧ Below w.heap.size w w' := by
  have e1 := lo_small a
  have e2 := lo_small b
  have ga : a < 0 ∨ 0 ≤ a := by omega
  have gb : b < 0 ∨ 0 ≤ b := by omega
  rcases ga with ga | ga <;> rcases gb with gb | gb
  · have f := hi_nn2 a b ha hb ga gb
    clear ha hb
    go_enter Tryz.func122, Tryz.ntmps122
    go_wp2_with (go_at_call 143; refine (mul64_any _ _ _).mono ?_; rintro e w0 ⟨rfl, rfl⟩)
    exact bodyPost_ret (v := .agg #[.int .u64 (hiOf (a * b)), .int .u64 (loOf (a * b))]) (by simp [results, Tryz.results122, go_sem]) rfl ⟨rfl, galloc (Below.refl _ _) _⟩
  · have f := hi_np a b ha hb ga gb
    clear ha hb
    go_enter Tryz.func122, Tryz.ntmps122
    go_wp2_with (go_at_call 143; refine (mul64_any _ _ _).mono ?_; rintro e w0 ⟨rfl, rfl⟩)
    exact bodyPost_ret (v := .agg #[.int .u64 (hiOf (a * b)), .int .u64 (loOf (a * b))]) (by simp [results, Tryz.results122, go_sem]) rfl ⟨rfl, galloc (Below.refl _ _) _⟩
  · have f := hi_pn a b ha hb ga gb
    clear ha hb
    go_enter Tryz.func122, Tryz.ntmps122
    go_wp2_with (go_at_call 143; refine (mul64_any _ _ _).mono ?_; rintro e w0 ⟨rfl, rfl⟩)
    exact bodyPost_ret (v := .agg #[.int .u64 (hiOf (a * b)), .int .u64 (loOf (a * b))]) (by simp [results, Tryz.results122, go_sem]) rfl ⟨rfl, galloc (Below.refl _ _) _⟩
  · have f := hi_pp a b ha hb ga gb
    clear ha hb
    go_enter Tryz.func122, Tryz.ntmps122
    go_wp2_with (go_at_call 143; refine (mul64_any _ _ _).mono ?_; rintro e w0 ⟨rfl, rfl⟩)
    exact bodyPost_ret (v := .agg #[.int .u64 (hiOf (a * b)), .int .u64 (loOf (a * b))]) (by simp [results, Tryz.results122, go_sem]) rfl ⟨rfl, galloc (Below.refl _ _) _⟩

set_option maxHeartbeats 1000000 in
theorem mul_yes (a b : Int) (w : World) (ha : fitsB a = true) (hb : fitsB b = true) :
    Calls Tryz.prog 86 #[.agg #[.bool true, .int .i64 a], .agg #[.bool true, .int .i64 b]] w fun e w' => e = .returned (.agg #[.bool (fitsB (a * b)), .int .i64 (fitN (a * b))]) ∧ Below w.heap.size w w' := by
  obtain ⟨m1, m2⟩ := mul_bound a b ha hb
  go_enter Tryz.func86, Tryz.ntmps86
  go_wp2_with (first
    | (go_at_call 117; refine (both_any _ _ _ _ _).mono ?_; rintro e w0 ⟨rfl, h0⟩; obtain ⟨hc0, hf0⟩ := bcell h0)
    | (go_at_call 122; refine (product_any _ _ _ ha hb).mono ?_; rintro e w1 ⟨rfl, h1⟩; replace h0 := gtrans h0 h1; obtain ⟨hc1, hf1⟩ := bcell h0)
    | (go_at_call 120; refine (narrow_any _ _ m1 m2).mono ?_; rintro e w1 ⟨rfl, h1⟩; replace h0 := gtrans h0 h1; obtain ⟨hc1, hf1⟩ := bcell h0))
  refine bodyPost_ret (v := .agg #[.bool (fitsB (a * b)), .int .i64 (fitN (a * b))]) (by simp [results, Tryz.results86, go_sem, hc1]) rfl ⟨rfl, ?_⟩
  exact gset (gset (gtrans (galloc (galloc (galloc (Below.refl _ _) _) _) _) h0) (by simp; omega) _) (by simp; omega) _

set_option maxHeartbeats 400000 in
theorem mul_no (ka kb : Bool) (a b : Int) (w : World) (h : (ka && kb) = false) :
    Calls Tryz.prog 86 #[.agg #[.bool ka, .int .i64 a], .agg #[.bool kb, .int .i64 b]] w fun e w' => e = .returned (.agg #[.bool false, .int .i64 0]) ∧ Below w.heap.size w w' := by
  go_enter Tryz.func86, Tryz.ntmps86
  go_wp2_with (go_at_call 117; refine (both_any _ _ _ _ _).mono ?_; rintro e w0 ⟨rfl, h0⟩; obtain ⟨hc0, hf0⟩ := bcell h0)
  refine bodyPost_ret (v := .agg #[.bool false, .int .i64 0]) (by simp [results, Tryz.results86, go_sem, hc0]) rfl ⟨rfl, ?_⟩
  exact gset (gset (gtrans (galloc (galloc (galloc (Below.refl _ _) _) _) _) h0) (by simp; omega) _) (by simp; omega) _

theorem mul_any (ka kb : Bool) (a b : Int) (w : World) (ha : fitsB a = true) (hb : fitsB b = true) :
    Calls Tryz.prog 86 #[.agg #[.bool ka, .int .i64 a], .agg #[.bool kb, .int .i64 b]] w fun e w' => e = .returned (.agg #[.bool (opK ka kb (a * b)), .int .i64 (opN ka kb (a * b))]) ∧ Below w.heap.size w w' := by
  cases h : (ka && kb)
  · have e1 : opK ka kb (a * b) = false := opK_no ka kb _ h
    have e2 : opN ka kb (a * b) = 0 := opN_no ka kb _ h
    rw [e1, e2]; exact mul_no ka kb a b w h
  · simp only [Bool.and_eq_true] at h
    obtain ⟨rfl, rfl⟩ := h
    rw [opK_tt, opN_tt]; exact mul_yes a b w ha hb

end Go.Proofs.YtglagbedgjkdbaaGreatDoor
namespace Go.Proofs.YtglagbedgjkdbaaGreatDoor
open Go.RowKit
set_option linter.unusedVariables false

def rHi (x : Int) : Int := x / 4294967296
def rLo (x : Int) : Int := x % 4294967296
theorem rLo_nn (x : Int) : 0 ≤ rLo x := by unfold rLo; omega
theorem rLo_lt (x : Int) : rLo x < 4294967296 := by unfold rLo; omega
theorem and_mask (n : Int) : bits .and .i64 n 4294967295 = rLo n := by
  have h127 : (BitVec.ofInt 64 4294967295).toNat = 2 ^ 32 - 1 := by decide
  have key : (BitVec.ofInt 64 n &&& BitVec.ofInt 64 4294967295).toNat = (n % ((2 ^ 64 : Nat) : Int)).toNat % 2 ^ 32 := by
    rw [BitVec.toNat_and, BitVec.toNat_ofInt, h127, Nat.and_two_pow_sub_one_eq_mod]
  show IntKind.i64.wrap ((BitVec.ofInt 64 n &&& BitVec.ofInt 64 4294967295).toNat : Nat) = rLo n
  rw [key, IntKind.wrap_i64]
  unfold rLo
  omega
theorem shr_hi (n : Int) : n / 4294967296 = rHi n := rfl

set_option maxHeartbeats 400000 in
theorem refWiden_any (n : Int) (w : World) (hn : fitsB n = true) :
    Calls Tryz.prog 135 #[.int .i64 n] w fun e w' => e = .returned (.agg #[.int .i64 (rHi n), .int .i64 (rLo n)]) ∧ Below w.heap.size w w' := by
  have e1 := and_mask n
  have e2 := shr_hi n
  have hN := (fits_iff n).1 hn
  go_enter Tryz.func135, Tryz.ntmps135
  go_wp2
  exact bodyPost_ret (v := .agg #[.int .i64 (rHi n), .int .i64 (rLo n)]) (by simp [results, Tryz.results135, go_sem]) rfl ⟨rfl, galloc (Below.refl _ _) _⟩

theorem rplus_hi1 (x y : Int) (h : 4294967296 ≤ rLo x + rLo y) : rHi x + rHi y + 1 = rHi (x + y) := by unfold rHi rLo at *; omega
theorem rplus_lo1 (x y : Int) (h : 4294967296 ≤ rLo x + rLo y) : rLo x + rLo y - 4294967296 = rLo (x + y) := by unfold rLo at *; omega
theorem rplus_hi2 (x y : Int) (h : ¬ 4294967296 ≤ rLo x + rLo y) : rHi x + rHi y = rHi (x + y) := by unfold rHi rLo at *; omega
theorem rplus_lo2 (x y : Int) (h : ¬ 4294967296 ≤ rLo x + rLo y) : rLo x + rLo y = rLo (x + y) := by unfold rLo at *; omega
set_option maxHeartbeats 1000000 in
theorem refplus_any (x y : Int) (w : World) (h1 : -2305843009213693952 ≤ rHi x) (h2 : rHi x ≤ 2305843009213693952) (h3 : -2305843009213693952 ≤ rHi y) (h4 : rHi y ≤ 2305843009213693952) :
    Calls Tryz.prog 134 #[.agg #[.int .i64 (rHi x), .int .i64 (rLo x)], .agg #[.int .i64 (rHi y), .int .i64 (rLo y)]] w fun e w' => e = .returned (.agg #[.int .i64 (rHi (x + y)), .int .i64 (rLo (x + y))]) ∧ Below w.heap.size w w' := by
  have l1 := rLo_nn x
  have l2 := rLo_lt x
  have l3 := rLo_nn y
  have l4 := rLo_lt y
  by_cases h : 4294967296 ≤ rLo x + rLo y
  · have f1 := rplus_hi1 x y h
    have f2 := rplus_lo1 x y h
    rw [← f1, ← f2]
    clear f1 f2
    go_enter Tryz.func134, Tryz.ntmps134
    go_wp2
    exact bodyPost_ret (v := .agg #[.int .i64 (rHi x + rHi y + 1), .int .i64 (rLo x + rLo y - 4294967296)]) (by simp [results, Tryz.results134, go_sem]) rfl ⟨rfl, galloc (galloc (galloc (Below.refl _ _) _) _) _⟩
  · have f1 := rplus_hi2 x y h
    have f2 := rplus_lo2 x y h
    rw [← f1, ← f2]
    clear f1 f2
    go_enter Tryz.func134, Tryz.ntmps134
    go_wp2
    exact bodyPost_ret (v := .agg #[.int .i64 (rHi x + rHi y), .int .i64 (rLo x + rLo y)]) (by simp [results, Tryz.results134, go_sem]) rfl ⟨rfl, galloc (galloc (galloc (Below.refl _ _) _) _) _⟩

theorem rminus_hi1 (x y : Int) (h : rLo x - rLo y < 0) : rHi x - rHi y - 1 = rHi (x - y) := by unfold rHi rLo at *; omega
theorem rminus_lo1 (x y : Int) (h : rLo x - rLo y < 0) : rLo x - rLo y + 4294967296 = rLo (x - y) := by unfold rLo at *; omega
theorem rminus_hi2 (x y : Int) (h : ¬ rLo x - rLo y < 0) : rHi x - rHi y = rHi (x - y) := by unfold rHi rLo at *; omega
theorem rminus_lo2 (x y : Int) (h : ¬ rLo x - rLo y < 0) : rLo x - rLo y = rLo (x - y) := by unfold rLo at *; omega
set_option maxHeartbeats 1000000 in
theorem refminus_any (x y : Int) (w : World) (h1 : -2305843009213693952 ≤ rHi x) (h2 : rHi x ≤ 2305843009213693952) (h3 : -2305843009213693952 ≤ rHi y) (h4 : rHi y ≤ 2305843009213693952) :
    Calls Tryz.prog 136 #[.agg #[.int .i64 (rHi x), .int .i64 (rLo x)], .agg #[.int .i64 (rHi y), .int .i64 (rLo y)]] w fun e w' => e = .returned (.agg #[.int .i64 (rHi (x - y)), .int .i64 (rLo (x - y))]) ∧ Below w.heap.size w w' := by
  have l1 := rLo_nn x
  have l2 := rLo_lt x
  have l3 := rLo_nn y
  have l4 := rLo_lt y
  by_cases h : rLo x - rLo y < 0
  · have f1 := rminus_hi1 x y h
    have f2 := rminus_lo1 x y h
    rw [← f1, ← f2]
    clear f1 f2
    go_enter Tryz.func136, Tryz.ntmps136
    go_wp2
    exact bodyPost_ret (v := .agg #[.int .i64 (rHi x - rHi y - 1), .int .i64 (rLo x - rLo y + 4294967296)]) (by simp [results, Tryz.results136, go_sem]) rfl ⟨rfl, galloc (galloc (galloc (Below.refl _ _) _) _) _⟩
  · have f1 := rminus_hi2 x y h
    have f2 := rminus_lo2 x y h
    rw [← f1, ← f2]
    clear f1 f2
    go_enter Tryz.func136, Tryz.ntmps136
    go_wp2
    exact bodyPost_ret (v := .agg #[.int .i64 (rHi x - rHi y), .int .i64 (rLo x - rLo y)]) (by simp [results, Tryz.results136, go_sem]) rfl ⟨rfl, galloc (galloc (galloc (Below.refl _ _) _) _) _⟩

theorem fit_hi (x : Int) (h : fitsB x = true) : -2147483648 ≤ rHi x ∧ rHi x < 2147483648 ∧ rHi x * 4294967296 + rLo x = x := by
  rw [fits_iff] at h; unfold rHi rLo; omega
theorem fit_no (x : Int) (h : fitsB x = false) : rHi x < -2147483648 ∨ (-2147483648 ≤ rHi x ∧ 2147483648 ≤ rHi x) := by
  rw [fits_not] at h; unfold rHi; omega
set_option maxHeartbeats 1000000 in
theorem refFit_any (x : Int) (w : World) :
    Calls Tryz.prog 133 #[.agg #[.int .i64 (rHi x), .int .i64 (rLo x)]] w fun e w' => e = .returned (.agg #[.bool (fitsB x), .int .i64 (fitN x)]) ∧ Below w.heap.size w w' := by
  cases h : fitsB x
  · rw [fitN_no x h]
    have hh := fit_no x h
    clear h
    rcases hh with hh | hh
    all_goals
      go_enter Tryz.func133, Tryz.ntmps133
      go_wp2_with (go_at_call 46; refine (refNothing_any _).mono ?_; rintro e w0 ⟨rfl, g0⟩; obtain ⟨hc0, hf0⟩ := bcell g0)
      refine bodyPost_ret (v := .agg #[.bool false, .int .i64 0]) (by simp [results, Tryz.results133, go_sem, hc0]) rfl ⟨rfl, ?_⟩
      exact gset (gset (gtrans (galloc (galloc (Below.refl _ _) _) _) g0) (by simp) _) (by simp) _
  · rw [fitN_yes x h]
    obtain ⟨h1, h2, h3⟩ := fit_hi x h
    have h4 := (fits_iff x).1 h
    have l1 := rLo_nn x
    have l2 := rLo_lt x
    have e1 : wrap64 (rHi x * 4294967296) = rHi x * 4294967296 := by unfold wrap64; omega
    have e2 : wrap64 x = x := by unfold wrap64; omega
    have h3' : Hid (rHi x * 4294967296 + rLo x = x) := h3
    clear h
    go_enter Tryz.func133, Tryz.ntmps133
    go_wp2_with (go_at_call 73; refine (refNumber_any _ _).mono ?_; rintro e w0 ⟨rfl, g0⟩; obtain ⟨hc0, hf0⟩ := bcell g0)
    refine bodyPost_ret (v := .agg #[.bool true, .int .i64 x]) (by simp [results, Tryz.results133, go_sem, hc0]) rfl ⟨rfl, ?_⟩
    exact gset (gset (gtrans (galloc (galloc (Below.refl _ _) _) _) g0) (by simp) _) (by simp) _

set_option maxHeartbeats 1000000 in
theorem refAdd_yes (a b : Int) (w : World) (ha : fitsB a = true) (hb : fitsB b = true) :
    Calls Tryz.prog 107 #[.agg #[.bool true, .int .i64 a], .agg #[.bool true, .int .i64 b]] w fun e w' => e = .returned (.agg #[.bool (fitsB (a + b)), .int .i64 (fitN (a + b))]) ∧ Below w.heap.size w w' := by
  obtain ⟨a1, a2, _⟩ := fit_hi a ha
  obtain ⟨b1, b2, _⟩ := fit_hi b hb
  go_enter Tryz.func107, Tryz.ntmps107
  go_wp2
  have h0 := (galloc (galloc (galloc (Below.refl w.heap.size w) (.cells #[.bool true, .int .i64 a] 51)) (.cells #[.bool true, .int .i64 b] 51)) (.cells #[.bool false, .int .i64 0] 51)).drew
  go_region_with (first
    | (go_at_call 135; refine (refWiden_any _ _ (by assumption)).mono ?_; rintro e w1 ⟨rfl, h1⟩; (first | replace g0 := gtrans g0 h1 | (have g0 := h1)); obtain ⟨hc1, hf1⟩ := bcell g0)
    | (go_at_call 134; refine (refplus_any _ _ _ (by omega) (by omega) (by omega) (by omega)).mono ?_; rintro e w1 ⟨rfl, h1⟩; replace g0 := gtrans g0 h1; obtain ⟨hc1, hf1⟩ := bcell g0)
    | (go_at_call 133; refine (refFit_any _ _).mono ?_; rintro e w1 ⟨rfl, h1⟩; replace g0 := gtrans g0 h1; obtain ⟨hc1, hf1⟩ := bcell g0))
  all_goals
    obtain ⟨hc, hf⟩ := bcell g0
    go_wp2
    refine bodyPost_ret (v := .agg #[.bool (fitsB (a + b)), .int .i64 (fitN (a + b))]) (by simp [results, Tryz.results107, go_sem, hc]) rfl ⟨rfl, ?_⟩
    exact gset (gset (gtrans h0 g0) (by simp; omega) _) (by simp; omega) _

set_option maxHeartbeats 400000 in
theorem refAdd_no (ka kb : Bool) (a b : Int) (w : World) (h : (ka && kb) = false) :
    Calls Tryz.prog 107 #[.agg #[.bool ka, .int .i64 a], .agg #[.bool kb, .int .i64 b]] w fun e w' => e = .returned (.agg #[.bool false, .int .i64 0]) ∧ Below w.heap.size w w' := by
  cases ka <;> cases kb <;> first | (simp at h; done) | clear h
  all_goals
    go_enter Tryz.func107, Tryz.ntmps107
    go_wp2_with (go_at_call 46; refine (refNothing_any _).mono ?_; rintro e w0 ⟨rfl, g0⟩; obtain ⟨hc0, hf0⟩ := bcell g0)
    refine bodyPost_ret (v := .agg #[.bool false, .int .i64 0]) (by simp [results, Tryz.results107, go_sem, hc0]) rfl ⟨rfl, ?_⟩
    exact gset (gset (gtrans (galloc (galloc (galloc (Below.refl _ _) _) _) _) g0) (by simp; omega) _) (by simp; omega) _

theorem refAdd_any (ka kb : Bool) (a b : Int) (w : World) (ha : fitsB a = true) (hb : fitsB b = true) :
    Calls Tryz.prog 107 #[.agg #[.bool ka, .int .i64 a], .agg #[.bool kb, .int .i64 b]] w fun e w' => e = .returned (.agg #[.bool (opK ka kb (a + b)), .int .i64 (opN ka kb (a + b))]) ∧ Below w.heap.size w w' := by
  cases h : (ka && kb)
  · rw [opK_no ka kb _ h, opN_no ka kb _ h]; exact refAdd_no ka kb a b w h
  · simp only [Bool.and_eq_true] at h
    obtain ⟨rfl, rfl⟩ := h
    rw [opK_tt, opN_tt]; exact refAdd_yes a b w ha hb

set_option maxHeartbeats 1000000 in
theorem refSub_yes (a b : Int) (w : World) (ha : fitsB a = true) (hb : fitsB b = true) :
    Calls Tryz.prog 108 #[.agg #[.bool true, .int .i64 a], .agg #[.bool true, .int .i64 b]] w fun e w' => e = .returned (.agg #[.bool (fitsB (a - b)), .int .i64 (fitN (a - b))]) ∧ Below w.heap.size w w' := by
  obtain ⟨a1, a2, _⟩ := fit_hi a ha
  obtain ⟨b1, b2, _⟩ := fit_hi b hb
  go_enter Tryz.func108, Tryz.ntmps108
  go_wp2
  have h0 := (galloc (galloc (galloc (Below.refl w.heap.size w) (.cells #[.bool true, .int .i64 a] 51)) (.cells #[.bool true, .int .i64 b] 51)) (.cells #[.bool false, .int .i64 0] 51)).drew
  go_region_with (first
    | (go_at_call 135; refine (refWiden_any _ _ (by assumption)).mono ?_; rintro e w1 ⟨rfl, h1⟩; (first | replace g0 := gtrans g0 h1 | (have g0 := h1)); obtain ⟨hc1, hf1⟩ := bcell g0)
    | (go_at_call 136; refine (refminus_any _ _ _ (by omega) (by omega) (by omega) (by omega)).mono ?_; rintro e w1 ⟨rfl, h1⟩; replace g0 := gtrans g0 h1; obtain ⟨hc1, hf1⟩ := bcell g0)
    | (go_at_call 133; refine (refFit_any _ _).mono ?_; rintro e w1 ⟨rfl, h1⟩; replace g0 := gtrans g0 h1; obtain ⟨hc1, hf1⟩ := bcell g0))
  all_goals
    obtain ⟨hc, hf⟩ := bcell g0
    go_wp2
    refine bodyPost_ret (v := .agg #[.bool (fitsB (a - b)), .int .i64 (fitN (a - b))]) (by simp [results, Tryz.results108, go_sem, hc]) rfl ⟨rfl, ?_⟩
    exact gset (gset (gtrans h0 g0) (by simp; omega) _) (by simp; omega) _

set_option maxHeartbeats 400000 in
theorem refSub_no (ka kb : Bool) (a b : Int) (w : World) (h : (ka && kb) = false) :
    Calls Tryz.prog 108 #[.agg #[.bool ka, .int .i64 a], .agg #[.bool kb, .int .i64 b]] w fun e w' => e = .returned (.agg #[.bool false, .int .i64 0]) ∧ Below w.heap.size w w' := by
  cases ka <;> cases kb <;> first | (simp at h; done) | clear h
  all_goals
    go_enter Tryz.func108, Tryz.ntmps108
    go_wp2_with (go_at_call 46; refine (refNothing_any _).mono ?_; rintro e w0 ⟨rfl, g0⟩; obtain ⟨hc0, hf0⟩ := bcell g0)
    refine bodyPost_ret (v := .agg #[.bool false, .int .i64 0]) (by simp [results, Tryz.results108, go_sem, hc0]) rfl ⟨rfl, ?_⟩
    exact gset (gset (gtrans (galloc (galloc (galloc (Below.refl _ _) _) _) _) g0) (by simp; omega) _) (by simp; omega) _

theorem refSub_any (ka kb : Bool) (a b : Int) (w : World) (ha : fitsB a = true) (hb : fitsB b = true) :
    Calls Tryz.prog 108 #[.agg #[.bool ka, .int .i64 a], .agg #[.bool kb, .int .i64 b]] w fun e w' => e = .returned (.agg #[.bool (opK ka kb (a - b)), .int .i64 (opN ka kb (a - b))]) ∧ Below w.heap.size w w' := by
  cases h : (ka && kb)
  · rw [opK_no ka kb _ h, opN_no ka kb _ h]; exact refSub_no ka kb a b w h
  · simp only [Bool.and_eq_true] at h
    obtain ⟨rfl, rfl⟩ := h
    rw [opK_tt, opN_tt]; exact refSub_yes a b w ha hb

end Go.Proofs.YtglagbedgjkdbaaGreatDoor
namespace Go.Proofs.YtglagbedgjkdbaaGreatDoor
open Go.RowKit
set_option linter.unusedVariables false

theorem wrap_split (x : Int) : ∃ k : Int, wrap64 x = x - k * 18446744073709551616 ∧ (fitsB x = false → k ≠ 0) := by
  refine ⟨(x + 9223372036854775808) / 18446744073709551616, by unfold wrap64; omega, fun h => ?_⟩
  rw [fits_not] at h; omega
theorem mul_back_no (a b : Int) (ha : fitsB a = true) (hb : fitsB b = true) (h0 : ¬ b = 0) (h : fitsB (a * b) = false) : ¬ (wrap64 (a * b)).tdiv b = a := by
  intro he
  obtain ⟨k, hk, hk0⟩ := wrap_split (a * b)
  have hk1 := hk0 h
  have h1 := Int.tmod_add_mul_tdiv (wrap64 (a * b)) b
  have h2 := Int.natAbs_tmod (wrap64 (a * b)) b
  have h3 : (wrap64 (a * b)).natAbs % b.natAbs < b.natAbs := Nat.mod_lt _ (by omega)
  rw [← h2] at h3
  rw [he, Int.mul_comm b a] at h1
  rw [fits_iff] at hb
  generalize (wrap64 (a * b)).tmod b = r at *
  generalize wrap64 (a * b) = p at *
  generalize a * b = m at *
  omega
theorem mul_back_yes (a b : Int) (h0 : ¬ b = 0) : (a * b).tdiv b = a := Int.mul_tdiv_cancel a h0

set_option maxHeartbeats 400000 in
theorem refMul_no (ka kb : Bool) (a b : Int) (w : World) (h : (ka && kb) = false) :
    Calls Tryz.prog 109 #[.agg #[.bool ka, .int .i64 a], .agg #[.bool kb, .int .i64 b]] w fun e w' => e = .returned (.agg #[.bool false, .int .i64 0]) ∧ Below w.heap.size w w' := by
  cases ka <;> cases kb <;> first | (simp at h; done) | clear h
  all_goals
    go_enter Tryz.func109, Tryz.ntmps109
    go_wp2_with (go_at_call 46; refine (refNothing_any _).mono ?_; rintro e w0 ⟨rfl, g0⟩; obtain ⟨hc0, hf0⟩ := bcell g0)
    refine bodyPost_ret (v := .agg #[.bool false, .int .i64 0]) (by simp [results, Tryz.results109, go_sem, hc0]) rfl ⟨rfl, ?_⟩
    exact gset (gset (gtrans (galloc (galloc (galloc (Below.refl _ _) _) _) _) g0) (by simp; omega) _) (by simp; omega) _

set_option maxHeartbeats 400000 in
theorem refMul_zero (a : Int) (w : World) :
    Calls Tryz.prog 109 #[.agg #[.bool true, .int .i64 a], .agg #[.bool true, .int .i64 0]] w fun e w' => e = .returned (.agg #[.bool true, .int .i64 0]) ∧ Below w.heap.size w w' := by
  go_enter Tryz.func109, Tryz.ntmps109
  go_wp2_with (go_at_call 73; refine (refNumber_any _ _).mono ?_; rintro e w0 ⟨rfl, g0⟩; obtain ⟨hc0, hf0⟩ := bcell g0)
  refine bodyPost_ret (v := .agg #[.bool true, .int .i64 0]) (by simp [results, Tryz.results109, go_sem, hc0]) rfl ⟨rfl, ?_⟩
  exact gset (gset (gtrans (galloc (galloc (galloc (Below.refl _ _) _) _) _) g0) (by simp; omega) _) (by simp; omega) _

set_option maxHeartbeats 400000 in
theorem refMul_neg (a : Int) (w : World) (ha : fitsB a = true) :
    Calls Tryz.prog 109 #[.agg #[.bool true, .int .i64 a], .agg #[.bool true, .int .i64 (-1)]] w fun e w' => e = .returned (.agg #[.bool (opK true true (0 - a)), .int .i64 (opN true true (0 - a))]) ∧ Below w.heap.size w w' := by
  go_enter Tryz.func109, Tryz.ntmps109
  go_wp2_with (go_at_call 76; refine (refNeg_any _ _ _ ha).mono ?_; rintro e w0 ⟨rfl, g0⟩; obtain ⟨hc0, hf0⟩ := bcell g0)
  refine bodyPost_ret (v := .agg #[.bool (opK true true (0 - a)), .int .i64 (opN true true (0 - a))]) (by simp [results, Tryz.results109, go_sem, hc0]) rfl ⟨rfl, ?_⟩
  exact gset (gset (gtrans (galloc (galloc (galloc (Below.refl _ _) _) _) _) g0) (by simp; omega) _) (by simp; omega) _

theorem wrapEq4 (x : Int) : IntKind.i64.wrap x = wrap64 x := by rw [IntKind.wrap_i64]; unfold wrap64; rfl

set_option maxHeartbeats 1000000 in
theorem refMul_fit (a b : Int) (w : World) (ha : fitsB a = true) (hb : fitsB b = true) (h0 : (b == 0) = false) (h1 : (b == -1) = false) (h : fitsB (a * b) = true) :
    Calls Tryz.prog 109 #[.agg #[.bool true, .int .i64 a], .agg #[.bool true, .int .i64 b]] w fun e w' => e = .returned (.agg #[.bool true, .int .i64 (a * b)]) ∧ Below w.heap.size w w' := by
  have h0' : ¬ b = 0 := by simpa using h0
  have f1 := wrap_fits _ h
  have f2 := mul_back_yes a b h0'
  have f3 := wrap_fits _ ha
  have f4 := wrapEq4 a
  go_enter Tryz.func109, Tryz.ntmps109
  go_wp2
  go_quiet (fail)
  go_wp2_with (go_at_call 73; refine (refNumber_any _ _).mono ?_; rintro e w0 ⟨rfl, g0⟩; obtain ⟨hc0, hf0⟩ := bcell g0)
  refine bodyPost_ret (v := .agg #[.bool true, .int .i64 (a * b)]) (by simp [results, Tryz.results109, go_sem, hc0]) rfl ⟨rfl, ?_⟩
  exact gset (gset (gtrans (below_drewN (galloc (galloc (galloc (Below.refl _ _) _) _) _) _) g0) (by simp; omega) _) (by simp; omega) _

set_option maxHeartbeats 1000000 in
theorem refMul_out (a b : Int) (w : World) (ha : fitsB a = true) (hb : fitsB b = true) (h0 : (b == 0) = false) (h1 : (b == -1) = false) (h : fitsB (a * b) = false) :
    Calls Tryz.prog 109 #[.agg #[.bool true, .int .i64 a], .agg #[.bool true, .int .i64 b]] w fun e w' => e = .returned (.agg #[.bool false, .int .i64 0]) ∧ Below w.heap.size w w' := by
  have h0' : ¬ b = 0 := by simpa using h0
  have h1' : ¬ b = -1 := by simpa using h1
  have f2 := mul_back_no a b ha hb h0' h
  have f5 : fitsB (wrap64 (a * b)) = true := (fits_iff _).2 ⟨wrap_ge _, wrap_le _⟩
  have f3 := wrap_fits _ (tdiv_fits (wrap64 (a * b)) b f5 h1')
  have f4 := (wrapEq4 ((wrap64 (a * b)).tdiv b)).trans f3
  go_enter Tryz.func109, Tryz.ntmps109
  go_wp2
  go_quiet (fail)
  go_wp2_with (go_at_call 46; refine (refNothing_any _).mono ?_; rintro e w0 ⟨rfl, g0⟩; obtain ⟨hc0, hf0⟩ := bcell g0)
  refine bodyPost_ret (v := .agg #[.bool false, .int .i64 0]) (by simp [results, Tryz.results109, go_sem, hc0]) rfl ⟨rfl, ?_⟩
  exact gset (gset (gtrans (below_drewN (galloc (galloc (galloc (Below.refl _ _) _) _) _) _) g0) (by simp; omega) _) (by simp; omega) _

theorem refMul_any (ka kb : Bool) (a b : Int) (w : World) (ha : fitsB a = true) (hb : fitsB b = true) :
    Calls Tryz.prog 109 #[.agg #[.bool ka, .int .i64 a], .agg #[.bool kb, .int .i64 b]] w fun e w' => e = .returned (.agg #[.bool (opK ka kb (a * b)), .int .i64 (opN ka kb (a * b))]) ∧ Below w.heap.size w w' := by
  cases h : (ka && kb)
  · rw [opK_no ka kb _ h, opN_no ka kb _ h]; exact refMul_no ka kb a b w h
  · simp only [Bool.and_eq_true] at h
    obtain ⟨rfl, rfl⟩ := h
    cases h0 : (b == 0)
    · cases h1 : (b == -1)
      · rw [opK_tt, opN_tt]
        cases h2 : fitsB (a * b)
        · rw [fitN_no _ h2]; exact refMul_out a b w ha hb h0 h1 h2
        · rw [fitN_yes _ h2]; exact refMul_fit a b w ha hb h0 h1 h2
      · have : b = -1 := by simpa using h1
        subst this
        have e : a * -1 = 0 - a := by omega
        rw [e]; exact refMul_neg a w ha
    · have : b = 0 := by simpa using h0
      subst this
      have e : a * 0 = 0 := by omega
      rw [e]
      exact refMul_zero a w
end Go.Proofs.YtglagbedgjkdbaaGreatDoor
namespace Go.Proofs.YtglagbedgjkdbaaGreatDoor
open Go.RowKit
set_option linter.unusedVariables false

/-- A local's cell, over calls that make memory alone, and a new local behind them. -/
theorem kold {W u : World} (G : Below W.heap.size W u) (o : Obj) {b i : Nat} {v : Value} (s : b < W.heap.size) (r : W.cell? ⟨b, i, none⟩ = some v) : (u.alloc o).cell? ⟨b, i, none⟩ = some v :=
  (World.cell?_alloc_past (w := u) o b i (Nat.lt_of_lt_of_le s G.size)).trans ((G.cell (p := ⟨b, i, none⟩) s).trans r)
theorem kkeep {W u : World} (G : Below W.heap.size W u) {b i : Nat} {v : Value} (s : b < W.heap.size) (r : W.cell? ⟨b, i, none⟩ = some v) : u.cell? ⟨b, i, none⟩ = some v := (G.cell (p := ⟨b, i, none⟩) s).trans r
theorem ksize {W u : World} (G : Below W.heap.size W u) (o : Obj) {b : Nat} (s : b < W.heap.size) : b < (u.alloc o).heap.size := by
  show b < (u.heap.push _).size
  simp; exact Nat.lt_succ_of_lt (Nat.lt_of_lt_of_le s G.size)
theorem knew (u : World) (c : Array Value) (t : TypeId) (i : Nat) (v : Value) (h : c[i]? = some v) : (u.alloc (.cells c t)).cell? ⟨u.heap.size, i, none⟩ = some v := by
  rw [World.cell?_alloc_new]; exact h
theorem ksnew (u : World) (o : Obj) : u.heap.size < (u.alloc o).heap.size := by
  show u.heap.size < (u.heap.push _).size
  simp
theorem bsize {W u : World} (G : Below W.heap.size W u) : ∀ b, b < W.heap.size → b < u.heap.size := fun _ h => Nat.lt_of_lt_of_le h G.size
theorem relA {W u : World} (G : Below W.heap.size W u) (k : Bool) (n : Int) (t : TypeId) : ∃ b, Value.pointer (some ⟨u.heap.size, 0, none⟩) = .pointer (some ⟨b, 0, none⟩) ∧ (u.alloc (.cells #[.bool k, .int .i64 n] t)).cell? ⟨b, 0, none⟩ = some (.bool k) ∧ (u.alloc (.cells #[.bool k, .int .i64 n] t)).cell? ⟨b, 1, none⟩ = some (.int .i64 n) ∧ b < (u.alloc (.cells #[.bool k, .int .i64 n] t)).heap.size ∧ Below W.heap.size W (u.alloc (.cells #[.bool k, .int .i64 n] t)) :=
  ⟨_, rfl, knew u _ t 0 _ rfl, knew u _ t 1 _ rfl, ksnew u _, G.alloc G.size _⟩
theorem relB {W u : World} {c : Nat} (G : Below W.heap.size W u) (k : Bool) (n : Int) (h0 : u.cell? ⟨c, 0, none⟩ = some (.bool false)) (h1 : u.cell? ⟨c, 1, none⟩ = some (.int .i64 0)) (hc : c < u.heap.size) (hW : W.heap.size ≤ c) :
    ∃ b, Value.pointer (some ⟨c, 0, none⟩) = .pointer (some ⟨b, 0, none⟩) ∧ ((u.setCell ⟨c, 0, none⟩ (.bool k)).setCell ⟨c, 1, none⟩ (.int .i64 n)).cell? ⟨b, 0, none⟩ = some (.bool k) ∧ ((u.setCell ⟨c, 0, none⟩ (.bool k)).setCell ⟨c, 1, none⟩ (.int .i64 n)).cell? ⟨b, 1, none⟩ = some (.int .i64 n) ∧ b < ((u.setCell ⟨c, 0, none⟩ (.bool k)).setCell ⟨c, 1, none⟩ (.int .i64 n)).heap.size ∧ Below W.heap.size W ((u.setCell ⟨c, 0, none⟩ (.bool k)).setCell ⟨c, 1, none⟩ (.int .i64 n)) := by
  refine ⟨_, rfl, ?_, ?_, ?_, (G.setCell hW _).setCell hW _⟩
  · simp [go_sem, h0]
  · simp [go_sem, h1]
  · simpa [World.setCell] using hc

end Go.Proofs.YtglagbedgjkdbaaGreatDoor
