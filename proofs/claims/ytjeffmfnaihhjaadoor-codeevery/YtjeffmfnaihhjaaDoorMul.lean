/- What num's product and Mul come to, of any two values, known or not. -/
import Derived.Test.YtjeffmfnaihhjaaDoorOps
import Derived.Shelf.Bits.Mul64
namespace Go.Proofs.YtjeffmfnaihhjaaDoor
open Go.RowKit
set_option linter.unusedVariables false

def mulHi (a b : Int) : Int := (loOf a * loOf b) / 18446744073709551616
theorem mulHi_nn (a b : Int) : 0 ≤ mulHi a b := by
  have h := Int.mul_nonneg (lo_nn a) (lo_nn b)
  unfold mulHi; omega
theorem mul_lo (a b : Int) : (loOf a * loOf b) % 18446744073709551616 = loOf (a * b) := by
  unfold loOf; rw [← Int.mul_emod]

theorem lo_pos (a : Int) (h : fitsB a = true) (g : 0 ≤ a) : loOf a = a := by rw [fits_iff] at h; unfold loOf; omega
theorem lo_neg (a : Int) (h : fitsB a = true) (g : a < 0) : loOf a = a + 18446744073709551616 := by rw [fits_iff] at h; unfold loOf; omega

theorem hi_pp (a b : Int) (ha : fitsB a = true) (hb : fitsB b = true) (ga : 0 ≤ a) (gb : 0 ≤ b) : mulHi a b = hiOf (a * b) := by
  have h0 : mulHi a b < 18446744073709551616 := by
    unfold mulHi
    have h1 := lo_lt a
    have h2 := lo_lt b
    have h3 : loOf a * loOf b ≤ 18446744073709551615 * 18446744073709551615 := Int.mul_le_mul (by omega) (by omega) (lo_nn b) (by omega)
    omega
  have h1 := mulHi_nn a b
  unfold mulHi at *
  rw [lo_pos a ha ga, lo_pos b hb gb] at *
  unfold hiOf
  omega
theorem hi_np (a b : Int) (ha : fitsB a = true) (hb : fitsB b = true) (ga : a < 0) (gb : 0 ≤ b) : IntKind.u64.wrap (mulHi a b - loOf b) = hiOf (a * b) := by
  rw [IntKind.wrap_u64]
  have e : a * b = loOf a * loOf b - 18446744073709551616 * loOf b := by
    rw [lo_neg a ha ga, lo_pos b hb gb, Int.add_mul]; omega
  rw [e]; unfold mulHi hiOf
  generalize loOf a * loOf b = p
  generalize loOf b = q
  omega
theorem hi_pn (a b : Int) (ha : fitsB a = true) (hb : fitsB b = true) (ga : 0 ≤ a) (gb : b < 0) : IntKind.u64.wrap (mulHi a b - loOf a) = hiOf (a * b) := by
  rw [IntKind.wrap_u64]
  have e : a * b = loOf a * loOf b - 18446744073709551616 * loOf a := by
    rw [lo_pos a ha ga, lo_neg b hb gb, Int.mul_add]; omega
  rw [e]; unfold mulHi hiOf
  generalize loOf a * loOf b = p
  generalize loOf a = q
  omega
theorem hi_nn2 (a b : Int) (ha : fitsB a = true) (hb : fitsB b = true) (ga : a < 0) (gb : b < 0) : IntKind.u64.wrap (IntKind.u64.wrap (mulHi a b - loOf b) - loOf a) = hiOf (a * b) := by
  rw [IntKind.wrap_u64, IntKind.wrap_u64]
  have e : a * b = loOf a * loOf b - 18446744073709551616 * (loOf a + loOf b) + 340282366920938463463374607431768211456 := by
    rw [lo_neg a ha ga, lo_neg b hb gb, Int.add_mul, Int.mul_add, Int.mul_add]; omega
  rw [e]; unfold mulHi hiOf
  generalize loOf a * loOf b = p
  generalize loOf a = q
  generalize loOf b = r
  omega
theorem mul_bound (a b : Int) (ha : fitsB a = true) (hb : fitsB b = true) : -170141183460469231731687303715884105728 ≤ a * b ∧ a * b < 170141183460469231731687303715884105728 := by
  rw [fits_iff] at ha hb
  have h : (a * b).natAbs ≤ 9223372036854775808 * 9223372036854775808 := by
    rw [Int.natAbs_mul]; exact Nat.mul_le_mul (by omega) (by omega)
  omega

set_option maxHeartbeats 1000000 in
theorem mul64_nat (x y : Nat) (hx : x < 18446744073709551616) (hy : y < 18446744073709551616) (w : World) :
    Calls Tryd.prog 78 #[.int .u64 x, .int .u64 y] w fun e w' => e = .returned (.tuple #[.int .u64 ((x * y / 18446744073709551616 : Nat) : Int), .int .u64 ((x * y % 18446744073709551616 : Nat) : Int)]) ∧ w = w' := by
  obtain ⟨bd, bt, bw, hhi⟩ := Lib.mul64_hi x y hx hy
  have ba := Lib.half_mul_le (a := x / 4294967296) (b := y / 4294967296) (by omega) (by omega)
  have bb := Lib.half_mul_le (a := x / 4294967296) (b := y % 4294967296) (by omega) (by omega)
  have bc := Lib.half_mul_le (a := x % 4294967296) (b := y / 4294967296) (by omega) (by omega)
  have ba' : x / 4294967296 * (y / 4294967296) < 18446744073709551616 := by omega
  have bb' : x / 4294967296 * (y % 4294967296) < 18446744073709551616 := by omega
  have bc' : x % 4294967296 * (y / 4294967296) < 18446744073709551616 := by omega
  have bh1 : x / 4294967296 * (y / 4294967296) + (x / 4294967296 * (y % 4294967296) + x % 4294967296 * (y % 4294967296) / 4294967296) / 4294967296 < 18446744073709551616 := by omega
  have bh : x / 4294967296 * (y / 4294967296) + (x / 4294967296 * (y % 4294967296) + x % 4294967296 * (y % 4294967296) / 4294967296) / 4294967296 + ((x / 4294967296 * (y % 4294967296) + x % 4294967296 * (y % 4294967296) / 4294967296) % 4294967296 + x % 4294967296 * (y / 4294967296)) / 4294967296 < 18446744073709551616 := by omega
  go_enter Tryd.func78, Tryd.ntmps78
  go_wp2
  simp only [Mul64.maskN x hx, Mul64.maskN y hy, Mul64.divN, Mul64.mulN, Mul64.addN, Mul64.wrapN _ bd, Mul64.wrapN _ bb', Mul64.wrapN _ bt, Mul64.maskN _ bt, Mul64.wrapN _ bc', Mul64.wrapN _ bw, Mul64.wrapN _ ba', Mul64.wrapN _ bh1, Mul64.wrapN _ bh, Mul64.wrapM (x * y)]
  rw [hhi]
  go_ret2
  exact ⟨rfl, rfl⟩

theorem mul64_any (a b : Int) (w : World) :
    Calls Tryd.prog 78 #[.int .u64 (loOf a), .int .u64 (loOf b)] w fun e w' => e = .returned (.tuple #[.int .u64 (mulHi a b), .int .u64 (loOf (a * b))]) ∧ w = w' := by
  obtain ⟨X, hX⟩ := Int.eq_ofNat_of_zero_le (lo_nn a)
  obtain ⟨Y, hY⟩ := Int.eq_ofNat_of_zero_le (lo_nn b)
  have h := mul64_nat X Y (by have := lo_lt a; omega) (by have := lo_lt b; omega) w
  have e1 : ((X * Y / 18446744073709551616 : Nat) : Int) = mulHi a b := by unfold mulHi; rw [hX, hY]; simp
  have e2 : ((X * Y % 18446744073709551616 : Nat) : Int) = loOf (a * b) := by rw [← mul_lo, hX, hY]; simp
  rw [e1, e2] at h
  rw [hX, hY]; exact h

set_option maxHeartbeats 1000000 in
theorem product_any (a b : Int) (w : World) (ha : fitsB a = true) (hb : fitsB b = true) :
    Calls Tryd.prog 60 #[.int .i64 a, .int .i64 b] w fun e w' => e = .returned (.agg #[.int .u64 (hiOf (a * b)), .int .u64 (loOf (a * b))]) ∧ Below w.heap.size w w' := by
  have e1 := lo_small a
  have e2 := lo_small b
  have ga : a < 0 ∨ 0 ≤ a := by omega
  have gb : b < 0 ∨ 0 ≤ b := by omega
  rcases ga with ga | ga <;> rcases gb with gb | gb
  · have f := hi_nn2 a b ha hb ga gb
    clear ha hb
    go_enter Tryd.func60, Tryd.ntmps60
    go_wp2_with (go_at_call 78; refine (mul64_any _ _ _).mono ?_; rintro e w0 ⟨rfl, rfl⟩)
    exact bodyPost_ret (v := .agg #[.int .u64 (hiOf (a * b)), .int .u64 (loOf (a * b))]) (by simp [results, Tryd.results60, go_sem]) rfl ⟨rfl, galloc (Below.refl _ _) _⟩
  · have f := hi_np a b ha hb ga gb
    clear ha hb
    go_enter Tryd.func60, Tryd.ntmps60
    go_wp2_with (go_at_call 78; refine (mul64_any _ _ _).mono ?_; rintro e w0 ⟨rfl, rfl⟩)
    exact bodyPost_ret (v := .agg #[.int .u64 (hiOf (a * b)), .int .u64 (loOf (a * b))]) (by simp [results, Tryd.results60, go_sem]) rfl ⟨rfl, galloc (Below.refl _ _) _⟩
  · have f := hi_pn a b ha hb ga gb
    clear ha hb
    go_enter Tryd.func60, Tryd.ntmps60
    go_wp2_with (go_at_call 78; refine (mul64_any _ _ _).mono ?_; rintro e w0 ⟨rfl, rfl⟩)
    exact bodyPost_ret (v := .agg #[.int .u64 (hiOf (a * b)), .int .u64 (loOf (a * b))]) (by simp [results, Tryd.results60, go_sem]) rfl ⟨rfl, galloc (Below.refl _ _) _⟩
  · have f := hi_pp a b ha hb ga gb
    clear ha hb
    go_enter Tryd.func60, Tryd.ntmps60
    go_wp2_with (go_at_call 78; refine (mul64_any _ _ _).mono ?_; rintro e w0 ⟨rfl, rfl⟩)
    exact bodyPost_ret (v := .agg #[.int .u64 (hiOf (a * b)), .int .u64 (loOf (a * b))]) (by simp [results, Tryd.results60, go_sem]) rfl ⟨rfl, galloc (Below.refl _ _) _⟩

set_option maxHeartbeats 1000000 in
theorem mul_yes (a b : Int) (w : World) (ha : fitsB a = true) (hb : fitsB b = true) :
    Calls Tryd.prog 40 #[.agg #[.bool true, .int .i64 a], .agg #[.bool true, .int .i64 b]] w fun e w' => e = .returned (.agg #[.bool (fitsB (a * b)), .int .i64 (fitN (a * b))]) ∧ Below w.heap.size w w' := by
  obtain ⟨m1, m2⟩ := mul_bound a b ha hb
  go_enter Tryd.func40, Tryd.ntmps40
  go_wp2_with (first
    | (go_at_call 54; refine (both_any _ _ _ _ _).mono ?_; rintro e w0 ⟨rfl, h0⟩; obtain ⟨hc0, hf0⟩ := bcell h0)
    | (go_at_call 60; refine (product_any _ _ _ ha hb).mono ?_; rintro e w1 ⟨rfl, h1⟩; replace h0 := gtrans h0 h1; obtain ⟨hc1, hf1⟩ := bcell h0)
    | (go_at_call 57; refine (narrow_any _ _ m1 m2).mono ?_; rintro e w1 ⟨rfl, h1⟩; replace h0 := gtrans h0 h1; obtain ⟨hc1, hf1⟩ := bcell h0))
  refine bodyPost_ret (v := .agg #[.bool (fitsB (a * b)), .int .i64 (fitN (a * b))]) (by simp [results, Tryd.results40, go_sem, hc1]) rfl ⟨rfl, ?_⟩
  exact gset (gset (gtrans (galloc (galloc (galloc (Below.refl _ _) _) _) _) h0) (by simp; omega) _) (by simp; omega) _

set_option maxHeartbeats 400000 in
theorem mul_no (ka kb : Bool) (a b : Int) (w : World) (h : (ka && kb) = false) :
    Calls Tryd.prog 40 #[.agg #[.bool ka, .int .i64 a], .agg #[.bool kb, .int .i64 b]] w fun e w' => e = .returned (.agg #[.bool false, .int .i64 0]) ∧ Below w.heap.size w w' := by
  go_enter Tryd.func40, Tryd.ntmps40
  go_wp2_with (go_at_call 54; refine (both_any _ _ _ _ _).mono ?_; rintro e w0 ⟨rfl, h0⟩; obtain ⟨hc0, hf0⟩ := bcell h0)
  refine bodyPost_ret (v := .agg #[.bool false, .int .i64 0]) (by simp [results, Tryd.results40, go_sem, hc0]) rfl ⟨rfl, ?_⟩
  exact gset (gset (gtrans (galloc (galloc (galloc (Below.refl _ _) _) _) _) h0) (by simp; omega) _) (by simp; omega) _

theorem mul_any (ka kb : Bool) (a b : Int) (w : World) (ha : fitsB a = true) (hb : fitsB b = true) :
    Calls Tryd.prog 40 #[.agg #[.bool ka, .int .i64 a], .agg #[.bool kb, .int .i64 b]] w fun e w' => e = .returned (.agg #[.bool (opK ka kb (a * b)), .int .i64 (opN ka kb (a * b))]) ∧ Below w.heap.size w w' := by
  cases h : (ka && kb)
  · have e1 : opK ka kb (a * b) = false := opK_no ka kb _ h
    have e2 : opN ka kb (a * b) = 0 := opN_no ka kb _ h
    rw [e1, e2]; exact mul_no ka kb a b w h
  · simp only [Bool.and_eq_true] at h
    obtain ⟨rfl, rfl⟩ := h
    rw [opK_tt, opN_tt]; exact mul_yes a b w ha hb

end Go.Proofs.YtjeffmfnaihhjaaDoor
