/- Plain arithmetic for the walks over package num: a whole number x as two unsigned halves of 64 bits (hiOf x, loOf x), without any condition on x. Nothing of the program is spoken of here. -/
import Derived.WalkKit
namespace Go.Proofs.YtjeffmfnaihhjaaDoor
open Go.RowKit
set_option linter.unusedVariables false

def hiOf (x : Int) : Int := (x / 18446744073709551616) % 18446744073709551616
def loOf (x : Int) : Int := x % 18446744073709551616
def carry (x y : Int) : Int := (loOf x + loOf y) / 18446744073709551616
def borrow (x y : Int) : Int := if loOf x < loOf y then 1 else 0
def fitsB (x : Int) : Bool := decide (-9223372036854775808 ≤ x ∧ x ≤ 9223372036854775807)

def fitN (x : Int) : Int := if fitsB x = true then x else 0
theorem fitN_yes (x : Int) (h : fitsB x = true) : fitN x = x := by simp [fitN, h]
theorem fitN_no (x : Int) (h : fitsB x = false) : fitN x = 0 := by simp [fitN, h]
theorem fits_iff (x : Int) : fitsB x = true ↔ -9223372036854775808 ≤ x ∧ x ≤ 9223372036854775807 := by simp [fitsB]
theorem fits_not (x : Int) : fitsB x = false ↔ ¬ (-9223372036854775808 ≤ x ∧ x ≤ 9223372036854775807) := by simp [fitsB]

theorem hi_nn (x : Int) : 0 ≤ hiOf x := by unfold hiOf; omega
theorem lo_nn (x : Int) : 0 ≤ loOf x := by unfold loOf; omega
theorem hi_lt (x : Int) : hiOf x < 18446744073709551616 := by unfold hiOf; omega
theorem lo_lt (x : Int) : loOf x < 18446744073709551616 := by unfold loOf; omega
theorem carry_nn (x y : Int) : 0 ≤ carry x y := by unfold carry loOf; omega
theorem carry_le (x y : Int) : carry x y ≤ 1 := by unfold carry loOf; omega
theorem borrow_nn (x y : Int) : 0 ≤ borrow x y := by unfold borrow; split <;> omega
theorem borrow_le (x y : Int) : borrow x y ≤ 1 := by unfold borrow; split <;> omega

theorem add_lo (x y : Int) : (loOf x + loOf y + 0) % 18446744073709551616 = loOf (x + y) := by unfold loOf; omega
theorem add_ca (x y : Int) : (loOf x + loOf y + 0) / 18446744073709551616 = carry x y := by unfold carry; rw [Int.add_zero]
theorem add_hi (x y : Int) : (hiOf x + hiOf y + carry x y) % 18446744073709551616 = hiOf (x + y) := by unfold hiOf carry loOf; omega

theorem sub_lo (x y : Int) (X Y : Nat) (hX : loOf x = X) (hY : loOf y = Y) : (((X + 18446744073709551616 - Y - 0) % 18446744073709551616 : Nat) : Int) = loOf (x - y) := by
  unfold loOf at *; omega
theorem sub_bo (x y : Int) (X Y : Nat) (hX : loOf x = X) (hY : loOf y = Y) : ((if X < Y + 0 then 1 else 0 : Nat) : Int) = borrow x y := by
  unfold borrow; rw [hX, hY]
  by_cases h : X < Y
  · rw [if_pos (by omega), if_pos (by omega)]; rfl
  · rw [if_neg (by omega), if_neg (by omega)]; rfl
theorem sub_hi (x y : Int) (X Y B : Nat) (hX : hiOf x = X) (hY : hiOf y = Y) (hB : borrow x y = B) : (((X + 18446744073709551616 - Y - B) % 18446744073709551616 : Nat) : Int) = hiOf (x - y) := by
  unfold borrow at hB
  unfold hiOf loOf at *
  split at hB <;> omega

theorem hi_small (n : Int) (h1 : -9223372036854775808 ≤ n) (h2 : n ≤ 9223372036854775807) : IntKind.u64.wrap (n / 9223372036854775808) = hiOf n := by
  rw [IntKind.wrap_u64]; unfold hiOf; omega
theorem lo_small (n : Int) : IntKind.u64.wrap n = loOf n := by
  rw [IntKind.wrap_u64]; unfold loOf; omega
/-- The number whose low half is x's, read as a signed one. -/
theorem wrap_lo (x : Int) : wrap64 (loOf x) = (x + 9223372036854775808) % 18446744073709551616 - 9223372036854775808 := by
  unfold wrap64 loOf; omega
theorem lo_back (x : Int) (h : fitsB x = true) : wrap64 (loOf x) = x := by
  rw [fits_iff] at h; rw [wrap_lo]; omega
theorem wrap_lo_lo (x : Int) : loOf (wrap64 (loOf x)) = loOf x := by rw [wrap_lo]; unfold loOf; omega
theorem wrap_lo_hi (x : Int) (h : fitsB x = false) (h1 : -170141183460469231731687303715884105728 ≤ x) (h2 : x < 170141183460469231731687303715884105728) : ¬ hiOf (wrap64 (loOf x)) = hiOf x := by
  rw [fits_not] at h; rw [wrap_lo]; unfold hiOf; omega
theorem wrap_ge (x : Int) : -9223372036854775808 ≤ wrap64 x := by unfold wrap64; omega
theorem wrap_le (x : Int) : wrap64 x ≤ 9223372036854775807 := by unfold wrap64; omega

/-- A known result, or none: of two operands (known or not) and the number that the document names. -/
def opK (ka kb : Bool) (x : Int) : Bool := ka && (kb && fitsB x)
def opN (ka kb : Bool) (x : Int) : Int := if ka = true ∧ kb = true then fitN x else 0
theorem opK_tt (x : Int) : opK true true x = fitsB x := rfl
theorem opN_tt (x : Int) : opN true true x = fitN x := by simp [opN]
theorem opK_f1 (kb : Bool) (x : Int) : opK false kb x = false := rfl
theorem opN_f1 (kb : Bool) (x : Int) : opN false kb x = 0 := by simp [opN]
theorem opK_f2 (ka : Bool) (x : Int) : opK ka false x = false := by cases ka <;> rfl
theorem opN_f2 (ka : Bool) (x : Int) : opN ka false x = 0 := by simp [opN]
theorem opK_no (ka kb : Bool) (x : Int) (h : (ka && kb) = false) : opK ka kb x = false := by cases ka <;> cases kb <;> simp_all [opK]
theorem opN_no (ka kb : Bool) (x : Int) (h : (ka && kb) = false) : opN ka kb x = 0 := by cases ka <;> cases kb <;> simp_all [opN]
theorem fitN_fits (x : Int) : fitsB (fitN x) = true := by
  unfold fitN; split
  · assumption
  · rfl
theorem opN_fits (ka kb : Bool) (x : Int) : fitsB (opN ka kb x) = true := by
  unfold opN; split
  · exact fitN_fits x
  · rfl

end Go.Proofs.YtjeffmfnaihhjaaDoor
