/- What the document's own widen, plus and fit come to, over sums of long lists. -/
import Derived.Test.YtjeffmfnaihhjaaDoorRef0
import Derived.Deep.QuietTactic
import Derived.BigQuiet
namespace Go.Proofs.YtjeffmfnaihhjaaDoor.rf
open Go.RowKit
set_option linter.unusedVariables false

def rHi (x : Int) : Int := x / 4294967296
def rLo (x : Int) : Int := x % 4294967296
theorem rLo_nn (x : Int) : 0 ≤ rLo x := by unfold rLo; omega
theorem rLo_lt (x : Int) : rLo x < 4294967296 := by unfold rLo; omega
theorem and_mask (n : Int) : bits .and .i64 n 4294967295 = rLo n := by
  have h127 : (BitVec.ofInt 64 4294967295).toNat = 2 ^ 32 - 1 := by decide
  have key : (BitVec.ofInt 64 n &&& BitVec.ofInt 64 4294967295).toNat = (n % ((2 ^ 64 : Nat) : Int)).toNat % 2 ^ 32 := by
    rw [BitVec.toNat_and, BitVec.toNat_ofInt, h127, Nat.and_two_pow_sub_one_eq_mod]
  show IntKind.i64.wrap ((BitVec.ofInt 64 n &&& BitVec.ofInt 64 4294967295).toNat : Nat) = rLo n
  rw [key, IntKind.wrap_i64]
  unfold rLo
  omega
theorem shr_hi (n : Int) : n / 4294967296 = rHi n := rfl

set_option maxHeartbeats 400000 in
theorem refWiden_any (n : Int) (w : World) (hn : fitsB n = true) :
    Calls Tryd.prog 82 #[.int .i64 n] w fun e w' => e = .returned (.agg #[.int .i64 (rHi n), .int .i64 (rLo n)]) ∧ Below w.heap.size w w' := by
  have e1 := and_mask n
  have e2 := shr_hi n
  have hN := (fits_iff n).1 hn
  go_enter Tryd.func82, Tryd.ntmps82
  go_wp2
  exact bodyPost_ret (v := .agg #[.int .i64 (rHi n), .int .i64 (rLo n)]) (by simp [results, Tryd.results82, go_sem]) rfl ⟨rfl, galloc (Below.refl _ _) _⟩

theorem rplus_hi1 (x y : Int) (h : 4294967296 ≤ rLo x + rLo y) : rHi x + rHi y + 1 = rHi (x + y) := by unfold rHi rLo at *; omega
theorem rplus_lo1 (x y : Int) (h : 4294967296 ≤ rLo x + rLo y) : rLo x + rLo y - 4294967296 = rLo (x + y) := by unfold rLo at *; omega
theorem rplus_hi2 (x y : Int) (h : ¬ 4294967296 ≤ rLo x + rLo y) : rHi x + rHi y = rHi (x + y) := by unfold rHi rLo at *; omega
theorem rplus_lo2 (x y : Int) (h : ¬ 4294967296 ≤ rLo x + rLo y) : rLo x + rLo y = rLo (x + y) := by unfold rLo at *; omega
set_option maxHeartbeats 1000000 in
theorem refplus_any (x y : Int) (w : World) (h1 : -9223372036854775807 ≤ rHi x + rHi y) (h2 : rHi x + rHi y ≤ 9223372036854775806) :
    Calls Tryd.prog 81 #[.agg #[.int .i64 (rHi x), .int .i64 (rLo x)], .agg #[.int .i64 (rHi y), .int .i64 (rLo y)]] w fun e w' => e = .returned (.agg #[.int .i64 (rHi (x + y)), .int .i64 (rLo (x + y))]) ∧ Below w.heap.size w w' := by
  have l1 := rLo_nn x
  have l2 := rLo_lt x
  have l3 := rLo_nn y
  have l4 := rLo_lt y
  by_cases h : 4294967296 ≤ rLo x + rLo y
  · have f1 := rplus_hi1 x y h
    have f2 := rplus_lo1 x y h
    rw [← f1, ← f2]
    clear f1 f2
    go_enter Tryd.func81, Tryd.ntmps81
    go_wp2
    exact bodyPost_ret (v := .agg #[.int .i64 (rHi x + rHi y + 1), .int .i64 (rLo x + rLo y - 4294967296)]) (by simp [results, Tryd.results81, go_sem]) rfl ⟨rfl, galloc (galloc (galloc (Below.refl _ _) _) _) _⟩
  · have f1 := rplus_hi2 x y h
    have f2 := rplus_lo2 x y h
    rw [← f1, ← f2]
    clear f1 f2
    go_enter Tryd.func81, Tryd.ntmps81
    go_wp2
    exact bodyPost_ret (v := .agg #[.int .i64 (rHi x + rHi y), .int .i64 (rLo x + rLo y)]) (by simp [results, Tryd.results81, go_sem]) rfl ⟨rfl, galloc (galloc (galloc (Below.refl _ _) _) _) _⟩

theorem fit_hi (x : Int) (h : fitsB x = true) : -2147483648 ≤ rHi x ∧ rHi x < 2147483648 ∧ rHi x * 4294967296 + rLo x = x := by
  rw [fits_iff] at h; unfold rHi rLo; omega
theorem fit_no (x : Int) (h : fitsB x = false) : rHi x < -2147483648 ∨ (-2147483648 ≤ rHi x ∧ 2147483648 ≤ rHi x) := by
  rw [fits_not] at h; unfold rHi; omega
set_option maxHeartbeats 1000000 in
theorem refFit_any (x : Int) (w : World) :
    Calls Tryd.prog 80 #[.agg #[.int .i64 (rHi x), .int .i64 (rLo x)]] w fun e w' => e = .returned (.agg #[.bool (fitsB x), .int .i64 (fitN x)]) ∧ Below w.heap.size w w' := by
  cases h : fitsB x
  · rw [fitN_no x h]
    have hh := fit_no x h
    clear h
    rcases hh with hh | hh
    all_goals
      go_enter Tryd.func80, Tryd.ntmps80
      go_wp2_with (go_at_call 28; refine (refNothing_any _).mono ?_; rintro e w0 ⟨rfl, g0⟩; obtain ⟨hc0, hf0⟩ := bcell g0)
      refine bodyPost_ret (v := .agg #[.bool false, .int .i64 0]) (by simp [results, Tryd.results80, go_sem, hc0]) rfl ⟨rfl, ?_⟩
      exact gset (gset (gtrans (galloc (galloc (Below.refl _ _) _) _) g0) (by simp) _) (by simp) _
  · rw [fitN_yes x h]
    obtain ⟨h1, h2, h3⟩ := fit_hi x h
    have h4 := (fits_iff x).1 h
    have l1 := rLo_nn x
    have l2 := rLo_lt x
    have e1 : wrap64 (rHi x * 4294967296) = rHi x * 4294967296 := by unfold wrap64; omega
    have e2 : wrap64 x = x := by unfold wrap64; omega
    have h3' : Hid (rHi x * 4294967296 + rLo x = x) := h3
    clear h
    go_enter Tryd.func80, Tryd.ntmps80
    go_wp2_with (go_at_call 61; refine (refNumber_any _ _).mono ?_; rintro e w0 ⟨rfl, g0⟩; obtain ⟨hc0, hf0⟩ := bcell g0)
    refine bodyPost_ret (v := .agg #[.bool true, .int .i64 x]) (by simp [results, Tryd.results80, go_sem, hc0]) rfl ⟨rfl, ?_⟩
    exact gset (gset (gtrans (galloc (galloc (Below.refl _ _) _) _) g0) (by simp) _) (by simp) _

end Go.Proofs.YtjeffmfnaihhjaaDoor.rf
