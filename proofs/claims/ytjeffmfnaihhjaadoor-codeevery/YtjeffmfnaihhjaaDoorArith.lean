/- What the calls of package num's own helpers (widen, plus, minus, narrow, known, both) come to, whatever the world; of a world nothing old turns. -/
import Derived.Test.YtjeffmfnaihhjaaDoorBase
import Derived.Shelf.Spec.BitsCarry
namespace Go.Proofs.YtjeffmfnaihhjaaDoor
open Go.RowKit
set_option linter.unusedVariables false

theorem add64_lo (x y : Int) (w : World) :
    (callFunc 77 #[.int .u64 (loOf x), .int .u64 (loOf y), .int .u64 0]).run Tryd.prog w = .ok (.value (.tuple #[.int .u64 (loOf (x + y)), .int .u64 (carry x y)])) w := by
  rw [run_callFunc_extern Tryd.func77 (by kernel_rfl) (by kernel_rfl) (by kernel_rfl) (e := add64Entry) (by kernel_rfl), run_add64 _ _ _ (lo_nn x) (lo_nn y) (by omega) (by omega), add_lo, add_ca]
  rfl

theorem add64_hi (x y : Int) (w : World) :
    (callFunc 77 #[.int .u64 (hiOf x), .int .u64 (hiOf y), .int .u64 (carry x y)]).run Tryd.prog w = .ok (.value (.tuple #[.int .u64 (hiOf (x + y)), .int .u64 ((hiOf x + hiOf y + carry x y) / 18446744073709551616)])) w := by
  rw [run_callFunc_extern Tryd.func77 (by kernel_rfl) (by kernel_rfl) (by kernel_rfl) (e := add64Entry) (by kernel_rfl), run_add64 _ _ _ (hi_nn x) (hi_nn y) (carry_nn x y) (carry_le x y), add_hi]
  rfl

theorem sub64_lo (x y : Int) (w : World) :
    (callFunc 76 #[.int .u64 (loOf x), .int .u64 (loOf y), .int .u64 0]).run Tryd.prog w = .ok (.value (.tuple #[.int .u64 (loOf (x - y)), .int .u64 (borrow x y)])) w := by
  rw [run_callFunc_extern Tryd.func76 (by kernel_rfl) (by kernel_rfl) (by kernel_rfl) (e := sub64Entry) (by kernel_rfl)]
  obtain ⟨X, hX⟩ := Int.eq_ofNat_of_zero_le (lo_nn x)
  obtain ⟨Y, hY⟩ := Int.eq_ofNat_of_zero_le (lo_nn y)
  have h0 := run_sub64 (P := Tryd.prog) X Y 0 (by omega) w
  have e0 : ((0 : Nat) : Int) = 0 := rfl
  rw [sub_lo x y X Y hX hY, sub_bo x y X Y hX hY, e0] at h0
  rw [hX, hY, h0]
  rfl

theorem sub64_hi (x y : Int) : ∃ j, ∀ w,
    (callFunc 76 #[.int .u64 (hiOf x), .int .u64 (hiOf y), .int .u64 (borrow x y)]).run Tryd.prog w = .ok (.value (.tuple #[.int .u64 (hiOf (x - y)), .int .u64 j])) w := by
  obtain ⟨X, hX⟩ := Int.eq_ofNat_of_zero_le (hi_nn x)
  obtain ⟨Y, hY⟩ := Int.eq_ofNat_of_zero_le (hi_nn y)
  obtain ⟨B, hB⟩ := Int.eq_ofNat_of_zero_le (borrow_nn x y)
  refine ⟨((if X < Y + B then 1 else 0 : Nat) : Int), fun w => ?_⟩
  rw [run_callFunc_extern Tryd.func76 (by kernel_rfl) (by kernel_rfl) (by kernel_rfl) (e := sub64Entry) (by kernel_rfl)]
  have h0 := run_sub64 (P := Tryd.prog) X Y B (by have := borrow_le x y; omega) w
  rw [sub_hi x y X Y B hX hY hB] at h0
  rw [hX, hY, hB, h0]
  rfl

set_option maxHeartbeats 400000 in
theorem both_any (ka kb : Bool) (a b : Int) (w : World) :
    Calls Tryd.prog 54 #[.agg #[.bool ka, .int .i64 a], .agg #[.bool kb, .int .i64 b]] w fun e w' => e = .returned (.bool (ka && kb)) ∧ Below w.heap.size w w' := by
  cases ka
  all_goals
    go_enter Tryd.func54, Tryd.ntmps54
    go_wp2
    go_ret
    exact ⟨rfl, ((Below.refl _ _).alloc (Nat.le_refl _) _).alloc (by simp) _⟩

set_option maxHeartbeats 400000 in
theorem widen_any (n : Int) (w : World) (h1 : -9223372036854775808 ≤ n) (h2 : n ≤ 9223372036854775807) :
    Calls Tryd.prog 55 #[.int .i64 n] w fun e w' => e = .returned (.agg #[.int .u64 (hiOf n), .int .u64 (loOf n)]) ∧ Below w.heap.size w w' := by
  have e1 := hi_small n h1 h2
  have e2 := lo_small n
  go_enter Tryd.func55, Tryd.ntmps55
  go_wp2
  refine bodyPost_ret (v := .agg #[.int .u64 (hiOf n), .int .u64 (loOf n)]) (by simp [results, Tryd.results55, go_sem]) rfl ⟨rfl, (Below.refl _ _).alloc (Nat.le_refl _) _⟩

set_option maxHeartbeats 400000 in
theorem plus_any (x y : Int) (w : World) :
    Calls Tryd.prog 59 #[.agg #[.int .u64 (hiOf x), .int .u64 (loOf x)], .agg #[.int .u64 (hiOf y), .int .u64 (loOf y)]] w fun e w' => e = .returned (.agg #[.int .u64 (hiOf (x + y)), .int .u64 (loOf (x + y))]) ∧ Below w.heap.size w w' := by
  have e1 := add64_lo x y
  have e2 := add64_hi x y
  go_enter Tryd.func59, Tryd.ntmps59
  go_wp2
  exact bodyPost_ret (v := .agg #[.int .u64 (hiOf (x + y)), .int .u64 (loOf (x + y))]) (by simp [results, Tryd.results59, go_sem]) rfl ⟨rfl, (((Below.refl _ _).alloc (Nat.le_refl _) _).alloc (by simp) _).alloc (by simp; omega) _⟩

set_option maxHeartbeats 400000 in
theorem minus_any (x y : Int) (w : World) :
    Calls Tryd.prog 56 #[.agg #[.int .u64 (hiOf x), .int .u64 (loOf x)], .agg #[.int .u64 (hiOf y), .int .u64 (loOf y)]] w fun e w' => e = .returned (.agg #[.int .u64 (hiOf (x - y)), .int .u64 (loOf (x - y))]) ∧ Below w.heap.size w w' := by
  have e1 := sub64_lo x y
  obtain ⟨j, e2⟩ := sub64_hi x y
  go_enter Tryd.func56, Tryd.ntmps56
  go_wp2
  exact bodyPost_ret (v := .agg #[.int .u64 (hiOf (x - y)), .int .u64 (loOf (x - y))]) (by simp [results, Tryd.results56, go_sem]) rfl ⟨rfl, (((Below.refl _ _).alloc (Nat.le_refl _) _).alloc (by simp) _).alloc (by simp; omega) _⟩

set_option maxHeartbeats 400000 in
theorem narrow_yes (x : Int) (w : World) (h : fitsB x = true) :
    Calls Tryd.prog 57 #[.agg #[.int .u64 (hiOf x), .int .u64 (loOf x)]] w fun e w' => e = .returned (.agg #[.bool true, .int .i64 x]) ∧ Below w.heap.size w w' := by
  have hx := (fits_iff x).1 h
  have e1 := lo_back x h
  go_enter Tryd.func57, Tryd.ntmps57
  go_wp2
  go_region_with (go_at_call 55; refine (widen_any _ _ hx.1 hx.2).mono ?_; rintro e w1 ⟨rfl, hb⟩; obtain ⟨hc, hf⟩ := bcell hb)
  all_goals
    obtain ⟨hc, hf⟩ := bcell hb
    have hz : w.heap.size + 1 < w1.heap.size := by have := hb.size; simp at this; omega
    go_wp2_with (go_at_call 36; refine (known_any _ _).mono ?_; rintro e w2 ⟨rfl, hb2⟩; obtain ⟨hc2, hf2⟩ := bcell hb2; have hz2 := hb2.size)
    refine bodyPost_ret (v := .agg #[.bool true, .int .i64 x]) (by simp [results, Tryd.results57, go_sem, hc, hc2, hz]) rfl ⟨rfl, ?_⟩
    exact ((((((Below.refl _ _).alloc (Nat.le_refl _) _).alloc (by simp) _).drew.trans (hb.mono (by simp; omega))).trans (hb2.mono (by omega))).setCell (by simp) _).setCell (by simp) _

set_option maxHeartbeats 400000 in
theorem narrow_no (x : Int) (w : World) (h : fitsB x = false) (h1 : -170141183460469231731687303715884105728 ≤ x) (h2 : x < 170141183460469231731687303715884105728) :
    Calls Tryd.prog 57 #[.agg #[.int .u64 (hiOf x), .int .u64 (loOf x)]] w fun e w' => e = .returned (.agg #[.bool false, .int .i64 0]) ∧ Below w.heap.size w w' := by
  have e1 := wrap_ge (loOf x)
  have e2 := wrap_le (loOf x)
  have e3 := wrap_lo_hi x h h1 h2
  go_enter Tryd.func57, Tryd.ntmps57
  go_wp2
  go_region_with (go_at_call 55; refine (widen_any _ _ e1 e2).mono ?_; rintro e w1 ⟨rfl, hb⟩; obtain ⟨hc, hf⟩ := bcell hb)
  all_goals
    obtain ⟨hc, hf⟩ := bcell hb
    have hz : w.heap.size + 1 < w1.heap.size := by have := hb.size; simp at this; omega
    go_wp2_with (go_at_call 36; refine (known_any _ _).mono ?_; rintro e w2 ⟨rfl, hb2⟩; obtain ⟨hc2, hf2⟩ := bcell hb2; have hz2 := hb2.size)
    refine bodyPost_ret (v := .agg #[.bool false, .int .i64 0]) (by simp [results, Tryd.results57, go_sem, hc]) rfl ⟨rfl, ?_⟩
    exact (((((Below.refl _ _).alloc (Nat.le_refl _) _).alloc (by simp) _).drew.trans (hb.mono (by simp; omega))).setCell (by simp) _).setCell (by simp) _

theorem narrow_any (x : Int) (w : World) (h1 : -170141183460469231731687303715884105728 ≤ x) (h2 : x < 170141183460469231731687303715884105728) :
    Calls Tryd.prog 57 #[.agg #[.int .u64 (hiOf x), .int .u64 (loOf x)]] w fun e w' => e = .returned (.agg #[.bool (fitsB x), .int .i64 (fitN x)]) ∧ Below w.heap.size w w' := by
  cases h : fitsB x
  · rw [fitN_no x h]; exact narrow_no x w h h1 h2
  · rw [fitN_yes x h]; exact narrow_yes x w h

end Go.Proofs.YtjeffmfnaihhjaaDoor
