/- What num's product and Mul come to, of any two values, known or not. And what goes with it: 6 texts in one. -/
import Derived.Test.YtnolbpekdikamaaGreatDoorJa01
import Derived.Shelf.Bits.Mul64
import Derived.Deep.QuietTactic
import Derived.BigQuiet
namespace Go.Proofs.YtnolbpekdikamaaGreatDoor
open Go.RowKit
set_option linter.unusedVariables false

def mulHi (a b : Int) : Int := (loOf a * loOf b) / 18446744073709551616
theorem mulHi_nn (a b : Int) : 0 ≤ mulHi a b := by
  have h := Int.mul_nonneg (lo_nn a) (lo_nn b)
  unfold mulHi; omega
theorem mul_lo (a b : Int) : (loOf a * loOf b) % 18446744073709551616 = loOf (a * b) := by
  unfold loOf; rw [← Int.mul_emod]

theorem lo_pos (a : Int) (h : fitsB a = true) (g : 0 ≤ a) : loOf a = a := by rw [fits_iff] at h; unfold loOf; omega
theorem lo_neg (a : Int) (h : fitsB a = true) (g : a < 0) : loOf a = a + 18446744073709551616 := by rw [fits_iff] at h; unfold loOf; omega

theorem hi_pp (a b : Int) (ha : fitsB a = true) (hb : fitsB b = true) (ga : 0 ≤ a) (gb : 0 ≤ b) : mulHi a b = hiOf (a * b) := by
  have h0 : mulHi a b < 18446744073709551616 := by
    unfold mulHi
    have h1 := lo_lt a
    have h2 := lo_lt b
    have h3 : loOf a * loOf b ≤ 18446744073709551615 * 18446744073709551615 := Int.mul_le_mul (by omega) (by omega) (lo_nn b) (by omega)
    omega
  have h1 := mulHi_nn a b
  unfold mulHi at *
  rw [lo_pos a ha ga, lo_pos b hb gb] at *
  unfold hiOf
  omega
theorem hi_np (a b : Int) (ha : fitsB a = true) (hb : fitsB b = true) (ga : a < 0) (gb : 0 ≤ b) : IntKind.u64.wrap (mulHi a b - loOf b) = hiOf (a * b) := by
  rw [IntKind.wrap_u64]
  have e : a * b = loOf a * loOf b - 18446744073709551616 * loOf b := by
    rw [lo_neg a ha ga, lo_pos b hb gb, Int.add_mul]; omega
  rw [e]; unfold mulHi hiOf
  generalize loOf a * loOf b = p
  generalize loOf b = q
  omega
theorem hi_pn (a b : Int) (ha : fitsB a = true) (hb : fitsB b = true) (ga : 0 ≤ a) (gb : b < 0) : IntKind.u64.wrap (mulHi a b - loOf a) = hiOf (a * b) := by
  rw [IntKind.wrap_u64]
  have e : a * b = loOf a * loOf b - 18446744073709551616 * loOf a := by
    rw [lo_pos a ha ga, lo_neg b hb gb, Int.mul_add]; omega
  rw [e]; unfold mulHi hiOf
  generalize loOf a * loOf b = p
  generalize loOf a = q
  omega
theorem hi_nn2 (a b : Int) (ha : fitsB a = true) (hb : fitsB b = true) (ga : a < 0) (gb : b < 0) : IntKind.u64.wrap (IntKind.u64.wrap (mulHi a b - loOf b) - loOf a) = hiOf (a * b) := by
  rw [IntKind.wrap_u64, IntKind.wrap_u64]
  have e : a * b = loOf a * loOf b - 18446744073709551616 * (loOf a + loOf b) + 340282366920938463463374607431768211456 := by
    rw [lo_neg a ha ga, lo_neg b hb gb, Int.add_mul, Int.mul_add, Int.mul_add]; omega
  rw [e]; unfold mulHi hiOf
  generalize loOf a * loOf b = p
  generalize loOf a = q
  generalize loOf b = r
  omega
theorem mul_bound (a b : Int) (ha : fitsB a = true) (hb : fitsB b = true) : -170141183460469231731687303715884105728 ≤ a * b ∧ a * b < 170141183460469231731687303715884105728 := by
  rw [fits_iff] at ha hb
  have h : (a * b).natAbs ≤ 9223372036854775808 * 9223372036854775808 := by
    rw [Int.natAbs_mul]; exact Nat.mul_le_mul (by omega) (by omega)
  omega

set_option maxHeartbeats 1000000 in
theorem mul64_nat (x y : Nat) (hx : x < 18446744073709551616) (hy : y < 18446744073709551616) (w : World) :
    Calls Tryz.prog 95 #[.int .u64 x, .int .u64 y] w fun e w' => e = .returned (.tuple #[.int .u64 ((x * y / 18446744073709551616 : Nat) : Int), .int .u64 ((x * y % 18446744073709551616 : Nat) : Int)]) ∧ w = w' := by
  obtain ⟨bd, bt, bw, hhi⟩ := Lib.mul64_hi x y hx hy
  have ba := Lib.half_mul_le (a := x / 4294967296) (b := y / 4294967296) (by omega) (by omega)
  have bb := Lib.half_mul_le (a := x / 4294967296) (b := y % 4294967296) (by omega) (by omega)
  have bc := Lib.half_mul_le (a := x % 4294967296) (b := y / 4294967296) (by omega) (by omega)
  have ba' : x / 4294967296 * (y / 4294967296) < 18446744073709551616 := by omega
  have bb' : x / 4294967296 * (y % 4294967296) < 18446744073709551616 := by omega
  have bc' : x % 4294967296 * (y / 4294967296) < 18446744073709551616 := by omega
  have bh1 : x / 4294967296 * (y / 4294967296) + (x / 4294967296 * (y % 4294967296) + x % 4294967296 * (y % 4294967296) / 4294967296) / 4294967296 < 18446744073709551616 := by omega
  have bh : x / 4294967296 * (y / 4294967296) + (x / 4294967296 * (y % 4294967296) + x % 4294967296 * (y % 4294967296) / 4294967296) / 4294967296 + ((x / 4294967296 * (y % 4294967296) + x % 4294967296 * (y % 4294967296) / 4294967296) % 4294967296 + x % 4294967296 * (y / 4294967296)) / 4294967296 < 18446744073709551616 := by omega
  go_enter Tryz.func95, Tryz.ntmps95
  go_wp2
  simp only [Mul64.maskN x hx, Mul64.maskN y hy, Mul64.divN, Mul64.mulN, Mul64.addN, Mul64.wrapN _ bd, Mul64.wrapN _ bb', Mul64.wrapN _ bt, Mul64.maskN _ bt, Mul64.wrapN _ bc', Mul64.wrapN _ bw, Mul64.wrapN _ ba', Mul64.wrapN _ bh1, Mul64.wrapN _ bh, Mul64.wrapM (x * y)]
  rw [hhi]
  go_ret2
  exact ⟨rfl, rfl⟩

theorem mul64_any (a b : Int) (w : World) :
    Calls Tryz.prog 95 #[.int .u64 (loOf a), .int .u64 (loOf b)] w fun e w' => e = .returned (.tuple #[.int .u64 (mulHi a b), .int .u64 (loOf (a * b))]) ∧ w = w' := by
  obtain ⟨X, hX⟩ := Int.eq_ofNat_of_zero_le (lo_nn a)
  obtain ⟨Y, hY⟩ := Int.eq_ofNat_of_zero_le (lo_nn b)
  have h := mul64_nat X Y (by have := lo_lt a; omega) (by have := lo_lt b; omega) w
  have e1 : ((X * Y / 18446744073709551616 : Nat) : Int) = mulHi a b := by unfold mulHi; rw [hX, hY]; simp
  have e2 : ((X * Y % 18446744073709551616 : Nat) : Int) = loOf (a * b) := by rw [← mul_lo, hX, hY]; simp
  rw [e1, e2] at h
  rw [hX, hY]; exact h

set_option maxHeartbeats 1000000 in
theorem product_any (a b : Int) (w : World) (ha : fitsB a = true) (hb : fitsB b = true) :
    Calls Tryz.prog 83 #[.int .i64 a, .int .i64 b] w fun e w' => e = .returned (.agg #[.int .u64 (hiOf (a * b)), .int .u64 (loOf (a * b))]) ∧ Below w.heap.size w w' := by
  have e1 := lo_small a
  have e2 := lo_small b
  have ga : a < 0 ∨ 0 ≤ a := by omega
  have gb : b < 0 ∨ 0 ≤ b := by omega
  rcases ga with ga | ga <;> rcases gb with gb | gb
  · have f := hi_nn2 a b ha hb ga gb
    clear ha hb
    go_enter Tryz.func83, Tryz.ntmps83
    go_wp2_with (go_at_call 95; refine (mul64_any _ _ _).mono ?_; rintro e w0 ⟨rfl, rfl⟩)
    exact bodyPost_ret (v := .agg #[.int .u64 (hiOf (a * b)), .int .u64 (loOf (a * b))]) (by simp [results, Tryz.results83, go_sem]) rfl ⟨rfl, galloc (Below.refl _ _) _⟩
  · have f := hi_np a b ha hb ga gb
    clear ha hb
    go_enter Tryz.func83, Tryz.ntmps83
    go_wp2_with (go_at_call 95; refine (mul64_any _ _ _).mono ?_; rintro e w0 ⟨rfl, rfl⟩)
    exact bodyPost_ret (v := .agg #[.int .u64 (hiOf (a * b)), .int .u64 (loOf (a * b))]) (by simp [results, Tryz.results83, go_sem]) rfl ⟨rfl, galloc (Below.refl _ _) _⟩
  · have f := hi_pn a b ha hb ga gb
    clear ha hb
    go_enter Tryz.func83, Tryz.ntmps83
    go_wp2_with (go_at_call 95; refine (mul64_any _ _ _).mono ?_; rintro e w0 ⟨rfl, rfl⟩)
    exact bodyPost_ret (v := .agg #[.int .u64 (hiOf (a * b)), .int .u64 (loOf (a * b))]) (by simp [results, Tryz.results83, go_sem]) rfl ⟨rfl, galloc (Below.refl _ _) _⟩
  · have f := hi_pp a b ha hb ga gb
    clear ha hb
    go_enter Tryz.func83, Tryz.ntmps83
    go_wp2_with (go_at_call 95; refine (mul64_any _ _ _).mono ?_; rintro e w0 ⟨rfl, rfl⟩)
    exact bodyPost_ret (v := .agg #[.int .u64 (hiOf (a * b)), .int .u64 (loOf (a * b))]) (by simp [results, Tryz.results83, go_sem]) rfl ⟨rfl, galloc (Below.refl _ _) _⟩

set_option maxHeartbeats 1000000 in
theorem mul_yes (a b : Int) (w : World) (ha : fitsB a = true) (hb : fitsB b = true) :
    Calls Tryz.prog 57 #[.agg #[.bool true, .int .i64 a], .agg #[.bool true, .int .i64 b]] w fun e w' => e = .returned (.agg #[.bool (fitsB (a * b)), .int .i64 (fitN (a * b))]) ∧ Below w.heap.size w w' := by
  obtain ⟨m1, m2⟩ := mul_bound a b ha hb
  go_enter Tryz.func57, Tryz.ntmps57
  go_wp2_with (first
    | (go_at_call 77; refine (both_any _ _ _ _ _).mono ?_; rintro e w0 ⟨rfl, h0⟩; obtain ⟨hc0, hf0⟩ := bcell h0)
    | (go_at_call 83; refine (product_any _ _ _ ha hb).mono ?_; rintro e w1 ⟨rfl, h1⟩; replace h0 := gtrans h0 h1; obtain ⟨hc1, hf1⟩ := bcell h0)
    | (go_at_call 80; refine (narrow_any _ _ m1 m2).mono ?_; rintro e w1 ⟨rfl, h1⟩; replace h0 := gtrans h0 h1; obtain ⟨hc1, hf1⟩ := bcell h0))
  refine bodyPost_ret (v := .agg #[.bool (fitsB (a * b)), .int .i64 (fitN (a * b))]) (by simp [results, Tryz.results57, go_sem, hc1]) rfl ⟨rfl, ?_⟩
  exact gset (gset (gtrans (galloc (galloc (galloc (Below.refl _ _) _) _) _) h0) (by simp; omega) _) (by simp; omega) _

set_option maxHeartbeats 400000 in
theorem mul_no (ka kb : Bool) (a b : Int) (w : World) (h : (ka && kb) = false) :
    Calls Tryz.prog 57 #[.agg #[.bool ka, .int .i64 a], .agg #[.bool kb, .int .i64 b]] w fun e w' => e = .returned (.agg #[.bool false, .int .i64 0]) ∧ Below w.heap.size w w' := by
  go_enter Tryz.func57, Tryz.ntmps57
  go_wp2_with (go_at_call 77; refine (both_any _ _ _ _ _).mono ?_; rintro e w0 ⟨rfl, h0⟩; obtain ⟨hc0, hf0⟩ := bcell h0)
  refine bodyPost_ret (v := .agg #[.bool false, .int .i64 0]) (by simp [results, Tryz.results57, go_sem, hc0]) rfl ⟨rfl, ?_⟩
  exact gset (gset (gtrans (galloc (galloc (galloc (Below.refl _ _) _) _) _) h0) (by simp; omega) _) (by simp; omega) _

theorem mul_any (ka kb : Bool) (a b : Int) (w : World) (ha : fitsB a = true) (hb : fitsB b = true) :
    Calls Tryz.prog 57 #[.agg #[.bool ka, .int .i64 a], .agg #[.bool kb, .int .i64 b]] w fun e w' => e = .returned (.agg #[.bool (opK ka kb (a * b)), .int .i64 (opN ka kb (a * b))]) ∧ Below w.heap.size w w' := by
  cases h : (ka && kb)
  · have e1 : opK ka kb (a * b) = false := opK_no ka kb _ h
    have e2 : opN ka kb (a * b) = 0 := opN_no ka kb _ h
    rw [e1, e2]; exact mul_no ka kb a b w h
  · simp only [Bool.and_eq_true] at h
    obtain ⟨rfl, rfl⟩ := h
    rw [opK_tt, opN_tt]; exact mul_yes a b w ha hb

end Go.Proofs.YtnolbpekdikamaaGreatDoor
namespace Go.Proofs.YtnolbpekdikamaaGreatDoor
open Go.RowKit
set_option linter.unusedVariables false

def rHi (x : Int) : Int := x / 4294967296
def rLo (x : Int) : Int := x % 4294967296
theorem rLo_nn (x : Int) : 0 ≤ rLo x := by unfold rLo; omega
theorem rLo_lt (x : Int) : rLo x < 4294967296 := by unfold rLo; omega
theorem and_mask (n : Int) : bits .and .i64 n 4294967295 = rLo n := by
  have h127 : (BitVec.ofInt 64 4294967295).toNat = 2 ^ 32 - 1 := by decide
  have key : (BitVec.ofInt 64 n &&& BitVec.ofInt 64 4294967295).toNat = (n % ((2 ^ 64 : Nat) : Int)).toNat % 2 ^ 32 := by
    rw [BitVec.toNat_and, BitVec.toNat_ofInt, h127, Nat.and_two_pow_sub_one_eq_mod]
  show IntKind.i64.wrap ((BitVec.ofInt 64 n &&& BitVec.ofInt 64 4294967295).toNat : Nat) = rLo n
  rw [key, IntKind.wrap_i64]
  unfold rLo
  omega
theorem shr_hi (n : Int) : n / 4294967296 = rHi n := rfl

theorem rplus_hi1 (x y : Int) (h : 4294967296 ≤ rLo x + rLo y) : rHi x + rHi y + 1 = rHi (x + y) := by unfold rHi rLo at *; omega
theorem rplus_lo1 (x y : Int) (h : 4294967296 ≤ rLo x + rLo y) : rLo x + rLo y - 4294967296 = rLo (x + y) := by unfold rLo at *; omega
theorem rplus_hi2 (x y : Int) (h : ¬ 4294967296 ≤ rLo x + rLo y) : rHi x + rHi y = rHi (x + y) := by unfold rHi rLo at *; omega
theorem rplus_lo2 (x y : Int) (h : ¬ 4294967296 ≤ rLo x + rLo y) : rLo x + rLo y = rLo (x + y) := by unfold rLo at *; omega
theorem rminus_hi1 (x y : Int) (h : rLo x - rLo y < 0) : rHi x - rHi y - 1 = rHi (x - y) := by unfold rHi rLo at *; omega
theorem rminus_lo1 (x y : Int) (h : rLo x - rLo y < 0) : rLo x - rLo y + 4294967296 = rLo (x - y) := by unfold rLo at *; omega
theorem rminus_hi2 (x y : Int) (h : ¬ rLo x - rLo y < 0) : rHi x - rHi y = rHi (x - y) := by unfold rHi rLo at *; omega
theorem rminus_lo2 (x y : Int) (h : ¬ rLo x - rLo y < 0) : rLo x - rLo y = rLo (x - y) := by unfold rLo at *; omega
theorem fit_hi (x : Int) (h : fitsB x = true) : -2147483648 ≤ rHi x ∧ rHi x < 2147483648 ∧ rHi x * 4294967296 + rLo x = x := by
  rw [fits_iff] at h; unfold rHi rLo; omega
theorem fit_no (x : Int) (h : fitsB x = false) : rHi x < -2147483648 ∨ (-2147483648 ≤ rHi x ∧ 2147483648 ≤ rHi x) := by
  rw [fits_not] at h; unfold rHi; omega
end Go.Proofs.YtnolbpekdikamaaGreatDoor
namespace Go.Proofs.YtnolbpekdikamaaGreatDoor
open Go.RowKit
set_option linter.unusedVariables false

theorem wrap_split (x : Int) : ∃ k : Int, wrap64 x = x - k * 18446744073709551616 ∧ (fitsB x = false → k ≠ 0) := by
  refine ⟨(x + 9223372036854775808) / 18446744073709551616, by unfold wrap64; omega, fun h => ?_⟩
  rw [fits_not] at h; omega
theorem mul_back_no (a b : Int) (ha : fitsB a = true) (hb : fitsB b = true) (h0 : ¬ b = 0) (h : fitsB (a * b) = false) : ¬ (wrap64 (a * b)).tdiv b = a := by
  intro he
  obtain ⟨k, hk, hk0⟩ := wrap_split (a * b)
  have hk1 := hk0 h
  have h1 := Int.tmod_add_mul_tdiv (wrap64 (a * b)) b
  have h2 := Int.natAbs_tmod (wrap64 (a * b)) b
  have h3 : (wrap64 (a * b)).natAbs % b.natAbs < b.natAbs := Nat.mod_lt _ (by omega)
  rw [← h2] at h3
  rw [he, Int.mul_comm b a] at h1
  rw [fits_iff] at hb
  generalize (wrap64 (a * b)).tmod b = r at *
  generalize wrap64 (a * b) = p at *
  generalize a * b = m at *
  omega
theorem mul_back_yes (a b : Int) (h0 : ¬ b = 0) : (a * b).tdiv b = a := Int.mul_tdiv_cancel a h0

theorem wrapEq4 (x : Int) : IntKind.i64.wrap x = wrap64 x := by rw [IntKind.wrap_i64]; unfold wrap64; rfl

end Go.Proofs.YtnolbpekdikamaaGreatDoor
namespace Go.Proofs.YtnolbpekdikamaaGreatDoor
open Go.RowKit
set_option linter.unusedVariables false

/-- A local's cell, over calls that make memory alone, and a new local behind them. -/
theorem kold {W u : World} (G : Below W.heap.size W u) (o : Obj) {b i : Nat} {v : Value} (s : b < W.heap.size) (r : W.cell? ⟨b, i, none⟩ = some v) : (u.alloc o).cell? ⟨b, i, none⟩ = some v :=
  (World.cell?_alloc_past (w := u) o b i (Nat.lt_of_lt_of_le s G.size)).trans ((G.cell (p := ⟨b, i, none⟩) s).trans r)
theorem kkeep {W u : World} (G : Below W.heap.size W u) {b i : Nat} {v : Value} (s : b < W.heap.size) (r : W.cell? ⟨b, i, none⟩ = some v) : u.cell? ⟨b, i, none⟩ = some v := (G.cell (p := ⟨b, i, none⟩) s).trans r
theorem ksize {W u : World} (G : Below W.heap.size W u) (o : Obj) {b : Nat} (s : b < W.heap.size) : b < (u.alloc o).heap.size := by
  show b < (u.heap.push _).size
  simp; exact Nat.lt_succ_of_lt (Nat.lt_of_lt_of_le s G.size)
theorem knew (u : World) (c : Array Value) (t : TypeId) (i : Nat) (v : Value) (h : c[i]? = some v) : (u.alloc (.cells c t)).cell? ⟨u.heap.size, i, none⟩ = some v := by
  rw [World.cell?_alloc_new]; exact h
theorem ksnew (u : World) (o : Obj) : u.heap.size < (u.alloc o).heap.size := by
  show u.heap.size < (u.heap.push _).size
  simp
theorem bsize {W u : World} (G : Below W.heap.size W u) : ∀ b, b < W.heap.size → b < u.heap.size := fun _ h => Nat.lt_of_lt_of_le h G.size
theorem relA {W u : World} (G : Below W.heap.size W u) (k : Bool) (n : Int) (t : TypeId) : ∃ b, Value.pointer (some ⟨u.heap.size, 0, none⟩) = .pointer (some ⟨b, 0, none⟩) ∧ (u.alloc (.cells #[.bool k, .int .i64 n] t)).cell? ⟨b, 0, none⟩ = some (.bool k) ∧ (u.alloc (.cells #[.bool k, .int .i64 n] t)).cell? ⟨b, 1, none⟩ = some (.int .i64 n) ∧ b < (u.alloc (.cells #[.bool k, .int .i64 n] t)).heap.size ∧ Below W.heap.size W (u.alloc (.cells #[.bool k, .int .i64 n] t)) :=
  ⟨_, rfl, knew u _ t 0 _ rfl, knew u _ t 1 _ rfl, ksnew u _, G.alloc G.size _⟩
theorem relB {W u : World} {c : Nat} (G : Below W.heap.size W u) (k : Bool) (n : Int) (h0 : u.cell? ⟨c, 0, none⟩ = some (.bool false)) (h1 : u.cell? ⟨c, 1, none⟩ = some (.int .i64 0)) (hc : c < u.heap.size) (hW : W.heap.size ≤ c) :
    ∃ b, Value.pointer (some ⟨c, 0, none⟩) = .pointer (some ⟨b, 0, none⟩) ∧ ((u.setCell ⟨c, 0, none⟩ (.bool k)).setCell ⟨c, 1, none⟩ (.int .i64 n)).cell? ⟨b, 0, none⟩ = some (.bool k) ∧ ((u.setCell ⟨c, 0, none⟩ (.bool k)).setCell ⟨c, 1, none⟩ (.int .i64 n)).cell? ⟨b, 1, none⟩ = some (.int .i64 n) ∧ b < ((u.setCell ⟨c, 0, none⟩ (.bool k)).setCell ⟨c, 1, none⟩ (.int .i64 n)).heap.size ∧ Below W.heap.size W ((u.setCell ⟨c, 0, none⟩ (.bool k)).setCell ⟨c, 1, none⟩ (.int .i64 n)) := by
  refine ⟨_, rfl, ?_, ?_, ?_, (G.setCell hW _).setCell hW _⟩
  · simp [go_sem, h0]
  · simp [go_sem, h1]
  · simpa [World.setCell] using hc

end Go.Proofs.YtnolbpekdikamaaGreatDoor
namespace Go.Proofs.YtnolbpekdikamaaGreatDoor
open Go.RowKit
set_option linter.unusedVariables false

/-- 0 no, 1 unknown, 2 yes. -/
def rd (k : Bool) (a : Int) : Int := if k = true then (if a = 0 then 0 else 2) else 1
def vK (t : Int) : Bool := !(t == 1)
def vN (t : Int) : Int := if t = 2 then 1 else 0
def minI (a b : Int) : Int := if b < a then b else a
def maxI (a b : Int) : Int := if a < b then b else a
theorem rd_cases (k : Bool) (a : Int) : rd k a = 0 ∨ rd k a = 1 ∨ rd k a = 2 := by unfold rd; split <;> (try split) <;> simp
theorem rd_nn (k : Bool) (a : Int) : 0 ≤ rd k a := by have := rd_cases k a; omega
theorem rd_lt (k : Bool) (a : Int) : rd k a < 3 := by have := rd_cases k a; omega

/-- The tables lie in memory as the text lays them. -/
structure Tabs (w : World) : Prop where
  sz : 3 < w.heap.size
  andT : ∀ i j : Nat, i < 3 → j < 3 → w.cell? ⟨2, i * 3 + j, none⟩ = some (.int .i64 (minI i j))
  orT : ∀ i j : Nat, i < 3 → j < 3 → w.cell? ⟨3, i * 3 + j, none⟩ = some (.int .i64 (maxI i j))
structure TabN (w : World) : Prop where
  sz : 1 < w.heap.size
  notT : ∀ i : Nat, i < 3 → w.cell? ⟨1, i, none⟩ = some (.int .i64 (2 - i))
theorem Tabs.keep {w w' : World} (T : Tabs w) (b : Below w.heap.size w w') : Tabs w' :=
  ⟨Nat.lt_of_lt_of_le T.sz b.size, fun i j hi hj => kkeep b (Nat.lt_of_le_of_lt (by omega) T.sz) (T.andT i j hi hj), fun i j hi hj => kkeep b T.sz (T.orT i j hi hj)⟩
theorem TabN.keep {w w' : World} (T : TabN w) (b : Below w.heap.size w w') : TabN w' :=
  ⟨Nat.lt_of_lt_of_le T.sz b.size, fun i hi => kkeep b T.sz (T.notT i hi)⟩

set_option maxHeartbeats 400000 in
theorem truthOf_any (b : Bool) (w : World) :
    Calls Tryz.prog 81 #[.bool b] w fun e w' => e = .returned (.int .i64 (if b = true then 2 else 0)) ∧ w = w' := by
  cases b
  all_goals
    go_enter Tryz.func81, Tryz.ntmps81
    go_wp2
    go_ret
    exact ⟨rfl, rfl⟩

set_option maxHeartbeats 400000 in
theorem read_any (k : Bool) (a : Int) (w : World) :
    Calls Tryz.prog 54 #[.agg #[.bool k, .int .i64 a]] w fun e w' => e = .returned (.int .i64 (rd k a)) ∧ Below w.heap.size w w' := by
  cases k
  · go_enter Tryz.func54, Tryz.ntmps54
    go_wp2
    go_ret
    exact ⟨rfl, galloc (Below.refl _ _) _⟩
  · by_cases h : a = 0
    · subst h
      go_enter Tryz.func54, Tryz.ntmps54
      go_wp2_with (go_at_call 81; refine (truthOf_any _ _).mono ?_; rintro e w1 ⟨rfl, rfl⟩)
      go_ret
      exact ⟨rfl, galloc (Below.refl _ _) _⟩
    · have h' : (a != 0) = true := by simpa using h
      have e : rd true a = 2 := by simp [rd, h]
      rw [e]
      go_enter Tryz.func54, Tryz.ntmps54
      go_wp2_with (go_at_call 81; refine (truthOf_any _ _).mono ?_; rintro e w1 ⟨rfl, rfl⟩)
      go_ret
      exact ⟨rfl, galloc (Below.refl _ _) _⟩

set_option maxHeartbeats 400000 in
theorem val_any (t : Int) (w : World) (h : t = 0 ∨ t = 1 ∨ t = 2) :
    Calls Tryz.prog 55 #[.int .i64 t] w fun e w' => e = .returned (.agg #[.bool (vK t), .int .i64 (vN t)]) ∧ Below w.heap.size w w' := by
  rcases h with rfl | rfl | rfl
  · show Calls _ _ _ _ fun e w' => e = .returned (.agg #[.bool true, .int .i64 0]) ∧ _
    go_enter Tryz.func55, Tryz.ntmps55
    go_wp2_with (go_at_call 53; refine (known_any _ _).mono ?_; rintro e w0 ⟨rfl, g0⟩; obtain ⟨hc0, hf0⟩ := bcell g0)
    refine bodyPost_ret (v := .agg #[.bool true, .int .i64 0]) (by simp [results, Tryz.results55, go_sem, hc0]) rfl ⟨rfl, ?_⟩
    exact gset (gset (gtrans (galloc (Below.refl _ _) _) g0) (by simp) _) (by simp) _
  · show Calls _ _ _ _ fun e w' => e = .returned (.agg #[.bool false, .int .i64 0]) ∧ _
    go_enter Tryz.func55, Tryz.ntmps55
    go_wp2
    exact bodyPost_ret (v := .agg #[.bool false, .int .i64 0]) (by simp [results, Tryz.results55, go_sem]) rfl ⟨rfl, galloc (Below.refl _ _) _⟩
  · show Calls _ _ _ _ fun e w' => e = .returned (.agg #[.bool true, .int .i64 1]) ∧ _
    go_enter Tryz.func55, Tryz.ntmps55
    go_wp2_with (go_at_call 53; refine (known_any _ _).mono ?_; rintro e w0 ⟨rfl, g0⟩; obtain ⟨hc0, hf0⟩ := bcell g0)
    refine bodyPost_ret (v := .agg #[.bool true, .int .i64 1]) (by simp [results, Tryz.results55, go_sem, hc0]) rfl ⟨rfl, ?_⟩
    exact gset (gset (gtrans (galloc (Below.refl _ _) _) g0) (by simp) _) (by simp) _

set_option maxHeartbeats 400000 in
theorem true_any (k : Bool) (a : Int) (w : World) :
    Calls Tryz.prog 40 #[.agg #[.bool k, .int .i64 a]] w fun e w' => e = .returned (.bool (rd k a == 2)) ∧ Below w.heap.size w w' := by
  go_enter Tryz.func40, Tryz.ntmps40
  go_wp2_with (go_at_call 54; refine (read_any _ _ _).mono ?_; rintro e w0 ⟨rfl, g0⟩)
  go_ret
  exact ⟨rfl, gtrans (galloc (Below.refl _ _) _) g0⟩

set_option maxHeartbeats 1000000 in
theorem not_any (k : Bool) (a : Int) (w : World) (T : TabN w) :
    Calls Tryz.prog 32 #[.agg #[.bool k, .int .i64 a]] w fun e w' => e = .returned (.agg #[.bool (vK (2 - rd k a)), .int .i64 (vN (2 - rd k a))]) ∧ Below w.heap.size w w' := by
  obtain ⟨g, hg, hg3⟩ : ∃ g : Nat, rd k a = g ∧ g < 3 := ⟨(rd k a).toNat, by have := rd_nn k a; omega, by have := rd_lt k a; omega⟩
  have hr := read_any k a
  rw [hg] at hr ⊢
  have hv := fun w => val_any (2 - g) w (by omega)
  have hi : (g : Int) < 3 := by omega
  have T1 := T.notT g hg3
  have hz : 1 < w.heap.size := T.sz
  have hz1 : 1 < w.heap.size + 1 := by omega
  have hz2 : 1 < w.heap.size + 1 + 1 := by omega
  go_enter Tryz.func32, Tryz.ntmps32
  go_wp2_with (first
    | (go_at_call 54; refine (hr _).mono ?_; rintro e w0 ⟨rfl, g0⟩; obtain ⟨hc0, hf0⟩ := bcell g0)
    | (go_at_call 55; refine (hv _).mono ?_; rintro e w1 ⟨rfl, g1⟩; replace g0 := gtrans g0 g1; obtain ⟨hc1, hf1⟩ := bcell g0))
  refine bodyPost_ret (v := .agg #[.bool (vK (2 - g)), .int .i64 (vN (2 - g))]) (by simp [results, Tryz.results32, go_sem, hc1]) rfl ⟨rfl, ?_⟩
  exact gset (gset (gtrans (galloc (galloc (Below.refl _ _) _) _) g0) (by simp) _) (by simp) _

theorem minI_cases (i j : Nat) (hi : i < 3) (hj : j < 3) : minI i j = 0 ∨ minI i j = 1 ∨ minI i j = 2 := by unfold minI; split <;> omega
set_option maxHeartbeats 2000000 in
theorem and_any (ka kb : Bool) (a b : Int) (w : World) (T : Tabs w) :
    Calls Tryz.prog 60 #[.agg #[.bool ka, .int .i64 a], .agg #[.bool kb, .int .i64 b]] w fun e w' => e = .returned (.agg #[.bool (vK (minI (rd ka a) (rd kb b))), .int .i64 (vN (minI (rd ka a) (rd kb b)))]) ∧ Below w.heap.size w w' := by
  obtain ⟨i, hi, hi3⟩ : ∃ i : Nat, rd ka a = i ∧ i < 3 := ⟨(rd ka a).toNat, by have := rd_nn ka a; omega, by have := rd_lt ka a; omega⟩
  obtain ⟨j, hj, hj3⟩ : ∃ j : Nat, rd kb b = j ∧ j < 3 := ⟨(rd kb b).toNat, by have := rd_nn kb b; omega, by have := rd_lt kb b; omega⟩
  have hra := read_any ka a
  have hrb := read_any kb b
  rw [hi] at hra ⊢
  rw [hj] at hrb ⊢
  have hv := fun w => val_any (minI i j) w (minI_cases i j hi3 hj3)
  have hi' : (i : Int) < 3 := by omega
  have hj' : (j : Int) < 3 := by omega
  have c30 : Tryz.prog.cellsOf 120 = 3 := by kernel_rfl
  have c29 : Tryz.prog.cellsOf 119 = 1 := by kernel_rfl
  clear hi hj
  have T1 := T.andT i j hi3 hj3
  have hz : 2 < w.heap.size := Nat.lt_of_le_of_lt (by omega) T.sz
  have hz1 : 2 < w.heap.size + 1 := by omega
  have hz2 : 2 < w.heap.size + 1 + 1 := by omega
  have hz3 : 2 < w.heap.size + 1 + 1 + 1 := by omega
  have hz4 : 2 < w.heap.size + 2 := by omega
  have hz5 : 2 < w.heap.size + 3 := by omega
  go_enter Tryz.func60, Tryz.ntmps60
  go_wp2
  have B := (galloc (galloc (galloc (Below.refl w.heap.size w) (.cells #[.bool ka, .int .i64 a] 51)) (.cells #[.bool kb, .int .i64 b] 51)) (.cells #[.bool false, .int .i64 0] 51)).drew
  have g0 := (Below.refl (((w.alloc (.cells #[.bool ka, .int .i64 a] 51)).alloc (.cells #[.bool kb, .int .i64 b] 51)).alloc (.cells #[.bool false, .int .i64 0] 51)).heap.size (((w.alloc (.cells #[.bool ka, .int .i64 a] 51)).alloc (.cells #[.bool kb, .int .i64 b] 51)).alloc (.cells #[.bool false, .int .i64 0] 51))).drew
  go_region_with (first
    | (go_at_call_of 54 (Value.int IntKind.i64 a); refine (hra _).mono ?_; rintro e w1 ⟨rfl, g1⟩; replace g0 := gtrans g0 g1; replace B := gtrans B g1; obtain ⟨hc1, hf1⟩ := bcell g0)
    | (go_at_call_of 54 (Value.int IntKind.i64 b); refine (hrb _).mono ?_; rintro e w1 ⟨rfl, g1⟩; replace g0 := gtrans g0 g1; replace B := gtrans B g1; obtain ⟨hc1, hf1⟩ := bcell g0)
    | (go_at_call 55; refine (hv _).mono ?_; rintro e w1 ⟨rfl, g1⟩; replace g0 := gtrans g0 g1; replace B := gtrans B g1; obtain ⟨hc1, hf1⟩ := bcell g0))
  all_goals
    obtain ⟨hc, hf⟩ := bcell g0
    go_wp2
    refine bodyPost_ret (v := .agg #[.bool (vK (minI i j)), .int .i64 (vN (minI i j))]) (by simp [results, Tryz.results60, go_sem, hc]) rfl ⟨rfl, ?_⟩
    exact gset (gset B (by simp; omega) _) (by simp; omega) _

theorem maxI_cases (i j : Nat) (hi : i < 3) (hj : j < 3) : maxI i j = 0 ∨ maxI i j = 1 ∨ maxI i j = 2 := by unfold maxI; split <;> omega
set_option maxHeartbeats 2000000 in
theorem or_any (ka kb : Bool) (a b : Int) (w : World) (T : Tabs w) :
    Calls Tryz.prog 61 #[.agg #[.bool ka, .int .i64 a], .agg #[.bool kb, .int .i64 b]] w fun e w' => e = .returned (.agg #[.bool (vK (maxI (rd ka a) (rd kb b))), .int .i64 (vN (maxI (rd ka a) (rd kb b)))]) ∧ Below w.heap.size w w' := by
  obtain ⟨i, hi, hi3⟩ : ∃ i : Nat, rd ka a = i ∧ i < 3 := ⟨(rd ka a).toNat, by have := rd_nn ka a; omega, by have := rd_lt ka a; omega⟩
  obtain ⟨j, hj, hj3⟩ : ∃ j : Nat, rd kb b = j ∧ j < 3 := ⟨(rd kb b).toNat, by have := rd_nn kb b; omega, by have := rd_lt kb b; omega⟩
  have hra := read_any ka a
  have hrb := read_any kb b
  rw [hi] at hra ⊢
  rw [hj] at hrb ⊢
  have hv := fun w => val_any (maxI i j) w (maxI_cases i j hi3 hj3)
  have hi' : (i : Int) < 3 := by omega
  have hj' : (j : Int) < 3 := by omega
  have c30 : Tryz.prog.cellsOf 120 = 3 := by kernel_rfl
  have c29 : Tryz.prog.cellsOf 119 = 1 := by kernel_rfl
  clear hi hj
  have T1 := T.orT i j hi3 hj3
  have hz : 3 < w.heap.size := Nat.lt_of_le_of_lt (by omega) T.sz
  have hz1 : 3 < w.heap.size + 1 := by omega
  have hz2 : 3 < w.heap.size + 1 + 1 := by omega
  have hz3 : 3 < w.heap.size + 1 + 1 + 1 := by omega
  have hz4 : 3 < w.heap.size + 2 := by omega
  have hz5 : 3 < w.heap.size + 3 := by omega
  go_enter Tryz.func61, Tryz.ntmps61
  go_wp2
  have B := (galloc (galloc (galloc (Below.refl w.heap.size w) (.cells #[.bool ka, .int .i64 a] 51)) (.cells #[.bool kb, .int .i64 b] 51)) (.cells #[.bool false, .int .i64 0] 51)).drew
  have g0 := (Below.refl (((w.alloc (.cells #[.bool ka, .int .i64 a] 51)).alloc (.cells #[.bool kb, .int .i64 b] 51)).alloc (.cells #[.bool false, .int .i64 0] 51)).heap.size (((w.alloc (.cells #[.bool ka, .int .i64 a] 51)).alloc (.cells #[.bool kb, .int .i64 b] 51)).alloc (.cells #[.bool false, .int .i64 0] 51))).drew
  go_region_with (first
    | (go_at_call_of 54 (Value.int IntKind.i64 a); refine (hra _).mono ?_; rintro e w1 ⟨rfl, g1⟩; replace g0 := gtrans g0 g1; replace B := gtrans B g1; obtain ⟨hc1, hf1⟩ := bcell g0)
    | (go_at_call_of 54 (Value.int IntKind.i64 b); refine (hrb _).mono ?_; rintro e w1 ⟨rfl, g1⟩; replace g0 := gtrans g0 g1; replace B := gtrans B g1; obtain ⟨hc1, hf1⟩ := bcell g0)
    | (go_at_call 55; refine (hv _).mono ?_; rintro e w1 ⟨rfl, g1⟩; replace g0 := gtrans g0 g1; replace B := gtrans B g1; obtain ⟨hc1, hf1⟩ := bcell g0))
  all_goals
    obtain ⟨hc, hf⟩ := bcell g0
    go_wp2
    refine bodyPost_ret (v := .agg #[.bool (vK (maxI i j)), .int .i64 (vN (maxI i j))]) (by simp [results, Tryz.results61, go_sem, hc]) rfl ⟨rfl, ?_⟩
    exact gset (gset B (by simp; omega) _) (by simp; omega) _

end Go.Proofs.YtnolbpekdikamaaGreatDoor
namespace Go.Proofs.YtnolbpekdikamaaGreatDoor
open Go.RowKit
set_option linter.unusedVariables false

def gradeOf (b : Bool) : Int := if b = true then 2 else 0
def bitOf (b : Bool) : Int := if b = true then 1 else 0
theorem truthOf_grade (b : Bool) (w : World) :
    Calls Tryz.prog 81 #[.bool b] w fun e w' => e = .returned (.int .i64 (gradeOf b)) ∧ w = w' := truthOf_any b w
theorem val_bit (b : Bool) (w : World) :
    Calls Tryz.prog 55 #[.int .i64 (gradeOf b)] w fun e w' => e = .returned (.agg #[.bool true, .int .i64 (bitOf b)]) ∧ Below w.heap.size w w' := by
  cases b
  · exact val_any 0 w (by omega)
  · exact val_any 2 w (by omega)

set_option maxHeartbeats 400000 in
theorem cmp19 (a b : Int) (w : World) : Calls Tryz.prog 62 #[.int .i64 19, .agg #[.bool true, .int .i64 a], .agg #[.bool true, .int .i64 b]] w fun e w' => e = .returned (.agg #[.bool true, .int .i64 (bitOf (a == b))]) ∧ Below w.heap.size w w' := by
  go_enter Tryz.func62, Tryz.ntmps62
  go_wp2_with (first | (go_at_call 77; refine (both_any _ _ _ _ _).mono ?_; rintro e w0 ⟨rfl, g0⟩; obtain ⟨hc0, hf0⟩ := bcell g0) | (go_at_call 81; refine (truthOf_grade _ _).mono ?_; rintro e w1 ⟨rfl, rfl⟩) | (go_at_call 55; refine (val_bit _ _).mono ?_; rintro e w1 ⟨rfl, g1⟩; replace g0 := gtrans g0 g1; obtain ⟨hc1, hf1⟩ := bcell g0))
  refine bodyPost_ret (v := .agg #[.bool true, .int .i64 (bitOf (a == b))]) (by simp [results, Tryz.results62, go_sem, hc1]) rfl ⟨rfl, ?_⟩
  exact gset (gset (gtrans (galloc (galloc (galloc (Below.refl _ _) _) _) _) g0) (by simp; omega) _) (by simp; omega) _

set_option maxHeartbeats 400000 in
theorem cmp20 (a b : Int) (w : World) : Calls Tryz.prog 62 #[.int .i64 20, .agg #[.bool true, .int .i64 a], .agg #[.bool true, .int .i64 b]] w fun e w' => e = .returned (.agg #[.bool true, .int .i64 (bitOf (a != b))]) ∧ Below w.heap.size w w' := by
  go_enter Tryz.func62, Tryz.ntmps62
  go_wp2_with (first | (go_at_call 77; refine (both_any _ _ _ _ _).mono ?_; rintro e w0 ⟨rfl, g0⟩; obtain ⟨hc0, hf0⟩ := bcell g0) | (go_at_call 81; refine (truthOf_grade _ _).mono ?_; rintro e w1 ⟨rfl, rfl⟩) | (go_at_call 55; refine (val_bit _ _).mono ?_; rintro e w1 ⟨rfl, g1⟩; replace g0 := gtrans g0 g1; obtain ⟨hc1, hf1⟩ := bcell g0))
  refine bodyPost_ret (v := .agg #[.bool true, .int .i64 (bitOf (a != b))]) (by simp [results, Tryz.results62, go_sem, hc1]) rfl ⟨rfl, ?_⟩
  exact gset (gset (gtrans (galloc (galloc (galloc (Below.refl _ _) _) _) _) g0) (by simp; omega) _) (by simp; omega) _

set_option maxHeartbeats 400000 in
theorem cmp21 (a b : Int) (w : World) : Calls Tryz.prog 62 #[.int .i64 21, .agg #[.bool true, .int .i64 a], .agg #[.bool true, .int .i64 b]] w fun e w' => e = .returned (.agg #[.bool true, .int .i64 (bitOf (decide (a < b)))]) ∧ Below w.heap.size w w' := by
  go_enter Tryz.func62, Tryz.ntmps62
  go_wp2_with (first | (go_at_call 77; refine (both_any _ _ _ _ _).mono ?_; rintro e w0 ⟨rfl, g0⟩; obtain ⟨hc0, hf0⟩ := bcell g0) | (go_at_call 81; refine (truthOf_grade _ _).mono ?_; rintro e w1 ⟨rfl, rfl⟩) | (go_at_call 55; refine (val_bit _ _).mono ?_; rintro e w1 ⟨rfl, g1⟩; replace g0 := gtrans g0 g1; obtain ⟨hc1, hf1⟩ := bcell g0))
  refine bodyPost_ret (v := .agg #[.bool true, .int .i64 (bitOf (decide (a < b)))]) (by simp [results, Tryz.results62, go_sem, hc1]) rfl ⟨rfl, ?_⟩
  exact gset (gset (gtrans (galloc (galloc (galloc (Below.refl _ _) _) _) _) g0) (by simp; omega) _) (by simp; omega) _

set_option maxHeartbeats 400000 in
theorem cmp22 (a b : Int) (w : World) : Calls Tryz.prog 62 #[.int .i64 22, .agg #[.bool true, .int .i64 a], .agg #[.bool true, .int .i64 b]] w fun e w' => e = .returned (.agg #[.bool true, .int .i64 (bitOf (decide (a ≤ b)))]) ∧ Below w.heap.size w w' := by
  go_enter Tryz.func62, Tryz.ntmps62
  go_wp2_with (first | (go_at_call 77; refine (both_any _ _ _ _ _).mono ?_; rintro e w0 ⟨rfl, g0⟩; obtain ⟨hc0, hf0⟩ := bcell g0) | (go_at_call 81; refine (truthOf_grade _ _).mono ?_; rintro e w1 ⟨rfl, rfl⟩) | (go_at_call 55; refine (val_bit _ _).mono ?_; rintro e w1 ⟨rfl, g1⟩; replace g0 := gtrans g0 g1; obtain ⟨hc1, hf1⟩ := bcell g0))
  refine bodyPost_ret (v := .agg #[.bool true, .int .i64 (bitOf (decide (a ≤ b)))]) (by simp [results, Tryz.results62, go_sem, hc1]) rfl ⟨rfl, ?_⟩
  exact gset (gset (gtrans (galloc (galloc (galloc (Below.refl _ _) _) _) _) g0) (by simp; omega) _) (by simp; omega) _

set_option maxHeartbeats 400000 in
theorem cmp23 (a b : Int) (w : World) : Calls Tryz.prog 62 #[.int .i64 23, .agg #[.bool true, .int .i64 a], .agg #[.bool true, .int .i64 b]] w fun e w' => e = .returned (.agg #[.bool true, .int .i64 (bitOf (decide (b < a)))]) ∧ Below w.heap.size w w' := by
  go_enter Tryz.func62, Tryz.ntmps62
  go_wp2_with (first | (go_at_call 77; refine (both_any _ _ _ _ _).mono ?_; rintro e w0 ⟨rfl, g0⟩; obtain ⟨hc0, hf0⟩ := bcell g0) | (go_at_call 81; refine (truthOf_grade _ _).mono ?_; rintro e w1 ⟨rfl, rfl⟩) | (go_at_call 55; refine (val_bit _ _).mono ?_; rintro e w1 ⟨rfl, g1⟩; replace g0 := gtrans g0 g1; obtain ⟨hc1, hf1⟩ := bcell g0))
  refine bodyPost_ret (v := .agg #[.bool true, .int .i64 (bitOf (decide (b < a)))]) (by simp [results, Tryz.results62, go_sem, hc1]) rfl ⟨rfl, ?_⟩
  exact gset (gset (gtrans (galloc (galloc (galloc (Below.refl _ _) _) _) _) g0) (by simp; omega) _) (by simp; omega) _

set_option maxHeartbeats 400000 in
theorem cmp24 (a b : Int) (w : World) : Calls Tryz.prog 62 #[.int .i64 24, .agg #[.bool true, .int .i64 a], .agg #[.bool true, .int .i64 b]] w fun e w' => e = .returned (.agg #[.bool true, .int .i64 (bitOf (decide (b ≤ a)))]) ∧ Below w.heap.size w w' := by
  go_enter Tryz.func62, Tryz.ntmps62
  go_wp2_with (first | (go_at_call 77; refine (both_any _ _ _ _ _).mono ?_; rintro e w0 ⟨rfl, g0⟩; obtain ⟨hc0, hf0⟩ := bcell g0) | (go_at_call 81; refine (truthOf_grade _ _).mono ?_; rintro e w1 ⟨rfl, rfl⟩) | (go_at_call 55; refine (val_bit _ _).mono ?_; rintro e w1 ⟨rfl, g1⟩; replace g0 := gtrans g0 g1; obtain ⟨hc1, hf1⟩ := bcell g0))
  refine bodyPost_ret (v := .agg #[.bool true, .int .i64 (bitOf (decide (b ≤ a)))]) (by simp [results, Tryz.results62, go_sem, hc1]) rfl ⟨rfl, ?_⟩
  exact gset (gset (gtrans (galloc (galloc (galloc (Below.refl _ _) _) _) _) g0) (by simp; omega) _) (by simp; omega) _

set_option maxHeartbeats 400000 in
theorem cmp_else (op a b : Int) (w : World) (h19 : (op == 19) = false) (h20 : (op == 20) = false) (h21 : (op == 21) = false) (h22 : (op == 22) = false) (h23 : (op == 23) = false) (h24 : (op == 24) = false) : Calls Tryz.prog 62 #[.int .i64 op, .agg #[.bool true, .int .i64 a], .agg #[.bool true, .int .i64 b]] w fun e w' => e = .returned (.agg #[.bool false, .int .i64 0]) ∧ Below w.heap.size w w' := by
  go_enter Tryz.func62, Tryz.ntmps62
  go_wp2_with (first | (go_at_call 77; refine (both_any _ _ _ _ _).mono ?_; rintro e w0 ⟨rfl, g0⟩; obtain ⟨hc0, hf0⟩ := bcell g0) | (go_at_call 81; refine (truthOf_grade _ _).mono ?_; rintro e w1 ⟨rfl, rfl⟩) | (go_at_call 55; refine (val_bit _ _).mono ?_; rintro e w1 ⟨rfl, g1⟩; replace g0 := gtrans g0 g1; obtain ⟨hc1, hf1⟩ := bcell g0))
  refine bodyPost_ret (v := .agg #[.bool false, .int .i64 0]) (by simp [results, Tryz.results62, go_sem, hc0]) rfl ⟨rfl, ?_⟩
  exact gset (gset (gtrans (galloc (galloc (galloc (Below.refl _ _) _) _) _) g0) (by simp; omega) _) (by simp; omega) _

set_option maxHeartbeats 400000 in
theorem cmp_no (op : Int) (ka kb : Bool) (a b : Int) (w : World) (h : (ka && kb) = false) : Calls Tryz.prog 62 #[.int .i64 op, .agg #[.bool ka, .int .i64 a], .agg #[.bool kb, .int .i64 b]] w fun e w' => e = .returned (.agg #[.bool false, .int .i64 0]) ∧ Below w.heap.size w w' := by
  go_enter Tryz.func62, Tryz.ntmps62
  go_wp2_with (go_at_call 77; refine (both_any _ _ _ _ _).mono ?_; rintro e w0 ⟨rfl, g0⟩; obtain ⟨hc0, hf0⟩ := bcell g0)
  refine bodyPost_ret (v := .agg #[.bool false, .int .i64 0]) (by simp [results, Tryz.results62, go_sem, hc0]) rfl ⟨rfl, ?_⟩
  exact gset (gset (gtrans (galloc (galloc (galloc (Below.refl _ _) _) _) _) g0) (by simp; omega) _) (by simp; omega) _

set_option maxHeartbeats 400000 in
theorem apply14 {ka kb k : Bool} {a b n : Int} (c : ∀ w, Calls Tryz.prog 56 #[.agg #[.bool ka, .int .i64 a], .agg #[.bool kb, .int .i64 b]] w (fun e w' => e = .returned (.agg #[.bool k, .int .i64 n]) ∧ Below w.heap.size w w')) (w : World) : Calls Tryz.prog 34 #[.int .i64 14, .agg #[.bool ka, .int .i64 a], .agg #[.bool kb, .int .i64 b]] w fun e w' => e = .returned (.agg #[.bool k, .int .i64 n]) ∧ Below w.heap.size w w' := by
  go_enter Tryz.func34, Tryz.ntmps34
  go_wp2_with (go_at_call 56; refine (c _).mono ?_; rintro e w0 ⟨rfl, g0⟩; obtain ⟨hc0, hf0⟩ := bcell g0)
  refine bodyPost_ret (v := .agg #[.bool k, .int .i64 n]) (by simp [results, Tryz.results34, go_sem, hc0]) rfl ⟨rfl, ?_⟩
  exact gset (gset (gtrans (galloc (galloc (galloc (Below.refl _ _) _) _) _) g0) (by simp; omega) _) (by simp; omega) _

set_option maxHeartbeats 400000 in
theorem apply15 {ka kb k : Bool} {a b n : Int} (c : ∀ w, Calls Tryz.prog 52 #[.agg #[.bool ka, .int .i64 a], .agg #[.bool kb, .int .i64 b]] w (fun e w' => e = .returned (.agg #[.bool k, .int .i64 n]) ∧ Below w.heap.size w w')) (w : World) : Calls Tryz.prog 34 #[.int .i64 15, .agg #[.bool ka, .int .i64 a], .agg #[.bool kb, .int .i64 b]] w fun e w' => e = .returned (.agg #[.bool k, .int .i64 n]) ∧ Below w.heap.size w w' := by
  go_enter Tryz.func34, Tryz.ntmps34
  go_wp2_with (go_at_call 52; refine (c _).mono ?_; rintro e w0 ⟨rfl, g0⟩; obtain ⟨hc0, hf0⟩ := bcell g0)
  refine bodyPost_ret (v := .agg #[.bool k, .int .i64 n]) (by simp [results, Tryz.results34, go_sem, hc0]) rfl ⟨rfl, ?_⟩
  exact gset (gset (gtrans (galloc (galloc (galloc (Below.refl _ _) _) _) _) g0) (by simp; omega) _) (by simp; omega) _

set_option maxHeartbeats 400000 in
theorem apply16 {ka kb k : Bool} {a b n : Int} (c : ∀ w, Calls Tryz.prog 57 #[.agg #[.bool ka, .int .i64 a], .agg #[.bool kb, .int .i64 b]] w (fun e w' => e = .returned (.agg #[.bool k, .int .i64 n]) ∧ Below w.heap.size w w')) (w : World) : Calls Tryz.prog 34 #[.int .i64 16, .agg #[.bool ka, .int .i64 a], .agg #[.bool kb, .int .i64 b]] w fun e w' => e = .returned (.agg #[.bool k, .int .i64 n]) ∧ Below w.heap.size w w' := by
  go_enter Tryz.func34, Tryz.ntmps34
  go_wp2_with (go_at_call 57; refine (c _).mono ?_; rintro e w0 ⟨rfl, g0⟩; obtain ⟨hc0, hf0⟩ := bcell g0)
  refine bodyPost_ret (v := .agg #[.bool k, .int .i64 n]) (by simp [results, Tryz.results34, go_sem, hc0]) rfl ⟨rfl, ?_⟩
  exact gset (gset (gtrans (galloc (galloc (galloc (Below.refl _ _) _) _) _) g0) (by simp; omega) _) (by simp; omega) _

set_option maxHeartbeats 400000 in
theorem apply17 {ka kb k : Bool} {a b n : Int} (c : ∀ w, Calls Tryz.prog 58 #[.agg #[.bool ka, .int .i64 a], .agg #[.bool kb, .int .i64 b]] w (fun e w' => e = .returned (.agg #[.bool k, .int .i64 n]) ∧ Below w.heap.size w w')) (w : World) : Calls Tryz.prog 34 #[.int .i64 17, .agg #[.bool ka, .int .i64 a], .agg #[.bool kb, .int .i64 b]] w fun e w' => e = .returned (.agg #[.bool k, .int .i64 n]) ∧ Below w.heap.size w w' := by
  go_enter Tryz.func34, Tryz.ntmps34
  go_wp2_with (go_at_call 58; refine (c _).mono ?_; rintro e w0 ⟨rfl, g0⟩; obtain ⟨hc0, hf0⟩ := bcell g0)
  refine bodyPost_ret (v := .agg #[.bool k, .int .i64 n]) (by simp [results, Tryz.results34, go_sem, hc0]) rfl ⟨rfl, ?_⟩
  exact gset (gset (gtrans (galloc (galloc (galloc (Below.refl _ _) _) _) _) g0) (by simp; omega) _) (by simp; omega) _

set_option maxHeartbeats 400000 in
theorem apply18 {ka kb k : Bool} {a b n : Int} (c : ∀ w, Calls Tryz.prog 59 #[.agg #[.bool ka, .int .i64 a], .agg #[.bool kb, .int .i64 b]] w (fun e w' => e = .returned (.agg #[.bool k, .int .i64 n]) ∧ Below w.heap.size w w')) (w : World) : Calls Tryz.prog 34 #[.int .i64 18, .agg #[.bool ka, .int .i64 a], .agg #[.bool kb, .int .i64 b]] w fun e w' => e = .returned (.agg #[.bool k, .int .i64 n]) ∧ Below w.heap.size w w' := by
  go_enter Tryz.func34, Tryz.ntmps34
  go_wp2_with (go_at_call 59; refine (c _).mono ?_; rintro e w0 ⟨rfl, g0⟩; obtain ⟨hc0, hf0⟩ := bcell g0)
  refine bodyPost_ret (v := .agg #[.bool k, .int .i64 n]) (by simp [results, Tryz.results34, go_sem, hc0]) rfl ⟨rfl, ?_⟩
  exact gset (gset (gtrans (galloc (galloc (galloc (Below.refl _ _) _) _) _) g0) (by simp; omega) _) (by simp; omega) _

set_option maxHeartbeats 400000 in
theorem apply25 {ka kb k : Bool} {a b n : Int} (c : ∀ w, Tabs w → Calls Tryz.prog 60 #[.agg #[.bool ka, .int .i64 a], .agg #[.bool kb, .int .i64 b]] w (fun e w' => e = .returned (.agg #[.bool k, .int .i64 n]) ∧ Below w.heap.size w w')) (w : World) (T : Tabs w) : Calls Tryz.prog 34 #[.int .i64 25, .agg #[.bool ka, .int .i64 a], .agg #[.bool kb, .int .i64 b]] w fun e w' => e = .returned (.agg #[.bool k, .int .i64 n]) ∧ Below w.heap.size w w' := by
  go_enter Tryz.func34, Tryz.ntmps34
  go_wp2_with (go_at_call 60; refine (c _ (T.keep (galloc (galloc (galloc (Below.refl _ _) _) _) _))).mono ?_; rintro e w0 ⟨rfl, g0⟩; obtain ⟨hc0, hf0⟩ := bcell g0)
  refine bodyPost_ret (v := .agg #[.bool k, .int .i64 n]) (by simp [results, Tryz.results34, go_sem, hc0]) rfl ⟨rfl, ?_⟩
  exact gset (gset (gtrans (galloc (galloc (galloc (Below.refl _ _) _) _) _) g0) (by simp; omega) _) (by simp; omega) _

set_option maxHeartbeats 400000 in
theorem apply26 {ka kb k : Bool} {a b n : Int} (c : ∀ w, Tabs w → Calls Tryz.prog 61 #[.agg #[.bool ka, .int .i64 a], .agg #[.bool kb, .int .i64 b]] w (fun e w' => e = .returned (.agg #[.bool k, .int .i64 n]) ∧ Below w.heap.size w w')) (w : World) (T : Tabs w) : Calls Tryz.prog 34 #[.int .i64 26, .agg #[.bool ka, .int .i64 a], .agg #[.bool kb, .int .i64 b]] w fun e w' => e = .returned (.agg #[.bool k, .int .i64 n]) ∧ Below w.heap.size w w' := by
  go_enter Tryz.func34, Tryz.ntmps34
  go_wp2_with (go_at_call 61; refine (c _ (T.keep (galloc (galloc (galloc (Below.refl _ _) _) _) _))).mono ?_; rintro e w0 ⟨rfl, g0⟩; obtain ⟨hc0, hf0⟩ := bcell g0)
  refine bodyPost_ret (v := .agg #[.bool k, .int .i64 n]) (by simp [results, Tryz.results34, go_sem, hc0]) rfl ⟨rfl, ?_⟩
  exact gset (gset (gtrans (galloc (galloc (galloc (Below.refl _ _) _) _) _) g0) (by simp; omega) _) (by simp; omega) _

set_option maxHeartbeats 400000 in
theorem apply_else {op : Int} {ka kb k : Bool} {a b n : Int} (c : ∀ w, Calls Tryz.prog 62 #[.int .i64 op, .agg #[.bool ka, .int .i64 a], .agg #[.bool kb, .int .i64 b]] w (fun e w' => e = .returned (.agg #[.bool k, .int .i64 n]) ∧ Below w.heap.size w w')) (h14 : (op == 14) = false) (h15 : (op == 15) = false) (h16 : (op == 16) = false) (h17 : (op == 17) = false) (h18 : (op == 18) = false) (h25 : (op == 25) = false) (h26 : (op == 26) = false) (w : World) : Calls Tryz.prog 34 #[.int .i64 op, .agg #[.bool ka, .int .i64 a], .agg #[.bool kb, .int .i64 b]] w fun e w' => e = .returned (.agg #[.bool k, .int .i64 n]) ∧ Below w.heap.size w w' := by
  go_enter Tryz.func34, Tryz.ntmps34
  go_wp2_with (go_at_call 62; refine (c _).mono ?_; rintro e w0 ⟨rfl, g0⟩; obtain ⟨hc0, hf0⟩ := bcell g0)
  refine bodyPost_ret (v := .agg #[.bool k, .int .i64 n]) (by simp [results, Tryz.results34, go_sem, hc0]) rfl ⟨rfl, ?_⟩
  exact gset (gset (gtrans (galloc (galloc (galloc (Below.refl _ _) _) _) _) g0) (by simp; omega) _) (by simp; omega) _

end Go.Proofs.YtnolbpekdikamaaGreatDoor
