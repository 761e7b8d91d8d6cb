/- What num's read, val, And, Or, Not, True come to, where the package's tables hold what their text lays. -/
import Derived.Test.YtjeffmfnaihhjaaDoorKeep
import Derived.Test.YtjeffmfnaihhjaaDoorBase
namespace Go.Proofs.YtjeffmfnaihhjaaDoor
open Go.RowKit
set_option linter.unusedVariables false

/-- 0 no, 1 unknown, 2 yes. -/
def rd (k : Bool) (a : Int) : Int := if k = true then (if a = 0 then 0 else 2) else 1
def vK (t : Int) : Bool := !(t == 1)
def vN (t : Int) : Int := if t = 2 then 1 else 0
def minI (a b : Int) : Int := if b < a then b else a
def maxI (a b : Int) : Int := if a < b then b else a
theorem rd_cases (k : Bool) (a : Int) : rd k a = 0 ∨ rd k a = 1 ∨ rd k a = 2 := by unfold rd; split <;> (try split) <;> simp
theorem rd_nn (k : Bool) (a : Int) : 0 ≤ rd k a := by have := rd_cases k a; omega
theorem rd_lt (k : Bool) (a : Int) : rd k a < 3 := by have := rd_cases k a; omega

/-- The tables lie in memory as the text lays them. -/
structure Tabs (w : World) : Prop where
  sz : 3 < w.heap.size
  andT : ∀ i j : Nat, i < 3 → j < 3 → w.cell? ⟨2, i * 3 + j, none⟩ = some (.int .i64 (minI i j))
  orT : ∀ i j : Nat, i < 3 → j < 3 → w.cell? ⟨3, i * 3 + j, none⟩ = some (.int .i64 (maxI i j))
structure TabN (w : World) : Prop where
  sz : 1 < w.heap.size
  notT : ∀ i : Nat, i < 3 → w.cell? ⟨1, i, none⟩ = some (.int .i64 (2 - i))
theorem Tabs.keep {w w' : World} (T : Tabs w) (b : Below w.heap.size w w') : Tabs w' :=
  ⟨Nat.lt_of_lt_of_le T.sz b.size, fun i j hi hj => kkeep b (Nat.lt_of_le_of_lt (by omega) T.sz) (T.andT i j hi hj), fun i j hi hj => kkeep b T.sz (T.orT i j hi hj)⟩
theorem TabN.keep {w w' : World} (T : TabN w) (b : Below w.heap.size w w') : TabN w' :=
  ⟨Nat.lt_of_lt_of_le T.sz b.size, fun i hi => kkeep b T.sz (T.notT i hi)⟩

set_option maxHeartbeats 400000 in
theorem truthOf_any (b : Bool) (w : World) :
    Calls Tryd.prog 58 #[.bool b] w fun e w' => e = .returned (.int .i64 (if b = true then 2 else 0)) ∧ w = w' := by
  cases b
  all_goals
    go_enter Tryd.func58, Tryd.ntmps58
    go_wp2
    go_ret
    exact ⟨rfl, rfl⟩

set_option maxHeartbeats 400000 in
theorem read_any (k : Bool) (a : Int) (w : World) :
    Calls Tryd.prog 37 #[.agg #[.bool k, .int .i64 a]] w fun e w' => e = .returned (.int .i64 (rd k a)) ∧ Below w.heap.size w w' := by
  cases k
  · go_enter Tryd.func37, Tryd.ntmps37
    go_wp2
    go_ret
    exact ⟨rfl, galloc (Below.refl _ _) _⟩
  · by_cases h : a = 0
    · subst h
      go_enter Tryd.func37, Tryd.ntmps37
      go_wp2_with (go_at_call 58; refine (truthOf_any _ _).mono ?_; rintro e w1 ⟨rfl, rfl⟩)
      go_ret
      exact ⟨rfl, galloc (Below.refl _ _) _⟩
    · have h' : (a != 0) = true := by simpa using h
      have e : rd true a = 2 := by simp [rd, h]
      rw [e]
      go_enter Tryd.func37, Tryd.ntmps37
      go_wp2_with (go_at_call 58; refine (truthOf_any _ _).mono ?_; rintro e w1 ⟨rfl, rfl⟩)
      go_ret
      exact ⟨rfl, galloc (Below.refl _ _) _⟩

set_option maxHeartbeats 400000 in
theorem val_any (t : Int) (w : World) (h : t = 0 ∨ t = 1 ∨ t = 2) :
    Calls Tryd.prog 38 #[.int .i64 t] w fun e w' => e = .returned (.agg #[.bool (vK t), .int .i64 (vN t)]) ∧ Below w.heap.size w w' := by
  rcases h with rfl | rfl | rfl
  · show Calls _ _ _ _ fun e w' => e = .returned (.agg #[.bool true, .int .i64 0]) ∧ _
    go_enter Tryd.func38, Tryd.ntmps38
    go_wp2_with (go_at_call 36; refine (known_any _ _).mono ?_; rintro e w0 ⟨rfl, g0⟩; obtain ⟨hc0, hf0⟩ := bcell g0)
    refine bodyPost_ret (v := .agg #[.bool true, .int .i64 0]) (by simp [results, Tryd.results38, go_sem, hc0]) rfl ⟨rfl, ?_⟩
    exact gset (gset (gtrans (galloc (Below.refl _ _) _) g0) (by simp) _) (by simp) _
  · show Calls _ _ _ _ fun e w' => e = .returned (.agg #[.bool false, .int .i64 0]) ∧ _
    go_enter Tryd.func38, Tryd.ntmps38
    go_wp2
    exact bodyPost_ret (v := .agg #[.bool false, .int .i64 0]) (by simp [results, Tryd.results38, go_sem]) rfl ⟨rfl, galloc (Below.refl _ _) _⟩
  · show Calls _ _ _ _ fun e w' => e = .returned (.agg #[.bool true, .int .i64 1]) ∧ _
    go_enter Tryd.func38, Tryd.ntmps38
    go_wp2_with (go_at_call 36; refine (known_any _ _).mono ?_; rintro e w0 ⟨rfl, g0⟩; obtain ⟨hc0, hf0⟩ := bcell g0)
    refine bodyPost_ret (v := .agg #[.bool true, .int .i64 1]) (by simp [results, Tryd.results38, go_sem, hc0]) rfl ⟨rfl, ?_⟩
    exact gset (gset (gtrans (galloc (Below.refl _ _) _) g0) (by simp) _) (by simp) _

set_option maxHeartbeats 400000 in
theorem true_any (k : Bool) (a : Int) (w : World) :
    Calls Tryd.prog 29 #[.agg #[.bool k, .int .i64 a]] w fun e w' => e = .returned (.bool (rd k a == 2)) ∧ Below w.heap.size w w' := by
  go_enter Tryd.func29, Tryd.ntmps29
  go_wp2_with (go_at_call 37; refine (read_any _ _ _).mono ?_; rintro e w0 ⟨rfl, g0⟩)
  go_ret
  exact ⟨rfl, gtrans (galloc (Below.refl _ _) _) g0⟩

set_option maxHeartbeats 1000000 in
theorem not_any (k : Bool) (a : Int) (w : World) (T : TabN w) :
    Calls Tryd.prog 24 #[.agg #[.bool k, .int .i64 a]] w fun e w' => e = .returned (.agg #[.bool (vK (2 - rd k a)), .int .i64 (vN (2 - rd k a))]) ∧ Below w.heap.size w w' := by
  obtain ⟨g, hg, hg3⟩ : ∃ g : Nat, rd k a = g ∧ g < 3 := ⟨(rd k a).toNat, by have := rd_nn k a; omega, by have := rd_lt k a; omega⟩
  have hr := read_any k a
  rw [hg] at hr ⊢
  have hv := fun w => val_any (2 - g) w (by omega)
  have hi : (g : Int) < 3 := by omega
  have T1 := T.notT g hg3
  have hz : 1 < w.heap.size := T.sz
  have hz1 : 1 < w.heap.size + 1 := by omega
  have hz2 : 1 < w.heap.size + 1 + 1 := by omega
  go_enter Tryd.func24, Tryd.ntmps24
  go_wp2_with (first
    | (go_at_call 37; refine (hr _).mono ?_; rintro e w0 ⟨rfl, g0⟩; obtain ⟨hc0, hf0⟩ := bcell g0)
    | (go_at_call 38; refine (hv _).mono ?_; rintro e w1 ⟨rfl, g1⟩; replace g0 := gtrans g0 g1; obtain ⟨hc1, hf1⟩ := bcell g0))
  refine bodyPost_ret (v := .agg #[.bool (vK (2 - g)), .int .i64 (vN (2 - g))]) (by simp [results, Tryd.results24, go_sem, hc1]) rfl ⟨rfl, ?_⟩
  exact gset (gset (gtrans (galloc (galloc (Below.refl _ _) _) _) g0) (by simp) _) (by simp) _

theorem minI_cases (i j : Nat) (hi : i < 3) (hj : j < 3) : minI i j = 0 ∨ minI i j = 1 ∨ minI i j = 2 := by unfold minI; split <;> omega
set_option maxHeartbeats 2000000 in
theorem and_any (ka kb : Bool) (a b : Int) (w : World) (T : Tabs w) :
    Calls Tryd.prog 43 #[.agg #[.bool ka, .int .i64 a], .agg #[.bool kb, .int .i64 b]] w fun e w' => e = .returned (.agg #[.bool (vK (minI (rd ka a) (rd kb b))), .int .i64 (vN (minI (rd ka a) (rd kb b)))]) ∧ Below w.heap.size w w' := by
  obtain ⟨i, hi, hi3⟩ : ∃ i : Nat, rd ka a = i ∧ i < 3 := ⟨(rd ka a).toNat, by have := rd_nn ka a; omega, by have := rd_lt ka a; omega⟩
  obtain ⟨j, hj, hj3⟩ : ∃ j : Nat, rd kb b = j ∧ j < 3 := ⟨(rd kb b).toNat, by have := rd_nn kb b; omega, by have := rd_lt kb b; omega⟩
  have hra := read_any ka a
  have hrb := read_any kb b
  rw [hi] at hra ⊢
  rw [hj] at hrb ⊢
  have hv := fun w => val_any (minI i j) w (minI_cases i j hi3 hj3)
  have hi' : (i : Int) < 3 := by omega
  have hj' : (j : Int) < 3 := by omega
  have c30 : Tryd.prog.cellsOf 77 = 3 := by kernel_rfl
  have c29 : Tryd.prog.cellsOf 76 = 1 := by kernel_rfl
  clear hi hj
  have T1 := T.andT i j hi3 hj3
  have hz : 2 < w.heap.size := Nat.lt_of_le_of_lt (by omega) T.sz
  have hz1 : 2 < w.heap.size + 1 := by omega
  have hz2 : 2 < w.heap.size + 1 + 1 := by omega
  have hz3 : 2 < w.heap.size + 1 + 1 + 1 := by omega
  have hz4 : 2 < w.heap.size + 2 := by omega
  have hz5 : 2 < w.heap.size + 3 := by omega
  go_enter Tryd.func43, Tryd.ntmps43
  go_wp2
  have B := (galloc (galloc (galloc (Below.refl w.heap.size w) (.cells #[.bool ka, .int .i64 a] 33)) (.cells #[.bool kb, .int .i64 b] 33)) (.cells #[.bool false, .int .i64 0] 33)).drew
  have g0 := (Below.refl (((w.alloc (.cells #[.bool ka, .int .i64 a] 33)).alloc (.cells #[.bool kb, .int .i64 b] 33)).alloc (.cells #[.bool false, .int .i64 0] 33)).heap.size (((w.alloc (.cells #[.bool ka, .int .i64 a] 33)).alloc (.cells #[.bool kb, .int .i64 b] 33)).alloc (.cells #[.bool false, .int .i64 0] 33))).drew
  go_region_with (first
    | (go_at_call_of 37 (Value.int IntKind.i64 a); refine (hra _).mono ?_; rintro e w1 ⟨rfl, g1⟩; replace g0 := gtrans g0 g1; replace B := gtrans B g1; obtain ⟨hc1, hf1⟩ := bcell g0)
    | (go_at_call_of 37 (Value.int IntKind.i64 b); refine (hrb _).mono ?_; rintro e w1 ⟨rfl, g1⟩; replace g0 := gtrans g0 g1; replace B := gtrans B g1; obtain ⟨hc1, hf1⟩ := bcell g0)
    | (go_at_call 38; refine (hv _).mono ?_; rintro e w1 ⟨rfl, g1⟩; replace g0 := gtrans g0 g1; replace B := gtrans B g1; obtain ⟨hc1, hf1⟩ := bcell g0))
  all_goals
    obtain ⟨hc, hf⟩ := bcell g0
    go_wp2
    refine bodyPost_ret (v := .agg #[.bool (vK (minI i j)), .int .i64 (vN (minI i j))]) (by simp [results, Tryd.results43, go_sem, hc]) rfl ⟨rfl, ?_⟩
    exact gset (gset B (by simp; omega) _) (by simp; omega) _

theorem maxI_cases (i j : Nat) (hi : i < 3) (hj : j < 3) : maxI i j = 0 ∨ maxI i j = 1 ∨ maxI i j = 2 := by unfold maxI; split <;> omega
set_option maxHeartbeats 2000000 in
theorem or_any (ka kb : Bool) (a b : Int) (w : World) (T : Tabs w) :
    Calls Tryd.prog 44 #[.agg #[.bool ka, .int .i64 a], .agg #[.bool kb, .int .i64 b]] w fun e w' => e = .returned (.agg #[.bool (vK (maxI (rd ka a) (rd kb b))), .int .i64 (vN (maxI (rd ka a) (rd kb b)))]) ∧ Below w.heap.size w w' := by
  obtain ⟨i, hi, hi3⟩ : ∃ i : Nat, rd ka a = i ∧ i < 3 := ⟨(rd ka a).toNat, by have := rd_nn ka a; omega, by have := rd_lt ka a; omega⟩
  obtain ⟨j, hj, hj3⟩ : ∃ j : Nat, rd kb b = j ∧ j < 3 := ⟨(rd kb b).toNat, by have := rd_nn kb b; omega, by have := rd_lt kb b; omega⟩
  have hra := read_any ka a
  have hrb := read_any kb b
  rw [hi] at hra ⊢
  rw [hj] at hrb ⊢
  have hv := fun w => val_any (maxI i j) w (maxI_cases i j hi3 hj3)
  have hi' : (i : Int) < 3 := by omega
  have hj' : (j : Int) < 3 := by omega
  have c30 : Tryd.prog.cellsOf 77 = 3 := by kernel_rfl
  have c29 : Tryd.prog.cellsOf 76 = 1 := by kernel_rfl
  clear hi hj
  have T1 := T.orT i j hi3 hj3
  have hz : 3 < w.heap.size := Nat.lt_of_le_of_lt (by omega) T.sz
  have hz1 : 3 < w.heap.size + 1 := by omega
  have hz2 : 3 < w.heap.size + 1 + 1 := by omega
  have hz3 : 3 < w.heap.size + 1 + 1 + 1 := by omega
  have hz4 : 3 < w.heap.size + 2 := by omega
  have hz5 : 3 < w.heap.size + 3 := by omega
  go_enter Tryd.func44, Tryd.ntmps44
  go_wp2
  have B := (galloc (galloc (galloc (Below.refl w.heap.size w) (.cells #[.bool ka, .int .i64 a] 33)) (.cells #[.bool kb, .int .i64 b] 33)) (.cells #[.bool false, .int .i64 0] 33)).drew
  have g0 := (Below.refl (((w.alloc (.cells #[.bool ka, .int .i64 a] 33)).alloc (.cells #[.bool kb, .int .i64 b] 33)).alloc (.cells #[.bool false, .int .i64 0] 33)).heap.size (((w.alloc (.cells #[.bool ka, .int .i64 a] 33)).alloc (.cells #[.bool kb, .int .i64 b] 33)).alloc (.cells #[.bool false, .int .i64 0] 33))).drew
  go_region_with (first
    | (go_at_call_of 37 (Value.int IntKind.i64 a); refine (hra _).mono ?_; rintro e w1 ⟨rfl, g1⟩; replace g0 := gtrans g0 g1; replace B := gtrans B g1; obtain ⟨hc1, hf1⟩ := bcell g0)
    | (go_at_call_of 37 (Value.int IntKind.i64 b); refine (hrb _).mono ?_; rintro e w1 ⟨rfl, g1⟩; replace g0 := gtrans g0 g1; replace B := gtrans B g1; obtain ⟨hc1, hf1⟩ := bcell g0)
    | (go_at_call 38; refine (hv _).mono ?_; rintro e w1 ⟨rfl, g1⟩; replace g0 := gtrans g0 g1; replace B := gtrans B g1; obtain ⟨hc1, hf1⟩ := bcell g0))
  all_goals
    obtain ⟨hc, hf⟩ := bcell g0
    go_wp2
    refine bodyPost_ret (v := .agg #[.bool (vK (maxI i j)), .int .i64 (vN (maxI i j))]) (by simp [results, Tryd.results44, go_sem, hc]) rfl ⟨rfl, ?_⟩
    exact gset (gset B (by simp; omega) _) (by simp; omega) _

end Go.Proofs.YtjeffmfnaihhjaaDoor
