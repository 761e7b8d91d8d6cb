/- What num's read, val, And, Or, Not, True come to, where the package's tables hold what their text lays. And what goes with it: 2 texts in one. -/
import Derived.Test.YtglagbedgjkdbaaGreatDoorJa02
namespace Go.Proofs.YtglagbedgjkdbaaGreatDoor
open Go.RowKit
set_option linter.unusedVariables false

/-- 0 no, 1 unknown, 2 yes. -/
def rd (k : Bool) (a : Int) : Int := if k = true then (if a = 0 then 0 else 2) else 1
def vK (t : Int) : Bool := !(t == 1)
def vN (t : Int) : Int := if t = 2 then 1 else 0
def minI (a b : Int) : Int := if b < a then b else a
def maxI (a b : Int) : Int := if a < b then b else a
theorem rd_cases (k : Bool) (a : Int) : rd k a = 0 ∨ rd k a = 1 ∨ rd k a = 2 := by unfold rd; split <;> (try split) <;> simp
theorem rd_nn (k : Bool) (a : Int) : 0 ≤ rd k a := by have := rd_cases k a; omega
theorem rd_lt (k : Bool) (a : Int) : rd k a < 3 := by have := rd_cases k a; omega

/-- The tables lie in memory as the text lays them. -/
structure Tabs (w : World) : Prop where
  sz : 3 < w.heap.size
  andT : ∀ i j : Nat, i < 3 → j < 3 → w.cell? ⟨2, i * 3 + j, none⟩ = some (.int .i64 (minI i j))
  orT : ∀ i j : Nat, i < 3 → j < 3 → w.cell? ⟨3, i * 3 + j, none⟩ = some (.int .i64 (maxI i j))
structure TabN (w : World) : Prop where
  sz : 1 < w.heap.size
  notT : ∀ i : Nat, i < 3 → w.cell? ⟨1, i, none⟩ = some (.int .i64 (2 - i))
theorem Tabs.keep {w w' : World} (T : Tabs w) (b : Below w.heap.size w w') : Tabs w' :=
  ⟨Nat.lt_of_lt_of_le T.sz b.size, fun i j hi hj => kkeep b (Nat.lt_of_le_of_lt (by omega) T.sz) (T.andT i j hi hj), fun i j hi hj => kkeep b T.sz (T.orT i j hi hj)⟩
theorem TabN.keep {w w' : World} (T : TabN w) (b : Below w.heap.size w w') : TabN w' :=
  ⟨Nat.lt_of_lt_of_le T.sz b.size, fun i hi => kkeep b T.sz (T.notT i hi)⟩

set_option maxHeartbeats 400000 in
theorem truthOf_any (b : Bool) (w : World) :
    Calls Tryz.prog 66 #[.bool b] w fun e w' => e = .returned (.int .i64 (if b = true then 2 else 0)) ∧ w = w' := by
  cases b
  all_goals
    go_enter Tryz.func66, Tryz.ntmps66
    go_wp2
    go_ret
    exact ⟨rfl, rfl⟩

set_option maxHeartbeats 400000 in
theorem read_any (k : Bool) (a : Int) (w : World) :
    Calls Tryz.prog 43 #[.agg #[.bool k, .int .i64 a]] w fun e w' => e = .returned (.int .i64 (rd k a)) ∧ Below w.heap.size w w' := by
  cases k
  · go_enter Tryz.func43, Tryz.ntmps43
    go_wp2
    go_ret
    exact ⟨rfl, galloc (Below.refl _ _) _⟩
  · by_cases h : a = 0
    · subst h
      go_enter Tryz.func43, Tryz.ntmps43
      go_wp2_with (go_at_call 66; refine (truthOf_any _ _).mono ?_; rintro e w1 ⟨rfl, rfl⟩)
      go_ret
      exact ⟨rfl, galloc (Below.refl _ _) _⟩
    · have h' : (a != 0) = true := by simpa using h
      have e : rd true a = 2 := by simp [rd, h]
      rw [e]
      go_enter Tryz.func43, Tryz.ntmps43
      go_wp2_with (go_at_call 66; refine (truthOf_any _ _).mono ?_; rintro e w1 ⟨rfl, rfl⟩)
      go_ret
      exact ⟨rfl, galloc (Below.refl _ _) _⟩

set_option maxHeartbeats 400000 in
theorem val_any (t : Int) (w : World) (h : t = 0 ∨ t = 1 ∨ t = 2) :
    Calls Tryz.prog 84 #[.int .i64 t] w fun e w' => e = .returned (.agg #[.bool (vK t), .int .i64 (vN t)]) ∧ Below w.heap.size w w' := by
  rcases h with rfl | rfl | rfl
  · show Calls _ _ _ _ fun e w' => e = .returned (.agg #[.bool true, .int .i64 0]) ∧ _
    go_enter Tryz.func84, Tryz.ntmps84
    go_wp2_with (go_at_call 83; refine (known_any _ _).mono ?_; rintro e w0 ⟨rfl, g0⟩; obtain ⟨hc0, hf0⟩ := bcell g0)
    refine bodyPost_ret (v := .agg #[.bool true, .int .i64 0]) (by simp [results, Tryz.results84, go_sem, hc0]) rfl ⟨rfl, ?_⟩
    exact gset (gset (gtrans (galloc (Below.refl _ _) _) g0) (by simp) _) (by simp) _
  · show Calls _ _ _ _ fun e w' => e = .returned (.agg #[.bool false, .int .i64 0]) ∧ _
    go_enter Tryz.func84, Tryz.ntmps84
    go_wp2
    exact bodyPost_ret (v := .agg #[.bool false, .int .i64 0]) (by simp [results, Tryz.results84, go_sem]) rfl ⟨rfl, galloc (Below.refl _ _) _⟩
  · show Calls _ _ _ _ fun e w' => e = .returned (.agg #[.bool true, .int .i64 1]) ∧ _
    go_enter Tryz.func84, Tryz.ntmps84
    go_wp2_with (go_at_call 83; refine (known_any _ _).mono ?_; rintro e w0 ⟨rfl, g0⟩; obtain ⟨hc0, hf0⟩ := bcell g0)
    refine bodyPost_ret (v := .agg #[.bool true, .int .i64 1]) (by simp [results, Tryz.results84, go_sem, hc0]) rfl ⟨rfl, ?_⟩
    exact gset (gset (gtrans (galloc (Below.refl _ _) _) g0) (by simp) _) (by simp) _

set_option maxHeartbeats 400000 in
theorem true_any (k : Bool) (a : Int) (w : World) :
    Calls Tryz.prog 15 #[.agg #[.bool k, .int .i64 a]] w fun e w' => e = .returned (.bool (rd k a == 2)) ∧ Below w.heap.size w w' := by
  go_enter Tryz.func15, Tryz.ntmps15
  go_wp2_with (go_at_call 43; refine (read_any _ _ _).mono ?_; rintro e w0 ⟨rfl, g0⟩)
  go_ret
  exact ⟨rfl, gtrans (galloc (Below.refl _ _) _) g0⟩

set_option maxHeartbeats 1000000 in
theorem not_any (k : Bool) (a : Int) (w : World) (T : TabN w) :
    Calls Tryz.prog 55 #[.agg #[.bool k, .int .i64 a]] w fun e w' => e = .returned (.agg #[.bool (vK (2 - rd k a)), .int .i64 (vN (2 - rd k a))]) ∧ Below w.heap.size w w' := by
  obtain ⟨g, hg, hg3⟩ : ∃ g : Nat, rd k a = g ∧ g < 3 := ⟨(rd k a).toNat, by have := rd_nn k a; omega, by have := rd_lt k a; omega⟩
  have hr := read_any k a
  rw [hg] at hr ⊢
  have hv := fun w => val_any (2 - g) w (by omega)
  have hi : (g : Int) < 3 := by omega
  have T1 := T.notT g hg3
  have hz : 1 < w.heap.size := T.sz
  have hz1 : 1 < w.heap.size + 1 := by omega
  have hz2 : 1 < w.heap.size + 1 + 1 := by omega
  go_enter Tryz.func55, Tryz.ntmps55
  go_wp2_with (first
    | (go_at_call 43; refine (hr _).mono ?_; rintro e w0 ⟨rfl, g0⟩; obtain ⟨hc0, hf0⟩ := bcell g0)
    | (go_at_call 84; refine (hv _).mono ?_; rintro e w1 ⟨rfl, g1⟩; replace g0 := gtrans g0 g1; obtain ⟨hc1, hf1⟩ := bcell g0))
  refine bodyPost_ret (v := .agg #[.bool (vK (2 - g)), .int .i64 (vN (2 - g))]) (by simp [results, Tryz.results55, go_sem, hc1]) rfl ⟨rfl, ?_⟩
  exact gset (gset (gtrans (galloc (galloc (Below.refl _ _) _) _) g0) (by simp) _) (by simp) _

theorem minI_cases (i j : Nat) (hi : i < 3) (hj : j < 3) : minI i j = 0 ∨ minI i j = 1 ∨ minI i j = 2 := by unfold minI; split <;> omega
set_option maxHeartbeats 2000000 in
theorem and_any (ka kb : Bool) (a b : Int) (w : World) (T : Tabs w) :
    Calls Tryz.prog 89 #[.agg #[.bool ka, .int .i64 a], .agg #[.bool kb, .int .i64 b]] w fun e w' => e = .returned (.agg #[.bool (vK (minI (rd ka a) (rd kb b))), .int .i64 (vN (minI (rd ka a) (rd kb b)))]) ∧ Below w.heap.size w w' := by
  obtain ⟨i, hi, hi3⟩ : ∃ i : Nat, rd ka a = i ∧ i < 3 := ⟨(rd ka a).toNat, by have := rd_nn ka a; omega, by have := rd_lt ka a; omega⟩
  obtain ⟨j, hj, hj3⟩ : ∃ j : Nat, rd kb b = j ∧ j < 3 := ⟨(rd kb b).toNat, by have := rd_nn kb b; omega, by have := rd_lt kb b; omega⟩
  have hra := read_any ka a
  have hrb := read_any kb b
  rw [hi] at hra ⊢
  rw [hj] at hrb ⊢
  have hv := fun w => val_any (minI i j) w (minI_cases i j hi3 hj3)
  have hi' : (i : Int) < 3 := by omega
  have hj' : (j : Int) < 3 := by omega
  have c30 : Tryz.prog.cellsOf 133 = 3 := by kernel_rfl
  have c29 : Tryz.prog.cellsOf 90 = 1 := by kernel_rfl
  clear hi hj
  have T1 := T.andT i j hi3 hj3
  have hz : 2 < w.heap.size := Nat.lt_of_le_of_lt (by omega) T.sz
  have hz1 : 2 < w.heap.size + 1 := by omega
  have hz2 : 2 < w.heap.size + 1 + 1 := by omega
  have hz3 : 2 < w.heap.size + 1 + 1 + 1 := by omega
  have hz4 : 2 < w.heap.size + 2 := by omega
  have hz5 : 2 < w.heap.size + 3 := by omega
  go_enter Tryz.func89, Tryz.ntmps89
  go_wp2
  have B := (galloc (galloc (galloc (Below.refl w.heap.size w) (.cells #[.bool ka, .int .i64 a] 51)) (.cells #[.bool kb, .int .i64 b] 51)) (.cells #[.bool false, .int .i64 0] 51)).drew
  have g0 := (Below.refl (((w.alloc (.cells #[.bool ka, .int .i64 a] 51)).alloc (.cells #[.bool kb, .int .i64 b] 51)).alloc (.cells #[.bool false, .int .i64 0] 51)).heap.size (((w.alloc (.cells #[.bool ka, .int .i64 a] 51)).alloc (.cells #[.bool kb, .int .i64 b] 51)).alloc (.cells #[.bool false, .int .i64 0] 51))).drew
  go_region_with (first
    | (go_at_call_of 43 (Value.int IntKind.i64 a); refine (hra _).mono ?_; rintro e w1 ⟨rfl, g1⟩; replace g0 := gtrans g0 g1; replace B := gtrans B g1; obtain ⟨hc1, hf1⟩ := bcell g0)
    | (go_at_call_of 43 (Value.int IntKind.i64 b); refine (hrb _).mono ?_; rintro e w1 ⟨rfl, g1⟩; replace g0 := gtrans g0 g1; replace B := gtrans B g1; obtain ⟨hc1, hf1⟩ := bcell g0)
    | (go_at_call 84; refine (hv _).mono ?_; rintro e w1 ⟨rfl, g1⟩; replace g0 := gtrans g0 g1; replace B := gtrans B g1; obtain ⟨hc1, hf1⟩ := bcell g0))
  all_goals
    obtain ⟨hc, hf⟩ := bcell g0
    go_wp2
    refine bodyPost_ret (v := .agg #[.bool (vK (minI i j)), .int .i64 (vN (minI i j))]) (by simp [results, Tryz.results89, go_sem, hc]) rfl ⟨rfl, ?_⟩
    exact gset (gset B (by simp; omega) _) (by simp; omega) _

theorem maxI_cases (i j : Nat) (hi : i < 3) (hj : j < 3) : maxI i j = 0 ∨ maxI i j = 1 ∨ maxI i j = 2 := by unfold maxI; split <;> omega
set_option maxHeartbeats 2000000 in
theorem or_any (ka kb : Bool) (a b : Int) (w : World) (T : Tabs w) :
    Calls Tryz.prog 90 #[.agg #[.bool ka, .int .i64 a], .agg #[.bool kb, .int .i64 b]] w fun e w' => e = .returned (.agg #[.bool (vK (maxI (rd ka a) (rd kb b))), .int .i64 (vN (maxI (rd ka a) (rd kb b)))]) ∧ Below w.heap.size w w' := by
  obtain ⟨i, hi, hi3⟩ : ∃ i : Nat, rd ka a = i ∧ i < 3 := ⟨(rd ka a).toNat, by have := rd_nn ka a; omega, by have := rd_lt ka a; omega⟩
  obtain ⟨j, hj, hj3⟩ : ∃ j : Nat, rd kb b = j ∧ j < 3 := ⟨(rd kb b).toNat, by have := rd_nn kb b; omega, by have := rd_lt kb b; omega⟩
  have hra := read_any ka a
  have hrb := read_any kb b
  rw [hi] at hra ⊢
  rw [hj] at hrb ⊢
  have hv := fun w => val_any (maxI i j) w (maxI_cases i j hi3 hj3)
  have hi' : (i : Int) < 3 := by omega
  have hj' : (j : Int) < 3 := by omega
  have c30 : Tryz.prog.cellsOf 133 = 3 := by kernel_rfl
  have c29 : Tryz.prog.cellsOf 90 = 1 := by kernel_rfl
  clear hi hj
  have T1 := T.orT i j hi3 hj3
  have hz : 3 < w.heap.size := Nat.lt_of_le_of_lt (by omega) T.sz
  have hz1 : 3 < w.heap.size + 1 := by omega
  have hz2 : 3 < w.heap.size + 1 + 1 := by omega
  have hz3 : 3 < w.heap.size + 1 + 1 + 1 := by omega
  have hz4 : 3 < w.heap.size + 2 := by omega
  have hz5 : 3 < w.heap.size + 3 := by omega
  go_enter Tryz.func90, Tryz.ntmps90
  go_wp2
  have B := (galloc (galloc (galloc (Below.refl w.heap.size w) (.cells #[.bool ka, .int .i64 a] 51)) (.cells #[.bool kb, .int .i64 b] 51)) (.cells #[.bool false, .int .i64 0] 51)).drew
  have g0 := (Below.refl (((w.alloc (.cells #[.bool ka, .int .i64 a] 51)).alloc (.cells #[.bool kb, .int .i64 b] 51)).alloc (.cells #[.bool false, .int .i64 0] 51)).heap.size (((w.alloc (.cells #[.bool ka, .int .i64 a] 51)).alloc (.cells #[.bool kb, .int .i64 b] 51)).alloc (.cells #[.bool false, .int .i64 0] 51))).drew
  go_region_with (first
    | (go_at_call_of 43 (Value.int IntKind.i64 a); refine (hra _).mono ?_; rintro e w1 ⟨rfl, g1⟩; replace g0 := gtrans g0 g1; replace B := gtrans B g1; obtain ⟨hc1, hf1⟩ := bcell g0)
    | (go_at_call_of 43 (Value.int IntKind.i64 b); refine (hrb _).mono ?_; rintro e w1 ⟨rfl, g1⟩; replace g0 := gtrans g0 g1; replace B := gtrans B g1; obtain ⟨hc1, hf1⟩ := bcell g0)
    | (go_at_call 84; refine (hv _).mono ?_; rintro e w1 ⟨rfl, g1⟩; replace g0 := gtrans g0 g1; replace B := gtrans B g1; obtain ⟨hc1, hf1⟩ := bcell g0))
  all_goals
    obtain ⟨hc, hf⟩ := bcell g0
    go_wp2
    refine bodyPost_ret (v := .agg #[.bool (vK (maxI i j)), .int .i64 (vN (maxI i j))]) (by simp [results, Tryz.results90, go_sem, hc]) rfl ⟨rfl, ?_⟩
    exact gset (gset B (by simp; omega) _) (by simp; omega) _

end Go.Proofs.YtglagbedgjkdbaaGreatDoor
namespace Go.Proofs.YtglagbedgjkdbaaGreatDoor
open Go.RowKit
set_option linter.unusedVariables false

set_option maxHeartbeats 400000 in
theorem grade_any (k : Bool) (a : Int) (w : World) :
    Calls Tryz.prog 106 #[.agg #[.bool k, .int .i64 a]] w fun e w' => e = .returned (.int .i64 (rd k a)) ∧ Below w.heap.size w w' := by
  cases k
  · go_enter Tryz.func106, Tryz.ntmps106
    go_wp2
    go_ret
    exact ⟨rfl, galloc (Below.refl _ _) _⟩
  · by_cases h : a = 0
    · subst h
      go_enter Tryz.func106, Tryz.ntmps106
      go_wp2
      go_ret
      exact ⟨rfl, galloc (Below.refl _ _) _⟩
    · have h' : (a == 0) = false := by simpa using h
      have e : rd true a = 2 := by simp [rd, h]
      rw [e]
      go_enter Tryz.func106, Tryz.ntmps106
      go_wp2
      go_ret
      exact ⟨rfl, galloc (Below.refl _ _) _⟩

set_option maxHeartbeats 400000 in
theorem graded_any (t : Int) (w : World) (h : t = 0 ∨ t = 1 ∨ t = 2) :
    Calls Tryz.prog 105 #[.int .i64 t] w fun e w' => e = .returned (.agg #[.bool (vK t), .int .i64 (vN t)]) ∧ Below w.heap.size w w' := by
  rcases h with rfl | rfl | rfl
  · show Calls _ _ _ _ fun e w' => e = .returned (.agg #[.bool true, .int .i64 0]) ∧ _
    go_enter Tryz.func105, Tryz.ntmps105
    go_wp2_with (go_at_call 73; refine (refNumber_any _ _).mono ?_; rintro e w0 ⟨rfl, g0⟩; obtain ⟨hc0, hf0⟩ := bcell g0)
    refine bodyPost_ret (v := .agg #[.bool true, .int .i64 0]) (by simp [results, Tryz.results105, go_sem, hc0]) rfl ⟨rfl, ?_⟩
    exact gset (gset (gtrans (galloc (Below.refl _ _) _) g0) (by simp) _) (by simp) _
  · show Calls _ _ _ _ fun e w' => e = .returned (.agg #[.bool false, .int .i64 0]) ∧ _
    go_enter Tryz.func105, Tryz.ntmps105
    go_wp2_with (go_at_call 46; refine (refNothing_any _).mono ?_; rintro e w0 ⟨rfl, g0⟩; obtain ⟨hc0, hf0⟩ := bcell g0)
    refine bodyPost_ret (v := .agg #[.bool false, .int .i64 0]) (by simp [results, Tryz.results105, go_sem, hc0]) rfl ⟨rfl, ?_⟩
    exact gset (gset (gtrans (galloc (Below.refl _ _) _) g0) (by simp) _) (by simp) _
  · show Calls _ _ _ _ fun e w' => e = .returned (.agg #[.bool true, .int .i64 1]) ∧ _
    go_enter Tryz.func105, Tryz.ntmps105
    go_wp2_with (go_at_call 73; refine (refNumber_any _ _).mono ?_; rintro e w0 ⟨rfl, g0⟩; obtain ⟨hc0, hf0⟩ := bcell g0)
    refine bodyPost_ret (v := .agg #[.bool true, .int .i64 1]) (by simp [results, Tryz.results105, go_sem, hc0]) rfl ⟨rfl, ?_⟩
    exact gset (gset (gtrans (galloc (Below.refl _ _) _) g0) (by simp) _) (by simp) _

set_option maxHeartbeats 1000000 in
theorem refNot_any (k : Bool) (a : Int) (w : World) :
    Calls Tryz.prog 77 #[.agg #[.bool k, .int .i64 a]] w fun e w' => e = .returned (.agg #[.bool (vK (2 - rd k a)), .int .i64 (vN (2 - rd k a))]) ∧ Below w.heap.size w w' := by
  have h0 := rd_nn k a
  have h1 := rd_lt k a
  have hv := fun w => graded_any (2 - rd k a) w (by omega)
  go_enter Tryz.func77, Tryz.ntmps77
  go_wp2_with (first
    | (go_at_call 106; refine (grade_any _ _ _).mono ?_; rintro e w0 ⟨rfl, g0⟩; obtain ⟨hc0, hf0⟩ := bcell g0)
    | (go_at_call 105; refine (hv _).mono ?_; rintro e w1 ⟨rfl, g1⟩; replace g0 := gtrans g0 g1; obtain ⟨hc1, hf1⟩ := bcell g0))
  refine bodyPost_ret (v := .agg #[.bool (vK (2 - rd k a)), .int .i64 (vN (2 - rd k a))]) (by simp [results, Tryz.results77, go_sem, hc1]) rfl ⟨rfl, ?_⟩
  exact gset (gset (gtrans (galloc (galloc (Below.refl _ _) _) _) g0) (by simp) _) (by simp) _

set_option maxHeartbeats 1000000 in
theorem refAnd_any (ka kb : Bool) (a b : Int) (w : World) :
    Calls Tryz.prog 112 #[.agg #[.bool ka, .int .i64 a], .agg #[.bool kb, .int .i64 b]] w fun e w' => e = .returned (.agg #[.bool (vK (minI (rd ka a) (rd kb b))), .int .i64 (vN (minI (rd ka a) (rd kb b)))]) ∧ Below w.heap.size w w' := by
  have hva := fun w => graded_any (rd ka a) w (rd_cases ka a)
  have hvb := fun w => graded_any (rd kb b) w (rd_cases kb b)
  have hra := grade_any ka a
  have hrb := grade_any kb b
  by_cases h : rd kb b < rd ka a
  · have e : minI (rd ka a) (rd kb b) = rd kb b := by simp [minI, h]
    rw [e]
    generalize rd ka a = i at *
    generalize rd kb b = j at *
    clear e hva
    go_enter Tryz.func112, Tryz.ntmps112
    go_wp2_with (first
      | (go_at_call_of 106 (Value.int IntKind.i64 a); refine (hra _).mono ?_; rintro e w0 ⟨rfl, g0⟩; obtain ⟨hc0, hf0⟩ := bcell g0)
      | (go_at_call_of 106 (Value.int IntKind.i64 b); refine (hrb _).mono ?_; rintro e w1 ⟨rfl, g1⟩; replace g0 := gtrans g0 g1; obtain ⟨hc1, hf1⟩ := bcell g0)
      | (go_at_call 105; refine (hvb _).mono ?_; rintro e w1 ⟨rfl, g1⟩; replace g0 := gtrans g0 g1; obtain ⟨hc2, hf2⟩ := bcell g0))
    refine bodyPost_ret (v := .agg #[.bool (vK j), .int .i64 (vN j)]) (by simp [results, Tryz.results112, go_sem, hc2]) rfl ⟨rfl, ?_⟩
    exact gset (gset (gtrans (galloc (galloc (galloc (Below.refl _ _) _) _) _) g0) (by simp; omega) _) (by simp; omega) _
  · have e : minI (rd ka a) (rd kb b) = rd ka a := by simp [minI, h]
    rw [e]
    generalize rd ka a = i at *
    generalize rd kb b = j at *
    clear e hvb
    go_enter Tryz.func112, Tryz.ntmps112
    go_wp2_with (first
      | (go_at_call_of 106 (Value.int IntKind.i64 a); refine (hra _).mono ?_; rintro e w0 ⟨rfl, g0⟩; obtain ⟨hc0, hf0⟩ := bcell g0)
      | (go_at_call_of 106 (Value.int IntKind.i64 b); refine (hrb _).mono ?_; rintro e w1 ⟨rfl, g1⟩; replace g0 := gtrans g0 g1; obtain ⟨hc1, hf1⟩ := bcell g0)
      | (go_at_call 105; refine (hva _).mono ?_; rintro e w1 ⟨rfl, g1⟩; replace g0 := gtrans g0 g1; obtain ⟨hc2, hf2⟩ := bcell g0))
    refine bodyPost_ret (v := .agg #[.bool (vK i), .int .i64 (vN i)]) (by simp [results, Tryz.results112, go_sem, hc2]) rfl ⟨rfl, ?_⟩
    exact gset (gset (gtrans (galloc (galloc (galloc (Below.refl _ _) _) _) _) g0) (by simp; omega) _) (by simp; omega) _

set_option maxHeartbeats 1000000 in
theorem refOr_any (ka kb : Bool) (a b : Int) (w : World) :
    Calls Tryz.prog 113 #[.agg #[.bool ka, .int .i64 a], .agg #[.bool kb, .int .i64 b]] w fun e w' => e = .returned (.agg #[.bool (vK (maxI (rd ka a) (rd kb b))), .int .i64 (vN (maxI (rd ka a) (rd kb b)))]) ∧ Below w.heap.size w w' := by
  have hva := fun w => graded_any (rd ka a) w (rd_cases ka a)
  have hvb := fun w => graded_any (rd kb b) w (rd_cases kb b)
  have hra := grade_any ka a
  have hrb := grade_any kb b
  by_cases h : rd ka a < rd kb b
  · have e : maxI (rd ka a) (rd kb b) = rd kb b := by simp [maxI, h]
    rw [e]
    generalize rd ka a = i at *
    generalize rd kb b = j at *
    clear e hva
    go_enter Tryz.func113, Tryz.ntmps113
    go_wp2_with (first
      | (go_at_call_of 106 (Value.int IntKind.i64 a); refine (hra _).mono ?_; rintro e w0 ⟨rfl, g0⟩; obtain ⟨hc0, hf0⟩ := bcell g0)
      | (go_at_call_of 106 (Value.int IntKind.i64 b); refine (hrb _).mono ?_; rintro e w1 ⟨rfl, g1⟩; replace g0 := gtrans g0 g1; obtain ⟨hc1, hf1⟩ := bcell g0)
      | (go_at_call 105; refine (hvb _).mono ?_; rintro e w1 ⟨rfl, g1⟩; replace g0 := gtrans g0 g1; obtain ⟨hc2, hf2⟩ := bcell g0))
    refine bodyPost_ret (v := .agg #[.bool (vK j), .int .i64 (vN j)]) (by simp [results, Tryz.results113, go_sem, hc2]) rfl ⟨rfl, ?_⟩
    exact gset (gset (gtrans (galloc (galloc (galloc (Below.refl _ _) _) _) _) g0) (by simp; omega) _) (by simp; omega) _
  · have e : maxI (rd ka a) (rd kb b) = rd ka a := by simp [maxI, h]
    rw [e]
    generalize rd ka a = i at *
    generalize rd kb b = j at *
    clear e hvb
    go_enter Tryz.func113, Tryz.ntmps113
    go_wp2_with (first
      | (go_at_call_of 106 (Value.int IntKind.i64 a); refine (hra _).mono ?_; rintro e w0 ⟨rfl, g0⟩; obtain ⟨hc0, hf0⟩ := bcell g0)
      | (go_at_call_of 106 (Value.int IntKind.i64 b); refine (hrb _).mono ?_; rintro e w1 ⟨rfl, g1⟩; replace g0 := gtrans g0 g1; obtain ⟨hc1, hf1⟩ := bcell g0)
      | (go_at_call 105; refine (hva _).mono ?_; rintro e w1 ⟨rfl, g1⟩; replace g0 := gtrans g0 g1; obtain ⟨hc2, hf2⟩ := bcell g0))
    refine bodyPost_ret (v := .agg #[.bool (vK i), .int .i64 (vN i)]) (by simp [results, Tryz.results113, go_sem, hc2]) rfl ⟨rfl, ?_⟩
    exact gset (gset (gtrans (galloc (galloc (galloc (Below.refl _ _) _) _) _) g0) (by simp; omega) _) (by simp; omega) _

end Go.Proofs.YtglagbedgjkdbaaGreatDoor
