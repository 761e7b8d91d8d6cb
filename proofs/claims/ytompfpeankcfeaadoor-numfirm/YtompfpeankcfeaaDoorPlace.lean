/- The law's helper place. -/
import Derived.Test.YtompfpeankcfeaaDoorBase
namespace Go.Proofs.YtompfpeankcfeaaDoor
open Go.RowKit
set_option linter.unusedVariables false

theorem tmod_place (i n : Int) (hn : 0 < n) : (i.tmod n < 0 → i.tmod n + n = i % n) ∧ (0 ≤ i.tmod n → i.tmod n = i % n) ∧ -n < i.tmod n ∧ i.tmod n < n := by
  have h1 := Int.emod_nonneg i (show n ≠ 0 by omega)
  have h2 := Int.emod_lt_of_pos i hn
  have h3 := Int.tmod_eq_emod (a := i) (b := n)
  have h4 : (n.natAbs : Int) = n := by omega
  by_cases hc : 0 ≤ i ∨ n ∣ i
  · rw [if_pos hc] at h3
    refine ⟨fun h => ?_, fun h => ?_, ?_, ?_⟩ <;> omega
  · rw [if_neg hc, h4] at h3
    have h5 : i % n ≠ 0 := fun e => hc (.inr (Int.dvd_of_emod_eq_zero e))
    refine ⟨fun h => ?_, fun h => ?_, ?_, ?_⟩ <;> omega

set_option maxHeartbeats 400000 in
theorem place_any (i n : Int) (w : World) (hn : 0 < n) (hn2 : n ≤ 9223372036854775807) (hi : fitsB i = true) :
    Calls Tryd.prog 18 #[.int .i64 i, .int .i64 n] w fun e w' => e = .returned (.int .i64 (i % n)) ∧ w = w' := by
  obtain ⟨t1, t2, t3, t4⟩ := tmod_place i n hn
  obtain ⟨r, hr⟩ : ∃ r, i.tmod n = r := ⟨_, rfl⟩
  obtain ⟨q, hq⟩ : ∃ q, i % n = q := ⟨_, rfl⟩
  rw [hq] at t1 t2 ⊢
  rw [hr] at t1 t2 t3 t4
  have HQ : Hid ((r < 0 → r + n = q) ∧ (0 ≤ r → r = q)) := ⟨t1, t2⟩
  have hn0 : (n == 0) = false := by simp; omega
  have hn1 : ¬ n = -1 := by omega
  have hI := (fits_iff i).1 hi
  clear t1 t2 hq hi
  go_enter Tryd.func18, Tryd.ntmps18
  go_wp2
  all_goals
    have T : (r < 0 → r + n = q) ∧ (0 ≤ r → r = q) := HQ
    go_ret
    refine ⟨?_, rfl⟩
    first
    | exact congrArg (fun z => Ending.returned (Value.int .i64 z)) (T.1 (by assumption))
    | exact congrArg (fun z => Ending.returned (Value.int .i64 z)) (T.2 (by assumption))

end Go.Proofs.YtompfpeankcfeaaDoor
