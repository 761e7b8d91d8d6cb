/- stays of the gate's statements: a row that was written over is so still. -/
import Derived.Test.YthjnkcapjhelgaaGsc
namespace Go.Proofs.Ythjnkcapjhelgaa
open Go.RowKit Go.BigFrame Go.Maps
set_option linter.unusedVariables false
set_option linter.unusedSimpArgs false

theorem mkL_at {m : Int} {k i : Nat} (h : i < k) (z : Ev) : (mkL m k).getD i z = mkE m (i : Int) := by
  rw [getD_of_lt _ i (by rw [mkL_len]; exact h)]
  simp [mkL]
set_option maxRecDepth 100000 in
set_option maxHeartbeats 4000000 in
theorem stays_true (a b : Option Addr) (k c d : Nat) (m : Int) (w : World) (A : Flat w a (fl evC (mkL m k))) (B : Flat w b (fl evC (mkL m (k + 1)))) (hk : k ≤ 5000) :
    Calls Try.prog 20 #[.agg #[.slice a k c, .slice b (k + 1) d], .int .i64 m] w fun e w' => e = .returned (.bool true) ∧ Below w.heap.size w w' := by
  have B0 := galloc (Below.refl w.heap.size w) (.cells #[.slice a k c, .slice b (k + 1) d] 58)
  have b0 := Bk.new w #[.slice a k c, .slice b (k + 1) d] 58
  go_enter Try.func20, Try.ntmps20
  go_upto_region 2 with fail
  generalize w.alloc _ = V at *
  have e0 := b0.at2.1
  have e1 := b0.at2.2
  have AV := A.keep B0
  have BV := B.keep B0
  go_loopw [5] (fun vi wr => ∃ i : Nat, i ≤ k + 1 ∧ vi = .int .i64 (i : Int) ∧ wr = V) (fun vi _ => k + 1 - (intOf vi).toNat)
  case atStart => exact ⟨0, Nat.zero_le _, rfl, rfl⟩
  case round =>
    obtain ⟨i, hi, rfl, rfl⟩ := hrel
    by_cases hlt : i < k + 1
    · obtain ⟨g, o, rfl, hgl, _⟩ := BV.form (by rw [fl_len ev_size, mkL_len]; omega)
      have rx := flat_range ev_size zeroE BV i (by rw [mkL_len]; exact hlt)
      rw [mkL_at hlt] at rx
      have d0 : wr.cell? ⟨g, o + i * 11, none⟩ = some (.int .i64 m) := by have := rx 0 (.int .i64 m) rfl; rwa [Nat.add_zero] at this
      have d1 : wr.cell? ⟨g, o + i * 11 + 1, none⟩ = some (.int .u64 (i : Int)) := rx 1 _ rfl
      have q1 : (i : Int) < ((k + 1 : Nat) : Int) := by omega
      have q1' : (i : Int) < (k : Int) + 1 := by omega
      have hcv : IntKind.u64.wrap (i : Int) = (i : Int) := by rw [IntKind.wrap_u64]; omega
      have HT : Hid (i < k + 1) := hlt
      clear rx hlt
      go_wp2
      go_roundw
      case rel => exact ⟨i + 1, HT.out, rfl, trivial⟩
      case measure => have hlt := HT.out; simp [intOf]; omega
    · have q1 : ¬ (i : Int) < ((k + 1 : Nat) : Int) := by omega
      have q1' : ¬ (i : Int) < (k : Int) + 1 := by omega
      clear hlt
      go_upto_region 7 with fail
      go_loopw [6] (fun vi wr' => ∃ i : Nat, i ≤ k ∧ vi = .int .i64 (i : Int) ∧ wr' = wr) (fun vi _ => k - (intOf vi).toNat)
      case atStart => exact ⟨0, Nat.zero_le _, rfl, rfl⟩
      case round =>
        obtain ⟨i, hi, rfl, rfl⟩ := hrel
        by_cases hlt : i < k
        · obtain ⟨g, o, rfl, hgl, _⟩ := AV.form (by rw [fl_len ev_size, mkL_len]; omega)
          have rx := flat_range ev_size zeroE AV i (by rw [mkL_len]; exact hlt)
          rw [mkL_at hlt] at rx
          have d0 : wr.cell? ⟨g, o + i * 11, none⟩ = some (.int .i64 m) := by have := rx 0 (.int .i64 m) rfl; rwa [Nat.add_zero] at this
          have d1 : wr.cell? ⟨g, o + i * 11 + 1, none⟩ = some (.int .u64 (i : Int)) := rx 1 _ rfl
          have q2 : (i : Int) < (k : Int) := by omega
          have hcv : IntKind.u64.wrap (i : Int) = (i : Int) := by rw [IntKind.wrap_u64]; omega
          have HT : Hid (i < k) := hlt
          clear rx hlt
          go_wp2
          go_roundw
          case rel => exact ⟨i + 1, HT.out, rfl, trivial⟩
          case measure => have hlt := HT.out; simp [intOf]; omega
        · have q2 : ¬ (i : Int) < (k : Int) := by omega
          go_wp2
          go_ret
          exact ⟨rfl, B0⟩

end Go.Proofs.Ythjnkcapjhelgaa
