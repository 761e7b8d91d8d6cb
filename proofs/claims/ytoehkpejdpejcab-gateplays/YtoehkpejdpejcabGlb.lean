/- named, above, in, rises: what the gate's statements count in lists. -/
import Derived.Test.YtoehkpejdpejcabGla
import Derived.Test.YtoehkpejdpejcabEvf
namespace Go.Proofs.Ytoehkpejdpejcab
open Go.RowKit Go.BigFrame Go.Maps
set_option linter.unusedVariables false
set_option linter.unusedSimpArgs false

def cntN (l : List Ev) (ts id : Int) : Nat := (l.filter fun y => decide (y.ts = ts ∧ y.id = id)).length
theorem cntN_snoc (l : List Ev) (x : Ev) (ts id : Int) : cntN (l ++ [x]) ts id = cntN l ts id + if x.ts = ts ∧ x.id = id then 1 else 0 := by
  unfold cntN
  rw [List.filter_append, List.length_append]
  by_cases h : x.ts = ts ∧ x.id = id
  · rw [if_pos h]; simp [List.filter, h.1, h.2]
  · rw [if_neg h]; simp [List.filter, h]
theorem cntN_pos (l : List Ev) (ts id : Int) : decide (0 < cntN l ts id) = hasN l ts id := by
  unfold cntN hasN
  rw [Bool.eq_iff_iff, decide_eq_true_eq, List.any_eq_true, List.length_pos_iff_exists_mem]
  constructor
  · rintro ⟨y, hy⟩; exact ⟨y, (List.mem_filter.1 hy).1, (List.mem_filter.1 hy).2⟩
  · rintro ⟨y, h1, h2⟩; exact ⟨y, List.mem_filter.2 ⟨h1, h2⟩⟩
theorem cntN_le (l : List Ev) (ts id : Int) : cntN l ts id ≤ l.length := List.length_filter_le _ _
def cntA (l : List Ev) (m : Int) : Nat := (l.filter fun y => decide (m < y.ts)).length
theorem cntA_snoc (l : List Ev) (x : Ev) (m : Int) : cntA (l ++ [x]) m = cntA l m + if m < x.ts then 1 else 0 := by
  unfold cntA
  rw [List.filter_append, List.length_append]
  by_cases h : m < x.ts
  · rw [if_pos h]; simp [List.filter, h]
  · rw [if_neg h]; simp [List.filter, h]
theorem cntA_le (l : List Ev) (m : Int) : cntA l m ≤ l.length := List.length_filter_le _ _
end Go.Proofs.Ytoehkpejdpejcab
