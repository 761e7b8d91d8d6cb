/- What event's and the document's IsName come to, of any string: the small ones. -/
import Derived.Test.YtaiebhfggjljiaaDoorEva
import Derived.Laws.RangeAny
namespace Go.Proofs.YtaiebhfggjljiaaDoor.Ev
open Go.RowKit Go.BigFrame
set_option linter.unusedVariables false
set_option linter.unusedSimpArgs false

def letB (n : Int) : Bool := decide (65 ≤ n ∧ n ≤ 90 ∨ 97 ≤ n ∧ n ≤ 122)
def digB (n : Int) : Bool := decide (48 ≤ n ∧ n ≤ 57)
def inW (n : Int) : Bool := letB n || digB n || (n == 95)

set_option maxHeartbeats 1000000 in
theorem isLetter_any (n : Int) (w : World) : Calls Tryd.prog 69 #[.int .i32 n] w fun e w' => e = .returned (.bool (letB n)) ∧ w = w' := by
  obtain ⟨v, hv⟩ : ∃ v, letB n = v := ⟨_, rfl⟩
  rw [hv]
  have HV : Hid (letB n = v) := hv
  clear hv
  by_cases a : 65 ≤ n <;> by_cases b : n ≤ 90 <;> by_cases c : 97 ≤ n <;> by_cases d : n ≤ 122
  all_goals
    go_enter Tryd.func69, Tryd.ntmps69
    go_wp2
    go_ret
    refine ⟨congrArg (fun b => Ending.returned (Value.bool b)) (Eq.trans ?_ HV.out), rfl⟩
    first | exact (decide_eq_true (by omega)).symm | exact (decide_eq_false (by omega)).symm
set_option maxHeartbeats 400000 in
theorem isDigit_any (n : Int) (w : World) : Calls Tryd.prog 55 #[.int .i32 n] w fun e w' => e = .returned (.bool (digB n)) ∧ w = w' := by
  obtain ⟨v, hv⟩ : ∃ v, digB n = v := ⟨_, rfl⟩
  rw [hv]
  have HV : Hid (digB n = v) := hv
  clear hv
  by_cases a : 48 ≤ n <;> by_cases b : n ≤ 57
  all_goals
    go_enter Tryd.func55, Tryd.ntmps55
    go_wp2
    go_ret
    refine ⟨congrArg (fun b => Ending.returned (Value.bool b)) (Eq.trans ?_ HV.out), rfl⟩
    first | exact (decide_eq_true (by omega)).symm | exact (decide_eq_false (by omega)).symm
set_option maxHeartbeats 1000000 in
theorem inWord_any (n : Int) (w : World) : Calls Tryd.prog 54 #[.int .i32 n] w fun e w' => e = .returned (.bool (inW n)) ∧ w = w' := by
  have c1 := isLetter_any n
  have c2 := isDigit_any n
  obtain ⟨v, hv⟩ : ∃ v, inW n = v := ⟨_, rfl⟩
  rw [hv]
  have HV : Hid (inW n = v) := hv
  clear hv
  cases hl : letB n <;> cases hd : digB n <;> cases h2 : (n == 95)
  all_goals
    rw [hl] at c1
    rw [hd] at c2
    go_enter Tryd.func54, Tryd.ntmps54
    go_wp2_with (first
      | (go_at_call 69; with_reducible refine (c1 _).mono ?_; rintro e u ⟨rfl, rfl⟩)
      | (go_at_call 55; with_reducible refine (c2 _).mono ?_; rintro e u ⟨rfl, rfl⟩))
    go_ret
    refine ⟨congrArg (fun b => Ending.returned (Value.bool b)) (Eq.trans ?_ HV.out), rfl⟩
    unfold inW
    rw [hl, hd, h2]
    rfl
end Go.Proofs.YtaiebhfggjljiaaDoor.Ev
