/- The classes of bytes and the kinds of signs: lex's and the document's. -/
import Derived.Test.YtmoimmghmmomlaaDoorWd2
namespace Go.Proofs.YtmoimmghmmomlaaDoor
open Go.RowKit Go.BigFrame
set_option linter.unusedVariables false
set_option linter.unusedSimpArgs false

def blB (n : Int) : Bool := decide (n = 32 ∨ n = 9 ∨ n = 10 ∨ n = 13)
def dgB (n : Int) : Bool := decide (48 ≤ n ∧ n ≤ 57)
def ltB (n : Int) : Bool := decide ((65 ≤ n ∧ n ≤ 90) ∨ (97 ≤ n ∧ n ≤ 122) ∨ n = 95)
def wdB (n : Int) : Bool := ltB n || dgB n

set_option maxHeartbeats 1000000 in
theorem isBlank_any (n : Int) (w : World) : Calls Tryd.prog 60 #[.int .u8 n] w fun e w' => e = .returned (.bool (blB n)) ∧ w = w' := by
  obtain ⟨v, hv⟩ : ∃ v, blB n = v := ⟨_, rfl⟩
  rw [hv]
  have HV : Hid (blB n = v) := hv
  clear hv
  cases a32 : (n == 32) <;> cases a9 : (n == 9) <;> cases a10 : (n == 10) <;> cases a13 : (n == 13)
  all_goals
    go_enter Tryd.func60, Tryd.ntmps60
    go_wp2
    go_ret
    refine ⟨congrArg (fun b => Ending.returned (Value.bool b)) (Eq.trans ?_ HV.out), rfl⟩
    simp only [beq_iff_eq, beq_eq_false_iff_ne, ne_eq] at a32 a9 a10 a13
    first | exact (decide_eq_true (by omega)).symm | exact (decide_eq_false (by omega)).symm
set_option maxHeartbeats 2000000 in
theorem isDigit_any (n : Int) (w : World) : Calls Tryd.prog 40 #[.int .u8 n] w fun e w' => e = .returned (.bool (dgB n)) ∧ w = w' := by
  obtain ⟨v, hv⟩ : ∃ v, dgB n = v := ⟨_, rfl⟩
  rw [hv]
  have HV : Hid (dgB n = v) := hv
  clear hv
  by_cases b0 : 48 ≤ n <;> by_cases b1 : n ≤ 57
  all_goals
    go_enter Tryd.func40, Tryd.ntmps40
    go_wp2
    go_ret
    refine ⟨congrArg (fun b => Ending.returned (Value.bool b)) (Eq.trans ?_ HV.out), rfl⟩
    first | exact (decide_eq_true (by omega)).symm | exact (decide_eq_false (by omega)).symm
set_option maxHeartbeats 2000000 in
theorem beginsWord_any (n : Int) (w : World) : Calls Tryd.prog 61 #[.int .u8 n] w fun e w' => e = .returned (.bool (ltB n)) ∧ w = w' := by
  obtain ⟨v, hv⟩ : ∃ v, ltB n = v := ⟨_, rfl⟩
  rw [hv]
  have HV : Hid (ltB n = v) := hv
  clear hv
  by_cases b0 : 65 ≤ n <;> by_cases b1 : n ≤ 90 <;> by_cases b2 : 97 ≤ n <;> by_cases b3 : n ≤ 122 <;> cases a95 : (n == 95)
  all_goals
    go_enter Tryd.func61, Tryd.ntmps61
    go_wp2
    go_ret
    refine ⟨congrArg (fun b => Ending.returned (Value.bool b)) (Eq.trans ?_ HV.out), rfl⟩
    simp only [beq_iff_eq, beq_eq_false_iff_ne, ne_eq] at a95
    first | exact (decide_eq_true (by omega)).symm | exact (decide_eq_false (by omega)).symm
set_option maxHeartbeats 1000000 in
theorem goesOn_any (n : Int) (w : World) : Calls Tryd.prog 38 #[.int .u8 n] w fun e w' => e = .returned (.bool (wdB n)) ∧ w = w' := by
  have c1 := beginsWord_any n
  have c2 := isDigit_any n
  obtain ⟨v, hv⟩ : ∃ v, wdB n = v := ⟨_, rfl⟩
  rw [hv]
  have HV : Hid (wdB n = v) := hv
  clear hv
  cases hl : ltB n <;> cases hd : dgB n
  all_goals
    rw [hl] at c1
    rw [hd] at c2
    go_enter Tryd.func38, Tryd.ntmps38
    go_wp2_with (first
      | (go_at_call 61; with_reducible refine (c1 _).mono ?_; rintro e u ⟨rfl, rfl⟩)
      | (go_at_call 40; with_reducible refine (c2 _).mono ?_; rintro e u ⟨rfl, rfl⟩))
    go_ret
    refine ⟨congrArg (fun b => Ending.returned (Value.bool b)) (Eq.trans ?_ HV.out), rfl⟩
    unfold wdB
    rw [hl, hd]
    rfl

/-- The signs' bytes, in their order. -/
def sgl : List (List UInt8) := [[40], [41], [123], [125], [44], [46], [33], [124], [43], [45], [42], [47], [37], [61], [33, 61], [60], [60, 61], [62], [62, 61]]
def sg (j : Nat) : ByteArray := ⟨(sgl.getD j []).toArray⟩
/-- The kind of a sign, 0 if it is none. -/
def sgK (s : ByteArray) : Int := if (List.range 19).findIdx (fun j => s.toList == (sg j).toList) < 19 then 3 + ((List.range 19).findIdx (fun j => s.toList == (sg j).toList) : Int) else 0
def SgAt (w : World) : Prop := 2 < w.heap.size ∧ ∀ j, j < 19 → w.cell? ⟨2, j, none⟩ = some (.string (sg j))
theorem SgAt.keep {w u : World} (h : SgAt w) (G : Below w.heap.size w u) : SgAt u :=
  ⟨Nat.lt_of_lt_of_le h.1 G.size, fun j hj => (G.cell (p := ⟨_, j, none⟩) h.1).trans (h.2 j hj)⟩

end Go.Proofs.YtmoimmghmmomlaaDoor
