/- How an event that comes in is opened. -/
import Derived.Test.YtkpnnofonocilaaDoorChk4
import Derived.ChangeArms
import Derived.ChangeSame
import Derived.Lib.SmallJoins
namespace Go.Proofs.YtkpnnofonocilaaDoor
open Go.ChangeShapes Go.WideShapes Go.ChangeAt Go.RowKit Go.BigFrame
set_option linter.unusedVariables false
set_option linter.unusedSimpArgs false

theorem cellsI : Tryd.prog.cellsOf 2 = 1 := by kernel_rfl
theorem wfI {n : Int} (h : (Lit.int .i64 n).wf = true) : -9223372036854775808 ≤ n ∧ n ≤ 9223372036854775807 := by
  have h' : (decide (IntKind.min .i64 ≤ n) && decide (n ≤ IntKind.max .i64)) = true := h
  rw [Bool.and_eq_true, decide_eq_true_eq, decide_eq_true_eq] at h'
  have e1 : IntKind.min .i64 = -9223372036854775808 := by decide +kernel
  have e2 : IntKind.max .i64 = 9223372036854775807 := by decide +kernel
  rw [e1, e2] at h'
  exact h'
theorem wfU {n : Int} (h : (Lit.int .u64 n).wf = true) : 0 ≤ n ∧ n < 18446744073709551616 := by
  have h' : (decide (IntKind.min .u64 ≤ n) && decide (n ≤ IntKind.max .u64)) = true := h
  rw [Bool.and_eq_true, decide_eq_true_eq, decide_eq_true_eq] at h'
  have e1 : IntKind.min .u64 = 0 := by decide +kernel
  have e2 : IntKind.max .u64 = 18446744073709551615 := by decide +kernel
  rw [e1, e2] at h'
  omega
set_option maxRecDepth 100000 in
theorem open_event_ok {H : Type} {enc : TypeId × Value → H} {w : World} {spare : Nat → Bool} {held : Bool} {fuel : Nat} {cs : Array Value} {y : DataW H × List MemPlace} (hz : cs.size = 11) (h : DataW.trod enc Tryd.prog w 0 spare held fuel 44 cs.toList = some y) : ∃ e : Ev, cs = evC e ∧ e.ok := by
  obtain ⟨l⟩ := cs
  have hl : l.length = 11 := hz
  obtain ⟨c0, c1, c2, c3, c4, c5, c6, c7, c8, c9, c10, rfl⟩ : ∃ c0 c1 c2 c3 c4 c5 c6 c7 c8 c9 c10, l = [c0, c1, c2, c3, c4, c5, c6, c7, c8, c9, c10] := by
    match l, hl with
    | [c0, c1, c2, c3, c4, c5, c6, c7, c8, c9, c10], _ => exact ⟨c0, c1, c2, c3, c4, c5, c6, c7, c8, c9, c10, rfl⟩
  obtain ⟨y0, y1, y2, y3, m, _, _, g0, g1, g2, g3⟩ := Joins.trod_struct4 Tryd.underlying44 h
  have g0' : DataW.trod enc Tryd.prog w 0 spare held m 2 [c0] = some y0 := g0
  have g1' : DataW.trod enc Tryd.prog w 0 spare held m 41 [c1] = some y1 := g1
  have g2' : DataW.trod enc Tryd.prog w 0 spare held m 3 [c2] = some y2 := g2
  have g3' : DataW.trod enc Tryd.prog w 0 spare held m 42 [c3, c4, c5, c6, c7, c8, c9, c10] = some y3 := g3
  obtain ⟨n0, e0, _, r0⟩ := DataW.trod_int Tryd.underlying2 g0'
  obtain ⟨n1, e1, _, r1⟩ := DataW.trod_int Tryd.underlying41 g1'
  obtain ⟨n2, e2, _, _⟩ := DataW.trod_int Tryd.underlying3 g2'
  obtain ⟨xs, m2, _, _, _, hxl, hall⟩ := DataW.trod_array Tryd.underlying42 g3'
  have key : ∀ (i : Nat) (c : Value), i < 8 → [c3, c4, c5, c6, c7, c8, c9, c10][i]? = some c → ∃ n, c = .int .i64 n ∧ (Lit.int .i64 n).wf = true := fun i c hi hc => by
    have h1 := hall i hi
    rw [cellsI, Nat.mul_one, List.getElem?_eq_getElem (show i < xs.length by omega)] at h1
    obtain ⟨n, e, _, rn⟩ := DataW.trod_int Tryd.underlying2 h1
    have h2 := congrArg (·[0]?) e
    simp only [List.getElem?_take, List.getElem?_drop, Nat.add_zero] at h2
    rw [if_pos (by decide), hc] at h2
    exact ⟨n, by simpa using h2, rn⟩
  obtain ⟨a0, k0, q0⟩ := key 0 c3 (by omega) rfl
  obtain ⟨a1, k1, q1⟩ := key 1 c4 (by omega) rfl
  obtain ⟨a2, k2, q2⟩ := key 2 c5 (by omega) rfl
  obtain ⟨a3, k3, q3⟩ := key 3 c6 (by omega) rfl
  obtain ⟨a4, k4, q4⟩ := key 4 c7 (by omega) rfl
  obtain ⟨a5, k5, q5⟩ := key 5 c8 (by omega) rfl
  obtain ⟨a6, k6, q6⟩ := key 6 c9 (by omega) rfl
  obtain ⟨a7, k7, q7⟩ := key 7 c10 (by omega) rfl
  simp only [List.cons.injEq, and_true] at e0 e1 e2
  subst e0 e1 e2 k0 k1 k2 k3 k4 k5 k6 k7
  refine ⟨⟨n0, n1, n2, a0, a1, a2, a3, a4, a5, a6, a7⟩, rfl, (wfI r0).1, (wfI r0).2, (wfU r1).1, (wfU r1).2, fun j hj => ?_, fun j hj => ?_⟩
  all_goals rcases (show j = 0 ∨ j = 1 ∨ j = 2 ∨ j = 3 ∨ j = 4 ∨ j = 5 ∨ j = 6 ∨ j = 7 from by omega) with rfl | rfl | rfl | rfl | rfl | rfl | rfl | rfl
  all_goals first | exact (wfI q0).1 | exact (wfI q1).1 | exact (wfI q2).1 | exact (wfI q3).1 | exact (wfI q4).1 | exact (wfI q5).1 | exact (wfI q6).1 | exact (wfI q7).1 | exact (wfI q0).2 | exact (wfI q1).2 | exact (wfI q2).2 | exact (wfI q3).2 | exact (wfI q4).2 | exact (wfI q5).2 | exact (wfI q6).2 | exact (wfI q7).2
theorem open_event {H : Type} {enc : TypeId × Value → H} {w : World} {spare : Nat → Bool} {held : Bool} {fuel : Nat} {cs : Array Value} {y : DataW H × List MemPlace} (hz : cs.size = 11) (h : DataW.trod enc Tryd.prog w 0 spare held fuel 44 cs.toList = some y) : ∃ e : Ev, cs = evC e := by
  obtain ⟨e, he, _⟩ := open_event_ok hz h
  exact ⟨e, he⟩

end Go.Proofs.YtkpnnofonocilaaDoor
