/- How an event that comes in is opened. -/
import Derived.Test.YtpcgbkkebgbebaaDoorChk4
import Derived.ChangeArms
import Derived.ChangeSame
import Derived.Lib.SmallJoins
namespace Go.Proofs.YtpcgbkkebgbebaaDoor
open Go.ChangeShapes Go.WideShapes Go.ChangeAt Go.RowKit Go.BigFrame
set_option linter.unusedVariables false
set_option linter.unusedSimpArgs false

theorem cellsI : Tryd.prog.cellsOf 2 = 1 := by kernel_rfl
theorem open_event {H : Type} {enc : TypeId × Value → H} {w : World} {spare : Nat → Bool} {held : Bool} {fuel : Nat} {cs : Array Value} {y : DataW H × List MemPlace} (hz : cs.size = 11) (h : DataW.trod enc Tryd.prog w 0 spare held fuel 28 cs.toList = some y) : ∃ e : Ev, cs = evC e := by
  obtain ⟨l⟩ := cs
  have hl : l.length = 11 := hz
  obtain ⟨c0, c1, c2, c3, c4, c5, c6, c7, c8, c9, c10, rfl⟩ : ∃ c0 c1 c2 c3 c4 c5 c6 c7 c8 c9 c10, l = [c0, c1, c2, c3, c4, c5, c6, c7, c8, c9, c10] := by
    match l, hl with
    | [c0, c1, c2, c3, c4, c5, c6, c7, c8, c9, c10], _ => exact ⟨c0, c1, c2, c3, c4, c5, c6, c7, c8, c9, c10, rfl⟩
  obtain ⟨y0, y1, y2, y3, m, _, _, g0, g1, g2, g3⟩ := Joins.trod_struct4 Tryd.underlying28 h
  have g0' : DataW.trod enc Tryd.prog w 0 spare held m 2 [c0] = some y0 := g0
  have g1' : DataW.trod enc Tryd.prog w 0 spare held m 25 [c1] = some y1 := g1
  have g2' : DataW.trod enc Tryd.prog w 0 spare held m 3 [c2] = some y2 := g2
  have g3' : DataW.trod enc Tryd.prog w 0 spare held m 26 [c3, c4, c5, c6, c7, c8, c9, c10] = some y3 := g3
  obtain ⟨n0, e0, _, _⟩ := DataW.trod_int Tryd.underlying2 g0'
  obtain ⟨n1, e1, _, _⟩ := DataW.trod_int Tryd.underlying25 g1'
  obtain ⟨n2, e2, _, _⟩ := DataW.trod_int Tryd.underlying3 g2'
  obtain ⟨xs, m2, _, _, _, hxl, hall⟩ := DataW.trod_array Tryd.underlying26 g3'
  have key : ∀ (i : Nat) (c : Value), i < 8 → [c3, c4, c5, c6, c7, c8, c9, c10][i]? = some c → ∃ n, c = .int .i64 n := fun i c hi hc => by
    have h1 := hall i hi
    rw [cellsI, Nat.mul_one, List.getElem?_eq_getElem (show i < xs.length by omega)] at h1
    obtain ⟨n, e, _, _⟩ := DataW.trod_int Tryd.underlying2 h1
    have h2 := congrArg (·[0]?) e
    simp only [List.getElem?_take, List.getElem?_drop, Nat.add_zero] at h2
    rw [if_pos (by decide), hc] at h2
    exact ⟨n, by simpa using h2⟩
  obtain ⟨a0, k0⟩ := key 0 c3 (by omega) rfl
  obtain ⟨a1, k1⟩ := key 1 c4 (by omega) rfl
  obtain ⟨a2, k2⟩ := key 2 c5 (by omega) rfl
  obtain ⟨a3, k3⟩ := key 3 c6 (by omega) rfl
  obtain ⟨a4, k4⟩ := key 4 c7 (by omega) rfl
  obtain ⟨a5, k5⟩ := key 5 c8 (by omega) rfl
  obtain ⟨a6, k6⟩ := key 6 c9 (by omega) rfl
  obtain ⟨a7, k7⟩ := key 7 c10 (by omega) rfl
  simp only [List.cons.injEq, and_true] at e0 e1 e2
  subst e0 e1 e2 k0 k1 k2 k3 k4 k5 k6 k7
  exact ⟨⟨n0, n1, n2, a0, a1, a2, a3, a4, a5, a6, a7⟩, rfl⟩

end Go.Proofs.YtpcgbkkebgbebaaDoor
