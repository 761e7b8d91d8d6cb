/- The same spots; the law CheckPlaces, walked. -/
import Derived.Test.YtlejhococjlijaaGreatDoorCpb
namespace Go.Proofs.YtlejhococjlijaaGreatDoor
open Go.RowKit Go.BigFrame
set_option linter.unusedVariables false
set_option linter.unusedSimpArgs false

theorem cellsFw : Tryz.prog.cellsOf 45 = 4 := by kernel_rfl
set_option maxRecDepth 100000 in
theorem open_flaw {H : Type} {enc : TypeId × Value → H} {w : World} {spare : Nat → Bool} {held : Bool} {fuel : Nat} {cs : Array Value} {y : DataW H × List MemPlace} (hz : cs.size = 4) (h : DataW.trod enc Tryz.prog w 0 spare held fuel 45 cs.toList = some y) : ∃ f : Fw, cs = fwA f ∧ f.fit := by
  obtain ⟨l⟩ := cs
  obtain ⟨c0, c1, c2, c3, rfl⟩ : ∃ c0 c1 c2 c3, l = [c0, c1, c2, c3] := by
    match l, (show l.length = 4 from hz) with
    | [c0, c1, c2, c3], _ => exact ⟨c0, c1, c2, c3, rfl⟩
  obtain ⟨y0, y1, y2, y3, m, _, _, g0, g1, g2, g3⟩ := Joins.trod_struct4 Tryz.underlying45 h
  have g0' : DataW.trod enc Tryz.prog w 0 spare held m 42 [c0] = some y0 := g0
  have g1' : DataW.trod enc Tryz.prog w 0 spare held m 43 [c1] = some y1 := g1
  have g2' : DataW.trod enc Tryz.prog w 0 spare held m 3 [c2] = some y2 := g2
  have g3' : DataW.trod enc Tryz.prog w 0 spare held m 3 [c3] = some y3 := g3
  obtain ⟨n0, e0, _, w0⟩ := DataW.trod_int Tryz.underlying42 g0'
  obtain ⟨n1, e1, _, w1⟩ := DataW.trod_int Tryz.underlying43 g1'
  obtain ⟨n2, e2, _, w2⟩ := DataW.trod_int Tryz.underlying3 g2'
  obtain ⟨n3, e3, _, w3⟩ := DataW.trod_int Tryz.underlying3 g3'
  simp only [List.cons.injEq, and_true] at e0 e1 e2 e3
  subst e0 e1 e2 e3
  exact ⟨⟨n0, n1, n2, n3⟩, rfl, nd_wf w0, nd_wf w1, nd_wf w2, nd_wf w3⟩

end Go.Proofs.YtlejhococjlijaaGreatDoor
