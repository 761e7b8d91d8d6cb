/- A condition that comes in: a program, a number and a bool (for CodeEvery). -/
import Derived.Test.YtjeffmfnaihhjaaDoorOpenP2
namespace Go.Proofs.YtjeffmfnaihhjaaDoor
open Go.ChangeShapes Go.WideShapes Go.ChangeAt Go.RowKit Go.BigFrame
set_option linter.unusedVariables false
set_option linter.unusedSimpArgs false

abbrev cndA (p : Prg) (ai : Option Addr) (ci : Nat) (ac : Option Addr) (cc : Nat) (each : Int) (prev : Bool) : Value := .agg #[.slice ai p.code.length ci, .slice ac p.cols.length cc, .int .i64 each, .bool prev]
section
variable {H : Type} {enc : TypeId × Value → H} {w : World} {spare : Nat → Bool} {held : Bool}
theorem cellsCn : Tryd.prog.cellsOf 45 = 4 := by kernel_rfl
set_option maxRecDepth 100000 in
theorem open_cond {fuel : Nat} {cs : Array Value} {y : DataW H × List MemPlace} (hcz : cs.size = 4) (h : DataW.trod enc Tryd.prog w 0 spare held fuel 45 cs.toList = some y) (hw : ∀ n ∈ y.1.weights Tryd.prog 45, n ≤ reachBytes) :
    ∃ (p : Prg) (ai : Option Addr) (ci : Nat) (ac : Option Addr) (cc : Nat) (each : Int) (prev : Bool), .agg cs = cndA p ai ci ac cc each prev ∧ IsPr w p ai ci ac cc ∧ p.ok ∧ fitsB each = true := by
  obtain ⟨l⟩ := cs
  obtain ⟨c0, c1, c2, c3, rfl⟩ : ∃ c0 c1 c2 c3, l = [c0, c1, c2, c3] := by
    match l, hcz with
    | [c0, c1, c2, c3], _ => exact ⟨c0, c1, c2, c3, rfl⟩
  obtain ⟨y0, y1, y2, m, e1, _, g0, g1, g2⟩ := trod_s3 Tryd.underlying45 h
  have g0' : DataW.trod enc Tryd.prog w 0 spare held m 25 (#[c0, c1] : Array Value).toList = some y0 := g0
  have g1' : DataW.trod enc Tryd.prog w 0 spare held m 3 [c2] = some y1 := g1
  have g2' : DataW.trod enc Tryd.prog w 0 spare held m 4 [c3] = some y2 := g2
  obtain ⟨n1, q1, _, r1⟩ := DataW.trod_int Tryd.underlying3 g1'
  obtain ⟨b2, q2, _⟩ := DataW.trod_bool Tryd.underlying4 g2'
  simp only [List.cons.injEq, and_true] at q1 q2
  rw [e1] at hw
  simp only [DataW.weights, Tryd.underlying45, DataW.weightsEach, List.mem_append] at hw
  obtain ⟨p, ai, ci, ac, cc, a1, a2, a3⟩ := open_prog rfl g0' (fun n hn => hw n (by simp [DataW.weightsEach, hn]))
  simp only [prgA, Value.agg.injEq, Array.mk.injEq, List.cons.injEq, and_true] at a1
  obtain ⟨a4, a5⟩ := a1
  subst a4 a5 q1 q2
  exact ⟨p, ai, ci, ac, cc, n1, b2, rfl, a2, a3, wfF7 r1⟩
end

end Go.Proofs.YtjeffmfnaihhjaaDoor
