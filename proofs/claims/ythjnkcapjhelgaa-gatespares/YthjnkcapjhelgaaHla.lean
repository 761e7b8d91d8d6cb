/- What the statements of the pile ask of lists of events. -/
import Derived.Test.YthjnkcapjhelgaaEve
import Derived.Test.YthjnkcapjhelgaaHpl
namespace Go.Proofs.Ythjnkcapjhelgaa
open Go.RowKit Go.BigFrame
set_option linter.unusedVariables false
set_option linter.unusedSimpArgs false

/-- The list with each event's place in it as its type. -/
def mkd (l : List Ev) : List Ev := l.mapIdx fun i e => { e with typ := (i : Int) }
theorem mkd_len (l : List Ev) : (mkd l).length = l.length := by simp [mkd]
theorem mkd_at (l : List Ev) (i : Nat) (x : Ev) (h : (mkd l)[i]? = some x) : x.typ = (i : Int) := by
  simp only [mkd, List.getElem?_mapIdx, Option.map_eq_some_iff] at h
  obtain ⟨y, _, rfl⟩ := h
  rfl
theorem mkd_snoc (l : List Ev) (x : Ev) : mkd (l ++ [x]) = mkd l ++ [{ x with typ := (l.length : Int) }] := by simp [mkd, List.mapIdx_append]
end Go.Proofs.Ythjnkcapjhelgaa
