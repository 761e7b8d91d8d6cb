/- The laws' own same: two lists of the same tokens. -/
import Derived.Test.YtmoimmghmmomlaaDoorLx5
namespace Go.Proofs.YtmoimmghmmomlaaDoor
open Go.RowKit Go.BigFrame
set_option linter.unusedVariables false
set_option linter.unusedSimpArgs false

/-- A row of tokens in memory. -/
def IsToks (w : World) (ao : Option Addr) (ts : List Tok) : Prop := ∀ i, i < ts.length → ∃ g o, ao = some ⟨g, o, none⟩ ∧ w.cell? ⟨g, o + i * 4, none⟩ = some (.int .i64 (ts.getD i noTok).k) ∧ w.cell? ⟨g, o + i * 4 + 1, none⟩ = some (.string (ts.getD i noTok).t) ∧ w.cell? ⟨g, o + i * 4 + 2, none⟩ = some (.int .i64 (ts.getD i noTok).n) ∧ w.cell? ⟨g, o + i * 4 + 3, none⟩ = some (.int .i64 (ts.getD i noTok).a)

end Go.Proofs.YtmoimmghmmomlaaDoor
