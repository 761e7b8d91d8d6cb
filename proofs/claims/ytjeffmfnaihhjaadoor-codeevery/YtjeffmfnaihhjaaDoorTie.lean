/-
  DERIVED. GIVEN WITH THE SEED: THE PROGRAM's TIES (one call each: nine closed facts by the kernel) AND EACH ROW's TIE, after the 31st guide's Derived/Test/Toyas{Tie, Card}.lean. No idea stands in it: it is a product of the set-up. Laid BY PROGRAM, IN A SANDBOX (cutbox-door.mjs). By AI agents, Wed Nov 11 2026. No macro, syntax, notation, axiom, sorry.
-/
import Derived.Test.YtjeffmfnaihhjaaDoorRows
import Derived.LaidByTextLater
import Derived.SevenTiedAt
import Derived.LaidSub
import Derived.LaidOnce
namespace Go.Proofs.YtjeffmfnaihhjaaDoor
open Go
set_option maxRecDepth 100000
theorem seatTie1 : Tryd.prog.laidByTextLater [("sluice/num.andTable", Rows.laid_sluice_num_andTable), ("sluice/num.orTable", Rows.laid_sluice_num_orTable), ("sluice/num.notTable", Rows.laid_sluice_num_notTable), ("sluice/code.operands", Rows.laid_sluice_code_operands)] [.wider, .wider, .wider, .data] true :=
  Program.laidByTextLater_by_one 35 8 28 (by kernel_rfl) (by kernel_rfl) (by kernel_rfl) (by kernel_rfl) (by kernel_rfl) (by kernel_rfl) (fun _ _ => by kernel_rfl)
theorem noOwnUnsafe : Tryd.pinned.checked.prog.headLifts.contains "ownunsafe" = false := by kernel_rfl
theorem tie : Tryd.prog.laidByTextLater [("sluice/num.andTable", Rows.laid_sluice_num_andTable), ("sluice/num.orTable", Rows.laid_sluice_num_orTable), ("sluice/num.notTable", Rows.laid_sluice_num_notTable), ("sluice/code.operands", Rows.laid_sluice_code_operands)] [.wider, .wider, .wider, .data] true :=
  Program.laidByTextLater.sub seatTie1 ["sluice/num.andTable", "sluice/num.orTable", "sluice/num.notTable", "sluice/code.operands"] (by kernel_rfl) (by kernel_rfl)
theorem codeRuns_row_tie : Rows.codeRunsRow.laidByTextAt .later Tryd.pinned [.wider, .wider, .wider, .data] true :=
  OpenClaim.laidByTextAt_later rfl rfl tie noOwnUnsafe
theorem codeEvery_row_tie : Rows.codeEveryRow.laidByTextAt .later Tryd.pinned [.wider, .wider, .wider, .data] true :=
  OpenClaim.laidByTextAt_later rfl rfl tie noOwnUnsafe
theorem codeRunsUpto_row_tie : Rows.codeRunsUptoRow.laidByTextAt .later Tryd.pinned [.wider, .wider, .wider, .data] true :=
  OpenClaim.laidByTextAt_later rfl rfl tie noOwnUnsafe
theorem codeEveryUpto_row_tie : Rows.codeEveryUptoRow.laidByTextAt .later Tryd.pinned [.wider, .wider, .wider, .data] true :=
  OpenClaim.laidByTextAt_later rfl rfl tie noOwnUnsafe
end Go.Proofs.YtjeffmfnaihhjaaDoor
