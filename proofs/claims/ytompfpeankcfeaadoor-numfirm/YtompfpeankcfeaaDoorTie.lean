/-
  DERIVED. GIVEN WITH THE SEED: THE PROGRAM's TIES (one call each: nine closed facts by the kernel) AND EACH ROW's TIE, after the 31st guide's Derived/Test/Toyas{Tie, Card}.lean. No idea stands in it: it is a product of the set-up. Laid BY PROGRAM, IN A SANDBOX (cutbox-door.mjs). By AI agents, Wed Nov 11 2026. No macro, syntax, notation, axiom, sorry.
-/
import Derived.Test.YtompfpeankcfeaaDoorRows
import Derived.LaidByTextLater
import Derived.SevenTiedAt
import Derived.LaidSub
import Derived.LaidOnce
namespace Go.Proofs.YtompfpeankcfeaaDoor
open Go
set_option maxRecDepth 100000
theorem seatTie1 : Tryd.prog.laidByTextLater [("sluice/num.andTable", Rows.laid_sluice_num_andTable), ("sluice/num.orTable", Rows.laid_sluice_num_orTable), ("sluice/num.notTable", Rows.laid_sluice_num_notTable)] [.wider, .wider, .wider] true :=
  Program.laidByTextLater_by_one 30 8 10 (by kernel_rfl) (by kernel_rfl) (by kernel_rfl) (by kernel_rfl) (by kernel_rfl) (by kernel_rfl) (fun _ _ => by kernel_rfl)
theorem noOwnUnsafe : Tryd.pinned.checked.prog.headLifts.contains "ownunsafe" = false := by kernel_rfl
theorem tie : Tryd.prog.laidByTextLater [("sluice/num.andTable", Rows.laid_sluice_num_andTable), ("sluice/num.orTable", Rows.laid_sluice_num_orTable), ("sluice/num.notTable", Rows.laid_sluice_num_notTable)] [.wider, .wider, .wider] true :=
  Program.laidByTextLater.sub seatTie1 ["sluice/num.andTable", "sluice/num.orTable", "sluice/num.notTable"] (by kernel_rfl) (by kernel_rfl)
theorem numFirm_row_tie : Rows.numFirmRow.laidByTextAt .later Tryd.pinned [.wider, .wider, .wider] true :=
  OpenClaim.laidByTextAt_later rfl rfl tie noOwnUnsafe
theorem numRuns_row_tie : Rows.numRunsRow.laidByTextAt .later Tryd.pinned [.wider, .wider, .wider] true :=
  OpenClaim.laidByTextAt_later rfl rfl tie noOwnUnsafe
theorem numFirmUpto_row_tie : Rows.numFirmUptoRow.laidByTextAt .later Tryd.pinned [.wider, .wider, .wider] true :=
  OpenClaim.laidByTextAt_later rfl rfl tie noOwnUnsafe
theorem numRunsUpto_row_tie : Rows.numRunsUptoRow.laidByTextAt .later Tryd.pinned [.wider, .wider, .wider] true :=
  OpenClaim.laidByTextAt_later rfl rfl tie noOwnUnsafe
end Go.Proofs.YtompfpeankcfeaaDoor
