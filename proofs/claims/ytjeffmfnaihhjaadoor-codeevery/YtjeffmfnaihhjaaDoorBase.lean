/- Small facts on worlds in which new memory alone was made; num's known. -/
import Derived.Test.YtjeffmfnaihhjaaDoorWb
import Derived.Test.YtjeffmfnaihhjaaDoorMath
import Derived.WalkKit
import Derived.WalkSpells
import Derived.WalkLawsBesides
import Derived.Deep.RegionWith
import Derived.ProofKit
namespace Go.Proofs.YtjeffmfnaihhjaaDoor
open Go.RowKit
set_option linter.unusedVariables false

theorem fits_wf {a : Int} (h : (Lit.int .i64 a).wf = true) : fitsB a = true := by
  rw [fits_iff]; simp [Lit.wf] at h; exact h

set_option maxHeartbeats 400000 in
theorem known_any (n : Int) (w : World) :
    Calls Tryd.prog 36 #[.int .i64 n] w fun e w' => e = .returned (.agg #[.bool true, .int .i64 n]) ∧ Below w.heap.size w w' := by
  go_enter Tryd.func36, Tryd.ntmps36
  go_wp2
  exact bodyPost_ret (v := .agg #[.bool true, .int .i64 n]) (by simp [results, Tryd.results36, go_sem]) rfl ⟨rfl, (Below.refl _ _).alloc (Nat.le_refl _) _⟩

end Go.Proofs.YtjeffmfnaihhjaaDoor
