/- What strconv.FormatInt comes to at base 10. -/
import Derived.Test.YtpodpahipapbaaaDoorWb
import Derived.Test.YtpodpahipapbaaaDoorShelfL
import Derived.Shelf.Strconv.Itoa4
import Derived.Lib.AppendIntMem
import Derived.Lib.ItoaLen
namespace Go.Proofs.YtpodpahipapbaaaDoor
open Go.RowKit Go.Shelf Go.Sort
set_option linter.unusedVariables false

/-- The library's table of powers of ten. -/
def PwAt (w : World) : Prop := Lib.TabIs Tryd.prog w "internal/strconv.uint64pow10" .u64 Lib.pow10Tab
theorem PwAt.keep {w u : World} (h : PwAt w) (G : Below w.heap.size w u) : PwAt u := Lib.tabBelow_of_tabIs h u G
theorem formatInt_any (n : Int) (h0 : -9223372036854775808 ≤ n) (h1 : n ≤ 9223372036854775807) (w : World) (T : PwAt w) :
    Calls Tryd.prog 34 #[.int .i64 n, .int .i64 10] w fun e w' => e = .returned (.string ⟨(Lib.itoa n).toArray⟩) ∧ Below w.heap.size w w' :=
  (Any.strconv_FormatInt_10 laysM_n173 n h0 h1 w T).mono fun e w' ⟨he, k, os, hw⟩ => ⟨he, hw ▸ Lib.below_grow _ w (Nat.le_refl _) k os⟩

end Go.Proofs.YtpodpahipapbaaaDoor
