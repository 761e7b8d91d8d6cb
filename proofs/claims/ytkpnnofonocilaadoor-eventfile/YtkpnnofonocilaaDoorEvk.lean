/- The numbers of an event that comes in are of their types. -/
import Derived.Test.YtkpnnofonocilaaDoorChk4
namespace Go.Proofs.YtkpnnofonocilaaDoor

/-- The numbers of an event are of their types. -/
structure Ev.ok (e : Ev) : Prop where
  t0 : -9223372036854775808 ≤ e.ts
  t1 : e.ts ≤ 9223372036854775807
  i0 : 0 ≤ e.id
  i1 : e.id < 18446744073709551616
  at0 : ∀ j, j < 8 → -9223372036854775808 ≤ e.at j
  at1 : ∀ j, j < 8 → e.at j ≤ 9223372036854775807

end Go.Proofs.YtkpnnofonocilaaDoor
