/- What show.Shaped asks of a query, as it is said. -/
import Derived.Test.YtlejhococjlijaaGreatDoorChk2
import Derived.Test.YtlejhococjlijaaGreatDoorShc
import Derived.Test.YtlejhococjlijaaGreatDoorOpenQ2
namespace Go.Proofs.YtlejhococjlijaaGreatDoor
open Go.RowKit Go.BigFrame
set_option linter.unusedVariables false
set_option linter.unusedSimpArgs false

/-- A flaw: code, part, index, sub. -/
structure Fl where
  code : Int
  part : Int
  idx : Int
  sub : Int
def noFl : Fl := ⟨0, 0, 0, 0⟩
def flA (f : Fl) : Array Value := #[.int .i64 f.code, .int .i64 f.part, .int .i64 f.idx, .int .i64 f.sub]

/-- Is it an item of a well shaped query? -/
def bndB (i : It) : Bool := if i.neg = true then decide (i.lo = 1) && decide (i.hi = 1) else decide (0 ≤ i.lo) && decide (0 ≤ i.hi)
def itB (i : It) : Bool := decide (0 < i.ty.length) && (i.ty.all nameB && (nameB i.v && bndB i))
def shapB (q : Qy) : Bool := decide (0 < q.items.length) && (q.items.all itB && (decide (0 ≤ q.mode ∧ q.mode ≤ 2) && (decide (0 ≤ q.after ∧ q.after ≤ 3) && ((decide (q.wh.length = 0) || treeB q.wh) && (decide (0 ≤ q.within) && (((q.by_.toList == []) || nameB q.by_) && q.ret.all treeB))))))

end Go.Proofs.YtlejhococjlijaaGreatDoor
