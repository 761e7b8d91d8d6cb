/- Where a flaw stands: the entries of lists, Place of both sides. -/
import Derived.Test.YtlejhococjlijaaGreatDoorOpenQ2
import Derived.Test.YtlejhococjlijaaGreatDoorTwo
namespace Go.Proofs.YtlejhococjlijaaGreatDoor
open Go.RowKit Go.BigFrame
set_option linter.unusedVariables false
set_option linter.unusedSimpArgs false

def entI (zs : List Int) (i : Int) : Int := if i < 0 ∨ (zs.length : Int) ≤ i then 0 else zs.getD i.toNat 0
def entR (l : List (List Int)) (i : Int) : List Int := if i < 0 ∨ (l.length : Int) ≤ i then [] else l.getD i.toNat []
theorem Blk4 (w : World) (a b c d : Value) (t : TypeId) : (w.alloc (.cells #[a, b, c, d] t)).cell? ⟨w.heap.size, 2, none⟩ = some c ∧ (w.alloc (.cells #[a, b, c, d] t)).cell? ⟨w.heap.size, 3, none⟩ = some d := ⟨by simp, by simp⟩
/-- A flaw: its code, part, index, sub. -/
structure Fw where
  code : Int
  part : Int
  ix : Int
  sub : Int
structure Fw.fit (f : Fw) : Prop where
  code : fI f.code
  part : fI f.part
  ix : fI f.ix
  sub : fI f.sub
def fwA (f : Fw) : Array Value := #[.int .i64 f.code, .int .i64 f.part, .int .i64 f.ix, .int .i64 f.sub]
def plaO (s : Sps) (f : Fw) : Int :=
  if f.part = 1 then entI s.items f.ix else if f.part = 2 then s.within else if f.part = 3 then s.by_ else if f.part = 4 then entI s.wh f.ix else if f.part = 5 then entI (entR s.ret f.ix) f.sub else 0
theorem entR_small {s : Sps} (hs : s.fit) (i : Int) : (entR s.ret i).length * 8 ≤ 140737488351232 := by
  unfold entR
  split
  · simp
  · exact hs.ret _
end Go.Proofs.YtlejhococjlijaaGreatDoor
