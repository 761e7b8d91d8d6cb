/- A query, its spots: plain data. -/
import Derived.Test.YtlejhococjlijaaGreatDoorWb
namespace Go.Proofs.YtlejhococjlijaaGreatDoor
set_option linter.unusedVariables false
set_option linter.unusedSimpArgs false

structure It where
  neg : Bool
  ty : List ByteArray
  v : ByteArray
  lo : Int
  hi : Int
structure Qy where
  items : List It
  mode : Int
  after : Int
  wh : List Nd
  within : Int
  by_ : ByteArray
  ret : List (List Nd)
structure Sps where
  items : List Int
  wh : List Int
  within : Int
  by_ : Int
  ret : List (List Int)

end Go.Proofs.YtlejhococjlijaaGreatDoor
