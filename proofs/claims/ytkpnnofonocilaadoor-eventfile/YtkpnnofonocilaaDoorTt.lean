/- The text of a schema. -/
import Derived.Test.YtkpnnofonocilaaDoorChk3
import Derived.Lib.Join
namespace Go.Proofs.YtkpnnofonocilaaDoor
open Go.RowKit Go.BigFrame

def joinT (ss : List ByteArray) : List UInt8 := Lib.join (ss.map (·.data.toList)) [44, 32]
def typeT (t : Ty) : List UInt8 := [116, 121, 112, 101, 32] ++ t.1.data.toList ++ [40] ++ joinT t.2 ++ [41, 10]
def textU (L : List Ty) : Nat → List UInt8
  | 0 => []
  | k + 1 => textU L k ++ typeT (L.getD k noTy)
theorem name_size {x : ByteArray} (h : nameB x = true) : x.size ≤ 16 := (of_decide_eq_true h).2.1
theorem size_mk (l : List UInt8) : (⟨l.toArray⟩ : ByteArray).size = l.length := by simp [ByteArray.size]

end Go.Proofs.YtkpnnofonocilaaDoor
