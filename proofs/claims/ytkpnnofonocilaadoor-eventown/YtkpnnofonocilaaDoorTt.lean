/- The text of a schema. -/
import Derived.Test.YtkpnnofonocilaaDoorChk3
import Derived.Lib.Join
import Derived.Shelf.Strings.OnBuilder
namespace Go.Proofs.YtkpnnofonocilaaDoor
open Go.RowKit Go.BigFrame

def joinT (ss : List ByteArray) : List UInt8 := Lib.join (ss.map (·.data.toList)) [44, 32]
def typeT (t : Ty) : List UInt8 := [116, 121, 112, 101, 32] ++ t.1.data.toList ++ [40] ++ joinT t.2 ++ [41, 10]
def textU (L : List Ty) : Nat → List UInt8
  | 0 => []
  | k + 1 => textU L k ++ typeT (L.getD k noTy)
theorem name_size {x : ByteArray} (h : nameB x = true) : x.size ≤ 16 := (of_decide_eq_true h).2.1
theorem size_mk (l : List UInt8) : (⟨l.toArray⟩ : ByteArray).size = l.length := by simp [ByteArray.size]
theorem isBuilder_keep {T e : TypeId} {B b : Nat} {bs : List Value} {w u : World} (h : Lib.IsBuilder T e B b bs w) (G : Below w.heap.size w u) : Lib.IsBuilder T e B b bs u := by
  rcases h with h | h
  · obtain ⟨h1, v, h2, h3, h4⟩ := h
    exact .inl ⟨h1, v, (G.block b (lt_of_block h2)).trans h2, own_keep h3 G, h4⟩
  · obtain ⟨h1, v, h2, h3, h4⟩ := h
    exact .inr ⟨h1, v, (G.block b (lt_of_block h2)).trans h2, own_keep h3 G, h4⟩

end Go.Proofs.YtkpnnofonocilaaDoor
