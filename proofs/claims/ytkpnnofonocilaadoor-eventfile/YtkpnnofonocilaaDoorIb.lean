/- A builder is kept. -/
import Derived.Test.YtkpnnofonocilaaDoorChk3
import Derived.Shelf.Strings.OnBuilder
namespace Go.Proofs.YtkpnnofonocilaaDoor
open Go.RowKit Go.BigFrame Go.Shelf

theorem isBuilder_keep {T e : TypeId} {B b : Nat} {bs : List Value} {w u : World} (h : Lib.IsBuilder T e B b bs w) (G : Below w.heap.size w u) : Lib.IsBuilder T e B b bs u := by
  rcases h with h | h
  · obtain ⟨h1, v, h2, h3, h4⟩ := h
    exact .inl ⟨h1, v, (G.block b (lt_of_block h2)).trans h2, own_keep h3 G, h4⟩
  · obtain ⟨h1, v, h2, h3, h4⟩ := h
    exact .inr ⟨h1, v, (G.block b (lt_of_block h2)).trans h2, own_keep h3 G, h4⟩

end Go.Proofs.YtkpnnofonocilaaDoor
