/- A region that draws its order, whose own operations only read and whose callees make new memory alone: one walk in the order of the text serves every order, in the class of the worlds in which nothing old has turned. -/
import Derived.Test.YtnecmkjmicjbgaaDoorBase
import Derived.Deep.QuietTactic
import Derived.BigQuiet
namespace Go.Proofs.YtnecmkjmicjbgaaDoor
open Go.RowKit
set_option linter.unusedVariables false

/-- The worlds in which nothing of W has turned. -/
structure Ext (W : World) where
  X : World
  h : Below W.heap.size W X

theorem Ext.cell {W : World} (n : Ext W) (b o : Nat) (h : b < W.heap.size) : n.X.cell? ⟨b, o, none⟩ = W.cell? ⟨b, o, none⟩ := n.h.cell (p := ⟨b, o, none⟩) h

theorem wp_region_ext {P : Program} {id : Nat} {Q : Exit → Act → World → Prop} {a : Act} {w : World} {l : List Oper} (hm : P.follows .mixedOrders = true) (hB : Region.lexB .any l.toArray = true)
    (h : wpQuiet P l.toArray (fun X => ∃ n : Ext w, X = n.X) (fun a' => ∀ X, (∃ n : Ext w, X = n.X) → Q .normal a' X) l a) : (Code.region id l.toArray true).wp P Q a w :=
  wp_region_quiet (C := fun X => ∃ n : Ext w, X = n.X) hm hB ⟨⟨_, (Below.refl _ w).drew⟩, rfl⟩ (by simpa using h)

theorem ext_of {P : Program} {f : FuncId} {args : Array Value} {W : World} {n : Ext W} {v : Value}
    (h : Calls P f args n.X fun e w' => e = .returned v ∧ Below n.X.heap.size n.X w') : Calls P f args n.X fun e w'' => e = .returned v ∧ ∃ m : Ext W, w'' = m.X :=
  h.mono fun _ _ ⟨he, hb⟩ => ⟨he, ⟨_, gtrans n.h hb⟩, rfl⟩

end Go.Proofs.YtnecmkjmicjbgaaDoor
