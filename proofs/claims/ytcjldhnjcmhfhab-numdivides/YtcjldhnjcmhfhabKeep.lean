/- What a local's cell holds, over calls that make new memory alone. -/
import Derived.WalkKit
namespace Go.Proofs.Ytcjldhnjcmhfhab
open Go.RowKit
set_option linter.unusedVariables false

/-- A local's cell, over calls that make memory alone, and a new local behind them. -/
theorem kold {W u : World} (G : Below W.heap.size W u) (o : Obj) {b i : Nat} {v : Value} (s : b < W.heap.size) (r : W.cell? ⟨b, i, none⟩ = some v) : (u.alloc o).cell? ⟨b, i, none⟩ = some v :=
  (World.cell?_alloc_past (w := u) o b i (Nat.lt_of_lt_of_le s G.size)).trans ((G.cell (p := ⟨b, i, none⟩) s).trans r)
theorem ksize {W u : World} (G : Below W.heap.size W u) (o : Obj) {b : Nat} (s : b < W.heap.size) : b < (u.alloc o).heap.size := by
  show b < (u.heap.push _).size
  simp; exact Nat.lt_succ_of_lt (Nat.lt_of_lt_of_le s G.size)
theorem knew (u : World) (c : Array Value) (t : TypeId) (i : Nat) (v : Value) (h : c[i]? = some v) : (u.alloc (.cells c t)).cell? ⟨u.heap.size, i, none⟩ = some v := by
  rw [World.cell?_alloc_new]; exact h
theorem ksnew (u : World) (o : Obj) : u.heap.size < (u.alloc o).heap.size := by
  show u.heap.size < (u.heap.push _).size
  simp
theorem bsize {W u : World} (G : Below W.heap.size W u) : ∀ b, b < W.heap.size → b < u.heap.size := fun _ h => Nat.lt_of_lt_of_le h G.size
theorem ret_bool {b : Bool} (h : b = true) : Ending.returned (.bool b) = .returned (.bool true) := by rw [h]

end Go.Proofs.Ytcjldhnjcmhfhab
