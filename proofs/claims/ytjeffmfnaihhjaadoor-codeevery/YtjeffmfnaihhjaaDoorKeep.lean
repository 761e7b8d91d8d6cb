/- What a local's cell holds, over calls that make new memory alone. -/
import Derived.Test.YtjeffmfnaihhjaaDoorWb
namespace Go.Proofs.YtjeffmfnaihhjaaDoor
open Go.RowKit
set_option linter.unusedVariables false

/-- A local's cell, over calls that make memory alone, and a new local behind them. -/
theorem kold {W u : World} (G : Below W.heap.size W u) (o : Obj) {b i : Nat} {v : Value} (s : b < W.heap.size) (r : W.cell? ⟨b, i, none⟩ = some v) : (u.alloc o).cell? ⟨b, i, none⟩ = some v :=
  (World.cell?_alloc_past (w := u) o b i (Nat.lt_of_lt_of_le s G.size)).trans ((G.cell (p := ⟨b, i, none⟩) s).trans r)
theorem kkeep {W u : World} (G : Below W.heap.size W u) {b i : Nat} {v : Value} (s : b < W.heap.size) (r : W.cell? ⟨b, i, none⟩ = some v) : u.cell? ⟨b, i, none⟩ = some v := (G.cell (p := ⟨b, i, none⟩) s).trans r
theorem ksize {W u : World} (G : Below W.heap.size W u) (o : Obj) {b : Nat} (s : b < W.heap.size) : b < (u.alloc o).heap.size := by
  show b < (u.heap.push _).size
  simp; exact Nat.lt_succ_of_lt (Nat.lt_of_lt_of_le s G.size)
theorem knew (u : World) (c : Array Value) (t : TypeId) (i : Nat) (v : Value) (h : c[i]? = some v) : (u.alloc (.cells c t)).cell? ⟨u.heap.size, i, none⟩ = some v := by
  rw [World.cell?_alloc_new]; exact h
theorem ksnew (u : World) (o : Obj) : u.heap.size < (u.alloc o).heap.size := by
  show u.heap.size < (u.heap.push _).size
  simp
theorem bsize {W u : World} (G : Below W.heap.size W u) : ∀ b, b < W.heap.size → b < u.heap.size := fun _ h => Nat.lt_of_lt_of_le h G.size
theorem relA {W u : World} (G : Below W.heap.size W u) (k : Bool) (n : Int) (t : TypeId) : ∃ b, Value.pointer (some ⟨u.heap.size, 0, none⟩) = .pointer (some ⟨b, 0, none⟩) ∧ (u.alloc (.cells #[.bool k, .int .i64 n] t)).cell? ⟨b, 0, none⟩ = some (.bool k) ∧ (u.alloc (.cells #[.bool k, .int .i64 n] t)).cell? ⟨b, 1, none⟩ = some (.int .i64 n) ∧ b < (u.alloc (.cells #[.bool k, .int .i64 n] t)).heap.size ∧ Below W.heap.size W (u.alloc (.cells #[.bool k, .int .i64 n] t)) :=
  ⟨_, rfl, knew u _ t 0 _ rfl, knew u _ t 1 _ rfl, ksnew u _, G.alloc G.size _⟩
theorem relB {W u : World} {c : Nat} (G : Below W.heap.size W u) (k : Bool) (n : Int) (h0 : u.cell? ⟨c, 0, none⟩ = some (.bool false)) (h1 : u.cell? ⟨c, 1, none⟩ = some (.int .i64 0)) (hc : c < u.heap.size) (hW : W.heap.size ≤ c) :
    ∃ b, Value.pointer (some ⟨c, 0, none⟩) = .pointer (some ⟨b, 0, none⟩) ∧ ((u.setCell ⟨c, 0, none⟩ (.bool k)).setCell ⟨c, 1, none⟩ (.int .i64 n)).cell? ⟨b, 0, none⟩ = some (.bool k) ∧ ((u.setCell ⟨c, 0, none⟩ (.bool k)).setCell ⟨c, 1, none⟩ (.int .i64 n)).cell? ⟨b, 1, none⟩ = some (.int .i64 n) ∧ b < ((u.setCell ⟨c, 0, none⟩ (.bool k)).setCell ⟨c, 1, none⟩ (.int .i64 n)).heap.size ∧ Below W.heap.size W ((u.setCell ⟨c, 0, none⟩ (.bool k)).setCell ⟨c, 1, none⟩ (.int .i64 n)) := by
  refine ⟨_, rfl, ?_, ?_, ?_, (G.setCell hW _).setCell hW _⟩
  · simp [go_sem, h0]
  · simp [go_sem, h1]
  · simpa [World.setCell] using hc

end Go.Proofs.YtjeffmfnaihhjaaDoor
