/- Sort. -/
import Derived.Test.YthjnkcapjhelgaaHpk
namespace Go.Proofs.Ythjnkcapjhelgaa
open Go.RowKit Go.BigFrame
set_option linter.unusedVariables false
set_option linter.unusedSimpArgs false

theorem Gb.toBelow {p : Nat} {v : Value} {N : Nat} {w wr u : World} (G : Gb p v wr u) (B : Below N w wr) (hN : N ≤ w.heap.size) (hp : N ≤ p) (hv : ∀ g, v.ownBlock = some g → N ≤ g) : Below N w u :=
  ⟨G.os.trans B.os, G.tape.trans B.tape, G.output.trans B.output, Nat.le_trans B.size G.size, fun k hk => (G.blk k (by have := B.size; omega) (by omega) (fun e => by have := hv k e; omega)).trans (B.block k hk)⟩
theorem Pa.low {TP TL : TypeId} {sz : Nat} {β : Type} {cv : β → Array Value} {A : β × Nat → β × Nat → Bool} {z : β × Nat} {w : World} {p base : Nat} {v : Value} {L : List (β × Nat)} {t : Nat} (P : Pa TP TL sz cv A z w p base v L t) : ∀ g, v.ownBlock = some g → base ≤ g ∧ g < w.heap.size := fun g e => by
  obtain ⟨xs, O⟩ := P.row
  exact World.ownsRow.lt O g e
theorem evPa_new (w : World) : evPa (w.alloc (.cells #[.slice none 0 0, .int .i64 0] 97)) w.heap.size (w.heap.size + 1) (.slice none 0 0) [] 0 :=
  ⟨[], ⟨Bk.new w _ _, World.ownsRow_nil _ _ _ _, fun g e => by simp [Value.ownBlock] at e⟩, List.Perm.refl _, fun i h0 h1 => by simp at h1, List.Pairwise.nil, fun y hy => by simp at hy⟩
end Go.Proofs.Ythjnkcapjhelgaa
