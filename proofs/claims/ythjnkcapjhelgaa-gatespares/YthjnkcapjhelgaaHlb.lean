/- stable: where it says true. -/
import Derived.Test.YthjnkcapjhelgaaHla
import Derived.Deep.OwnRows
namespace Go.Proofs.Ythjnkcapjhelgaa
open Go.RowKit Go.BigFrame
set_option linter.unusedVariables false
set_option linter.unusedSimpArgs false

/-- The list in its order: each of its things once, none behind one that it is before, even ones as in the list. -/
structure Stb (S M : List Ev) : Prop where
  len : S.length = M.length
  typ : ∀ i, i < S.length → ∃ k : Nat, k < M.length ∧ (S.getD i zeroE).typ = (k : Int) ∧ M.getD k zeroE = S.getD i zeroE
  inj : ∀ i j, i < S.length → j < S.length → (S.getD i zeroE).typ = (S.getD j zeroE).typ → i = j
  ord : ∀ i, 0 < i → i < S.length → evLt (S.getD i zeroE) (S.getD (i - 1) zeroE) = false ∧ (evLt (S.getD (i - 1) zeroE) (S.getD i zeroE) = true ∨ (S.getD (i - 1) zeroE).typ ≤ (S.getD i zeroE).typ)
/-- Was the place k met ahead of i? -/
def seenB (S : List Ev) (i k : Nat) : Bool := (List.range i).any fun j => (S.getD j zeroE).typ == (k : Int)
theorem seenB_succ (S : List Ev) (i k : Nat) : seenB S (i + 1) k = (seenB S i k || (S.getD i zeroE).typ == (k : Int)) := by
  unfold seenB
  rw [List.range_succ, List.any_append]
  simp
theorem seenB_no {S M : List Ev} (h : Stb S M) (i k : Nat) (hi : i < S.length) (hk : (S.getD i zeroE).typ = (k : Int)) : seenB S i k = false := by
  unfold seenB
  rw [List.any_eq_false]
  intro j hj
  have hj := List.mem_range.1 hj
  intro e
  have e : (S.getD j zeroE).typ = (k : Int) := by simpa using e
  have := h.inj j i (by omega) hi (e.trans hk.symm)
  omega
theorem infoB : (Try.prog.info? 4).map (fun i => (i.zero, i.size, i.bytes)) = some (some (.bool false), 1, 1) := by kernel_rfl
theorem range_typ {w : World} {g o : Nat} {x : Ev} (h : w.rangeAt g o (evC x).toList) : w.cell? ⟨g, o + 2, none⟩ = some (.int .i64 x.typ) := h 2 _ rfl
end Go.Proofs.Ythjnkcapjhelgaa
