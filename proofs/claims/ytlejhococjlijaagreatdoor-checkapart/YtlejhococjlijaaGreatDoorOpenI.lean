/- How a list of whole numbers that comes in is opened. -/
import Derived.Test.YtlejhococjlijaaGreatDoorWb
import Derived.ChangeArms
import Derived.ChangeSame
import Derived.ChangeSlices
import Derived.SizedLaws
import Derived.Lib.SmallJoins
import Derived.WideShapes
namespace Go.Proofs.YtlejhococjlijaaGreatDoor
open Go.ChangeShapes Go.WideShapes Go.ChangeAt Go.RowKit
set_option linter.unusedVariables false
set_option linter.unusedSimpArgs false

/-- A row of numbers in memory. -/
def IsInts (w : World) (ao : Option Addr) (zs : List Int) : Prop := ∀ i, i < zs.length → ∃ g o, ao = some ⟨g, o, none⟩ ∧ w.cell? ⟨g, o + i, none⟩ = some (.int .i64 (zs.getD i 0))
theorem IsInts.keep {w u : World} {ao : Option Addr} {zs : List Int} (h : IsInts w ao zs) (G : Below w.heap.size w u) : IsInts u ao zs := fun i hi => by
  obtain ⟨g, o, e, a0⟩ := h i hi
  exact ⟨g, o, e, (G.cell (p := ⟨_, _, none⟩) (lt_of_cell a0)).trans a0⟩
theorem bytesIn : Tryz.prog.bytesOf 3 = 8 := by kernel_rfl

section
variable {H : Type} {enc : TypeId × Value → H} {w : World} {spare : Nat → Bool} {held : Bool}

theorem open_gaps {fuel : Nat} {v : Value} {y : DataW H × List MemPlace} (h : DataW.trod enc Tryz.prog w 0 spare held fuel 49 [v] = some y) (hw : ∀ n ∈ y.1.weights Tryz.prog 49, n ≤ reachBytes) :
    ∃ ao cap zs, v = .slice ao zs.length cap ∧ zs.length ≤ cap ∧ IsInts w ao zs ∧ zs.length * 8 ≤ 140737488351232 := by
  rcases open_ints Tryz.underlying49 Tryz.underlying3 (by kernel_rfl) h with ⟨hcs, _⟩ | ⟨a, l, c, zs, hcs, _, hl, hm, hz, hx, hcell, _⟩
  · simp only [List.cons.injEq, and_true] at hcs
    exact ⟨none, 0, [], hcs, Nat.le_refl _, fun i hi => by simp at hi, by simp⟩
  · simp only [List.cons.injEq, and_true] at hcs
    have hlz : l ≤ zs.length := by split at hz <;> omega
    have hlen : (zs.take l).length = l := by rw [List.length_take]; omega
    have hw0 := hw ((lits .i64 (zs.take l)).length * 8 + (lits .i64 (zs.drop l)).length * 8) (by rw [hx]; simp [DataW.weights, Tryz.underlying49, bytesIn, Nat.add_mul]; exact .inl rfl)
    refine ⟨some a, c, zs.take l, by rw [hlen]; exact hcs, by rw [hlen]; exact hl, fun i hi => ?_, ?_⟩
    · rw [hlen] at hi
      have h1 := hcell i (by omega)
      obtain ⟨ab, ao, asp⟩ := a
      cases asp with
      | some s => have := World.cell?_spot (hcell 0 (by omega)); simp [Addr.add] at this
      | none =>
        rw [add_plain] at h1
        refine ⟨ab, ao, rfl, ?_⟩
        rw [h1, List.getD_eq_getElem?_getD, List.getD_eq_getElem?_getD, List.getElem?_take, if_pos hi]
    · rw [hlen]
      simp only [lits, List.length_map, List.length_take, List.length_drop, reachBytes] at hw0
      omega

end
end Go.Proofs.YtlejhococjlijaaGreatDoor
