/- From what the row lists of the package's tables ('laid') to the cells that a walk reads. -/
import Derived.Test.YtjeffmfnaihhjaaDoorTruth
import Derived.OpenShut
import Derived.Lib.LaidTab
namespace Go.Proofs.YtjeffmfnaihhjaaDoor
open Go.RowKit
set_option linter.unusedVariables false

theorem laidMet_tail {P : Program} {x : String × DataW Unit} {r : List (String × DataW Unit)} {w : World} (h : laidMet P (x :: r) w) : laidMet P r w := by
  obtain ⟨ps, ⟨g, t, cs, fuel, p, q, hg, ht, hvar, hd, hq, rfl⟩, hn, hall⟩ := h
  refine ⟨q, hq, ?_, fun b off hm => hall b off (List.mem_append_right _ hm)⟩
  exact (List.nodup_append.1 hn).2.1

/-- A table of three rows of three integers that reads as listed holds the nine numbers. -/
theorem tab33 {P : Program} {W : World} {name : String} {z : Nat → Nat → Int} {rest : List (String × DataW Unit)} {g : Nat} {t r e : TypeId}
    (hg : P.globalNamed name = some g) (hty : (P.globals[g]?).map (·.type) = some t) (ht : P.underlying t = some (.array 3 r)) (hr : P.underlying r = some (.array 3 e)) (he : P.underlying e = some (.int .i64)) (hce : P.cellsOf e = 1) (hcr : P.cellsOf r = 3) (hct : P.cellsOf t = 9)
    (h : laidMet P ((name, .agg [Lib.tabData .i64 [z 0 0, z 0 1, z 0 2], Lib.tabData .i64 [z 1 0, z 1 1, z 1 2], Lib.tabData .i64 [z 2 0, z 2 1, z 2 2]]) :: rest) W) :
    ∀ i j : Nat, i < 3 → j < 3 → W.cell? ⟨g, i * 3 + j, none⟩ = some (.int .i64 (z i j)) := by
  obtain ⟨ps, ⟨g', t', cs, fuel, p, q, hg', ht', hvar, hd, _, _⟩, _⟩ := h
  obtain rfl := Option.some.inj (hg.symm.trans hg')
  obtain rfl := Option.some.inj (hty.symm.trans ht')
  obtain ⟨xs, m, _, hx, hlen, hxl, hall⟩ := DataW.trod_array ht hd
  have hx1 : [Lib.tabData .i64 [z 0 0, z 0 1, z 0 2], Lib.tabData .i64 [z 1 0, z 1 1, z 1 2], Lib.tabData .i64 [z 2 0, z 2 1, z 2 2]] = xs.map (·.1) := by
    have := congrArg Prod.fst hx
    simpa using this
  have row : ∀ i, i < 3 → (cs.toList.drop (i * 3)).take 3 = [z i 0, z i 1, z i 2].map fun n => Value.int .i64 n := by
    intro i hi
    have h1 := hall i hi
    rw [hcr] at h1
    obtain ⟨y, hy⟩ : ∃ y, xs[i]? = some y := ⟨xs[i]'(by omega), by simp⟩
    rw [hy] at h1
    have h2 : y.1 = Lib.tabData .i64 [z i 0, z i 1, z i 2] := by
      have h3 : (xs.map (·.1))[i]? = some y.1 := by simp [hy]
      rw [← hx1] at h3
      have : i = 0 ∨ i = 1 ∨ i = 2 := by omega
      rcases this with rfl | rfl | rfl <;> simpa using h3.symm
    obtain ⟨y1, y2⟩ := y
    simp only at h2
    subst h2
    exact Lib.cells_of_tab hr he hce hcr h1
  intro i j hi hj
  rw [World.var?_cell hg hvar]
  have h4 := row i hi
  have h5 := congrArg (·[j]?) h4
  have : j = 0 ∨ j = 1 ∨ j = 2 := by omega
  rcases this with rfl | rfl | rfl <;> simpa [List.getElem?_take, List.getElem?_drop] using h5

theorem tab3 {P : Program} {W : World} {name : String} {z : Nat → Int} {rest : List (String × DataW Unit)} {g : Nat} {t e : TypeId}
    (hg : P.globalNamed name = some g) (hty : (P.globals[g]?).map (·.type) = some t) (ht : P.underlying t = some (.array 3 e)) (he : P.underlying e = some (.int .i64)) (hce : P.cellsOf e = 1) (hct : P.cellsOf t = 3)
    (h : laidMet P ((name, Lib.tabData .i64 [z 0, z 1, z 2]) :: rest) W) : ∀ i : Nat, i < 3 → W.cell? ⟨g, i, none⟩ = some (.int .i64 (z i)) := by
  intro i hi
  have hT := Lib.tabIs_of_head (rest := rest) hg hty ht he hce hct h
  rw [hT.cell hg i (by simpa using hi)]
  have : i = 0 ∨ i = 1 ∨ i = 2 := by omega
  rcases this with rfl | rfl | rfl <;> rfl
def notI (a : Int) : Int := if a = 0 then 2 else if a = 1 then 1 else 0
theorem notI_eq (i : Nat) (h : i < 3) : notI i = 2 - i := by
  have : i = 0 ∨ i = 1 ∨ i = 2 := by omega
  rcases this with rfl | rfl | rfl <;> decide
theorem block_of {w : World} {b o : Nat} {v : Value} (h : w.cell? ⟨b, o, none⟩ = some v) : b < w.heap.size := by
  rcases Nat.lt_or_ge b w.heap.size with g | g
  · exact g
  · have e : w.heap[b]? = none := by simp; omega
    simp [World.cell?, e] at h

end Go.Proofs.YtjeffmfnaihhjaaDoor
