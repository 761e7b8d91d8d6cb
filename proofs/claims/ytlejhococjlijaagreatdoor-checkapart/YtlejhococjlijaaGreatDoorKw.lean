/- The keywords of package api, as the row lists them, and the cells that a walk reads. -/
import Derived.Test.YtlejhococjlijaaGreatDoorRows
import Derived.WalkKit
import Derived.WalkSpells
import Derived.WalkLawsBesides
import Derived.Deep.RegionWith
import Derived.ProofKit
import Derived.OpenShut
import Derived.Lib.LaidTab
namespace Go.Proofs.YtlejhococjlijaaGreatDoor
open Go.RowKit
set_option linter.unusedVariables false

/-- The keywords' bytes, in their order. -/
def kwl : List (List UInt8) := [[80, 65, 84, 84, 69, 82, 78], [83, 69, 81], [85, 83, 73, 78, 71], [65, 78, 89], [78, 69, 88, 84], [83, 84, 82, 73, 67, 84], [87, 72, 69, 82, 69], [87, 73, 84, 72, 73, 78], [80, 65, 82, 84, 73, 84, 73, 79, 78], [66, 89], [82, 69, 84, 85, 82, 78], [65, 78, 68], [79, 82], [78, 79, 84], [84, 82, 85, 69], [70, 65, 76, 83, 69], [67, 79, 85, 78, 84], [83, 85, 77], [77, 73, 78], [77, 65, 88], [70, 73, 82, 83, 84], [76, 65, 83, 84], [80, 82, 69, 86], [65, 70, 84, 69, 82], [65, 76, 76], [80, 65, 83, 84], [79, 78, 67, 69]]
def kw (j : Nat) : ByteArray := ⟨(kwl.getD j []).toArray⟩
def kwcells : Array Value := (kwl.map fun b => Value.string ⟨b.toArray⟩).toArray
/-- The variable Keywords holds the keywords. -/
def KwAt (w : World) : Prop := 0 < w.heap.size ∧ ∀ j, j < 27 → w.cell? ⟨0, j, none⟩ = some (.string (kw j))
theorem KwAt.keep {w u : World} (h : KwAt w) (G : Below w.heap.size w u) : KwAt u :=
  ⟨Nat.lt_of_lt_of_le h.1 G.size, fun j hj => (G.cell (p := ⟨_, j, none⟩) h.1).trans (h.2 j hj)⟩

theorem laidMet_tail {P : Program} {x : String × DataW Unit} {r : List (String × DataW Unit)} {w : World} (h : laidMet P (x :: r) w) : laidMet P r w := by
  obtain ⟨ps, ⟨g, t, cs, fuel, p, q, hg, ht, hvar, hd, hq, rfl⟩, hn, hall⟩ := h
  refine ⟨q, hq, ?_, fun b off hm => hall b off (List.mem_append_right _ hm)⟩
  exact (List.nodup_append.1 hn).2.1

/-- A table of strings that reads as listed. -/
theorem tabS {P : Program} {W : World} {name : String} {bss : List (List UInt8)} {rest : List (String × DataW Unit)} {g n : Nat} {t e : TypeId}
    (hg : P.globalNamed name = some g) (hty : (P.globals[g]?).map (·.type) = some t) (ht : P.underlying t = some (.array n e)) (he : P.underlying e = some .string) (hce : P.cellsOf e = 1)
    (h : laidMet P ((name, .agg (bss.map fun b => .lit (.string b))) :: rest) W) : ∀ i bs, bss[i]? = some bs → W.cell? ⟨g, i, none⟩ = some (.string ⟨bs.toArray⟩) := by
  obtain ⟨ps, ⟨g', t', cs, fuel, p, q, hg', ht', hvar, hd, _, _⟩, _⟩ := h
  obtain rfl := Option.some.inj (hg.symm.trans hg')
  obtain rfl := Option.some.inj (hty.symm.trans ht')
  obtain ⟨xs, m, _, hx, hlen, hxl, hall⟩ := DataW.trod_array ht hd
  have hx1 : (bss.map fun b => (DataW.lit (.string b) : DataW Unit)) = xs.map (·.1) := by
    have := congrArg Prod.fst hx
    simpa using this
  intro i bs hi
  have h3 : (xs.map (·.1))[i]? = some (.lit (.string bs)) := by rw [← hx1]; simp [hi]
  simp only [List.getElem?_map, Option.map_eq_some_iff] at h3
  obtain ⟨y, hy, hy1⟩ := h3
  have hin : i < n := by have := (List.getElem?_eq_some_iff.1 hy).1; omega
  have h1 := hall i hin
  rw [hce, hy] at h1
  obtain ⟨sb, hcs, hxy, _⟩ := DataW.trod_string he h1
  have hb : bs = sb.data.toList := by
    have := congrArg Prod.fst hxy
    rw [hy1] at this
    simpa using this
  have hsb : (⟨bs.toArray⟩ : ByteArray) = sb := by rw [hb]
  rw [World.var?_cell hg hvar, hsb]
  have h5 := congrArg (·[0]?) hcs
  simpa [List.getElem?_take, List.getElem?_drop] using h5

theorem kwAt_of {W : World} (h : ∀ i bs, kwl[i]? = some bs → W.cell? ⟨0, i, none⟩ = some (.string ⟨bs.toArray⟩)) : KwAt W := by
  have hc : ∀ j, j < 27 → W.cell? ⟨0, j, none⟩ = some (.string (kw j)) := fun j hj => by
    have hl : j < kwl.length := by have : kwl.length = 27 := rfl; omega
    rw [h j kwl[j] (List.getElem?_eq_getElem hl)]
    simp [kw, List.getD, List.getElem?_eq_getElem hl]
  refine ⟨?_, hc⟩
  have := hc 0 (by omega)
  rcases Nat.lt_or_ge 0 W.heap.size with g | g
  · exact g
  · simp [World.cell?, Array.getElem?_eq_none g] at this

end Go.Proofs.YtlejhococjlijaaGreatDoor
