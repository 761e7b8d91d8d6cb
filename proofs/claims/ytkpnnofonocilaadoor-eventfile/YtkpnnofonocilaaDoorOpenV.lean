/- How a list of events that comes in is opened. -/
import Derived.Test.YtkpnnofonocilaaDoorOpenE
import Derived.Test.YtkpnnofonocilaaDoorWe2
import Derived.Deep.MidRow
import Derived.SizedLaws
import Derived.WideShapes
namespace Go.Proofs.YtkpnnofonocilaaDoor
open Go.ChangeShapes Go.WideShapes Go.ChangeAt Go.RowKit
set_option linter.unusedVariables false
set_option linter.unusedSimpArgs false

theorem add_add (a : Addr) (m j : Nat) : (a.add m).add j = a.add (m + j) := by
  unfold Addr.add
  by_cases hm : m = 0
  · subst hm; simp
  · by_cases hj : j = 0
    · subst hj; simp
    · rw [if_neg hm, if_neg hj, if_neg (by omega)]
      simp [Nat.add_assoc]
theorem bytesEv : Tryd.prog.bytesOf 44 = 88 := by kernel_rfl
theorem cellsEv11 : Tryd.prog.cellsOf 44 = 11 := by kernel_rfl
theorem zeroE_ok : zeroE.ok := ⟨by decide, by decide, by decide, by decide, fun j hj => by rcases (show j = 0 ∨ j = 1 ∨ j = 2 ∨ j = 3 ∨ j = 4 ∨ j = 5 ∨ j = 6 ∨ j = 7 from by omega) with rfl | rfl | rfl | rfl | rfl | rfl | rfl | rfl <;> decide, fun j hj => by rcases (show j = 0 ∨ j = 1 ∨ j = 2 ∨ j = 3 ∨ j = 4 ∨ j = 5 ∨ j = 6 ∨ j = 7 from by omega) with rfl | rfl | rfl | rfl | rfl | rfl | rfl | rfl <;> decide⟩
/-- The events of a list, in memory. -/
def IsEvs (w : World) (ao : Option Addr) (es : List Ev) : Prop := ∀ i, i < es.length → ∃ g o, ao = some ⟨g, o, none⟩ ∧ w.rangeAt g (o + i * 11) (evC (es.getD i zeroE)).toList ∧ g < w.heap.size
theorem IsEvs.keep {w u : World} {ao : Option Addr} {es : List Ev} (h : IsEvs w ao es) (G : Below w.heap.size w u) : IsEvs u ao es := fun i hi => by
  obtain ⟨g, o, e, hr, hg⟩ := h i hi
  exact ⟨g, o, e, fun j v hv => (G.cell (p := ⟨g, _, none⟩) hg).trans (hr j v hv), Nat.lt_of_lt_of_le hg G.size⟩

section
variable {H : Type} {enc : TypeId × Value → H} {w : World} {spare : Nat → Bool} {held : Bool}

set_option maxRecDepth 100000 in
theorem open_events {fuel : Nat} {v : Value} {y : DataW H × List MemPlace} (h : DataW.trod enc Tryd.prog w 0 spare held fuel 54 [v] = some y) (hw : ∀ n ∈ y.1.weights Tryd.prog 54, n ≤ reachBytes) :
    ∃ ao cap es, v = .slice ao es.length cap ∧ es.length ≤ cap ∧ IsEvs w ao es ∧ es.length * 88 ≤ 140737488351232 ∧ ∀ k, (es.getD k zeroE).ok := by
  rcases DataW.trod_slice Tryd.underlying54 h with ⟨hcs, _⟩ | ⟨a, len, cap, elems, rest, fu, _, hcs, hx, _, hl, hm, hlen, hel, _, _⟩
  · simp only [List.cons.injEq, and_true] at hcs
    exact ⟨none, 0, [], hcs, Nat.le_refl _, fun i hi => by simp at hi, by simp, fun k => by simp; exact zeroE_ok⟩
  · simp only [List.cons.injEq, and_true] at hcs
    have hw0 := hw ((elems.map (·.1)).length * 88 + (rest.map (·.1)).length * 88) (by rw [hx]; simp [DataW.weights, Tryd.underlying54, bytesEv, Nat.add_mul])
    have each : ∀ i : Nat, ∃ t : Ev, t.ok ∧ (i < len → ∀ j v, (evC t).toList[j]? = some v → w.cell? (a.add (i * 11 + j)) = some v) := by
      intro i
      by_cases hi : i < len
      · have h1 := hel i hi
        rw [cellsEv11, List.getElem?_eq_getElem (by omega), Option.bind_eq_some_iff] at h1
        obtain ⟨cs', h2, h3⟩ := h1
        obtain ⟨_, hcl, hce⟩ := World.cells?_some h2
        obtain ⟨ev, he, hk⟩ := open_event_ok (cs := cs'.toArray) (by simpa using hcl) (by simpa using h3)
        refine ⟨ev, hk, fun _ j v hv => ?_⟩
        have he' : cs' = (evC ev).toList := by rw [← he]
        have hj : j < 11 := by
          have := (List.getElem?_eq_some_iff.1 hv).1
          exact this
        have d := hce j (by omega)
        rw [add_add] at d
        rw [d, he', List.getElem?_eq_getElem (show j < (evC ev).toList.length from hj)] 
        rw [List.getElem?_eq_getElem (show j < (evC ev).toList.length from hj)] at hv
        exact hv
      · exact ⟨zeroE, zeroE_ok, fun h => absurd h hi⟩
    obtain ⟨f, hf⟩ : ∃ f : Nat → Ev, ∀ i : Nat, (f i).ok ∧ (i < len → ∀ j v, (evC (f i)).toList[j]? = some v → w.cell? (a.add (i * 11 + j)) = some v) := ⟨fun j => Classical.choose (each j), fun j => Classical.choose_spec (each j)⟩
    have hget : ∀ j, j < len → ((List.range len).map f).getD j zeroE = f j := fun j hj => by simp [List.getD, hj]
    have hlen2 : ((List.range len).map f).length = len := by simp
    refine ⟨some a, cap, (List.range len).map f, by rw [hlen2]; exact hcs, by rw [hlen2]; exact hl, fun i hi => ?_, ?_, fun j => ?_⟩
    · rw [hlen2] at hi
      obtain ⟨ab, ao, asp⟩ := a
      cases asp with
      | some s => have := World.cell?_spot ((hf 0).2 (by omega) 0 _ rfl); simp [Addr.add] at this
      | none =>
        have e0 := (hf i).2 hi
        rw [hget i hi]
        refine ⟨ab, ao, rfl, fun j v hv => ?_, ?_⟩
        · have := e0 j v hv
          rw [add_plain, ← Nat.add_assoc] at this
          exact this
        · have := e0 0 _ rfl
          rw [add_plain] at this
          exact lt_of_cell this
    · rw [hlen2]
      unfold reachBytes at hw0
      simp at hw0
      omega
    · by_cases hj : j < len
      · rw [hget j hj]; exact (hf j).1
      · have : ((List.range len).map f).getD j zeroE = zeroE := by simp [List.getD, hj]
        rw [this]; exact zeroE_ok

end

end Go.Proofs.YtkpnnofonocilaaDoor
