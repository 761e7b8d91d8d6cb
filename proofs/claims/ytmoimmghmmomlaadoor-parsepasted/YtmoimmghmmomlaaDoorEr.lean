/- What the listed variables hold: the signs, the library's ErrRange. -/
import Derived.Test.YtmoimmghmmomlaaDoorLx6
import Derived.MakeChecks
namespace Go.Proofs.YtmoimmghmmomlaaDoor
open Go.RowKit
set_option linter.unusedVariables false

theorem sg_len : sgl.length = 19 := rfl
theorem sgAt_of {W : World} (h : ∀ i bs, sgl[i]? = some bs → W.cell? ⟨2, i, none⟩ = some (.string ⟨bs.toArray⟩)) : SgAt W := by
  have hc : ∀ j, j < 19 → W.cell? ⟨2, j, none⟩ = some (.string (sg j)) := fun j hj => by
    have hl : j < sgl.length := by rw [sg_len]; exact hj
    rw [h j sgl[j] (List.getElem?_eq_getElem hl)]
    simp [sg, List.getD, List.getElem?_eq_getElem hl]
  exact ⟨lt_of_cell (hc 0 (by omega)), hc⟩
/-- A variable that is listed as an interface value holds one. -/
theorem ifaceAt {P : Program} {W : World} {name dn : String} {d : DataW Unit} {rest : List (String × DataW Unit)} {g : Nat} {t : TypeId}
    (hg : P.globalNamed name = some g) (hty : (P.globals[g]?).map (·.type) = some t) (ht : ∃ ms, P.underlying t = some (.interface ms))
    (h : laidMet P ((name, .iface dn d) :: rest) W) : ∃ te pe, W.cell? ⟨g, 0, none⟩ = some (.iface te pe) := by
  obtain ⟨ps, ⟨g', t', cs, fuel, p, q, hg', ht', hvar, hd, _, _⟩, _⟩ := h
  obtain rfl := Option.some.inj (hg.symm.trans hg')
  obtain rfl := Option.some.inj (hty.symm.trans ht')
  obtain ⟨ms, ht⟩ := ht
  cases fuel with
  | zero => simp [DataW.trod] at hd
  | succ m =>
    unfold DataW.trod at hd
    rw [ht] at hd
    rw [World.var?_cell hg hvar]
    rcases cs with _ | ⟨c, _ | ⟨c2, r⟩⟩
    · simp at hd
    · cases c <;> simp at hd
      exact ⟨_, _, rfl⟩
    · simp at hd

end Go.Proofs.YtmoimmghmmomlaaDoor
