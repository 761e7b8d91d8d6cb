/- The document's Tree. -/
import Derived.Test.YtaiebhfggjljiaaDoorShc
namespace Go.Proofs.YtaiebhfggjljiaaDoor
open Go.RowKit Go.BigFrame Go.Proofs.YtaiebhfggjljiaaDoor.Ev
set_option linter.unusedVariables false
set_option linter.unusedSimpArgs false

theorem ne_toList {s : ByteArray} (h : s ≠ eS) : (s.toList == ([] : List UInt8)) = false ∧ (s == (⟨#[]⟩ : ByteArray)) = false ∧ s.toList ≠ [] := by
  have h0 : eS.toList = [] := by rw [ByteArray.toList_eq]
  have h1 : s.toList ≠ [] := fun e => h (bytes_inj.1 (by rw [e, h0]))
  exact ⟨beq_eq_false_iff_ne.2 h1, by rw [beq_toListBytes, h0]; exact beq_eq_false_iff_ne.2 h1, h1⟩
end Go.Proofs.YtaiebhfggjljiaaDoor
