/- What Lex answers, by the machine's way; small facts on a text's bytes. -/
import Derived.Test.YtmoimmghmmomlaaDoorLx9
namespace Go.Proofs.YtmoimmghmmomlaaDoor
open Go.RowKit
set_option linter.unusedVariables false
set_option linter.unusedSimpArgs false

/-- The whole answer, of either side. -/
def fin (a : Int × Nat × List Tok) : List Tok × Int × Nat := if a.1 ≠ 0 then ([], a.1, a.2.1) else (a.2.2, 0, 0)

theorem runE_at {f : Int → Bool} {s : ByteArray} {p : Nat} (h : runE f s p < s.size) : f (bt s (runE f s p)) = false := by
  by_cases hp : p < s.size
  · cases hf : f (bt s p)
    · rw [runE_stop (.inr hf)]; exact hf
    · rw [runE_on hp hf] at h ⊢
      exact runE_at h
  · rw [runE_stop (.inl hp)] at h; omega
termination_by s.size - p
theorem bt_extract (s : ByteArray) (p E i : Nat) (h : p + i < E) (hE : E ≤ s.size) : bt (s.extract p E) i = bt s (p + i) := by
  unfold bt
  have h1 : i < (s.extract p E).data.size := by
    show i < (s.extract p E).size
    rw [ByteArray.size_extract]; omega
  have h2 : p + i < s.data.size := Nat.lt_of_lt_of_le h hE
  rw [Array.getD_eq_getD_getElem?, Array.getD_eq_getD_getElem?, Array.getElem?_eq_getElem h1, Array.getElem?_eq_getElem h2]
  simp [ByteArray.data_extract]
theorem one_extract (s : ByteArray) (p : Nat) (h : p < s.size) : s.extract p (p + 1) = ⟨#[s.data.getD p 0]⟩ := by
  have h2 : p < s.data.size := h
  apply ByteArray.ext
  rw [ByteArray.data_extract]
  apply Array.ext
  · simp; omega
  · intro i h3 h4
    have : i = 0 := by simp at h4; omega
    subst this
    simp [Array.getD, h2]
    try (intro h5; omega)
/-- What Lex answers: the tokens, the error, its place. -/
def lexO (s : ByteArray) : List Tok × Int × Nat := if 8192 < s.size then ([], 30, 8192) else fin (lexA s 0 0 [])

end Go.Proofs.YtmoimmghmmomlaaDoor
