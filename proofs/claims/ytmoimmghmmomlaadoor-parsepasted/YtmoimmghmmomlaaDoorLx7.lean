/- What lex's machine comes to over a whole text: its answer as a function of the text. -/
import Derived.Test.YtmoimmghmmomlaaDoorLx5
import Derived.Test.YtmoimmghmmomlaaDoorLx6
import Derived.Test.YtmoimmghmmomlaaDoorSj
namespace Go.Proofs.YtmoimmghmmomlaaDoor
open Go.RowKit
set_option linter.unusedVariables false

/-- Where the bytes of a class end, from a place on. -/
def runE (f : Int → Bool) (s : ByteArray) (p : Nat) : Nat := if h : p < s.size then (if f (bt s p) then runE f s (p + 1) else p) else p
termination_by s.size - p
theorem runE_stop {f : Int → Bool} {s : ByteArray} {p : Nat} (h : ¬ p < s.size ∨ f (bt s p) = false) : runE f s p = p := by
  unfold runE
  rcases h with h | h
  · rw [dif_neg h]
  · split
    · rw [h]; rfl
    · rfl
theorem runE_on {f : Int → Bool} {s : ByteArray} {p : Nat} (h : p < s.size) (hf : f (bt s p) = true) : runE f s p = runE f s (p + 1) := by
  rw [runE, dif_pos h, if_pos hf]
theorem runE_le (f : Int → Bool) (s : ByteArray) (p : Nat) (hp : p ≤ s.size) : p ≤ runE f s p ∧ runE f s p ≤ s.size := by
  by_cases h : p < s.size
  · cases hf : f (bt s p)
    · rw [runE_stop (.inr hf)]; omega
    · rw [runE_on h hf]
      have := runE_le f s (p + 1) (by omega)
      omega
  · rw [runE_stop (.inl h)]; omega
termination_by s.size - p
theorem runE_in (f : Int → Bool) (s : ByteArray) (p : Nat) : ∀ i, p ≤ i → i < runE f s p → f (bt s i) = true := by
  intro i h1 h2
  by_cases h : p < s.size
  · cases hf : f (bt s p)
    · rw [runE_stop (.inr hf)] at h2; omega
    · rcases Nat.eq_or_lt_of_le h1 with e | e
      · exact e ▸ hf
      · rw [runE_on h hf] at h2
        exact runE_in f s (p + 1) i e h2
  · rw [runE_stop (.inl h)] at h2; omega
termination_by s.size - p
def cmB (n : Int) : Bool := !(n == 10)
/-- The state at a place between two things. -/
def stI (s : ByteArray) (p : Nat) : Int := entI (bt s p) (sgK (s.extract p (p + 1)))
/-- What begins at a place: where it ends, the token, the error. -/
def thing (s : ByteArray) (p : Nat) : Nat × Tok × Int :=
  if stI s p = 1 then (runE wdB s p, wordT s p (runE wdB s p)) else if stI s p = 2 then (runE dgB s p, numT s p (runE dgB s p)) else (sgnE s p, ⟨sgK (s.extract p (sgnE s p)), ⟨#[]⟩, 0, p⟩, 0)
/-- The machine's answer: the code, where it began last, the tokens. -/
def lexR (s : ByteArray) : Nat → Nat → Nat → List Tok → Int × Nat × List Tok
  | 0, p, bg, ts => (0, bg, ts)
  | n + 1, p, bg, ts =>
    if s.size ≤ p then (0, bg, ts)
    else if stI s p = 0 then lexR s n (p + 1) p ts
    else if stI s p = 4 then lexR s n (runE cmB s p) p ts
    else if stI s p = 5 then (31, p, ts)
    else if (thing s p).2.2 ≠ 0 then ((thing s p).2.2, p, ts)
    else if ts.length = 400 then (34, p, ts)
    else lexR s n (thing s p).1 p (ts ++ [(thing s p).2.1])

end Go.Proofs.YtmoimmghmmomlaaDoor
