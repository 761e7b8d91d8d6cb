/- The machine's answer does not hang on the fuel. -/
import Derived.Test.YtmoimmghmmomlaaDoorLx8
namespace Go.Proofs.YtmoimmghmmomlaaDoor
open Go.RowKit
set_option linter.unusedVariables false
set_option linter.unusedSimpArgs false

theorem stI_cases (s : ByteArray) (p : Nat) : (stI s p = 0 ∧ blB (bt s p) = true) ∨ (stI s p = 4 ∧ bt s p = 35) ∨ (stI s p = 1 ∧ ltB (bt s p) = true) ∨ (stI s p = 2 ∧ dgB (bt s p) = true) ∨ (stI s p = 3 ∧ sgK (s.extract p (p + 1)) ≠ 0) ∨ stI s p = 5 := by
  unfold stI entI
  by_cases h1 : blB (bt s p) = true
  · simp [h1]
  rw [if_neg h1]
  by_cases h2 : bt s p = 35
  · simp [h2]
  rw [if_neg h2]
  by_cases h3 : ltB (bt s p) = true
  · simp [h3]
  rw [if_neg h3]
  by_cases h4 : dgB (bt s p) = true
  · simp [h4]
  rw [if_neg h4]
  by_cases h5 : sgK (s.extract p (p + 1)) ≠ 0
  · simp [h5]
  · simp [h5]
theorem sgnE_le (s : ByteArray) (p : Nat) (h : p < s.size) : p < sgnE s p ∧ sgnE s p ≤ s.size := by
  unfold sgnE
  split
  · rename_i h1; omega
  · omega
theorem thing_le (s : ByteArray) (p : Nat) (h : p < s.size) : p < (thing s p).1 ∧ (thing s p).1 ≤ s.size := by
  unfold thing
  split
  · rename_i h1
    have hw : wdB (bt s p) = true := by
      rcases stI_cases s p with ⟨e, _⟩ | ⟨e, _⟩ | ⟨e, h2⟩ | ⟨e, _⟩ | ⟨e, _⟩ | e
      · rw [e] at h1; exact absurd h1 (by decide)
      · rw [e] at h1; exact absurd h1 (by decide)
      · unfold wdB; rw [h2]; rfl
      · rw [e] at h1; exact absurd h1 (by decide)
      · rw [e] at h1; exact absurd h1 (by decide)
      · rw [e] at h1; exact absurd h1 (by decide)
    have := runE_le wdB s (p + 1) (by omega)
    show p < runE wdB s p ∧ runE wdB s p ≤ s.size
    rw [runE_on h hw]
    omega
  · split
    · rename_i h1
      have hw : dgB (bt s p) = true := by
        rcases stI_cases s p with ⟨e, _⟩ | ⟨e, _⟩ | ⟨e, h2⟩ | ⟨e, h2⟩ | ⟨e, _⟩ | e
        · rw [e] at h1; exact absurd h1 (by decide)
        · rw [e] at h1; exact absurd h1 (by decide)
        · rw [e] at h1; exact absurd h1 (by decide)
        · exact h2
        · rw [e] at h1; exact absurd h1 (by decide)
        · rw [e] at h1; exact absurd h1 (by decide)
      have := runE_le dgB s (p + 1) (by omega)
      show p < runE dgB s p ∧ runE dgB s p ≤ s.size
      rw [runE_on h hw]
      omega
    · exact sgnE_le s p h
theorem comment_le (s : ByteArray) (p : Nat) (h : p < s.size) (h4 : stI s p = 4) : p < runE cmB s p ∧ runE cmB s p ≤ s.size := by
  have hw : cmB (bt s p) = true := by
    rcases stI_cases s p with ⟨e, _⟩ | ⟨e, h2⟩ | ⟨e, _⟩ | ⟨e, _⟩ | ⟨e, _⟩ | e
    · rw [e] at h4; exact absurd h4 (by decide)
    · rw [h2]; rfl
    · rw [e] at h4; exact absurd h4 (by decide)
    · rw [e] at h4; exact absurd h4 (by decide)
    · rw [e] at h4; exact absurd h4 (by decide)
    · rw [e] at h4; exact absurd h4 (by decide)
  have := runE_le cmB s (p + 1) (by omega)
  rw [runE_on h hw]
  omega
theorem lexR_fuel (s : ByteArray) : ∀ (n m p bg : Nat) (ts : List Tok), s.size ≤ p + n → s.size ≤ p + m → lexR s n p bg ts = lexR s m p bg ts := by
  intro n
  induction n with
  | zero =>
    intro m p bg ts h1 h2
    cases m with
    | zero => rfl
    | succ m => unfold lexR; rw [if_pos (by omega)]
  | succ n ih =>
    intro m p bg ts h1 h2
    cases m with
    | zero => unfold lexR; rw [if_pos (by omega)]
    | succ m =>
      unfold lexR
      by_cases hp : s.size ≤ p
      · rw [if_pos hp, if_pos hp]
      rw [if_neg hp, if_neg hp]
      have hp' : p < s.size := by omega
      by_cases h0 : stI s p = 0
      · rw [if_pos h0, if_pos h0]
        exact ih m _ _ _ (by omega) (by omega)
      rw [if_neg h0, if_neg h0]
      by_cases h4 : stI s p = 4
      · rw [if_pos h4, if_pos h4]
        have := comment_le s p hp' h4
        exact ih m _ _ _ (by omega) (by omega)
      rw [if_neg h4, if_neg h4]
      have := thing_le s p hp'
      rw [ih m (thing s p).1 p (ts ++ [(thing s p).2.1]) (by omega) (by omega)]
/-- The machine's answer from a place on. -/
def lexA (s : ByteArray) (p bg : Nat) (ts : List Tok) : Int × Nat × List Tok := lexR s (s.size - p) p bg ts
theorem lexA_end (s : ByteArray) (bg : Nat) (ts : List Tok) : lexA s s.size bg ts = (0, bg, ts) := by
  unfold lexA
  rw [Nat.sub_self]
  rfl
theorem lexA_step (s : ByteArray) (p bg : Nat) (ts : List Tok) (hp : p < s.size) : lexA s p bg ts =
    if stI s p = 0 then lexA s (p + 1) p ts else if stI s p = 4 then lexA s (runE cmB s p) p ts else if stI s p = 5 then (31, p, ts)
    else if (thing s p).2.2 ≠ 0 then ((thing s p).2.2, p, ts) else if ts.length = 400 then (34, p, ts) else lexA s (thing s p).1 p (ts ++ [(thing s p).2.1]) := by
  obtain ⟨n, hn⟩ : ∃ n, s.size - p = n + 1 := ⟨s.size - p - 1, by omega⟩
  have h1 := thing_le s p hp
  unfold lexA
  rw [hn]
  conv => lhs; unfold lexR
  rw [if_neg (by omega)]
  by_cases h0 : stI s p = 0
  · rw [if_pos h0, if_pos h0]
    exact lexR_fuel s _ _ _ _ _ (by omega) (by omega)
  rw [if_neg h0, if_neg h0]
  by_cases h4 : stI s p = 4
  · rw [if_pos h4, if_pos h4]
    have := comment_le s p hp h4
    exact lexR_fuel s _ _ _ _ _ (by omega) (by omega)
  rw [if_neg h4, if_neg h4]
  rw [lexR_fuel s n (s.size - (thing s p).1) (thing s p).1 p (ts ++ [(thing s p).2.1]) (by omega) (by omega)]

end Go.Proofs.YtmoimmghmmomlaaDoor
