/- A row of tokens that is owned, read token by token. -/
import Derived.Test.YtmoimmghmmomlaaDoorSm
import Derived.Test.YtmoimmghmmomlaaDoorLx11
namespace Go.Proofs.YtmoimmghmmomlaaDoor
open Go.RowKit Go.BigFrame
set_option linter.unusedVariables false

theorem toksV_at (ts : List Tok) : ∀ i, i < ts.length → ∀ j, j < 4 → (toksV ts)[i * 4 + j]? = (tokA (ts.getD i noTok)).toList[j]? := by
  induction ts with
  | nil => intro i hi; simp at hi
  | cons t r ih =>
    intro i hi j hj
    have e : toksV (t :: r) = (tokA t).toList ++ toksV r := rfl
    have hl : (tokA t).toList.length = 4 := rfl
    rw [e]
    cases i with
    | zero =>
      rw [Nat.zero_mul, Nat.zero_add, List.getElem?_append_left (by omega)]
      rfl
    | succ i =>
      rw [List.getElem?_append_right (by omega), hl, show (i + 1) * 4 + j - 4 = i * 4 + j by omega]
      rw [ih i (by simpa using hi) j hj]
      rfl
theorem toks_of_own {w : World} {base : Nat} {v : Value} {ts : List Tok} (h : w.ownsRow base 79 4 v ts.length (toksV ts)) : ∃ ao cap, v = .slice ao ts.length cap ∧ IsToks w ao ts := by
  rcases h.2 with ⟨rfl, h0⟩ | ⟨g, cap, cur, rfl, hb, hh, r⟩
  · exact ⟨none, 0, by rw [h0], fun i hi => by omega⟩
  · refine ⟨_, cap, rfl, fun i hi => ⟨g, 0, rfl, ?_⟩⟩
    have hc : ∀ j, j < 4 → w.cell? ⟨g, i * 4 + j, none⟩ = (tokA (ts.getD i noTok)).toList[j]? := fun j hj => by
      rw [World.ownsRow.cellAt h (i * 4 + j) (by omega), toksV_at ts i hi j hj]
    refine ⟨?_, ?_, ?_, ?_⟩
    · rw [Nat.zero_add]; exact hc 0 (by omega)
    · rw [Nat.zero_add]; exact hc 1 (by omega)
    · rw [Nat.zero_add]; exact hc 2 (by omega)
    · rw [Nat.zero_add]; exact hc 3 (by omega)
theorem IsToks.keep {w u : World} {ao : Option Addr} {ts : List Tok} (h : IsToks w ao ts) (G : Below w.heap.size w u) : IsToks u ao ts := fun i hi => by
  obtain ⟨g, o, e, a0, a1, a2, a3⟩ := h i hi
  exact ⟨g, o, e, (G.cell (p := ⟨_, _, none⟩) (lt_of_cell a0)).trans a0, (G.cell (p := ⟨_, _, none⟩) (lt_of_cell a1)).trans a1, (G.cell (p := ⟨_, _, none⟩) (lt_of_cell a2)).trans a2, (G.cell (p := ⟨_, _, none⟩) (lt_of_cell a3)).trans a3⟩
theorem lexA_len (s : ByteArray) : ∀ n p bg ts, s.size ≤ p + n → ts.length ≤ 400 → (lexR s n p bg ts).2.2.length ≤ 400 := by
  intro n
  induction n with
  | zero => intro p bg ts _ h; exact h
  | succ n ih =>
    intro p bg ts hp h
    unfold lexR
    split
    · exact h
    · split
      · exact ih _ _ _ (by omega) h
      · split
        · rename_i h4; have := comment_le s p (by omega) h4; exact ih _ _ _ (by omega) h
        · split
          · exact h
          · split
            · exact h
            · split
              · exact h
              · have := thing_le s p (by omega)
                exact ih _ _ _ (by omega) (by rw [List.length_append]; show ts.length + 1 ≤ 400; omega)
theorem lexO_len (s : ByteArray) : (lexO s).1.length ≤ 400 := by
  unfold lexO
  split
  · exact Nat.zero_le _
  · have h := lexA_len s (s.size - 0) 0 0 [] (by omega) (Nat.zero_le _)
    unfold fin
    split
    · exact Nat.zero_le _
    · exact h

end Go.Proofs.YtmoimmghmmomlaaDoor
