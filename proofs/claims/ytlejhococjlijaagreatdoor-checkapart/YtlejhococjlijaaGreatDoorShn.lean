/- A list of nodes taken out of another one; the begins node by node. -/
import Derived.Test.YtlejhococjlijaaGreatDoorCta
namespace Go.Proofs.YtlejhococjlijaaGreatDoor
open Go.RowKit Go.BigFrame Go.Proofs.YtlejhococjlijaaGreatDoor.Ev
set_option linter.unusedVariables false
set_option linter.unusedSimpArgs false

def shI (f : Nat) (a : Int) : Int := if a < 0 then a else a - (f : Int)
def shN (f : Nat) (n : Nd) : Nd := ⟨n.op, n.n, n.v, n.x, shI f n.l, shI f n.r⟩
def subL (ns : List Nd) (f r : Nat) : List Nd := ((ns.drop f).take (r + 1 - f)).map (shN f)
theorem getD_mem_lt {α : Type} (l : List α) (z : α) (i : Nat) (h : i < l.length) : l.getD i z = l[i] := by
  rw [List.getD_eq_getElem?_getD, List.getElem?_eq_getElem h]; rfl
theorem take_succ_getD (bs : List Int) (k : Nat) (h : k < bs.length) : bs.take (k + 1) = bs.take k ++ [bs.getD k 0] := by
  rw [List.take_add_one, List.getElem?_eq_getElem h, getD_mem_lt bs 0 k h]; rfl
/-- Node by node, back. -/
theorem begs_of (ns : List Nd) (bs : List Int) (hl : bs.length = ns.length) (h : ∀ i, i < ns.length → nodeO (ns.getD i noNd) (bs.take i) = some (bs.getD i 0)) : begsO ns [] = some bs := by
  have go : ∀ m k, k + m = ns.length → begsO (ns.drop k) (bs.take k) = some bs := by
    intro m
    induction m with
    | zero =>
      intro k hk
      rw [List.drop_eq_nil_of_le (by omega), List.take_of_length_le (by omega)]
      rfl
    | succ m ih =>
      intro k hk
      rw [begsO_app ns (bs.take k) k (by omega), h k (by omega)]
      dsimp only
      rw [← take_succ_getD bs k (by omega)]
      exact ih (k + 1) (by omega)
  have := go ns.length 0 (by omega)
  simpa using this
/-- Node by node, on. -/
theorem begs_to (ns : List Nd) (bs : List Int) (h : begsO ns [] = some bs) : bs.length = ns.length ∧ ∀ i, i < ns.length → nodeO (ns.getD i noNd) (bs.take i) = some (bs.getD i 0) := by
  have hl : bs.length = ns.length := by have := begsO_len ns [] bs h; simpa using this
  refine ⟨hl, ?_⟩
  have go : ∀ m k l, k + m = ns.length → l.length = k → begsO (ns.drop k) l = some bs → l = bs.take k ∧ ∀ i, k ≤ i → i < ns.length → nodeO (ns.getD i noNd) (bs.take i) = some (bs.getD i 0) := by
    intro m
    induction m with
    | zero =>
      intro k l hk hlk hb
      rw [List.drop_eq_nil_of_le (by omega)] at hb
      simp only [begsO, Option.some.injEq] at hb
      subst hb
      exact ⟨(List.take_of_length_le (by omega)).symm, fun i h1 h2 => by omega⟩
    | succ m ih =>
      intro k l hk hlk hb
      rw [begsO_app ns l k (by omega)] at hb
      cases hn : nodeO (ns.getD k noNd) l with
      | none => rw [hn] at hb; cases hb
      | some b =>
        rw [hn] at hb
        dsimp only at hb
        obtain ⟨e1, e2⟩ := ih (k + 1) (l ++ [b]) (by omega) (by simp; omega) hb
        rw [take_succ_getD bs k (by omega)] at e1
        obtain ⟨e3, e4⟩ := List.append_inj e1 (by rw [hlk, List.length_take]; omega)
        simp only [List.cons.injEq, and_true] at e4
        refine ⟨e3, fun i h1 h2 => ?_⟩
        rcases Nat.eq_or_lt_of_le h1 with e | e
        · subst e; rw [← e3, hn, e4]
        · exact e2 i (by omega) h2
  exact fun i hi => (go ns.length 0 [] (by omega) rfl h).2 i (Nat.zero_le _) hi

end Go.Proofs.YtlejhococjlijaaGreatDoor
