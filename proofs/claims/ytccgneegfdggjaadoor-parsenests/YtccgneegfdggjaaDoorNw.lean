/- The law's loop over the kinds of openings: what it has written. -/
import Derived.Test.YtccgneegfdggjaaDoorNu
namespace Go.Proofs.YtccgneegfdggjaaDoor
open Go.RowKit
set_option linter.unusedVariables false
set_option linter.unusedSimpArgs false

def stpN (x : List Nat × Bool) (k : Int) : List Nat × Bool := if k = 1 ∧ x.2 = true then (x.1 ++ [1], true) else if k = 2 then (x.1 ++ [2], false) else (x.1 ++ [0], true)
def effN (l : List Int) (i : Nat) : List Nat × Bool := (l.take i).foldl stpN ([], true)
theorem effN_zero (l : List Int) : effN l 0 = ([], true) := rfl
theorem effN_succ (l : List Int) (i : Nat) (h : i < l.length) : effN l (i + 1) = stpN (effN l i) (l.getD i 0) := by
  unfold effN
  rw [List.take_succ_eq_append_getElem h, List.foldl_append]
  simp [List.getD, List.getElem?_eq_getElem h]
def endK : Bool → List Nat → Bool
  | b, [] => b
  | b, k :: r => endK (if k = 2 then false else true) r
theorem okK_snoc : ∀ (ks : List Nat) (b : Bool) (k : Nat), okK b ks → okK (endK b ks) [k] → okK b (ks ++ [k])
  | [], _, _, _, h => h
  | x :: r, b, k, h, g => by
    rcases h with ⟨rfl, h⟩ | ⟨rfl, hb, h⟩ | ⟨rfl, h⟩
    · exact .inl ⟨rfl, okK_snoc r _ k h g⟩
    · exact .inr (.inl ⟨rfl, hb, okK_snoc r _ k h g⟩)
    · exact .inr (.inr ⟨rfl, okK_snoc r _ k h g⟩)
theorem endK_snoc : ∀ (ks : List Nat) (b : Bool) (k : Nat), endK b (ks ++ [k]) = (if k = 2 then false else true)
  | [], _, _ => rfl
  | x :: r, b, k => endK_snoc r _ k
theorem txO_snoc : ∀ (ks : List Nat) (k : Nat), txO (ks ++ [k]) = txO ks ++ pcO k
  | [], k => by simp [txO]
  | x :: r, k => by simp [txO, txO_snoc r k]
theorem brK_snoc : ∀ (ks : List Nat) (k : Nat), brK (ks ++ [k]) = brK ks + (if k = 0 then 1 else 0)
  | [], k => by simp [brK]
  | x :: r, k => by simp [brK, brK_snoc r k]; omega
theorem effN_ok (l : List Int) : ∀ i, i ≤ l.length → okK true (effN l i).1 ∧ endK true (effN l i).1 = (effN l i).2 ∧ (effN l i).1.length = i := by
  intro i
  induction i with
  | zero => intro _; exact ⟨trivial, rfl, rfl⟩
  | succ i ih =>
    intro h
    obtain ⟨h1, h2, h3⟩ := ih (by omega)
    rw [effN_succ l i (by omega)]
    unfold stpN
    split
    · rename_i hc
      exact ⟨okK_snoc _ _ _ h1 (by rw [h2]; exact .inr (.inl ⟨rfl, hc.2, trivial⟩)), by rw [endK_snoc]; rfl, by simp [h3]⟩
    · split
      · exact ⟨okK_snoc _ _ _ h1 (.inr (.inr ⟨rfl, trivial⟩)), by rw [endK_snoc]; rfl, by simp [h3]⟩
      · exact ⟨okK_snoc _ _ _ h1 (.inl ⟨rfl, trivial⟩), by rw [endK_snoc]; rfl, by simp [h3]⟩
theorem brK_le : ∀ ks, brK ks ≤ ks.length
  | [] => by simp [brK]
  | k :: r => by have := brK_le r; simp only [brK, List.length_cons]; split <;> omega
/-- Where the thirty-third opens; -1: none does. -/
def deepN (ks : List Nat) : Int := if 32 < ks.length then ((txO (ks.take 32)).length : Int) else -1

end Go.Proofs.YtccgneegfdggjaaDoor
