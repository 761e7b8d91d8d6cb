/- A list laid down in its order. -/
import Derived.Test.YthjnkcapjhelgaaHpa
import Derived.Test.YthjnkcapjhelgaaRw0
import Derived.Deep.MidRow
namespace Go.Proofs.Ythjnkcapjhelgaa
open Go.RowKit Go.BigFrame
set_option linter.unusedVariables false
set_option linter.unusedSimpArgs false

/-- What a pile holds, in its order, once a list is laid down. -/
def lay {β : Type} (lt : β → β → Bool) (l : List β) : List (β × Nat) := l.zipIdx.foldl (fun L x => ins (ahd lt) x L) []
theorem lay_nil {β : Type} (lt : β → β → Bool) : lay lt [] = [] := rfl
theorem lay_snoc {β : Type} (lt : β → β → Bool) (l : List β) (x : β) : lay lt (l ++ [x]) = ins (ahd lt) (x, l.length) (lay lt l) := by
  unfold lay
  rw [List.zipIdx_append, List.foldl_append]
  simp
theorem foldl_ins_perm {γ : Type} (A : γ → γ → Bool) : ∀ (l L : List γ), (l.foldl (fun L x => ins A x L) L).Perm (l ++ L)
  | [], L => List.Perm.refl _
  | x :: l, L => by
    refine (foldl_ins_perm A l (ins A x L)).trans ?_
    refine (List.Perm.append_left l (ins_perm x L)).trans ?_
    exact List.perm_middle
theorem lay_perm {β : Type} (lt : β → β → Bool) (l : List β) : (lay lt l).Perm l.zipIdx := by
  have := foldl_ins_perm (ahd lt) l.zipIdx []
  rwa [List.append_nil] at this
theorem lay_len {β : Type} (lt : β → β → Bool) (l : List β) : (lay lt l).length = l.length := by rw [(lay_perm lt l).length_eq, List.length_zipIdx]
theorem lay_mem {β : Type} (lt : β → β → Bool) (l : List β) (y : β × Nat) (h : y ∈ lay lt l) : l[y.2]? = some y.1 := by
  have := (lay_perm lt l).mem_iff.1 h
  exact List.mem_zipIdx_iff_getElem?.1 this
theorem lay_lt {β : Type} (lt : β → β → Bool) (l : List β) (y : β × Nat) (h : y ∈ lay lt l) : y.2 < l.length := (List.getElem?_eq_some_iff.1 (lay_mem lt l y h)).1
theorem lay_sorted {β : Type} {lt : β → β → Bool} (S : Swo lt) (l : List β) : (lay lt l).Pairwise fun a b => ahd lt a b = true := by
  generalize hn : l.length = n
  induction n generalizing l with
  | zero => obtain rfl := List.length_eq_zero_iff.1 hn; exact List.Pairwise.nil
  | succ n ih =>
    obtain ⟨l', x, rfl⟩ : ∃ l' x, l = l' ++ [x] := by
      rcases List.eq_nil_or_concat l with e | ⟨l', x, e⟩
      · subst e; simp at hn
      · exact ⟨l', x, by rw [e, List.concat_eq_append]⟩
    have hn' : l'.length = n := by simpa using hn
    rw [lay_snoc]
    refine ins_sorted (ahd_swo S) _ _ (fun y hy e => ?_) (ih l' hn')
    have := lay_lt lt l' y hy
    rw [ahd_tot lt (by show y.2 ≠ l'.length; omega), e]
    rfl
/-- The element i of a row. -/
theorem flat_range {β : Type} {cv : β → Array Value} {sz : Nat} (hc : ∀ x, (cv x).size = sz) (z : β) {w : World} {g o : Nat} {l : List β} (h : Flat w (some ⟨g, o, none⟩) (fl cv l)) (i : Nat) (hi : i < l.length) : w.rangeAt g (o + i * sz) (cv (l.getD i z)).toList := fun j v hv => by
  have hj := (List.getElem?_eq_some_iff.1 hv).1
  rw [Array.length_toList, hc] at hj
  obtain ⟨g', o', e, c⟩ := h (i * sz + j) v (by rw [fl_at hc z l i j hi hj]; exact hv)
  cases e
  rw [Nat.add_assoc]
  exact c
theorem take_snoc {γ : Type} (L : List γ) (z : γ) (k : Nat) (h : k < L.length) : L.take (k + 1) = L.take k ++ [L.getD k z] := by
  rw [List.take_add_one, List.getD_eq_getElem?_getD, List.getElem?_eq_getElem h]
  rfl

end Go.Proofs.Ythjnkcapjhelgaa
