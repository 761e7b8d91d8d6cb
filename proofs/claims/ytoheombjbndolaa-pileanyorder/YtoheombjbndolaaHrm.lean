/- A merge of two lists in their order. -/
import Derived.Test.YtoheombjbndolaaHpm
namespace Go.Proofs.Ytoheombjbndolaa
open Go.RowKit Go.BigFrame
set_option linter.unusedVariables false
set_option linter.unusedSimpArgs false

def mrgL {γ : Type} (lt : γ → γ → Bool) : List γ → List γ → List γ
  | [], b => b
  | x :: a, [] => x :: a
  | x :: a, y :: b => if lt y x = true then y :: mrgL lt (x :: a) b else x :: mrgL lt a (y :: b)
termination_by a b => a.length + b.length
theorem mrgL_nil {γ : Type} (lt : γ → γ → Bool) (b : List γ) : mrgL lt [] b = b := by unfold mrgL; rfl
theorem mrgL_nil2 {γ : Type} (lt : γ → γ → Bool) (a : List γ) : mrgL lt a [] = a := by cases a <;> simp [mrgL]
theorem mrgL_yes {γ : Type} {lt : γ → γ → Bool} {x y : γ} {a b : List γ} (h : lt y x = true) : mrgL lt (x :: a) (y :: b) = y :: mrgL lt (x :: a) b := by rw [mrgL, if_pos h]
theorem mrgL_no {γ : Type} {lt : γ → γ → Bool} {x y : γ} {a b : List γ} (h : lt y x = false) : mrgL lt (x :: a) (y :: b) = x :: mrgL lt a (y :: b) := by rw [mrgL, if_neg (by simp [h])]
theorem mrgL_perm {γ : Type} (lt : γ → γ → Bool) : ∀ (n : Nat) (a b : List γ), a.length + b.length ≤ n → (mrgL lt a b).Perm (a ++ b)
  | _, [], b, _ => by rw [mrgL_nil]; exact List.Perm.refl _
  | _, x :: a, [], _ => by rw [mrgL_nil2, List.append_nil]
  | 0, x :: a, y :: b, h => by simp at h
  | n + 1, x :: a, y :: b, h => by
    simp only [List.length_cons] at h
    cases e : lt y x with
    | true =>
      rw [mrgL_yes e]
      exact (List.Perm.cons y (mrgL_perm lt n (x :: a) b (by simp; omega))).trans (List.perm_middle (a := y) (l₁ := x :: a) (l₂ := b)).symm
    | false =>
      rw [mrgL_no e]
      exact List.Perm.cons x (mrgL_perm lt n a (y :: b) (by simp; omega))
theorem mrgL_sorted {γ : Type} {A : γ → γ → Bool} (S : Swo A) : ∀ (n : Nat) (a b : List γ), a.length + b.length ≤ n → (∀ x ∈ a, ∀ y ∈ b, A y x = false → A x y = true) → a.Pairwise (fun x y => A x y = true) → b.Pairwise (fun x y => A x y = true) → (mrgL A a b).Pairwise fun x y => A x y = true
  | _, [], b, _, _, _, hb => by rw [mrgL_nil]; exact hb
  | _, x :: a, [], _, _, ha, _ => by rw [mrgL_nil2]; exact ha
  | 0, x :: a, y :: b, h, _, _, _ => by simp at h
  | n + 1, x :: a, y :: b, h, ht, ha, hb => by
    simp only [List.length_cons] at h
    obtain ⟨a1, a2⟩ := List.pairwise_cons.1 ha
    obtain ⟨b1, b2⟩ := List.pairwise_cons.1 hb
    cases e : A y x with
    | true =>
      rw [mrgL_yes e]
      refine List.pairwise_cons.2 ⟨fun w hw => ?_, mrgL_sorted S n (x :: a) b (by simp; omega) (fun u hu v hv => ht u hu v (List.mem_cons_of_mem _ hv)) ha b2⟩
      have hw := (mrgL_perm A n (x :: a) b (by simp; omega)).mem_iff.1 hw
      rcases List.mem_append.1 hw with h1 | h1
      · rcases List.mem_cons.1 h1 with h2 | h2
        · rw [h2]; exact e
        · exact S.trans e (a1 w h2)
      · exact b1 w h1
    | false =>
      rw [mrgL_no e]
      have exy := ht x (List.mem_cons_self) y (List.mem_cons_self) e
      refine List.pairwise_cons.2 ⟨fun w hw => ?_, mrgL_sorted S n a (y :: b) (by simp; omega) (fun u hu v hv => ht u (List.mem_cons_of_mem _ hu) v hv) a2 hb⟩
      have hw := (mrgL_perm A n a (y :: b) (by simp; omega)).mem_iff.1 hw
      rcases List.mem_append.1 hw with h1 | h1
      · exact a1 w h1
      · rcases List.mem_cons.1 h1 with h2 | h2
        · rw [h2]; exact exy
        · exact S.trans exy (b1 w h2)
theorem mrgL_fst {β : Type} (lt : β → β → Bool) : ∀ (n : Nat) (a b : List (β × Nat)), a.length + b.length ≤ n → (∀ x ∈ a, ∀ y ∈ b, x.2 < y.2) → (mrgL (ahd lt) a b).map Prod.fst = mrgL lt (a.map Prod.fst) (b.map Prod.fst)
  | _, [], b, _, _ => by rw [mrgL_nil, List.map_nil, mrgL_nil]
  | _, x :: a, [], _, _ => by rw [mrgL_nil2, List.map_nil, mrgL_nil2]
  | 0, x :: a, y :: b, h, _ => by simp at h
  | n + 1, x :: a, y :: b, h, ht => by
    simp only [List.length_cons] at h
    have hxy := ht x (List.mem_cons_self) y (List.mem_cons_self)
    have e0 : ahd lt y x = lt y.1 x.1 := by unfold ahd; rw [if_neg (by omega)]
    cases e : lt y.1 x.1 with
    | true =>
      rw [mrgL_yes (by rw [e0]; exact e), List.map_cons, mrgL_fst lt n (x :: a) b (by simp; omega) (fun u hu v hv => ht u hu v (List.mem_cons_of_mem _ hv))]
      simp only [List.map_cons]
      rw [mrgL_yes e]
    | false =>
      rw [mrgL_no (by rw [e0]; exact e), List.map_cons, mrgL_fst lt n a (y :: b) (by simp; omega) (fun u hu v hv => ht u (List.mem_cons_of_mem _ hu) v hv)]
      simp only [List.map_cons]
      rw [mrgL_no e]
/-- The list in its order. -/
def srt {β : Type} (lt : β → β → Bool) (l : List β) : List β := (lay lt l).map Prod.fst
theorem srt_len {β : Type} (lt : β → β → Bool) (l : List β) : (srt lt l).length = l.length := by unfold srt; rw [List.length_map, lay_len]
theorem srt_small {β : Type} (lt : β → β → Bool) (l : List β) (h : l.length ≤ 1) : srt lt l = l := by
  match l, h with
  | [], _ => rfl
  | [x], _ => rfl
theorem srt_append {β : Type} {lt : β → β → Bool} (S : Swo lt) (a b : List β) : srt lt (a ++ b) = mrgL lt (srt lt a) (srt lt b) := by
  have key : lay lt (a ++ b) = mrgL (ahd lt) (lay lt a) ((lay lt b).map fun y => (y.1, a.length + y.2)) := by
    have hlow : ∀ x ∈ lay lt a, ∀ y ∈ (lay lt b).map fun y => (y.1, a.length + y.2), x.2 < y.2 := fun x hx y hy => by
      have := lay_lt lt a x hx
      obtain ⟨y', _, rfl⟩ := List.mem_map.1 hy
      show x.2 < a.length + y'.2
      omega
    refine sorted_eq (ahd_swo S) (lay_sorted S _) (mrgL_sorted (ahd_swo S) _ _ _ (Nat.le_refl _) (fun x hx y hy e => ?_) (lay_sorted S a) ?_) ?_
    · have := hlow x hx y hy
      rw [ahd_tot lt (by omega), e]; rfl
    · rw [List.pairwise_map]
      refine (lay_sorted S b).imp ?_
      intro u v h
      unfold ahd at *
      simp only [Nat.add_lt_add_iff_left]
      exact h
    · refine (lay_perm lt _).trans (List.Perm.trans ?_ (mrgL_perm (ahd lt) _ _ _ (Nat.le_refl _)).symm)
      rw [List.zipIdx_append, Nat.zero_add]
      refine List.Perm.append (lay_perm lt a).symm ?_
      have : b.zipIdx a.length = b.zipIdx.map fun y => (y.1, a.length + y.2) := by
        apply List.ext_getElem?
        intro i
        simp [List.getElem?_zipIdx]
        rcases b[i]? with _ | v <;> simp
      rw [this]
      exact ((lay_perm lt b).map _).symm
  unfold srt
  rw [key, mrgL_fst lt _ _ _ (Nat.le_refl _) (fun x hx y hy => by
    have := lay_lt lt a x hx
    obtain ⟨y', _, rfl⟩ := List.mem_map.1 hy
    show x.2 < a.length + y'.2
    omega), List.map_map]
  rfl
theorem flat_take {β : Type} {cv : β → Array Value} {w : World} {ao : Option Addr} {l : List β} (h : Flat w ao (fl cv l)) (k : Nat) : Flat w ao (fl cv (l.take k)) := fun j u hu => h j u (by
  have e : fl cv l = fl cv (l.take k) ++ fl cv (l.drop k) := by rw [← fl_app, List.take_append_drop]
  rw [e, List.getElem?_append_left (List.getElem?_eq_some_iff.1 hu).1]
  exact hu)
theorem flat_drop {β : Type} {cv : β → Array Value} {sz : Nat} (hc : ∀ x, (cv x).size = sz) {w : World} {g o : Nat} {l : List β} (h : Flat w (some ⟨g, o, none⟩) (fl cv l)) (k : Nat) (hk : k ≤ l.length) : Flat w (some ⟨g, o + k * sz, none⟩) (fl cv (l.drop k)) := fun j u hu => by
  have e : fl cv l = fl cv (l.take k) ++ fl cv (l.drop k) := by rw [← fl_app, List.take_append_drop]
  have hl : (fl cv (l.take k)).length = k * sz := by rw [fl_len hc, List.length_take, Nat.min_eq_left hk]
  obtain ⟨g', o', e1, c⟩ := h (k * sz + j) u (by rw [e, List.getElem?_append_right (by omega), hl, Nat.add_sub_cancel_left]; exact hu)
  cases e1
  exact ⟨_, _, rfl, by rw [Nat.add_assoc]; exact c⟩
theorem drop_cons {γ : Type} (L : List γ) (z : γ) (k : Nat) (h : k < L.length) : L.drop k = L.getD k z :: L.drop (k + 1) := by
  rw [List.drop_eq_getElem_cons h, List.getD_eq_getElem?_getD, List.getElem?_eq_getElem h]
  rfl

end Go.Proofs.Ytoheombjbndolaa
