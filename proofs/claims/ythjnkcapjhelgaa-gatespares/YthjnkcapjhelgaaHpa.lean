/- A heap in a list, over an order with ties: what sifting keeps, what stands first. -/
import Derived.Test.YthjnkcapjhelgaaRows
namespace Go.Proofs.Ythjnkcapjhelgaa
set_option linter.unusedVariables false
set_option linter.unusedSimpArgs false

/-- An order with ties. -/
structure Swo {β : Type} (lt : β → β → Bool) : Prop where
  asym : ∀ a b, lt a b = true → lt b a = false
  co : ∀ a b c, lt a c = true → lt a b = true ∨ lt b c = true
theorem Swo.irr {β : Type} {lt : β → β → Bool} (S : Swo lt) (a : β) : lt a a = false := by
  cases h : lt a a with
  | false => rfl
  | true => have := S.asym a a h; rw [h] at this; cases this
theorem Swo.trans {β : Type} {lt : β → β → Bool} (S : Swo lt) {a b c : β} (h : lt a b = true) (k : lt b c = true) : lt a c = true := by
  rcases S.co a c b h with h1 | h1
  · exact h1
  · have := S.asym b c k; rw [h1] at this; cases this
theorem Swo.not {β : Type} {lt : β → β → Bool} (S : Swo lt) {a b c : β} (h : lt a b = false) (k : lt b c = false) : lt a c = false := by
  cases h1 : lt a c with
  | false => rfl
  | true =>
    rcases S.co a b c h1 with h2 | h2
    · rw [h] at h2; cases h2
    · rw [k] at h2; cases h2
/-- A thing with the earlier turn stands ahead of an even one. -/
def ahd {β : Type} (lt : β → β → Bool) (x y : β × Nat) : Bool := if x.2 < y.2 then !lt y.1 x.1 else lt x.1 y.1
theorem ahd_tot {β : Type} (lt : β → β → Bool) {x y : β × Nat} (h : x.2 ≠ y.2) : ahd lt x y = !ahd lt y x := by
  unfold ahd
  by_cases h1 : x.2 < y.2
  · rw [if_pos h1, if_neg (by omega)]
  · rw [if_neg h1, if_pos (by omega), Bool.not_not]
theorem ahd_swo {β : Type} {lt : β → β → Bool} (S : Swo lt) : Swo (ahd lt) where
  asym x y h := by
    unfold ahd at *
    by_cases h1 : x.2 < y.2
    · rw [if_pos h1] at h; rw [if_neg (by omega)]; simpa using h
    · rw [if_neg h1] at h
      split
      · simp [h]
      · exact S.asym _ _ h
  co x y z h := by
    unfold ahd at *
    by_cases h1 : x.2 < z.2
    · rw [if_pos h1] at h
      have h : lt z.1 x.1 = false := by simpa using h
      by_cases h2 : x.2 < y.2
      · rw [if_pos h2]
        cases h3 : lt y.1 x.1 with
        | false => exact .inl rfl
        | true =>
          right
          by_cases h4 : y.2 < z.2
          · rw [if_pos h4]
            cases h5 : lt z.1 y.1 with
            | false => rfl
            | true => have := S.trans h5 h3; rw [h] at this; cases this
          · rw [if_neg h4]
            rcases S.co _ z.1 _ h3 with h5 | h5
            · exact h5
            · rw [h] at h5; cases h5
      · rw [if_neg h2, if_pos (show y.2 < z.2 by omega)]
        cases h5 : lt z.1 y.1 with
        | false => exact .inr rfl
        | true =>
          rcases S.co _ x.1 _ h5 with h6 | h6
          · rw [h] at h6; cases h6
          · exact .inl h6
    · rw [if_neg h1] at h
      by_cases h2 : x.2 < y.2
      · rw [if_pos h2, if_neg (show ¬ y.2 < z.2 by omega)]
        cases h3 : lt y.1 x.1 with
        | false => exact .inl rfl
        | true => exact .inr (S.trans h3 h)
      · rw [if_neg h2]
        rcases S.co _ y.1 _ h with h3 | h3
        · exact .inl h3
        · right
          by_cases h4 : y.2 < z.2
          · rw [if_pos h4, S.asym _ _ h3]; rfl
          · rw [if_neg h4]; exact h3

section
variable {γ : Type} {A : γ → γ → Bool} {z : γ}
/-- In the heap none stands ahead of the one above it. -/
def Hp (A : γ → γ → Bool) (z : γ) (h : List γ) : Prop := ∀ i, 0 < i → i < h.length → A (h.getD i z) (h.getD ((i - 1) / 2) z) = false
structure UpI (A : γ → γ → Bool) (z : γ) (h : List γ) (k : Nat) : Prop where
  a : ∀ i, 0 < i → i < h.length → i ≠ k → A (h.getD i z) (h.getD ((i - 1) / 2) z) = false
  b : ∀ i, 0 < i → i < h.length → (i - 1) / 2 = k → 0 < k → A (h.getD i z) (h.getD ((k - 1) / 2) z) = false
structure DnI (A : γ → γ → Bool) (z : γ) (h : List γ) (k : Nat) : Prop where
  a : ∀ i, 0 < i → i < h.length → (i - 1) / 2 ≠ k → A (h.getD i z) (h.getD ((i - 1) / 2) z) = false
  b : ∀ i, 0 < i → i < h.length → (i - 1) / 2 = k → 0 < k → A (h.getD i z) (h.getD ((k - 1) / 2) z) = false
/-- Two things change places. -/
def swp (z : γ) (h : List γ) (i j : Nat) : List γ := (h.set i (h.getD j z)).set j (h.getD i z)
theorem swp_len (h : List γ) (i j : Nat) : (swp z h i j).length = h.length := by simp [swp]
theorem getD_set' (h : List γ) (i j : Nat) (x : γ) (hi : i < h.length) : (h.set i x).getD j z = if j = i then x else h.getD j z := by
  simp only [List.getD_eq_getElem?_getD, List.getElem?_set]
  by_cases e : i = j
  · subst e; simp [hi]
  · rw [if_neg e, if_neg (fun e' => e e'.symm)]
theorem swp_at (h : List γ) (i j k : Nat) (hi : i < h.length) (hj : j < h.length) (hne : i ≠ j) : (swp z h i j).getD k z = if k = i then h.getD j z else if k = j then h.getD i z else h.getD k z := by
  unfold swp
  rw [getD_set' _ _ _ _ (by simpa using hj), getD_set' _ _ _ _ hi]
  by_cases e1 : k = j
  · rw [if_pos e1, if_pos e1, if_neg (by omega)]
  · rw [if_neg e1, if_neg e1]
theorem getD_of_lt (h : List γ) (i : Nat) (hi : i < h.length) : h.getD i z = h[i] := by simp [List.getD_eq_getElem?_getD, hi]
theorem swp_perm (h : List γ) (i j : Nat) (hi : i < h.length) (hj : j < h.length) : (swp z h i j).Perm h := by
  unfold swp
  rw [getD_of_lt h j hj, getD_of_lt h i hi]
  exact List.set_set_perm hi hj
theorem up_step (S : Swo A) {h : List γ} {k : Nat} (U : UpI A z h k) (hk : 0 < k) (hl : k < h.length) (hA : A (h.getD k z) (h.getD ((k - 1) / 2) z) = true) : UpI A z (swp z h k ((k - 1) / 2)) ((k - 1) / 2) := by
  have hp : (k - 1) / 2 < k := by omega
  have hat := fun m => swp_at (z := z) h k ((k - 1) / 2) m hl (by omega) (by omega)
  refine ⟨fun i h0 h1 h2 => ?_, fun i h0 h1 h2 h3 => ?_⟩
  · rw [swp_len] at h1
    rw [hat, hat]
    by_cases e1 : i = k
    · rw [if_pos e1, if_neg (by omega), if_pos (by omega)]
      exact S.asym _ _ hA
    · rw [if_neg e1, if_neg h2]
      by_cases e2 : (i - 1) / 2 = k
      · rw [if_pos e2]
        exact U.b i h0 h1 e2 hk
      · rw [if_neg e2]
        by_cases e3 : (i - 1) / 2 = (k - 1) / 2
        · rw [if_pos e3]
          have q := U.a i h0 h1 e1
          rw [e3] at q
          cases q1 : A (h.getD i z) (h.getD k z) with
          | false => rfl
          | true => rw [S.trans q1 hA] at q; cases q
        · rw [if_neg e3]
          exact U.a i h0 h1 e1
  · rw [swp_len] at h1
    rw [hat, hat]
    rw [if_neg (show ¬ ((k - 1) / 2 - 1) / 2 = k by omega), if_neg (show ¬ ((k - 1) / 2 - 1) / 2 = (k - 1) / 2 by omega)]
    have q2 := U.a ((k - 1) / 2) h3 (by omega) (by omega)
    by_cases e1 : i = k
    · rw [if_pos e1]
      exact q2
    · rw [if_neg e1, if_neg (by omega)]
      have q1 := U.a i h0 h1 e1
      rw [h2] at q1
      exact S.not q1 q2
theorem up_top {h : List γ} (U : UpI A z h 0) : Hp A z h := fun i h0 h1 => U.a i h0 h1 (by omega)
theorem up_done {h : List γ} {k : Nat} (U : UpI A z h k) (hA : A (h.getD k z) (h.getD ((k - 1) / 2) z) = false) : Hp A z h := fun i h0 h1 => by
  by_cases e : i = k
  · subst e; exact hA
  · exact U.a i h0 h1 e
theorem up_push {h : List γ} (H : Hp A z h) (x : γ) : UpI A z (h ++ [x]) h.length := by
  refine ⟨fun i h0 h1 h2 => ?_, fun i h0 h1 h2 h3 => ?_⟩
  · rw [List.length_append, List.length_singleton] at h1
    have q := H i h0 (by omega)
    rw [List.getD_eq_getElem?_getD, List.getD_eq_getElem?_getD, List.getElem?_append_left (by omega), List.getElem?_append_left (by omega), ← List.getD_eq_getElem?_getD, ← List.getD_eq_getElem?_getD]
    exact q
  · rw [List.length_append, List.length_singleton] at h1
    omega
theorem dn_step (S : Swo A) {h : List γ} {k c : Nat} (D : DnI A z h k) (hc0 : 0 < c) (hc : c < h.length) (hp : (c - 1) / 2 = k) (hA : A (h.getD c z) (h.getD k z) = true) (hm : ∀ i, 0 < i → i < h.length → (i - 1) / 2 = k → A (h.getD i z) (h.getD c z) = false) : DnI A z (swp z h k c) c := by
  have hkc : k < c := by omega
  have hat := fun m => swp_at (z := z) h k c m (by omega) hc (by omega)
  refine ⟨fun i h0 h1 h2 => ?_, fun i h0 h1 h2 h3 => ?_⟩
  · rw [swp_len] at h1
    rw [hat, hat]
    by_cases e1 : i = k
    · rw [if_pos e1, if_neg (by omega), if_neg (by omega), e1]
      exact D.b c hc0 hc hp (by omega)
    · rw [if_neg e1]
      by_cases e2 : i = c
      · rw [if_pos e2, e2, if_pos hp]
        exact S.asym _ _ hA
      · rw [if_neg e2]
        by_cases e3 : (i - 1) / 2 = k
        · rw [if_pos e3]
          exact hm i h0 h1 e3
        · rw [if_neg e3, if_neg h2]
          exact D.a i h0 h1 e3
  · rw [swp_len] at h1
    rw [hat, hat, hp, if_pos rfl, if_neg (by omega), if_neg (by omega)]
    have q := D.a i h0 h1 (by omega)
    rw [h2] at q
    exact q
theorem dn_done {h : List γ} {k : Nat} (D : DnI A z h k) (hm : ∀ i, 0 < i → i < h.length → (i - 1) / 2 = k → A (h.getD i z) (h.getD k z) = false) : Hp A z h := fun i h0 h1 => by
  by_cases e : (i - 1) / 2 = k
  · rw [e]; exact hm i h0 h1 e
  · exact D.a i h0 h1 e
/-- What is left when the first is taken away and the last stands in its place. -/
def cutt (z : γ) (h : List γ) : List γ := (h.set 0 (h.getD (h.length - 1) z)).take (h.length - 1)
theorem cutt_len (h : List γ) : (cutt z h).length = h.length - 1 := by simp [cutt]
theorem cutt_dn {h : List γ} (H : Hp A z h) : DnI A z (cutt z h) 0 := by
  refine ⟨fun i h0 h1 h2 => ?_, fun i h0 h1 h2 h3 => by omega⟩
  rw [cutt_len] at h1
  have q := H i h0 (by omega)
  have e : ∀ j, j < h.length - 1 → j ≠ 0 → (cutt z h).getD j z = h.getD j z := fun j h3 h4 => by
    unfold cutt
    rw [List.getD_eq_getElem?_getD, List.getElem?_take, if_pos h3, ← List.getD_eq_getElem?_getD, getD_set' _ _ _ _ (by omega), if_neg h4]
  rw [e i h1 (by omega), e ((i - 1) / 2) (by omega) h2]
  exact q
theorem cutt_perm {h : List γ} (h0 : 0 < h.length) : (h.getD 0 z :: cutt z h).Perm h := by
  rcases List.eq_nil_or_concat h with e | ⟨l, x, e⟩
  · subst e; simp at h0
  · rw [List.concat_eq_append] at e
    subst e
    cases l with
    | nil => simp [cutt]
    | cons y l =>
      have e1 : cutt z (y :: l ++ [x]) = x :: l := by
        unfold cutt
        simp [List.getD_eq_getElem?_getD]
      rw [e1]
      have e2 : (y :: l ++ [x]).getD 0 z = y := rfl
      rw [e2]
      exact List.Perm.cons y (List.perm_append_singleton x l).symm
theorem hp_root (S : Swo A) {h : List γ} (H : Hp A z h) : ∀ i, i < h.length → A (h.getD i z) (h.getD 0 z) = false := by
  intro i
  induction i using Nat.strongRecOn with
  | _ i ih =>
    intro hi
    by_cases e : i = 0
    · subst e; exact S.irr _
    · exact S.not (H i (by omega) hi) (ih ((i - 1) / 2) (by omega) (by omega))
/-- The first of the heap is the first of what it holds in its order. -/
theorem hp_first (S : Swo A) {h : List γ} (H : Hp A z h) {x : γ} {L : List γ} (P : h.Perm (x :: L)) (O : (x :: L).Pairwise fun a b => A a b = true) : h.getD 0 z = x := by
  have hl := P.length_eq
  have h0 : 0 < h.length := by rw [hl]; simp
  have hm : h.getD 0 z ∈ x :: L := P.mem_iff.1 (by rw [getD_of_lt h 0 h0]; exact List.getElem_mem h0)
  rcases List.mem_cons.1 hm with e | e
  · exact e
  · exfalso
    have q := (List.pairwise_cons.1 O).1 _ e
    obtain ⟨i, hi, e2⟩ := List.mem_iff_getElem.1 (P.mem_iff.2 (List.mem_cons_self (a := x) (l := L)))
    have q2 := hp_root S H i hi
    rw [getD_of_lt h i hi, e2, q] at q2
    cases q2
/-- A thing laid among those in their order. -/
def ins (A : γ → γ → Bool) (x : γ) : List γ → List γ
  | [] => [x]
  | y :: l => if A x y = true then x :: y :: l else y :: ins A x l
theorem ins_perm (x : γ) : ∀ l : List γ, (ins A x l).Perm (x :: l)
  | [] => List.Perm.refl _
  | y :: l => by
    unfold ins
    split
    · exact List.Perm.refl _
    · exact (List.Perm.cons y (ins_perm x l)).trans (List.Perm.swap x y l)
theorem ins_mem (x y : γ) (l : List γ) : y ∈ ins A x l ↔ y = x ∨ y ∈ l := by rw [(ins_perm x l).mem_iff, List.mem_cons]
theorem ins_len (x : γ) (l : List γ) : (ins A x l).length = l.length + 1 := by rw [(ins_perm x l).length_eq]; rfl
theorem ins_sorted (S : Swo A) (x : γ) : ∀ l : List γ, (∀ y ∈ l, A x y = false → A y x = true) → l.Pairwise (fun a b => A a b = true) → (ins A x l).Pairwise fun a b => A a b = true
  | [], _, _ => List.pairwise_singleton _ _
  | y :: l, ht, O => by
    unfold ins
    obtain ⟨o1, o2⟩ := List.pairwise_cons.1 O
    split
    · rename_i h1
      refine List.pairwise_cons.2 ⟨fun b hb => ?_, O⟩
      rcases List.mem_cons.1 hb with e | e
      · rw [e]; exact h1
      · exact S.trans h1 (o1 b e)
    · rename_i h1
      refine List.pairwise_cons.2 ⟨fun b hb => ?_, ins_sorted S x l (fun w hw => ht w (List.mem_cons_of_mem _ hw)) o2⟩
      rcases (ins_mem x b l).1 hb with e | e
      · rw [e]; exact ht y (List.mem_cons_self) (by simpa using h1)
      · exact o1 b e
/-- Two lists in their order that hold the same are the same. -/
theorem sorted_eq (S : Swo A) {l m : List γ} (hl : l.Pairwise fun a b => A a b = true) (hm : m.Pairwise fun a b => A a b = true) (P : l.Perm m) : l = m :=
  List.Perm.eq_of_pairwise (fun a b _ _ h k => by rw [S.asym a b h] at k; cases k) hl hm P
end

end Go.Proofs.Ythjnkcapjhelgaa
