/- What a well shaped tree's nodes are. -/
import Derived.Test.YtlejhococjlijaaGreatDoorShc
namespace Go.Proofs.YtlejhococjlijaaGreatDoor
open Go.RowKit Go.BigFrame Go.Proofs.YtlejhococjlijaaGreatDoor.Ev
set_option linter.unusedVariables false
set_option linter.unusedSimpArgs false

/-- What is known of each node of a well shaped tree. -/
structure WsAt (ns : List Nd) (bs : List Int) (i : Nat) : Prop where
  lf : 1 ≤ (ns.getD i noNd).op ∧ (ns.getD i noNd).op ≤ 26
  lo : 0 ≤ bs.getD i 0 ∧ bs.getD i 0 ≤ (i : Int)
  leaf : (ns.getD i noNd).op ≤ 11 → leafN (ns.getD i noNd) = true
  one : (ns.getD i noNd).op = 12 ∨ (ns.getD i noNd).op = 13 → 0 < i ∧ (ns.getD i noNd).l = (i : Int) - 1 ∧ bs.getD i 0 = bs.getD (i - 1) 0
  two : 14 ≤ (ns.getD i noNd).op → 0 < i ∧ (ns.getD i noNd).r = (i : Int) - 1 ∧ 1 ≤ bs.getD (i - 1) 0 ∧ (ns.getD i noNd).l = bs.getD (i - 1) 0 - 1 ∧ bs.getD i 0 = bs.getD (bs.getD (i - 1) 0 - 1).toNat 0
theorem begs_at : ∀ (ns : List Nd) (pre bs : List Int), begsO ns pre = some bs → (∃ more, bs = pre ++ more) ∧ ∀ k, k < ns.length → nodeO (ns.getD k noNd) (bs.take (pre.length + k)) = some (bs.getD (pre.length + k) 0)
  | [], pre, bs, h => by
    simp [begsO] at h
    subst h
    exact ⟨⟨[], (List.append_nil _).symm⟩, fun k hk => absurd hk (Nat.not_lt_zero _)⟩
  | n :: t, pre, bs, h => by
    unfold begsO at h
    cases hn : nodeO n pre with
    | none => rw [hn] at h; cases h
    | some b =>
      rw [hn] at h
      obtain ⟨⟨more, hm⟩, h2⟩ := begs_at t (pre ++ [b]) bs h
      refine ⟨⟨b :: more, by rw [hm, List.append_assoc]; rfl⟩, fun k hk => ?_⟩
      cases k with
      | zero =>
        show nodeO n (bs.take (pre.length + 0)) = _
        rw [Nat.add_zero, hm, List.append_assoc, List.take_left', hn]
        · rw [List.getD_eq_getElem?_getD, List.getElem?_append_right (Nat.le_refl _), Nat.sub_self]; rfl
        · rfl
      | succ k =>
        have h3 := h2 k (by simpa using hk)
        rw [List.length_append, show pre.length + [b].length + k = pre.length + (k + 1) by simp; omega] at h3
        exact h3
theorem ws_of {ns : List Nd} {bs : List Int} (h : begsO ns [] = some bs) : ∀ i, i < ns.length → WsAt ns bs i := by
  obtain ⟨_, h2⟩ := begs_at ns [] bs h
  have hlen : bs.length = ns.length := by have := begsO_len ns [] bs h; simpa using this
  have hB : Bgs bs := by
    have go : ∀ (ns : List Nd) (pre bs : List Int), Bgs pre → begsO ns pre = some bs → Bgs bs := by
      intro ns
      induction ns with
      | nil => intro pre bs hp h; simp [begsO] at h; subst h; exact hp
      | cons n t ih =>
        intro pre bs hp h
        unfold begsO at h
        cases hn : nodeO n pre with
        | none => rw [hn] at h; cases h
        | some b => rw [hn] at h; exact ih _ _ (hp.more hn) h
    exact go ns [] bs Bgs.nil h
  intro i hi
  have h3 := h2 i hi
  simp only [List.length_nil, Nat.zero_add] at h3
  have hlo := hB i (by omega)
  have htl : (bs.take i).length = i := by rw [List.length_take]; omega
  have hget : ∀ j, j < i → (bs.take i).getD j 0 = bs.getD j 0 := fun j hj => by rw [List.getD_eq_getElem?_getD, List.getD_eq_getElem?_getD, List.getElem?_take, if_pos hj]
  have hne : bs.take i ≠ [] → 0 < i := fun hn => by
    rcases Nat.eq_zero_or_pos i with h0 | h0
    · subst h0; exact absurd rfl hn
    · exact h0
  by_cases hf : leafN (ns.getD i noNd) = true
  · have hx := (leafN_iff _).1 hf
    exact ⟨by omega, hlo, fun _ => hf, fun h => by omega, fun h => by omega⟩
  unfold nodeO at h3
  rw [if_neg hf] at h3
  by_cases h12 : (ns.getD i noNd).op = 12 ∨ (ns.getD i noNd).op = 13
  · rw [if_pos h12] at h3
    split at h3
    · rename_i hc
      obtain ⟨c1, c2, c3, c4⟩ := hc
      have hp := hne c2
      rw [htl] at c3 h3
      rw [hget (i - 1) (by omega)] at h3
      simp only [Option.some.injEq] at h3
      exact ⟨by omega, hlo, fun h => by omega, fun _ => ⟨hp, by omega, h3.symm⟩, fun h => by omega⟩
    · cases h3
  · rw [if_neg h12] at h3
    by_cases h14 : 14 ≤ (ns.getD i noNd).op ∧ (ns.getD i noNd).op ≤ 26
    · rw [if_pos h14] at h3
      split at h3
      · rename_i hc
        obtain ⟨c1, c2, c3, c4, c5⟩ := hc
        have hp := hne c2
        rw [htl] at c3 c4 c5 h3
        rw [hget (i - 1) (by omega)] at c4 c5 h3
        have hb1 := hB (i - 1) (by omega)
        rw [hget _ (by omega)] at h3
        simp only [Option.some.injEq] at h3
        exact ⟨by omega, hlo, fun h => by omega, fun h => by omega, fun _ => ⟨hp, by omega, c4, c5, h3.symm⟩⟩
      · cases h3
    · rw [if_neg h14] at h3
      cases h3
/-- A leaf begins at itself, and has no operands. -/
theorem ws_leaf {ns : List Nd} {bs : List Int} (h : begsO ns [] = some bs) (i : Nat) (hi : i < ns.length) (hop : (ns.getD i noNd).op ≤ 11) : bs.getD i 0 = (i : Int) ∧ (ns.getD i noNd).l = -1 ∧ (ns.getD i noNd).r = -1 := by
  have w := ws_of h i hi
  have hf := w.leaf hop
  have hx := (leafN_iff _).1 hf
  obtain ⟨_, h2⟩ := begs_at ns [] bs h
  have h3 := h2 i hi
  have hlen : bs.length = ns.length := by have := begsO_len ns [] bs h; simpa using this
  simp only [List.length_nil, Nat.zero_add] at h3
  unfold nodeO at h3
  rw [if_pos hf, List.length_take, Option.some.injEq] at h3
  exact ⟨by omega, hx.1, hx.2.1⟩
/-- One operand alone. -/
theorem ws_one_r {ns : List Nd} {bs : List Int} (h : begsO ns [] = some bs) (i : Nat) (hi : i < ns.length) (hop : (ns.getD i noNd).op = 12 ∨ (ns.getD i noNd).op = 13) : (ns.getD i noNd).r = -1 := by
  obtain ⟨_, h2⟩ := begs_at ns [] bs h
  have h3 := h2 i hi
  by_cases hf : leafN (ns.getD i noNd) = true
  · exact ((leafN_iff _).1 hf).2.1
  unfold nodeO at h3
  rw [if_neg hf, if_pos hop] at h3
  split at h3
  · rename_i hc
    exact hc.2.2.2
  · cases h3

end Go.Proofs.YtlejhococjlijaaGreatDoor
