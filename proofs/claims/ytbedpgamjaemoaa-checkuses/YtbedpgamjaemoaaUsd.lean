/- What nodes mention, item by item: the document's side. -/
import Derived.Test.YtbedpgamjaemoaaUsc
namespace Go.Proofs.Ytbedpgamjaemoaa
open Go.RowKit Go.BigFrame
set_option linter.unusedVariables false
set_option linter.unusedSimpArgs false

/-- Does a node name the item so? -/
def hitB (l : List It) (p : Int → Bool) (ns : List Nd) (i : Nat) : Bool := ns.any fun n => p n.op && decide (itmI l n.v = (i : Int))
/-- The items below k that a node names so. -/
def useK (l : List It) (p : Int → Bool) (ns : List Nd) : Nat → List Int
  | 0 => []
  | k + 1 => useK l p ns k ++ if hitB l p ns k then [(k : Int)] else []
theorem mem_useK (l : List It) (p : Int → Bool) (ns : List Nd) : ∀ (k : Nat) (x : Int), x ∈ useK l p ns k ↔ ∃ i : Nat, i < k ∧ x = i ∧ hitB l p ns i = true
  | 0, x => ⟨fun h => (by cases h), fun ⟨i, h, _⟩ => (by omega)⟩
  | k + 1, x => by
    show x ∈ useK l p ns k ++ _ ↔ _
    rw [List.mem_append, mem_useK l p ns k x]
    constructor
    · rintro (⟨i, h1, h2, h3⟩ | h)
      · exact ⟨i, by omega, h2, h3⟩
      · split at h
        · rename_i hh
          exact ⟨k, by omega, by simpa using h, hh⟩
        · cases h
    · rintro ⟨i, h1, h2, h3⟩
      by_cases e : i = k
      · subst e
        refine .inr ?_
        rw [if_pos h3]
        simp [h2]
      · exact .inl ⟨i, by omega, h2, h3⟩
theorem useK_inc (l : List It) (p : Int → Bool) (ns : List Nd) : ∀ k : Nat, (useK l p ns k).Pairwise (· < ·)
  | 0 => List.Pairwise.nil
  | k + 1 => by
    show (useK l p ns k ++ _).Pairwise _
    rw [List.pairwise_append]
    refine ⟨useK_inc l p ns k, by split <;> simp, fun x hx y hy => ?_⟩
    obtain ⟨i, h1, h2, _⟩ := (mem_useK l p ns k x).1 hx
    split at hy
    · simp at hy; omega
    · cases hy
theorem useK_len (l : List It) (p : Int → Bool) (ns : List Nd) : ∀ k : Nat, (useK l p ns k).length ≤ k
  | 0 => Nat.le_refl _
  | k + 1 => by
    show (useK l p ns k ++ _).length ≤ _
    have := useK_len l p ns k
    rw [List.length_append]
    split <;> simp <;> omega
theorem useK_eq (l : List It) (p : Int → Bool) (ns : List Nd) : useK l p ns l.length = risO (useL (itemF l l.length) p ns) := by
  obtain ⟨h1, h2⟩ := ris_inc (useL (itemF l l.length) p ns)
  refine inc_eq _ _ (useK_inc l p ns _) h1 fun x => ?_
  rw [mem_useK, h2]
  unfold useL hitB
  rw [List.mem_filterMap]
  constructor
  · rintro ⟨i, hi, rfl, h⟩
    rw [List.any_eq_true] at h
    obtain ⟨n, hn, hh⟩ := h
    rw [Bool.and_eq_true] at hh
    refine ⟨n, hn, ?_⟩
    rw [if_pos hh.1]
    have := of_decide_eq_true hh.2
    unfold itmI at this
    cases hF : itemF l l.length n.v with
    | none => rw [hF] at this; simp at this
    | some j => rw [hF] at this; simp at this; rw [this]
  · rintro ⟨n, hn, h⟩
    split at h
    · rename_i hp
      obtain ⟨g1, g2, _⟩ := itemF_some h
      refine ⟨x.toNat, by omega, by omega, ?_⟩
      rw [List.any_eq_true]
      refine ⟨n, hn, ?_⟩
      rw [hp, Bool.true_and]
      refine decide_eq_true ?_
      unfold itmI
      rw [h]
      simp
      omega
    · cases h
theorem hit_step (l : List It) (p : Int → Bool) (ns : List Nd) (i j : Nat) (hj : j < ns.length) : hitB l p (ns.take (j + 1)) i = (hitB l p (ns.take j) i || (p (ns.getD j noNd).op && decide (itmI l (ns.getD j noNd).v = (i : Int)))) := by
  unfold hitB
  rw [List.take_add_one, List.any_append, List.getElem?_eq_getElem hj, List.getD_eq_getElem?_getD, List.getElem?_eq_getElem hj]
  simp
set_option maxRecDepth 100000 in
set_option maxHeartbeats 4000000 in
theorem refBarely_any (op : Int) (w : World) : Calls Try.prog 27 #[.int .i64 op] w fun e w' => e = .returned (.bool (baB op)) ∧ w = w' := by
  obtain ⟨v, hv⟩ : ∃ v, baB op = v := ⟨_, rfl⟩
  rw [hv]
  by_cases h1 : op = 4
  · subst h1
    cases hv
    go_enter Try.func27, Try.ntmps27
    go_wp2
    go_ret
    exact ⟨rfl, rfl⟩
  have b1 : (op == 4) = false := beq_eq_false_iff_ne.2 h1
  by_cases h2 : op = 11
  · subst h2
    cases hv
    go_enter Try.func27, Try.ntmps27
    go_wp2
    go_ret
    exact ⟨rfl, rfl⟩
  have b2 : (op == 11) = false := beq_eq_false_iff_ne.2 h2
  obtain rfl : false = v := by rw [← hv]; exact (decide_eq_false (by omega)).symm
  clear hv
  go_enter Try.func27, Try.ntmps27
  go_wp2
  go_ret
  exact ⟨rfl, rfl⟩
set_option maxRecDepth 100000 in
set_option maxHeartbeats 4000000 in
theorem refAgg_any (op : Int) (w : World) : Calls Try.prog 28 #[.int .i64 op] w fun e w' => e = .returned (.bool (agB op)) ∧ w = w' := by
  obtain ⟨v, hv⟩ : ∃ v, agB op = v := ⟨_, rfl⟩
  rw [hv]
  unfold agB at hv
  by_cases h1 : 5 ≤ op
  · by_cases h2 : op ≤ 10
    · obtain rfl : true = v := by rw [← hv]; exact (decide_eq_true ⟨h1, h2⟩).symm
      clear hv
      go_enter Try.func28, Try.ntmps28
      go_wp2
      go_ret
      exact ⟨rfl, rfl⟩
    · have d2 : decide (op ≤ 10) = false := decide_eq_false h2
      obtain rfl : false = v := by rw [← hv]; exact (decide_eq_false (by omega)).symm
      clear hv
      go_enter Try.func28, Try.ntmps28
      go_wp2
      go_ret
      exact ⟨rfl, rfl⟩
  · have d1 : decide (5 ≤ op) = false := decide_eq_false h1
    obtain rfl : false = v := by rw [← hv]; exact (decide_eq_false (by omega)).symm
    clear hv
    go_enter Try.func28, Try.ntmps28
    go_wp2
    go_ret
    exact ⟨rfl, rfl⟩

end Go.Proofs.Ytbedpgamjaemoaa
