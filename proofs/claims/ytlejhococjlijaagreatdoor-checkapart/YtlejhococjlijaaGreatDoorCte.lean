/- Conjuncts: the program's side. -/
import Derived.Test.YtlejhococjlijaaGreatDoorCtd
namespace Go.Proofs.YtlejhococjlijaaGreatDoor
open Go.RowKit Go.BigFrame Go.Proofs.YtlejhococjlijaaGreatDoor.Ev
set_option linter.unusedVariables false
set_option linter.unusedSimpArgs false

/-- Known to be topmost when all places from at on have been gone through. -/
def tpAt (ns : List Nd) (at' j : Nat) : Bool := decide (j + 1 = ns.length) || (List.range ns.length).any fun p => decide (at' ≤ p) && decide (Kid ns p j) && topB ns p && decide ((ns.getD p noNd).op = 25)
section
variable {ns : List Nd} {bs : List Int} (K : ∀ i, i < ns.length → Kin ns bs i) (h0 : 0 < ns.length) (hb : bg bs (ns.length - 1) = 0)
include K h0 hb
theorem par_root (i : Nat) (hi : i < ns.length) : parF ns ns.length i < 0 ↔ i + 1 = ns.length := by
  constructor
  · intro h
    apply Classical.byContradiction
    intro hne
    obtain ⟨p, q1, q2, _⟩ := kin_up K (ns.length - 1) (by omega) i (by omega) (by omega)
    exact parF_none h p q1 q2
  · intro h
    apply Classical.byContradiction
    intro hne
    obtain ⟨p, e, q1, q2⟩ := parF_kid (show 0 ≤ parF ns ns.length i by omega)
    have := kin_kid K q1 q2
    omega
theorem tp_full (j : Nat) (hj : j < ns.length) : tpAt ns (j + 1) j = topB ns j := by
  rw [topB_step K j hj]
  unfold tpAt
  by_cases hr : j + 1 = ns.length
  · rw [decide_eq_true hr, decide_eq_true ((par_root K h0 hb j hj).2 hr), Bool.true_or, Bool.true_or]
  · have hp : 0 ≤ parF ns ns.length j := by have := mt (par_root K h0 hb j hj).1 hr; omega
    obtain ⟨p, e, q1, q2⟩ := parF_kid hp
    have hk := kin_kid K q1 q2
    rw [decide_eq_false hr, decide_eq_false (show ¬ parF ns ns.length j < 0 by omega), Bool.false_or, Bool.false_or, e, Int.toNat_natCast, Bool.eq_iff_iff, List.any_eq_true]
    constructor
    · rintro ⟨q, hq, h⟩
      simp only [Bool.and_eq_true, decide_eq_true_eq] at h
      obtain rfl := kin_uniq K (List.mem_range.1 hq) q1 h.1.1.2 q2
      simp only [Bool.and_eq_true, decide_eq_true_eq]
      exact ⟨h.1.2, h.2⟩
    · intro h
      simp only [Bool.and_eq_true, decide_eq_true_eq] at h
      exact ⟨p, List.mem_range.2 q1, by simp only [Bool.and_eq_true, decide_eq_true_eq]; exact ⟨⟨⟨by omega, q2⟩, h.1⟩, h.2⟩⟩
end
theorem tp_start (ns : List Nd) (j : Nat) : tpAt ns ns.length j = decide (j + 1 = ns.length) := by
  unfold tpAt
  rw [List.any_eq_false.2, Bool.or_false]
  intro p hp
  have := List.mem_range.1 hp
  simp only [Bool.and_eq_true, decide_eq_true_eq]
  omega
theorem tp_step (ns : List Nd) (a j : Nat) (ha : a < ns.length) : tpAt ns a j = (tpAt ns (a + 1) j || (decide (Kid ns a j) && topB ns a && decide ((ns.getD a noNd).op = 25))) := by
  unfold tpAt
  rw [Bool.or_assoc]
  congr 1
  rw [Bool.eq_iff_iff, List.any_eq_true, Bool.or_eq_true, List.any_eq_true]
  constructor
  · rintro ⟨p, hp, h⟩
    simp only [Bool.and_eq_true, decide_eq_true_eq] at h
    by_cases e : p = a
    · subst e
      exact .inr (by simp only [Bool.and_eq_true, decide_eq_true_eq]; exact ⟨⟨h.1.1.2, h.1.2⟩, h.2⟩)
    · exact .inl ⟨p, hp, by simp only [Bool.and_eq_true, decide_eq_true_eq]; exact ⟨⟨⟨by omega, h.1.1.2⟩, h.1.2⟩, h.2⟩⟩
  · rintro (⟨p, hp, h⟩ | h)
    · simp only [Bool.and_eq_true, decide_eq_true_eq] at h
      exact ⟨p, hp, by simp only [Bool.and_eq_true, decide_eq_true_eq]; exact ⟨⟨⟨by omega, h.1.1.2⟩, h.1.2⟩, h.2⟩⟩
    · simp only [Bool.and_eq_true, decide_eq_true_eq] at h
      exact ⟨a, List.mem_range.2 ha, by simp only [Bool.and_eq_true, decide_eq_true_eq]; exact ⟨⟨⟨Nat.le_refl _, h.1.1⟩, h.1.2⟩, h.2⟩⟩
/-- The conjuncts' roots from the last one back to the place a. -/
def backL (ns : List Nd) : Nat → List Nat
  | 0 => []
  | d + 1 => backL ns d ++ (if topB ns (ns.length - 1 - d) && !decide ((ns.getD (ns.length - 1 - d) noNd).op = 25) then [ns.length - 1 - d] else [])
theorem filter_back (q : Nat → Bool) (n : Nat) : ∀ d, d ≤ n → (((List.range n).drop (n - d)).filter q).reverse = (List.range d).flatMap fun e => if q (n - 1 - e) then [n - 1 - e] else [] := by
  intro d
  induction d with
  | zero => intro _; rw [Nat.sub_zero, List.drop_of_length_le (by simp)]; rfl
  | succ d ih =>
    intro h
    have hd : (List.range n).drop (n - (d + 1)) = (n - 1 - d) :: (List.range n).drop (n - d) := by
      rw [List.drop_eq_getElem_cons (by simp; omega), List.getElem_range]
      congr 1
      · omega
      · congr 1; omega
    rw [hd, List.filter_cons, List.range_succ, List.flatMap_append, ← ih (by omega)]
    split
    · rename_i hq
      rw [List.reverse_cons]
      simp [hq]
    · rename_i hq
      simp [hq]
theorem backL_eq (ns : List Nd) : ∀ d, backL ns d = (List.range d).flatMap fun e => if topB ns (ns.length - 1 - e) && !decide ((ns.getD (ns.length - 1 - e) noNd).op = 25) then [ns.length - 1 - e] else []
  | 0 => rfl
  | d + 1 => by
    rw [List.range_succ, List.flatMap_append, ← backL_eq ns d]
    show backL ns d ++ _ = _
    simp
theorem back_full (ns : List Nd) : (backL ns ns.length).reverse = conjL ns := by
  rw [backL_eq, ← filter_back (fun i => topB ns i && !decide ((ns.getD i noNd).op = 25)) ns.length ns.length (Nat.le_refl _), List.reverse_reverse, Nat.sub_self, List.drop_zero]
  rfl
theorem back_len (ns : List Nd) : ∀ d, (backL ns d).length ≤ d
  | 0 => Nat.le_refl _
  | d + 1 => by
    unfold backL
    rw [List.length_append]
    have := back_len ns d
    split <;> simp <;> omega

end Go.Proofs.YtlejhococjlijaaGreatDoor
