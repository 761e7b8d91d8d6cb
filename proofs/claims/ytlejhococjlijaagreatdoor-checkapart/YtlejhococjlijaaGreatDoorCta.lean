/- The subtrees of a well shaped tree: where they lie, whose operands they are. -/
import Derived.Test.YtlejhococjlijaaGreatDoorWsa
namespace Go.Proofs.YtlejhococjlijaaGreatDoor
open Go.RowKit Go.BigFrame Go.Proofs.YtlejhococjlijaaGreatDoor.Ev
set_option linter.unusedVariables false
set_option linter.unusedSimpArgs false

/-- The node at i is an operand of the one at p. -/
def Kid (ns : List Nd) (p i : Nat) : Prop := (ns.getD p noNd).l = (i : Int) ∨ (ns.getD p noNd).r = (i : Int)
instance (ns : List Nd) (p i : Nat) : Decidable (Kid ns p i) := by unfold Kid; infer_instance
/-- Where the subtree begins. -/
def bg (bs : List Int) (i : Nat) : Nat := (bs.getD i 0).toNat
/-- How the nodes lie. -/
structure Kin (ns : List Nd) (bs : List Int) (i : Nat) : Prop where
  le : bg bs i ≤ i
  op : 1 ≤ (ns.getD i noNd).op ∧ (ns.getD i noNd).op ≤ 26
  how : ((ns.getD i noNd).op ≤ 11 ∧ bg bs i = i ∧ (ns.getD i noNd).l = -1 ∧ (ns.getD i noNd).r = -1) ∨
    (((ns.getD i noNd).op = 12 ∨ (ns.getD i noNd).op = 13) ∧ 0 < i ∧ (ns.getD i noNd).l = ((i - 1 : Nat) : Int) ∧ (ns.getD i noNd).r = -1 ∧ bg bs i = bg bs (i - 1)) ∨
    (14 ≤ (ns.getD i noNd).op ∧ 0 < i ∧ 1 ≤ bg bs (i - 1) ∧ (ns.getD i noNd).r = ((i - 1 : Nat) : Int) ∧ (ns.getD i noNd).l = ((bg bs (i - 1) - 1 : Nat) : Int) ∧ bg bs i = bg bs (bg bs (i - 1) - 1))
theorem kin_of {ns : List Nd} {bs : List Int} (h : begsO ns [] = some bs) (i : Nat) (hi : i < ns.length) : Kin ns bs i := by
  have w := ws_of h i hi
  have hlo := w.lo
  refine ⟨by unfold bg; omega, w.lf, ?_⟩
  rcases (show (ns.getD i noNd).op ≤ 11 ∨ ((ns.getD i noNd).op = 12 ∨ (ns.getD i noNd).op = 13) ∨ 14 ≤ (ns.getD i noNd).op by omega) with h1 | h1 | h1
  · obtain ⟨e1, e2, e3⟩ := ws_leaf h i hi h1
    exact .inl ⟨h1, by unfold bg; omega, e2, e3⟩
  · obtain ⟨e1, e2, e3⟩ := w.one h1
    exact .inr (.inl ⟨h1, e1, by omega, ws_one_r h i hi h1, by unfold bg; rw [e3]⟩)
  · obtain ⟨e1, e2, e3, e4, e5⟩ := w.two h1
    refine .inr (.inr ⟨h1, e1, by unfold bg; omega, by omega, by unfold bg; omega, ?_⟩)
    unfold bg
    rw [e5]
    congr 2
    omega
section
variable {ns : List Nd} {bs : List Int} (K : ∀ i, i < ns.length → Kin ns bs i)
include K
/-- A subtree's nodes have their subtrees within it. -/
theorem kin_lam : ∀ i, i < ns.length → ∀ j, bg bs i ≤ j → j ≤ i → bg bs i ≤ bg bs j := by
  intro i
  induction i using Nat.strongRecOn with
  | ind i ih =>
    intro hi j h1 h2
    by_cases hj : j = i
    · subst hj; exact Nat.le_refl _
    have k := K i hi
    rcases k.how with ⟨_, e, _, _⟩ | ⟨_, e0, _, _, e⟩ | ⟨_, e0, e1, _, _, e⟩
    · omega
    · rw [e] at h1 ⊢
      exact ih (i - 1) (by omega) (by omega) j h1 (by omega)
    · have kl := (K (bg bs (i - 1) - 1) (by have := (K (i - 1) (by omega)).le; omega)).le
      have kr := (K (i - 1) (by omega)).le
      by_cases hh : bg bs (i - 1) ≤ j
      · have := ih (i - 1) (by omega) (by omega) j hh (by omega)
        omega
      · rw [e] at h1 ⊢
        exact ih _ (by omega) (by omega) j h1 (by omega)
/-- An operand stands ahead, within. -/
theorem kin_kid {p i : Nat} (hp : p < ns.length) (h : Kid ns p i) : i < p ∧ bg bs p ≤ bg bs i ∧ bg bs i ≤ i := by
  have k := K p hp
  unfold Kid at h
  rcases k.how with ⟨_, _, e1, e2⟩ | ⟨_, e0, e1, e2, e⟩ | ⟨_, e0, e1, e2, e3, e⟩
  · omega
  · obtain rfl : i = p - 1 := by omega
    have := (K (p - 1) (by omega)).le
    omega
  · have kr := (K (p - 1) (by omega)).le
    have kl := (K (bg bs (p - 1) - 1) (by omega)).le
    rcases h with h | h
    · obtain rfl : i = bg bs (p - 1) - 1 := by omega
      omega
    · obtain rfl : i = p - 1 := by omega
      omega
theorem kin_uniq {p q i : Nat} (hp : p < ns.length) (hq : q < ns.length) (h1 : Kid ns p i) (h2 : Kid ns q i) : p = q := by
  have go : ∀ p q, p < ns.length → q < ns.length → Kid ns p i → Kid ns q i → ¬ p < q := by
    intro p q hp hq h1 h2 hlt
    have a1 := kin_kid K hp h1
    have a2 := kin_kid K hq h2
    have k := K q hq
    unfold Kid at h2
    rcases k.how with ⟨_, _, e1, e2⟩ | ⟨_, e0, e1, e2, e⟩ | ⟨_, e0, e1, e2, e3, e⟩
    · omega
    · omega
    · rcases h2 with h2 | h2
      · have := kin_lam K (q - 1) (by omega) p (by omega) (by omega)
        omega
      · omega
  have := go p q hp hq h1 h2
  have := go q p hq hp h2 h1
  omega
/-- What lies within a subtree, but its root, is an operand within it. -/
theorem kin_up : ∀ r, r < ns.length → ∀ i, bg bs r ≤ i → i < r → ∃ p, p < ns.length ∧ Kid ns p i ∧ bg bs r ≤ p ∧ p ≤ r := by
  intro r
  induction r using Nat.strongRecOn with
  | ind r ih =>
    intro hr i h1 h2
    have k := K r hr
    rcases k.how with ⟨_, e, _, _⟩ | ⟨_, e0, e1, e2, e⟩ | ⟨_, e0, e1, e2, e3, e⟩
    · omega
    · by_cases hi : i = r - 1
      · exact ⟨r, hr, .inl (by rw [e1, hi]), by omega, Nat.le_refl _⟩
      · obtain ⟨p, q1, q2, q3, q4⟩ := ih (r - 1) (by omega) (by omega) i (by omega) (by omega)
        exact ⟨p, q1, q2, by omega, by omega⟩
    · have kr := (K (r - 1) (by omega)).le
      have kl := (K (bg bs (r - 1) - 1) (by omega)).le
      by_cases hi : i = r - 1
      · exact ⟨r, hr, .inr (by rw [e2, hi]), by omega, Nat.le_refl _⟩
      by_cases hi2 : i = bg bs (r - 1) - 1
      · exact ⟨r, hr, .inl (by rw [e3, hi2]), by omega, Nat.le_refl _⟩
      by_cases hh : bg bs (r - 1) ≤ i
      · obtain ⟨p, q1, q2, q3, q4⟩ := ih (r - 1) (by omega) (by omega) i hh (by omega)
        exact ⟨p, q1, q2, by omega, by omega⟩
      · obtain ⟨p, q1, q2, q3, q4⟩ := ih (bg bs (r - 1) - 1) (by omega) (by omega) i (by omega) (by omega)
        exact ⟨p, q1, q2, by omega, by omega⟩
/-- Within a subtree: its root, or an operand of what is within. -/
theorem kin_in {r i p : Nat} (hr : r < ns.length) (hne : i ≠ r) (hp : p < ns.length) (hk : Kid ns p i) : (bg bs r ≤ i ∧ i ≤ r) ↔ (bg bs r ≤ p ∧ p ≤ r) := by
  have a := kin_kid K hp hk
  constructor
  · intro ⟨h1, h2⟩
    obtain ⟨q, q1, q2, q3, q4⟩ := kin_up K r hr i h1 (by omega)
    rw [kin_uniq K hp q1 hk q2]
    exact ⟨q3, q4⟩
  · intro ⟨h1, h2⟩
    have := kin_lam K r hr p h1 h2
    omega
end
/-- Whose operand it is, among the first k nodes; -1: of none. -/
def parF (ns : List Nd) : Nat → Nat → Int
  | 0, _ => -1
  | k + 1, j => if Kid ns k j then (k : Int) else parF ns k j
theorem parF_kid {ns : List Nd} : ∀ {k j : Nat}, 0 ≤ parF ns k j → ∃ p : Nat, parF ns k j = (p : Int) ∧ p < k ∧ Kid ns p j
  | 0, j, h => absurd h (show ¬ (0 : Int) ≤ -1 by decide)
  | k + 1, j, h => by
    unfold parF at h ⊢
    split
    · exact ⟨k, rfl, by omega, by assumption⟩
    · rename_i hk
      rw [if_neg hk] at h
      obtain ⟨p, e, h1, h2⟩ := parF_kid h
      exact ⟨p, e, by omega, h2⟩
theorem parF_lo (ns : List Nd) : ∀ (k j : Nat), -1 ≤ parF ns k j
  | 0, _ => Int.le_refl _
  | k + 1, j => by
    unfold parF
    split
    · omega
    · exact parF_lo ns k j
theorem parF_none {ns : List Nd} : ∀ {k j : Nat}, parF ns k j < 0 → ∀ p, p < k → ¬ Kid ns p j
  | 0, j, _, p, hp => by omega
  | k + 1, j, h, p, hp => by
    unfold parF at h
    split at h
    · omega
    · rename_i hk
      by_cases e : p = k
      · subst e; exact hk
      · exact parF_none h p (by omega)
/-- Is a place within the subtree of the root? -/
def inB (ns : List Nd) (bs : List Int) (root : Int) (i : Nat) : Bool := decide (0 ≤ root ∧ root < (ns.length : Int) ∧ bg bs root.toNat ≤ i ∧ (i : Int) ≤ root)
theorem inB_step {ns : List Nd} {bs : List Int} (K : ∀ i, i < ns.length → Kin ns bs i) (root : Int) (i : Nat) (hi : i < ns.length) :
    inB ns bs root i = (decide ((i : Int) = root) || (decide (0 ≤ parF ns ns.length i) && inB ns bs root (parF ns ns.length i).toNat)) := by
  by_cases hr : 0 ≤ root ∧ root < (ns.length : Int)
  · obtain ⟨r, rfl⟩ : ∃ r : Nat, root = (r : Int) := ⟨root.toNat, by omega⟩
    have hrl : r < ns.length := by omega
    by_cases he : i = r
    · subst he
      have := (K i hi).le
      rw [decide_eq_true rfl, Bool.true_or]
      unfold inB
      rw [Int.toNat_natCast]
      exact decide_eq_true ⟨by omega, by omega, this, by omega⟩
    · rw [decide_eq_false (show ¬ (i : Int) = (r : Int) by omega), Bool.false_or]
      by_cases hp : 0 ≤ parF ns ns.length i
      · obtain ⟨p, e, h1, h2⟩ := parF_kid hp
        have h3 := kin_in K hrl he h1 h2
        rw [decide_eq_true hp, Bool.true_and, e]
        unfold inB
        rw [Int.toNat_natCast, Int.toNat_natCast]
        refine decide_eq_decide.2 ⟨fun h => ?_, fun h => ?_⟩
        · have := h3.1 ⟨h.2.2.1, by omega⟩
          exact ⟨by omega, by omega, this.1, by omega⟩
        · have := h3.2 ⟨h.2.2.1, by omega⟩
          exact ⟨by omega, by omega, this.1, by omega⟩
      · rw [decide_eq_false hp, Bool.false_and]
        unfold inB
        rw [Int.toNat_natCast]
        refine decide_eq_false fun h => ?_
        obtain ⟨p, q1, q2, _⟩ := kin_up K r hrl i h.2.2.1 (by omega)
        exact parF_none (by omega) p q1 q2
  · have hf : ∀ j, inB ns bs root j = false := fun j => decide_eq_false fun h => hr ⟨h.1, h.2.1⟩
    rw [hf, hf, Bool.and_false, Bool.or_false]
    exact (decide_eq_false (by omega)).symm
/-- Nothing but ANDs above it. -/
def topF (ns : List Nd) : Nat → Nat → Bool
  | 0, _ => false
  | f + 1, i => decide (parF ns ns.length i < 0) || (topF ns f (parF ns ns.length i).toNat && decide ((ns.getD (parF ns ns.length i).toNat noNd).op = 25))
def topB (ns : List Nd) (i : Nat) : Bool := topF ns ns.length i
theorem topF_fuel {ns : List Nd} {bs : List Int} (K : ∀ i, i < ns.length → Kin ns bs i) : ∀ (f g i : Nat), ns.length ≤ f + i → ns.length ≤ g + i → i < ns.length → topF ns f i = topF ns g i := by
  intro f
  induction f with
  | zero => intro g i h1 h2 h3; omega
  | succ f ih =>
    intro g i h1 h2 h3
    obtain ⟨g, rfl⟩ : ∃ g', g = g' + 1 := ⟨g - 1, by omega⟩
    unfold topF
    by_cases hp : 0 ≤ parF ns ns.length i
    · obtain ⟨p, e, q1, q2⟩ := parF_kid hp
      have := kin_kid K q1 q2
      rw [e, Int.toNat_natCast, ih g p (by omega) (by omega) q1]
    · rw [decide_eq_true (show parF ns ns.length i < 0 by omega), Bool.true_or, Bool.true_or]
theorem topB_step {ns : List Nd} {bs : List Int} (K : ∀ i, i < ns.length → Kin ns bs i) (i : Nat) (hi : i < ns.length) :
    topB ns i = (decide (parF ns ns.length i < 0) || (topB ns (parF ns ns.length i).toNat && decide ((ns.getD (parF ns ns.length i).toNat noNd).op = 25))) := by
  obtain ⟨f, hf⟩ : ∃ f, ns.length = f + 1 := ⟨ns.length - 1, by omega⟩
  unfold topB
  rw [show topF ns ns.length i = topF ns (f + 1) i by rw [hf]]
  conv => lhs; unfold topF
  by_cases hp : 0 ≤ parF ns ns.length i
  · obtain ⟨p, e, q1, q2⟩ := parF_kid hp
    have := kin_kid K q1 q2
    rw [e, Int.toNat_natCast, topF_fuel K f ns.length p (by omega) (by omega) q1]
  · rw [decide_eq_true (show parF ns ns.length i < 0 by omega), Bool.true_or, Bool.true_or]
/-- The roots of the conjuncts. -/
def conjL (ns : List Nd) : List Nat := (List.range ns.length).filter fun i => topB ns i && !decide ((ns.getD i noNd).op = 25)

end Go.Proofs.YtlejhococjlijaaGreatDoor
