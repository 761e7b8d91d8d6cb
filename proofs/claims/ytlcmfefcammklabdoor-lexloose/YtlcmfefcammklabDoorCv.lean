/- Tokens and what is quiet between them are the whole text. -/
import Derived.Test.YtlcmfefcammklabDoorPa
import Derived.Test.YtlcmfefcammklabDoorRf0
import Derived.Test.YtlcmfefcammklabDoorSp
namespace Go.Proofs.YtlcmfefcammklabDoor
open Go.RowKit
set_option linter.unusedVariables false
set_option linter.unusedSimpArgs false

/-- In a comment, n bytes behind a place, from a state on. -/
def cmR (s : ByteArray) (c : Bool) (p : Nat) : Nat → Bool
  | 0 => c
  | n + 1 => if bt s (p + n) = 10 then false else if bt s (p + n) = 35 then true else cmR s c p n
theorem cmR_next (s : ByteArray) (c : Bool) (p : Nat) : ∀ n, cmR s c p (n + 1) = cmR s (if bt s p = 10 then false else if bt s p = 35 then true else c) (p + 1) n := by
  intro n
  induction n with
  | zero => rfl
  | succ n ih =>
    show (if bt s (p + (n + 1)) = 10 then false else if bt s (p + (n + 1)) = 35 then true else cmR s c p (n + 1)) = (if bt s (p + 1 + n) = 10 then false else if bt s (p + 1 + n) = 35 then true else cmR s _ (p + 1) n)
    rw [ih, show p + (n + 1) = p + 1 + n by omega]
/-- Blanks and comments, from no comment on. -/
def Qs (s : ByteArray) (c : Bool) (p q : Nat) : Prop := ∀ n, p + n < q → cmR s c p (n + 1) = true ∨ blB (bt s (p + n)) = true
theorem Qs_step {s : ByteArray} {c : Bool} {p q : Nat} (h0 : (if bt s p = 10 then false else if bt s p = 35 then true else c) = true ∨ blB (bt s p) = true) (h : Qs s (if bt s p = 10 then false else if bt s p = 35 then true else c) (p + 1) q) : Qs s c p q := by
  intro n hn
  rw [cmR_next]
  cases n with
  | zero => exact h0
  | succ n =>
    have := h n (by omega)
    rw [show p + 1 + n = p + (n + 1) by omega] at this
    exact this
theorem Qs_empty (s : ByteArray) (c : Bool) (p : Nat) : Qs s c p p := fun n hn => by omega
theorem Qs_blank {s : ByteArray} {p q : Nat} (hb : blB (bt s p) = true) (h : Qs s false (p + 1) q) : Qs s false p q := by
  refine Qs_step (.inr hb) ?_
  have h35 : bt s p ≠ 35 := by simp only [blB, decide_eq_true_eq] at hb; omega
  rw [if_neg h35]
  simpa using h
/-- From within a comment. -/
theorem Qs_in {s : ByteArray} {q E : Nat} (hE : E = s.size ∨ bt s E = 10) (hq : q ≤ s.size) (h : Qs s false E q) : ∀ n p, p + n = E → (∀ j, p ≤ j → j < E → bt s j ≠ 10) → Qs s true p q := by
  intro n
  induction n with
  | zero =>
    intro p hp _
    obtain rfl : p = E := hp
    rcases hE with hE | hE
    · intro n hn; omega
    · refine Qs_step (.inr (by rw [hE]; rfl)) ?_
      rw [if_pos hE]
      intro n hn
      have := h (n + 1) (by omega)
      rw [cmR_next, if_pos hE, show p + (n + 1) = p + 1 + n by omega] at this
      exact this
  | succ n ih =>
    intro p hp hj
    have h1 := hj p (Nat.le_refl _) (by omega)
    have hst : (if bt s p = 10 then false else if bt s p = 35 then true else true) = true := by rw [if_neg h1]; simp
    refine Qs_step (.inl hst) ?_
    rw [hst]
    exact ih (p + 1) (by omega) (fun j h2 h3 => hj j (by omega) h3)
theorem Qs_comment {s : ByteArray} {p q : Nat} (hp : p < s.size) (hq : q ≤ s.size) (h35 : bt s p = 35) (h : Qs s false (runE cmB s p) q) : Qs s false p q := by
  have hcm : cmB (bt s p) = true := by rw [h35]; rfl
  have hle := runE_le cmB s (p + 1) (by omega)
  have hon := runE_on hp hcm
  have hin := runE_in cmB s p
  have hst : (if bt s p = 10 then false else if bt s p = 35 then true else false) = true := by rw [h35]; rfl
  refine Qs_step (.inl hst) ?_
  rw [hst]
  have hEnd : runE cmB s p = s.size ∨ bt s (runE cmB s p) = 10 := by
    by_cases h1 : runE cmB s p < s.size
    · right
      have := runE_at (f := cmB) (s := s) (p := p) h1
      simpa [cmB] using this
    · left
      have := (runE_le cmB s p (by omega)).2
      omega
  exact Qs_in hEnd hq h (runE cmB s p - (p + 1)) (p + 1) (by omega) (fun j h2 h3 => by
    have := hin j (by omega) h3
    simpa [cmB] using this)
/-- A segment of the text is quiet by itself. -/
theorem Qs_extract {s : ByteArray} {p q : Nat} (hpq : p ≤ q) (hq : q ≤ s.size) (h : Qs s false p q) : ∀ i, i < (s.extract p q).size → comB (s.extract p q) (i + 1) = true ∨ blB (bt (s.extract p q) i) = true := by
  have hsz : (s.extract p q).size = q - p := by rw [ByteArray.size_extract]; omega
  have hc : ∀ n, p + n ≤ q → comB (s.extract p q) n = cmR s false p n := by
    intro n
    induction n with
    | zero => intro _; rfl
    | succ n ih =>
      intro hn
      show (if bt (s.extract p q) n = 10 then false else if bt (s.extract p q) n = 35 then true else comB (s.extract p q) n) = (if bt s (p + n) = 10 then false else if bt s (p + n) = 35 then true else cmR s false p n)
      rw [bt_extract s p q n (by omega) hq, ih (by omega)]
  intro i hi
  rw [hc (i + 1) (by omega), bt_extract s p q i (by omega) hq]
  exact h i (by omega)
/-- The rest of a text: what is quiet, and tokens. -/
inductive Cov (s : ByteArray) : Nat → List Tok → Prop
  | nil (p : Nat) (hp : p ≤ s.size) (h : Qs s false p s.size) : Cov s p []
  | cons (p q : Nat) (r : List Tok) (hpq : p ≤ q) (hq : q < s.size) (h : Qs s false p q) (h1 : stI s q = 1 ∨ stI s q = 2 ∨ stI s q = 3) (h2 : (thing s q).2.2 = 0) (hr : Cov s (thing s q).1 r) : Cov s p ((thing s q).2.1 :: r)
theorem Path.cov {s : ByteArray} {p q : Nat} {ts us : List Tok} (h : Path s p ts q us) (hq : q = s.size) : ∃ vs, us = ts ++ vs ∧ Cov s p vs := by
  induction h with
  | here p ts => subst hq; exact ⟨[], by simp, .nil _ (Nat.le_refl _) (Qs_empty _ _ _)⟩
  | step p p' q ts ts' us hp hn h ih =>
    obtain ⟨vs, hv, hC⟩ := ih hq
    have hle := nxt_le hp hn
    have rest : ts' = ts → (∀ e, p' ≤ e → e ≤ s.size → Qs s false p' e → Qs s false p e) → ∃ vs, us = ts ++ vs ∧ Cov s p vs := fun e1 e2 => by
      refine ⟨vs, by rw [hv, e1], ?_⟩
      cases hC with
      | nil _ hp2 hQ => exact .nil p (by omega) (e2 _ hp2 (Nat.le_refl _) hQ)
      | cons _ q2 r hpq hq2 hQ h1 h2 hr => exact .cons p q2 r (by omega) hq2 (e2 _ hpq (by omega) hQ) h1 h2 hr
    unfold nxt at hn
    rcases stI_cases s p with ⟨e, hb⟩ | ⟨e, hb⟩ | ⟨e, hb⟩ | ⟨e, hb⟩ | ⟨e, hb⟩ | e
    · rw [if_pos e] at hn
      simp only [Option.some.injEq, Prod.mk.injEq] at hn
      exact rest hn.2.symm (fun e' _ _ hQ => Qs_blank hb (by rw [hn.1]; exact hQ))
    · rw [if_neg (by rw [e]; decide), if_pos e] at hn
      simp only [Option.some.injEq, Prod.mk.injEq] at hn
      exact rest hn.2.symm (fun e' _ h9 hQ => Qs_comment hp h9 hb (by rw [hn.1]; exact hQ))
    all_goals
      rw [if_neg (by rw [e]; decide), if_neg (by rw [e]; decide)] at hn
    · rw [if_neg (by rw [e]; decide)] at hn
      by_cases h6 : (thing s p).2.2 ≠ 0
      · rw [if_pos h6] at hn; cases hn
      rw [if_neg h6] at hn
      by_cases h7 : ts.length = 400
      · rw [if_pos h7] at hn; cases hn
      rw [if_neg h7] at hn
      simp only [Option.some.injEq, Prod.mk.injEq] at hn
      exact ⟨(thing s p).2.1 :: vs, by rw [hv, ← hn.2, List.append_assoc]; rfl, .cons p p vs (Nat.le_refl _) hp (Qs_empty _ _ _) (.inl e) (by simpa using h6) (by rw [hn.1]; exact hC)⟩
    · rw [if_neg (by rw [e]; decide)] at hn
      by_cases h6 : (thing s p).2.2 ≠ 0
      · rw [if_pos h6] at hn; cases hn
      rw [if_neg h6] at hn
      by_cases h7 : ts.length = 400
      · rw [if_pos h7] at hn; cases hn
      rw [if_neg h7] at hn
      simp only [Option.some.injEq, Prod.mk.injEq] at hn
      exact ⟨(thing s p).2.1 :: vs, by rw [hv, ← hn.2, List.append_assoc]; rfl, .cons p p vs (Nat.le_refl _) hp (Qs_empty _ _ _) (.inr (.inl e)) (by simpa using h6) (by rw [hn.1]; exact hC)⟩
    · rw [if_neg (by rw [e]; decide)] at hn
      by_cases h6 : (thing s p).2.2 ≠ 0
      · rw [if_pos h6] at hn; cases hn
      rw [if_neg h6] at hn
      by_cases h7 : ts.length = 400
      · rw [if_pos h7] at hn; cases hn
      rw [if_neg h7] at hn
      simp only [Option.some.injEq, Prod.mk.injEq] at hn
      exact ⟨(thing s p).2.1 :: vs, by rw [hv, ← hn.2, List.append_assoc]; rfl, .cons p p vs (Nat.le_refl _) hp (Qs_empty _ _ _) (.inr (.inr e)) (by simpa using h6) (by rw [hn.1]; exact hC)⟩
    · rw [if_pos e] at hn; cases hn

end Go.Proofs.YtlcmfefcammklabDoor
