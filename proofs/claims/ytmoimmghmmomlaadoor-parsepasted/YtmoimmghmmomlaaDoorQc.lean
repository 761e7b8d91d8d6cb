/- The parts of a query: modes, bounds, types, items. -/
import Derived.Test.YtmoimmghmmomlaaDoorQb
namespace Go.Proofs.YtmoimmghmmomlaaDoor
open Go.RowKit Go.BigFrame
set_option linter.unusedVariables false
set_option linter.unusedSimpArgs false

def StepP {α : Type} (w : World) (d g : Nat) (e0 : Int) (o : Nat) (r : E (α × List Tok)) (val : α → Ending → World → Prop) (e : Ending) (w' : World) : Prop :=
  match r with
  | .ok (a, tl) => val a e w' ∧ De w' d g e0 tl o ∧ Kd d w.heap.size w w'
  | .error (c, x) => e = .panicked (rfC c (plc e0 x)) ∧ Kd d w.heap.size w w'
theorem StepP.bad {α : Type} {w : World} {d g : Nat} {e0 : Int} {o : Nat} {r : E (α × List Tok)} {val : α → Ending → World → Prop} {c : Int} {x : List Tok} {w' : World} (h : r = .error (c, x)) (K : Kd d w.heap.size w w') : StepP w d g e0 o r val (.panicked (rfC c (plc e0 x))) w' := by subst h; exact ⟨rfl, K⟩
theorem StepP.good {α : Type} {w : World} {d g : Nat} {e0 : Int} {o : Nat} {r : E (α × List Tok)} {val : α → Ending → World → Prop} {a : α} {tl : List Tok} {e : Ending} {w' : World} (h : r = .ok (a, tl)) (v : val a e w') (D : De w' d g e0 tl o) (K : Kd d w.heap.size w w') : StepP w d g e0 o r val e w' := by subst h; exact ⟨v, D, K⟩
theorem wantEC (k : Int) (hk : k ≠ 0) (ts : List Tok) : (wantE k ts = .error (40, ts) ∧ kd ts ≠ k) ∨ ∃ t tl, ts = t :: tl ∧ t.k = k ∧ wantE k (t :: tl) = .ok (t, tl) := by
  cases ts with
  | nil => exact .inl ⟨rfl, fun h => hk h.symm⟩
  | cons t tl =>
    by_cases h : t.k = k
    · exact .inr ⟨t, tl, rfl, h, by simp [wantE, h]⟩
    · exact .inl ⟨by simp [wantE, h], h⟩
theorem kd_cons {k : Int} (hk : k ≠ 0) {ts : List Tok} (h : kd ts = k) : ∃ t tl, ts = t :: tl ∧ t.k = k := by
  cases ts with
  | nil => exact absurd h.symm hk
  | cons t tl => exact ⟨t, tl, rfl, h⟩
abbrev intV (a : Int) (e : Ending) (_ : World) : Prop := e = .returned (.int .i64 a)
section
variable (w : World) (d g : Nat) (e0 : Int) (o : Nat)
set_option maxRecDepth 100000 in
set_option maxHeartbeats 4000000 in
theorem mode_any (ts : List Tok) (D : De w d g e0 ts o) : Calls Tryd.prog 52 #[.pointer (some ⟨d, 0, none⟩)] w (StepP w d g e0 o (modeP ts) intV) := by
  have c1 := ahead_any w d g e0 o ts D
  by_cases h : kd ts = 33 ∨ kd ts = 34 ∨ kd ts = 35
  · obtain ⟨t, tl, rfl⟩ : ∃ t tl, ts = t :: tl := by
      cases ts with
      | nil => simp [kd] at h
      | cons t tl => exact ⟨t, tl, rfl⟩
    have c2 := pass_any w d g e0 o t tl D
    rcases h with h | h | h
    all_goals
      have HK : Hid (kd (t :: tl) = _) := h
      rw [h] at c1
      clear h
      go_enter Tryd.func52, Tryd.ntmps52
      go_wp2_with (first
        | (go_at_call 67; (with_reducible refine c1.mono ?_); rintro e u ⟨rfl, rfl⟩)
        | (go_at_call 68; (with_reducible refine c2.mono ?_); rintro e u2 ⟨rfl, D2, K2⟩))
      go_ret
      exact StepP.good (by simp only [modeP, HK.out]; rfl) rfl D2 K2
  · have c2 := giveUp_any w d g e0 o 40 ts D
    have e9 : modeP ts = .error (40, ts) := by
      unfold modeP
      rw [if_neg (fun e => h (.inl e)), if_neg (fun e => h (.inr (.inl e))), if_neg (fun e => h (.inr (.inr e)))]
    have q1 : (kd ts == 33) = false := by simp; exact fun e => h (.inl e)
    have q2 : (kd ts == 34) = false := by simp; exact fun e => h (.inr (.inl e))
    have q3 : (kd ts == 35) = false := by simp; exact fun e => h (.inr (.inr e))
    clear h
    generalize kd ts = k at *
    go_enter Tryd.func52, Tryd.ntmps52
    go_wp2_with (first
      | (go_at_call 67; (with_reducible refine c1.mono ?_); rintro e u ⟨rfl, rfl⟩)
      | (go_at_call 66; (with_reducible refine c2.mono ?_); rintro e u2 ⟨rfl, rfl⟩))
    exact ⟨rfl, StepP.bad (by first | exact e9 | rfl) (Kd.refl _ _ _)⟩
set_option maxRecDepth 100000 in
set_option maxHeartbeats 4000000 in
theorem after_any (ts : List Tok) (D : De w d g e0 ts o) : Calls Tryd.prog 53 #[.pointer (some ⟨d, 0, none⟩)] w (StepP w d g e0 o (afterP ts) intV) := by
  have c1 := ahead_any w d g e0 o ts D
  by_cases h : kd ts = 54 ∨ kd ts = 34 ∨ kd ts = 55 ∨ kd ts = 56
  · obtain ⟨t, tl, rfl⟩ : ∃ t tl, ts = t :: tl := by
      cases ts with
      | nil => simp [kd] at h
      | cons t tl => exact ⟨t, tl, rfl⟩
    have c2 := pass_any w d g e0 o t tl D
    rcases h with h | h | h | h
    all_goals
      have HK : Hid (kd (t :: tl) = _) := h
      rw [h] at c1
      clear h
      go_enter Tryd.func53, Tryd.ntmps53
      go_wp2_with (first
        | (go_at_call 67; (with_reducible refine c1.mono ?_); rintro e u ⟨rfl, rfl⟩)
        | (go_at_call 68; (with_reducible refine c2.mono ?_); rintro e u2 ⟨rfl, D2, K2⟩))
      go_ret
      exact StepP.good (by simp only [afterP, HK.out]; rfl) rfl D2 K2
  · have c2 := giveUp_any w d g e0 o 40 ts D
    have e9 : afterP ts = .error (40, ts) := by
      unfold afterP
      rw [if_neg (fun e => h (.inl e)), if_neg (fun e => h (.inr (.inl e))), if_neg (fun e => h (.inr (.inr (.inl e)))), if_neg (fun e => h (.inr (.inr (.inr e))))]
    have q1 : (kd ts == 54) = false := by simp; exact fun e => h (.inl e)
    have q2 : (kd ts == 34) = false := by simp; exact fun e => h (.inr (.inl e))
    have q3 : (kd ts == 55) = false := by simp; exact fun e => h (.inr (.inr (.inl e)))
    have q4 : (kd ts == 56) = false := by simp; exact fun e => h (.inr (.inr (.inr e)))
    clear h
    generalize kd ts = k at *
    go_enter Tryd.func53, Tryd.ntmps53
    go_wp2_with (first
      | (go_at_call 67; (with_reducible refine c1.mono ?_); rintro e u ⟨rfl, rfl⟩)
      | (go_at_call 66; (with_reducible refine c2.mono ?_); rintro e u2 ⟨rfl, rfl⟩))
    exact ⟨rfl, StepP.bad (by first | exact e9 | rfl) (Kd.refl _ _ _)⟩
end

end Go.Proofs.YtmoimmghmmomlaaDoor
