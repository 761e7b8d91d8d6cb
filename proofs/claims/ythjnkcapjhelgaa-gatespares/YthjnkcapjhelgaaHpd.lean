/- Which of two below comes first; the sifts. -/
import Derived.Test.YthjnkcapjhelgaaHpc
import Derived.ScopeJumps
import Derived.WalkMore
namespace Go.Proofs.Ythjnkcapjhelgaa
open Go.RowKit Go.BigFrame
set_option linter.unusedVariables false
set_option linter.unusedSimpArgs false

/-- The place of the first one right below a place; where there is none, the place itself. -/
def fbel {γ : Type} (A : γ → γ → Bool) (z : γ) (h : List γ) (k : Nat) : Nat :=
  if h.length ≤ 2 * k + 1 then k else if 2 * k + 2 < h.length ∧ A (h.getD (2 * k + 2) z) (h.getD (2 * k + 1) z) = true then 2 * k + 2 else 2 * k + 1
set_option maxHeartbeats 2000000 in
theorem evBelow (p base g cap k t : Nat) (h : List (Ev × Nat)) (z : Ev × Nat) (hk : k ≤ h.length) (w : World) (P : Pil 97 101 12 evC w p base (.slice (some ⟨g, 0, none⟩) h.length cap) h t) (hl : h.length ≤ 1000000000000000) :
    Calls Try.prog 60 #[.pointer (some ⟨p, 0, none⟩), .int .i64 (k : Int)] w fun e w' => e = .returned (.int .i64 (fbel (ahd evLt) z h k : Nat)) ∧ Below w.heap.size w w' := by
  have c0 := P.blk.at2.1
  have p0 := fun z : Ext w => (z.cell _ _ P.blk.lt).trans P.blk.at2.1
  have hne0 : Nonempty (Ext w) := ⟨⟨_, Below.refl _ _⟩⟩
  obtain ⟨r, hr⟩ : ∃ r, fbel (ahd evLt) z h k = r := ⟨_, rfl⟩
  rw [hr]
  unfold fbel at hr
  by_cases h1 : h.length ≤ 2 * k + 1
  · rw [if_pos h1] at hr
    subst hr
    have d1 : decide ((h.length : Int) ≤ 2 * (k : Int) + 1) = true := by simp; omega
    go_enter Try.func60, Try.ntmps60
    go_wp2
    go_ret
    exact ⟨rfl, Below.refl _ _⟩
  · rw [if_neg h1] at hr
    obtain ⟨l, el⟩ : ∃ l, l = 2 * k + 1 := ⟨_, rfl⟩
    obtain ⟨m, em⟩ : ∃ m, m = 2 * k + 2 := ⟨_, rfl⟩
    rw [← el, ← em] at hr
    have E1 : 2 * (k : Int) + 1 = (l : Int) := by omega
    have E2 : 2 * (k : Int) + 2 = (m : Int) := by omega
    have hl0 : l < h.length := by omega
    have d1 : decide ((h.length : Int) ≤ (l : Int)) = false := by simp; omega
    have q1 : (l : Int) < (h.length : Int) := by omega
    have rl := own_range (cv := ldC evC) ev_lsize z P.own l hl0
    clear el em h1
    by_cases h2 : m < h.length
    · have d2 : decide ((m : Int) < (h.length : Int)) = true := by simp; omega
      have q2 : (m : Int) < (h.length : Int) := by omega
      have rm := own_range (cv := ldC evC) ev_lsize z P.own m h2
      generalize h.getD l z = xl at *
      generalize h.getD m z = xm at *
      have cc := fun u : World => evAhead_any xm xl u
      obtain ⟨b, hb⟩ : ∃ b, ahd evLt xm xl = b := ⟨_, rfl⟩
      rw [hb] at hr cc
      have c1 : ∀ z : Ext w, Calls Try.prog 55 #[.agg (ldC evC xm), .agg (ldC evC xl)] z.X (fun e w'' => e = .returned (.bool b) ∧ ∃ m : Ext w, w'' = m.X) := fun z => ext_of (cc z.X)
      have HR : Hid ((if m < h.length ∧ b = true then m else l) = r) := hr
      clear hr cc hb
      go_enter Try.func60, Try.ntmps60
      go_wp2
      refine wp_region_ext (by kernel_rfl) (by kernel_rfl) ?_
      repeat (first
        | (refine wpQuiet_load_mid rfl 101 _ rfl g (l * 12) rfl (ldC evC xl) _ (fun X hX => by obtain ⟨nx, rfl⟩ := hX; exact rangeAt_keep rl nx.h) Try.underlying101 rfl infoLdE _ rfl ?_; simp only [Act.put, List.setIfInBounds_toArray, List.set_cons_succ, List.set_cons_zero])
        | (refine wpQuiet_load_mid rfl 101 _ rfl g (m * 12) rfl (ldC evC xm) _ (fun X hX => by obtain ⟨nx, rfl⟩ := hX; exact rangeAt_keep rm nx.h) Try.underlying101 rfl infoLdE _ rfl ?_; simp only [Act.put, List.setIfInBounds_toArray, List.set_cons_succ, List.set_cons_zero])
        | go_big_quiet_step (first | (go_at_call 55; with_reducible exact c1 _)))
      refine wpQuiet_nil ?_
      intro _ hw'
      obtain ⟨nx, hw''⟩ := hw'
      subst hw''
      have hr : (if m < h.length ∧ b = true then m else l) = r := HR
      cases b
      · have hr' : l = r := by simpa using hr
        subst hr'
        clear hr HR
        go_wp2
        go_ret
        exact ⟨rfl, nx.h⟩
      · have hr' : m = r := by simpa [h2] using hr
        subst hr'
        clear hr HR
        go_wp2
        go_ret
        exact ⟨rfl, nx.h⟩
    · have d2 : decide ((m : Int) < (h.length : Int)) = false := by simp; omega
      have hr' : l = r := by rw [if_neg (fun e => h2 e.1)] at hr; exact hr
      subst hr'
      clear hr
      go_enter Try.func60, Try.ntmps60
      go_wp2
      refine wp_region_ext (by kernel_rfl) (by kernel_rfl) ?_
      repeat (go_big_quiet_step (fail))
      refine wpQuiet_nil ?_
      intro _ hw'
      obtain ⟨nx, hw''⟩ := hw'
      subst hw''
      go_wp2
      go_ret
      exact ⟨rfl, nx.h⟩

end Go.Proofs.Ythjnkcapjhelgaa
