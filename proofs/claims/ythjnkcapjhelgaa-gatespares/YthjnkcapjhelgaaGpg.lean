/- Advance, Flush, Mark, Closed, Len, Held. -/
import Derived.Test.YthjnkcapjhelgaaGpf
namespace Go.Proofs.Ythjnkcapjhelgaa
open Go.RowKit Go.BigFrame Go.Maps
set_option linter.unusedVariables false
set_option linter.unusedSimpArgs false

/-- A list is told, and the gate has gone on. -/
structure TellP (g : Nat) (S : Nat → Prop) (w : World) (s' : Gs) (t' : Nat) (l : List Ev) (ao : Option Addr) (cap : Nat) (w' : World) : Prop where
  own : w'.ownsRow w.heap.size 47 11 (.slice ao l.length cap) l.length (fl evC l)
  step : GStep g S w w' s' t'
theorem GStep.ofI {w w' : World} {g p b base : Nat} {v v' : Value} {L' : List (Ev × Nat)} {t t' : Nat} {s' : Gs} (hs : s'.ok) (ht : t' ≤ t) (G : GatI w' g p b base v' L' t' s') (F : Frm (foot g p b v) w w') (V : ∀ k, foot g p b v' k → foot g p b v k ∨ w.heap.size ≤ k) : GStep g (foot g p b v) w w' s' t := ⟨foot g p b v', ⟨hs, p, b, base, v', L', t', ht, rfl, G⟩, F, V⟩
set_option maxRecDepth 100000 in
set_option maxHeartbeats 2000000 in
theorem adv_any (g t : Nat) (S : Nat → Prop) (s : Gs) (m : Int) (w : World) (GG : Gat w g S s t) :
    Calls Try.prog 38 #[.pointer (some ⟨g, 0, none⟩), .int .i64 m] w fun e w' => ∃ ao cap, e = .returned (.tuple #[.slice ao (s.advL m).length cap, .int .i64 (s.advC m)]) ∧ TellP g S w (s.adv m) t (s.advL m) ao cap w' := by
  obtain ⟨hs, p, b, base, v, L, t0, ht0, hS, G⟩ := id GG
  have hok := Gs.adv_ok GG.1 m
  have d4 : w.cell? ⟨g, 4, none⟩ = some (.bool s.cl) := G.blk.at5.2.2.2.2
  have d3 : w.cell? ⟨g, 3, none⟩ = some (.int .i64 s.mark) := G.blk.at5.2.2.2.1
  have cS := fun u : World => isSafe_any m u
  have no : ∀ c : Int, c ≠ 0 → s.advC m = c → s.advL m = [] ∧ s.adv m = s := fun c hc e => by
    unfold Gs.advL Gs.adv
    rw [e, if_neg hc, if_neg hc]
    exact ⟨rfl, rfl⟩
  have fin : ∀ c : Int, TellP g S w s t [] none 0 w := fun c => ⟨World.ownsRow_nil _ _ _ _, GStep.of GG (Below.refl _ _)⟩
  cases hc : s.cl with
  | true =>
    have eC : s.advC m = 101 := by unfold Gs.advC; rw [if_pos hc]
    obtain ⟨e1, e2⟩ := no 101 (by decide) eC
    rw [eC, e1, e2]
    rw [hc] at d4
    clear eC e1 e2 hok d3 cS no
    go_enter Try.func38, Try.ntmps38
    go_wp2
    go_ret2
    exact ⟨none, 0, rfl, fin 0⟩
  | false =>
    rw [hc] at d4
    by_cases h1 : m < -1152921504606846976 ∨ 1152921504606846976 < m
    · have eC : s.advC m = 106 := by unfold Gs.advC; rw [if_neg (by rw [hc]; decide), if_pos h1]
      obtain ⟨e1, e2⟩ := no 106 (by decide) eC
      rw [eC, e1, e2]
      rw [safe_no h1] at cS
      clear eC e1 e2 hok d3 no
      go_enter Try.func38, Try.ntmps38
      go_wp2_with (first | (go_at_call 29; (with_reducible refine (cS _).mono ?_); rintro e u ⟨rfl, hu⟩; have hu' := hu.symm; subst hu'))
      go_ret2
      exact ⟨none, 0, rfl, fin 0⟩
    · rw [safe_yes h1] at cS
      by_cases h2 : m < s.mark
      · have eC : s.advC m = 105 := by unfold Gs.advC; rw [if_neg (by rw [hc]; decide), if_neg h1, if_pos h2]
        obtain ⟨e1, e2⟩ := no 105 (by decide) eC
        rw [eC, e1, e2]
        clear eC e1 e2 hok no
        go_enter Try.func38, Try.ntmps38
        go_wp2_with (first | (go_at_call 29; (with_reducible refine (cS _).mono ?_); rintro e u ⟨rfl, hu⟩; have hu' := hu.symm; subst hu'))
        go_ret2
        exact ⟨none, 0, rfl, fin 0⟩
      · have eC : s.advC m = 0 := by unfold Gs.advC; rw [if_neg (by rw [hc]; decide), if_neg h1, if_neg h2]
        have e1 : s.advL m = s.l.takeWhile (atM m) := by unfold Gs.advL; rw [if_pos eC]
        have e2 : s.adv m = { s with mark := m, l := s.l.dropWhile (atM m) } := by unfold Gs.adv; rw [if_pos eC]
        rw [eC, e1, e2]
        rw [e2] at hok
        have cR := reach_any g p b base t0 v L s m w G hs.len' hs.ris hs.evs
        have h2' : s.mark ≤ m := by omega
        clear eC e1 e2 no h2
        go_enter Try.func38, Try.ntmps38
        go_wp2_with (first
          | (go_at_call 29; (with_reducible refine (cS _).mono ?_); rintro e u ⟨rfl, hu⟩; have hu' := hu.symm; subst hu')
          | (go_at_call 48; (with_reducible refine cR.mono ?_); rintro e u2 ⟨vo, rfl, RP⟩; obtain ⟨v2, L2, O2, G2, F2, V2⟩ := RP.ex; obtain ⟨ao, cp, rfl, _⟩ := own_form O2))
        go_ret2
        exact ⟨ao, cp, rfl, O2, by rw [hS]; exact GStep.ofI hok ht0 G2 F2 V2⟩
set_option maxRecDepth 100000 in
set_option maxHeartbeats 2000000 in
theorem flu_any (g t : Nat) (S : Nat → Prop) (s : Gs) (w : World) (GG : Gat w g S s t) :
    Calls Try.prog 39 #[.pointer (some ⟨g, 0, none⟩)] w fun e w' => ∃ ao cap, e = .returned (.tuple #[.slice ao s.fluL.length cap, .int .i64 s.fluC]) ∧ TellP g S w s.flu t s.fluL ao cap w' := by
  obtain ⟨hs, p, b, base, v, L, t0, ht0, hS, G⟩ := id GG
  have hok := Gs.flu_ok GG.1
  have d4 : w.cell? ⟨g, 4, none⟩ = some (.bool s.cl) := G.blk.at5.2.2.2.2
  have f4 := G.blk.free 4
  cases hc : s.cl with
  | true =>
    have eC : s.fluC = 101 := by unfold Gs.fluC; rw [if_pos hc]
    have e1 : s.fluL = [] := by unfold Gs.fluL; rw [if_pos hc]
    have e2 : s.flu = s := by unfold Gs.flu; rw [if_pos hc]
    rw [eC, e1, e2]
    rw [hc] at d4
    clear eC e1 e2 hok
    go_enter Try.func39, Try.ntmps39
    go_wp2
    go_ret2
    exact ⟨none, 0, rfl, World.ownsRow_nil _ _ _ _, GStep.of GG (Below.refl _ _)⟩
  | false =>
    rw [hc] at d4
    have eC : s.fluC = 0 := by unfold Gs.fluC; rw [if_neg (by rw [hc]; decide)]
    have e1 : s.fluL = s.l := by unfold Gs.fluL; rw [if_neg (by rw [hc]; decide)]
    have e2 : s.flu = { s with mark := 1152921504606846976, cl := true, l := [] } := by unfold Gs.flu; rw [if_neg (by rw [hc]; decide)]
    rw [eC, e1, e2]
    rw [e2] at hok
    have G1 := G.setG (s' := { s with cl := true }) 4 (.bool true) rfl rfl
    have F1 : Frm (foot g p b v) w (w.setCell ⟨g, 4, none⟩ (.bool true)) := Frm.setG (.inl rfl) 4 _
    have hz : (w.setCell ⟨g, 4, none⟩ (.bool true)).heap.size = w.heap.size := by simp
    generalize hW1 : w.setCell ⟨g, 4, none⟩ (.bool true) = W1 at *
    obtain ⟨t1, t2⟩ := take_all (m := 1152921504606846976) (l := s.l) fun e he => (hs.hi e he).2
    have cR := reach_any g p b base t0 v L { s with cl := true } 1152921504606846976 W1 G1 hs.len' hs.ris hs.evs
    clear eC e1 e2
    go_enter Try.func39, Try.ntmps39
    go_wp2_with (first
      | (go_at_call 48; (with_reducible refine cR.mono ?_); rintro e u2 ⟨vo, rfl, RP⟩; obtain ⟨v2, L2, O2, G2, F2, V2⟩ := RP.ex; replace O2 : u2.ownsRow W1.heap.size 47 11 vo s.l.length (fl evC s.l) := (by rw [show (Gs.l { s with cl := true }).takeWhile (atM 1152921504606846976) = s.l from t1] at O2; exact O2); replace G2 : GatI u2 g p b base v2 L2 t0 { s with mark := 1152921504606846976, cl := true, l := [] } := (by have e : (Gs.l { s with cl := true }).dropWhile (atM 1152921504606846976) = [] := t2; rw [e] at G2; exact G2); obtain ⟨ao, cp, rfl, _⟩ := own_form O2))
    go_ret2
    refine ⟨ao, cp, rfl, by rw [← hz]; exact O2, ?_⟩
    rw [hS]
    exact GStep.ofI hok ht0 G2 (F1.trans F2 fun j e => .inl e) (fun k e => by rw [← hz]; exact V2 k e)
/-- The gate's pile, for its promoted Len. -/
theorem Gat.pile {w : World} {g : Nat} {S : Nat → Prop} {s : Gs} {t : Nat} (GG : Gat w g S s t) : ∃ p, w.cell? ⟨g, 0, none⟩ = some (.pointer (some ⟨p, 0, none⟩)) ∧ ∀ u : World, Below w.heap.size w u → Calls Try.prog 32 #[.pointer (some ⟨p, 0, none⟩)] u fun e w' => e = .returned (.int .i64 (s.l.length : Int)) ∧ w' = u := by
  obtain ⟨hs, p, b, base, v, L, t0, ht0, hS, G⟩ := GG
  have hlen : L.length = s.l.length := by rw [← G.fst, List.length_map]
  refine ⟨p, G.blk.at5.1, fun u B => ?_⟩
  have := evLenA p base t0 v L u (G.keep B).pile
  rw [hlen] at this
  exact this
set_option maxRecDepth 100000 in
set_option maxHeartbeats 1000000 in
theorem held_any (g t : Nat) (S : Nat → Prop) (s : Gs) (w : World) (GG : Gat w g S s t) :
    Calls Try.prog 17 #[.pointer (some ⟨g, 0, none⟩)] w fun e w' => ∃ b, e = .returned (.slice (some ⟨b, 0, none⟩) s.l.length s.l.length) ∧ w'.ownsRow w.heap.size 47 11 (.slice (some ⟨b, 0, none⟩) s.l.length s.l.length) s.l.length (fl evC s.l) ∧ Below w.heap.size w w' := by
  obtain ⟨hs, p, b, base, v, L, t0, ht0, hS, G⟩ := GG
  have hlen : L.length = s.l.length := by rw [← G.fst, List.length_map]
  have hl := hs.len'
  have d0 := G.blk.at5.1
  have c1 := evSorted p base t0 v L w G.pile (by omega)
  rw [G.fst, hlen] at c1
  go_enter Try.func17, Try.ntmps17
  go_wp2_with (first
    | (go_at_call 37; (with_reducible refine c1.mono ?_); rintro e u2 ⟨g2, rfl, O2, G2⟩))
  go_ret
  exact ⟨g2, rfl, O2, G2⟩

end Go.Proofs.Ythjnkcapjhelgaa
