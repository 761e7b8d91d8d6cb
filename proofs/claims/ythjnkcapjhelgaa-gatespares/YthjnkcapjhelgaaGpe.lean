/- Push. -/
import Derived.Test.YthjnkcapjhelgaaGpd
namespace Go.Proofs.Ythjnkcapjhelgaa
open Go.RowKit Go.BigFrame Go.Maps
set_option linter.unusedVariables false
set_option linter.unusedSimpArgs false

theorem safe_no {ts : Int} (h : ts < -1152921504606846976 ∨ 1152921504606846976 < ts) : safeB ts = false := decide_eq_false (by omega)
theorem safe_yes {ts : Int} (h : ¬ (ts < -1152921504606846976 ∨ 1152921504606846976 < ts)) : safeB ts = true := decide_eq_true (by omega)
set_option maxRecDepth 100000 in
set_option maxHeartbeats 4000000 in
theorem push_any (g t : Nat) (S : Nat → Prop) (s : Gs) (x : Ev) (w : World) (GG : Gat w g S s t) (hx : x.ok) (ht : t + 1 ≤ 140737488351232) :
    Calls Try.prog 14 #[.pointer (some ⟨g, 0, none⟩), .agg (evC x)] w fun e w' => e = .returned (.int .i64 (s.pushC x)) ∧ GStep g S w w' (s.push x) (t + 1) := by
  have B := galloc (Below.refl w.heap.size w) (.cells (evC x) 47)
  have b3 := Bk.new w (evC x) 47
  have GV := GG.keep B
  have hok := Gs.push_ok GG.1 x hx
  generalize hV : w.alloc (.cells (evC x) 47) = V at *
  obtain ⟨hs, p, b, base, v, L, t0, ht0, hS, G⟩ := id GV
  have d4 : V.cell? ⟨g, 4, none⟩ = some (.bool s.cl) := G.blk.at5.2.2.2.2
  have d3 : V.cell? ⟨g, 3, none⟩ = some (.int .i64 s.mark) := G.blk.at5.2.2.2.1
  have e0 : V.cell? ⟨w.heap.size, 0, none⟩ = some (.int .i64 x.ts) := cell_of_row V _ 0 _ _ _ b3
  have cS := fun u : World => isSafe_any x.ts u
  cases hc : s.cl with
  | true =>
    have eC : s.pushC x = 101 := by unfold Gs.pushC; rw [if_pos hc]
    have eS : s.push x = s := by unfold Gs.push; rw [if_neg (by rw [eC]; decide)]
    rw [eC, eS]
    rw [hc] at d4
    clear eC eS hok d3 cS
    go_enter Try.func14, Try.ntmps14
    go_upto_region 1 with fail
    go_wp2
    go_ret
    exact ⟨rfl, GStep.first B ((GStep.of GV (Below.refl _ _)).mono (Nat.le_succ _))⟩
  | false =>
    rw [hc] at d4
    by_cases h1 : x.ts < -1152921504606846976 ∨ 1152921504606846976 < x.ts
    · have eC : s.pushC x = 29 := by unfold Gs.pushC; rw [if_neg (by rw [hc]; decide), if_pos h1]
      have eS : s.push x = s := by unfold Gs.push; rw [if_neg (by rw [eC]; decide)]
      rw [eC, eS]
      rw [safe_no h1] at cS
      clear eC eS hok d3
      go_enter Try.func14, Try.ntmps14
      go_upto_region 1 with fail
      go_wp2_with (first | (go_at_call 29; (with_reducible refine (cS _).mono ?_); rintro e u ⟨rfl, hu⟩; have hu' := hu.symm; subst hu'))
      go_ret
      exact ⟨rfl, GStep.first B ((GStep.of GV (Below.refl _ _)).mono (Nat.le_succ _))⟩
    · rw [safe_yes h1] at cS
      have hne0 : Nonempty (Ext V) := ⟨⟨_, Below.refl _ _⟩⟩
      have x0 := fun z : Ext V => (z.cell _ _ b3.lt).trans e0
      have x3 := fun z : Ext V => (z.cell _ _ G.blk.lt).trans d3
      by_cases h2 : x.ts ≤ s.mark
      · have eC : s.pushC x = 102 := by unfold Gs.pushC; rw [if_neg (by rw [hc]; decide), if_neg h1, if_pos h2]
        have eS : s.push x = s := by unfold Gs.push; rw [if_neg (by rw [eC]; decide)]
        rw [eC, eS]
        clear eC eS hok d3
        go_enter Try.func14, Try.ntmps14
        go_upto_region 1 with fail
        go_upto_region 5 with (first | (go_at_call 29; (with_reducible refine (cS _).mono ?_); rintro e u ⟨rfl, hu⟩; have hu' := hu.symm; subst hu'))
        refine wp_region_ext (by kernel_rfl) (by kernel_rfl) ?_
        repeat go_big_quiet_step (fail)
        refine wpQuiet_nil ?_
        intro _ hw'
        obtain ⟨n1, hw''⟩ := hw'
        subst hw''
        go_wp2
        go_ret
        exact ⟨rfl, GStep.first B ((GStep.of GV n1.h).mono (Nat.le_succ _))⟩
      · have h2' : decide (x.ts ≤ s.mark) = false := decide_eq_false h2
        cases h3 : hasN s.l x.ts x.id with
        | true =>
          have eC : s.pushC x = 103 := by unfold Gs.pushC; rw [if_neg (by rw [hc]; decide), if_neg h1, if_neg h2, if_pos h3]
          have eS : s.push x = s := by unfold Gs.push; rw [if_neg (by rw [eC]; decide)]
          rw [eC, eS]
          clear eC eS hok d3
          go_enter Try.func14, Try.ntmps14
          go_upto_region 1 with fail
          go_upto_region 5 with (first | (go_at_call 29; (with_reducible refine (cS _).mono ?_); rintro e u ⟨rfl, hu⟩; have hu' := hu.symm; subst hu'))
          refine wp_region_ext (by kernel_rfl) (by kernel_rfl) ?_
          repeat go_big_quiet_step (fail)
          refine wpQuiet_nil ?_
          intro _ hw'
          obtain ⟨n1, hw''⟩ := hw'
          subst hw''
          have r1 := (b3.keep n1.h).range
          have G1 := G.keep n1.h
          have c1 := evName_any x n1.X
          clear x0 x3 hne0
          go_wp2_with (first
            | (refine wpList_load_mid rfl 47 _ rfl w.heap.size 0 rfl (evC x).toList _ r1 Try.underlying47 rfl infoEv ?_)
            | (go_at_call 31; (with_reducible refine c1.mono ?_); rintro e u2 ⟨rfl, g2⟩; have G2 := G1.keep g2; have c2 := holds_any g b t0 s.l _ _ _ _ x.ts x.id u2 G2.blk G2.names hx.nm; rw [h3] at c2; unfold nmV at c2)
            | (go_at_call 30; (with_reducible refine c2.mono ?_); rintro e u3 ⟨rfl, g3⟩))
          go_ret
          exact ⟨rfl, GStep.first B ((GStep.of GV (gtrans n1.h (gtrans g2 g3))).mono (Nat.le_succ _))⟩
        | false =>
          have hlen : L.length = s.l.length := by rw [← G.fst, List.length_map]
          by_cases h4 : s.cap ≤ (s.l.length : Int)
          · have eC : s.pushC x = 104 := by unfold Gs.pushC; rw [if_neg (by rw [hc]; decide), if_neg h1, if_neg h2, if_neg (by rw [h3]; decide), if_pos h4]
            have eS : s.push x = s := by unfold Gs.push; rw [if_neg (by rw [eC]; decide)]
            rw [eC, eS]
            clear eC eS hok d3
            go_enter Try.func14, Try.ntmps14
            go_upto_region 1 with fail
            go_upto_region 5 with (first | (go_at_call 29; (with_reducible refine (cS _).mono ?_); rintro e u ⟨rfl, hu⟩; have hu' := hu.symm; subst hu'))
            refine wp_region_ext (by kernel_rfl) (by kernel_rfl) ?_
            repeat go_big_quiet_step (fail)
            refine wpQuiet_nil ?_
            intro _ hw'
            obtain ⟨n1, hw''⟩ := hw'
            subst hw''
            have r1 := (b3.keep n1.h).range
            have G1 := G.keep n1.h
            have c1 := evName_any x n1.X
            clear x0 x3 hne0
            go_upto_region 9 with (first
              | (refine wpList_load_mid rfl 47 _ rfl w.heap.size 0 rfl (evC x).toList _ r1 Try.underlying47 rfl infoEv ?_)
              | (go_at_call 31; (with_reducible refine c1.mono ?_); rintro e u2 ⟨rfl, g2⟩; have G2 := G1.keep g2; have c2 := holds_any g b t0 s.l _ _ _ _ x.ts x.id u2 G2.blk G2.names hx.nm; rw [h3] at c2; unfold nmV at c2)
              | (go_at_call 30; (with_reducible refine c2.mono ?_); rintro e u3 ⟨rfl, g3⟩))
            have G3 := G2.keep g3
            have y0 := fun z : Ext u3 => (z.cell _ _ G3.blk.lt).trans G3.blk.at5.1
            have y2 := fun z : Ext u3 => (z.cell _ _ G3.blk.lt).trans G3.blk.at5.2.2.1
            have hne0 : Nonempty (Ext u3) := ⟨⟨_, Below.refl _ _⟩⟩
            have cL : ∀ z : Ext u3, Calls Try.prog 32 #[.pointer (some ⟨p, 0, none⟩)] z.X (fun e w'' => e = .returned (.int .i64 (s.l.length : Int)) ∧ ∃ m : Ext u3, w'' = m.X) := fun z => (evLenA p base t0 v L z.X (G3.keep z.h).pile).mono fun e w'' ⟨h1, h2⟩ => ⟨by rw [h1, hlen], z, h2⟩
            clear hlen
            refine wp_region_ext (by kernel_rfl) (by kernel_rfl) ?_
            repeat go_big_quiet_step (first | (go_at_call 32; with_reducible exact cL _))
            refine wpQuiet_nil ?_
            intro _ hw'
            obtain ⟨n2, hw''⟩ := hw'
            subst hw''
            go_wp2
            go_ret
            exact ⟨rfl, GStep.first B ((GStep.of GV (gtrans (gtrans n1.h (gtrans g2 g3)) n2.h)).mono (Nat.le_succ _))⟩
          · have h4' : decide (s.cap ≤ (s.l.length : Int)) = false := decide_eq_false h4
            have eC : s.pushC x = 0 := by unfold Gs.pushC; rw [if_neg (by rw [hc]; decide), if_neg h1, if_neg h2, if_neg (by rw [h3]; decide), if_neg h4]
            have eS : s.push x = { s with l := ins evLt x s.l } := by unfold Gs.push; rw [if_pos eC]
            rw [eC, eS]
            rw [eS] at hok
            clear eC eS d3
            go_enter Try.func14, Try.ntmps14
            go_upto_region 1 with fail
            go_upto_region 5 with (first | (go_at_call 29; (with_reducible refine (cS _).mono ?_); rintro e u ⟨rfl, hu⟩; have hu' := hu.symm; subst hu'))
            refine wp_region_ext (by kernel_rfl) (by kernel_rfl) ?_
            repeat go_big_quiet_step (fail)
            refine wpQuiet_nil ?_
            intro _ hw'
            obtain ⟨n1, hw''⟩ := hw'
            subst hw''
            have r1 := (b3.keep n1.h).range
            have G1 := G.keep n1.h
            have c1 := evName_any x n1.X
            clear x0 x3 hne0
            go_upto_region 9 with (first
              | (refine wpList_load_mid rfl 47 _ rfl w.heap.size 0 rfl (evC x).toList _ r1 Try.underlying47 rfl infoEv ?_)
              | (go_at_call 31; (with_reducible refine c1.mono ?_); rintro e u2 ⟨rfl, g2⟩; have G2 := G1.keep g2; have c2 := holds_any g b t0 s.l _ _ _ _ x.ts x.id u2 G2.blk G2.names hx.nm; rw [h3] at c2; unfold nmV at c2)
              | (go_at_call 30; (with_reducible refine c2.mono ?_); rintro e u3 ⟨rfl, g3⟩))
            have G3 := G2.keep g3
            have y0 := fun z : Ext u3 => (z.cell _ _ G3.blk.lt).trans G3.blk.at5.1
            have y2 := fun z : Ext u3 => (z.cell _ _ G3.blk.lt).trans G3.blk.at5.2.2.1
            have hne0 : Nonempty (Ext u3) := ⟨⟨_, Below.refl _ _⟩⟩
            have cL : ∀ z : Ext u3, Calls Try.prog 32 #[.pointer (some ⟨p, 0, none⟩)] z.X (fun e w'' => e = .returned (.int .i64 (s.l.length : Int)) ∧ ∃ m : Ext u3, w'' = m.X) := fun z => (evLenA p base t0 v L z.X (G3.keep z.h).pile).mono fun e w'' ⟨h1, h2⟩ => ⟨by rw [h1, hlen], z, h2⟩
            clear hlen
            refine wp_region_ext (by kernel_rfl) (by kernel_rfl) ?_
            repeat go_big_quiet_step (first | (go_at_call 32; with_reducible exact cL _))
            refine wpQuiet_nil ?_
            intro _ hw'
            obtain ⟨n2, hw''⟩ := hw'
            subst hw''
            have GF := gtrans (gtrans n1.h (gtrans g2 g3)) n2.h
            have r2 := (b3.keep GF).range
            have c3 := hold_any g t S s x n2.X (GV.keep GF) hx hok ht
            clear y0 y2 hne0 cL
            go_wp2_with (first
              | (refine wpList_load_mid rfl 47 _ rfl w.heap.size 0 rfl (evC x).toList _ r2 Try.underlying47 rfl infoEv ?_)
              | (go_at_call 33; (with_reducible refine c3.mono ?_); rintro e u5 ⟨rfl, S5⟩))
            go_ret
            exact ⟨rfl, GStep.first (gtrans B GF) S5⟩

end Go.Proofs.Ythjnkcapjhelgaa
