/- The document's machine: list, says, needs. -/
import Derived.Test.YtjeffmfnaihhjaaDoorCdd
import Derived.Test.YtjeffmfnaihhjaaDoorRef0
namespace Go.Proofs.YtjeffmfnaihhjaaDoor
open Go.RowKit Go.BigFrame
set_option linter.unusedVariables false
set_option linter.unusedSimpArgs false

set_option maxHeartbeats 1000000 in
theorem refList_any (E : Envr) (al : Option Addr) (cl : Nat) (item : Int) (w : World) (N : Nst w al evC E.lists) :
    ∃ a c, Lsl w E item a c ∧ ∀ u, Below w.heap.size w u → Calls Tryd.prog 32 #[envA al cl E, .int .i64 item] u fun e w' => e = .returned (.slice a (lstO E item).length c) ∧ Below u.heap.size u w' := by
  by_cases h0 : item < 0 ∨ (E.lists.length : Int) ≤ item
  · have hl : lstO E item = [] := if_pos h0
    rw [hl]
    refine ⟨none, 0, ⟨by rw [hl]; exact ⟨Nat.le_refl _, fun _ => ⟨rfl, rfl⟩⟩, by rw [hl]; exact Flat.nil _ _⟩, fun u G => ?_⟩
    by_cases h1 : item < 0
    · go_enter Tryd.func32, Tryd.ntmps32
      go_wp2
      go_ret
      exact ⟨rfl, galloc (Below.refl _ _) _⟩
    · have h2 : (E.lists.length : Int) ≤ item := by omega
      go_enter Tryd.func32, Tryd.ntmps32
      go_wp2
      go_ret
      exact ⟨rfl, galloc (Below.refl _ _) _⟩
  · obtain ⟨k, rfl⟩ : ∃ k : Nat, item = k := ⟨item.toNat, by omega⟩
    have hk : k < E.lists.length := by omega
    have hl : lstO E (k : Int) = E.lists.getD k [] := if_neg h0
    obtain ⟨g, o, a, c, rfl, a0, hf, hs⟩ := N k hk
    rw [hl]
    refine ⟨a, c, ⟨by rw [hl]; exact hs, by rw [hl]; exact hf⟩, fun u G => ?_⟩
    have a1 := (G.cell (p := ⟨_, _, none⟩) (lt_of_cell a0)).trans a0
    have hg : g < u.heap.size := lt_of_cell a1
    have h1 : ¬ (k : Int) < 0 := by omega
    have h2 : (k : Int) < (E.lists.length : Int) := by omega
    clear h0 a0 G N
    go_enter Tryd.func32, Tryd.ntmps32
    go_wp2
    go_ret
    exact ⟨rfl, galloc (Below.refl _ _) _⟩

def ndsR (c : Int) : Int := if c < 1 ∨ 26 < c then -1 else (ndsI c : Int)
set_option maxHeartbeats 1000000 in
theorem needs_any (c : Int) (w : World) :
    Calls Tryd.prog 46 #[.int .i64 c] w fun e w' => e = .returned (.int .i64 (ndsR c)) ∧ w = w' := by
  by_cases h0 : c < 1
  · rw [show ndsR c = -1 from if_pos (.inl h0)]
    go_enter Tryd.func46, Tryd.ntmps46
    go_wp2
    go_ret
    exact ⟨rfl, rfl⟩
  by_cases h1 : 26 < c
  · rw [show ndsR c = -1 from if_pos (.inr h1)]
    go_enter Tryd.func46, Tryd.ntmps46
    go_wp2
    go_ret
    exact ⟨rfl, rfl⟩
  rw [show ndsR c = (ndsI c : Int) from if_neg (by omega)]
  by_cases h2 : c < 10
  · rw [show ndsI c = 0 from if_pos h2]
    go_enter Tryd.func46, Tryd.ntmps46
    go_wp2
    go_ret
    exact ⟨rfl, rfl⟩
  by_cases h3 : c = 10 ∨ c = 11 ∨ 25 ≤ c
  · rw [show ndsI c = 1 by unfold ndsI; rw [if_neg h2, if_pos h3]]
    by_cases h10 : c = 10
    · subst h10
      go_enter Tryd.func46, Tryd.ntmps46
      go_wp2
      go_ret
      exact ⟨rfl, rfl⟩
    by_cases h11 : c = 11
    · subst h11
      go_enter Tryd.func46, Tryd.ntmps46
      go_wp2
      go_ret
      exact ⟨rfl, rfl⟩
    have e10 : (c == 10) = false := beq_eq_false_iff_ne.2 h10
    have e11 : (c == 11) = false := beq_eq_false_iff_ne.2 h11
    have h25 : 25 ≤ c := by omega
    clear h3
    go_enter Tryd.func46, Tryd.ntmps46
    go_wp2
    go_ret
    exact ⟨rfl, rfl⟩
  · rw [show ndsI c = 2 by unfold ndsI; rw [if_neg h2, if_neg h3]]
    have e10 : (c == 10) = false := beq_eq_false_iff_ne.2 (by omega)
    have e11 : (c == 11) = false := beq_eq_false_iff_ne.2 (by omega)
    have h25 : ¬ 25 ≤ c := by omega
    clear h3
    go_enter Tryd.func46, Tryd.ntmps46
    go_wp2
    go_ret
    exact ⟨rfl, rfl⟩

set_option maxRecDepth 100000 in
set_option maxHeartbeats 4000000 in
theorem says_any (ac : Option Addr) (cc : Nat) (col : List Int) (a : Option Addr) (c : Nat) (l : List Ev) (p : Int) (w : World) (hf : Flat w ac (fl intC col)) (hl : col.length ≤ 140737488351232) (hA : Flat w a (fl evC l)) (hn : l.length * 88 ≤ 140737488351232) :
    Calls Tryd.prog 62 #[.slice ac col.length cc, .slice a l.length c, .int .i64 p] w fun r w' => r = .returned (VA (sayV (plcO col) l p)) ∧ Below w.heap.size w w' := by
  have B := galloc (Below.refl w.heap.size w) (.cells #[.bool false, .int .i64 0] 33)
  by_cases h0 : p < 0
  · rw [show sayV (plcO col) l p = noV2 from if_pos (.inl h0)]
    go_enter Tryd.func62, Tryd.ntmps62
    go_wp2_with (go_at_call 28; (with_reducible refine (refNothing_any _).mono ?_); rintro _ w1 ⟨rfl, g1⟩; have B2 := gtrans B g1; obtain ⟨hc0, hf0⟩ := bcell g1)
    refine bodyPost_ret (v := .agg #[.bool false, .int .i64 0]) (by simp [results, Tryd.results62, go_sem, hc0]) rfl ⟨rfl, ?_⟩
    exact gset (gset B2 (by simp) _) (by simp) _
  by_cases h1 : (l.length : Int) ≤ p
  · rw [show sayV (plcO col) l p = noV2 from if_pos (.inr h1)]
    go_enter Tryd.func62, Tryd.ntmps62
    go_wp2_with (go_at_call 28; (with_reducible refine (refNothing_any _).mono ?_); rintro _ w1 ⟨rfl, g1⟩; have B2 := gtrans B g1; obtain ⟨hc0, hf0⟩ := bcell g1)
    refine bodyPost_ret (v := .agg #[.bool false, .int .i64 0]) (by simp [results, Tryd.results62, go_sem, hc0]) rfl ⟨rfl, ?_⟩
    exact gset (gset B2 (by simp) _) (by simp) _
  obtain ⟨k, rfl⟩ : ∃ k : Nat, p = k := ⟨p.toNat, by omega⟩
  have hk : k < l.length := by omega
  have hki : (k : Int) < (l.length : Int) := by omega
  have e1 : sayV (plcO col) l (k : Int) = rdE (plcO col) (l.getD k zeroE) := if_neg (by omega)
  rw [e1]
  obtain ⟨g, o, rfl, hg, hcc⟩ := hA.form (by rw [fl_len evC_sz]; omega)
  have A := ev_at hcc k hk
  generalize l.getD k zeroE = ev at A ⊢
  obtain ⟨c0, c1, c2, c3, c4, c5, c6, c7, c8, c9, c10⟩ := A
  clear hcc hA e1
  have B1 := galloc B (.cells (evC ev) 69)
  have R0 := (Two.new w (.bool false) (.int .i64 0) 33).alloc (.cells (evC ev) 69)
  unfold evC at B1 R0
  unfold rdE
  by_cases hy0 : ev.typ < 0
  · rw [show plcO col ev.typ = -1 from if_pos (.inl hy0), show rdP (-1) ev = noV2 from rfl]
    go_enter Tryd.func62, Tryd.ntmps62
    go_wp2_with (go_at_call 28; (with_reducible refine (refNothing_any _).mono ?_); rintro _ w1 ⟨rfl, g1⟩; have B2 := gtrans B1 g1; have r0 := (R0.keep g1).at0; have r1 := (R0.keep g1).at1; have rf := (R0.keep g1).free)
    refine bodyPost_ret (v := .agg #[.bool false, .int .i64 0]) (by simp [results, Tryd.results62, go_sem, r0, r1]) rfl ⟨rfl, ?_⟩
    exact gset (gset B2 (by simp) _) (by simp) _
  by_cases hy1 : (col.length : Int) ≤ ev.typ
  · rw [show plcO col ev.typ = -1 from if_pos (.inr hy1), show rdP (-1) ev = noV2 from rfl]
    go_enter Tryd.func62, Tryd.ntmps62
    go_wp2_with (go_at_call 28; (with_reducible refine (refNothing_any _).mono ?_); rintro _ w1 ⟨rfl, g1⟩; have B2 := gtrans B1 g1; have r0 := (R0.keep g1).at0; have r1 := (R0.keep g1).at1; have rf := (R0.keep g1).free)
    refine bodyPost_ret (v := .agg #[.bool false, .int .i64 0]) (by simp [results, Tryd.results62, go_sem, r0, r1]) rfl ⟨rfl, ?_⟩
    exact gset (gset B2 (by simp) _) (by simp) _
  obtain ⟨m, hm⟩ : ∃ m : Nat, ev.typ = m := ⟨ev.typ.toNat, by omega⟩
  have hmc : m < col.length := by omega
  have hmi : (m : Int) < (col.length : Int) := by omega
  have ep : plcO col ev.typ = col.getD m 0 := by rw [hm]; exact if_neg (by omega)
  rw [ep]
  have d1 := fl_at intC_sz 0 col m 0 hmc (by omega)
  rw [Nat.mul_one, Nat.add_zero] at d1
  obtain ⟨gp, op, rfl, hgp, hcp⟩ := hf.form (by rw [fl_len intC_sz]; omega)
  have a0 := hcp m (.int .i64 (col.getD m 0)) d1
  have hmn : ¬ (m : Int) < 0 := by omega
  generalize col.getD m 0 = pl at a0 ⊢
  obtain ⟨ts, id, typ, v0, v1, v2, v3, v4, v5, v6, v7⟩ := ev
  dsimp only at hm c0 c1 c2 c3 c4 c5 c6 c7 c8 c9 c10 B1 R0
  subst hm
  clear d1 hcp hf ep hy0 hy1
  by_cases h2 : pl = -2
  · subst h2
    rw [show rdP (-2) ⟨ts, id, (m : Int), v0, v1, v2, v3, v4, v5, v6, v7⟩ = (true, ts) from rfl]
    go_enter Tryd.func62, Tryd.ntmps62
    go_wp2_with (go_at_call 61; (with_reducible refine (refNumber_any _ _).mono ?_); rintro _ w1 ⟨rfl, g1⟩; have B2 := gtrans B1 g1; have r0 := (R0.keep g1).at0; have r1 := (R0.keep g1).at1; have rf := (R0.keep g1).free)
    refine bodyPost_ret (v := .agg #[.bool true, .int .i64 ts]) (by simp [results, Tryd.results62, go_sem, r0, r1]) rfl ⟨rfl, ?_⟩
    exact gset (gset B2 (by simp) _) (by simp) _
  have q2 : (pl == -2) = false := beq_eq_false_iff_ne.2 h2
  by_cases h3 : 0 ≤ pl ∧ pl < 8
  · obtain ⟨j, rfl⟩ : ∃ j : Nat, pl = j := ⟨pl.toNat, by omega⟩
    have hj : j < 8 := by omega
    have e1 : rdP (j : Int) ⟨ts, id, (m : Int), v0, v1, v2, v3, v4, v5, v6, v7⟩ = (true, (⟨ts, id, (m : Int), v0, v1, v2, v3, v4, v5, v6, v7⟩ : Ev).at j) := by unfold rdP; rw [if_neg h2, if_pos h3]; rfl
    rw [e1]
    clear h2 e1 h3
    rcases (show j = 0 ∨ j = 1 ∨ j = 2 ∨ j = 3 ∨ j = 4 ∨ j = 5 ∨ j = 6 ∨ j = 7 from by omega) with rfl | rfl | rfl | rfl | rfl | rfl | rfl | rfl
    all_goals
      go_enter Tryd.func62, Tryd.ntmps62
      go_wp2_with (go_at_call 61; (with_reducible refine (refNumber_any _ _).mono ?_); rintro _ w1 ⟨rfl, g1⟩; have B2 := gtrans B1 g1; have r0 := (R0.keep g1).at0; have r1 := (R0.keep g1).at1; have rf := (R0.keep g1).free)
      refine bodyPost_ret (v := .agg #[.bool true, .int .i64 _]) (by simp [results, Tryd.results62, go_sem, r0, r1]; first | rfl | done) rfl ⟨rfl, ?_⟩
      exact gset (gset B2 (by simp) _) (by simp) _
  · have e1 : rdP pl ⟨ts, id, (m : Int), v0, v1, v2, v3, v4, v5, v6, v7⟩ = noV2 := by unfold rdP; rw [if_neg h2, if_neg h3]
    rw [e1]
    by_cases h4 : 0 ≤ pl
    · have h5 : ¬ pl < 8 := fun h => h3 ⟨h4, h⟩
      clear h2 e1 h3
      go_enter Tryd.func62, Tryd.ntmps62
      go_wp2_with (go_at_call 28; (with_reducible refine (refNothing_any _).mono ?_); rintro _ w1 ⟨rfl, g1⟩; have B2 := gtrans B1 g1; have r0 := (R0.keep g1).at0; have r1 := (R0.keep g1).at1; have rf := (R0.keep g1).free)
      refine bodyPost_ret (v := .agg #[.bool false, .int .i64 0]) (by simp [results, Tryd.results62, go_sem, r0, r1]) rfl ⟨rfl, ?_⟩
      exact gset (gset B2 (by simp) _) (by simp) _
    · clear h2 e1 h3
      go_enter Tryd.func62, Tryd.ntmps62
      go_wp2_with (go_at_call 28; (with_reducible refine (refNothing_any _).mono ?_); rintro _ w1 ⟨rfl, g1⟩; have B2 := gtrans B1 g1; have r0 := (R0.keep g1).at0; have r1 := (R0.keep g1).at1; have rf := (R0.keep g1).free)
      refine bodyPost_ret (v := .agg #[.bool false, .int .i64 0]) (by simp [results, Tryd.results62, go_sem, r0, r1]) rfl ⟨rfl, ?_⟩
      exact gset (gset B2 (by simp) _) (by simp) _

end Go.Proofs.YtjeffmfnaihhjaaDoor
