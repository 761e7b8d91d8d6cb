/- What is read of events: read, readAt, fold, mention, by the column's place as a method value. -/
import Derived.Test.YtjeffmfnaihhjaaDoorCdb
import Derived.Deep.OwnRows
namespace Go.Proofs.YtjeffmfnaihhjaaDoor
open Go.RowKit Go.BigFrame
set_option linter.unusedVariables false
set_option linter.unusedSimpArgs false

/-- A column's place, bound. -/
abbrev plcF (ac : Option Addr) (n c : Nat) : Value := .func (.func 22) #[.slice ac n c] #[]
theorem ev_ats (e : Ev) (j : Nat) (hj : j < 8) (w : World) (T : TypeId) : (w.alloc (.cells (evC e) T)).cell? ⟨w.heap.size, 3 + j, none⟩ = some (.int .i64 (e.at j)) := by
  rw [World.cell?_alloc_new]
  have := evC_at e j hj
  simpa using this

set_option maxRecDepth 100000 in
set_option maxHeartbeats 2000000 in
theorem read_any' (ac : Option Addr) (cc : Nat) (col : List Int) (e : Ev) (w : World) (hf : Flat w ac (fl intC col)) (hl : col.length ≤ 140737488351232) :
    Calls Tryd.prog 52 #[plcF ac col.length cc, .agg (evC e)] w fun r w' => r = .returned (VA (rdE (plcO col) e)) ∧ Below w.heap.size w w' := by
  have B := galloc (galloc (Below.refl w.heap.size w) (.cells (evC e) 69)) (.cells #[.bool false, .int .i64 0] 33)
  have hp := place_any ac cc col e.typ _ (hf.keep B) hl
  unfold rdE
  generalize plcO col e.typ = pl at hp ⊢
  by_cases h2 : pl = -2
  · subst h2
    rw [show rdP (-2) e = (true, e.ts) from rfl]
    go_enter Tryd.func52, Tryd.ntmps52
    unfold evC at B hp ⊢
    go_wp2_with (first
      | (go_at_call 22; (with_reducible refine hp.mono ?_); rintro _ _ ⟨rfl, rfl⟩)
      | (go_at_call 18; (with_reducible refine (cknown_any _ _).mono ?_); rintro _ w1 ⟨rfl, g1⟩; have B2 := gtrans B g1; obtain ⟨hc0, hf0⟩ := bcell g1))
    refine bodyPost_ret (v := .agg #[.bool true, .int .i64 e.ts]) (by simp [results, Tryd.results52, go_sem, hc0]) rfl ⟨rfl, ?_⟩
    exact gset (gset B2 (by simp) _) (by simp) _
  have q2 : (pl == -2) = false := beq_eq_false_iff_ne.2 h2
  by_cases h3 : 0 ≤ pl ∧ pl < 8
  · obtain ⟨j, rfl⟩ : ∃ j : Nat, pl = j := ⟨pl.toNat, by omega⟩
    have hj : j < 8 := by omega
    obtain ⟨h30, h31⟩ := h3
    have e1 : rdP (j : Int) e = (true, e.at j) := by unfold rdP; rw [if_neg h2, if_pos ⟨h30, h31⟩]; rfl
    rw [e1]
    clear h2 e1 h30 h31
    rcases (show j = 0 ∨ j = 1 ∨ j = 2 ∨ j = 3 ∨ j = 4 ∨ j = 5 ∨ j = 6 ∨ j = 7 from by omega) with rfl | rfl | rfl | rfl | rfl | rfl | rfl | rfl
    all_goals
      go_enter Tryd.func52, Tryd.ntmps52
      unfold evC at B hp ⊢
      go_wp2_with (first
        | (go_at_call 22; (with_reducible refine hp.mono ?_); rintro _ _ ⟨rfl, rfl⟩)
        | (go_at_call 18; (with_reducible refine (cknown_any _ _).mono ?_); rintro _ w1 ⟨rfl, g1⟩; have B2 := gtrans B g1; obtain ⟨hc0, hf0⟩ := bcell g1))
      refine bodyPost_ret (v := .agg #[.bool true, .int .i64 _]) (by simp [results, Tryd.results52, go_sem, hc0]; first | rfl | done) rfl ⟨rfl, ?_⟩
      exact gset (gset B2 (by simp) _) (by simp) _
  · have e1 : rdP pl e = noV2 := by unfold rdP; rw [if_neg h2, if_neg h3]
    rw [e1]
    by_cases h4 : 0 ≤ pl
    · have h5 : ¬ pl < 8 := fun h => h3 ⟨h4, h⟩
      go_enter Tryd.func52, Tryd.ntmps52
      unfold evC at B hp ⊢
      clear h2 e1 h3
      go_wp2_with (first
        | (go_at_call 22; (with_reducible refine hp.mono ?_); rintro _ _ ⟨rfl, rfl⟩))
      refine bodyPost_ret (v := .agg #[.bool false, .int .i64 0]) (by simp [results, Tryd.results52, go_sem]) rfl ⟨rfl, ?_⟩
      first | exact B | exact gset (gset B (by simp) _) (by simp) _
    · go_enter Tryd.func52, Tryd.ntmps52
      unfold evC at B hp ⊢
      clear h2 e1 h3
      go_wp2_with (first
        | (go_at_call 22; (with_reducible refine hp.mono ?_); rintro _ _ ⟨rfl, rfl⟩))
      refine bodyPost_ret (v := .agg #[.bool false, .int .i64 0]) (by simp [results, Tryd.results52, go_sem]) rfl ⟨rfl, ?_⟩
      first | exact B | exact gset (gset B (by simp) _) (by simp) _

/-- The cells of an event of a row. -/
structure EvAt (w : World) (g o : Nat) (e : Ev) : Prop where
  c0 : w.cell? ⟨g, o, none⟩ = some (.int .i64 e.ts)
  c1 : w.cell? ⟨g, o + 1, none⟩ = some (.int .u64 e.id)
  c2 : w.cell? ⟨g, o + 2, none⟩ = some (.int .i64 e.typ)
  c3 : w.cell? ⟨g, o + 3, none⟩ = some (.int .i64 e.a0)
  c4 : w.cell? ⟨g, o + 4, none⟩ = some (.int .i64 e.a1)
  c5 : w.cell? ⟨g, o + 5, none⟩ = some (.int .i64 e.a2)
  c6 : w.cell? ⟨g, o + 6, none⟩ = some (.int .i64 e.a3)
  c7 : w.cell? ⟨g, o + 7, none⟩ = some (.int .i64 e.a4)
  c8 : w.cell? ⟨g, o + 8, none⟩ = some (.int .i64 e.a5)
  c9 : w.cell? ⟨g, o + 9, none⟩ = some (.int .i64 e.a6)
  c10 : w.cell? ⟨g, o + 10, none⟩ = some (.int .i64 e.a7)
theorem ev_at {w : World} {g o : Nat} {l : List Ev} (h : ∀ j u, (fl evC l)[j]? = some u → w.cell? ⟨g, o + j, none⟩ = some u) (k : Nat) (hk : k < l.length) : EvAt w g (o + k * 11) (l.getD k zeroE) := by
  have key : ∀ j u, j < 11 → (evC (l.getD k zeroE)).toList[j]? = some u → w.cell? ⟨g, o + k * 11 + j, none⟩ = some u := fun j u hj hu => by
    rw [Nat.add_assoc]
    exact h _ _ ((fl_at evC_sz zeroE l k j hk hj).trans hu)
  exact ⟨key 0 _ (by omega) rfl, key 1 _ (by omega) rfl, key 2 _ (by omega) rfl, key 3 _ (by omega) rfl, key 4 _ (by omega) rfl, key 5 _ (by omega) rfl, key 6 _ (by omega) rfl, key 7 _ (by omega) rfl, key 8 _ (by omega) rfl, key 9 _ (by omega) rfl, key 10 _ (by omega) rfl⟩

set_option maxRecDepth 100000 in
set_option maxHeartbeats 2000000 in
theorem readAt_any (ac : Option Addr) (cc : Nat) (col : List Int) (a : Option Addr) (c : Nat) (l : List Ev) (p : Int) (w : World) (hf : Flat w ac (fl intC col)) (hl : col.length ≤ 140737488351232) (hA : Flat w a (fl evC l)) (hn : l.length * 88 ≤ 140737488351232) :
    Calls Tryd.prog 33 #[plcF ac col.length cc, .slice a l.length c, .int .i64 p] w fun r w' => r = .returned (VA (sayV (plcO col) l p)) ∧ Below w.heap.size w w' := by
  have B := galloc (Below.refl w.heap.size w) (.cells #[.bool false, .int .i64 0] 33)
  by_cases h0 : p < 0
  · rw [show sayV (plcO col) l p = noV2 from if_pos (.inl h0)]
    go_enter Tryd.func33, Tryd.ntmps33
    go_wp2
    exact bodyPost_ret (v := .agg #[.bool false, .int .i64 0]) (by simp [results, Tryd.results33, go_sem]) rfl ⟨rfl, by first | exact B | exact gset (gset B (by simp) _) (by simp) _⟩
  by_cases h1 : (l.length : Int) ≤ p
  · rw [show sayV (plcO col) l p = noV2 from if_pos (.inr h1)]
    go_enter Tryd.func33, Tryd.ntmps33
    go_wp2
    exact bodyPost_ret (v := .agg #[.bool false, .int .i64 0]) (by simp [results, Tryd.results33, go_sem]) rfl ⟨rfl, by first | exact B | exact gset (gset B (by simp) _) (by simp) _⟩
  obtain ⟨k, rfl⟩ : ∃ k : Nat, p = k := ⟨p.toNat, by omega⟩
  have hk : k < l.length := by omega
  have hki : (k : Int) < (l.length : Int) := by omega
  have e1 : sayV (plcO col) l (k : Int) = rdE (plcO col) (l.getD k zeroE) := if_neg (by omega)
  rw [e1]
  obtain ⟨g, o, rfl, hg, hcc⟩ := hA.form (by rw [fl_len evC_sz]; omega)
  have A := ev_at hcc k hk
  generalize l.getD k zeroE = ev at A ⊢
  have hr := read_any' ac cc col ev _ (hf.keep B) hl
  obtain ⟨c0, c1, c2, c3, c4, c5, c6, c7, c8, c9, c10⟩ := A
  generalize rdE (plcO col) ev = x at hr ⊢
  unfold evC at hr
  clear hcc hA e1
  go_enter Tryd.func33, Tryd.ntmps33
  go_wp2_with (first
    | (go_at_call 52; (with_reducible refine hr.mono ?_); rintro _ w1 ⟨rfl, g1⟩; have B2 := gtrans B g1; obtain ⟨hc0, hf0⟩ := bcell g1))
  refine bodyPost_ret (v := VA x) (by simp [results, Tryd.results33, go_sem, hc0]) rfl ⟨rfl, ?_⟩
  exact gset (gset B2 (by simp) _) (by simp) _

end Go.Proofs.YtjeffmfnaihhjaaDoor
