/- What is read of an item's events: mention. -/
import Derived.Test.YtjeffmfnaihhjaaDoorCdd
import Derived.Test.YtjeffmfnaihhjaaDoorQt
namespace Go.Proofs.YtjeffmfnaihhjaaDoor
open Go.RowKit Go.BigFrame
set_option linter.unusedVariables false
set_option linter.unusedSimpArgs false

set_option maxRecDepth 100000 in
set_option maxHeartbeats 4000000 in
theorem mention_any (op : Int) (E : Envr) (al : Option Addr) (cl : Nat) (item : Int) (ac : Option Addr) (cc : Nat) (col : List Int) (w : World) (hf : Flat w ac (fl intC col)) (hl : col.length ≤ 140737488351232) (N : Nst w al evC E.lists) (hE : E.ok) :
    Calls Tryd.prog 20 #[.int .i64 op, envA al cl E, .int .i64 item, plcF ac col.length cc] w fun r w' => r = .returned (VA (menV (plcO col) op E item)) ∧ Below w.heap.size w w' := by
  obtain ⟨a, c, L, hc⟩ := listOf_any E al cl item w N
  obtain ⟨hok, h88, _⟩ := lstO_ok hE item
  have R0 := Two.new (w.alloc (.cells #[.slice al E.lists.length cl, .int .i64 E.each, .int .i64 E.at_] 28)) (.bool false) (.int .i64 0) 33
  have S0 := (Bk.new w #[.slice al E.lists.length cl, .int .i64 E.each, .int .i64 E.at_] 28).alloc (.cells #[.bool false, .int .i64 0] 33)
  rw [show (w.alloc (.cells #[.slice al E.lists.length cl, .int .i64 E.each, .int .i64 E.at_] 28)).heap.size = w.heap.size + 1 by simp] at R0
  have B0 := galloc (galloc (Below.refl w.heap.size w) (.cells #[.slice al E.lists.length cl, .int .i64 E.each, .int .i64 E.at_] 28)) (.cells #[.bool false, .int .i64 0] 33)
  have q4 : ∀ X, Below w.heap.size w X → ∀ p, Calls Tryd.prog 33 #[plcF ac col.length cc, .slice a (lstO E item).length c, .int .i64 p] X fun r w' => r = .returned (VA (sayV (plcO col) (lstO E item) p)) ∧ Below X.heap.size X w' := fun X G p => readAt_any ac cc col a c (lstO E item) p X (hf.keep G) hl (L.fl.keep G) h88
  have q5 : ∀ X, Below w.heap.size w X → Calls Tryd.prog 34 #[plcF ac col.length cc, .int .i64 op, .slice a (lstO E item).length c] X fun r w' => r = .returned (VA (gatV (plcO col) op (lstO E item))) ∧ Below X.heap.size X w' := fun X G => cfold_any ac cc col a c (lstO E item) op X (hf.keep G) hl (L.fl.keep G) h88 hok
  obtain ⟨x, hx⟩ : ∃ x, menV (plcO col) op E item = x := ⟨_, rfl⟩
  have HX := show Hid (_ = _) from hx
  rw [hx]
  clear hx hok L hf
  go_enter Tryd.func20, Tryd.ntmps20
  go_wp2
  have y1 : ∀ z : Ext ((w.alloc (.cells #[.slice al E.lists.length cl, .int .i64 E.each, .int .i64 E.at_] 28)).alloc (.cells #[.bool false, .int .i64 0] 33)), Calls Tryd.prog 31 #[envA al cl E, .int .i64 item] z.X (fun e' w'' => e' = .returned (.slice a (lstO E item).length c) ∧ ∃ m : Ext _, w'' = m.X) := fun z => ext_of (hc z.X (gtrans B0 z.h))
  generalize (lstO E item).length = n at *
  generalize hV : (w.alloc (.cells #[.slice al E.lists.length cl, .int .i64 E.each, .int .i64 E.at_] 28)).alloc (.cells #[.bool false, .int .i64 0] 33) = V at *
  clear hV hc
  obtain ⟨s0, s1, s2⟩ := S0.at3
  have p0 := fun z : Ext V => (z.cell _ _ S0.lt).trans s0
  have p1 := fun z : Ext V => (z.cell _ _ S0.lt).trans s1
  have p2 := fun z : Ext V => (z.cell _ _ S0.lt).trans s2
  have hne : Nonempty (Ext V) := ⟨⟨_, Below.refl _ _⟩⟩
  refine wp_region_ext (by kernel_rfl) (by kernel_rfl) ?_
  repeat (go_big_quiet_step (first | (go_at_call 31; with_reducible exact y1 _)))
  refine wpQuiet_nil ?_
  intro _ hw'
  obtain ⟨nx, hw''⟩ := hw'
  subst hw''
  have BX := gtrans B0 nx.h
  have RX := R0.keep nx.h
  obtain ⟨_, t1, t2⟩ := (S0.keep nx.h).at3
  generalize nx.X = X at *
  cases hg : (item == E.each)
  · have hne : item ≠ E.each := by simpa using hg
    by_cases h4 : op = 4
    · have q0 : (op == 4) = true := by simpa using h4
      have e1 : x = sayV (plcO col) (lstO E item) 0 := by rw [← HX.out]; unfold menV; rw [if_pos h4, if_neg hne]
      obtain ⟨xk, xn⟩ := x
      have hcc := q4 X BX 0
      rw [← e1] at hcc
      clear e1 HX q4 q5
      go_wp2_with (first
        | (go_at_call 33; (with_reducible refine hcc.mono ?_); rintro _ u1 ⟨rfl, g1⟩; have R1 := RX.keep g1; obtain ⟨r0, r1⟩ := show _ ∧ _ from ⟨R1.at0, R1.at1⟩; have rf := R1.free))
      refine bodyPost_ret (v := .agg #[.bool xk, .int .i64 xn]) (by simp [results, Tryd.results20, go_sem, r0, r1]) rfl ⟨rfl, ?_⟩
      exact gset (gset (gtrans BX g1) (by simp) _) (by simp) _
    have q0 : (op == 4) = false := beq_eq_false_iff_ne.2 h4
    by_cases h11 : op = 11
    · have q1 : (op == 11) = true := by simpa using h11
      obtain rfl : x = noV2 := by rw [← HX.out]; unfold menV; rw [if_neg h4, if_pos h11, if_neg hne]
      have r0 := RX.at0
      have r1 := RX.at1
      have rf := RX.free
      clear HX q4 q5
      go_wp2
      refine bodyPost_ret (v := .agg #[.bool false, .int .i64 0]) (by simp [results, Tryd.results20, go_sem, r0, r1]) rfl ⟨rfl, ?_⟩
      first | exact BX | exact gset (gset BX (by simp) _) (by simp) _
    have q1 : (op == 11) = false := beq_eq_false_iff_ne.2 h11
    have e1 : x = gatV (plcO col) op (lstO E item) := by rw [← HX.out]; unfold menV; rw [if_neg h4, if_neg h11]
    obtain ⟨xk, xn⟩ := x
    have hcc := q5 X BX
    rw [← e1] at hcc
    clear e1 HX q4 q5
    go_wp2_with (first
      | (go_at_call 34; (with_reducible refine hcc.mono ?_); rintro _ u1 ⟨rfl, g1⟩; have R1 := RX.keep g1; obtain ⟨r0, r1⟩ := show _ ∧ _ from ⟨R1.at0, R1.at1⟩; have rf := R1.free))
    refine bodyPost_ret (v := .agg #[.bool xk, .int .i64 xn]) (by simp [results, Tryd.results20, go_sem, r0, r1]) rfl ⟨rfl, ?_⟩
    exact gset (gset (gtrans BX g1) (by simp) _) (by simp) _
  · have hne : item = E.each := by simpa using hg
    by_cases h4 : op = 4
    · have q0 : (op == 4) = true := by simpa using h4
      have e1 : x = sayV (plcO col) (lstO E item) E.at_ := by rw [← HX.out]; unfold menV; rw [if_pos h4, if_pos hne]
      obtain ⟨xk, xn⟩ := x
      have hcc := q4 X BX E.at_
      rw [← e1] at hcc
      clear e1 HX q4 q5
      go_wp2_with (first
        | (go_at_call 33; (with_reducible refine hcc.mono ?_); rintro _ u1 ⟨rfl, g1⟩; have R1 := RX.keep g1; obtain ⟨r0, r1⟩ := show _ ∧ _ from ⟨R1.at0, R1.at1⟩; have rf := R1.free))
      refine bodyPost_ret (v := .agg #[.bool xk, .int .i64 xn]) (by simp [results, Tryd.results20, go_sem, r0, r1]) rfl ⟨rfl, ?_⟩
      exact gset (gset (gtrans BX g1) (by simp) _) (by simp) _
    have q0 : (op == 4) = false := beq_eq_false_iff_ne.2 h4
    by_cases h11 : op = 11
    · have q1 : (op == 11) = true := by simpa using h11
      obtain ⟨pv, hpv⟩ : ∃ pv, IntKind.i64.wrap (E.at_ - 1) = pv := ⟨_, rfl⟩
      have e1 : x = sayV (plcO col) (lstO E item) pv := by rw [← HX.out]; unfold menV; rw [if_neg h4, if_pos h11, if_pos hne, hpv]
      obtain ⟨xk, xn⟩ := x
      have hcc := q4 X BX pv
      rw [← e1] at hcc
      clear e1 HX q4 q5
      go_wp2_with (first
        | (go_at_call 33; (with_reducible refine hcc.mono ?_); rintro _ u1 ⟨rfl, g1⟩; have R1 := RX.keep g1; obtain ⟨r0, r1⟩ := show _ ∧ _ from ⟨R1.at0, R1.at1⟩; have rf := R1.free))
      refine bodyPost_ret (v := .agg #[.bool xk, .int .i64 xn]) (by simp [results, Tryd.results20, go_sem, r0, r1]) rfl ⟨rfl, ?_⟩
      exact gset (gset (gtrans BX g1) (by simp) _) (by simp) _
    have q1 : (op == 11) = false := beq_eq_false_iff_ne.2 h11
    have e1 : x = gatV (plcO col) op (lstO E item) := by rw [← HX.out]; unfold menV; rw [if_neg h4, if_neg h11]
    obtain ⟨xk, xn⟩ := x
    have hcc := q5 X BX
    rw [← e1] at hcc
    clear e1 HX q4 q5
    go_wp2_with (first
      | (go_at_call 34; (with_reducible refine hcc.mono ?_); rintro _ u1 ⟨rfl, g1⟩; have R1 := RX.keep g1; obtain ⟨r0, r1⟩ := show _ ∧ _ from ⟨R1.at0, R1.at1⟩; have rf := R1.free))
    refine bodyPost_ret (v := .agg #[.bool xk, .int .i64 xn]) (by simp [results, Tryd.results20, go_sem, r0, r1]) rfl ⟨rfl, ?_⟩
    exact gset (gset (gtrans BX g1) (by simp) _) (by simp) _

end Go.Proofs.YtjeffmfnaihhjaaDoor
