/- For every three names the law EventOrders returns true: Compare is a total order on names, the timestamp first, then the id. No condition. -/
import Derived.Test.YtkklcookfgeadaaEvOrder
import Derived.Deep.Cut
import Derived.OpenShut
import Derived.Carry
import Derived.Lib.SmallJoins
import Derived.Deep.Light
namespace Go.Proofs.Ytkklcookfgeadaa.eventOrders
open Go.ChangeShapes Go.WideShapes Go.ChangeAt Go.RowKit
set_option linter.unusedVariables false
set_option linter.unusedSimpArgs false

set_option maxHeartbeats 2000000 in
theorem walk (t0 : Int) (u0 : (Lit.int .i64 t0).wf = true) (a0 : Int) (w0 : (Lit.int .u64 a0).wf = true) (t1 : Int) (u1 : (Lit.int .i64 t1).wf = true) (a1 : Int) (w1 : (Lit.int .u64 a1).wf = true) (t2 : Int) (u2 : (Lit.int .i64 t2).wf = true) (a2 : Int) (w2 : (Lit.int .u64 a2).wf = true) (w : World) :
    Calls Try.prog 3 #[.agg #[.int .i64 t0, .int .u64 a0], .agg #[.int .i64 t1, .int .u64 a1], .agg #[.int .i64 t2, .int .u64 a2]] w fun e w' => e = .returned (.bool true) ∧ Below w.heap.size w w' := by
  clear u0 w0 u1 w1 u2 w2
  have hab := cmpI_is t0 a0 t1 a1
  have hba := cmpI_is t1 a1 t0 a0
  have hbc := cmpI_is t1 a1 t2 a2
  have hac := cmpI_is t0 a0 t2 a2
  have cab := compare_any t0 a0 t1 a1
  have cba := compare_any t1 a1 t0 a0
  have cbc := compare_any t1 a1 t2 a2
  have cac := compare_any t0 a0 t2 a2
  generalize cmpI t0 a0 t1 a1 = x at hab cab
  generalize cmpI t1 a1 t0 a0 = y at hba cba
  generalize cmpI t1 a1 t2 a2 = z at hbc cbc
  generalize cmpI t0 a0 t2 a2 = v at hac cac
  have HAB : Hid _ := hab
  have HBA : Hid _ := hba
  have HBC : Hid _ := hbc
  have HAC : Hid _ := hac
  have hx : -1 ≤ x ∧ x ≤ 1 := by omega
  clear hab hba hbc hac
  go_enter Try.func3, Try.ntmps3
  go_wp2_with (first
    | (go_at_call 5; refine (cab _).mono ?_; rintro e u1 ⟨rfl, g⟩; obtain ⟨hc, hf⟩ := bcell g; clear cab)
    | (go_at_call 5; refine (cba _).mono ?_; rintro e u2 ⟨rfl, g2⟩; replace g := gtrans g g2; obtain ⟨hc, hf⟩ := bcell g; clear cba g2)
    | (go_at_call 5; refine (cbc _).mono ?_; rintro e u3 ⟨rfl, g3⟩; replace g := gtrans g g3; obtain ⟨hc, hf⟩ := bcell g; clear cbc g3)
    | (go_at_call 5; refine (cac _).mono ?_; rintro e u4 ⟨rfl, g4⟩; replace g := gtrans g g4; obtain ⟨hc, hf⟩ := bcell g; clear cac g4))
  all_goals
    replace g := gtrans (galloc (galloc (galloc (Below.refl w.heap.size w) _) _) _) g
    have hab : x = -1 ∧ (t0 < t1 ∨ t0 = t1 ∧ a0 < a1) ∨ x = 0 ∧ t0 = t1 ∧ a0 = a1 ∨ x = 1 ∧ (t1 < t0 ∨ t1 = t0 ∧ a1 < a0) := HAB
    have hba : y = -1 ∧ (t1 < t0 ∨ t1 = t0 ∧ a1 < a0) ∨ y = 0 ∧ t1 = t0 ∧ a1 = a0 ∨ y = 1 ∧ (t0 < t1 ∨ t0 = t1 ∧ a0 < a1) := HBA
    have hbc : z = -1 ∧ (t1 < t2 ∨ t1 = t2 ∧ a1 < a2) ∨ z = 0 ∧ t1 = t2 ∧ a1 = a2 ∨ z = 1 ∧ (t2 < t1 ∨ t2 = t1 ∧ a2 < a1) := HBC
    have hac : v = -1 ∧ (t0 < t2 ∨ t0 = t2 ∧ a0 < a2) ∨ v = 0 ∧ t0 = t2 ∧ a0 = a2 ∨ v = 1 ∧ (t2 < t0 ∨ t2 = t0 ∧ a2 < a0) := HAC
    first
    | (go_ret; exact ⟨rfl, g⟩)
    | (go_ret; refine ⟨congrArg (fun b => Ending.returned (Value.bool b)) ?_, g⟩; go_light; (try simp only [Bool.or_eq_true, decide_eq_true_eq, beq_iff_eq, bne_iff_ne, beq_eq_false_iff_ne, bne_eq_false_iff_eq, Bool.not_eq_true', Bool.not_eq_false', Bool.not_eq_true, ne_eq] at *) <;> omega)
    | (exfalso; go_light; (try simp only [Bool.or_eq_true, decide_eq_true_eq, beq_iff_eq, bne_iff_ne, beq_eq_false_iff_ne, bne_eq_false_iff_eq, Bool.not_eq_true', Bool.not_eq_false', Bool.not_eq_true, ne_eq] at *) <;> omega)
    

theorem own : ownKnob Try.prog.godebug = none := by kernel_rfl
theorem laidOut : laidOutB Try.prog = true := by kernel_rfl
theorem cellsN : Try.prog.cellsOf 24 = 2 := by kernel_rfl

set_option maxRecDepth 100000 in
theorem lifted (os : Os) (started : os.Started) (H : Type) (enc : TypeId × Value → H) :
    ReturnsInHanded {} Try.checked os 3 .any (Rows.eventOrdersSpec.pre6 enc Try.prog Try.f3 Rows.eventOrdersRow.domain false) (Rows.eventOrdersSpec.post enc Try.prog Try.f3 false true false false) := by
  refine returnsInHanded_of_change (C := Try.checked) own started (by kernel_rfl) Try.func3
    (ChangeSpec.witness6 (enc := enc) (C := Try.checked) false ⟨#[], #[.agg #[.int .i64 0, .int .u64 0], .agg #[.int .i64 0, .int .u64 0], .agg #[.int .i64 0, .int .u64 0]], []⟩ 8 (by kernel_rfl) (by kernel_rfl) (by kernel_rfl) (by kernel_rfl)) ?_
  intro W base args ds gs before hval0 hW hcnd _
  have hval : ∀ (j : Nat) t v, Try.f3.params[j]? = some t → args[j]? = some v → Value.okWide Try.prog W .any base t v := hval0
  have hW' := hW
  obtain ⟨p, q, hA0, hV, rfl, hfz, hnd⟩ := hW
  have hA : DataW.TrodAll enc Try.prog W 0 (fun _ => true) true Try.f3.params.toList args.toList ds p := hA0
  rw [Try.params3] at hA hval
  obtain ⟨v0, vs0, d0, ds0, p0, q0, hargs, rfl, rfl, h0, r0⟩ := trodAll_cons hA
  obtain ⟨v1, vs1, d1, ds1, p1, q1, rfl, rfl, rfl, h1, r1⟩ := trodAll_cons r0
  obtain ⟨v2, vs2, d2, ds2, p2, q2, rfl, rfl, rfl, h2, r2⟩ := trodAll_cons r1
  obtain ⟨rfl, rfl, rfl⟩ := trodAll_nil r2
  obtain rfl : args = #[v0, v1, v2] := by cases args; simp_all
  obtain ⟨rfl, rfl⟩ := trodVars_none hV
  have k0 := h0
  have lt0 : ∀ x ∈ p0, x.block < W.heap.size := by obtain ⟨m, hm⟩ := k0; exact DataW.trod_lt m _ _ _ hm
  obtain ⟨c0, n0, y0, z0, m0, e0, _, _, hy0, hz0⟩ := Joins.open_agg2 Try.underlying24 (by kernel_rfl) cellsN (hval 0 24 v0 rfl rfl) h0
  subst e0
  obtain ⟨t0, f0, _, u0⟩ := DataW.trod_int Try.underlying2 hy0
  obtain ⟨a0, g0, _, w0⟩ := DataW.trod_int Try.underlying22 hz0
  simp only [List.cons.injEq, and_true] at f0 g0
  subst f0; subst g0
  have k1 := h1
  have lt1 : ∀ x ∈ p1, x.block < W.heap.size := by obtain ⟨m, hm⟩ := k1; exact DataW.trod_lt m _ _ _ hm
  obtain ⟨c1, n1, y1, z1, m1, e1, _, _, hy1, hz1⟩ := Joins.open_agg2 Try.underlying24 (by kernel_rfl) cellsN (hval 1 24 v1 rfl rfl) h1
  subst e1
  obtain ⟨t1, f1, _, u1⟩ := DataW.trod_int Try.underlying2 hy1
  obtain ⟨a1, g1, _, w1⟩ := DataW.trod_int Try.underlying22 hz1
  simp only [List.cons.injEq, and_true] at f1 g1
  subst f1; subst g1
  have k2 := h2
  have lt2 : ∀ x ∈ p2, x.block < W.heap.size := by obtain ⟨m, hm⟩ := k2; exact DataW.trod_lt m _ _ _ hm
  obtain ⟨c2, n2, y2, z2, m2, e2, _, _, hy2, hz2⟩ := Joins.open_agg2 Try.underlying24 (by kernel_rfl) cellsN (hval 2 24 v2 rfl rfl) h2
  subst e2
  obtain ⟨t2, f2, _, u2⟩ := DataW.trod_int Try.underlying2 hy2
  obtain ⟨a2, g2, _, w2⟩ := DataW.trod_int Try.underlying22 hz2
  simp only [List.cons.injEq, and_true] at f2 g2
  subst f2; subst g2
  clear hA0 hval0
  refine (walk t0 u0 a0 w0 t1 u1 a1 w1 t2 u2 a2 w2 W).mono fun e W' ⟨he, bel⟩ => ?_
  subst he
  exact ⟨_, rfl, _, _, _, [], _, [], hW', trodAll_mk1 (shut_bool Try.underlying4 _), (trodAll_cons_mk (Below.trod laidOut (by kernel_rfl) (of_decide_eq_true (by kernel_rfl)) k0 bel lt0) (trodAll_cons_mk (Below.trod laidOut (by kernel_rfl) (of_decide_eq_true (by kernel_rfl)) k1 bel lt1) (trodAll_cons_mk (Below.trod laidOut (by kernel_rfl) (of_decide_eq_true (by kernel_rfl)) k2 bel lt2) trodAll_mk0))), rfl, bel.frame _, fun h => by cases h⟩

theorem over : Rows.eventOrdersRow.holds Try.pinned (OpenSpec.ofChange Rows.eventOrdersSpec) :=
  OpenClaim.holds_of_wide 3 Try.f3 rfl rfl rfl rfl rfl rfl rfl ⟨rfl, rfl, rfl, rfl, rfl⟩ rfl rfl rfl rfl rfl (by kernel_rfl) Try.func3 (by kernel_rfl)
    (of_decide_eq_true (by kernel_rfl)) (by unfold Func.isWrapper; first | (rw [if_pos (by decide +kernel)]; kernel_rfl) | (rw [if_neg (by decide +kernel)]; exact ⟨rfl, rfl⟩))
    (fun os started H enc _ => lifted os started H enc)

end Go.Proofs.Ytkklcookfgeadaa.eventOrders
namespace Go.Proofs.Ytkklcookfgeadaa
theorem eventOrders_holds : Rows.EventOrdersSaid := eventOrders.over
#print axioms eventOrders_holds
end Go.Proofs.Ytkklcookfgeadaa
