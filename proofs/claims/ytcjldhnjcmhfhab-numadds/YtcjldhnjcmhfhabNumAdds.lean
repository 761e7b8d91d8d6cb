/- For every two values, known or not, the law NumAdds returns true: num's Add, Sub, Mul and Neg are the document's. No condition. -/
import Derived.Test.YtcjldhnjcmhfhabRef4
import Derived.Test.YtcjldhnjcmhfhabKeep
import Derived.Test.YtcjldhnjcmhfhabExt
import Derived.Lib.SmallJoins
import Derived.Deep.CutRange
import Derived.OpenShut
import Derived.Carry
namespace Go.Proofs.Ytcjldhnjcmhfhab.numAdds
open Go.ChangeShapes Go.WideShapes Go.ChangeAt Go.RowKit Go.BigFrame
set_option linter.unusedVariables false

set_option maxRecDepth 20000 in
set_option maxHeartbeats 4000000 in
theorem walk (ka : Bool) (a : Int) (w0 : (Lit.int .i64 a).wf = true) (kb : Bool) (b : Int) (w1 : (Lit.int .i64 b).wf = true) (w : World) :
    Calls Try.prog 6 #[.agg #[.bool ka, .int .i64 a], .agg #[.bool kb, .int .i64 b]] w fun e w' => e = .returned (.bool true) ∧ Below w.heap.size w w' := by
  have b0 : fitsB a = true := fits_wf w0
  have b1 : fitsB b = true := fits_wf w1
  clear w0 w1
  obtain ⟨ks, ns, cs, ds⟩ : ∃ k n, (∀ w, Calls Try.prog 11 #[.agg #[.bool ka, .int .i64 a], .agg #[.bool kb, .int .i64 b]] w (fun e w' => e = .returned (.agg #[.bool k, .int .i64 n]) ∧ Below w.heap.size w w')) ∧ (∀ w, Calls Try.prog 18 #[.agg #[.bool ka, .int .i64 a], .agg #[.bool kb, .int .i64 b]] w (fun e w' => e = .returned (.agg #[.bool k, .int .i64 n]) ∧ Below w.heap.size w w')) := ⟨_, _, fun w => add_any ka kb a b w b0 b1, fun w => refAdd_any ka kb a b w b0 b1⟩
  obtain ⟨kd, nd, cd, dd⟩ : ∃ k n, (∀ w, Calls Try.prog 14 #[.agg #[.bool ka, .int .i64 a], .agg #[.bool kb, .int .i64 b]] w (fun e w' => e = .returned (.agg #[.bool k, .int .i64 n]) ∧ Below w.heap.size w w')) ∧ (∀ w, Calls Try.prog 19 #[.agg #[.bool ka, .int .i64 a], .agg #[.bool kb, .int .i64 b]] w (fun e w' => e = .returned (.agg #[.bool k, .int .i64 n]) ∧ Below w.heap.size w w')) := ⟨_, _, fun w => sub_any ka kb a b w b0 b1, fun w => refSub_any ka kb a b w b0 b1⟩
  obtain ⟨kp, np, cp, dp⟩ : ∃ k n, (∀ w, Calls Try.prog 12 #[.agg #[.bool ka, .int .i64 a], .agg #[.bool kb, .int .i64 b]] w (fun e w' => e = .returned (.agg #[.bool k, .int .i64 n]) ∧ Below w.heap.size w w')) ∧ (∀ w, Calls Try.prog 20 #[.agg #[.bool ka, .int .i64 a], .agg #[.bool kb, .int .i64 b]] w (fun e w' => e = .returned (.agg #[.bool k, .int .i64 n]) ∧ Below w.heap.size w w')) := ⟨_, _, fun w => mul_any ka kb a b w b0 b1, fun w => refMul_any ka kb a b w b0 b1⟩
  obtain ⟨kn, nn, cn, dn⟩ : ∃ k n, (∀ w, Calls Try.prog 13 #[.agg #[.bool ka, .int .i64 a]] w (fun e w' => e = .returned (.agg #[.bool k, .int .i64 n]) ∧ Below w.heap.size w w')) ∧ (∀ w, Calls Try.prog 21 #[.agg #[.bool ka, .int .i64 a]] w (fun e w' => e = .returned (.agg #[.bool k, .int .i64 n]) ∧ Below w.heap.size w w')) := ⟨_, _, fun w => neg_any ka a w b0, fun w => refNeg_any ka a w b0⟩
  clear b0 b1
  go_enter Try.func6, Try.ntmps6
  go_upto_region 1 with fail
  have B := (galloc (galloc (Below.refl w.heap.size w) (.cells #[.bool ka, .int .i64 a] 23)) (.cells #[.bool kb, .int .i64 b] 23))
  have ra0 : ((w.alloc (.cells #[.bool ka, .int .i64 a] 23)).alloc (.cells #[.bool kb, .int .i64 b] 23)).cell? ⟨w.heap.size, 0, none⟩ = some (.bool ka) := by go_simp
  have ra1 : ((w.alloc (.cells #[.bool ka, .int .i64 a] 23)).alloc (.cells #[.bool kb, .int .i64 b] 23)).cell? ⟨w.heap.size, 1, none⟩ = some (.int .i64 a) := by go_simp
  have sa : w.heap.size < ((w.alloc (.cells #[.bool ka, .int .i64 a] 23)).alloc (.cells #[.bool kb, .int .i64 b] 23)).heap.size := by first | (simp; done) | (simp; omega)
  have rb0 : ((w.alloc (.cells #[.bool ka, .int .i64 a] 23)).alloc (.cells #[.bool kb, .int .i64 b] 23)).cell? ⟨w.heap.size + 1, 0, none⟩ = some (.bool kb) := by go_simp
  have rb1 : ((w.alloc (.cells #[.bool ka, .int .i64 a] 23)).alloc (.cells #[.bool kb, .int .i64 b] 23)).cell? ⟨w.heap.size + 1, 1, none⟩ = some (.int .i64 b) := by go_simp
  have sb : w.heap.size + 1 < ((w.alloc (.cells #[.bool ka, .int .i64 a] 23)).alloc (.cells #[.bool kb, .int .i64 b] 23)).heap.size := by first | (simp; done) | (simp; omega)
  generalize ((w.alloc (.cells #[.bool ka, .int .i64 a] 23)).alloc (.cells #[.bool kb, .int .i64 b] 23)) = V0 at *
  have G := Below.refl V0.heap.size V0
  go_upto_region 2 with (first | (go_at_call 11; refine (cs _).mono ?_; rintro e u0 ⟨rfl, g⟩; replace G := gtrans G g; obtain ⟨hc, hf⟩ := bcell G))
  replace ra0 := kold G (.cells #[.bool ks, .int .i64 ns] 23) sa ra0
  replace ra1 := kold G (.cells #[.bool ks, .int .i64 ns] 23) sa ra1
  replace sa := ksize G (.cells #[.bool ks, .int .i64 ns] 23) sa
  replace rb0 := kold G (.cells #[.bool ks, .int .i64 ns] 23) sb rb0
  replace rb1 := kold G (.cells #[.bool ks, .int .i64 ns] 23) sb rb1
  replace sb := ksize G (.cells #[.bool ks, .int .i64 ns] 23) sb
  replace B := galloc (gtrans B G) (.cells #[.bool ks, .int .i64 ns] 23)
  have rs0 := knew u0 #[.bool ks, .int .i64 ns] 23 0 _ rfl
  have rs1 := knew u0 #[.bool ks, .int .i64 ns] 23 1 _ rfl
  have ss := ksnew u0 (.cells #[.bool ks, .int .i64 ns] 23)
  clear G
  generalize (u0.alloc (.cells #[.bool ks, .int .i64 ns] 23)) = V1 at *
  have G := Below.refl V1.heap.size V1
  go_upto_region 3 with (first | (go_at_call 14; refine (cd _).mono ?_; rintro e u1 ⟨rfl, g⟩; replace G := gtrans G g; obtain ⟨hc, hf⟩ := bcell G))
  replace ra0 := kold G (.cells #[.bool kd, .int .i64 nd] 23) sa ra0
  replace ra1 := kold G (.cells #[.bool kd, .int .i64 nd] 23) sa ra1
  replace sa := ksize G (.cells #[.bool kd, .int .i64 nd] 23) sa
  replace rb0 := kold G (.cells #[.bool kd, .int .i64 nd] 23) sb rb0
  replace rb1 := kold G (.cells #[.bool kd, .int .i64 nd] 23) sb rb1
  replace sb := ksize G (.cells #[.bool kd, .int .i64 nd] 23) sb
  replace rs0 := kold G (.cells #[.bool kd, .int .i64 nd] 23) ss rs0
  replace rs1 := kold G (.cells #[.bool kd, .int .i64 nd] 23) ss rs1
  replace ss := ksize G (.cells #[.bool kd, .int .i64 nd] 23) ss
  replace B := galloc (gtrans B G) (.cells #[.bool kd, .int .i64 nd] 23)
  have rd0 := knew u1 #[.bool kd, .int .i64 nd] 23 0 _ rfl
  have rd1 := knew u1 #[.bool kd, .int .i64 nd] 23 1 _ rfl
  have sd := ksnew u1 (.cells #[.bool kd, .int .i64 nd] 23)
  clear G
  generalize (u1.alloc (.cells #[.bool kd, .int .i64 nd] 23)) = V2 at *
  have G := Below.refl V2.heap.size V2
  go_upto_region 4 with (first | (go_at_call 12; refine (cp _).mono ?_; rintro e u2 ⟨rfl, g⟩; replace G := gtrans G g; obtain ⟨hc, hf⟩ := bcell G))
  replace ra0 := kold G (.cells #[.bool kp, .int .i64 np] 23) sa ra0
  replace ra1 := kold G (.cells #[.bool kp, .int .i64 np] 23) sa ra1
  replace sa := ksize G (.cells #[.bool kp, .int .i64 np] 23) sa
  replace rb0 := kold G (.cells #[.bool kp, .int .i64 np] 23) sb rb0
  replace rb1 := kold G (.cells #[.bool kp, .int .i64 np] 23) sb rb1
  replace sb := ksize G (.cells #[.bool kp, .int .i64 np] 23) sb
  replace rs0 := kold G (.cells #[.bool kp, .int .i64 np] 23) ss rs0
  replace rs1 := kold G (.cells #[.bool kp, .int .i64 np] 23) ss rs1
  replace ss := ksize G (.cells #[.bool kp, .int .i64 np] 23) ss
  replace rd0 := kold G (.cells #[.bool kp, .int .i64 np] 23) sd rd0
  replace rd1 := kold G (.cells #[.bool kp, .int .i64 np] 23) sd rd1
  replace sd := ksize G (.cells #[.bool kp, .int .i64 np] 23) sd
  replace B := galloc (gtrans B G) (.cells #[.bool kp, .int .i64 np] 23)
  have rp0 := knew u2 #[.bool kp, .int .i64 np] 23 0 _ rfl
  have rp1 := knew u2 #[.bool kp, .int .i64 np] 23 1 _ rfl
  have sp := ksnew u2 (.cells #[.bool kp, .int .i64 np] 23)
  clear G
  generalize (u2.alloc (.cells #[.bool kp, .int .i64 np] 23)) = V3 at *
  have G := Below.refl V3.heap.size V3
  go_upto_region 5 with (first | (go_at_call 13; refine (cn _).mono ?_; rintro e u3 ⟨rfl, g⟩; replace G := gtrans G g; obtain ⟨hc, hf⟩ := bcell G))
  replace ra0 := kold G (.cells #[.bool kn, .int .i64 nn] 23) sa ra0
  replace ra1 := kold G (.cells #[.bool kn, .int .i64 nn] 23) sa ra1
  replace sa := ksize G (.cells #[.bool kn, .int .i64 nn] 23) sa
  replace rb0 := kold G (.cells #[.bool kn, .int .i64 nn] 23) sb rb0
  replace rb1 := kold G (.cells #[.bool kn, .int .i64 nn] 23) sb rb1
  replace sb := ksize G (.cells #[.bool kn, .int .i64 nn] 23) sb
  replace rs0 := kold G (.cells #[.bool kn, .int .i64 nn] 23) ss rs0
  replace rs1 := kold G (.cells #[.bool kn, .int .i64 nn] 23) ss rs1
  replace ss := ksize G (.cells #[.bool kn, .int .i64 nn] 23) ss
  replace rd0 := kold G (.cells #[.bool kn, .int .i64 nn] 23) sd rd0
  replace rd1 := kold G (.cells #[.bool kn, .int .i64 nn] 23) sd rd1
  replace sd := ksize G (.cells #[.bool kn, .int .i64 nn] 23) sd
  replace rp0 := kold G (.cells #[.bool kn, .int .i64 nn] 23) sp rp0
  replace rp1 := kold G (.cells #[.bool kn, .int .i64 nn] 23) sp rp1
  replace sp := ksize G (.cells #[.bool kn, .int .i64 nn] 23) sp
  replace B := galloc (gtrans B G) (.cells #[.bool kn, .int .i64 nn] 23)
  have rn0 := knew u3 #[.bool kn, .int .i64 nn] 23 0 _ rfl
  have rn1 := knew u3 #[.bool kn, .int .i64 nn] 23 1 _ rfl
  have sn := ksnew u3 (.cells #[.bool kn, .int .i64 nn] 23)
  clear G
  generalize (u3.alloc (.cells #[.bool kn, .int .i64 nn] 23)) = V4 at *
  have G := Below.refl V4.heap.size V4
  have xa0 := fun (n : Ext V4) => (n.cell _ _ sa).trans ra0
  have xa1 := fun (n : Ext V4) => (n.cell _ _ sa).trans ra1
  have xb0 := fun (n : Ext V4) => (n.cell _ _ sb).trans rb0
  have xb1 := fun (n : Ext V4) => (n.cell _ _ sb).trans rb1
  have xs0 := fun (n : Ext V4) => (n.cell _ _ ss).trans rs0
  have xs1 := fun (n : Ext V4) => (n.cell _ _ ss).trans rs1
  have xd0 := fun (n : Ext V4) => (n.cell _ _ sd).trans rd0
  have xd1 := fun (n : Ext V4) => (n.cell _ _ sd).trans rd1
  have xp0 := fun (n : Ext V4) => (n.cell _ _ sp).trans rp0
  have xp1 := fun (n : Ext V4) => (n.cell _ _ sp).trans rp1
  have xn0 := fun (n : Ext V4) => (n.cell _ _ sn).trans rn0
  have xn1 := fun (n : Ext V4) => (n.cell _ _ sn).trans rn1
  have hne : Nonempty (Ext V4) := ⟨⟨_, Below.refl _ _⟩⟩
  refine wp_region_ext (by kernel_rfl) (by kernel_rfl) ?_
  repeat (go_big_quiet_step (first | (go_at_call 18; exact ext_of (ds _)) | (go_at_call 19; exact ext_of (dd _)) | (go_at_call 20; exact ext_of (dp _)) | (go_at_call 21; exact ext_of (dn _))))
  refine wpQuiet_nil ?_
  intro _ hw'
  obtain ⟨nx, hw''⟩ := hw'
  subst hw''
  go_wp2
  go_ret
  exact ⟨rfl, gtrans B nx.h⟩

theorem own : ownKnob Try.prog.godebug = none := by kernel_rfl
theorem laidOut : laidOutB Try.prog = true := by kernel_rfl
theorem cellsV : Try.prog.cellsOf 23 = 2 := by kernel_rfl

set_option maxRecDepth 100000 in
theorem lifted (os : Os) (started : os.Started) (H : Type) (enc : TypeId × Value → H) :
    ReturnsInHanded {} Try.checked os 6 .any (Rows.numAddsSpec.pre6 enc Try.prog Try.f6 Rows.numAddsRow.domain false) (Rows.numAddsSpec.post enc Try.prog Try.f6 false true false false) := by
  refine returnsInHanded_of_change (C := Try.checked) own started (by kernel_rfl) Try.func6
    (ChangeSpec.witness6 (enc := enc) (C := Try.checked) false ⟨#[], #[.agg #[.bool false, .int .i64 0], .agg #[.bool false, .int .i64 0]], []⟩ 8 (by kernel_rfl) (by kernel_rfl) (by kernel_rfl) (by kernel_rfl)) ?_
  intro W base args ds gs before hval0 hW hcnd _
  have hval : ∀ (j : Nat) t v, Try.f6.params[j]? = some t → args[j]? = some v → Value.okWide Try.prog W .any base t v := hval0
  have hW' := hW
  obtain ⟨p, q, hA0, hV, rfl, hfz, hnd⟩ := hW
  have hA : DataW.TrodAll enc Try.prog W 0 (fun _ => true) true Try.f6.params.toList args.toList ds p := hA0
  rw [Try.params6] at hA hval
  obtain ⟨v0, vs0, d0, ds0, p0, q0, hargs, rfl, rfl, h0, r0⟩ := trodAll_cons hA
  obtain ⟨v1, vs1, d1, ds1, p1, q1, rfl, rfl, rfl, h1, r1⟩ := trodAll_cons r0
  obtain ⟨rfl, rfl, rfl⟩ := trodAll_nil r1
  obtain rfl : args = #[v0, v1] := by cases args; simp_all
  obtain ⟨rfl, rfl⟩ := trodVars_none hV
  have k0 := h0
  have lt0 : ∀ x ∈ p0, x.block < W.heap.size := by obtain ⟨m, hm⟩ := k0; exact DataW.trod_lt m _ _ _ hm
  obtain ⟨c0, n0, y0, z0, m0, e0, _, _, hy0, hz0⟩ := Joins.open_agg2 Try.underlying23 (by kernel_rfl) cellsV (hval 0 23 v0 rfl rfl) h0
  subst e0
  obtain ⟨ka0, f0, _⟩ := DataW.trod_bool Try.underlying4 hy0
  obtain ⟨a0, g0, _, w0⟩ := DataW.trod_int Try.underlying2 hz0
  simp only [List.cons.injEq, and_true] at f0 g0
  subst f0; subst g0
  have k1 := h1
  have lt1 : ∀ x ∈ p1, x.block < W.heap.size := by obtain ⟨m, hm⟩ := k1; exact DataW.trod_lt m _ _ _ hm
  obtain ⟨c1, n1, y1, z1, m1, e1, _, _, hy1, hz1⟩ := Joins.open_agg2 Try.underlying23 (by kernel_rfl) cellsV (hval 1 23 v1 rfl rfl) h1
  subst e1
  obtain ⟨ka1, f1, _⟩ := DataW.trod_bool Try.underlying4 hy1
  obtain ⟨a1, g1, _, w1⟩ := DataW.trod_int Try.underlying2 hz1
  simp only [List.cons.injEq, and_true] at f1 g1
  subst f1; subst g1
  clear hA0 hval0
  refine (walk ka0 a0 w0 ka1 a1 w1 W).mono fun e W' ⟨he, bel⟩ => ?_
  subst he
  exact ⟨_, rfl, _, _, _, [], _, [], hW', trodAll_mk1 (shut_bool Try.underlying4 _), (trodAll_cons_mk (Below.trod laidOut (by kernel_rfl) (of_decide_eq_true (by kernel_rfl)) k0 bel lt0) (trodAll_cons_mk (Below.trod laidOut (by kernel_rfl) (of_decide_eq_true (by kernel_rfl)) k1 bel lt1) trodAll_mk0)), rfl, bel.frame _, fun h => by cases h⟩

theorem over : Rows.numAddsRow.holds Try.pinned (OpenSpec.ofChange Rows.numAddsSpec) :=
  OpenClaim.holds_of_wide 6 Try.f6 rfl rfl rfl rfl rfl rfl rfl ⟨rfl, rfl, rfl, rfl, rfl⟩ rfl rfl rfl rfl rfl (by kernel_rfl) Try.func6 (by kernel_rfl)
    (of_decide_eq_true (by kernel_rfl)) (by unfold Func.isWrapper; first | (rw [if_pos (by decide +kernel)]; kernel_rfl) | (rw [if_neg (by decide +kernel)]; exact ⟨rfl, rfl⟩))
    (fun os started H enc _ => lifted os started H enc)

end Go.Proofs.Ytcjldhnjcmhfhab.numAdds
namespace Go.Proofs.Ytcjldhnjcmhfhab
theorem numAdds_holds : Rows.NumAddsSaid := numAdds.over
#print axioms numAdds_holds
end Go.Proofs.Ytcjldhnjcmhfhab
