/- For every two values, known or not, the law NumDivides returns true: num's Div and Mod are the document's. No condition. -/
import Derived.Test.YtcjldhnjcmhfhabRef2
import Derived.Test.YtcjldhnjcmhfhabKeep
import Derived.Test.YtcjldhnjcmhfhabExt
import Derived.Deep.Cut
import Derived.OpenShut
import Derived.Carry
import Derived.Lib.SmallJoins
namespace Go.Proofs.Ytcjldhnjcmhfhab.numDivides
open Go.ChangeShapes Go.WideShapes Go.ChangeAt Go.RowKit Go.BigFrame
set_option linter.unusedVariables false

set_option maxHeartbeats 2000000 in
theorem walk (ka : Bool) (a : Int) (w0 : (Lit.int .i64 a).wf = true) (kb : Bool) (b : Int) (w1 : (Lit.int .i64 b).wf = true) (w : World) :
    Calls Try.prog 3 #[.agg #[.bool ka, .int .i64 a], .agg #[.bool kb, .int .i64 b]] w fun e w' => e = .returned (.bool true) ∧ Below w.heap.size w w' := by
  have b0 : fitsB a = true := fits_wf w0
  have b1 : fitsB b = true := fits_wf w1
  clear w0 w1
  obtain ⟨kq, nq, cq, dq⟩ : ∃ k n, (∀ w, Calls Try.prog 7 #[.agg #[.bool ka, .int .i64 a], .agg #[.bool kb, .int .i64 b]] w (fun e w' => e = .returned (.agg #[.bool k, .int .i64 n]) ∧ Below w.heap.size w w')) ∧ (∀ w, Calls Try.prog 9 #[.agg #[.bool ka, .int .i64 a], .agg #[.bool kb, .int .i64 b]] w (fun e w' => e = .returned (.agg #[.bool k, .int .i64 n]) ∧ Below w.heap.size w w')) := ⟨_, _, fun w => div_any ka kb a b w b0, fun w => refDiv_any ka kb a b w b0⟩
  obtain ⟨kr, nr, cr, dr⟩ : ∃ k n, (∀ w, Calls Try.prog 8 #[.agg #[.bool ka, .int .i64 a], .agg #[.bool kb, .int .i64 b]] w (fun e w' => e = .returned (.agg #[.bool k, .int .i64 n]) ∧ Below w.heap.size w w')) ∧ (∀ w, Calls Try.prog 10 #[.agg #[.bool ka, .int .i64 a], .agg #[.bool kb, .int .i64 b]] w (fun e w' => e = .returned (.agg #[.bool k, .int .i64 n]) ∧ Below w.heap.size w w')) := ⟨_, _, fun w => mod_any ka kb a b w b0, fun w => refMod_any ka kb a b w b0⟩
  go_enter Try.func3, Try.ntmps3
  go_upto_region 1 with fail
  have B := galloc (galloc (Below.refl w.heap.size w) (.cells #[.bool ka, .int .i64 a] 23)) (.cells #[.bool kb, .int .i64 b] 23)
  have ra0 : ((w.alloc (.cells #[.bool ka, .int .i64 a] 23)).alloc (.cells #[.bool kb, .int .i64 b] 23)).cell? ⟨w.heap.size, 0, none⟩ = some (.bool ka) := by go_simp
  have ra1 : ((w.alloc (.cells #[.bool ka, .int .i64 a] 23)).alloc (.cells #[.bool kb, .int .i64 b] 23)).cell? ⟨w.heap.size, 1, none⟩ = some (.int .i64 a) := by go_simp
  have rb0 : ((w.alloc (.cells #[.bool ka, .int .i64 a] 23)).alloc (.cells #[.bool kb, .int .i64 b] 23)).cell? ⟨w.heap.size + 1, 0, none⟩ = some (.bool kb) := by go_simp
  have rb1 : ((w.alloc (.cells #[.bool ka, .int .i64 a] 23)).alloc (.cells #[.bool kb, .int .i64 b] 23)).cell? ⟨w.heap.size + 1, 1, none⟩ = some (.int .i64 b) := by go_simp
  have sa : w.heap.size < ((w.alloc (.cells #[.bool ka, .int .i64 a] 23)).alloc (.cells #[.bool kb, .int .i64 b] 23)).heap.size := by simp; omega
  have sb : w.heap.size + 1 < ((w.alloc (.cells #[.bool ka, .int .i64 a] 23)).alloc (.cells #[.bool kb, .int .i64 b] 23)).heap.size := by simp
  have G := Below.refl ((w.alloc (.cells #[.bool ka, .int .i64 a] 23)).alloc (.cells #[.bool kb, .int .i64 b] 23)).heap.size ((w.alloc (.cells #[.bool ka, .int .i64 a] 23)).alloc (.cells #[.bool kb, .int .i64 b] 23))
  go_upto_region 2 with (first | (go_at_call 7; refine (cq _).mono ?_; rintro e u0 ⟨rfl, g⟩; replace G := gtrans G g; obtain ⟨hc, hf⟩ := bcell G))
  replace ra0 := kold G (.cells #[.bool kq, .int .i64 nq] 23) sa ra0
  replace ra1 := kold G (.cells #[.bool kq, .int .i64 nq] 23) sa ra1
  replace sa := ksize G (.cells #[.bool kq, .int .i64 nq] 23) sa
  replace rb0 := kold G (.cells #[.bool kq, .int .i64 nq] 23) sb rb0
  replace rb1 := kold G (.cells #[.bool kq, .int .i64 nq] 23) sb rb1
  replace sb := ksize G (.cells #[.bool kq, .int .i64 nq] 23) sb
  replace B := galloc (gtrans B G) (.cells #[.bool kq, .int .i64 nq] 23)
  have rq0 := knew u0 #[.bool kq, .int .i64 nq] 23 0 _ rfl
  have rq1 := knew u0 #[.bool kq, .int .i64 nq] 23 1 _ rfl
  have sq := ksnew u0 (.cells #[.bool kq, .int .i64 nq] 23)
  clear G g hc hf
  have G := Below.refl (u0.alloc (.cells #[.bool kq, .int .i64 nq] 23)).heap.size (u0.alloc (.cells #[.bool kq, .int .i64 nq] 23))
  go_upto_region 3 with (first | (go_at_call 8; refine (cr _).mono ?_; rintro e u1 ⟨rfl, g⟩; replace G := gtrans G g; obtain ⟨hc, hf⟩ := bcell G))
  replace ra0 := kold G (.cells #[.bool kr, .int .i64 nr] 23) sa ra0
  replace ra1 := kold G (.cells #[.bool kr, .int .i64 nr] 23) sa ra1
  replace sa := ksize G (.cells #[.bool kr, .int .i64 nr] 23) sa
  replace rb0 := kold G (.cells #[.bool kr, .int .i64 nr] 23) sb rb0
  replace rb1 := kold G (.cells #[.bool kr, .int .i64 nr] 23) sb rb1
  replace sb := ksize G (.cells #[.bool kr, .int .i64 nr] 23) sb
  replace rq0 := kold G (.cells #[.bool kr, .int .i64 nr] 23) sq rq0
  replace rq1 := kold G (.cells #[.bool kr, .int .i64 nr] 23) sq rq1
  replace sq := ksize G (.cells #[.bool kr, .int .i64 nr] 23) sq
  replace B := galloc (gtrans B G) (.cells #[.bool kr, .int .i64 nr] 23)
  have rr0 := knew u1 #[.bool kr, .int .i64 nr] 23 0 _ rfl
  have rr1 := knew u1 #[.bool kr, .int .i64 nr] 23 1 _ rfl
  have sr := ksnew u1 (.cells #[.bool kr, .int .i64 nr] 23)
  clear G g hc hf
  have G := Below.refl (u1.alloc (.cells #[.bool kr, .int .i64 nr] 23)).heap.size (u1.alloc (.cells #[.bool kr, .int .i64 nr] 23))
  have xa0 := fun (n : Ext (u1.alloc (.cells #[.bool kr, .int .i64 nr] 23))) => (n.cell _ _ sa).trans ra0
  have xa1 := fun (n : Ext (u1.alloc (.cells #[.bool kr, .int .i64 nr] 23))) => (n.cell _ _ sa).trans ra1
  have xb0 := fun (n : Ext (u1.alloc (.cells #[.bool kr, .int .i64 nr] 23))) => (n.cell _ _ sb).trans rb0
  have xb1 := fun (n : Ext (u1.alloc (.cells #[.bool kr, .int .i64 nr] 23))) => (n.cell _ _ sb).trans rb1
  have xq0 := fun (n : Ext (u1.alloc (.cells #[.bool kr, .int .i64 nr] 23))) => (n.cell _ _ sq).trans rq0
  have xq1 := fun (n : Ext (u1.alloc (.cells #[.bool kr, .int .i64 nr] 23))) => (n.cell _ _ sq).trans rq1
  have xr0 := fun (n : Ext (u1.alloc (.cells #[.bool kr, .int .i64 nr] 23))) => (n.cell _ _ sr).trans rr0
  have xr1 := fun (n : Ext (u1.alloc (.cells #[.bool kr, .int .i64 nr] 23))) => (n.cell _ _ sr).trans rr1
  have hne : Nonempty (Ext (u1.alloc (.cells #[.bool kr, .int .i64 nr] 23))) := ⟨⟨_, Below.refl _ _⟩⟩
  refine wp_region_ext (by kernel_rfl) (by kernel_rfl) ?_
  repeat (go_big_quiet_step (first | (go_at_call 9; exact ext_of (dq _)) | (go_at_call 10; exact ext_of (dr _))))
  refine wpQuiet_nil ?_
  intro _ hw'
  obtain ⟨nx, hw''⟩ := hw'
  subst hw''
  go_wp2
  go_ret
  exact ⟨rfl, gtrans B nx.h⟩

theorem own : ownKnob Try.prog.godebug = none := by kernel_rfl
theorem laidOut : laidOutB Try.prog = true := by kernel_rfl
theorem cellsV : Try.prog.cellsOf 23 = 2 := by kernel_rfl

set_option maxRecDepth 100000 in
theorem lifted (os : Os) (started : os.Started) (H : Type) (enc : TypeId × Value → H) :
    ReturnsInHanded {} Try.checked os 3 .any (Rows.numDividesSpec.pre6 enc Try.prog Try.f3 Rows.numDividesRow.domain false) (Rows.numDividesSpec.post enc Try.prog Try.f3 false true false false) := by
  refine returnsInHanded_of_change (C := Try.checked) own started (by kernel_rfl) Try.func3
    (ChangeSpec.witness6 (enc := enc) (C := Try.checked) false ⟨#[], #[.agg #[.bool false, .int .i64 0], .agg #[.bool false, .int .i64 0]], []⟩ 8 (by kernel_rfl) (by kernel_rfl) (by kernel_rfl) (by kernel_rfl)) ?_
  intro W base args ds gs before hval0 hW hcnd _
  have hval : ∀ (j : Nat) t v, Try.f3.params[j]? = some t → args[j]? = some v → Value.okWide Try.prog W .any base t v := hval0
  have hW' := hW
  obtain ⟨p, q, hA0, hV, rfl, hfz, hnd⟩ := hW
  have hA : DataW.TrodAll enc Try.prog W 0 (fun _ => true) true Try.f3.params.toList args.toList ds p := hA0
  rw [Try.params3] at hA hval
  obtain ⟨v0, vs0, d0, ds0, p0, q0, hargs, rfl, rfl, h0, r0⟩ := trodAll_cons hA
  obtain ⟨v1, vs1, d1, ds1, p1, q1, rfl, rfl, rfl, h1, r1⟩ := trodAll_cons r0
  obtain ⟨rfl, rfl, rfl⟩ := trodAll_nil r1
  obtain rfl : args = #[v0, v1] := by cases args; simp_all
  obtain ⟨rfl, rfl⟩ := trodVars_none hV
  have k0 := h0
  have lt0 : ∀ x ∈ p0, x.block < W.heap.size := by obtain ⟨m, hm⟩ := k0; exact DataW.trod_lt m _ _ _ hm
  obtain ⟨c0, n0, y0, z0, m0, e0, _, _, hy0, hz0⟩ := Joins.open_agg2 Try.underlying23 (by kernel_rfl) cellsV (hval 0 23 v0 rfl rfl) h0
  subst e0
  obtain ⟨ka0, f0, _⟩ := DataW.trod_bool Try.underlying4 hy0
  obtain ⟨a0, g0, _, w0⟩ := DataW.trod_int Try.underlying2 hz0
  simp only [List.cons.injEq, and_true] at f0 g0
  subst f0; subst g0
  have k1 := h1
  have lt1 : ∀ x ∈ p1, x.block < W.heap.size := by obtain ⟨m, hm⟩ := k1; exact DataW.trod_lt m _ _ _ hm
  obtain ⟨c1, n1, y1, z1, m1, e1, _, _, hy1, hz1⟩ := Joins.open_agg2 Try.underlying23 (by kernel_rfl) cellsV (hval 1 23 v1 rfl rfl) h1
  subst e1
  obtain ⟨ka1, f1, _⟩ := DataW.trod_bool Try.underlying4 hy1
  obtain ⟨a1, g1, _, w1⟩ := DataW.trod_int Try.underlying2 hz1
  simp only [List.cons.injEq, and_true] at f1 g1
  subst f1; subst g1
  clear hA0 hval0
  refine (walk ka0 a0 w0 ka1 a1 w1 W).mono fun e W' ⟨he, bel⟩ => ?_
  subst he
  exact ⟨_, rfl, _, _, _, [], _, [], hW', trodAll_mk1 (shut_bool Try.underlying4 _), (trodAll_cons_mk (Below.trod laidOut (by kernel_rfl) (of_decide_eq_true (by kernel_rfl)) k0 bel lt0) (trodAll_cons_mk (Below.trod laidOut (by kernel_rfl) (of_decide_eq_true (by kernel_rfl)) k1 bel lt1) trodAll_mk0)), rfl, bel.frame _, fun h => by cases h⟩

theorem over : Rows.numDividesRow.holds Try.pinned (OpenSpec.ofChange Rows.numDividesSpec) :=
  OpenClaim.holds_of_wide 3 Try.f3 rfl rfl rfl rfl rfl rfl rfl ⟨rfl, rfl, rfl, rfl, rfl⟩ rfl rfl rfl rfl rfl (by kernel_rfl) Try.func3 (by kernel_rfl)
    (of_decide_eq_true (by kernel_rfl)) (by unfold Func.isWrapper; first | (rw [if_pos (by decide +kernel)]; kernel_rfl) | (rw [if_neg (by decide +kernel)]; exact ⟨rfl, rfl⟩))
    (fun os started H enc _ => lifted os started H enc)

end Go.Proofs.Ytcjldhnjcmhfhab.numDivides
namespace Go.Proofs.Ytcjldhnjcmhfhab
theorem numDivides_holds : Rows.NumDividesSaid := numDivides.over
#print axioms numDivides_holds
end Go.Proofs.Ytcjldhnjcmhfhab
