/- For every two int64 a and b the law NumFits returns true: a sum and a difference of known numbers is known just if int64 holds it, and gives back what it is made of. No condition. -/
import Derived.Test.YtcjldhnjcmhfhaaOps
import Derived.Test.YtcjldhnjcmhfhaaKeep
import Derived.Test.YtcjldhnjcmhfhaaNumber
import Derived.Deep.Cut
import Derived.OpenShut
import Derived.Carry
namespace Go.Proofs.Ytcjldhnjcmhfhaa.numFits
open Go.ChangeShapes Go.WideShapes Go.ChangeAt Go.RowKit
set_option linter.unusedVariables false

set_option maxHeartbeats 2000000 in
theorem walk (a0 : Int) (w0 : (Lit.int .i64 a0).wf = true) (a1 : Int) (w1 : (Lit.int .i64 a1).wf = true) (w : World) :
    Calls Try.prog 3 #[.int .i64 a0, .int .i64 a1] w fun e w' => e = .returned (.bool true) ∧ Below w.heap.size w w' := by
  have b0 : fitsB a0 = true := fits_wf w0
  have b1 : fitsB a1 = true := fits_wf w1
  clear w0 w1
  go_enter Try.func3, Try.ntmps3
  have G := Below.refl w.heap.size w
  go_upto_region 2 with (first
    | (go_at_call 9; refine (number_any _ _).mono ?_; rintro e u ⟨rfl, g⟩; replace G := gtrans G g; obtain ⟨hc, hf⟩ := bcell G)
    | (go_at_call 8; refine (add_any _ _ _ _ _ b0 b1).mono ?_; rintro e u ⟨rfl, g⟩; replace G := gtrans G g; obtain ⟨hc, hf⟩ := bcell G))
  have G0 := galloc G (.cells #[.bool (opK true true (a0 + a1)), .int .i64 (opN true true (a0 + a1))] 23)
  have r0 := knew u #[.bool (opK true true (a0 + a1)), .int .i64 (opN true true (a0 + a1))] 23 0 _ rfl
  have r1 := knew u #[.bool (opK true true (a0 + a1)), .int .i64 (opN true true (a0 + a1))] 23 1 _ rfl
  have s := ksnew u (.cells #[.bool (opK true true (a0 + a1)), .int .i64 (opN true true (a0 + a1))] 23)
  clear G
  have G := Below.refl (u.alloc (.cells #[.bool (opK true true (a0 + a1)), .int .i64 (opN true true (a0 + a1))] 23)).heap.size (u.alloc (.cells #[.bool (opK true true (a0 + a1)), .int .i64 (opN true true (a0 + a1))] 23))
  go_upto_region 3 with (first
    | (go_at_call 9; refine (number_any _ _).mono ?_; rintro e u1 ⟨rfl, g⟩; replace G := gtrans G g; obtain ⟨hc, hf⟩ := bcell G)
    | (go_at_call 10; refine (sub_any _ _ _ _ _ b0 b1).mono ?_; rintro e u1 ⟨rfl, g⟩; replace G := gtrans G g; obtain ⟨hc, hf⟩ := bcell G))
  replace r0 := kold G (.cells #[.bool (opK true true (a0 - a1)), .int .i64 (opN true true (a0 - a1))] 23) s r0
  replace r1 := kold G (.cells #[.bool (opK true true (a0 - a1)), .int .i64 (opN true true (a0 - a1))] 23) s r1
  have G1 := galloc (gtrans G0 G) (.cells #[.bool (opK true true (a0 - a1)), .int .i64 (opN true true (a0 - a1))] 23)
  clear s G G0 hc hf g
  have hA := (fits_iff a0).1 b0
  have hB := (fits_iff a1).1 b1
  clear b0 b1
  cases h1 : fitsB (a0 + a1) <;> cases h2 : fitsB (a0 - a1)
  all_goals
    have e1 := opK_tt (a0 + a1)
    have e2 := opN_tt (a0 + a1)
    have e3 := opK_tt (a0 - a1)
    have e4 := opN_tt (a0 - a1)
    rw [h1] at e1
    rw [h2] at e3
    first | rw [fitN_yes _ h1] at e2 | rw [fitN_no _ h1] at e2
    first | rw [fitN_yes _ h2] at e4 | rw [fitN_no _ h2] at e4
    simp only [e1, e2, e3, e4] at r0 r1 G1
    first | rw [fits_iff] at h1 | rw [fits_not] at h1
    first | rw [fits_iff] at h2 | rw [fits_not] at h2
    have h3 : a1 < 0 ∨ (0 ≤ a1 ∧ a1 ≤ 0) ∨ 0 < a1 := by omega
    rcases h3 with hs | hs | hs
  all_goals try (exfalso; omega)
  all_goals
    go_wp2
  all_goals
    first
    | (go_ret; exact ⟨rfl, G1⟩)
    | (exfalso; simp only [Bool.not_eq_true', decide_eq_false_iff_not] at *; omega)

theorem own : ownKnob Try.prog.godebug = none := by kernel_rfl
theorem laidOut : laidOutB Try.prog = true := by kernel_rfl

set_option maxRecDepth 100000 in
theorem lifted (os : Os) (started : os.Started) (H : Type) (enc : TypeId × Value → H) :
    ReturnsInHanded {} Try.checked os 3 .any (Rows.numFitsSpec.pre6 enc Try.prog Try.f3 Rows.numFitsRow.domain false) (Rows.numFitsSpec.post enc Try.prog Try.f3 false true false false) := by
  refine returnsInHanded_of_change (C := Try.checked) own started (by kernel_rfl) Try.func3
    (ChangeSpec.witness6 (enc := enc) (C := Try.checked) false ⟨#[], #[.int .i64 0, .int .i64 0], []⟩ 8 (by kernel_rfl) (by kernel_rfl) (by kernel_rfl) (by kernel_rfl)) ?_
  intro W base args ds gs before hval0 hW hcnd _
  have hval : ∀ (j : Nat) t v, Try.f3.params[j]? = some t → args[j]? = some v → Value.okWide Try.prog W .any base t v := hval0
  have hW' := hW
  obtain ⟨p, q, hA0, hV, rfl, hfz, hnd⟩ := hW
  have hA : DataW.TrodAll enc Try.prog W 0 (fun _ => true) true Try.f3.params.toList args.toList ds p := hA0
  rw [Try.params3] at hA hval
  obtain ⟨v0, vs0, d0, ds0, p0, q0, hargs, rfl, rfl, h0, r0⟩ := trodAll_cons hA
  obtain ⟨v1, vs1, d1, ds1, p1, q1, rfl, rfl, rfl, h1, r1⟩ := trodAll_cons r0
  obtain ⟨rfl, rfl, rfl⟩ := trodAll_nil r1
  obtain rfl : args = #[v0, v1] := by cases args; simp_all
  obtain ⟨rfl, rfl⟩ := trodVars_none hV
  have k0 := h0
  have lt0 : ∀ x ∈ p0, x.block < W.heap.size := by obtain ⟨m, hm⟩ := k0; exact DataW.trod_lt m _ _ _ hm
  obtain ⟨a0, e0, _, _, w0⟩ := open_int Try.underlying2 (hval 0 2 v0 rfl rfl) h0
  subst e0
  have k1 := h1
  have lt1 : ∀ x ∈ p1, x.block < W.heap.size := by obtain ⟨m, hm⟩ := k1; exact DataW.trod_lt m _ _ _ hm
  obtain ⟨a1, e1, _, _, w1⟩ := open_int Try.underlying2 (hval 1 2 v1 rfl rfl) h1
  subst e1
  clear hA0 hval0
  refine (walk a0 w0 a1 w1 W).mono fun e W' ⟨he, bel⟩ => ?_
  subst he
  exact ⟨_, rfl, _, _, _, [], _, [], hW', trodAll_mk1 (shut_bool Try.underlying4 _), (trodAll_cons_mk (Below.trod laidOut (by kernel_rfl) (of_decide_eq_true (by kernel_rfl)) k0 bel lt0) (trodAll_cons_mk (Below.trod laidOut (by kernel_rfl) (of_decide_eq_true (by kernel_rfl)) k1 bel lt1) trodAll_mk0)), rfl, bel.frame _, fun h => by cases h⟩

theorem over : Rows.numFitsRow.holds Try.pinned (OpenSpec.ofChange Rows.numFitsSpec) :=
  OpenClaim.holds_of_wide 3 Try.f3 rfl rfl rfl rfl rfl rfl rfl ⟨rfl, rfl, rfl, rfl, rfl⟩ rfl rfl rfl rfl rfl (by kernel_rfl) Try.func3 (by kernel_rfl)
    (of_decide_eq_true (by kernel_rfl)) (by unfold Func.isWrapper; first | (rw [if_pos (by decide +kernel)]; kernel_rfl) | (rw [if_neg (by decide +kernel)]; exact ⟨rfl, rfl⟩))
    (fun os started H enc _ => lifted os started H enc)

end Go.Proofs.Ytcjldhnjcmhfhaa.numFits
namespace Go.Proofs.Ytcjldhnjcmhfhaa
theorem numFits_holds : Rows.NumFitsSaid := numFits.over
#print axioms numFits_holds
end Go.Proofs.Ytcjldhnjcmhfhaa
