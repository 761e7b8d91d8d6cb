/- For every two int64 a and b the law NumLeaves returns true: quotient and rest of known numbers give back the dividend, the rest is nearer to 0 than the divisor and has the dividend's sign; by 0 both are unknown. No condition. -/
import Derived.Test.YtcjldhnjcmhfhaaOps2
import Derived.Test.YtcjldhnjcmhfhaaKeep
import Derived.Test.YtcjldhnjcmhfhaaNumber
import Derived.Deep.CutRange
import Derived.OpenShut
import Derived.Carry
namespace Go.Proofs.Ytcjldhnjcmhfhaa.numLeaves
open Go.ChangeShapes Go.WideShapes Go.ChangeAt Go.RowKit
set_option linter.unusedVariables false

theorem known_div (a b : Int) (ha : fitsB a = true) (h0 : ¬ b = 0) (h1 : ¬ b = -1) : opK true (true && !(b == 0)) (a.tdiv b) = true ∧ opN true (true && !(b == 0)) (a.tdiv b) = a.tdiv b := by
  have hf := tdiv_fits a b ha h1
  have e : (b == 0) = false := by simpa using h0
  rw [e]
  exact ⟨hf, fitN_yes _ hf⟩
theorem known_mod (a b : Int) (ha : fitsB a = true) (h0 : ¬ b = 0) : opK true (true && !(b == 0)) (a.tmod b) = true ∧ opN true (true && !(b == 0)) (a.tmod b) = a.tmod b := by
  have hf := tmod_fits a b ha
  have e : (b == 0) = false := by simpa using h0
  rw [e]
  exact ⟨hf, fitN_yes _ hf⟩
theorem rest (a b : Int) (h0 : ¬ b = 0) : a.tdiv b * b = a - a.tmod b ∧ (0 < b → a.tmod b < b ∧ -b < a.tmod b) ∧ (b < 0 → a.tmod b < -b ∧ b < a.tmod b) ∧ (0 ≤ a → 0 ≤ a.tmod b ∧ a.tmod b ≤ a) ∧ (a < 0 → a.tmod b ≤ 0 ∧ a ≤ a.tmod b) := by
  have h1 := Int.tmod_add_mul_tdiv a b
  have h2 := Int.natAbs_tmod a b
  have h3 : a.natAbs % b.natAbs < b.natAbs := Nat.mod_lt _ (by omega)
  have h4 : a.natAbs % b.natAbs ≤ a.natAbs := Nat.mod_le _ _
  rw [← h2] at h3 h4
  have h5 : 0 ≤ a → 0 ≤ a.tmod b := fun h => Int.tmod_nonneg b h
  have h6 : a < 0 → a.tmod b ≤ 0 := fun h => by
    have := Int.tmod_nonneg (a := -a) b (by omega)
    rw [Int.neg_tmod] at this; omega
  rw [Int.mul_comm] at h1
  refine ⟨by omega, fun h => ?_, fun h => ?_, fun h => ?_, fun h => ?_⟩
  · omega
  · omega
  · have := h5 h; omega
  · have := h6 h; omega

set_option maxHeartbeats 2000000 in
theorem walk (a0 : Int) (w0 : (Lit.int .i64 a0).wf = true) (a1 : Int) (w1 : (Lit.int .i64 a1).wf = true) (w : World) :
    Calls Try.prog 4 #[.int .i64 a0, .int .i64 a1] w fun e w' => e = .returned (.bool true) ∧ Below w.heap.size w w' := by
  have b0 : fitsB a0 = true := fits_wf w0
  have b1 : fitsB a1 = true := fits_wf w1
  clear w0 w1
  obtain ⟨kq, nq, Hq, cq⟩ : ∃ k n, Hid (k = opK true (true && !(a1 == 0)) (a0.tdiv a1) ∧ n = opN true (true && !(a1 == 0)) (a0.tdiv a1)) ∧ ∀ w, Calls Try.prog 11 #[.agg #[.bool true, .int .i64 a0], .agg #[.bool true, .int .i64 a1]] w (fun e w' => e = .returned (.agg #[.bool k, .int .i64 n]) ∧ Below w.heap.size w w') := ⟨_, _, ⟨rfl, rfl⟩, fun w => div_any true true a0 a1 w b0⟩
  obtain ⟨kr, nr, Hr, cr⟩ : ∃ k n, Hid (k = opK true (true && !(a1 == 0)) (a0.tmod a1) ∧ n = opN true (true && !(a1 == 0)) (a0.tmod a1)) ∧ ∀ w, Calls Try.prog 12 #[.agg #[.bool true, .int .i64 a0], .agg #[.bool true, .int .i64 a1]] w (fun e w' => e = .returned (.agg #[.bool k, .int .i64 n]) ∧ Below w.heap.size w w') := ⟨_, _, ⟨rfl, rfl⟩, fun w => mod_any true true a0 a1 w b0⟩
  obtain ⟨kz, nz, Hz, cz⟩ : ∃ k n, Hid (k = opK true (true && !((1 : Int) == 0)) (a0.tdiv 1) ∧ n = opN true (true && !((1 : Int) == 0)) (a0.tdiv 1)) ∧ ∀ w, Calls Try.prog 11 #[.agg #[.bool true, .int .i64 a0], .agg #[.bool true, .int .i64 1]] w (fun e w' => e = .returned (.agg #[.bool k, .int .i64 n]) ∧ Below w.heap.size w w') := ⟨_, _, ⟨rfl, rfl⟩, fun w => div_any true true a0 1 w b0⟩
  go_enter Try.func4, Try.ntmps4
  have G := Below.refl w.heap.size w
  have B := Below.refl w.heap.size w
  go_upto_region 2 with (first | (go_at_call 9; refine (number_any _ _).mono ?_; rintro e u0 ⟨rfl, g⟩; replace G := gtrans G g; obtain ⟨hc, hf⟩ := bcell G) | (go_at_call 11; refine (cq _).mono ?_; rintro e u0 ⟨rfl, g⟩; replace G := gtrans G g; obtain ⟨hc, hf⟩ := bcell G))
  replace B := galloc (gtrans B G) (.cells #[.bool kq, .int .i64 nq] 23)
  have rq0 := knew u0 #[.bool kq, .int .i64 nq] 23 0 _ rfl
  have rq1 := knew u0 #[.bool kq, .int .i64 nq] 23 1 _ rfl
  have sq := ksnew u0 (.cells #[.bool kq, .int .i64 nq] 23)
  clear G
  generalize (u0.alloc (.cells #[.bool kq, .int .i64 nq] 23)) = V1 at *
  have G := Below.refl V1.heap.size V1
  go_upto_region 3 with (first | (go_at_call 9; refine (number_any _ _).mono ?_; rintro e u1 ⟨rfl, g⟩; replace G := gtrans G g; obtain ⟨hc, hf⟩ := bcell G) | (go_at_call 12; refine (cr _).mono ?_; rintro e u1 ⟨rfl, g⟩; replace G := gtrans G g; obtain ⟨hc, hf⟩ := bcell G))
  replace rq0 := kold G (.cells #[.bool kr, .int .i64 nr] 23) sq rq0
  replace rq1 := kold G (.cells #[.bool kr, .int .i64 nr] 23) sq rq1
  replace sq := ksize G (.cells #[.bool kr, .int .i64 nr] 23) sq
  replace B := galloc (gtrans B G) (.cells #[.bool kr, .int .i64 nr] 23)
  have rr0 := knew u1 #[.bool kr, .int .i64 nr] 23 0 _ rfl
  have rr1 := knew u1 #[.bool kr, .int .i64 nr] 23 1 _ rfl
  have sr := ksnew u1 (.cells #[.bool kr, .int .i64 nr] 23)
  clear G
  generalize (u1.alloc (.cells #[.bool kr, .int .i64 nr] 23)) = V2 at *
  have G := Below.refl V2.heap.size V2
  have hA := (fits_iff a0).1 b0
  have hB := (fits_iff a1).1 b1
  by_cases h0 : a1 = 0
  · have h0' : (a1 == 0) = true := by simp [h0]
    clear h0 cq cr
    go_upto_region 5 with (first | (go_at_call 9; refine (number_any _ _).mono ?_; rintro e u2 ⟨rfl, g⟩; replace G := gtrans G g; obtain ⟨hc, hf⟩ := bcell G) | (go_at_call 11; refine (cz _).mono ?_; rintro e u2 ⟨rfl, g⟩; replace G := gtrans G g; obtain ⟨hc, hf⟩ := bcell G))
    replace rq0 := kold G (.cells #[.bool kz, .int .i64 nz] 23) sq rq0
    replace rq1 := kold G (.cells #[.bool kz, .int .i64 nz] 23) sq rq1
    replace sq := ksize G (.cells #[.bool kz, .int .i64 nz] 23) sq
    replace rr0 := kold G (.cells #[.bool kz, .int .i64 nz] 23) sr rr0
    replace rr1 := kold G (.cells #[.bool kz, .int .i64 nz] 23) sr rr1
    replace sr := ksize G (.cells #[.bool kz, .int .i64 nz] 23) sr
    replace B := galloc (gtrans B G) (.cells #[.bool kz, .int .i64 nz] 23)
    have rz0 := knew u2 #[.bool kz, .int .i64 nz] 23 0 _ rfl
    have rz1 := knew u2 #[.bool kz, .int .i64 nz] 23 1 _ rfl
    have sz := ksnew u2 (.cells #[.bool kz, .int .i64 nz] 23)
    clear G
    generalize (u2.alloc (.cells #[.bool kz, .int .i64 nz] 23)) = V3 at *
    have G := Below.refl V3.heap.size V3
    obtain ⟨eq1, eq2⟩ := Hq.out
    obtain ⟨er1, er2⟩ := Hr.out
    obtain ⟨ez1, ez2⟩ := Hz.out
    have hz := known_div a0 1 b0 (by omega) (by omega)
    rw [hz.1] at ez1
    rw [hz.2, Int.tdiv_one] at ez2
    rw [h0'] at eq1 er1
    simp only [Bool.not_true, Bool.and_false, opK_f2] at eq1 er1
    clear eq2 er2 Hq Hr Hz hz cz
    subst eq1; subst er1; subst ez1; subst ez2
    go_wp2
    go_ret
    exact ⟨rfl, B⟩
  · clear cz Hz
    obtain ⟨er1, er2⟩ := Hr.out
    have hr := known_mod a0 a1 b0 h0
    rw [hr.1] at er1
    rw [hr.2] at er2
    obtain ⟨m1, m2, m3, m4, m5⟩ := rest a0 a1 h0
    rw [← er2] at m1 m2 m3 m4 m5
    have h0' : (a1 == 0) = false := by simpa using h0
    simp only [er1] at rr0 B
    subst er1
    by_cases h1 : a0 = -9223372036854775808 ∧ a1 = -1
    · obtain ⟨eq1, eq2⟩ := Hq.out
      obtain ⟨rfl, rfl⟩ := h1
      have e1 : opK true (true && !((-1 : Int) == 0)) (Int.tdiv (-9223372036854775808) (-1)) = false := by decide
      rw [e1] at eq1
      have e2 : nr = 0 := by omega
      subst eq1 
      clear er2 eq2 m1 m2 m3 m4 m5 hr Hq Hr cq cr
      subst e2
      go_wp2
      go_ret
      exact ⟨rfl, B⟩
    · obtain ⟨eq1, eq2⟩ := Hq.out
      have hq : opK true (true && !(a1 == 0)) (a0.tdiv a1) = true ∧ opN true (true && !(a1 == 0)) (a0.tdiv a1) = a0.tdiv a1 := by
        by_cases h2 : a1 = -1
        · subst h2
          have e : a0.tdiv (-1) = -a0 := by rw [Int.tdiv_neg, Int.tdiv_one]
          have hf : fitsB (a0.tdiv (-1)) = true := by rw [e, fits_iff]; omega
          exact ⟨hf, fitN_yes _ hf⟩
        · exact known_div a0 a1 b0 h0 h2
      rw [hq.1] at eq1
      rw [hq.2] at eq2
      rw [← eq2] at m1
      subst eq1
      clear er2 eq2 hr hq Hq Hr cq cr b0 b1
      have h2 : ((a0 == -9223372036854775808) && (a1 == -1)) = false := by simpa using h1
      by_cases h3 : nr = 0
      · subst h3
        go_wp2
        all_goals (go_ret; exact ⟨rfl, B⟩)
      · have h4 : (nr == 0) = false := by simpa using h3
        have h5 : (nr < 0 ∧ a0 < 0) ∨ (0 < nr ∧ 0 < a0) := by omega
        rcases h5 with h5 | h5
        all_goals
          go_wp2
        all_goals
          go_ret
          first
          | exact ⟨rfl, B⟩
          | exact ⟨ret_bool (by rw [beq_iff_eq, decide_eq_decide]; omega), B⟩

theorem own : ownKnob Try.prog.godebug = none := by kernel_rfl
theorem laidOut : laidOutB Try.prog = true := by kernel_rfl

set_option maxRecDepth 100000 in
theorem lifted (os : Os) (started : os.Started) (H : Type) (enc : TypeId × Value → H) :
    ReturnsInHanded {} Try.checked os 4 .any (Rows.numLeavesSpec.pre6 enc Try.prog Try.f4 Rows.numLeavesRow.domain false) (Rows.numLeavesSpec.post enc Try.prog Try.f4 false true false false) := by
  refine returnsInHanded_of_change (C := Try.checked) own started (by kernel_rfl) Try.func4
    (ChangeSpec.witness6 (enc := enc) (C := Try.checked) false ⟨#[], #[.int .i64 0, .int .i64 0], []⟩ 8 (by kernel_rfl) (by kernel_rfl) (by kernel_rfl) (by kernel_rfl)) ?_
  intro W base args ds gs before hval0 hW hcnd _
  have hval : ∀ (j : Nat) t v, Try.f4.params[j]? = some t → args[j]? = some v → Value.okWide Try.prog W .any base t v := hval0
  have hW' := hW
  obtain ⟨p, q, hA0, hV, rfl, hfz, hnd⟩ := hW
  have hA : DataW.TrodAll enc Try.prog W 0 (fun _ => true) true Try.f4.params.toList args.toList ds p := hA0
  rw [Try.params4] at hA hval
  obtain ⟨v0, vs0, d0, ds0, p0, q0, hargs, rfl, rfl, h0, r0⟩ := trodAll_cons hA
  obtain ⟨v1, vs1, d1, ds1, p1, q1, rfl, rfl, rfl, h1, r1⟩ := trodAll_cons r0
  obtain ⟨rfl, rfl, rfl⟩ := trodAll_nil r1
  obtain rfl : args = #[v0, v1] := by cases args; simp_all
  obtain ⟨rfl, rfl⟩ := trodVars_none hV
  have k0 := h0
  have lt0 : ∀ x ∈ p0, x.block < W.heap.size := by obtain ⟨m, hm⟩ := k0; exact DataW.trod_lt m _ _ _ hm
  obtain ⟨a0, e0, _, _, w0⟩ := open_int Try.underlying2 (hval 0 2 v0 rfl rfl) h0
  subst e0
  have k1 := h1
  have lt1 : ∀ x ∈ p1, x.block < W.heap.size := by obtain ⟨m, hm⟩ := k1; exact DataW.trod_lt m _ _ _ hm
  obtain ⟨a1, e1, _, _, w1⟩ := open_int Try.underlying2 (hval 1 2 v1 rfl rfl) h1
  subst e1
  clear hA0 hval0
  refine (walk a0 w0 a1 w1 W).mono fun e W' ⟨he, bel⟩ => ?_
  subst he
  exact ⟨_, rfl, _, _, _, [], _, [], hW', trodAll_mk1 (shut_bool Try.underlying4 _), (trodAll_cons_mk (Below.trod laidOut (by kernel_rfl) (of_decide_eq_true (by kernel_rfl)) k0 bel lt0) (trodAll_cons_mk (Below.trod laidOut (by kernel_rfl) (of_decide_eq_true (by kernel_rfl)) k1 bel lt1) trodAll_mk0)), rfl, bel.frame _, fun h => by cases h⟩

theorem over : Rows.numLeavesRow.holds Try.pinned (OpenSpec.ofChange Rows.numLeavesSpec) :=
  OpenClaim.holds_of_wide 4 Try.f4 rfl rfl rfl rfl rfl rfl rfl ⟨rfl, rfl, rfl, rfl, rfl⟩ rfl rfl rfl rfl rfl (by kernel_rfl) Try.func4 (by kernel_rfl)
    (of_decide_eq_true (by kernel_rfl)) (by unfold Func.isWrapper; first | (rw [if_pos (by decide +kernel)]; kernel_rfl) | (rw [if_neg (by decide +kernel)]; exact ⟨rfl, rfl⟩))
    (fun os started H enc _ => lifted os started H enc)

end Go.Proofs.Ytcjldhnjcmhfhaa.numLeaves
namespace Go.Proofs.Ytcjldhnjcmhfhaa
theorem numLeaves_holds : Rows.NumLeavesSaid := numLeaves.over
#print axioms numLeaves_holds
end Go.Proofs.Ytcjldhnjcmhfhaa
