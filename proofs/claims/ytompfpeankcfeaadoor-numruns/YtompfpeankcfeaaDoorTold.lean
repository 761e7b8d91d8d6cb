/- What the law's helper told comes to. -/
import Derived.Test.YtompfpeankcfeaaDoorAsked
namespace Go.Proofs.YtompfpeankcfeaaDoor
open Go.RowKit Go.BigFrame
set_option linter.unusedVariables false
set_option linter.unusedSimpArgs false

set_option maxRecDepth 100000 in
set_option maxHeartbeats 2000000 in
theorem told_any (ao : Option Addr) (n cap : Nat) (vs : List V2) (op i j : Int) (v : V2) (w : World) (h : IsVals w ao n vs) (hi : fitsB i = true) (hj : fitsB j = true) (hl : 5 ≤ op ∧ op ≤ 10 → n ≤ 2147483647) :
    Calls Tryd.prog 10 #[.slice ao n cap, .agg #[.int .i64 op, .int .i64 i, .int .i64 j, .bool v.1, .int .i64 v.2]] w fun e w' => e = .returned (VA (askedV vs op i j v)) ∧ Below w.heap.size w w' := by
  have hvl := h.1
  have hn := h.2.1
  have hfit := h.2.2.1
  obtain ⟨kv, nv⟩ := v
  obtain ⟨z, hzz⟩ : ∃ z, z = askedV vs op i j (kv, nv) := ⟨_, rfl⟩
  rw [← hzz]
  have HZ : Hid (z = askedV vs op i j (kv, nv)) := hzz
  clear hzz
  have Bw := galloc (galloc (Below.refl w.heap.size w) (.cells #[.int .i64 op, .int .i64 i, .int .i64 j, .bool kv, .int .i64 nv] 31)) (.cells #[.bool false, .int .i64 0] 25)
  have S5 : Five ((w.alloc (.cells #[.int .i64 op, .int .i64 i, .int .i64 j, .bool kv, .int .i64 nv] 31)).alloc (.cells #[.bool false, .int .i64 0] 25)) w.heap.size op i j (kv, nv) := by
    refine (Below.heap_alloc _ _ _ (by simp)).trans ?_
    show (w.heap.push _)[w.heap.size]? = _
    simp
  have R := Two.new (w.alloc (.cells #[.int .i64 op, .int .i64 i, .int .i64 j, .bool kv, .int .i64 nv] 31)) (.bool false) (.int .i64 0) 25
  have hz : (w.alloc (.cells #[.int .i64 op, .int .i64 i, .int .i64 j, .bool kv, .int .i64 nv] 31)).heap.size = w.heap.size + 1 := by simp
  rw [hz] at R
  replace h := h.keep Bw
  go_enter Tryd.func10, Tryd.ntmps10
  generalize hV : (w.alloc (.cells #[.int .i64 op, .int .i64 i, .int .i64 j, .bool kv, .int .i64 nv] 31)).alloc (.cells #[.bool false, .int .i64 0] 25) = V at Bw S5 R h
  go_upto_region 1 with fail
  try rw [hV]
  clear hV hz
  obtain ⟨s0, s1, s2, s3, s4⟩ := S5.cells
  have r0 := R.at0
  have r1 := R.at1
  have r2 := R.free
  by_cases h0 : op = 0
  · have q0 : (op == 0) = true := by simpa using h0
    have hzz : z = (kv, nv) := by rw [HZ.out]; unfold askedV; rw [if_pos (.inl h0)]
    subst hzz
    clear h0
    go_wp2
    refine bodyPost_ret (v := .agg #[.bool kv, .int .i64 nv]) (by simp [results, Tryd.results10, go_sem, r0, r1]) rfl ⟨rfl, ?_⟩
    exact gset (gset Bw (by simp) _) (by simp) _
  have q0 : (op == 0) = false := by simpa using h0
  by_cases hn0 : n = 0
  · have q1 : ((n : Int) == 0) = true := by simp; omega
    have hzz : z = (kv, nv) := by rw [HZ.out]; unfold askedV; rw [if_pos (.inr (by omega))]
    subst hzz
    clear h0
    go_wp2
    refine bodyPost_ret (v := .agg #[.bool kv, .int .i64 nv]) (by simp [results, Tryd.results10, go_sem, r0, r1]) rfl ⟨rfl, ?_⟩
    exact gset (gset Bw (by simp) _) (by simp) _
  have q1 : ((n : Int) == 0) = false := by simp; omega
  have hzz : z = _ := HZ.out.trans (by unfold askedV; rw [if_neg (by omega), hvl])
  have HZ : Hid (z = _) := hzz
  clear hzz
  have c1 : ∀ w, Calls Tryd.prog 18 #[.int .i64 i, .int .i64 (n : Int)] w fun e w' => e = .returned (.int .i64 (plc i n : Int)) ∧ w = w' := fun w => by rw [← plc_eq i n (by omega)]; exact place_any i n w (by omega) (by omega) hi
  have c2 : ∀ w, Calls Tryd.prog 18 #[.int .i64 j, .int .i64 (n : Int)] w fun e w' => e = .returned (.int .i64 (plc j n : Int)) ∧ w = w' := fun w => by rw [← plc_eq j n (by omega)]; exact place_any j n w (by omega) (by omega) hj
  have hpi := plc_lt i n (by omega)
  have hpj := plc_lt j n (by omega)
  generalize plc i n = pi at *
  generalize plc j n = pj at *
  have h' := h
  obtain ⟨_, _, _, q4⟩ := h'
  rcases q4 with q4 | ⟨b, off, eb, hb, hcb⟩
  · exact absurd q4 hn0
  subst eb
  obtain ⟨f1, f2⟩ := hcb pi hpi
  obtain ⟨f3, f4⟩ := hcb pj hpj
  have bx := hfit pi
  have by_ := hfit pj
  obtain ⟨x, hx⟩ : ∃ x, x = vs.getD pi noV := ⟨_, rfl⟩
  obtain ⟨y, hy⟩ : ∃ y, y = vs.getD pj noV := ⟨_, rfl⟩
  rw [← hx] at f1 f2 bx
  rw [← hy] at f3 f4 by_
  have HZ : Hid (z = if op = 12 then negV x else if op = 13 then notV x else if 5 ≤ op ∧ op ≤ 10 then foldV op (kn vs pi pj) else applyV op x y) := by show _ = _; rw [HZ.out, hx, hy]
  clear hcb hx hy hfit
  obtain ⟨xk, xn⟩ := x
  obtain ⟨yk, yn⟩ := y
  have bn : w.heap.size + 1 < V.heap.size := R.lt
  by_cases h12 : op = 12
  · have hzz : z = negV (xk, xn) := by rw [HZ.out, if_pos h12]
    have q2 : (op == 12) = true := by simpa using h12
    have c3 := refNeg_any xk xn V bx
    clear h0 h12
    go_wp2_with (first
      | (go_at_call 18; with_reducible (first | refine (c1 _).mono ?_ | refine (c2 _).mono ?_); rintro e u ⟨rfl, rfl⟩)
      | (go_at_call 27; with_reducible refine (c3).mono ?_; rintro e u ⟨rfl, g⟩; have R2 := R.keep g; have t0 := R2.at0; have t1 := R2.at1; have t2 := R2.free))
    refine bodyPost_ret (v := VA (negV (xk, xn))) (by simp [negV, results, Tryd.results10, go_sem, t0, t1]) rfl ⟨by rw [hzz], ?_⟩
    exact gset (gset (gtrans Bw g) (by simp) _) (by simp) _
  have q2 : (op == 12) = false := by simpa using h12
  by_cases h13 : op = 13
  · have hzz : z = notV (xk, xn) := by rw [HZ.out, if_neg h12, if_pos h13]
    have q3 : (op == 13) = true := by simpa using h13
    have c3 := refNot_any xk xn V
    clear h0 h12 h13
    go_wp2_with (first
      | (go_at_call 18; with_reducible (first | refine (c1 _).mono ?_ | refine (c2 _).mono ?_); rintro e u ⟨rfl, rfl⟩)
      | (go_at_call 28; with_reducible refine (c3).mono ?_; rintro e u ⟨rfl, g⟩; have R2 := R.keep g; have t0 := R2.at0; have t1 := R2.at1; have t2 := R2.free))
    refine bodyPost_ret (v := VA (notV (xk, xn))) (by simp [notV, results, Tryd.results10, go_sem, t0, t1]) rfl ⟨by rw [hzz], ?_⟩
    exact gset (gset (gtrans Bw g) (by simp) _) (by simp) _
  have q3 : (op == 13) = false := by simpa using h13
  by_cases hf : 5 ≤ op ∧ op ≤ 10
  · have hzz : z = foldV op (kn vs pi pj) := by rw [HZ.out, if_neg h12, if_neg h13, if_pos hf]
    have q5 : (5 : Int) ≤ op := hf.1
    have q6 : op ≤ 10 := hf.2
    have c3 := knownL_any (some ⟨b, off, none⟩) n cap pi pj vs V.drew (h.keep (Below.refl _ V).drew) hpi hpj (hl hf)
    have hln := hl hf
    have hkl : (kn vs pi pj).length ≤ 2147483647 := by have := knU_len vs pi (pj + 1 - pi); show (knU _ _ _).length ≤ _; omega
    clear h0 h12 h13 hf hl h f1 f2 f3 f4
    have sl := S5.lt
    go_upto_region 10 with (first | (go_at_call 18; with_reducible (first | refine (c1 _).mono ?_ | refine (c2 _).mono ?_); rintro e u ⟨rfl, rfl⟩))
    clear c1 c2
    go_region_with (first
      | (go_at_call 22; with_reducible refine c3.mono ?_; rintro e u ⟨ak, ck, rfl, hrow, g⟩; replace g := gtrans (Below.refl V.heap.size V).drew g; obtain ⟨hc, hf⟩ := bcell g; clear c3)
      | (go_at_call 29; with_reducible refine (rf.refFold_any op ak _ ck _ u hrow hkl).mono ?_; rintro e u2 ⟨rfl, g2⟩; have R2 := (R.keep g).keep g2; have t0 := R2.at0; have t1 := R2.at1; have t2 := R2.free))
    all_goals
      go_wp2
      refine bodyPost_ret (v := VA (foldV op (kn vs pi pj))) (by simp [foldV, results, Tryd.results10, go_sem, t0, t1]) rfl ⟨by rw [hzz], ?_⟩
      exact gset (gset (gtrans Bw (gtrans g g2)) (by simp) _) (by simp) _
  · have hzz : z = applyV op (xk, xn) (yk, yn) := by rw [HZ.out, if_neg h12, if_neg h13, if_neg hf]
    have c3 := (apply_is op (xk, xn) (yk, yn) bx by_).2 V.drew
    generalize applyV op (xk, xn) (yk, yn) = r at *
    obtain ⟨rk, rn⟩ := r
    have sl := S5.lt
    rcases (show ¬ 5 ≤ op ∨ (5 ≤ op ∧ ¬ op ≤ 10) by omega) with q5 | ⟨q5, q6⟩
    all_goals
      clear h0 h12 h13 hf hl h
      go_upto_region 11 with (first | (go_at_call 18; with_reducible (first | refine (c1 _).mono ?_ | refine (c2 _).mono ?_); rintro e u ⟨rfl, rfl⟩))
      clear c1 c2
      go_region_with (go_at_call 30; with_reducible refine c3.mono ?_; rintro e u ⟨rfl, g⟩; replace g := gtrans (Below.refl V.heap.size V).drew g; have R2 := R.keep g; have t0 := R2.at0; have t1 := R2.at1; have t2 := R2.free)
      all_goals
        go_wp2
        refine bodyPost_ret (v := VA (rk, rn)) (by simp [results, Tryd.results10, go_sem, t0, t1]) rfl ⟨by rw [hzz], ?_⟩
        exact gset (gset (gtrans Bw g) (by simp) _) (by simp) _


end Go.Proofs.YtompfpeankcfeaaDoor
