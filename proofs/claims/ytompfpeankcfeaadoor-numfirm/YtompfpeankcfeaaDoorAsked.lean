/- What the law's helpers asked and told come to: the same. -/
import Derived.Test.YtompfpeankcfeaaDoorApply2
import Derived.Test.YtompfpeankcfeaaDoorVals
import Derived.Test.YtompfpeankcfeaaDoorFold
import Derived.Test.YtompfpeankcfeaaDoorRefFoldN
namespace Go.Proofs.YtompfpeankcfeaaDoor
open Go.RowKit Go.BigFrame
set_option linter.unusedVariables false
set_option linter.unusedSimpArgs false

def negV (x : V2) : V2 := (opK true x.1 (0 - x.2), opN true x.1 (0 - x.2))
def notV (x : V2) : V2 := (vK (2 - rd x.1 x.2), vN (2 - rd x.1 x.2))
def foldV (op : Int) (zs : List Int) : V2 := (foldK op zs, foldN op zs)
def plc (i : Int) (n : Nat) : Nat := (i % (n : Int)).toNat
theorem plc_lt (i : Int) (n : Nat) (h : 0 < n) : plc i n < n := by
  unfold plc
  have h1 := Int.emod_nonneg i (show (n : Int) ≠ 0 by omega)
  have h2 := Int.emod_lt_of_pos i (show (0 : Int) < (n : Int) by omega)
  omega
theorem plc_eq (i : Int) (n : Nat) (h : 0 < n) : i % (n : Int) = (plc i n : Int) := by
  unfold plc
  have h1 := Int.emod_nonneg i (show (n : Int) ≠ 0 by omega)
  omega
def askedV (vs : List V2) (op i j : Int) (v : V2) : V2 :=
  if op = 0 ∨ vs.length = 0 then v else if op = 12 then negV (vs.getD (plc i vs.length) noV) else if op = 13 then notV (vs.getD (plc i vs.length) noV)
  else if 5 ≤ op ∧ op ≤ 10 then foldV op (kn vs (plc i vs.length) (plc j vs.length)) else applyV op (vs.getD (plc i vs.length) noV) (vs.getD (plc j vs.length) noV)
theorem foldV_fits (op : Int) (zs : List Int) (h : ∀ j, fitsB (zs.getD j 0) = true) (hl : zs.length ≤ 9223372036854775807) : fitsB (foldV op zs).2 = true := by
  show fitsB (foldN op zs) = true
  unfold foldN
  repeat' split
  all_goals first | exact fitN_fits _ | exact extU_fits _ _ h _ | exact h _ | (rw [fits_iff]; omega)
theorem askedV_fits (vs : List V2) (hf : ∀ j, fitsB (vs.getD j noV).2 = true) (hl : vs.length ≤ 9223372036854775806) (op i j : Int) (v : V2) (hv : fitsB v.2 = true) : fitsB (askedV vs op i j v).2 = true := by
  unfold askedV
  split
  · exact hv
  · rename_i h0
    split
    · exact opN_fits _ _ _
    split
    · exact vN_fits _
    split
    · refine foldV_fits _ _ (knU_fits vs hf _ _) ?_
      have h1 := knU_len vs (plc i vs.length) (plc j vs.length + 1 - plc i vs.length)
      have h2 := plc_lt j vs.length (by omega)
      show (knU _ _ _).length ≤ _
      omega
    · exact applyV_fits _ _ _

/-- A step in memory. -/
def Five (w : World) (b : Nat) (op i j : Int) (v : V2) : Prop := w.heap[b]? = some (.cells #[.int .i64 op, .int .i64 i, .int .i64 j, .bool v.1, .int .i64 v.2] 31 (0, 0))
theorem Five.lt {w : World} {b : Nat} {op i j : Int} {v : V2} (h : Five w b op i j v) : b < w.heap.size := lt_of_block h
theorem Five.keep {w u : World} {b : Nat} {op i j : Int} {v : V2} (h : Five w b op i j v) (G : Below w.heap.size w u) : Five u b op i j v := (G.block b h.lt).trans h
theorem Five.cells {w : World} {b : Nat} {op i j : Int} {v : V2} (h : Five w b op i j v) : w.cell? ⟨b, 0, none⟩ = some (.int .i64 op) ∧ w.cell? ⟨b, 1, none⟩ = some (.int .i64 i) ∧ w.cell? ⟨b, 2, none⟩ = some (.int .i64 j) ∧ w.cell? ⟨b, 3, none⟩ = some (.bool v.1) ∧ w.cell? ⟨b, 4, none⟩ = some (.int .i64 v.2) := by
  unfold Five at h
  refine ⟨?_, ?_, ?_, ?_, ?_⟩ <;> simp [World.cell?, h]

set_option maxRecDepth 100000 in
set_option maxHeartbeats 2000000 in
theorem asked_any (ao : Option Addr) (n cap : Nat) (vs : List V2) (op i j : Int) (v : V2) (w : World) (h : IsVals w ao n vs) (hi : fitsB i = true) (hj : fitsB j = true) (hl : 5 ≤ op ∧ op ≤ 10 → n ≤ 2147483647) (TS : Tabs w) (TN : TabN w) :
    Calls Tryd.prog 7 #[.slice ao n cap, .agg #[.int .i64 op, .int .i64 i, .int .i64 j, .bool v.1, .int .i64 v.2]] w fun e w' => e = .returned (VA (askedV vs op i j v)) ∧ Below w.heap.size w w' := by
  have hvl := h.1
  have hn := h.2.1
  have hfit := h.2.2.1
  obtain ⟨kv, nv⟩ := v
  obtain ⟨z, hzz⟩ : ∃ z, z = askedV vs op i j (kv, nv) := ⟨_, rfl⟩
  rw [← hzz]
  have HZ : Hid (z = askedV vs op i j (kv, nv)) := hzz
  clear hzz
  have Bw := galloc (galloc (Below.refl w.heap.size w) (.cells #[.int .i64 op, .int .i64 i, .int .i64 j, .bool kv, .int .i64 nv] 31)) (.cells #[.bool false, .int .i64 0] 25)
  have S5 : Five ((w.alloc (.cells #[.int .i64 op, .int .i64 i, .int .i64 j, .bool kv, .int .i64 nv] 31)).alloc (.cells #[.bool false, .int .i64 0] 25)) w.heap.size op i j (kv, nv) := by
    refine (Below.heap_alloc _ _ _ (by simp)).trans ?_
    show (w.heap.push _)[w.heap.size]? = _
    simp
  have R := Two.new (w.alloc (.cells #[.int .i64 op, .int .i64 i, .int .i64 j, .bool kv, .int .i64 nv] 31)) (.bool false) (.int .i64 0) 25
  have hz : (w.alloc (.cells #[.int .i64 op, .int .i64 i, .int .i64 j, .bool kv, .int .i64 nv] 31)).heap.size = w.heap.size + 1 := by simp
  rw [hz] at R
  replace h := h.keep Bw
  go_enter Tryd.func7, Tryd.ntmps7
  generalize hV : (w.alloc (.cells #[.int .i64 op, .int .i64 i, .int .i64 j, .bool kv, .int .i64 nv] 31)).alloc (.cells #[.bool false, .int .i64 0] 25) = V at Bw S5 R h
  go_upto_region 1 with fail
  try rw [hV]
  clear hV hz
  obtain ⟨s0, s1, s2, s3, s4⟩ := S5.cells
  have r0 := R.at0
  have r1 := R.at1
  have r2 := R.free
  by_cases h0 : op = 0
  · have q0 : (op == 0) = true := by simpa using h0
    have hzz : z = (kv, nv) := by rw [HZ.out]; unfold askedV; rw [if_pos (.inl h0)]
    subst hzz
    clear h0
    go_wp2
    refine bodyPost_ret (v := .agg #[.bool kv, .int .i64 nv]) (by simp [results, Tryd.results7, go_sem, r0, r1]) rfl ⟨rfl, ?_⟩
    exact gset (gset Bw (by simp) _) (by simp) _
  have q0 : (op == 0) = false := by simpa using h0
  by_cases hn0 : n = 0
  · have q1 : ((n : Int) == 0) = true := by simp; omega
    have hzz : z = (kv, nv) := by rw [HZ.out]; unfold askedV; rw [if_pos (.inr (by omega))]
    subst hzz
    clear h0
    go_wp2
    refine bodyPost_ret (v := .agg #[.bool kv, .int .i64 nv]) (by simp [results, Tryd.results7, go_sem, r0, r1]) rfl ⟨rfl, ?_⟩
    exact gset (gset Bw (by simp) _) (by simp) _
  have q1 : ((n : Int) == 0) = false := by simp; omega
  have hzz : z = _ := HZ.out.trans (by unfold askedV; rw [if_neg (by omega), hvl])
  have HZ : Hid (z = _) := hzz
  clear hzz
  have c1 : ∀ w, Calls Tryd.prog 18 #[.int .i64 i, .int .i64 (n : Int)] w fun e w' => e = .returned (.int .i64 (plc i n : Int)) ∧ w = w' := fun w => by rw [← plc_eq i n (by omega)]; exact place_any i n w (by omega) (by omega) hi
  have c2 : ∀ w, Calls Tryd.prog 18 #[.int .i64 j, .int .i64 (n : Int)] w fun e w' => e = .returned (.int .i64 (plc j n : Int)) ∧ w = w' := fun w => by rw [← plc_eq j n (by omega)]; exact place_any j n w (by omega) (by omega) hj
  have hpi := plc_lt i n (by omega)
  have hpj := plc_lt j n (by omega)
  generalize plc i n = pi at *
  generalize plc j n = pj at *
  have h' := h
  obtain ⟨_, _, _, q4⟩ := h'
  rcases q4 with q4 | ⟨b, off, eb, hb, hcb⟩
  · exact absurd q4 hn0
  subst eb
  obtain ⟨f1, f2⟩ := hcb pi hpi
  obtain ⟨f3, f4⟩ := hcb pj hpj
  have bx := hfit pi
  have by_ := hfit pj
  obtain ⟨x, hx⟩ : ∃ x, x = vs.getD pi noV := ⟨_, rfl⟩
  obtain ⟨y, hy⟩ : ∃ y, y = vs.getD pj noV := ⟨_, rfl⟩
  rw [← hx] at f1 f2 bx
  rw [← hy] at f3 f4 by_
  have HZ : Hid (z = if op = 12 then negV x else if op = 13 then notV x else if 5 ≤ op ∧ op ≤ 10 then foldV op (kn vs pi pj) else applyV op x y) := by show _ = _; rw [HZ.out, hx, hy]
  clear hcb hx hy hfit
  obtain ⟨xk, xn⟩ := x
  obtain ⟨yk, yn⟩ := y
  have bn : w.heap.size + 1 < V.heap.size := R.lt
  by_cases h12 : op = 12
  · have hzz : z = negV (xk, xn) := by rw [HZ.out, if_pos h12]
    have q2 : (op == 12) = true := by simpa using h12
    have c3 := neg_any xk xn V bx
    clear h0 h12
    go_wp2_with (first
      | (go_at_call 18; with_reducible (first | refine (c1 _).mono ?_ | refine (c2 _).mono ?_); rintro e u ⟨rfl, rfl⟩)
      | (go_at_call 19; with_reducible refine (c3).mono ?_; rintro e u ⟨rfl, g⟩; have R2 := R.keep g; have t0 := R2.at0; have t1 := R2.at1; have t2 := R2.free))
    refine bodyPost_ret (v := VA (negV (xk, xn))) (by simp [negV, results, Tryd.results7, go_sem, t0, t1]) rfl ⟨by rw [hzz], ?_⟩
    exact gset (gset (gtrans Bw g) (by simp) _) (by simp) _
  have q2 : (op == 12) = false := by simpa using h12
  by_cases h13 : op = 13
  · have hzz : z = notV (xk, xn) := by rw [HZ.out, if_neg h12, if_pos h13]
    have q3 : (op == 13) = true := by simpa using h13
    have c3 := not_any xk xn V (TN.keep Bw)
    clear h0 h12 h13
    go_wp2_with (first
      | (go_at_call 18; with_reducible (first | refine (c1 _).mono ?_ | refine (c2 _).mono ?_); rintro e u ⟨rfl, rfl⟩)
      | (go_at_call 20; with_reducible refine (c3).mono ?_; rintro e u ⟨rfl, g⟩; have R2 := R.keep g; have t0 := R2.at0; have t1 := R2.at1; have t2 := R2.free))
    refine bodyPost_ret (v := VA (notV (xk, xn))) (by simp [notV, results, Tryd.results7, go_sem, t0, t1]) rfl ⟨by rw [hzz], ?_⟩
    exact gset (gset (gtrans Bw g) (by simp) _) (by simp) _
  have q3 : (op == 13) = false := by simpa using h13
  by_cases hf : 5 ≤ op ∧ op ≤ 10
  · have hzz : z = foldV op (kn vs pi pj) := by rw [HZ.out, if_neg h12, if_neg h13, if_pos hf]
    have q5 : (5 : Int) ≤ op := hf.1
    have q6 : op ≤ 10 := hf.2
    have c3 := knownL_any (some ⟨b, off, none⟩) n cap pi pj vs V.drew (h.keep (Below.refl _ V).drew) hpi hpj (hl hf)
    have hln := hl hf
    have hkl : (kn vs pi pj).length ≤ 2147483647 := by have := knU_len vs pi (pj + 1 - pi); show (knU _ _ _).length ≤ _; omega
    clear h0 h12 h13 hf hl h f1 f2 f3 f4
    have sl := S5.lt
    go_upto_region 10 with (first | (go_at_call 18; with_reducible (first | refine (c1 _).mono ?_ | refine (c2 _).mono ?_); rintro e u ⟨rfl, rfl⟩))
    clear c1 c2
    go_region_with (first
      | (go_at_call 22; with_reducible refine c3.mono ?_; rintro e u ⟨ak, ck, rfl, hrow, g⟩; replace g := gtrans (Below.refl V.heap.size V).drew g; obtain ⟨hc, hf⟩ := bcell g; clear c3)
      | (go_at_call 21; with_reducible refine (fold_any op ak _ ck _ u hrow).mono ?_; rintro e u2 ⟨rfl, g2⟩; have R2 := (R.keep g).keep g2; have t0 := R2.at0; have t1 := R2.at1; have t2 := R2.free))
    all_goals
      go_wp2
      refine bodyPost_ret (v := VA (foldV op (kn vs pi pj))) (by simp [foldV, results, Tryd.results7, go_sem, t0, t1]) rfl ⟨by rw [hzz], ?_⟩
      exact gset (gset (gtrans Bw (gtrans g g2)) (by simp) _) (by simp) _
  · have hzz : z = applyV op (xk, xn) (yk, yn) := by rw [HZ.out, if_neg h12, if_neg h13, if_neg hf]
    have c3 := (apply_is op (xk, xn) (yk, yn) bx by_).1 V.drew ((TS.keep Bw).keep (Below.refl _ V).drew)
    generalize applyV op (xk, xn) (yk, yn) = r at *
    obtain ⟨rk, rn⟩ := r
    have sl := S5.lt
    rcases (show ¬ 5 ≤ op ∨ (5 ≤ op ∧ ¬ op ≤ 10) by omega) with q5 | ⟨q5, q6⟩
    all_goals
      clear h0 h12 h13 hf hl h
      go_upto_region 11 with (first | (go_at_call 18; with_reducible (first | refine (c1 _).mono ?_ | refine (c2 _).mono ?_); rintro e u ⟨rfl, rfl⟩))
      clear c1 c2
      go_region_with (go_at_call 5; with_reducible refine c3.mono ?_; rintro e u ⟨rfl, g⟩; replace g := gtrans (Below.refl V.heap.size V).drew g; have R2 := R.keep g; have t0 := R2.at0; have t1 := R2.at1; have t2 := R2.free)
      all_goals
        go_wp2
        refine bodyPost_ret (v := VA (rk, rn)) (by simp [results, Tryd.results7, go_sem, t0, t1]) rfl ⟨by rw [hzz], ?_⟩
        exact gset (gset (gtrans Bw g) (by simp) _) (by simp) _


end Go.Proofs.YtompfpeankcfeaaDoor
