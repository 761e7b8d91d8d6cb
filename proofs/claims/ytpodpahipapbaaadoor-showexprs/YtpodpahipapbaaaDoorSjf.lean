/- The document's answer for one node with two operands. -/
import Derived.Test.YtpodpahipapbaaaDoorSje
namespace Go.Proofs.YtpodpahipapbaaaDoor
open Go.RowKit Go.BigFrame Go.Shelf Go.Proofs.YtpodpahipapbaaaDoor.Ev
set_option linter.unusedVariables false
set_option linter.unusedSimpArgs false

def bnK (op : Int) : Int := if op ≤ 24 then 11 + (op - 14) else if op = 25 then 41 else 42
theorem bn_sp (j : Nat) (h : j < 13) : spS (tkK (bnK ((j : Int) + 14))) = os j := by
  rcases (show j = 0 ∨ j = 1 ∨ j = 2 ∨ j = 3 ∨ j = 4 ∨ j = 5 ∨ j = 6 ∨ j = 7 ∨ j = 8 ∨ j = 9 ∨ j = 10 ∨ j = 11 ∨ j = 12 by omega) with rfl | rfl | rfl | rfl | rfl | rfl | rfl | rfl | rfl | rfl | rfl | rfl | rfl
  all_goals kernel_rfl
theorem os_size (j : Nat) (h : j < 13) : (os j).size ≤ 3 := by
  rcases (show j = 0 ∨ j = 1 ∨ j = 2 ∨ j = 3 ∨ j = 4 ∨ j = 5 ∨ j = 6 ∨ j = 7 ∨ j = 8 ∨ j = 9 ∨ j = 10 ∨ j = 11 ∨ j = 12 by omega) with rfl | rfl | rfl | rfl | rfl | rfl | rfl | rfl | rfl | rfl | rfl | rfl | rfl
  all_goals decide
theorem jT_bin (k : Int) (a b : Pce) (ha : a.ts ≠ []) (hb : b.ts ≠ []) : jT (glueP [a, fixP [k], b]).ts = jT a.ts ++ blS ++ spS (tkK k) ++ blS ++ jT b.ts := by
  rw [(glue3 _ _ _).1, jT_app _ _ (by simp [ha]) hb, jT_app _ _ ha (by simp [fixP, fxL]), show (fixP [k]).ts = [tkK k] from rfl, jT_one]
theorem bin_nums (k : Int) (a b : Pce) (ha : 0 ≤ a.d) : ((glueP [a, fixP [k], b]).ts.length : Int) = (a.ts.length : Int) + 1 + (b.ts.length : Int) ∧ (glueP [a, fixP [k], b]).d = if a.d < b.d then b.d else a.d := by
  rw [(glue3 _ _ _).1, (glue3 _ _ _).2, (fix_d [k]).1]
  refine ⟨?_, ?_⟩
  · rw [List.length_append, List.length_append, (fix_d [k]).2]
    simp
  · unfold maxI
    repeat' split
    all_goals omega
set_option maxRecDepth 100000 in
set_option maxHeartbeats 8000000 in
theorem told_bin (yn : Int) (yv yx : ByteArray) (yl yr : Int) (j : Nat) (hj : j < 13) (xa xb : ByteArray) (ta da tb db o p : Int) (x y : Pce) (hx : x.ts ≠ []) (hy : y.ts ≠ []) (hxl : x.ts.length ≤ 2000000) (hyl : y.ts.length ≤ 2000000) (hxd : 0 ≤ x.d ∧ x.d ≤ 2000000) (hyd : 0 ≤ y.d ∧ y.d ≤ 2000000) (hxs : (jT x.ts).size ≤ 2000000000) (hys : (jT y.ts).size ≤ 2000000000) (L R : Int) (hL : L = if lvl ((j : Int) + 14) = 4 then 5 else lvl ((j : Int) + 14)) (hR : R = lvl ((j : Int) + 14) + 1)
    (cX : ∀ u, Calls Tryd.prog 35 #[.agg #[.string xa, .int .i64 ta, .int .i64 da], .int .i64 o, .int .i64 L] u fun e w' => e = .returned (.agg (tdA x)) ∧ Below u.heap.size u w')
    (cY : ∀ u, Calls Tryd.prog 35 #[.agg #[.string xb, .int .i64 tb, .int .i64 db], .int .i64 p, .int .i64 R] u fun e w' => e = .returned (.agg (tdA y)) ∧ Below u.heap.size u w') (w : World) (C : OsAt w) :
    Calls Tryd.prog 18 #[.agg (ndA ⟨(j : Int) + 14, yn, yv, yx, yl, yr⟩), .agg #[.string xa, .int .i64 ta, .int .i64 da], .int .i64 o, .agg #[.string xb, .int .i64 tb, .int .i64 db], .int .i64 p] w fun e w' => e = .returned (.agg (tdA (glueP [x, fixP [bnK ((j : Int) + 14)], y]))) ∧ Below w.heap.size w w' := by
  have N0 := (((NlAt.new w ⟨(j : Int) + 14, yn, yv, yx, yl, yr⟩).keep (galloc (Below.refl _ _) (.cells #[.string xa, .int .i64 ta, .int .i64 da] 39))).keep (galloc (Below.refl _ _) (.cells #[.string xb, .int .i64 tb, .int .i64 db] 39))).keep (galloc (Below.refl _ _) (.cells #[.string ⟨#[]⟩, .int .i64 0, .int .i64 0] 39))
  have B0 := galloc (galloc (galloc (galloc (Below.refl w.heap.size w) (.cells (ndA ⟨(j : Int) + 14, yn, yv, yx, yl, yr⟩) 32)) (.cells #[.string xa, .int .i64 ta, .int .i64 da] 39)) (.cells #[.string xb, .int .i64 tb, .int .i64 db] 39)) (.cells #[.string ⟨#[]⟩, .int .i64 0, .int .i64 0] 39)
  have R0 := Tri.new (((w.alloc (.cells (ndA ⟨(j : Int) + 14, yn, yv, yx, yl, yr⟩) 32)).alloc (.cells #[.string xa, .int .i64 ta, .int .i64 da] 39)).alloc (.cells #[.string xb, .int .i64 tb, .int .i64 db] 39)) (.string ⟨#[]⟩) (.int .i64 0) (.int .i64 0) 39
  rw [show (((w.alloc (.cells (ndA ⟨(j : Int) + 14, yn, yv, yx, yl, yr⟩) 32)).alloc (.cells #[.string xa, .int .i64 ta, .int .i64 da] 39)).alloc (.cells #[.string xb, .int .i64 tb, .int .i64 db] 39)).heap.size = w.heap.size + 1 + 1 + 1 by simp] at R0
  have A0 := ((Tri.new (w.alloc (.cells (ndA ⟨(j : Int) + 14, yn, yv, yx, yl, yr⟩) 32)) (.string xa) (.int .i64 ta) (.int .i64 da) 39).alloc (.cells #[.string xb, .int .i64 tb, .int .i64 db] 39)).alloc (.cells #[.string ⟨#[]⟩, .int .i64 0, .int .i64 0] 39)
  rw [show (w.alloc (.cells (ndA ⟨(j : Int) + 14, yn, yv, yx, yl, yr⟩) 32)).heap.size = w.heap.size + 1 by simp] at A0
  have D0 := (Tri.new ((w.alloc (.cells (ndA ⟨(j : Int) + 14, yn, yv, yx, yl, yr⟩) 32)).alloc (.cells #[.string xa, .int .i64 ta, .int .i64 da] 39)) (.string xb) (.int .i64 tb) (.int .i64 db) 39).alloc (.cells #[.string ⟨#[]⟩, .int .i64 0, .int .i64 0] 39)
  rw [show ((w.alloc (.cells (ndA ⟨(j : Int) + 14, yn, yv, yx, yl, yr⟩) 32)).alloc (.cells #[.string xa, .int .i64 ta, .int .i64 da] 39)).heap.size = w.heap.size + 1 + 1 by simp] at D0
  have C0 := C.keep B0
  obtain ⟨q, hq⟩ : ∃ q, tdA (glueP [x, fixP [bnK ((j : Int) + 14)], y]) = q := ⟨_, rfl⟩
  rw [hq]
  have HT : Hid (q = #[.string (jT x.ts ++ ⟨#[32]⟩ ++ os j ++ ⟨#[32]⟩ ++ jT y.ts), .int .i64 ((x.ts.length : Int) + 1 + (y.ts.length : Int)), .int .i64 (if x.d < y.d then y.d else x.d)]) := by
    show q = _
    rw [← hq]
    unfold tdA
    rw [jT_bin _ x y hx hy, bn_sp j hj, (bin_nums _ x y hxd.1).1, (bin_nums _ x y hxd.1).2]
    rfl
  clear hq
  unfold tdA at cX cY
  obtain ⟨xx, hxx⟩ : ∃ xx, jT x.ts = xx := ⟨_, rfl⟩
  obtain ⟨xt, hxt⟩ : ∃ xt : Nat, x.ts.length = xt := ⟨_, rfl⟩
  obtain ⟨xd, hxd2⟩ : ∃ xd, x.d = xd := ⟨_, rfl⟩
  obtain ⟨zx, hzx⟩ : ∃ zx, jT y.ts = zx := ⟨_, rfl⟩
  obtain ⟨zt, hzt⟩ : ∃ zt : Nat, y.ts.length = zt := ⟨_, rfl⟩
  obtain ⟨zd, hzd2⟩ : ∃ zd, y.d = zd := ⟨_, rfl⟩
  rw [hxx, hxt, hxd2] at cX
  rw [hzx, hzt, hzd2] at cY
  rw [hxx, hxt, hxd2, hzx, hzt, hzd2] at HT
  rw [hxt] at hxl
  rw [hzt] at hyl
  rw [hxd2] at hxd
  rw [hzd2] at hyd
  rw [hxx] at hxs
  rw [hzx] at hys
  obtain ⟨hxd0, hxd1⟩ := hxd
  obtain ⟨hyd0, hyd1⟩ := hyd
  clear hxx hxt hxd2 hzx hzt hzd2 hx hy
  have cV := refLevel_any ((j : Int) + 14)
  obtain ⟨lv, hlv⟩ : ∃ lv, lvl ((j : Int) + 14) = lv := ⟨_, rfl⟩
  have hlb : 1 ≤ lv ∧ lv ≤ 8 := by
    rw [← hlv]
    unfold lvl
    repeat' split
    all_goals omega
  obtain ⟨hl0, hl1⟩ := hlb
  rw [hlv] at hL hR cV
  clear hlv
  have b1 : ((j : Int) + 14 == 1) = false := beq_eq_false_iff_ne.2 (by omega)
  have b2 : ((j : Int) + 14 == 2) = false := beq_eq_false_iff_ne.2 (by omega)
  have b3 : ((j : Int) + 14 == 3) = false := beq_eq_false_iff_ne.2 (by omega)
  have b4 : ((j : Int) + 14 == 4) = false := beq_eq_false_iff_ne.2 (by omega)
  have b5 : ((j : Int) + 14 == 5) = false := beq_eq_false_iff_ne.2 (by omega)
  have b6 : ((j : Int) + 14 == 12) = false := beq_eq_false_iff_ne.2 (by omega)
  have b7 : ((j : Int) + 14 == 13) = false := beq_eq_false_iff_ne.2 (by omega)
  have b8 : decide ((j : Int) + 14 < 14) = false := decide_eq_false (by omega)
  have hw : IntKind.i64.wrap ((j : Int) + 14 - 14) = (j : Int) := by rw [show (j : Int) + 14 - 14 = (j : Int) by omega, IntKind.wrap_i64]; omega
  have hw2 : IntKind.i64.wrap (lv + 1) = lv + 1 := by rw [IntKind.wrap_i64]; omega
  have hos := os_size j hj
  have hj0 : (0 : Int) ≤ (j : Int) := by omega
  have hj1 : (j : Int) < 13 := by omega
  go_enter Tryd.func18, Tryd.ntmps18
  go_upto_region 1 with fail
  generalize (((w.alloc (.cells (ndA ⟨(j : Int) + 14, yn, yv, yx, yl, yr⟩) 32)).alloc (.cells #[.string xa, .int .i64 ta, .int .i64 da] 39)).alloc (.cells #[.string xb, .int .i64 tb, .int .i64 db] 39)).alloc (.cells #[.string ⟨#[]⟩, .int .i64 0, .int .i64 0] 39) = V at *
  obtain ⟨a0, a1, a2, a3, a4, a5⟩ := N0.at
  dsimp only at a0 a1 a2 a3 a4 a5
  obtain ⟨r0, r1, r2⟩ := R0.at
  obtain ⟨g0, g1, g2⟩ := A0.at
  have hw3 : IntKind.i64.wrap ((xt : Int) + 1) = (xt : Int) + 1 := by rw [IntKind.wrap_i64]; omega
  have hw4 : IntKind.i64.wrap ((xt : Int) + 1 + (zt : Int)) = (xt : Int) + 1 + (zt : Int) := by rw [IntKind.wrap_i64]; omega
  by_cases hdd : xd < zd
  · rw [if_pos hdd] at HT
    by_cases h4 : lv = 4
    · rw [if_pos h4] at hL
      subst hL hR h4
      rw [show (4 : Int) + 1 = 5 from rfl] at cY
      go_wp2_with (first | (go_at_call 36; (with_reducible refine (cV _).mono ?_); rintro e u ⟨rfl, rfl⟩) | (go_at_call 35; (with_reducible refine (cX _).mono ?_); rintro e u1 ⟨rfl, G1⟩; have X1 := Tri.new u1 (.string xx) (.int .i64 xt) (.int .i64 xd) 39; have G2 := galloc G1 (.cells #[.string xx, .int .i64 xt, .int .i64 xd] 39); have D1 := D0.keep G2; obtain ⟨d0, d1, d2⟩ := D1.at) | (go_at_call 35; (with_reducible refine (cY _).mono ?_); rintro e u2 ⟨rfl, G3⟩; have X2 := (X1.keep G3).alloc (.cells #[.string zx, .int .i64 zt, .int .i64 zd] 39); have Z2 := Tri.new u2 (.string zx) (.int .i64 zt) (.int .i64 zd) 39; obtain ⟨e0, e1, e2⟩ := X2.at; obtain ⟨z0, z1, z2⟩ := Z2.at))
      have GY := galloc (gtrans G2 G3) (.cells #[.string zx, .int .i64 zt, .int .i64 zd] 39)
      have RY := R0.keep GY
      have NY := N0.keep GY
      have CY := C0.keep GY
      clear cX cY cV d0 d1 d2 D1 r0 r1 r2 g0 g1 g2 a0 a1 a2 a3 a4 a5
      generalize u2.alloc (.cells #[.string zx, .int .i64 zt, .int .i64 zd] 39) = Y at *
      have a0 := NY.at.1
      dsimp only at a0
      have k0 := CY.2 j hj
      have hne : Nonempty (Ext Y) := ⟨⟨_, Below.refl _ _⟩⟩
      have p0 := fun z : Ext Y => (z.cell _ _ (lt_of_cell a0)).trans a0
      have p1 := fun z : Ext Y => (z.cell _ _ (lt_of_cell e0)).trans e0
      have p2 := fun z : Ext Y => (z.cell _ _ (lt_of_cell e1)).trans e1
      have p3 := fun z : Ext Y => (z.cell _ _ (lt_of_cell z0)).trans z0
      have p4 := fun z : Ext Y => (z.cell _ _ (lt_of_cell z1)).trans z1
      have pk := fun z : Ext Y => (z.cell _ _ (lt_of_cell k0)).trans k0
      refine wp_region_ext_tail 21 (by kernel_rfl) (by kernel_rfl) ?_
      simp only [List.take_succ_cons, List.take_zero, List.drop_succ_cons, List.drop_zero]
      repeat (go_big_quiet_step (fail))
      refine wpQuiet_nil ?_
      intro _ hw'
      obtain ⟨nx2, hw''⟩ := hw'
      subst hw''
      have R3 := RY.keep nx2.h
      obtain ⟨r3, r4, r5⟩ := R3.at
      have f3 := R3.free 0
      have f4 := R3.free 1
      have f5 := R3.free 2
      go_wp2
      obtain ⟨q1, q2⟩ := tri_end (w := w) (a := .string (xx ++ ⟨#[32]⟩ ++ os j ++ ⟨#[32]⟩ ++ zx)) (b := .int .i64 ((xt : Int) + 1 + (zt : Int))) (c := .int .i64 zd) (by omega) R3 (gtrans (gtrans B0 GY) nx2.h)
      obtain ⟨s3, s4, s5⟩ := q2.at
      exact bodyPost_ret (v := .agg #[.string (xx ++ ⟨#[32]⟩ ++ os j ++ ⟨#[32]⟩ ++ zx), .int .i64 ((xt : Int) + 1 + (zt : Int)), .int .i64 zd]) (by simp [results, Tryd.results18, go_sem, s3, s4, s5]) rfl ⟨by rw [HT.out], q1⟩
    · rw [if_neg h4] at hL
      have h4b : (lv == 4) = false := beq_eq_false_iff_ne.2 h4
      subst hL hR
      go_wp2_with (first | (go_at_call 36; (with_reducible refine (cV _).mono ?_); rintro e u ⟨rfl, rfl⟩) | (go_at_call 35; (with_reducible refine (cX _).mono ?_); rintro e u1 ⟨rfl, G1⟩; have X1 := Tri.new u1 (.string xx) (.int .i64 xt) (.int .i64 xd) 39; have G2 := galloc G1 (.cells #[.string xx, .int .i64 xt, .int .i64 xd] 39); have D1 := D0.keep G2; obtain ⟨d0, d1, d2⟩ := D1.at) | (go_at_call 35; (with_reducible refine (cY _).mono ?_); rintro e u2 ⟨rfl, G3⟩; have X2 := (X1.keep G3).alloc (.cells #[.string zx, .int .i64 zt, .int .i64 zd] 39); have Z2 := Tri.new u2 (.string zx) (.int .i64 zt) (.int .i64 zd) 39; obtain ⟨e0, e1, e2⟩ := X2.at; obtain ⟨z0, z1, z2⟩ := Z2.at))
      have GY := galloc (gtrans G2 G3) (.cells #[.string zx, .int .i64 zt, .int .i64 zd] 39)
      have RY := R0.keep GY
      have NY := N0.keep GY
      have CY := C0.keep GY
      clear cX cY cV d0 d1 d2 D1 r0 r1 r2 g0 g1 g2 a0 a1 a2 a3 a4 a5
      generalize u2.alloc (.cells #[.string zx, .int .i64 zt, .int .i64 zd] 39) = Y at *
      have a0 := NY.at.1
      dsimp only at a0
      have k0 := CY.2 j hj
      have hne : Nonempty (Ext Y) := ⟨⟨_, Below.refl _ _⟩⟩
      have p0 := fun z : Ext Y => (z.cell _ _ (lt_of_cell a0)).trans a0
      have p1 := fun z : Ext Y => (z.cell _ _ (lt_of_cell e0)).trans e0
      have p2 := fun z : Ext Y => (z.cell _ _ (lt_of_cell e1)).trans e1
      have p3 := fun z : Ext Y => (z.cell _ _ (lt_of_cell z0)).trans z0
      have p4 := fun z : Ext Y => (z.cell _ _ (lt_of_cell z1)).trans z1
      have pk := fun z : Ext Y => (z.cell _ _ (lt_of_cell k0)).trans k0
      refine wp_region_ext_tail 21 (by kernel_rfl) (by kernel_rfl) ?_
      simp only [List.take_succ_cons, List.take_zero, List.drop_succ_cons, List.drop_zero]
      repeat (go_big_quiet_step (fail))
      refine wpQuiet_nil ?_
      intro _ hw'
      obtain ⟨nx2, hw''⟩ := hw'
      subst hw''
      have R3 := RY.keep nx2.h
      obtain ⟨r3, r4, r5⟩ := R3.at
      have f3 := R3.free 0
      have f4 := R3.free 1
      have f5 := R3.free 2
      go_wp2
      obtain ⟨q1, q2⟩ := tri_end (w := w) (a := .string (xx ++ ⟨#[32]⟩ ++ os j ++ ⟨#[32]⟩ ++ zx)) (b := .int .i64 ((xt : Int) + 1 + (zt : Int))) (c := .int .i64 zd) (by omega) R3 (gtrans (gtrans B0 GY) nx2.h)
      obtain ⟨s3, s4, s5⟩ := q2.at
      exact bodyPost_ret (v := .agg #[.string (xx ++ ⟨#[32]⟩ ++ os j ++ ⟨#[32]⟩ ++ zx), .int .i64 ((xt : Int) + 1 + (zt : Int)), .int .i64 zd]) (by simp [results, Tryd.results18, go_sem, s3, s4, s5]) rfl ⟨by rw [HT.out], q1⟩
  · rw [if_neg hdd] at HT
    have hdb : decide (xd < zd) = false := decide_eq_false hdd
    by_cases h4 : lv = 4
    · rw [if_pos h4] at hL
      subst hL hR h4
      rw [show (4 : Int) + 1 = 5 from rfl] at cY
      go_wp2_with (first | (go_at_call 36; (with_reducible refine (cV _).mono ?_); rintro e u ⟨rfl, rfl⟩) | (go_at_call 35; (with_reducible refine (cX _).mono ?_); rintro e u1 ⟨rfl, G1⟩; have X1 := Tri.new u1 (.string xx) (.int .i64 xt) (.int .i64 xd) 39; have G2 := galloc G1 (.cells #[.string xx, .int .i64 xt, .int .i64 xd] 39); have D1 := D0.keep G2; obtain ⟨d0, d1, d2⟩ := D1.at) | (go_at_call 35; (with_reducible refine (cY _).mono ?_); rintro e u2 ⟨rfl, G3⟩; have X2 := (X1.keep G3).alloc (.cells #[.string zx, .int .i64 zt, .int .i64 zd] 39); have Z2 := Tri.new u2 (.string zx) (.int .i64 zt) (.int .i64 zd) 39; obtain ⟨e0, e1, e2⟩ := X2.at; obtain ⟨z0, z1, z2⟩ := Z2.at))
      have GY := galloc (gtrans G2 G3) (.cells #[.string zx, .int .i64 zt, .int .i64 zd] 39)
      have RY := R0.keep GY
      have NY := N0.keep GY
      have CY := C0.keep GY
      clear cX cY cV d0 d1 d2 D1 r0 r1 r2 g0 g1 g2 a0 a1 a2 a3 a4 a5
      generalize u2.alloc (.cells #[.string zx, .int .i64 zt, .int .i64 zd] 39) = Y at *
      have a0 := NY.at.1
      dsimp only at a0
      have k0 := CY.2 j hj
      have hne : Nonempty (Ext Y) := ⟨⟨_, Below.refl _ _⟩⟩
      have p0 := fun z : Ext Y => (z.cell _ _ (lt_of_cell a0)).trans a0
      have p1 := fun z : Ext Y => (z.cell _ _ (lt_of_cell e0)).trans e0
      have p2 := fun z : Ext Y => (z.cell _ _ (lt_of_cell e1)).trans e1
      have p3 := fun z : Ext Y => (z.cell _ _ (lt_of_cell z0)).trans z0
      have p4 := fun z : Ext Y => (z.cell _ _ (lt_of_cell z1)).trans z1
      have pk := fun z : Ext Y => (z.cell _ _ (lt_of_cell k0)).trans k0
      refine wp_region_ext_tail 21 (by kernel_rfl) (by kernel_rfl) ?_
      simp only [List.take_succ_cons, List.take_zero, List.drop_succ_cons, List.drop_zero]
      repeat (go_big_quiet_step (fail))
      refine wpQuiet_nil ?_
      intro _ hw'
      obtain ⟨nx2, hw''⟩ := hw'
      subst hw''
      have R3 := RY.keep nx2.h
      obtain ⟨r3, r4, r5⟩ := R3.at
      have f3 := R3.free 0
      have f4 := R3.free 1
      have f5 := R3.free 2
      go_wp2
      obtain ⟨q1, q2⟩ := tri_end (w := w) (a := .string (xx ++ ⟨#[32]⟩ ++ os j ++ ⟨#[32]⟩ ++ zx)) (b := .int .i64 ((xt : Int) + 1 + (zt : Int))) (c := .int .i64 xd) (by omega) R3 (gtrans (gtrans B0 GY) nx2.h)
      obtain ⟨s3, s4, s5⟩ := q2.at
      exact bodyPost_ret (v := .agg #[.string (xx ++ ⟨#[32]⟩ ++ os j ++ ⟨#[32]⟩ ++ zx), .int .i64 ((xt : Int) + 1 + (zt : Int)), .int .i64 xd]) (by simp [results, Tryd.results18, go_sem, s3, s4, s5]) rfl ⟨by rw [HT.out], q1⟩
    · rw [if_neg h4] at hL
      have h4b : (lv == 4) = false := beq_eq_false_iff_ne.2 h4
      subst hL hR
      go_wp2_with (first | (go_at_call 36; (with_reducible refine (cV _).mono ?_); rintro e u ⟨rfl, rfl⟩) | (go_at_call 35; (with_reducible refine (cX _).mono ?_); rintro e u1 ⟨rfl, G1⟩; have X1 := Tri.new u1 (.string xx) (.int .i64 xt) (.int .i64 xd) 39; have G2 := galloc G1 (.cells #[.string xx, .int .i64 xt, .int .i64 xd] 39); have D1 := D0.keep G2; obtain ⟨d0, d1, d2⟩ := D1.at) | (go_at_call 35; (with_reducible refine (cY _).mono ?_); rintro e u2 ⟨rfl, G3⟩; have X2 := (X1.keep G3).alloc (.cells #[.string zx, .int .i64 zt, .int .i64 zd] 39); have Z2 := Tri.new u2 (.string zx) (.int .i64 zt) (.int .i64 zd) 39; obtain ⟨e0, e1, e2⟩ := X2.at; obtain ⟨z0, z1, z2⟩ := Z2.at))
      have GY := galloc (gtrans G2 G3) (.cells #[.string zx, .int .i64 zt, .int .i64 zd] 39)
      have RY := R0.keep GY
      have NY := N0.keep GY
      have CY := C0.keep GY
      clear cX cY cV d0 d1 d2 D1 r0 r1 r2 g0 g1 g2 a0 a1 a2 a3 a4 a5
      generalize u2.alloc (.cells #[.string zx, .int .i64 zt, .int .i64 zd] 39) = Y at *
      have a0 := NY.at.1
      dsimp only at a0
      have k0 := CY.2 j hj
      have hne : Nonempty (Ext Y) := ⟨⟨_, Below.refl _ _⟩⟩
      have p0 := fun z : Ext Y => (z.cell _ _ (lt_of_cell a0)).trans a0
      have p1 := fun z : Ext Y => (z.cell _ _ (lt_of_cell e0)).trans e0
      have p2 := fun z : Ext Y => (z.cell _ _ (lt_of_cell e1)).trans e1
      have p3 := fun z : Ext Y => (z.cell _ _ (lt_of_cell z0)).trans z0
      have p4 := fun z : Ext Y => (z.cell _ _ (lt_of_cell z1)).trans z1
      have pk := fun z : Ext Y => (z.cell _ _ (lt_of_cell k0)).trans k0
      refine wp_region_ext_tail 21 (by kernel_rfl) (by kernel_rfl) ?_
      simp only [List.take_succ_cons, List.take_zero, List.drop_succ_cons, List.drop_zero]
      repeat (go_big_quiet_step (fail))
      refine wpQuiet_nil ?_
      intro _ hw'
      obtain ⟨nx2, hw''⟩ := hw'
      subst hw''
      have R3 := RY.keep nx2.h
      obtain ⟨r3, r4, r5⟩ := R3.at
      have f3 := R3.free 0
      have f4 := R3.free 1
      have f5 := R3.free 2
      go_wp2
      obtain ⟨q1, q2⟩ := tri_end (w := w) (a := .string (xx ++ ⟨#[32]⟩ ++ os j ++ ⟨#[32]⟩ ++ zx)) (b := .int .i64 ((xt : Int) + 1 + (zt : Int))) (c := .int .i64 xd) (by omega) R3 (gtrans (gtrans B0 GY) nx2.h)
      obtain ⟨s3, s4, s5⟩ := q2.at
      exact bodyPost_ret (v := .agg #[.string (xx ++ ⟨#[32]⟩ ++ os j ++ ⟨#[32]⟩ ++ zx), .int .i64 ((xt : Int) + 1 + (zt : Int)), .int .i64 xd]) (by simp [results, Tryd.results18, go_sem, s3, s4, s5]) rfl ⟨by rw [HT.out], q1⟩

end Go.Proofs.YtpodpahipapbaaaDoor
