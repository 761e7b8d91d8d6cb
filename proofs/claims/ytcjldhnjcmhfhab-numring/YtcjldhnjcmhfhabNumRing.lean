/- For every three values, known or not, the law NumRing returns true: sums and products commute, may be grouped and distributed where what stands between is known, 0 and 1 do nothing, less a number is plus its opposite. No condition. -/
import Derived.Test.YtcjldhnjcmhfhabRing
import Derived.Test.YtcjldhnjcmhfhabKeep
import Derived.Test.YtcjldhnjcmhfhabExt
import Derived.Test.YtcjldhnjcmhfhabNumber
import Derived.Lib.SmallJoins
import Derived.Deep.CutRange
import Derived.OpenShut
import Derived.Carry
namespace Go.Proofs.Ytcjldhnjcmhfhab.numRing
open Go.ChangeShapes Go.WideShapes Go.ChangeAt Go.RowKit Go.BigFrame
set_option linter.unusedVariables false
set_option linter.unusedSimpArgs false

set_option maxRecDepth 20000 in
set_option maxHeartbeats 16000000 in
theorem walk (ka : Bool) (a : Int) (w0 : (Lit.int .i64 a).wf = true) (kb : Bool) (b : Int) (w1 : (Lit.int .i64 b).wf = true) (kc : Bool) (c : Int) (w2 : (Lit.int .i64 c).wf = true) (w : World) :
    Calls Try.prog 4 #[.agg #[.bool ka, .int .i64 a], .agg #[.bool kb, .int .i64 b], .agg #[.bool kc, .int .i64 c]] w fun e w' => e = .returned (.bool true) ∧ Below w.heap.size w w' := by
  have b0 : fitsB a = true := fits_wf w0
  have b1 : fitsB b = true := fits_wf w1
  have b2 : fitsB c = true := fits_wf w2
  clear w0 w1 w2
  obtain ⟨kab, nab, Hab, cab⟩ : ∃ k n, Hid (k = sK ka a kb b ∧ n = sN ka a kb b) ∧ ∀ w, Calls Try.prog 11 #[.agg #[.bool ka, .int .i64 a], .agg #[.bool kb, .int .i64 b]] w (fun e w' => e = .returned (.agg #[.bool k, .int .i64 n]) ∧ Below w.heap.size w w') := ⟨_, _, ⟨rfl, rfl⟩, fun w => add_op ka a kb b w b0 b1⟩
  obtain ⟨kbc, nbc, Hbc, cbc⟩ : ∃ k n, Hid (k = sK kb b kc c ∧ n = sN kb b kc c) ∧ ∀ w, Calls Try.prog 11 #[.agg #[.bool kb, .int .i64 b], .agg #[.bool kc, .int .i64 c]] w (fun e w' => e = .returned (.agg #[.bool k, .int .i64 n]) ∧ Below w.heap.size w w') := ⟨_, _, ⟨rfl, rfl⟩, fun w => add_op kb b kc c w b1 b2⟩
  obtain ⟨kpq, npq, Hpq, cpq⟩ : ∃ k n, Hid (k = pK ka a kb b ∧ n = pN ka a kb b) ∧ ∀ w, Calls Try.prog 12 #[.agg #[.bool ka, .int .i64 a], .agg #[.bool kb, .int .i64 b]] w (fun e w' => e = .returned (.agg #[.bool k, .int .i64 n]) ∧ Below w.heap.size w w') := ⟨_, _, ⟨rfl, rfl⟩, fun w => mul_op ka a kb b w b0 b1⟩
  obtain ⟨kqr, nqr, Hqr, cqr⟩ : ∃ k n, Hid (k = pK kb b kc c ∧ n = pN kb b kc c) ∧ ∀ w, Calls Try.prog 12 #[.agg #[.bool kb, .int .i64 b], .agg #[.bool kc, .int .i64 c]] w (fun e w' => e = .returned (.agg #[.bool k, .int .i64 n]) ∧ Below w.heap.size w w') := ⟨_, _, ⟨rfl, rfl⟩, fun w => mul_op kb b kc c w b1 b2⟩
  obtain ⟨kpr, npr, Hpr, cpr⟩ : ∃ k n, Hid (k = pK ka a kc c ∧ n = pN ka a kc c) ∧ ∀ w, Calls Try.prog 12 #[.agg #[.bool ka, .int .i64 a], .agg #[.bool kc, .int .i64 c]] w (fun e w' => e = .returned (.agg #[.bool k, .int .i64 n]) ∧ Below w.heap.size w w') := ⟨_, _, ⟨rfl, rfl⟩, fun w => mul_op ka a kc c w b0 b2⟩
  obtain ⟨kn, nn, Hn, cn⟩ : ∃ k n, Hid (k = opK true kb (0 - b) ∧ n = opN true kb (0 - b)) ∧ ∀ w, Calls Try.prog 13 #[.agg #[.bool kb, .int .i64 b]] w (fun e w' => e = .returned (.agg #[.bool k, .int .i64 n]) ∧ Below w.heap.size w w') := ⟨_, _, ⟨rfl, rfl⟩, fun w => neg_any kb b w b1⟩
  have ctwo : ∀ w, Calls Try.prog 11 #[.agg #[.bool true, .int .i64 1], .agg #[.bool true, .int .i64 1]] w (fun e w' => e = .returned (.agg #[.bool true, .int .i64 2]) ∧ Below w.heap.size w w') := fun w => add_any true true 1 1 w rfl rfl
  have E1 : sK kb b ka a = kab := (s_comm kb b ka a).1.trans Hab.out.1.symm
  have E2 : sN kb b ka a = nab := (s_comm kb b ka a).2.trans Hab.out.2.symm
  have E3 : pK ka a kb b = kpq := Hpq.out.1.symm
  have E4 : pN ka a kb b = npq := Hpq.out.2.symm
  have E5 : pK kb b ka a = kpq := (p_comm kb b ka a).1.trans Hpq.out.1.symm
  have E6 : pN kb b ka a = npq := (p_comm kb b ka a).2.trans Hpq.out.2.symm
  have F0 := fun g0 g1 => (s_asso Hab.out Hbc.out g0 g1).1
  have F1 := fun g0 g1 => (s_asso Hab.out Hbc.out g0 g1).2
  have F2 := fun g0 g1 => (p_asso Hpq.out Hqr.out g0 g1).1
  have F3 := fun g0 g1 => (p_asso Hpq.out Hqr.out g0 g1).2
  have F4 := fun g0 g1 g2 => (dist Hbc.out Hpq.out Hpr.out g0 g1 g2).1
  have F5 := fun g0 g1 g2 => (dist Hbc.out Hpq.out Hpr.out g0 g1 g2).2
  have F6 := fun g0 => (less (ka := ka) (a := a) Hn.out g0).1
  have F7 := fun g0 => (less (ka := ka) (a := a) Hn.out g0).2
  obtain ⟨U1, U2, U3, U4, U5, U6⟩ := unit b0
  obtain ⟨U7, U8⟩ := four
  have fab : fitsB nab = true := by rw [Hab.out.2]; exact sN_fits _ _ _ _
  have fbc : fitsB nbc = true := by rw [Hbc.out.2]; exact sN_fits _ _ _ _
  have fpq : fitsB npq = true := by rw [Hpq.out.2]; exact pN_fits _ _ _ _
  have fqr : fitsB nqr = true := by rw [Hqr.out.2]; exact pN_fits _ _ _ _
  have fpr : fitsB npr = true := by rw [Hpr.out.2]; exact pN_fits _ _ _ _
  have fn : fitsB nn = true := by rw [Hn.out.2]; exact opN_fits _ _ _
  have f1 : fitsB 1 = true := rfl
  have f0 : fitsB 0 = true := rfl
  have f2 : fitsB 2 = true := rfl
  clear Hab Hbc Hpq Hqr Hpr Hn
  go_enter Try.func4, Try.ntmps4
  go_upto_region 1 with fail
  have B := (galloc (galloc (galloc (Below.refl w.heap.size w) (.cells #[.bool ka, .int .i64 a] 23)) (.cells #[.bool kb, .int .i64 b] 23)) (.cells #[.bool kc, .int .i64 c] 23))
  have ra0 : (((w.alloc (.cells #[.bool ka, .int .i64 a] 23)).alloc (.cells #[.bool kb, .int .i64 b] 23)).alloc (.cells #[.bool kc, .int .i64 c] 23)).cell? ⟨w.heap.size, 0, none⟩ = some (.bool ka) := by go_simp
  have ra1 : (((w.alloc (.cells #[.bool ka, .int .i64 a] 23)).alloc (.cells #[.bool kb, .int .i64 b] 23)).alloc (.cells #[.bool kc, .int .i64 c] 23)).cell? ⟨w.heap.size, 1, none⟩ = some (.int .i64 a) := by go_simp
  have sa : w.heap.size < (((w.alloc (.cells #[.bool ka, .int .i64 a] 23)).alloc (.cells #[.bool kb, .int .i64 b] 23)).alloc (.cells #[.bool kc, .int .i64 c] 23)).heap.size := by first | (simp; done) | (simp; omega)
  have rb0 : (((w.alloc (.cells #[.bool ka, .int .i64 a] 23)).alloc (.cells #[.bool kb, .int .i64 b] 23)).alloc (.cells #[.bool kc, .int .i64 c] 23)).cell? ⟨w.heap.size + 1, 0, none⟩ = some (.bool kb) := by go_simp
  have rb1 : (((w.alloc (.cells #[.bool ka, .int .i64 a] 23)).alloc (.cells #[.bool kb, .int .i64 b] 23)).alloc (.cells #[.bool kc, .int .i64 c] 23)).cell? ⟨w.heap.size + 1, 1, none⟩ = some (.int .i64 b) := by go_simp
  have sb : w.heap.size + 1 < (((w.alloc (.cells #[.bool ka, .int .i64 a] 23)).alloc (.cells #[.bool kb, .int .i64 b] 23)).alloc (.cells #[.bool kc, .int .i64 c] 23)).heap.size := by first | (simp; done) | (simp; omega)
  have rc0 : (((w.alloc (.cells #[.bool ka, .int .i64 a] 23)).alloc (.cells #[.bool kb, .int .i64 b] 23)).alloc (.cells #[.bool kc, .int .i64 c] 23)).cell? ⟨w.heap.size + 1 + 1, 0, none⟩ = some (.bool kc) := by go_simp
  have rc1 : (((w.alloc (.cells #[.bool ka, .int .i64 a] 23)).alloc (.cells #[.bool kb, .int .i64 b] 23)).alloc (.cells #[.bool kc, .int .i64 c] 23)).cell? ⟨w.heap.size + 1 + 1, 1, none⟩ = some (.int .i64 c) := by go_simp
  have sc : w.heap.size + 1 + 1 < (((w.alloc (.cells #[.bool ka, .int .i64 a] 23)).alloc (.cells #[.bool kb, .int .i64 b] 23)).alloc (.cells #[.bool kc, .int .i64 c] 23)).heap.size := by first | (simp; done) | (simp; omega)
  generalize (((w.alloc (.cells #[.bool ka, .int .i64 a] 23)).alloc (.cells #[.bool kb, .int .i64 b] 23)).alloc (.cells #[.bool kc, .int .i64 c] 23)) = V0 at *
  have G := Below.refl V0.heap.size V0
  go_upto_region 2 with (first | (go_at_call 11; refine (cab _).mono ?_; rintro e u0 ⟨rfl, g⟩; replace G := gtrans G g; obtain ⟨hc, hf⟩ := bcell G))
  replace ra0 := kold G (.cells #[.bool kab, .int .i64 nab] 23) sa ra0
  replace ra1 := kold G (.cells #[.bool kab, .int .i64 nab] 23) sa ra1
  replace sa := ksize G (.cells #[.bool kab, .int .i64 nab] 23) sa
  replace rb0 := kold G (.cells #[.bool kab, .int .i64 nab] 23) sb rb0
  replace rb1 := kold G (.cells #[.bool kab, .int .i64 nab] 23) sb rb1
  replace sb := ksize G (.cells #[.bool kab, .int .i64 nab] 23) sb
  replace rc0 := kold G (.cells #[.bool kab, .int .i64 nab] 23) sc rc0
  replace rc1 := kold G (.cells #[.bool kab, .int .i64 nab] 23) sc rc1
  replace sc := ksize G (.cells #[.bool kab, .int .i64 nab] 23) sc
  replace B := galloc (gtrans B G) (.cells #[.bool kab, .int .i64 nab] 23)
  have rab0 := knew u0 #[.bool kab, .int .i64 nab] 23 0 _ rfl
  have rab1 := knew u0 #[.bool kab, .int .i64 nab] 23 1 _ rfl
  have sab := ksnew u0 (.cells #[.bool kab, .int .i64 nab] 23)
  clear G
  generalize (u0.alloc (.cells #[.bool kab, .int .i64 nab] 23)) = V1 at *
  have G := Below.refl V1.heap.size V1
  go_upto_region 3 with (first | (go_at_call 11; refine (cbc _).mono ?_; rintro e u1 ⟨rfl, g⟩; replace G := gtrans G g; obtain ⟨hc, hf⟩ := bcell G))
  replace ra0 := kold G (.cells #[.bool kbc, .int .i64 nbc] 23) sa ra0
  replace ra1 := kold G (.cells #[.bool kbc, .int .i64 nbc] 23) sa ra1
  replace sa := ksize G (.cells #[.bool kbc, .int .i64 nbc] 23) sa
  replace rb0 := kold G (.cells #[.bool kbc, .int .i64 nbc] 23) sb rb0
  replace rb1 := kold G (.cells #[.bool kbc, .int .i64 nbc] 23) sb rb1
  replace sb := ksize G (.cells #[.bool kbc, .int .i64 nbc] 23) sb
  replace rc0 := kold G (.cells #[.bool kbc, .int .i64 nbc] 23) sc rc0
  replace rc1 := kold G (.cells #[.bool kbc, .int .i64 nbc] 23) sc rc1
  replace sc := ksize G (.cells #[.bool kbc, .int .i64 nbc] 23) sc
  replace rab0 := kold G (.cells #[.bool kbc, .int .i64 nbc] 23) sab rab0
  replace rab1 := kold G (.cells #[.bool kbc, .int .i64 nbc] 23) sab rab1
  replace sab := ksize G (.cells #[.bool kbc, .int .i64 nbc] 23) sab
  replace B := galloc (gtrans B G) (.cells #[.bool kbc, .int .i64 nbc] 23)
  have rbc0 := knew u1 #[.bool kbc, .int .i64 nbc] 23 0 _ rfl
  have rbc1 := knew u1 #[.bool kbc, .int .i64 nbc] 23 1 _ rfl
  have sbc := ksnew u1 (.cells #[.bool kbc, .int .i64 nbc] 23)
  clear G
  generalize (u1.alloc (.cells #[.bool kbc, .int .i64 nbc] 23)) = V2 at *
  have G := Below.refl V2.heap.size V2
  have xa0 := fun (n : Ext V2) => (n.cell _ _ sa).trans ra0
  have xa1 := fun (n : Ext V2) => (n.cell _ _ sa).trans ra1
  have xb0 := fun (n : Ext V2) => (n.cell _ _ sb).trans rb0
  have xb1 := fun (n : Ext V2) => (n.cell _ _ sb).trans rb1
  have xc0 := fun (n : Ext V2) => (n.cell _ _ sc).trans rc0
  have xc1 := fun (n : Ext V2) => (n.cell _ _ sc).trans rc1
  have xab0 := fun (n : Ext V2) => (n.cell _ _ sab).trans rab0
  have xab1 := fun (n : Ext V2) => (n.cell _ _ sab).trans rab1
  have xbc0 := fun (n : Ext V2) => (n.cell _ _ sbc).trans rbc0
  have xbc1 := fun (n : Ext V2) => (n.cell _ _ sbc).trans rbc1
  have hne : Nonempty (Ext V2) := ⟨⟨_, Below.refl _ _⟩⟩
  refine wp_region_ext (by kernel_rfl) (by kernel_rfl) ?_
  repeat (go_big_quiet_step (first | (go_at_call 11; exact ext_of (add_op _ _ _ _ _ (by assumption) (by assumption))) | (go_at_call 12; exact ext_of (mul_op _ _ _ _ _ (by assumption) (by assumption))) | (go_at_call 14; exact ext_of (sub_op _ _ _ _ _ (by assumption) (by assumption))) | (go_at_call 15; exact ext_of (number_any _ _))))
  refine wpQuiet_nil ?_
  intro _ hw'
  obtain ⟨nxw, hw''⟩ := hw'
  subst hw''
  replace ra0 := xa0 nxw
  replace ra1 := xa1 nxw
  replace sa := Nat.lt_of_lt_of_le sa nxw.h.size
  clear xa0 xa1
  replace rb0 := xb0 nxw
  replace rb1 := xb1 nxw
  replace sb := Nat.lt_of_lt_of_le sb nxw.h.size
  clear xb0 xb1
  replace rc0 := xc0 nxw
  replace rc1 := xc1 nxw
  replace sc := Nat.lt_of_lt_of_le sc nxw.h.size
  clear xc0 xc1
  replace rab0 := xab0 nxw
  replace rab1 := xab1 nxw
  replace sab := Nat.lt_of_lt_of_le sab nxw.h.size
  clear xab0 xab1
  replace rbc0 := xbc0 nxw
  replace rbc1 := xbc1 nxw
  replace sbc := Nat.lt_of_lt_of_le sbc nxw.h.size
  clear xbc0 xbc1
  replace B := gtrans B nxw.h
  clear hne
  clear G
  obtain ⟨X2, hX⟩ := nxw
  dsimp only at *
  clear hX
  have G := Below.refl X2.heap.size X2
  go_upto_region 5 with fail
  go_cut [48] from 14 to 48 (fun sl wx => sl = .bool false ∧ Below X2.heap.size X2 wx)
  case first =>
    cases kab <;> cases kbc
    all_goals
      have xa0 := fun (n : Ext X2) => (n.cell _ _ sa).trans ra0
      have xa1 := fun (n : Ext X2) => (n.cell _ _ sa).trans ra1
      have xb0 := fun (n : Ext X2) => (n.cell _ _ sb).trans rb0
      have xb1 := fun (n : Ext X2) => (n.cell _ _ sb).trans rb1
      have xc0 := fun (n : Ext X2) => (n.cell _ _ sc).trans rc0
      have xc1 := fun (n : Ext X2) => (n.cell _ _ sc).trans rc1
      have xab0 := fun (n : Ext X2) => (n.cell _ _ sab).trans rab0
      have xab1 := fun (n : Ext X2) => (n.cell _ _ sab).trans rab1
      have xbc0 := fun (n : Ext X2) => (n.cell _ _ sbc).trans rbc0
      have xbc1 := fun (n : Ext X2) => (n.cell _ _ sbc).trans rbc1
      have hne : Nonempty (Ext X2) := ⟨⟨_, Below.refl _ _⟩⟩
      refine wp_region_ext (by kernel_rfl) (by kernel_rfl) ?_
      repeat (go_big_quiet_step (first | (go_at_call 11; exact ext_of (add_op _ _ _ _ _ (by assumption) (by assumption))) | (go_at_call 12; exact ext_of (mul_op _ _ _ _ _ (by assumption) (by assumption))) | (go_at_call 14; exact ext_of (sub_op _ _ _ _ _ (by assumption) (by assumption))) | (go_at_call 15; exact ext_of (number_any _ _))))
      refine wpQuiet_nil ?_
      intro _ hw'
      obtain ⟨nxw, hw''⟩ := hw'
      subst hw''
      go_wp2_with fail
      go_meet
      exact ⟨rfl, nxw.h⟩
  case rest =>
  obtain ⟨rfl, G1⟩ := hcut
  replace ra0 := kkeep G1 sa ra0
  replace ra1 := kkeep G1 sa ra1
  replace sa := Nat.lt_of_lt_of_le sa G1.size
  replace rb0 := kkeep G1 sb rb0
  replace rb1 := kkeep G1 sb rb1
  replace sb := Nat.lt_of_lt_of_le sb G1.size
  replace rc0 := kkeep G1 sc rc0
  replace rc1 := kkeep G1 sc rc1
  replace sc := Nat.lt_of_lt_of_le sc G1.size
  replace rab0 := kkeep G1 sab rab0
  replace rab1 := kkeep G1 sab rab1
  replace sab := Nat.lt_of_lt_of_le sab G1.size
  replace rbc0 := kkeep G1 sbc rbc0
  replace rbc1 := kkeep G1 sbc rbc1
  replace sbc := Nat.lt_of_lt_of_le sbc G1.size
  replace B := gtrans B G1
  clear G G1
  have G := Below.refl wc.heap.size wc
  go_upto_region 7 with fail
  go_upto_region 8 with (first | (go_at_call 12; refine (cpq _).mono ?_; rintro e u3 ⟨rfl, g⟩; replace G := gtrans G g; obtain ⟨hc, hf⟩ := bcell G))
  replace ra0 := kold G (.cells #[.bool kpq, .int .i64 npq] 23) sa ra0
  replace ra1 := kold G (.cells #[.bool kpq, .int .i64 npq] 23) sa ra1
  replace sa := ksize G (.cells #[.bool kpq, .int .i64 npq] 23) sa
  replace rb0 := kold G (.cells #[.bool kpq, .int .i64 npq] 23) sb rb0
  replace rb1 := kold G (.cells #[.bool kpq, .int .i64 npq] 23) sb rb1
  replace sb := ksize G (.cells #[.bool kpq, .int .i64 npq] 23) sb
  replace rc0 := kold G (.cells #[.bool kpq, .int .i64 npq] 23) sc rc0
  replace rc1 := kold G (.cells #[.bool kpq, .int .i64 npq] 23) sc rc1
  replace sc := ksize G (.cells #[.bool kpq, .int .i64 npq] 23) sc
  replace rab0 := kold G (.cells #[.bool kpq, .int .i64 npq] 23) sab rab0
  replace rab1 := kold G (.cells #[.bool kpq, .int .i64 npq] 23) sab rab1
  replace sab := ksize G (.cells #[.bool kpq, .int .i64 npq] 23) sab
  replace rbc0 := kold G (.cells #[.bool kpq, .int .i64 npq] 23) sbc rbc0
  replace rbc1 := kold G (.cells #[.bool kpq, .int .i64 npq] 23) sbc rbc1
  replace sbc := ksize G (.cells #[.bool kpq, .int .i64 npq] 23) sbc
  replace B := galloc (gtrans B G) (.cells #[.bool kpq, .int .i64 npq] 23)
  have rpq0 := knew u3 #[.bool kpq, .int .i64 npq] 23 0 _ rfl
  have rpq1 := knew u3 #[.bool kpq, .int .i64 npq] 23 1 _ rfl
  have spq := ksnew u3 (.cells #[.bool kpq, .int .i64 npq] 23)
  clear G
  generalize (u3.alloc (.cells #[.bool kpq, .int .i64 npq] 23)) = V4 at *
  have G := Below.refl V4.heap.size V4
  go_upto_region 9 with (first | (go_at_call 12; refine (cqr _).mono ?_; rintro e u4 ⟨rfl, g⟩; replace G := gtrans G g; obtain ⟨hc, hf⟩ := bcell G))
  replace ra0 := kold G (.cells #[.bool kqr, .int .i64 nqr] 23) sa ra0
  replace ra1 := kold G (.cells #[.bool kqr, .int .i64 nqr] 23) sa ra1
  replace sa := ksize G (.cells #[.bool kqr, .int .i64 nqr] 23) sa
  replace rb0 := kold G (.cells #[.bool kqr, .int .i64 nqr] 23) sb rb0
  replace rb1 := kold G (.cells #[.bool kqr, .int .i64 nqr] 23) sb rb1
  replace sb := ksize G (.cells #[.bool kqr, .int .i64 nqr] 23) sb
  replace rc0 := kold G (.cells #[.bool kqr, .int .i64 nqr] 23) sc rc0
  replace rc1 := kold G (.cells #[.bool kqr, .int .i64 nqr] 23) sc rc1
  replace sc := ksize G (.cells #[.bool kqr, .int .i64 nqr] 23) sc
  replace rab0 := kold G (.cells #[.bool kqr, .int .i64 nqr] 23) sab rab0
  replace rab1 := kold G (.cells #[.bool kqr, .int .i64 nqr] 23) sab rab1
  replace sab := ksize G (.cells #[.bool kqr, .int .i64 nqr] 23) sab
  replace rbc0 := kold G (.cells #[.bool kqr, .int .i64 nqr] 23) sbc rbc0
  replace rbc1 := kold G (.cells #[.bool kqr, .int .i64 nqr] 23) sbc rbc1
  replace sbc := ksize G (.cells #[.bool kqr, .int .i64 nqr] 23) sbc
  replace rpq0 := kold G (.cells #[.bool kqr, .int .i64 nqr] 23) spq rpq0
  replace rpq1 := kold G (.cells #[.bool kqr, .int .i64 nqr] 23) spq rpq1
  replace spq := ksize G (.cells #[.bool kqr, .int .i64 nqr] 23) spq
  replace B := galloc (gtrans B G) (.cells #[.bool kqr, .int .i64 nqr] 23)
  have rqr0 := knew u4 #[.bool kqr, .int .i64 nqr] 23 0 _ rfl
  have rqr1 := knew u4 #[.bool kqr, .int .i64 nqr] 23 1 _ rfl
  have sqr := ksnew u4 (.cells #[.bool kqr, .int .i64 nqr] 23)
  clear G
  generalize (u4.alloc (.cells #[.bool kqr, .int .i64 nqr] 23)) = V5 at *
  have G := Below.refl V5.heap.size V5
  go_upto_region 10 with (first | (go_at_call 12; refine (cpr _).mono ?_; rintro e u5 ⟨rfl, g⟩; replace G := gtrans G g; obtain ⟨hc, hf⟩ := bcell G))
  replace ra0 := kold G (.cells #[.bool kpr, .int .i64 npr] 23) sa ra0
  replace ra1 := kold G (.cells #[.bool kpr, .int .i64 npr] 23) sa ra1
  replace sa := ksize G (.cells #[.bool kpr, .int .i64 npr] 23) sa
  replace rb0 := kold G (.cells #[.bool kpr, .int .i64 npr] 23) sb rb0
  replace rb1 := kold G (.cells #[.bool kpr, .int .i64 npr] 23) sb rb1
  replace sb := ksize G (.cells #[.bool kpr, .int .i64 npr] 23) sb
  replace rc0 := kold G (.cells #[.bool kpr, .int .i64 npr] 23) sc rc0
  replace rc1 := kold G (.cells #[.bool kpr, .int .i64 npr] 23) sc rc1
  replace sc := ksize G (.cells #[.bool kpr, .int .i64 npr] 23) sc
  replace rab0 := kold G (.cells #[.bool kpr, .int .i64 npr] 23) sab rab0
  replace rab1 := kold G (.cells #[.bool kpr, .int .i64 npr] 23) sab rab1
  replace sab := ksize G (.cells #[.bool kpr, .int .i64 npr] 23) sab
  replace rbc0 := kold G (.cells #[.bool kpr, .int .i64 npr] 23) sbc rbc0
  replace rbc1 := kold G (.cells #[.bool kpr, .int .i64 npr] 23) sbc rbc1
  replace sbc := ksize G (.cells #[.bool kpr, .int .i64 npr] 23) sbc
  replace rpq0 := kold G (.cells #[.bool kpr, .int .i64 npr] 23) spq rpq0
  replace rpq1 := kold G (.cells #[.bool kpr, .int .i64 npr] 23) spq rpq1
  replace spq := ksize G (.cells #[.bool kpr, .int .i64 npr] 23) spq
  replace rqr0 := kold G (.cells #[.bool kpr, .int .i64 npr] 23) sqr rqr0
  replace rqr1 := kold G (.cells #[.bool kpr, .int .i64 npr] 23) sqr rqr1
  replace sqr := ksize G (.cells #[.bool kpr, .int .i64 npr] 23) sqr
  replace B := galloc (gtrans B G) (.cells #[.bool kpr, .int .i64 npr] 23)
  have rpr0 := knew u5 #[.bool kpr, .int .i64 npr] 23 0 _ rfl
  have rpr1 := knew u5 #[.bool kpr, .int .i64 npr] 23 1 _ rfl
  have spr := ksnew u5 (.cells #[.bool kpr, .int .i64 npr] 23)
  clear G
  generalize (u5.alloc (.cells #[.bool kpr, .int .i64 npr] 23)) = V6 at *
  have G := Below.refl V6.heap.size V6
  go_cut [72] from 14 to 72 (fun sl wx => sl = .bool false ∧ Below V6.heap.size V6 wx)
  case first =>
    cases kpq <;> cases kqr
    all_goals
      have xa0 := fun (n : Ext V6) => (n.cell _ _ sa).trans ra0
      have xa1 := fun (n : Ext V6) => (n.cell _ _ sa).trans ra1
      have xb0 := fun (n : Ext V6) => (n.cell _ _ sb).trans rb0
      have xb1 := fun (n : Ext V6) => (n.cell _ _ sb).trans rb1
      have xc0 := fun (n : Ext V6) => (n.cell _ _ sc).trans rc0
      have xc1 := fun (n : Ext V6) => (n.cell _ _ sc).trans rc1
      have xab0 := fun (n : Ext V6) => (n.cell _ _ sab).trans rab0
      have xab1 := fun (n : Ext V6) => (n.cell _ _ sab).trans rab1
      have xbc0 := fun (n : Ext V6) => (n.cell _ _ sbc).trans rbc0
      have xbc1 := fun (n : Ext V6) => (n.cell _ _ sbc).trans rbc1
      have xpq0 := fun (n : Ext V6) => (n.cell _ _ spq).trans rpq0
      have xpq1 := fun (n : Ext V6) => (n.cell _ _ spq).trans rpq1
      have xqr0 := fun (n : Ext V6) => (n.cell _ _ sqr).trans rqr0
      have xqr1 := fun (n : Ext V6) => (n.cell _ _ sqr).trans rqr1
      have xpr0 := fun (n : Ext V6) => (n.cell _ _ spr).trans rpr0
      have xpr1 := fun (n : Ext V6) => (n.cell _ _ spr).trans rpr1
      have hne : Nonempty (Ext V6) := ⟨⟨_, Below.refl _ _⟩⟩
      refine wp_region_ext (by kernel_rfl) (by kernel_rfl) ?_
      repeat (go_big_quiet_step (first | (go_at_call 11; exact ext_of (add_op _ _ _ _ _ (by assumption) (by assumption))) | (go_at_call 12; exact ext_of (mul_op _ _ _ _ _ (by assumption) (by assumption))) | (go_at_call 14; exact ext_of (sub_op _ _ _ _ _ (by assumption) (by assumption))) | (go_at_call 15; exact ext_of (number_any _ _))))
      refine wpQuiet_nil ?_
      intro _ hw'
      obtain ⟨nxw, hw''⟩ := hw'
      subst hw''
      go_wp2_with fail
      go_meet
      exact ⟨rfl, nxw.h⟩
  case rest =>
  obtain ⟨rfl, G1⟩ := hcut
  replace ra0 := kkeep G1 sa ra0
  replace ra1 := kkeep G1 sa ra1
  replace sa := Nat.lt_of_lt_of_le sa G1.size
  replace rb0 := kkeep G1 sb rb0
  replace rb1 := kkeep G1 sb rb1
  replace sb := Nat.lt_of_lt_of_le sb G1.size
  replace rc0 := kkeep G1 sc rc0
  replace rc1 := kkeep G1 sc rc1
  replace sc := Nat.lt_of_lt_of_le sc G1.size
  replace rab0 := kkeep G1 sab rab0
  replace rab1 := kkeep G1 sab rab1
  replace sab := Nat.lt_of_lt_of_le sab G1.size
  replace rbc0 := kkeep G1 sbc rbc0
  replace rbc1 := kkeep G1 sbc rbc1
  replace sbc := Nat.lt_of_lt_of_le sbc G1.size
  replace rpq0 := kkeep G1 spq rpq0
  replace rpq1 := kkeep G1 spq rpq1
  replace spq := Nat.lt_of_lt_of_le spq G1.size
  replace rqr0 := kkeep G1 sqr rqr0
  replace rqr1 := kkeep G1 sqr rqr1
  replace sqr := Nat.lt_of_lt_of_le sqr G1.size
  replace rpr0 := kkeep G1 spr rpr0
  replace rpr1 := kkeep G1 spr rpr1
  replace spr := Nat.lt_of_lt_of_le spr G1.size
  replace B := gtrans B G1
  clear G G1
  have G := Below.refl wc.heap.size wc
  go_upto_region 12 with fail
  go_cut [91] from 14 to 91 (fun sl wx => sl = .bool false ∧ Below wc.heap.size wc wx)
  case first =>
    cases kbc <;> cases kpq <;> cases kpr
    all_goals
      have xa0 := fun (n : Ext wc) => (n.cell _ _ sa).trans ra0
      have xa1 := fun (n : Ext wc) => (n.cell _ _ sa).trans ra1
      have xb0 := fun (n : Ext wc) => (n.cell _ _ sb).trans rb0
      have xb1 := fun (n : Ext wc) => (n.cell _ _ sb).trans rb1
      have xc0 := fun (n : Ext wc) => (n.cell _ _ sc).trans rc0
      have xc1 := fun (n : Ext wc) => (n.cell _ _ sc).trans rc1
      have xab0 := fun (n : Ext wc) => (n.cell _ _ sab).trans rab0
      have xab1 := fun (n : Ext wc) => (n.cell _ _ sab).trans rab1
      have xbc0 := fun (n : Ext wc) => (n.cell _ _ sbc).trans rbc0
      have xbc1 := fun (n : Ext wc) => (n.cell _ _ sbc).trans rbc1
      have xpq0 := fun (n : Ext wc) => (n.cell _ _ spq).trans rpq0
      have xpq1 := fun (n : Ext wc) => (n.cell _ _ spq).trans rpq1
      have xqr0 := fun (n : Ext wc) => (n.cell _ _ sqr).trans rqr0
      have xqr1 := fun (n : Ext wc) => (n.cell _ _ sqr).trans rqr1
      have xpr0 := fun (n : Ext wc) => (n.cell _ _ spr).trans rpr0
      have xpr1 := fun (n : Ext wc) => (n.cell _ _ spr).trans rpr1
      have hne : Nonempty (Ext wc) := ⟨⟨_, Below.refl _ _⟩⟩
      refine wp_region_ext (by kernel_rfl) (by kernel_rfl) ?_
      repeat (go_big_quiet_step (first | (go_at_call 11; exact ext_of (add_op _ _ _ _ _ (by assumption) (by assumption))) | (go_at_call 12; exact ext_of (mul_op _ _ _ _ _ (by assumption) (by assumption))) | (go_at_call 14; exact ext_of (sub_op _ _ _ _ _ (by assumption) (by assumption))) | (go_at_call 15; exact ext_of (number_any _ _))))
      refine wpQuiet_nil ?_
      intro _ hw'
      obtain ⟨nxw, hw''⟩ := hw'
      subst hw''
      go_wp2_with fail
      go_meet
      exact ⟨rfl, nxw.h⟩
  case rest =>
  obtain ⟨rfl, G1⟩ := hcut
  replace ra0 := kkeep G1 sa ra0
  replace ra1 := kkeep G1 sa ra1
  replace sa := Nat.lt_of_lt_of_le sa G1.size
  replace rb0 := kkeep G1 sb rb0
  replace rb1 := kkeep G1 sb rb1
  replace sb := Nat.lt_of_lt_of_le sb G1.size
  replace rc0 := kkeep G1 sc rc0
  replace rc1 := kkeep G1 sc rc1
  replace sc := Nat.lt_of_lt_of_le sc G1.size
  replace rab0 := kkeep G1 sab rab0
  replace rab1 := kkeep G1 sab rab1
  replace sab := Nat.lt_of_lt_of_le sab G1.size
  replace rbc0 := kkeep G1 sbc rbc0
  replace rbc1 := kkeep G1 sbc rbc1
  replace sbc := Nat.lt_of_lt_of_le sbc G1.size
  replace rpq0 := kkeep G1 spq rpq0
  replace rpq1 := kkeep G1 spq rpq1
  replace spq := Nat.lt_of_lt_of_le spq G1.size
  replace rqr0 := kkeep G1 sqr rqr0
  replace rqr1 := kkeep G1 sqr rqr1
  replace sqr := Nat.lt_of_lt_of_le sqr G1.size
  replace rpr0 := kkeep G1 spr rpr0
  replace rpr1 := kkeep G1 spr rpr1
  replace spr := Nat.lt_of_lt_of_le spr G1.size
  replace B := gtrans B G1
  clear G G1
  have G := Below.refl wc.heap.size wc
  go_upto_region 14 with fail
  go_upto_region 15 with (first | (go_at_call 13; refine (cn _).mono ?_; rintro e u6 ⟨rfl, g⟩; replace G := gtrans G g; obtain ⟨hc, hf⟩ := bcell G))
  replace ra0 := kold G (.cells #[.bool kn, .int .i64 nn] 23) sa ra0
  replace ra1 := kold G (.cells #[.bool kn, .int .i64 nn] 23) sa ra1
  replace sa := ksize G (.cells #[.bool kn, .int .i64 nn] 23) sa
  replace rb0 := kold G (.cells #[.bool kn, .int .i64 nn] 23) sb rb0
  replace rb1 := kold G (.cells #[.bool kn, .int .i64 nn] 23) sb rb1
  replace sb := ksize G (.cells #[.bool kn, .int .i64 nn] 23) sb
  replace rc0 := kold G (.cells #[.bool kn, .int .i64 nn] 23) sc rc0
  replace rc1 := kold G (.cells #[.bool kn, .int .i64 nn] 23) sc rc1
  replace sc := ksize G (.cells #[.bool kn, .int .i64 nn] 23) sc
  replace rab0 := kold G (.cells #[.bool kn, .int .i64 nn] 23) sab rab0
  replace rab1 := kold G (.cells #[.bool kn, .int .i64 nn] 23) sab rab1
  replace sab := ksize G (.cells #[.bool kn, .int .i64 nn] 23) sab
  replace rbc0 := kold G (.cells #[.bool kn, .int .i64 nn] 23) sbc rbc0
  replace rbc1 := kold G (.cells #[.bool kn, .int .i64 nn] 23) sbc rbc1
  replace sbc := ksize G (.cells #[.bool kn, .int .i64 nn] 23) sbc
  replace rpq0 := kold G (.cells #[.bool kn, .int .i64 nn] 23) spq rpq0
  replace rpq1 := kold G (.cells #[.bool kn, .int .i64 nn] 23) spq rpq1
  replace spq := ksize G (.cells #[.bool kn, .int .i64 nn] 23) spq
  replace rqr0 := kold G (.cells #[.bool kn, .int .i64 nn] 23) sqr rqr0
  replace rqr1 := kold G (.cells #[.bool kn, .int .i64 nn] 23) sqr rqr1
  replace sqr := ksize G (.cells #[.bool kn, .int .i64 nn] 23) sqr
  replace rpr0 := kold G (.cells #[.bool kn, .int .i64 nn] 23) spr rpr0
  replace rpr1 := kold G (.cells #[.bool kn, .int .i64 nn] 23) spr rpr1
  replace spr := ksize G (.cells #[.bool kn, .int .i64 nn] 23) spr
  replace B := galloc (gtrans B G) (.cells #[.bool kn, .int .i64 nn] 23)
  have rn0 := knew u6 #[.bool kn, .int .i64 nn] 23 0 _ rfl
  have rn1 := knew u6 #[.bool kn, .int .i64 nn] 23 1 _ rfl
  have sn := ksnew u6 (.cells #[.bool kn, .int .i64 nn] 23)
  clear G
  generalize (u6.alloc (.cells #[.bool kn, .int .i64 nn] 23)) = V7 at *
  have G := Below.refl V7.heap.size V7
  go_cut [104] from 14 to 104 (fun sl wx => sl = .bool false ∧ Below V7.heap.size V7 wx)
  case first =>
    cases kn
    all_goals
      have xa0 := fun (n : Ext V7) => (n.cell _ _ sa).trans ra0
      have xa1 := fun (n : Ext V7) => (n.cell _ _ sa).trans ra1
      have xb0 := fun (n : Ext V7) => (n.cell _ _ sb).trans rb0
      have xb1 := fun (n : Ext V7) => (n.cell _ _ sb).trans rb1
      have xc0 := fun (n : Ext V7) => (n.cell _ _ sc).trans rc0
      have xc1 := fun (n : Ext V7) => (n.cell _ _ sc).trans rc1
      have xab0 := fun (n : Ext V7) => (n.cell _ _ sab).trans rab0
      have xab1 := fun (n : Ext V7) => (n.cell _ _ sab).trans rab1
      have xbc0 := fun (n : Ext V7) => (n.cell _ _ sbc).trans rbc0
      have xbc1 := fun (n : Ext V7) => (n.cell _ _ sbc).trans rbc1
      have xpq0 := fun (n : Ext V7) => (n.cell _ _ spq).trans rpq0
      have xpq1 := fun (n : Ext V7) => (n.cell _ _ spq).trans rpq1
      have xqr0 := fun (n : Ext V7) => (n.cell _ _ sqr).trans rqr0
      have xqr1 := fun (n : Ext V7) => (n.cell _ _ sqr).trans rqr1
      have xpr0 := fun (n : Ext V7) => (n.cell _ _ spr).trans rpr0
      have xpr1 := fun (n : Ext V7) => (n.cell _ _ spr).trans rpr1
      have xn0 := fun (n : Ext V7) => (n.cell _ _ sn).trans rn0
      have xn1 := fun (n : Ext V7) => (n.cell _ _ sn).trans rn1
      have hne : Nonempty (Ext V7) := ⟨⟨_, Below.refl _ _⟩⟩
      refine wp_region_ext (by kernel_rfl) (by kernel_rfl) ?_
      repeat (go_big_quiet_step (first | (go_at_call 11; exact ext_of (add_op _ _ _ _ _ (by assumption) (by assumption))) | (go_at_call 12; exact ext_of (mul_op _ _ _ _ _ (by assumption) (by assumption))) | (go_at_call 14; exact ext_of (sub_op _ _ _ _ _ (by assumption) (by assumption))) | (go_at_call 15; exact ext_of (number_any _ _))))
      refine wpQuiet_nil ?_
      intro _ hw'
      obtain ⟨nxw, hw''⟩ := hw'
      subst hw''
      go_wp2_with fail
      go_meet
      exact ⟨rfl, nxw.h⟩
  case rest =>
  obtain ⟨rfl, G1⟩ := hcut
  replace ra0 := kkeep G1 sa ra0
  replace ra1 := kkeep G1 sa ra1
  replace sa := Nat.lt_of_lt_of_le sa G1.size
  replace rb0 := kkeep G1 sb rb0
  replace rb1 := kkeep G1 sb rb1
  replace sb := Nat.lt_of_lt_of_le sb G1.size
  replace rc0 := kkeep G1 sc rc0
  replace rc1 := kkeep G1 sc rc1
  replace sc := Nat.lt_of_lt_of_le sc G1.size
  replace rab0 := kkeep G1 sab rab0
  replace rab1 := kkeep G1 sab rab1
  replace sab := Nat.lt_of_lt_of_le sab G1.size
  replace rbc0 := kkeep G1 sbc rbc0
  replace rbc1 := kkeep G1 sbc rbc1
  replace sbc := Nat.lt_of_lt_of_le sbc G1.size
  replace rpq0 := kkeep G1 spq rpq0
  replace rpq1 := kkeep G1 spq rpq1
  replace spq := Nat.lt_of_lt_of_le spq G1.size
  replace rqr0 := kkeep G1 sqr rqr0
  replace rqr1 := kkeep G1 sqr rqr1
  replace sqr := Nat.lt_of_lt_of_le sqr G1.size
  replace rpr0 := kkeep G1 spr rpr0
  replace rpr1 := kkeep G1 spr rpr1
  replace spr := Nat.lt_of_lt_of_le spr G1.size
  replace rn0 := kkeep G1 sn rn0
  replace rn1 := kkeep G1 sn rn1
  replace sn := Nat.lt_of_lt_of_le sn G1.size
  replace B := gtrans B G1
  clear G G1
  have G := Below.refl wc.heap.size wc
  go_upto_region 17 with fail
  go_cut [127] from 14 to 127 (fun sl wx => sl = .bool false ∧ Below wc.heap.size wc wx)
  case first =>
    cases ka
    all_goals
      have xa0 := fun (n : Ext wc) => (n.cell _ _ sa).trans ra0
      have xa1 := fun (n : Ext wc) => (n.cell _ _ sa).trans ra1
      have xb0 := fun (n : Ext wc) => (n.cell _ _ sb).trans rb0
      have xb1 := fun (n : Ext wc) => (n.cell _ _ sb).trans rb1
      have xc0 := fun (n : Ext wc) => (n.cell _ _ sc).trans rc0
      have xc1 := fun (n : Ext wc) => (n.cell _ _ sc).trans rc1
      have xab0 := fun (n : Ext wc) => (n.cell _ _ sab).trans rab0
      have xab1 := fun (n : Ext wc) => (n.cell _ _ sab).trans rab1
      have xbc0 := fun (n : Ext wc) => (n.cell _ _ sbc).trans rbc0
      have xbc1 := fun (n : Ext wc) => (n.cell _ _ sbc).trans rbc1
      have xpq0 := fun (n : Ext wc) => (n.cell _ _ spq).trans rpq0
      have xpq1 := fun (n : Ext wc) => (n.cell _ _ spq).trans rpq1
      have xqr0 := fun (n : Ext wc) => (n.cell _ _ sqr).trans rqr0
      have xqr1 := fun (n : Ext wc) => (n.cell _ _ sqr).trans rqr1
      have xpr0 := fun (n : Ext wc) => (n.cell _ _ spr).trans rpr0
      have xpr1 := fun (n : Ext wc) => (n.cell _ _ spr).trans rpr1
      have xn0 := fun (n : Ext wc) => (n.cell _ _ sn).trans rn0
      have xn1 := fun (n : Ext wc) => (n.cell _ _ sn).trans rn1
      have hne : Nonempty (Ext wc) := ⟨⟨_, Below.refl _ _⟩⟩
      refine wp_region_ext (by kernel_rfl) (by kernel_rfl) ?_
      repeat (go_big_quiet_step (first | (go_at_call 11; exact ext_of (add_op _ _ _ _ _ (by assumption) (by assumption))) | (go_at_call 12; exact ext_of (mul_op _ _ _ _ _ (by assumption) (by assumption))) | (go_at_call 14; exact ext_of (sub_op _ _ _ _ _ (by assumption) (by assumption))) | (go_at_call 15; exact ext_of (number_any _ _))))
      refine wpQuiet_nil ?_
      intro _ hw'
      obtain ⟨nxw, hw''⟩ := hw'
      subst hw''
      go_wp2_with fail
      go_meet
      exact ⟨rfl, nxw.h⟩
  case rest =>
  obtain ⟨rfl, G1⟩ := hcut
  replace ra0 := kkeep G1 sa ra0
  replace ra1 := kkeep G1 sa ra1
  replace sa := Nat.lt_of_lt_of_le sa G1.size
  replace rb0 := kkeep G1 sb rb0
  replace rb1 := kkeep G1 sb rb1
  replace sb := Nat.lt_of_lt_of_le sb G1.size
  replace rc0 := kkeep G1 sc rc0
  replace rc1 := kkeep G1 sc rc1
  replace sc := Nat.lt_of_lt_of_le sc G1.size
  replace rab0 := kkeep G1 sab rab0
  replace rab1 := kkeep G1 sab rab1
  replace sab := Nat.lt_of_lt_of_le sab G1.size
  replace rbc0 := kkeep G1 sbc rbc0
  replace rbc1 := kkeep G1 sbc rbc1
  replace sbc := Nat.lt_of_lt_of_le sbc G1.size
  replace rpq0 := kkeep G1 spq rpq0
  replace rpq1 := kkeep G1 spq rpq1
  replace spq := Nat.lt_of_lt_of_le spq G1.size
  replace rqr0 := kkeep G1 sqr rqr0
  replace rqr1 := kkeep G1 sqr rqr1
  replace sqr := Nat.lt_of_lt_of_le sqr G1.size
  replace rpr0 := kkeep G1 spr rpr0
  replace rpr1 := kkeep G1 spr rpr1
  replace spr := Nat.lt_of_lt_of_le spr G1.size
  replace rn0 := kkeep G1 sn rn0
  replace rn1 := kkeep G1 sn rn1
  replace sn := Nat.lt_of_lt_of_le sn G1.size
  replace B := gtrans B G1
  clear G G1
  have G := Below.refl wc.heap.size wc
  go_upto_region 19 with fail
  go_upto_region 20 with (first | (go_at_call 15; refine (number_any _ _).mono ?_; rintro e u7 ⟨rfl, g⟩; replace G := gtrans G g; obtain ⟨hc, hf⟩ := bcell G) | (go_at_call 11; refine (ctwo _).mono ?_; rintro e u7 ⟨rfl, g⟩; replace G := gtrans G g; obtain ⟨hc, hf⟩ := bcell G))
  replace ra0 := kold G (.cells #[.bool true, .int .i64 2] 23) sa ra0
  replace ra1 := kold G (.cells #[.bool true, .int .i64 2] 23) sa ra1
  replace sa := ksize G (.cells #[.bool true, .int .i64 2] 23) sa
  replace rb0 := kold G (.cells #[.bool true, .int .i64 2] 23) sb rb0
  replace rb1 := kold G (.cells #[.bool true, .int .i64 2] 23) sb rb1
  replace sb := ksize G (.cells #[.bool true, .int .i64 2] 23) sb
  replace rc0 := kold G (.cells #[.bool true, .int .i64 2] 23) sc rc0
  replace rc1 := kold G (.cells #[.bool true, .int .i64 2] 23) sc rc1
  replace sc := ksize G (.cells #[.bool true, .int .i64 2] 23) sc
  replace rab0 := kold G (.cells #[.bool true, .int .i64 2] 23) sab rab0
  replace rab1 := kold G (.cells #[.bool true, .int .i64 2] 23) sab rab1
  replace sab := ksize G (.cells #[.bool true, .int .i64 2] 23) sab
  replace rbc0 := kold G (.cells #[.bool true, .int .i64 2] 23) sbc rbc0
  replace rbc1 := kold G (.cells #[.bool true, .int .i64 2] 23) sbc rbc1
  replace sbc := ksize G (.cells #[.bool true, .int .i64 2] 23) sbc
  replace rpq0 := kold G (.cells #[.bool true, .int .i64 2] 23) spq rpq0
  replace rpq1 := kold G (.cells #[.bool true, .int .i64 2] 23) spq rpq1
  replace spq := ksize G (.cells #[.bool true, .int .i64 2] 23) spq
  replace rqr0 := kold G (.cells #[.bool true, .int .i64 2] 23) sqr rqr0
  replace rqr1 := kold G (.cells #[.bool true, .int .i64 2] 23) sqr rqr1
  replace sqr := ksize G (.cells #[.bool true, .int .i64 2] 23) sqr
  replace rpr0 := kold G (.cells #[.bool true, .int .i64 2] 23) spr rpr0
  replace rpr1 := kold G (.cells #[.bool true, .int .i64 2] 23) spr rpr1
  replace spr := ksize G (.cells #[.bool true, .int .i64 2] 23) spr
  replace rn0 := kold G (.cells #[.bool true, .int .i64 2] 23) sn rn0
  replace rn1 := kold G (.cells #[.bool true, .int .i64 2] 23) sn rn1
  replace sn := ksize G (.cells #[.bool true, .int .i64 2] 23) sn
  replace B := galloc (gtrans B G) (.cells #[.bool true, .int .i64 2] 23)
  have rtwo0 := knew u7 #[.bool true, .int .i64 2] 23 0 _ rfl
  have rtwo1 := knew u7 #[.bool true, .int .i64 2] 23 1 _ rfl
  have stwo := ksnew u7 (.cells #[.bool true, .int .i64 2] 23)
  clear G
  generalize (u7.alloc (.cells #[.bool true, .int .i64 2] 23)) = V8 at *
  have G := Below.refl V8.heap.size V8
  have xa0 := fun (n : Ext V8) => (n.cell _ _ sa).trans ra0
  have xa1 := fun (n : Ext V8) => (n.cell _ _ sa).trans ra1
  have xb0 := fun (n : Ext V8) => (n.cell _ _ sb).trans rb0
  have xb1 := fun (n : Ext V8) => (n.cell _ _ sb).trans rb1
  have xc0 := fun (n : Ext V8) => (n.cell _ _ sc).trans rc0
  have xc1 := fun (n : Ext V8) => (n.cell _ _ sc).trans rc1
  have xab0 := fun (n : Ext V8) => (n.cell _ _ sab).trans rab0
  have xab1 := fun (n : Ext V8) => (n.cell _ _ sab).trans rab1
  have xbc0 := fun (n : Ext V8) => (n.cell _ _ sbc).trans rbc0
  have xbc1 := fun (n : Ext V8) => (n.cell _ _ sbc).trans rbc1
  have xpq0 := fun (n : Ext V8) => (n.cell _ _ spq).trans rpq0
  have xpq1 := fun (n : Ext V8) => (n.cell _ _ spq).trans rpq1
  have xqr0 := fun (n : Ext V8) => (n.cell _ _ sqr).trans rqr0
  have xqr1 := fun (n : Ext V8) => (n.cell _ _ sqr).trans rqr1
  have xpr0 := fun (n : Ext V8) => (n.cell _ _ spr).trans rpr0
  have xpr1 := fun (n : Ext V8) => (n.cell _ _ spr).trans rpr1
  have xn0 := fun (n : Ext V8) => (n.cell _ _ sn).trans rn0
  have xn1 := fun (n : Ext V8) => (n.cell _ _ sn).trans rn1
  have xtwo0 := fun (n : Ext V8) => (n.cell _ _ stwo).trans rtwo0
  have xtwo1 := fun (n : Ext V8) => (n.cell _ _ stwo).trans rtwo1
  have hne : Nonempty (Ext V8) := ⟨⟨_, Below.refl _ _⟩⟩
  refine wp_region_ext (by kernel_rfl) (by kernel_rfl) ?_
  repeat (go_big_quiet_step (first | (go_at_call 11; exact ext_of (add_op _ _ _ _ _ (by assumption) (by assumption))) | (go_at_call 12; exact ext_of (mul_op _ _ _ _ _ (by assumption) (by assumption))) | (go_at_call 14; exact ext_of (sub_op _ _ _ _ _ (by assumption) (by assumption))) | (go_at_call 15; exact ext_of (number_any _ _))))
  refine wpQuiet_nil ?_
  intro _ hw'
  obtain ⟨nxw, hw''⟩ := hw'
  subst hw''
  go_wp2
  go_ret
  exact ⟨rfl, gtrans B nxw.h⟩

theorem own : ownKnob Try.prog.godebug = none := by kernel_rfl
theorem laidOut : laidOutB Try.prog = true := by kernel_rfl
theorem cellsV : Try.prog.cellsOf 23 = 2 := by kernel_rfl

set_option maxRecDepth 100000 in
theorem lifted (os : Os) (started : os.Started) (H : Type) (enc : TypeId × Value → H) :
    ReturnsInHanded {} Try.checked os 4 .any (Rows.numRingSpec.pre6 enc Try.prog Try.f4 Rows.numRingRow.domain false) (Rows.numRingSpec.post enc Try.prog Try.f4 false true false false) := by
  refine returnsInHanded_of_change (C := Try.checked) own started (by kernel_rfl) Try.func4
    (ChangeSpec.witness6 (enc := enc) (C := Try.checked) false ⟨#[], #[.agg #[.bool false, .int .i64 0], .agg #[.bool false, .int .i64 0], .agg #[.bool false, .int .i64 0]], []⟩ 8 (by kernel_rfl) (by kernel_rfl) (by kernel_rfl) (by kernel_rfl)) ?_
  intro W base args ds gs before hval0 hW hcnd _
  have hval : ∀ (j : Nat) t v, Try.f4.params[j]? = some t → args[j]? = some v → Value.okWide Try.prog W .any base t v := hval0
  have hW' := hW
  obtain ⟨p, q, hA0, hV, rfl, hfz, hnd⟩ := hW
  have hA : DataW.TrodAll enc Try.prog W 0 (fun _ => true) true Try.f4.params.toList args.toList ds p := hA0
  rw [Try.params4] at hA hval
  obtain ⟨v0, vs0, d0, ds0, p0, q0, hargs, rfl, rfl, h0, r0⟩ := trodAll_cons hA
  obtain ⟨v1, vs1, d1, ds1, p1, q1, rfl, rfl, rfl, h1, r1⟩ := trodAll_cons r0
  obtain ⟨v2, vs2, d2, ds2, p2, q2, rfl, rfl, rfl, h2, r2⟩ := trodAll_cons r1
  obtain ⟨rfl, rfl, rfl⟩ := trodAll_nil r2
  obtain rfl : args = #[v0, v1, v2] := by cases args; simp_all
  obtain ⟨rfl, rfl⟩ := trodVars_none hV
  have k0 := h0
  have lt0 : ∀ x ∈ p0, x.block < W.heap.size := by obtain ⟨m, hm⟩ := k0; exact DataW.trod_lt m _ _ _ hm
  obtain ⟨c0, n0, y0, z0, m0, e0, _, _, hy0, hz0⟩ := Joins.open_agg2 Try.underlying23 (by kernel_rfl) cellsV (hval 0 23 v0 rfl rfl) h0
  subst e0
  obtain ⟨ka0, f0, _⟩ := DataW.trod_bool Try.underlying4 hy0
  obtain ⟨a0, g0, _, w0⟩ := DataW.trod_int Try.underlying2 hz0
  simp only [List.cons.injEq, and_true] at f0 g0
  subst f0; subst g0
  have k1 := h1
  have lt1 : ∀ x ∈ p1, x.block < W.heap.size := by obtain ⟨m, hm⟩ := k1; exact DataW.trod_lt m _ _ _ hm
  obtain ⟨c1, n1, y1, z1, m1, e1, _, _, hy1, hz1⟩ := Joins.open_agg2 Try.underlying23 (by kernel_rfl) cellsV (hval 1 23 v1 rfl rfl) h1
  subst e1
  obtain ⟨ka1, f1, _⟩ := DataW.trod_bool Try.underlying4 hy1
  obtain ⟨a1, g1, _, w1⟩ := DataW.trod_int Try.underlying2 hz1
  simp only [List.cons.injEq, and_true] at f1 g1
  subst f1; subst g1
  have k2 := h2
  have lt2 : ∀ x ∈ p2, x.block < W.heap.size := by obtain ⟨m, hm⟩ := k2; exact DataW.trod_lt m _ _ _ hm
  obtain ⟨c2, n2, y2, z2, m2, e2, _, _, hy2, hz2⟩ := Joins.open_agg2 Try.underlying23 (by kernel_rfl) cellsV (hval 2 23 v2 rfl rfl) h2
  subst e2
  obtain ⟨ka2, f2, _⟩ := DataW.trod_bool Try.underlying4 hy2
  obtain ⟨a2, g2, _, w2⟩ := DataW.trod_int Try.underlying2 hz2
  simp only [List.cons.injEq, and_true] at f2 g2
  subst f2; subst g2
  clear hA0 hval0
  refine (walk ka0 a0 w0 ka1 a1 w1 ka2 a2 w2 W).mono fun e W' ⟨he, bel⟩ => ?_
  subst he
  exact ⟨_, rfl, _, _, _, [], _, [], hW', trodAll_mk1 (shut_bool Try.underlying4 _), (trodAll_cons_mk (Below.trod laidOut (by kernel_rfl) (of_decide_eq_true (by kernel_rfl)) k0 bel lt0) (trodAll_cons_mk (Below.trod laidOut (by kernel_rfl) (of_decide_eq_true (by kernel_rfl)) k1 bel lt1) (trodAll_cons_mk (Below.trod laidOut (by kernel_rfl) (of_decide_eq_true (by kernel_rfl)) k2 bel lt2) trodAll_mk0))), rfl, bel.frame _, fun h => by cases h⟩

theorem over : Rows.numRingRow.holds Try.pinned (OpenSpec.ofChange Rows.numRingSpec) :=
  OpenClaim.holds_of_wide 4 Try.f4 rfl rfl rfl rfl rfl rfl rfl ⟨rfl, rfl, rfl, rfl, rfl⟩ rfl rfl rfl rfl rfl (by kernel_rfl) Try.func4 (by kernel_rfl)
    (of_decide_eq_true (by kernel_rfl)) (by unfold Func.isWrapper; first | (rw [if_pos (by decide +kernel)]; kernel_rfl) | (rw [if_neg (by decide +kernel)]; exact ⟨rfl, rfl⟩))
    (fun os started H enc _ => lifted os started H enc)

end Go.Proofs.Ytcjldhnjcmhfhab.numRing
namespace Go.Proofs.Ytcjldhnjcmhfhab
theorem numRing_holds : Rows.NumRingSaid := numRing.over
#print axioms numRing_holds
end Go.Proofs.Ytcjldhnjcmhfhab
