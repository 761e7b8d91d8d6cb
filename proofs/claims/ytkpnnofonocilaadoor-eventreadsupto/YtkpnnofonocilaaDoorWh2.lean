/- What the document's head comes to. -/
import Derived.Test.YtkpnnofonocilaaDoorWh
namespace Go.Proofs.YtkpnnofonocilaaDoor
open Go.RowKit Go.BigFrame
set_option linter.unusedVariables false
set_option linter.unusedSimpArgs false

/-- The first three words. -/
def hdR (s : ByteArray) (L : List Ty) : (Int × Int × Int) × Int × Nat :=
  match numO (wd s (nth s 0)) with
  | none => ((0, 0, 0), 26, 0)
  | some ts => if safeB ts = false then ((0, 0, 0), 29, 0) else
    match idO (wd s (nth s 1)) with
    | none => ((0, 0, 0), 26, 1)
    | some id => if ¬ wA s (nth s 2) < s.size then ((0, 0, 0), 26, 2) else if typeI L (wd s (nth s 2)) < 0 then ((0, 0, 0), 27, 2) else ((ts, (id : Int), typeI L (wd s (nth s 2))), 0, 0)

set_option maxRecDepth 100000 in
set_option maxHeartbeats 8000000 in
theorem refHead_any (s : ByteArray) (hs : s.size ≤ 2000000) (ao : Option Addr) (n c : Nat) (L : List Ty) (bo : Option Addr) (m cb : Nat) (w : World) (T : IsTypes w ao n L) {B : Nat} (h : IsWs w s B bo m) :
    Calls Tryd.prog 34 #[.agg #[.slice ao n c], .string s, .slice bo m cb] w fun e w' => e = .returned (.tuple #[.agg (evC ⟨(hdR s L).1.1, (hdR s L).1.2.1, (hdR s L).1.2.2, 0, 0, 0, 0, 0, 0, 0, 0⟩), .int .i64 (hdR s L).2.1, .int .i64 (hdR s L).2.2]) ∧ Below w.heap.size w w' := by
  obtain ⟨z, hz⟩ : ∃ z, hdR s L = z := ⟨_, rfl⟩
  rw [hz]
  have hz' := hz.symm
  unfold hdR at hz'
  clear hz
  have cW : ∀ (u : World) (g : Below w.heap.size w u) (i : Nat) (hi : i ≤ 100), Calls Tryd.prog 36 #[.string s, .slice bo m cb, .int .i64 (i : Nat)] u fun e w' => e = .returned (.string (wd s (nth s i))) ∧ Below u.heap.size u w' := fun u g i hi => refWordOf_any s hs bo m cb i hi u (h.keep g)
  have cW0 : ∀ (u : World) (g : Below w.heap.size w u), Calls Tryd.prog 36 #[.string s, .slice bo m cb, .int .i64 0] u fun e w' => e = .returned (.string (wd s (nth s 0))) ∧ Below u.heap.size u w' := fun u g => cW u g 0 (by omega)
  have cW1 : ∀ (u : World) (g : Below w.heap.size w u), Calls Tryd.prog 36 #[.string s, .slice bo m cb, .int .i64 1] u fun e w' => e = .returned (.string (wd s (nth s 1))) ∧ Below u.heap.size u w' := fun u g => cW u g 1 (by omega)
  have cW2 : ∀ (u : World) (g : Below w.heap.size w u), Calls Tryd.prog 36 #[.string s, .slice bo m cb, .int .i64 2] u fun e w' => e = .returned (.string (wd s (nth s 2))) ∧ Below u.heap.size u w' := fun u g => cW u g 2 (by omega)
  have cT : ∀ (u : World) (g : Below w.heap.size w u), Calls Tryd.prog 58 #[.agg #[.slice ao n c], .string (wd s (nth s 2))] u fun e w' => e = .returned (.int .i64 (typeI L (wd s (nth s 2)))) ∧ Below u.heap.size u w' := fun u g => refTypeOf_any ao n c L (wd s (nth s 2)) u (T.keep g)
  have cM := fun (u : World) => refNumber_any (wd s (nth s 0)) (by have := wd_size s (nth s 0); omega) u
  have cI := fun (u : World) => refID_any (wd s (nth s 1)) (by have := wd_size s (nth s 1); omega) u
  have hiff := h.iff 2
  have B0 : Below w.heap.size w (((w.alloc (.cells #[.slice ao n c] 24)).alloc (.cells #[.int .i64 0, .int .u64 0, .int .i64 0, .int .i64 0, .int .i64 0, .int .i64 0, .int .i64 0, .int .i64 0, .int .i64 0, .int .i64 0, .int .i64 0] 44)).alloc (.cells #[.int .i64 0, .int .u64 0, .int .i64 0, .int .i64 0, .int .i64 0, .int .i64 0, .int .i64 0, .int .i64 0, .int .i64 0, .int .i64 0, .int .i64 0] 44)) := galloc (galloc (galloc (Below.refl _ _) _) _) _
  have O0 : One (((w.alloc (.cells #[.slice ao n c] 24)).alloc (.cells #[.int .i64 0, .int .u64 0, .int .i64 0, .int .i64 0, .int .i64 0, .int .i64 0, .int .i64 0, .int .i64 0, .int .i64 0, .int .i64 0, .int .i64 0] 44)).alloc (.cells #[.int .i64 0, .int .u64 0, .int .i64 0, .int .i64 0, .int .i64 0, .int .i64 0, .int .i64 0, .int .i64 0, .int .i64 0, .int .i64 0, .int .i64 0] 44)) w.heap.size (.slice ao n c) 24 := ((One.new w _ _).alloc _).alloc _
  have Z0 : Evt (((w.alloc (.cells #[.slice ao n c] 24)).alloc (.cells #[.int .i64 0, .int .u64 0, .int .i64 0, .int .i64 0, .int .i64 0, .int .i64 0, .int .i64 0, .int .i64 0, .int .i64 0, .int .i64 0, .int .i64 0] 44)).alloc (.cells #[.int .i64 0, .int .u64 0, .int .i64 0, .int .i64 0, .int .i64 0, .int .i64 0, .int .i64 0, .int .i64 0, .int .i64 0, .int .i64 0, .int .i64 0] 44)) (w.heap.size + 1) zeroE := by
    have := (Evt.new (w.alloc (.cells #[.slice ao n c] 24)) zeroE).alloc (.cells #[.int .i64 0, .int .u64 0, .int .i64 0, .int .i64 0, .int .i64 0, .int .i64 0, .int .i64 0, .int .i64 0, .int .i64 0, .int .i64 0, .int .i64 0] 44)
    rw [show (w.alloc (.cells #[.slice ao n c] 24)).heap.size = w.heap.size + 1 by simp] at this
    exact this
  have Z1 : Evt (((w.alloc (.cells #[.slice ao n c] 24)).alloc (.cells #[.int .i64 0, .int .u64 0, .int .i64 0, .int .i64 0, .int .i64 0, .int .i64 0, .int .i64 0, .int .i64 0, .int .i64 0, .int .i64 0, .int .i64 0] 44)).alloc (.cells #[.int .i64 0, .int .u64 0, .int .i64 0, .int .i64 0, .int .i64 0, .int .i64 0, .int .i64 0, .int .i64 0, .int .i64 0, .int .i64 0, .int .i64 0] 44)) (w.heap.size + 1 + 1) zeroE := by
    have := Evt.new ((w.alloc (.cells #[.slice ao n c] 24)).alloc (.cells #[.int .i64 0, .int .u64 0, .int .i64 0, .int .i64 0, .int .i64 0, .int .i64 0, .int .i64 0, .int .i64 0, .int .i64 0, .int .i64 0, .int .i64 0] 44)) zeroE
    rw [show ((w.alloc (.cells #[.slice ao n c] 24)).alloc (.cells #[.int .i64 0, .int .u64 0, .int .i64 0, .int .i64 0, .int .i64 0, .int .i64 0, .int .i64 0, .int .i64 0, .int .i64 0, .int .i64 0, .int .i64 0] 44)).heap.size = w.heap.size + 1 + 1 by simp] at this
    exact this
  clear cW
  generalize wd s (nth s 0) = x0 at *
  generalize wd s (nth s 1) = x1 at *
  generalize wd s (nth s 2) = x2 at *
  generalize typeI L x2 = ty at *
  cases h1 : numO x0 with
  | none =>
    rw [h1] at hz' cM
    have HZ : Hid (z = ((0, 0, 0), 26, 0)) := hz'
    clear hz'
    go_enter Tryd.func34, Tryd.ntmps34
    go_wp2_with (first
      | (go_at_call 36; with_reducible refine (cW0 _ B0).mono ?_; rintro e1 u1 ⟨rfl, g1⟩)
      | (go_at_call 35; with_reducible refine (cM _).mono ?_; rintro e1 u2 ⟨rfl, g2⟩; have Az := Z0.keep (gtrans g1 g2); have Ae := Z1.keep (gtrans g1 g2); obtain ⟨k0, k1, k2, k3, k4, k5, k6, k7, k8, k9, k10⟩ := (show Evt _ (w.heap.size + 1) ⟨0, 0, 0, 0, 0, 0, 0, 0, 0, 0, 0⟩ from Az).all; obtain ⟨o0, o1, o2, o3, o4, o5, o6, o7, o8, o9, o10⟩ := (show Evt _ (w.heap.size + 1 + 1) ⟨0, 0, 0, 0, 0, 0, 0, 0, 0, 0, 0⟩ from Ae).all; have f0 := Az.free 0; have f1 := Az.free 1; have f2 := Az.free 2; have f3 := Az.free 3; have f4 := Az.free 4; have f5 := Az.free 5; have f6 := Az.free 6; have f7 := Az.free 7; have f8 := Az.free 8; have f9 := Az.free 9; have f10 := Az.free 10))
    refine bodyPost_ret (results_row_tmp2 rfl _ _ (w.heap.size + 1) 44 _ (0, 0) _ rfl (Az.setE 0 0 0 0 0 0 0 0 0 0 0) Tryd.underlying44 rfl infoEv) rfl ⟨by rw [HZ.out]; rfl, below_setE (by omega) (gtrans B0 (gtrans g1 g2)) _ _ _ _ _ _ _ _ _ _ _⟩
  | some ts =>
    rw [h1] at hz' cM
    simp only [Option.getD_some, Option.isSome_some] at cM
    cases h2 : safeB ts
    · have HZ : Hid (z = ((0, 0, 0), 29, 0)) := by show _ = _; rw [hz']; simp only [h2, if_true]
      have hr : ¬ (-1152921504606846976 ≤ ts ∧ ts ≤ 1152921504606846976) := of_decide_eq_false h2
      clear hz' h2
      by_cases hlo : ts < -1152921504606846976
      all_goals
        go_enter Tryd.func34, Tryd.ntmps34
        go_wp2_with (first
          | (go_at_call 36; with_reducible refine (cW0 _ B0).mono ?_; rintro e1 u1 ⟨rfl, g1⟩)
          | (go_at_call 35; with_reducible refine (cM _).mono ?_; rintro e1 u2 ⟨rfl, g2⟩; have hhi : ¬ ts < -1152921504606846976 → 1152921504606846976 < ts := (fun hq => by omega); have Az := Z0.keep (gtrans g1 g2); have Ae := Z1.keep (gtrans g1 g2); obtain ⟨k0, k1, k2, k3, k4, k5, k6, k7, k8, k9, k10⟩ := (show Evt _ (w.heap.size + 1) ⟨0, 0, 0, 0, 0, 0, 0, 0, 0, 0, 0⟩ from Az).all; obtain ⟨o0, o1, o2, o3, o4, o5, o6, o7, o8, o9, o10⟩ := (show Evt _ (w.heap.size + 1 + 1) ⟨0, 0, 0, 0, 0, 0, 0, 0, 0, 0, 0⟩ from Ae).all; have f0 := Az.free 0; have f1 := Az.free 1; have f2 := Az.free 2; have f3 := Az.free 3; have f4 := Az.free 4; have f5 := Az.free 5; have f6 := Az.free 6; have f7 := Az.free 7; have f8 := Az.free 8; have f9 := Az.free 9; have f10 := Az.free 10))
        refine bodyPost_ret (results_row_tmp2 rfl _ _ (w.heap.size + 1) 44 _ (0, 0) _ rfl (Az.setE 0 0 0 0 0 0 0 0 0 0 0) Tryd.underlying44 rfl infoEv) rfl ⟨by rw [HZ.out]; rfl, below_setE (by omega) (gtrans B0 (gtrans g1 g2)) _ _ _ _ _ _ _ _ _ _ _⟩
    simp only [h2, Bool.true_eq_false, if_false] at hz'
    have hr : -1152921504606846976 ≤ ts ∧ ts ≤ 1152921504606846976 := of_decide_eq_true h2
    have r1 : ¬ ts < -1152921504606846976 := by omega
    have r2 : ¬ 1152921504606846976 < ts := by omega
    clear hr h2
    cases h3 : idO x1 with
    | none =>
      rw [h3] at hz' cI
      have HZ : Hid (z = ((0, 0, 0), 26, 1)) := hz'
      clear hz'
      go_enter Tryd.func34, Tryd.ntmps34
      go_wp2_with (first
        | (go_at_call 36; with_reducible refine (cW0 _ B0).mono ?_; rintro e1 u1 ⟨rfl, g1⟩)
        | (go_at_call 35; with_reducible refine (cM _).mono ?_; rintro e1 u2 ⟨rfl, g2⟩; have G2 := gtrans g1 g2)
        | (go_at_call 36; with_reducible refine (cW1 _ (gtrans B0 G2)).mono ?_; rintro e1 u3 ⟨rfl, g3⟩)
        | (go_at_call 57; with_reducible refine (cI _).mono ?_; rintro e1 u4 ⟨rfl, g4⟩; have G4 := gtrans (gtrans G2 g3) g4; have Az := Z0.keep (G4); have Ae := Z1.keep (G4); obtain ⟨k0, k1, k2, k3, k4, k5, k6, k7, k8, k9, k10⟩ := (show Evt _ (w.heap.size + 1) ⟨0, 0, 0, 0, 0, 0, 0, 0, 0, 0, 0⟩ from Az).all; obtain ⟨o0, o1, o2, o3, o4, o5, o6, o7, o8, o9, o10⟩ := (show Evt _ (w.heap.size + 1 + 1) ⟨0, 0, 0, 0, 0, 0, 0, 0, 0, 0, 0⟩ from Ae).all; have f0 := Az.free 0; have f1 := Az.free 1; have f2 := Az.free 2; have f3 := Az.free 3; have f4 := Az.free 4; have f5 := Az.free 5; have f6 := Az.free 6; have f7 := Az.free 7; have f8 := Az.free 8; have f9 := Az.free 9; have f10 := Az.free 10))
      refine bodyPost_ret (results_row_tmp2 rfl _ _ (w.heap.size + 1) 44 _ (0, 0) _ rfl (Az.setE 0 0 0 0 0 0 0 0 0 0 0) Tryd.underlying44 rfl infoEv) rfl ⟨by rw [HZ.out]; rfl, below_setE (by omega) (gtrans B0 (G4)) _ _ _ _ _ _ _ _ _ _ _⟩
    | some id =>
      rw [h3] at hz' cI
      simp only [Option.getD_some, Option.isSome_some] at cI
      by_cases hpr : wA s (nth s 2) < s.size
      · have q1 : ¬ (m : Int) < 3 := by have := hiff.2 hpr; omega
        simp only [if_neg (Decidable.not_not.2 hpr)] at hz'
        by_cases ht : ty < 0
        · have HZ : Hid (z = ((0, 0, 0), 27, 2)) := by show _ = _; rw [hz', if_pos ht]
          clear hz'
          go_enter Tryd.func34, Tryd.ntmps34
          go_wp2_with (first
            | (go_at_call 36; with_reducible refine (cW0 _ B0).mono ?_; rintro e1 u1 ⟨rfl, g1⟩)
            | (go_at_call 35; with_reducible refine (cM _).mono ?_; rintro e1 u2 ⟨rfl, g2⟩; have G2 := gtrans g1 g2)
            | (go_at_call 36; with_reducible refine (cW1 _ (gtrans B0 G2)).mono ?_; rintro e1 u3 ⟨rfl, g3⟩)
            | (go_at_call 57; with_reducible refine (cI _).mono ?_; rintro e1 u4 ⟨rfl, g4⟩; have G4 := gtrans (gtrans G2 g3) g4; have s4 := (O0.keep G4).at0))
          have OS := O0.keep G4
          have p0 := fun z : Ext u4 => (z.cell _ _ OS.lt).trans OS.at0
          have yW : ∀ z : Ext u4, Calls Tryd.prog 36 #[.string s, .slice bo m cb, .int .i64 2] z.X (fun e' w'' => e' = .returned (.string x2) ∧ ∃ m : Ext u4, w'' = m.X) := fun z => ext_of (cW2 z.X (gtrans (gtrans B0 G4) z.h))
          have yT : ∀ z : Ext u4, Calls Tryd.prog 58 #[.agg #[.slice ao n c], .string x2] z.X (fun e' w'' => e' = .returned (.int .i64 ty) ∧ ∃ m : Ext u4, w'' = m.X) := fun z => ext_of (cT z.X (gtrans (gtrans B0 G4) z.h))
          have hne : Nonempty (Ext u4) := ⟨⟨_, Below.refl _ _⟩⟩
          refine wp_region_ext (by kernel_rfl) (by kernel_rfl) ?_
          repeat (go_big_quiet_step (first | (go_at_call 36; with_reducible exact yW _) | (go_at_call 58; with_reducible exact yT _)))
          refine wpQuiet_nil ?_
          intro _ hw'
          obtain ⟨nxw, hw''⟩ := hw'
          subst hw''
          have G6 := gtrans G4 nxw.h
          clear p0 yW yT hne OS
          generalize nxw.X = u6 at *
          have Az := Z0.keep (G6)
          have Ae := Z1.keep (G6)
          obtain ⟨k0, k1, k2, k3, k4, k5, k6, k7, k8, k9, k10⟩ := (show Evt _ (w.heap.size + 1) ⟨0, 0, 0, 0, 0, 0, 0, 0, 0, 0, 0⟩ from Az).all
          obtain ⟨o0, o1, o2, o3, o4, o5, o6, o7, o8, o9, o10⟩ := (show Evt _ (w.heap.size + 1 + 1) ⟨0, 0, 0, 0, 0, 0, 0, 0, 0, 0, 0⟩ from Ae).all
          have f0 := Az.free 0
          have f1 := Az.free 1
          have f2 := Az.free 2
          have f3 := Az.free 3
          have f4 := Az.free 4
          have f5 := Az.free 5
          have f6 := Az.free 6
          have f7 := Az.free 7
          have f8 := Az.free 8
          have f9 := Az.free 9
          have f10 := Az.free 10
          go_wp2
          refine bodyPost_ret (results_row_tmp2 rfl _ _ (w.heap.size + 1) 44 _ (0, 0) _ rfl (Az.setE 0 0 0 0 0 0 0 0 0 0 0) Tryd.underlying44 rfl infoEv) rfl ⟨by rw [HZ.out]; rfl, below_setE (by omega) (gtrans B0 (G6)) _ _ _ _ _ _ _ _ _ _ _⟩
        · have HZ : Hid (z = ((ts, (id : Int), ty), 0, 0)) := by show _ = _; rw [hz', if_neg ht]
          clear hz'
          go_enter Tryd.func34, Tryd.ntmps34
          go_wp2_with (first
            | (go_at_call 36; with_reducible refine (cW0 _ B0).mono ?_; rintro e1 u1 ⟨rfl, g1⟩)
            | (go_at_call 35; with_reducible refine (cM _).mono ?_; rintro e1 u2 ⟨rfl, g2⟩; have G2 := gtrans g1 g2)
            | (go_at_call 36; with_reducible refine (cW1 _ (gtrans B0 G2)).mono ?_; rintro e1 u3 ⟨rfl, g3⟩)
            | (go_at_call 57; with_reducible refine (cI _).mono ?_; rintro e1 u4 ⟨rfl, g4⟩; have G4 := gtrans (gtrans G2 g3) g4; have s4 := (O0.keep G4).at0))
          have OS := O0.keep G4
          have p0 := fun z : Ext u4 => (z.cell _ _ OS.lt).trans OS.at0
          have yW : ∀ z : Ext u4, Calls Tryd.prog 36 #[.string s, .slice bo m cb, .int .i64 2] z.X (fun e' w'' => e' = .returned (.string x2) ∧ ∃ m : Ext u4, w'' = m.X) := fun z => ext_of (cW2 z.X (gtrans (gtrans B0 G4) z.h))
          have yT : ∀ z : Ext u4, Calls Tryd.prog 58 #[.agg #[.slice ao n c], .string x2] z.X (fun e' w'' => e' = .returned (.int .i64 ty) ∧ ∃ m : Ext u4, w'' = m.X) := fun z => ext_of (cT z.X (gtrans (gtrans B0 G4) z.h))
          have hne : Nonempty (Ext u4) := ⟨⟨_, Below.refl _ _⟩⟩
          refine wp_region_ext (by kernel_rfl) (by kernel_rfl) ?_
          repeat (go_big_quiet_step (first | (go_at_call 36; with_reducible exact yW _) | (go_at_call 58; with_reducible exact yT _)))
          refine wpQuiet_nil ?_
          intro _ hw'
          obtain ⟨nxw, hw''⟩ := hw'
          subst hw''
          have G6 := gtrans G4 nxw.h
          clear p0 yW yT hne OS
          generalize nxw.X = u6 at *
          have Az := Z0.keep (G6)
          have Ae := Z1.keep (G6)
          obtain ⟨k0, k1, k2, k3, k4, k5, k6, k7, k8, k9, k10⟩ := (show Evt _ (w.heap.size + 1) ⟨0, 0, 0, 0, 0, 0, 0, 0, 0, 0, 0⟩ from Az).all
          obtain ⟨o0, o1, o2, o3, o4, o5, o6, o7, o8, o9, o10⟩ := (show Evt _ (w.heap.size + 1 + 1) ⟨0, 0, 0, 0, 0, 0, 0, 0, 0, 0, 0⟩ from Ae).all
          have f0 := Az.free 0
          have f1 := Az.free 1
          have f2 := Az.free 2
          have f3 := Az.free 3
          have f4 := Az.free 4
          have f5 := Az.free 5
          have f6 := Az.free 6
          have f7 := Az.free 7
          have f8 := Az.free 8
          have f9 := Az.free 9
          have f10 := Az.free 10
          go_wp2
          refine bodyPost_ret (results_row_tmp2 rfl _ _ (w.heap.size + 1) 44 _ (0, 0) _ rfl (Az.setE ts ((id : Int)) ty 0 0 0 0 0 0 0 0) Tryd.underlying44 rfl infoEv) rfl ⟨by rw [HZ.out]; rfl, below_setE (by omega) (gtrans B0 (G6)) _ _ _ _ _ _ _ _ _ _ _⟩
      · have q1 : (m : Int) < 3 := by have : ¬ 2 < m := fun h2 => hpr (hiff.1 h2); omega
        have HZ : Hid (z = ((0, 0, 0), 26, 2)) := by show _ = _; rw [hz']; simp only [if_pos hpr]
        clear hz'
        go_enter Tryd.func34, Tryd.ntmps34
        go_wp2_with (first
          | (go_at_call 36; with_reducible refine (cW0 _ B0).mono ?_; rintro e1 u1 ⟨rfl, g1⟩)
          | (go_at_call 35; with_reducible refine (cM _).mono ?_; rintro e1 u2 ⟨rfl, g2⟩; have G2 := gtrans g1 g2)
          | (go_at_call 36; with_reducible refine (cW1 _ (gtrans B0 G2)).mono ?_; rintro e1 u3 ⟨rfl, g3⟩)
          | (go_at_call 57; with_reducible refine (cI _).mono ?_; rintro e1 u4 ⟨rfl, g4⟩; have G4 := gtrans (gtrans G2 g3) g4; have Az := Z0.keep (G4); have Ae := Z1.keep (G4); obtain ⟨k0, k1, k2, k3, k4, k5, k6, k7, k8, k9, k10⟩ := (show Evt _ (w.heap.size + 1) ⟨0, 0, 0, 0, 0, 0, 0, 0, 0, 0, 0⟩ from Az).all; obtain ⟨o0, o1, o2, o3, o4, o5, o6, o7, o8, o9, o10⟩ := (show Evt _ (w.heap.size + 1 + 1) ⟨0, 0, 0, 0, 0, 0, 0, 0, 0, 0, 0⟩ from Ae).all; have f0 := Az.free 0; have f1 := Az.free 1; have f2 := Az.free 2; have f3 := Az.free 3; have f4 := Az.free 4; have f5 := Az.free 5; have f6 := Az.free 6; have f7 := Az.free 7; have f8 := Az.free 8; have f9 := Az.free 9; have f10 := Az.free 10))
        refine bodyPost_ret (results_row_tmp2 rfl _ _ (w.heap.size + 1) 44 _ (0, 0) _ rfl (Az.setE 0 0 0 0 0 0 0 0 0 0 0) Tryd.underlying44 rfl infoEv) rfl ⟨by rw [HZ.out]; rfl, below_setE (by omega) (gtrans B0 (G4)) _ _ _ _ _ _ _ _ _ _ _⟩

end Go.Proofs.YtkpnnofonocilaaDoor
