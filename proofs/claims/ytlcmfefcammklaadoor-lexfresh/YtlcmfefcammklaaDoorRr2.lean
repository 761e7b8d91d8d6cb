/- The document's second, starts, ends. -/
import Derived.Test.YtlcmfefcammklaaDoorRr1
namespace Go.Proofs.YtlcmfefcammklaaDoor
open Go.RowKit Go.BigFrame
set_option linter.unusedVariables false
set_option linter.unusedSimpArgs false

set_option maxRecDepth 100000 in
set_option maxHeartbeats 4000000 in
theorem refSecond_any (s : ByteArray) (hs : s.size ≤ 8192) (g i : Nat) (hi : i < s.size) (w : World) (R : w.rowIs g 3 s.size (rolV s)) :
    Calls Tryd.prog 41 #[.string s, .slice (some ⟨g, 0, none⟩) s.size s.size, .int .i64 (i : Int)] w fun e w' => e = .returned (.bool (secB s i)) ∧ w = w' := by
  have hby := fun t h => byteW s t h Tryd.prog 9 (by kernel_rfl)
  have i1 := hby i hi
  rw [show ((s.data.getD i 0).toNat : Int) = bt s i from rfl] at i1
  have r1 := R.cell hi
  unfold rolV at r1
  obtain ⟨b, hb⟩ : ∃ b, secB s i = b := ⟨_, rfl⟩
  rw [hb]
  have HB : Hid (secB s i = b) := hb
  clear hb
  cases i with
  | zero =>
    clear hby
    have HB2 : b = false := by rw [← HB.out]; unfold secB; simp
    subst HB2
    generalize s.size = n at *
    go_enter Tryd.func41, Tryd.ntmps41
    go_wp2
    go_ret
    exact ⟨rfl, rfl⟩
  | succ j =>
    have i0 := hby j (by omega)
    rw [show ((s.data.getD j 0).toNat : Int) = bt s j from rfl] at i0
    have r0 := R.cell (i := j) (by omega)
    unfold rolV at r0
    clear hby
    have HE : secB s (j + 1) = decide (bt s (j + 1) = 61 ∧ roleI s (j + 1) = 2 ∧ roleI s j = 2 ∧ (bt s j = 33 ∨ bt s j = 60 ∨ bt s j = 62)) := by
      unfold secB
      rw [Nat.add_sub_cancel]
      simp
    have HD : Hid (decide (bt s (j + 1) = 61 ∧ roleI s (j + 1) = 2 ∧ roleI s j = 2 ∧ (bt s j = 33 ∨ bt s j = 60 ∨ bt s j = 62)) = b) := by rw [← HE]; exact HB.out
    clear HE HB
    generalize bt s (j + 1) = b1 at *
    generalize bt s j = b0 at *
    generalize roleI s (j + 1) = o1 at *
    generalize roleI s j = o0 at *
    generalize s.size = n at *
    have q0 : ((j : Int) + 1 == 0) = false := by simp; omega
    rw [show ((j + 1 : Nat) : Int) = (j : Int) + 1 by omega] at i1 ⊢
    cases a61 : (b1 != 61)
    · skip
      cases p1 : (o1 != 2)
      · skip
        cases p0 : (o0 != 2)
        · skip
          cases a33 : (b0 == 33)
          · skip
            cases a60 : (b0 == 60)
            · skip
              cases a62 : (b0 == 62)
              · skip
                go_enter Tryd.func41, Tryd.ntmps41
                go_wp2
                go_ret
                refine ⟨congrArg (fun b => Ending.returned (Value.bool b)) (Eq.trans ?_ HD.out), rfl⟩
                simp only [beq_iff_eq, beq_eq_false_iff_ne, ne_eq, bne_iff_ne, bne_eq_false_iff_eq] at a61 p1 p0 a33 a60 a62
                first | exact (decide_eq_true (by omega)).symm | exact (decide_eq_false (by omega)).symm
              · skip
                go_enter Tryd.func41, Tryd.ntmps41
                go_wp2
                go_ret
                refine ⟨congrArg (fun b => Ending.returned (Value.bool b)) (Eq.trans ?_ HD.out), rfl⟩
                simp only [beq_iff_eq, beq_eq_false_iff_ne, ne_eq, bne_iff_ne, bne_eq_false_iff_eq] at a61 p1 p0 a33 a60 a62
                first | exact (decide_eq_true (by omega)).symm | exact (decide_eq_false (by omega)).symm
            · skip
              go_enter Tryd.func41, Tryd.ntmps41
              go_wp2
              go_ret
              refine ⟨congrArg (fun b => Ending.returned (Value.bool b)) (Eq.trans ?_ HD.out), rfl⟩
              simp only [beq_iff_eq, beq_eq_false_iff_ne, ne_eq, bne_iff_ne, bne_eq_false_iff_eq] at a61 p1 p0 a33 a60
              first | exact (decide_eq_true (by omega)).symm | exact (decide_eq_false (by omega)).symm
          · skip
            go_enter Tryd.func41, Tryd.ntmps41
            go_wp2
            go_ret
            refine ⟨congrArg (fun b => Ending.returned (Value.bool b)) (Eq.trans ?_ HD.out), rfl⟩
            simp only [beq_iff_eq, beq_eq_false_iff_ne, ne_eq, bne_iff_ne, bne_eq_false_iff_eq] at a61 p1 p0 a33
            first | exact (decide_eq_true (by omega)).symm | exact (decide_eq_false (by omega)).symm
        · skip
          go_enter Tryd.func41, Tryd.ntmps41
          go_wp2
          go_ret
          refine ⟨congrArg (fun b => Ending.returned (Value.bool b)) (Eq.trans ?_ HD.out), rfl⟩
          simp only [beq_iff_eq, beq_eq_false_iff_ne, ne_eq, bne_iff_ne, bne_eq_false_iff_eq] at a61 p1 p0
          first | exact (decide_eq_true (by omega)).symm | exact (decide_eq_false (by omega)).symm
      · skip
        go_enter Tryd.func41, Tryd.ntmps41
        go_wp2
        go_ret
        refine ⟨congrArg (fun b => Ending.returned (Value.bool b)) (Eq.trans ?_ HD.out), rfl⟩
        simp only [beq_iff_eq, beq_eq_false_iff_ne, ne_eq, bne_iff_ne, bne_eq_false_iff_eq] at a61 p1
        first | exact (decide_eq_true (by omega)).symm | exact (decide_eq_false (by omega)).symm
    · skip
      go_enter Tryd.func41, Tryd.ntmps41
      go_wp2
      go_ret
      refine ⟨congrArg (fun b => Ending.returned (Value.bool b)) (Eq.trans ?_ HD.out), rfl⟩
      simp only [beq_iff_eq, beq_eq_false_iff_ne, ne_eq, bne_iff_ne, bne_eq_false_iff_eq] at a61
      first | exact (decide_eq_true (by omega)).symm | exact (decide_eq_false (by omega)).symm

end Go.Proofs.YtlcmfefcammklaaDoor
