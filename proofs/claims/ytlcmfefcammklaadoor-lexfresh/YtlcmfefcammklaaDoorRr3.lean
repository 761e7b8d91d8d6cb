/- The document's starts and ends. -/
import Derived.Test.YtlcmfefcammklaaDoorRr2
namespace Go.Proofs.YtlcmfefcammklaaDoor
open Go.RowKit Go.BigFrame
set_option linter.unusedVariables false
set_option linter.unusedSimpArgs false

theorem rolE_stop {s : ByteArray} {p : Nat} (h : ¬ p < s.size ∨ roleI s p ≠ 1) : rolE s p = p := by
  unfold rolE
  rcases h with h | h
  · rw [dif_neg h]
  · split
    · first | rfl | rw [if_neg h]
    · rfl
theorem rolE_on {s : ByteArray} {p : Nat} (h : p < s.size) (hf : roleI s p = 1) : rolE s p = rolE s (p + 1) := by
  rw [rolE, dif_pos h, if_pos hf]

set_option maxRecDepth 100000 in
set_option maxHeartbeats 4000000 in
theorem refStarts_any (s : ByteArray) (hs : s.size ≤ 8192) (g i : Nat) (hi : i < s.size) (w : World) (R : w.rowIs g 3 s.size (rolV s)) :
    Calls Tryd.prog 25 #[.string s, .slice (some ⟨g, 0, none⟩) s.size s.size, .int .i64 (i : Int)] w fun e w' => e = .returned (.bool (staB s i)) ∧ w = w' := by
  have r1 := R.cell hi
  unfold rolV at r1
  have c2 := refSecond_any s hs g i hi w R
  obtain ⟨b, hb⟩ : ∃ b, staB s i = b := ⟨_, rfl⟩
  rw [hb]
  have HB : Hid (staB s i = b) := hb
  clear hb
  cases a1 : (roleI s i == 1)
  · cases a2 : (roleI s i == 2)
    · have HD : Hid (decide (roleI s i = 3) = b) := by
        show _ = _
        rw [← HB.out]; unfold staB
        rw [if_neg (by simpa using a1), if_neg (by simpa using a2)]
      clear HB c2
      generalize roleI s i = o1 at *
      cases a3 : (o1 == 3)
      all_goals
        generalize s.size = n at *
        go_enter Tryd.func25, Tryd.ntmps25
        go_wp2
        go_ret
        refine ⟨congrArg (fun b => Ending.returned (Value.bool b)) (Eq.trans ?_ HD.out), rfl⟩
        simp only [beq_iff_eq, beq_eq_false_iff_ne, ne_eq] at a3
        first | exact (decide_eq_true (by omega)).symm | exact (decide_eq_false (by omega)).symm
    · have HD : Hid ((!secB s i) = b) := by
        show _ = _
        rw [← HB.out]; unfold staB
        rw [if_neg (by simpa using a1), if_pos (by simpa using a2)]
      clear HB
      generalize roleI s i = o1 at *
      generalize secB s i = sb at *
      generalize s.size = n at *
      go_enter Tryd.func25, Tryd.ntmps25
      go_wp2_with (go_at_call 41; with_reducible refine c2.mono ?_; rintro e u ⟨rfl, rfl⟩)
      go_ret
      exact ⟨congrArg (fun b => Ending.returned (Value.bool b)) HD.out, rfl⟩
  · have e1 : roleI s i = 1 := by simpa using a1
    cases i with
    | zero =>
      have HD : b = true := by rw [← HB.out]; unfold staB; rw [if_pos e1]; simp
      subst HD
      clear HB c2
      rw [e1] at r1
      clear a1 e1
      generalize s.size = n at *
      go_enter Tryd.func25, Tryd.ntmps25
      go_wp2
      go_ret
      exact ⟨rfl, rfl⟩
    | succ j =>
      have r0 := R.cell (i := j) (by omega)
      unfold rolV at r0
      have HD : Hid (decide (roleI s j ≠ 1) = b) := by
        show _ = _
        rw [← HB.out]; unfold staB; rw [if_pos e1, Nat.add_sub_cancel]
        simp
      clear HB c2
      rw [e1] at r1
      clear a1 e1
      have q0 : ((j : Int) + 1 == 0) = false := by simp; omega
      rw [show ((j + 1 : Nat) : Int) = (j : Int) + 1 by omega]
      generalize roleI s j = o0 at *
      cases a0 : (o0 != 1)
      all_goals
        generalize s.size = n at *
        go_enter Tryd.func25, Tryd.ntmps25
        go_wp2
        go_ret
        refine ⟨congrArg (fun b => Ending.returned (Value.bool b)) (Eq.trans ?_ HD.out), rfl⟩
        simp only [bne_iff_ne, bne_eq_false_iff_eq, ne_eq] at a0
        first | exact (decide_eq_true (by omega)).symm | exact (decide_eq_false (by omega)).symm

set_option maxRecDepth 100000 in
set_option maxHeartbeats 4000000 in
theorem refEnds_any (s : ByteArray) (hs : s.size ≤ 8192) (g i : Nat) (hi : i < s.size) (w : World) (R : w.rowIs g 3 s.size (rolV s)) :
    Calls Tryd.prog 26 #[.string s, .slice (some ⟨g, 0, none⟩) s.size s.size, .int .i64 (i : Int)] w fun e w' => e = .returned (.int .i64 (endN s i : Int)) ∧ w = w' := by
  obtain ⟨n, hn⟩ : ∃ n, s.size = n := ⟨_, rfl⟩
  have ri := R.cell hi
  unfold rolV at ri
  obtain ⟨oi, hoi⟩ : ∃ oi, roleI s i = oi := ⟨_, rfl⟩
  rw [hoi] at ri
  obtain ⟨z, hz⟩ : ∃ z, z = endN s i := ⟨_, rfl⟩
  rw [← hz]
  have HZ : Hid (z = endN s i) := hz
  clear hz
  rw [hn]
  go_enter Tryd.func26, Tryd.ntmps26
  go_wp2
  go_loop [7] (fun x => ∃ k : Nat, i + 1 ≤ k ∧ k ≤ n ∧ x = .int .i64 k ∧ (roleI s i = 1 → rolE s (i + 1) = rolE s k) ∧ (roleI s i ≠ 1 → k = i + 1)) (fun x => n - (intOf x).toNat)
  case atStart => exact ⟨i + 1, Nat.le_refl _, by omega, by go_num, fun _ => rfl, fun _ => rfl⟩
  case round =>
    obtain ⟨k, hk0, hk, rfl, h1, h2⟩ := hrel
    by_cases hlt : k < n
    · have rk := R.cell (i := k) (by omega)
      unfold rolV at rk
      obtain ⟨ok, hok⟩ : ∃ ok, roleI s k = ok := ⟨_, rfl⟩
      rw [hok] at rk
      cases ak : (ok == 1)
      · have hj : Hid (k = endJ s i) := by
          show _ = _
          unfold endJ
          by_cases e : roleI s i = 1
          · rw [if_pos e, h1 e, rolE_stop (.inr (by rw [hok]; simpa using ak))]
          · rw [if_neg e, h2 e]
        have c2 := refSecond_any s hs g k (by omega) w R
        rw [hn] at c2
        cases hsec : secB s k
        · rw [hsec] at c2
          go_wp2_with (go_at_call 41; with_reducible refine c2.mono ?_; rintro e u ⟨rfl, rfl⟩)
          go_ret
          exact ⟨by rw [show z = k by rw [HZ.out]; unfold endN; rw [← hj.out, if_neg (by rw [hsec]; simp)]]; rfl, rfl⟩
        · rw [hsec] at c2
          go_wp2_with (go_at_call 41; with_reducible refine c2.mono ?_; rintro e u ⟨rfl, rfl⟩)
          go_ret
          exact ⟨by rw [show z = k + 1 by rw [HZ.out]; unfold endN; rw [← hj.out, if_pos ⟨by omega, hsec⟩]]; go_num, rfl⟩
      · cases ai : (oi == 1)
        · have hj : Hid (k = endJ s i) := by
            show _ = _
            have e : roleI s i ≠ 1 := by rw [hoi]; simpa using ai
            unfold endJ
            rw [if_neg e, h2 e]
          have c2 := refSecond_any s hs g k (by omega) w R
          rw [hn] at c2
          cases hsec : secB s k
          · rw [hsec] at c2
            go_wp2_with (go_at_call 41; with_reducible refine c2.mono ?_; rintro e u ⟨rfl, rfl⟩)
            go_ret
            exact ⟨by rw [show z = k by rw [HZ.out]; unfold endN; rw [← hj.out, if_neg (by rw [hsec]; simp)]]; rfl, rfl⟩
          · rw [hsec] at c2
            go_wp2_with (go_at_call 41; with_reducible refine c2.mono ?_; rintro e u ⟨rfl, rfl⟩)
            go_ret
            exact ⟨by rw [show z = k + 1 by rw [HZ.out]; unfold endN; rw [← hj.out, if_pos ⟨by omega, hsec⟩]]; go_num, rfl⟩
        · go_wp2
          go_round
          case rel =>
            refine ⟨k + 1, by omega, by omega, by go_num, fun e => ?_, fun e => ?_⟩
            · rw [h1 e, rolE_on (by omega) (by rw [hok]; simpa using ak)]
            · exact absurd (show roleI s i = 1 by rw [hoi]; simpa using ai) e
          case measure => simp [intOf]; omega
    · obtain rfl : k = n := by omega
      have hj : Hid (k = endJ s i) := by
        show _ = _
        unfold endJ
        by_cases e : roleI s i = 1
        · rw [if_pos e, h1 e, rolE_stop (.inl (by omega))]
        · rw [if_neg e, h2 e]
      go_wp2
      go_ret
      exact ⟨by rw [show z = k by rw [HZ.out]; unfold endN; rw [← hj.out, if_neg (by omega)]]; rfl, rfl⟩

end Go.Proofs.YtlcmfefcammklaaDoor
