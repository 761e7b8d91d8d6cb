/- The document's Tree. -/
import Derived.Test.YtlejhococjlijaaGreatDoorShc
namespace Go.Proofs.YtlejhococjlijaaGreatDoor
open Go.RowKit Go.BigFrame Go.Proofs.YtlejhococjlijaaGreatDoor.Ev
set_option linter.unusedVariables false
set_option linter.unusedSimpArgs false

set_option maxRecDepth 100000 in
set_option maxHeartbeats 4000000 in
theorem refOne_any (o : Int) (w : World) : Calls Tryz.prog 41 #[.int .i64 o] w fun e w' => e = .returned (.bool (decide (o = 12 ∨ o = 13))) ∧ w = w' := by
  obtain ⟨v, hv⟩ : ∃ v, decide (o = 12 ∨ o = 13) = v := ⟨_, rfl⟩
  rw [hv]
  by_cases h1 : o = 12
  · subst h1
    obtain rfl : true = v := hv
    go_enter Tryz.func41, Tryz.ntmps41
    go_wp2
    go_ret
    exact ⟨rfl, rfl⟩
  · have b1 : (o == 12) = false := beq_eq_false_iff_ne.2 h1
    by_cases h2 : o = 13
    · subst h2
      obtain rfl : true = v := hv
      go_enter Tryz.func41, Tryz.ntmps41
      go_wp2
      go_ret
      exact ⟨rfl, rfl⟩
    · have b2 : (o == 13) = false := beq_eq_false_iff_ne.2 h2
      obtain rfl : false = v := by rw [← hv, decide_eq_false (by omega)]
      clear hv
      go_enter Tryz.func41, Tryz.ntmps41
      go_wp2
      go_ret
      exact ⟨rfl, rfl⟩
set_option maxRecDepth 100000 in
set_option maxHeartbeats 4000000 in
theorem refTwo_any (o : Int) (w : World) : Calls Tryz.prog 42 #[.int .i64 o] w fun e w' => e = .returned (.bool (decide (14 ≤ o ∧ o ≤ 26))) ∧ w = w' := by
  obtain ⟨v, hv⟩ : ∃ v, decide (14 ≤ o ∧ o ≤ 26) = v := ⟨_, rfl⟩
  rw [hv]
  by_cases h1 : 14 ≤ o
  · by_cases h2 : o ≤ 26
    · obtain rfl : true = v := by rw [← hv, decide_eq_true ⟨h1, h2⟩]
      clear hv
      go_enter Tryz.func42, Tryz.ntmps42
      go_wp2
      go_ret
      exact ⟨rfl, rfl⟩
    · have d2 : decide (o ≤ 26) = false := decide_eq_false h2
      obtain rfl : false = v := by rw [← hv, decide_eq_false (by omega)]
      clear hv
      go_enter Tryz.func42, Tryz.ntmps42
      go_wp2
      go_ret
      exact ⟨rfl, rfl⟩
  · have d1 : decide (14 ≤ o) = false := decide_eq_false h1
    obtain rfl : false = v := by rw [← hv, decide_eq_false (by omega)]
    clear hv
    go_enter Tryz.func42, Tryz.ntmps42
    go_wp2
    go_ret
    exact ⟨rfl, rfl⟩

theorem ne_toList {s : ByteArray} (h : s ≠ eS) : (s.toList == ([] : List UInt8)) = false ∧ (s == (⟨#[]⟩ : ByteArray)) = false ∧ s.toList ≠ [] := by
  have h0 : eS.toList = [] := by rw [ByteArray.toList_eq]
  have h1 : s.toList ≠ [] := fun e => h (bytes_inj.1 (by rw [e, h0]))
  exact ⟨beq_eq_false_iff_ne.2 h1, by rw [beq_toListBytes, h0]; exact beq_eq_false_iff_ne.2 h1, h1⟩
set_option maxRecDepth 100000 in
set_option maxHeartbeats 8000000 in
theorem refLeaf_any (n : Nd) (hf : n.fit) (w : World) (K : KwAt w) :
    Calls Tryz.prog 40 #[.agg (ndA n)] w fun e w' => e = .returned (.bool (leafN n)) ∧ Below w.heap.size w w' := by
  have B0 := galloc (Below.refl w.heap.size w) (.cells (ndA n) 29)
  have N0 := NlAt.new w n
  obtain ⟨v, hv⟩ : ∃ v, leafN n = v := ⟨_, rfl⟩
  rw [hv]
  have HV : Hid (leafN n = v) := hv
  clear hv
  go_enter Tryz.func40, Tryz.ntmps40
  go_upto_region 1 with fail
  generalize hV : w.alloc (.cells (ndA n) 29) = V at *
  obtain ⟨a0, a1, a2, a3, a4, a5⟩ := N0.at
  obtain ⟨yo, yn, yv, yx, yl, yr⟩ := n
  dsimp only at *
  have cV := refIsName_any yv V (K.keep B0)
  have cX := refIsName_any yx V (K.keep B0)
  clear hV N0
  by_cases hl : yl ≠ -1
  · have bl : (yl == -1) = false := beq_eq_false_iff_ne.2 hl
    obtain rfl : false = v := by rw [← HV.out]; unfold leafN; simp [hl]
    clear HV
    go_wp2
    go_ret
    exact ⟨rfl, B0⟩
  replace hl : yl = -1 := Classical.not_not.1 hl
  by_cases hr : yr ≠ -1
  · have br : (yr == -1) = false := beq_eq_false_iff_ne.2 hr
    obtain rfl : false = v := by rw [← HV.out]; unfold leafN; simp [hr]
    clear HV
    subst hl
    go_wp2
    go_ret
    exact ⟨rfl, B0⟩
  replace hr : yr = -1 := Classical.not_not.1 hr
  subst hl
  subst hr
  by_cases h1 : yo = 1
  · subst h1
    by_cases hn : 0 ≤ yn
    · by_cases hv : yv = eS
      · subst hv
        by_cases hx : yx = eS
        · subst hx
          obtain rfl : true = v := by rw [← HV.out]; unfold leafN; simp [hn]
          clear HV
          go_wp2
          go_ret
          exact ⟨rfl, B0⟩
        · obtain ⟨q1, q2, q3⟩ := ne_toList hx
          obtain rfl : false = v := by rw [← HV.out]; unfold leafN; simp [hx]
          clear HV
          go_wp2
          go_ret
          exact ⟨rfl, B0⟩
      · obtain ⟨q1, q2, q3⟩ := ne_toList hv
        obtain rfl : false = v := by rw [← HV.out]; unfold leafN; simp [hv]
        clear HV
        go_wp2
        go_ret
        exact ⟨rfl, B0⟩
    · have dn : decide (0 ≤ yn) = false := decide_eq_false hn
      obtain rfl : false = v := by rw [← HV.out]; unfold leafN; simp [hn]
      clear HV
      go_wp2
      go_ret
      exact ⟨rfl, B0⟩
  by_cases h2 : yo = 2
  · subst h2
    by_cases hn : yn = 0
    · subst hn
      by_cases hv : yv = eS
      · subst hv
        by_cases hx : yx = eS
        · subst hx
          obtain rfl : true = v := by rw [← HV.out]; unfold leafN; simp
          clear HV
          go_wp2
          go_ret
          exact ⟨rfl, B0⟩
        · obtain ⟨q1, q2, q3⟩ := ne_toList hx
          obtain rfl : false = v := by rw [← HV.out]; unfold leafN; simp [hx]
          clear HV
          go_wp2
          go_ret
          exact ⟨rfl, B0⟩
      · obtain ⟨q1, q2, q3⟩ := ne_toList hv
        obtain rfl : false = v := by rw [← HV.out]; unfold leafN; simp [hv]
        clear HV
        go_wp2
        go_ret
        exact ⟨rfl, B0⟩
    · have bn : (yn == 0) = false := beq_eq_false_iff_ne.2 hn
      obtain rfl : false = v := by rw [← HV.out]; unfold leafN; simp [hn]
      clear HV
      go_wp2
      go_ret
      exact ⟨rfl, B0⟩
  by_cases h3 : yo = 3
  · subst h3
    by_cases hn : yn = 0
    · subst hn
      by_cases hv : yv = eS
      · subst hv
        by_cases hx : yx = eS
        · subst hx
          obtain rfl : true = v := by rw [← HV.out]; unfold leafN; simp
          clear HV
          go_wp2
          go_ret
          exact ⟨rfl, B0⟩
        · obtain ⟨q1, q2, q3⟩ := ne_toList hx
          obtain rfl : false = v := by rw [← HV.out]; unfold leafN; simp [hx]
          clear HV
          go_wp2
          go_ret
          exact ⟨rfl, B0⟩
      · obtain ⟨q1, q2, q3⟩ := ne_toList hv
        obtain rfl : false = v := by rw [← HV.out]; unfold leafN; simp [hv]
        clear HV
        go_wp2
        go_ret
        exact ⟨rfl, B0⟩
    · have bn : (yn == 0) = false := beq_eq_false_iff_ne.2 hn
      obtain rfl : false = v := by rw [← HV.out]; unfold leafN; simp [hn]
      clear HV
      go_wp2
      go_ret
      exact ⟨rfl, B0⟩
  by_cases h5 : yo = 5
  · subst h5
    by_cases hn : yn = 0
    · subst hn
      cases hv : nameB yv
      · rw [hv] at cV
        obtain rfl : false = v := by rw [← HV.out]; unfold leafN; simp [hv]
        clear HV
        go_wp2_with (first
          | (go_at_call 65; (with_reducible refine cV.mono ?_); rintro e u ⟨rfl, rfl⟩)
          | (go_at_call 65; (with_reducible refine cX.mono ?_); rintro e u ⟨rfl, rfl⟩))
        go_ret
        exact ⟨rfl, B0⟩
      · rw [hv] at cV
        by_cases hx : yx = eS
        · subst hx
          obtain rfl : true = v := by rw [← HV.out]; unfold leafN; simp [hv]
          clear HV
          go_wp2_with (first
            | (go_at_call 65; (with_reducible refine cV.mono ?_); rintro e u ⟨rfl, rfl⟩)
            | (go_at_call 65; (with_reducible refine cX.mono ?_); rintro e u ⟨rfl, rfl⟩))
          go_ret
          exact ⟨rfl, B0⟩
        · obtain ⟨q1, q2, q3⟩ := ne_toList hx
          obtain rfl : false = v := by rw [← HV.out]; unfold leafN; simp [hx]
          clear HV
          go_wp2_with (first
            | (go_at_call 65; (with_reducible refine cV.mono ?_); rintro e u ⟨rfl, rfl⟩)
            | (go_at_call 65; (with_reducible refine cX.mono ?_); rintro e u ⟨rfl, rfl⟩))
          go_ret
          exact ⟨rfl, B0⟩
    · have bn : (yn == 0) = false := beq_eq_false_iff_ne.2 hn
      obtain rfl : false = v := by rw [← HV.out]; unfold leafN; simp [hn]
      clear HV
      go_wp2
      go_ret
      exact ⟨rfl, B0⟩
  by_cases hq : yo = 4 ∨ yo = 6 ∨ yo = 7 ∨ yo = 8 ∨ yo = 9 ∨ yo = 10 ∨ yo = 11
  · by_cases hn : yn = 0
    · subst hn
      cases hv : nameB yv
      · rw [hv] at cV
        rcases hq with rfl | rfl | rfl | rfl | rfl | rfl | rfl
        all_goals
          obtain rfl : false = v := by rw [← HV.out]; unfold leafN; simp [hv]
          clear HV
          go_wp2_with (first
            | (go_at_call 65; (with_reducible refine cV.mono ?_); rintro e u ⟨rfl, rfl⟩)
            | (go_at_call 65; (with_reducible refine cX.mono ?_); rintro e u ⟨rfl, rfl⟩))
          go_ret
          exact ⟨rfl, B0⟩
      · rw [hv] at cV
        cases hx : nameB yx
        · rw [hx] at cX
          rcases hq with rfl | rfl | rfl | rfl | rfl | rfl | rfl
          all_goals
            obtain rfl : false = v := by rw [← HV.out]; unfold leafN; simp [hx]
            clear HV
            go_wp2_with (first
              | (go_at_call 65; (with_reducible refine cV.mono ?_); rintro e u ⟨rfl, rfl⟩)
              | (go_at_call 65; (with_reducible refine cX.mono ?_); rintro e u ⟨rfl, rfl⟩))
            go_ret
            exact ⟨rfl, B0⟩
        · rw [hx] at cX
          rcases hq with rfl | rfl | rfl | rfl | rfl | rfl | rfl
          all_goals
            obtain rfl : true = v := by rw [← HV.out]; unfold leafN; simp [hv, hx]
            clear HV
            go_wp2_with (first
              | (go_at_call 65; (with_reducible refine cV.mono ?_); rintro e u ⟨rfl, rfl⟩)
              | (go_at_call 65; (with_reducible refine cX.mono ?_); rintro e u ⟨rfl, rfl⟩))
            go_ret
            exact ⟨rfl, B0⟩
    · have bn : (yn == 0) = false := beq_eq_false_iff_ne.2 hn
      rcases hq with rfl | rfl | rfl | rfl | rfl | rfl | rfl
      all_goals
        obtain rfl : false = v := by rw [← HV.out]; unfold leafN; simp [hn]
        clear HV
        go_wp2
        go_ret
        exact ⟨rfl, B0⟩
  have b1 : (yo == 1) = false := beq_eq_false_iff_ne.2 (by omega)
  have b2 : (yo == 2) = false := beq_eq_false_iff_ne.2 (by omega)
  have b3 : (yo == 3) = false := beq_eq_false_iff_ne.2 (by omega)
  have b4 : (yo == 4) = false := beq_eq_false_iff_ne.2 (by omega)
  have b5 : (yo == 5) = false := beq_eq_false_iff_ne.2 (by omega)
  have b6 : (yo == 6) = false := beq_eq_false_iff_ne.2 (by omega)
  have b7 : (yo == 7) = false := beq_eq_false_iff_ne.2 (by omega)
  have b8 : (yo == 8) = false := beq_eq_false_iff_ne.2 (by omega)
  have b9 : (yo == 9) = false := beq_eq_false_iff_ne.2 (by omega)
  have b10 : (yo == 10) = false := beq_eq_false_iff_ne.2 (by omega)
  have b11 : (yo == 11) = false := beq_eq_false_iff_ne.2 (by omega)
  obtain rfl : false = v := by rw [← HV.out]; unfold leafN; rw [decide_eq_false]; intro h; dsimp only at h; omega
  clear HV
  go_wp2
  go_ret
  exact ⟨rfl, B0⟩

end Go.Proofs.YtlejhococjlijaaGreatDoor
