/- What the document's ID and Number come to. -/
import Derived.Test.YtkpnnofonocilaaDoorNv
import Derived.Test.YtkpnnofonocilaaDoorRc
namespace Go.Proofs.YtkpnnofonocilaaDoor
open Go.RowKit Go.BigFrame
set_option linter.unusedVariables false
set_option linter.unusedSimpArgs false

theorem take_snoc (x : ByteArray) (k : Nat) (h : k < x.size) : x.data.toList.take (k + 1) = x.data.toList.take k ++ [x.data[k]'h] := by
  rw [List.take_add_one]
  have : x.data.toList[k]? = some (x.data[k]'h) := by simp [h]
  rw [this]
  rfl
theorem at_data (x : ByteArray) (k : Nat) (h : k < x.size) : at_ x k = ((x.data[k]'h).toNat : Int) := at_byte x k h

set_option maxRecDepth 100000 in
set_option maxHeartbeats 8000000 in
theorem refID_any (x : ByteArray) (hs : x.size ≤ 9223372036854775807) (w : World) :
    Calls Tryd.prog 57 #[.string x] w fun e w' => e = .returned (.tuple #[.int .u64 ((idO x).getD 0 : Nat), .bool (idO x).isSome]) ∧ Below w.heap.size w w' := by
  obtain ⟨z, hz⟩ : ∃ z, z = idO x := ⟨_, rfl⟩
  rw [← hz]
  rw [idO_val] at hz
  have HZ : Hid (z = if dgs x = true then (if dv 0 x.data.toList ≤ 18446744073709551615 then some (dv 0 x.data.toList) else none) else none) := hz
  clear hz
  by_cases h0 : x.size = 0
  · have HZ2 : Hid (z = none) := by show _ = _; rw [HZ.out, dgs_empty x h0]; rfl
    have e0 : (x.toList == []) = true := by
      rw [beq_iff_eq, Lib.toList_data]
      have : x.data.toList.length = 0 := by rw [Array.length_toList]; exact h0
      exact List.eq_nil_of_length_eq_zero this
    clear h0 HZ
    go_enter Tryd.func57, Tryd.ntmps57
    go_wp2
    go_ret2
    exact ⟨by rw [HZ2.out]; rfl, Below.refl _ _⟩
  have e0 : (x.toList == []) = false := by
    rw [beq_eq_false_iff_ne]
    intro e
    rw [Lib.toList_data] at e
    have := congrArg List.length e
    rw [Array.length_toList] at this
    exact h0 this
  go_enter Tryd.func57, Tryd.ntmps57
  go_wp2
  go_loop [5, 6] (fun vn vi => ∃ k : Nat, vi = .int .i64 k ∧ k ≤ x.size ∧ vn = .int .u64 (dv 0 (x.data.toList.take k) : Nat) ∧ dv 0 (x.data.toList.take k) ≤ 18446744073709551615 ∧ (∀ j, j < k → digB (at_ x j) = true)) (fun _ vi => x.size - (intOf vi).toNat)
  case atStart => exact ⟨0, rfl, Nat.zero_le _, rfl, by show (0 : Nat) ≤ _; omega, fun j hj => absurd hj (Nat.not_lt_zero _)⟩
  case round =>
    obtain ⟨k, rfl, hk, rfl, hn, hd⟩ := hrel
    by_cases hlt : k < x.size
    · have ik : ∀ u : World, (Instr.index 9 (.string x) (.int .i64 k)).run Tryd.prog u = .ok (.int .u8 (at_ x k)) u := byteW x k hlt Tryd.prog 9 (by kernel_rfl)
      have cD := fun (u : World) => refDigit_any (at_ x k) u
      have hab := at_lo x k
      cases hg : digB (at_ x k)
      · rw [hg] at cD
        have HZ2 : Hid (z = none) := by show _ = _; rw [HZ.out, dgs_no x k hlt hg]; rfl
        clear hd hg HZ
        generalize at_ x k = d at *
        go_wp2_with (go_at_call 71; with_reducible refine (cD _).mono ?_; rintro e4 u4 ⟨rfl, rfl⟩)
        go_ret2
        exact ⟨by rw [HZ2.out]; rfl, Below.refl _ _⟩
      · rw [hg] at cD
        have hdg : 48 ≤ at_ x k ∧ at_ x k ≤ 57 := of_decide_eq_true hg
        have hnext : dv 0 (x.data.toList.take (k + 1)) = dv 0 (x.data.toList.take k) * 10 + (at_ x k - 48).toNat := by
          rw [take_snoc x k hlt, dv_app, at_data x k hlt]
          congr 1
          omega
        have hle := dv_take x.data.toList (k + 1)
        have hd2 : ∀ j, j < k + 1 → digB (at_ x j) = true := fun j hj => by
          rcases Nat.lt_or_ge j k with e | e
          · exact hd j e
          · obtain rfl : j = k := by omega
            exact hg
        clear hd hg
        obtain ⟨c, hc⟩ : ∃ c : Nat, at_ x k = (c : Int) + 48 := ⟨(at_ x k - 48).toNat, by omega⟩
        have hc9 : c ≤ 9 := by omega
        rw [show (at_ x k - 48).toNat = c by omega] at hnext
        rw [hc] at ik cD
        clear hdg hab hc
        generalize hN : dv 0 (x.data.toList.take k) = N at *
        by_cases hov : (18446744073709551615 - c) / 10 < N
        · have HZ2 : Hid (z = none) := by
            show _ = _
            rw [HZ.out]
            split
            · rw [if_neg (by omega)]
            · rfl
          clear HZ hnext hle hd2
          go_wp2_with (go_at_call 71; with_reducible refine (cD _).mono ?_; rintro e4 u4 ⟨rfl, rfl⟩)
          go_ret2
          exact ⟨by rw [HZ2.out]; rfl, Below.refl _ _⟩
        · have hn2 : dv 0 (x.data.toList.take (k + 1)) ≤ 18446744073709551615 := by omega
          go_wp2_with (go_at_call 71; with_reducible refine (cD _).mono ?_; rintro e4 u4 ⟨rfl, rfl⟩)
          go_round
          case rel => exact ⟨k + 1, by go_num, by omega, by rw [hnext]; rfl, hn2, hd2⟩
          case measure => simp [intOf]; omega
    · obtain rfl : k = x.size := by omega
      have hall : x.data.toList.take x.size = x.data.toList := List.take_of_length_le (by rw [Array.length_toList]; exact Nat.le_refl _)
      rw [hall] at hn
      have HZ2 : Hid (z = some (dv 0 x.data.toList)) := by show _ = _; rw [HZ.out, dgs_yes x (by omega) hd, if_pos rfl, if_pos hn]
      rw [hall]
      clear HZ hd
      go_wp2
      go_ret2
      exact ⟨by rw [HZ2.out]; rfl, Below.refl _ _⟩

theorem idO_le {x : ByteArray} {u : Nat} (h : idO x = some u) : u ≤ 18446744073709551615 := by
  rw [idO_val] at h
  split at h
  · split at h
    · rename_i h2; cases h; exact h2
    · cases h
  · cases h
set_option maxRecDepth 100000 in
set_option maxHeartbeats 8000000 in
theorem refNumber_any (x : ByteArray) (hs : x.size ≤ 281474976710656) (w : World) :
    Calls Tryd.prog 35 #[.string x] w fun e w' => e = .returned (.tuple #[.int .i64 ((numO x).getD 0), .bool (numO x).isSome]) ∧ Below w.heap.size w w' := by
  obtain ⟨z, hz⟩ : ∃ z, z = numO x := ⟨_, rfl⟩
  rw [← hz]
  rw [numO_val] at hz
  have hts : (trimM x).size ≤ 9223372036854775807 := by
    unfold trimM
    split
    · rw [ByteArray.size_extract]; omega
    · omega
  have cI := fun (u : World) => refID_any (trimM x) hts u
  have hle := fun u => idO_le (x := trimM x) (u := u)
  have ht : trimM x = if hasM x = true then x.extract 1 x.size else x := rfl
  have hm : hasM x = (decide (0 < x.size) && (at_ x 0 == 45)) := rfl
  generalize idO (trimM x) = y at *
  have hab := at_lo x 0
  have key : (hasM x = true ∧ (0 : Int) < (x.size : Int) ∧ (∀ u : World, (Instr.index 9 (.string x) (.int .i64 0)).run Tryd.prog u = .ok (.int .u8 45) u)) ∨ (hasM x = false ∧ (x.size = 0 ∨ ∃ d, d ≠ 45 ∧ 0 ≤ d ∧ d ≤ 255 ∧ (0 : Int) < (x.size : Int) ∧ (∀ u : World, (Instr.index 9 (.string x) (.int .i64 0)).run Tryd.prog u = .ok (.int .u8 d) u))) := by
    by_cases h0 : 0 < x.size
    · have i0 : ∀ u : World, (Instr.index 9 (.string x) (.int .i64 (0 : Nat))).run Tryd.prog u = .ok (.int .u8 (at_ x 0)) u := byteW x 0 h0 Tryd.prog 9 (by kernel_rfl)
      rw [decide_eq_true h0, Bool.true_and] at hm
      by_cases h45 : at_ x 0 = 45
      · rw [h45] at i0
        exact .inl ⟨by rw [hm, h45]; rfl, by omega, i0⟩
      · exact .inr ⟨by rw [hm]; simpa using h45, .inr ⟨at_ x 0, h45, hab.1, hab.2, by omega, i0⟩⟩
    · exact .inr ⟨by rw [hm, decide_eq_false h0]; rfl, .inl (by omega)⟩
  clear hm hab
  rcases key with ⟨hm, h0, i0⟩ | ⟨hm, key⟩
  · rw [hm] at ht hz
    rw [if_pos rfl] at ht
    rw [ht] at cI
    simp only [if_true] at hz
    have q1 : (1 : Int) ≤ (x.size : Int) := by omega
    clear ht hts hm
    cases y with
    | none =>
      have HZ : Hid (z = none) := hz
      clear hz hle
      go_enter Tryd.func35, Tryd.ntmps35
      go_wp2_with (go_at_call 57; with_reducible refine (cI _).mono ?_; rintro e4 u4 ⟨rfl, g4⟩)
      go_ret2
      exact ⟨by rw [HZ.out]; rfl, g4⟩
    | some u =>
      have hu := hle u rfl
      clear hle
      by_cases h1 : 9223372036854775808 < u
      · have HZ : Hid (z = none) := by show _ = _; rw [hz]; simp only [if_pos h1]
        have q2 : (9223372036854775808 : Int) < (u : Int) := by omega
        clear hz
        go_enter Tryd.func35, Tryd.ntmps35
        go_wp2_with (go_at_call 57; with_reducible refine (cI _).mono ?_; rintro e4 u4 ⟨rfl, g4⟩)
        go_ret2
        exact ⟨by rw [HZ.out]; rfl, g4⟩
      · have HZ : Hid (z = some (-(u : Int))) := by show _ = _; rw [hz]; simp only [if_neg h1]
        have q2 : ¬ (9223372036854775808 : Int) < (u : Int) := by omega
        clear hz
        by_cases hu0 : u = 0
        · subst hu0
          go_enter Tryd.func35, Tryd.ntmps35
          go_wp2_with (go_at_call 57; with_reducible refine (cI _).mono ?_; rintro e4 u4 ⟨rfl, g4⟩)
          go_ret2
          exact ⟨by rw [HZ.out]; rfl, g4⟩
        · have q3 : (0 : Int) < (u : Int) := by omega
          cases hq : ((u : Int) == 9223372036854775808)
          all_goals
            go_enter Tryd.func35, Tryd.ntmps35
            go_wp2_with (go_at_call 57; with_reducible refine (cI _).mono ?_; rintro e4 u4 ⟨rfl, g4⟩)
            go_ret2
            exact ⟨by rw [HZ.out, show -(u : Int) = -((u : Int) - 1) - 1 by omega]; rfl, g4⟩
  · rw [hm] at ht hz
    rw [if_neg (by decide)] at ht
    rw [ht] at cI
    simp only [Bool.false_eq_true, if_false] at hz
    clear ht hts hm
    have key2 : (x.size = 0 ∧ ¬ (0 : Int) < (x.size : Int)) ∨ ∃ d : Int, (d == 45) = false ∧ (0 : Int) < (x.size : Int) ∧ (∀ u : World, (Instr.index 9 (.string x) (.int .i64 0)).run Tryd.prog u = .ok (.int .u8 d) u) := by
      rcases key with h | ⟨d, h1, _, _, h4, h5⟩
      · exact .inl ⟨h, by omega⟩
      · exact .inr ⟨d, by simpa using h1, h4, h5⟩
    clear key
    cases y with
    | none =>
      have HZ : Hid (z = none) := hz
      clear hz hle
      rcases key2 with ⟨_, h0⟩ | ⟨d, hd, h0, i0⟩
      all_goals
        go_enter Tryd.func35, Tryd.ntmps35
        go_wp2_with (go_at_call 57; with_reducible refine (cI _).mono ?_; rintro e4 u4 ⟨rfl, g4⟩)
        go_ret2
        exact ⟨by rw [HZ.out]; rfl, g4⟩
    | some u =>
      have hu := hle u rfl
      clear hle
      by_cases h1 : 9223372036854775808 ≤ u
      · have HZ : Hid (z = none) := by show _ = _; rw [hz]; simp only [if_pos h1]
        clear hz
        by_cases h2 : 9223372036854775808 < u
        · have q2 : (9223372036854775808 : Int) < (u : Int) := by omega
          rcases key2 with ⟨_, h0⟩ | ⟨d, hd, h0, i0⟩
          all_goals
            go_enter Tryd.func35, Tryd.ntmps35
            go_wp2_with (go_at_call 57; with_reducible refine (cI _).mono ?_; rintro e4 u4 ⟨rfl, g4⟩)
            go_ret2
            exact ⟨by rw [HZ.out]; rfl, g4⟩
        · obtain rfl : u = 9223372036854775808 := by omega
          rcases key2 with ⟨_, h0⟩ | ⟨d, hd, h0, i0⟩
          all_goals
            go_enter Tryd.func35, Tryd.ntmps35
            go_wp2_with (go_at_call 57; with_reducible refine (cI _).mono ?_; rintro e4 u4 ⟨rfl, g4⟩)
            go_ret2
            exact ⟨by rw [HZ.out]; rfl, g4⟩
      · have HZ : Hid (z = some (u : Int)) := by show _ = _; rw [hz]; simp only [if_neg h1]
        have q2 : ¬ (9223372036854775808 : Int) < (u : Int) := by omega
        have q3 : ((u : Int) == 9223372036854775808) = false := by rw [beq_eq_false_iff_ne]; omega
        clear hz
        rcases key2 with ⟨_, h0⟩ | ⟨d, hd, h0, i0⟩
        all_goals
          go_enter Tryd.func35, Tryd.ntmps35
          go_wp2_with (go_at_call 57; with_reducible refine (cI _).mono ?_; rintro e4 u4 ⟨rfl, g4⟩)
          go_ret2
          exact ⟨by rw [HZ.out]; rfl, g4⟩

end Go.Proofs.YtkpnnofonocilaaDoor
