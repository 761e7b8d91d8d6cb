/- The laws' own quiet and numberEnd. -/
import Derived.Test.YtlcmfefcammklabDoorRf0
import Derived.Test.YtlcmfefcammklabDoorLo
namespace Go.Proofs.YtlcmfefcammklabDoor
open Go.RowKit Go.BigFrame
set_option linter.unusedVariables false
set_option linter.unusedSimpArgs false

set_option maxRecDepth 100000 in
set_option maxHeartbeats 4000000 in
theorem quiet_true (s : ByteArray) (hs : s.size ≤ 8192) (H : ∀ i, i < s.size → comB s (i + 1) = true ∨ blB (bt s i) = true) (w : World) :
    Calls Tryd.prog 8 #[.string s] w fun e w' => e = .returned (.bool true) ∧ w = w' := by
  obtain ⟨n, hn⟩ : ∃ n, s.size = n := ⟨_, rfl⟩
  have hby := fun t h => byteW s t h Tryd.prog 9 (by kernel_rfl)
  go_enter Tryd.func8, Tryd.ntmps8
  go_wp2
  go_loop [3, 4] (fun cm i => ∃ k : Nat, k ≤ n ∧ i = .int .i64 k ∧ cm = .bool (comB s k)) (fun _ i => n - (intOf i).toNat)
  case atStart => exact ⟨0, Nat.zero_le _, rfl, rfl⟩
  case round =>
    obtain ⟨k, hk, rfl, rfl⟩ := hrel
    by_cases hlt : k < n
    · have i1 := hby k (by omega)
      rw [show ((s.data.getD k 0).toNat : Int) = bt s k from rfl] at i1
      have Hk := H k (by omega)
      clear hby H
      obtain ⟨nb, hnb⟩ : ∃ nb, bt s k = nb := ⟨_, rfl⟩
      rw [hnb] at i1 Hk
      by_cases a10 : nb = 10
      · subst a10
        have hnx : comB s (k + 1) = false := by unfold comB; rw [hnb]; rfl
        go_wp2
        go_round
        case rel => exact ⟨k + 1, by omega, by go_num, by rw [hnx]⟩
        case measure => simp [intOf]; omega
      by_cases a35 : nb = 35
      · subst a35
        have hnx : comB s (k + 1) = true := by unfold comB; rw [hnb]; rfl
        go_wp2
        go_round
        case rel => exact ⟨k + 1, by omega, by go_num, by rw [hnx]⟩
        case measure => simp [intOf]; omega
      have q10 : (nb == 10) = false := by simpa using a10
      have q35 : (nb == 35) = false := by simpa using a35
      have hcm : comB s (k + 1) = comB s k := by
        show (if bt s k = 10 then false else if bt s k = 35 then true else comB s k) = _
        rw [hnb, if_neg a10, if_neg a35]
      cases hc : comB s k
      · rw [hc] at hcm
        have hbl : blB nb = true := by
          rcases Hk with h | h
          · rw [hcm] at h; exact absurd h (by decide)
          · exact h
        simp only [blB, decide_eq_true_eq] at hbl
        rcases (show nb = 32 ∨ nb = 9 ∨ nb = 13 from by omega) with rfl | rfl | rfl
        · skip
          have hnx : comB s (k + 1) = false := by exact hcm
          go_wp2
          go_round
          case rel => exact ⟨k + 1, by omega, by go_num, by rw [hnx]⟩
          case measure => simp [intOf]; omega
        · skip
          have hnx : comB s (k + 1) = false := by exact hcm
          go_wp2
          go_round
          case rel => exact ⟨k + 1, by omega, by go_num, by rw [hnx]⟩
          case measure => simp [intOf]; omega
        · skip
          have hnx : comB s (k + 1) = false := by exact hcm
          go_wp2
          go_round
          case rel => exact ⟨k + 1, by omega, by go_num, by rw [hnx]⟩
          case measure => simp [intOf]; omega
      · rw [hc] at hcm
        have hnx : comB s (k + 1) = true := by exact hcm
        go_wp2
        go_round
        case rel => exact ⟨k + 1, by omega, by go_num, by rw [hnx]⟩
        case measure => simp [intOf]; omega
    · obtain rfl : k = n := by omega
      go_wp2
      go_ret
      exact ⟨rfl, rfl⟩

set_option maxRecDepth 100000 in
set_option maxHeartbeats 4000000 in
theorem numberEnd_any (s : ByteArray) (hs : s.size ≤ 8192) (p : Nat) (hp : p ≤ s.size) (w : World) :
    Calls Tryd.prog 10 #[.string s, .int .i64 (p : Int)] w fun e w' => e = .returned (.int .i64 (runE dgB s p : Int)) ∧ w = w' := by
  obtain ⟨n, hn⟩ : ∃ n, s.size = n := ⟨_, rfl⟩
  have hby := fun t h => byteW s t h Tryd.prog 9 (by kernel_rfl)
  obtain ⟨z, hz⟩ : ∃ z, z = runE dgB s p := ⟨_, rfl⟩
  rw [← hz]
  have HZ : Hid (z = runE dgB s p) := hz
  clear hz
  go_enter Tryd.func10, Tryd.ntmps10
  go_wp2
  go_loop [1] (fun x => ∃ k : Nat, k ≤ n ∧ x = .int .i64 k ∧ z = runE dgB s k) (fun x => n - (intOf x).toNat)
  case atStart => exact ⟨p, by omega, rfl, HZ.out⟩
  case round =>
    obtain ⟨k, hk, rfl, h1⟩ := hrel
    have H1 : Hid (z = runE dgB s k) := h1
    clear h1
    by_cases hlt : k < n
    · have i1 := hby k (by omega)
      rw [show ((s.data.getD k 0).toNat : Int) = bt s k from rfl] at i1
      clear hby
      by_cases hd : dgB (bt s k) = true
      · have h2 := runE_on (f := dgB) (s := s) (p := k) (by omega) hd
        have H2 : Hid (z = runE dgB s (k + 1)) := by show _ = _; rw [H1.out]; exact h2
        clear h2
        simp only [dgB, decide_eq_true_eq] at hd
        have d0 := hd.1
        have d1 := hd.2
        generalize bt s k = nb at *
        go_wp2
        go_round
        case rel => exact ⟨k + 1, by omega, by go_num, H2.out⟩
        case measure => simp [intOf]; omega
      · have H2 : Hid (z = k) := by show _ = _; rw [H1.out]; exact runE_stop (.inr (by simpa using hd))
        simp only [dgB, decide_eq_true_eq] at hd
        generalize bt s k = nb at *
        by_cases d0 : (48 : Int) ≤ nb
        · have d1 : ¬ nb ≤ 57 := fun h => hd ⟨d0, h⟩
          have e1 : decide (nb ≤ 57) = false := decide_eq_false d1
          clear hd
          go_wp2
          go_ret
          exact ⟨by rw [H2.out]; rfl, rfl⟩
        · clear hd
          go_wp2
          go_ret
          exact ⟨by rw [H2.out]; rfl, rfl⟩
    · obtain rfl : k = n := by omega
      have H2 : Hid (z = k) := by show _ = _; rw [H1.out]; exact runE_stop (.inl (by omega))
      go_wp2
      go_ret
      exact ⟨by rw [H2.out]; rfl, rfl⟩

end Go.Proofs.YtlcmfefcammklabDoor
