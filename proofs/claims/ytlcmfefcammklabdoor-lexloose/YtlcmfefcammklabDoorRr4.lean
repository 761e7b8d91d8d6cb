/- The document's bare and Number. -/
import Derived.Test.YtlcmfefcammklabDoorNb
import Derived.Test.YtlcmfefcammklabDoorLx7
namespace Go.Proofs.YtlcmfefcammklabDoor
open Go.RowKit Go.BigFrame
set_option linter.unusedVariables false
set_option linter.unusedSimpArgs false

def zB (n : Int) : Bool := n == 48
def bareS (s : ByteArray) : ByteArray := s.extract (runE zB s 0) s.size

set_option maxRecDepth 100000 in
set_option maxHeartbeats 4000000 in
theorem refBare_any (s : ByteArray) (hs : s.size ≤ 8192) (w : World) :
    Calls Tryd.prog 21 #[.string s] w fun e w' => e = .returned (.string (bareS s)) ∧ w = w' := by
  obtain ⟨n, hn⟩ : ∃ n, s.size = n := ⟨_, rfl⟩
  have hby := fun t h => byteW s t h Tryd.prog 9 (by kernel_rfl)
  obtain ⟨z, hz⟩ : ∃ z, z = bareS s := ⟨_, rfl⟩
  rw [← hz]
  have HZ : Hid (z = bareS s) := hz
  clear hz
  go_enter Tryd.func21, Tryd.ntmps21
  go_wp2
  go_loop [3] (fun x => ∃ k : Nat, k ≤ n ∧ x = .int .i64 k ∧ runE zB s 0 = runE zB s k) (fun x => n - (intOf x).toNat)
  case atStart => exact ⟨0, Nat.zero_le _, rfl, rfl⟩
  case round =>
    obtain ⟨k, hk, rfl, h1⟩ := hrel
    by_cases hlt : k < n
    · have i1 := hby k (by omega)
      rw [show ((s.data.getD k 0).toNat : Int) = bt s k from rfl] at i1
      clear hby
      cases h48 : (bt s k == 48)
      · have he : Hid (z = s.extract k s.size) := by show _ = _; rw [HZ.out]; unfold bareS; rw [h1, runE_stop (.inr h48)]
        generalize bt s k = nb at *
        have hk1 : (k : Int) ≤ (s.size : Int) := by omega
        go_wp2
        go_ret
        exact ⟨by rw [he.out, hn]; rfl, rfl⟩
      · have h2 := runE_on (f := zB) (s := s) (p := k) (by omega) h48
        generalize bt s k = nb at *
        go_wp2
        go_round
        case rel => exact ⟨k + 1, by omega, by go_num, h1.trans h2⟩
        case measure => simp [intOf]; omega
    · obtain rfl : k = n := by omega
      have he : Hid (z = s.extract k s.size) := by show _ = _; rw [HZ.out]; unfold bareS; rw [h1, runE_stop (.inl (by omega))]
      have hk1 : (k : Int) ≤ (s.size : Int) := by omega
      go_wp2
      go_ret
      exact ⟨by rw [he.out]; first | rfl | (rw [hn]; rfl) | simp [hn], rfl⟩

end Go.Proofs.YtlcmfefcammklabDoor
