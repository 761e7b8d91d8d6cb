/- The kind of a sign: lex's and the document's. -/
import Derived.Test.YtmoimmghmmomlaaDoorLx0
namespace Go.Proofs.YtmoimmghmmomlaaDoor
open Go.RowKit Go.BigFrame
set_option linter.unusedVariables false
set_option linter.unusedSimpArgs false

theorem sgK_hit (s : ByteArray) (k : Nat) (hk : k < 19) (h1 : (s.toList == (sg k).toList) = true) (h2 : ∀ j, j < k → (s.toList == (sg j).toList) = false) : sgK s = 3 + (k : Int) := by
  have e : (List.range 19).findIdx (fun j => s.toList == (sg j).toList) = k := by
    rw [List.findIdx_eq (by simpa using hk)]
    refine ⟨by simpa using h1, fun j hj => by simpa using h2 j hj⟩
  unfold sgK
  rw [e, if_pos hk]
theorem sgK_none (s : ByteArray) (h2 : ∀ j, j < 19 → (s.toList == (sg j).toList) = false) : sgK s = 0 := by
  unfold sgK
  rw [if_neg]
  intro h
  have h1 := List.findIdx_getElem (xs := List.range 19) (p := fun j => s.toList == (sg j).toList) (w := by simpa using h)
  simp only [List.getElem_range] at h1
  rw [h2 _ h] at h1
  exact absurd h1 (by decide)
def sgcells : Array Value := (sgl.map fun b => Value.string ⟨b.toArray⟩).toArray
theorem sg_ix (j : Nat) (h : j < 19) : ∀ w, (Instr.index 128 (.agg sgcells) (.int .i64 (j : Int))).run Tryd.prog w = .ok (.string (sg j)) w := by
  rcases (show j = 0 ∨ j = 1 ∨ j = 2 ∨ j = 3 ∨ j = 4 ∨ j = 5 ∨ j = 6 ∨ j = 7 ∨ j = 8 ∨ j = 9 ∨ j = 10 ∨ j = 11 ∨ j = 12 ∨ j = 13 ∨ j = 14 ∨ j = 15 ∨ j = 16 ∨ j = 17 ∨ j = 18 from by omega) with rfl | rfl | rfl | rfl | rfl | rfl | rfl | rfl | rfl | rfl | rfl | rfl | rfl | rfl | rfl | rfl | rfl | rfl | rfl
  all_goals (intro w; kernel_rfl)
theorem sg_range {w : World} (K : SgAt w) : w.rangeAt 2 0 (sgl.map fun b => Value.string ⟨b.toArray⟩) := by
  intro j v hj
  have hl : j < 19 := by have := (List.getElem?_eq_some_iff.1 hj).1; simpa [sgl] using this
  rw [Nat.zero_add, K.2 j hl]
  simp only [List.getElem?_map, Option.map_eq_some_iff] at hj
  obtain ⟨b, hb, rfl⟩ := hj
  simp [sg, List.getD, hb]

set_option maxRecDepth 100000 in
set_option maxHeartbeats 1000000 in
theorem signKind_any (s : ByteArray) (w : World) (K : SgAt w) :
    Calls Tryd.prog 62 #[.string s] w fun e w' => e = .returned (.int .i64 (sgK s)) ∧ w = w' := by
  have hr := sg_range K
  go_enter Tryd.func62, Tryd.ntmps62
  go_upto_region 2 with (refine wpList_load_mid rfl 128 _ rfl 2 0 rfl _ _ hr Tryd.underlying128 rfl (by kernel_rfl) ?_)
  have hix := sg_ix
  obtain ⟨A, hA⟩ : ∃ A, A = sgcells := ⟨_, rfl⟩
  rw [show (sgl.map fun b => Value.string ⟨b.toArray⟩).toArray = A from hA.symm]
  rw [← hA] at hix
  clear hr hA
  go_loop [6] (fun i => ∃ k : Nat, k ≤ 19 ∧ i = .int .i64 k ∧ (∀ j, j < k → (s.toList == (sg j).toList) = false)) (fun i => 19 - (intOf i).toNat)
  case atStart => exact ⟨0, Nat.zero_le _, rfl, fun j hj => absurd hj (Nat.not_lt_zero _)⟩
  case round =>
    obtain ⟨k, hk, rfl, hno⟩ := hrel
    by_cases hlt : k < 19
    · have ix := hix k hlt
      clear hix
      cases hv : (s.toList == (sg k).toList)
      · go_wp2
        go_round
        case rel => exact ⟨k + 1, by omega, by go_num, more (p := fun j => s.toList == (sg j).toList) hno hv⟩
        case measure => simp [intOf]; omega
      · go_wp2
        go_ret
        exact ⟨by rw [sgK_hit s k hlt hv hno]; go_num, rfl⟩
    · obtain rfl : k = 19 := by omega
      go_wp2
      go_ret
      exact ⟨by rw [sgK_none s hno]; rfl, rfl⟩


end Go.Proofs.YtmoimmghmmomlaaDoor
