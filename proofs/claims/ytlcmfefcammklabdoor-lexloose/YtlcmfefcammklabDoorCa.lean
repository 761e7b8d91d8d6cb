/- The laws' own cased: a keyword, some of its letters lowered. -/
import Derived.Test.YtlcmfefcammklabDoorLx5
import Derived.OwnWalk
namespace Go.Proofs.YtlcmfefcammklabDoor
open Go.RowKit Go.BigFrame
set_option linter.unusedVariables false
set_option linter.unusedSimpArgs false

theorem upB_low (c : UInt8) (h : 65 ≤ c.toNat ∧ c.toNat ≤ 90) : upB (c + 32) = c ∧ upB c = c ∧ byteV (c + 32) = .int .u8 (((c.toNat : Int) + 32) % 256) := by
  have e : (c + 32).toNat = c.toNat + 32 := by
    rw [UInt8.toNat_add]
    have : (32 : UInt8).toNat = 32 := rfl
    omega
  refine ⟨?_, ?_, ?_⟩
  · unfold upB
    rw [if_pos (by omega)]
    apply UInt8.toNat_inj.1
    have h32 : (32 : UInt8).toNat = 32 := rfl
    rw [UInt8.toNat_sub_of_le _ 32 (by rw [UInt8.le_iff_toNat_le, h32]; omega), h32, e]
    omega
  · unfold upB
    rw [if_neg (by omega)]
  · unfold byteV
    rw [e]
    congr 1
    omega
theorem getD_snoc (l : List UInt8) (c : UInt8) (i : Nat) : (l ++ [c]).getD i 0 = if i < l.length then l.getD i 0 else if i = l.length then c else 0 := by
  rw [List.getD_eq_getElem?_getD]
  by_cases h : i < l.length
  · rw [if_pos h, List.getElem?_append_left h, ← List.getD_eq_getElem?_getD]
  · rw [if_neg h, List.getElem?_append_right (by omega)]
    by_cases h2 : i = l.length
    · rw [if_pos h2, h2, Nat.sub_self]; rfl
    · rw [if_neg h2, List.getElem?_eq_none (by simp; omega)]; rfl

set_option maxRecDepth 100000 in
set_option maxHeartbeats 4000000 in
theorem cased_any (x : ByteArray) (hx : x.size ≤ 16) (hl : ∀ i, i < x.size → 65 ≤ (x.data.getD i 0).toNat ∧ (x.data.getD i 0).toNat ≤ 90) (m : Int) (w : World) :
    Calls Tryd.prog 17 #[.string x, .int .u64 m] w fun e w' => (∃ l : List UInt8, e = .returned (.string ⟨l.toArray⟩) ∧ l.length = x.size ∧ ∀ i, i < x.size → upB (l.getD i 0) = x.data.getD i 0) ∧ Below w.heap.size w w' := by
  obtain ⟨i0, hi, hz0, hz1, hz2⟩ := info_partsB
  go_enter Tryd.func17, Tryd.ntmps17
  go_wp2
  go_loopw [5, 6] (fun v i wr => ∃ k : Nat, k ≤ x.size ∧ i = .int .i64 k ∧ (∃ l : List UInt8, wr.ownsRow w.heap.size 5 1 v k (rowB l) ∧ l.length = k ∧ ∀ i, i < k → upB (l.getD i 0) = x.data.getD i 0) ∧ Below w.heap.size w wr) (fun _ i _ => x.size - (intOf i).toNat)
  case atStart => exact ⟨0, Nat.zero_le _, rfl, ⟨[], World.ownsRow_nil _ _ _ _, rfl, fun i hi => by omega⟩, Below.refl _ _⟩
  case round =>
    obtain ⟨k, hk, rfl, ⟨l, O, hll, hal⟩, G⟩ := hrel
    obtain ⟨ao, cap, rfl⟩ := own_shape O
    have zG := G.size
    by_cases hlt : k < x.size
    · have hcg : x.data.getD k 0 = x.data[k]'hlt := by unfold Array.getD; exact dif_pos hlt
      have hlk := hl k hlt
      rw [hcg] at hlk
      have hup := upB_low _ hlk
      have hnx : ∀ c, upB c = x.data[k]'hlt → ∀ i, i < k + 1 → upB ((l ++ [c]).getD i 0) = x.data.getD i 0 := fun c hc i h9 => by
        rw [getD_snoc]
        by_cases h : i < k
        · rw [if_pos (by omega)]; exact hal i h
        · obtain rfl : i = k := by omega
          rw [if_neg (by omega), if_pos hll.symm, hc, hcg]
      cases hq : (bits BinOp.and IntKind.u64 (m / 2 ^ (k % 64)) 1 == 1)
      · go_wp2_with (at_builtin; refine wpList_append_own _ rfl (.tmp 26) (.tmp 28) 42 rfl w.heap.size 5 i0 (.int .u8 0) 1 1 Tryd.underlying42 hi hz0 hz1 hz2 rfl (by decide) _ _ _ rfl (O.alloc _) ⟨wr.heap.size, 0, none⟩ 1 1 [.int .u8 ((x.data[k]'hlt).toNat : Int)] rfl rfl (cell_one_new _ _ _) (one_u8 _) ?c3 ?c4 ?c5 ?_)
        case c3 => unfold maxLen; omega
        case c4 => omega
        case c5 => simp; omega
        intro v' w1 hown' hgrow _
        have hown2 : w1.ownsRow w.heap.size 5 1 v' (k + 1) (rowB (l ++ [x.data[k]'hlt])) := by
          unfold rowB at hown' ⊢; rw [List.map_append]; exact hown'
        have G' : Below w.heap.size w w1 := (galloc G _).grown hgrow (by simp; omega) (fun r e => (O.lt _ e).1)
        clear hown' hgrow O G
        go_wp2
        go_roundw
        case rel => exact ⟨k + 1, by omega, by go_num, ⟨_, hown2, by rw [List.length_append, hll]; rfl, hnx _ hup.2.1⟩, G'⟩
        case measure => (simp [intOf]; try omega)
      · go_wp2_with (at_builtin; refine wpList_append_own _ rfl (.tmp 26) (.tmp 28) 42 rfl w.heap.size 5 i0 (.int .u8 0) 1 1 Tryd.underlying42 hi hz0 hz1 hz2 rfl (by decide) _ _ _ rfl (O.alloc _) ⟨wr.heap.size, 0, none⟩ 1 1 [.int .u8 ((((x.data[k]'hlt).toNat : Int) + 32) % 256)] rfl rfl (cell_one_new _ _ _) (one_u8 _) ?c3 ?c4 ?c5 ?_)
        case c3 => unfold maxLen; omega
        case c4 => omega
        case c5 => simp; omega
        intro v' w1 hown' hgrow _
        have hown2 : w1.ownsRow w.heap.size 5 1 v' (k + 1) (rowB (l ++ [x.data[k]'hlt + 32])) := by
          unfold rowB at hown' ⊢; rw [List.map_append, show List.map byteV [x.data[k]'hlt + 32] = [byteV (x.data[k]'hlt + 32)] from rfl, hup.2.2]; exact hown'
        have G' : Below w.heap.size w w1 := (galloc G _).grown hgrow (by simp; omega) (fun r e => (O.lt _ e).1)
        clear hown' hgrow O G
        go_wp2
        go_roundw
        case rel => exact ⟨k + 1, by omega, by go_num, ⟨_, hown2, by rw [List.length_append, hll]; rfl, hnx _ hup.1⟩, G'⟩
        case measure => (simp [intOf]; try omega)
    · obtain rfl : k = x.size := by omega
      have hcv := conv_own O
      go_wp2
      go_ret
      exact ⟨⟨l, rfl, hll, hal⟩, G⟩

end Go.Proofs.YtlcmfefcammklabDoor
