/- A string in capitals; the keywords, held against it. -/
import Derived.Test.YtaiebhfggjljiaaDoorKw
import Derived.Test.YtaiebhfggjljiaaDoorWb
import Derived.Deep.MidRow
import Derived.Laws.IdiomStrings
namespace Go.Proofs.YtaiebhfggjljiaaDoor.Ev
open Go.RowKit Go.BigFrame
set_option linter.unusedVariables false
set_option linter.unusedSimpArgs false

def upN (n : Int) : Int := if 97 ≤ n ∧ n ≤ 122 then n - 32 else n
def upB (b : UInt8) : UInt8 := if 97 ≤ b.toNat ∧ b.toNat ≤ 122 then b - 32 else b
theorem upB_toNat (b : UInt8) : ((upB b).toNat : Int) = upN (b.toNat : Int) := by
  unfold upB upN
  by_cases h : 97 ≤ b.toNat ∧ b.toNat ≤ 122
  · rw [if_pos h, if_pos (by omega)]
    have h32 : (32 : UInt8).toNat = 32 := rfl
    rw [UInt8.toNat_sub_of_le b 32 (by rw [UInt8.le_iff_toNat_le, h32]; omega), h32]
    omega
  · rw [if_neg h, if_neg (by omega)]
def upS (s : ByteArray) : ByteArray := ⟨s.data.map upB⟩
theorem upS_size (s : ByteArray) : (upS s).size = s.size := by show (s.data.map upB).size = s.data.size; simp

theorem byteW (s : ByteArray) (t : Nat) (h : t < s.size) (P : Program) (T : TypeId) (hT : P.underlying T = some .string) (w : World) : (Instr.index T (.string s) (.int .i64 (t : Int))).run P w = .ok (.int .u8 ((s.data.getD t 0).toNat : Int)) w := by
  rw [run_index_string w T s .i64 t hT, dif_pos ⟨by omega, by omega⟩]
  simp [ByteArray.getElem_eq_getElem_data, Array.getD, h]

def wrB (s k : ByteArray) : Bool := (upS s).toList == k.toList
theorem wrB_true {s k : ByteArray} (hs : s.size = k.size) (h : ∀ j, j < s.size → upB (s.data.getD j 0) = k.data.getD j 0) : wrB s k = true := by
  unfold wrB
  rw [ByteArray.toList_eq, ByteArray.toList_eq, beq_iff_eq, Array.toList_inj]
  have hs' : s.data.size = k.data.size := hs
  refine Array.ext (by simp [upS, hs']) fun j h1 h2 => ?_
  have hk : j < k.size := h2
  have := h j (by omega)
  have hj : j < s.size := by omega
  simpa [upS, Array.getD, hk, hj] using this
theorem wrB_size {s k : ByteArray} (hs : s.size ≠ k.size) : wrB s k = false := by
  unfold wrB
  rw [ByteArray.toList_eq, ByteArray.toList_eq, beq_eq_false_iff_ne]
  intro e
  have := congrArg List.length e
  simp [upS] at this
  exact hs this
theorem wrB_false {s k : ByteArray} (hs : s.size = k.size) {j : Nat} (hj : j < s.size) (h : upB (s.data.getD j 0) ≠ k.data.getD j 0) : wrB s k = false := by
  unfold wrB
  rw [ByteArray.toList_eq, ByteArray.toList_eq, beq_eq_false_iff_ne]
  intro e
  refine h ?_
  have hs' : s.data.size = k.data.size := hs
  have hk : j < k.size := by omega
  have h1 : s.data[j]? = some (s.data[j]'hj) := Array.getElem?_eq_getElem _
  have h2 : k.data[j]? = some (k.data[j]'hk) := Array.getElem?_eq_getElem _
  have := congrArg (fun l => l[j]?) e
  simpa [upS, Array.getD, hk, hj, h1, h2] using this

theorem more {p : Nat → Bool} {k : Nat} (h : ∀ j, j < k → p j = false) (hk : p k = false) : ∀ j, j < k + 1 → p j = false := by
  intro j hj
  rcases Nat.lt_or_ge j k with h1 | h1
  · exact h j h1
  · obtain rfl : j = k := by omega
    exact hk
theorem kw_size (j : Nat) (h : j < 27) : (kw j).size ≤ 9223372036854775807 := by
  rcases (show j = 0 ∨ j = 1 ∨ j = 2 ∨ j = 3 ∨ j = 4 ∨ j = 5 ∨ j = 6 ∨ j = 7 ∨ j = 8 ∨ j = 9 ∨ j = 10 ∨ j = 11 ∨ j = 12 ∨ j = 13 ∨ j = 14 ∨ j = 15 ∨ j = 16 ∨ j = 17 ∨ j = 18 ∨ j = 19 ∨ j = 20 ∨ j = 21 ∨ j = 22 ∨ j = 23 ∨ j = 24 ∨ j = 25 ∨ j = 26 from by omega) with rfl | rfl | rfl | rfl | rfl | rfl | rfl | rfl | rfl | rfl | rfl | rfl | rfl | rfl | rfl | rfl | rfl | rfl | rfl | rfl | rfl | rfl | rfl | rfl | rfl | rfl | rfl <;> decide
theorem kw_ix (j : Nat) (h : j < 27) : ∀ w, (Instr.index 94 (.agg kwcells) (.int .i64 (j : Int))).run Tryd.prog w = .ok (.string (kw j)) w := by
  rcases (show j = 0 ∨ j = 1 ∨ j = 2 ∨ j = 3 ∨ j = 4 ∨ j = 5 ∨ j = 6 ∨ j = 7 ∨ j = 8 ∨ j = 9 ∨ j = 10 ∨ j = 11 ∨ j = 12 ∨ j = 13 ∨ j = 14 ∨ j = 15 ∨ j = 16 ∨ j = 17 ∨ j = 18 ∨ j = 19 ∨ j = 20 ∨ j = 21 ∨ j = 22 ∨ j = 23 ∨ j = 24 ∨ j = 25 ∨ j = 26 from by omega) with rfl | rfl | rfl | rfl | rfl | rfl | rfl | rfl | rfl | rfl | rfl | rfl | rfl | rfl | rfl | rfl | rfl | rfl | rfl | rfl | rfl | rfl | rfl | rfl | rfl | rfl | rfl
  all_goals (intro w; kernel_rfl)
theorem kw_range {w : World} (K : KwAt w) : w.rangeAt 0 0 (kwl.map fun b => Value.string ⟨b.toArray⟩) := by
  intro j v hj
  have hl : j < 27 := by have := (List.getElem?_eq_some_iff.1 hj).1; simpa [kwl] using this
  rw [Nat.zero_add, K.2 j hl]
  simp only [List.getElem?_map, Option.map_eq_some_iff] at hj
  obtain ⟨b, hb, rfl⟩ := hj
  simp [kw, List.getD, hb]

theorem kw_up (j : Nat) (h : j < 27) : ∀ t, t < (kw j).size → 65 ≤ ((kw j).data.getD t 0).toNat ∧ ((kw j).data.getD t 0).toNat ≤ 90 := by
  rcases (show j = 0 ∨ j = 1 ∨ j = 2 ∨ j = 3 ∨ j = 4 ∨ j = 5 ∨ j = 6 ∨ j = 7 ∨ j = 8 ∨ j = 9 ∨ j = 10 ∨ j = 11 ∨ j = 12 ∨ j = 13 ∨ j = 14 ∨ j = 15 ∨ j = 16 ∨ j = 17 ∨ j = 18 ∨ j = 19 ∨ j = 20 ∨ j = 21 ∨ j = 22 ∨ j = 23 ∨ j = 24 ∨ j = 25 ∨ j = 26 from by omega) with rfl | rfl | rfl | rfl | rfl | rfl | rfl | rfl | rfl | rfl | rfl | rfl | rfl | rfl | rfl | rfl | rfl | rfl | rfl | rfl | rfl | rfl | rfl | rfl | rfl | rfl | rfl <;> decide

end Go.Proofs.YtaiebhfggjljiaaDoor.Ev
