/- The laws' own beyond: have the tokens perhaps too many bytes? -/
import Derived.Test.YtlcmfefcammklaaDoorJo
namespace Go.Proofs.YtlcmfefcammklaaDoor
open Go.RowKit Go.BigFrame
set_option linter.unusedVariables false
set_option linter.unusedSimpArgs false

/-- What is left of the bound behind the first k tokens. -/
def leftI (ts : List Tok) : Nat → Int
  | 0 => 2147483647
  | k + 1 => leftI ts k - 20 - ((ts.getD k noTok).t.size : Int)
theorem leftI_anti (ts : List Tok) (k : Nat) : ∀ n, leftI ts (k + n) ≤ leftI ts k := by
  intro n
  induction n with
  | zero => exact Int.le_refl _
  | succ n ih =>
    show leftI ts (k + n) - 20 - _ ≤ _
    omega
theorem leftI_mono (ts : List Tok) (k : Nat) : leftI ts (k + 1) ≤ leftI ts k - 20 := by
  show leftI ts k - 20 - _ ≤ _
  omega

set_option maxRecDepth 100000 in
set_option maxHeartbeats 4000000 in
theorem beyond_any (ts : List Tok) (ao : Option Addr) (cap : Nat) (hl : ts.length ≤ 10000000000000) (hS : ∀ k, k < ts.length → (ts.getD k noTok).t.size ≤ 140737488351232) (w : World) (A : IsToks w ao ts) :
    Calls Tryd.prog 13 #[.slice ao ts.length cap] w fun e w' => e = .returned (.bool (decide (leftI ts ts.length < 0))) ∧ Below w.heap.size w w' := by
  obtain ⟨n, hn⟩ : ∃ n, ts.length = n := ⟨_, rfl⟩
  rw [hn]
  obtain ⟨b, hb⟩ : ∃ b, b = decide (leftI ts n < 0) := ⟨_, rfl⟩
  rw [← hb]
  have HB : Hid (b = decide (leftI ts n < 0)) := hb
  clear hb
  go_enter Tryd.func13, Tryd.ntmps13
  go_wp2
  go_loopw [3, 4] (fun lf i wr => ∃ k : Nat, k ≤ n ∧ i = .int .i64 k ∧ lf = .int .i64 (leftI ts k) ∧ leftI ts k ≤ 2147483647 ∧ -140737488351252 ≤ leftI ts k ∧ Below w.heap.size w wr) (fun _ i _ => n - (intOf i).toNat)
  case atStart => exact ⟨0, Nat.zero_le _, rfl, rfl, Int.le_refl _, by show (-140737488351252 : Int) ≤ 2147483647; decide, Below.refl _ _⟩
  case round =>
    obtain ⟨k, hk, rfl, rfl, h1, h2, G⟩ := hrel
    by_cases hlt : k < n
    · by_cases hpos : 0 ≤ leftI ts k
      · obtain ⟨g, o, rfl, x0, x1, x2, x3⟩ := (A.keep G) k (by omega)
        have hs := hS k (by omega)
        have hnx : leftI ts (k + 1) = leftI ts k - 20 - ((ts.getD k noTok).t.size : Int) := rfl
        have HX : Hid (leftI ts (k + 1) = leftI ts k - 20 - ((ts.getD k noTok).t.size : Int)) := hnx
        clear hnx
        generalize ts.getD k noTok = y at *
        generalize leftI ts k = lf at *
        have hs2 : (y.t.size : Int) ≤ 140737488351232 := by omega
        go_wp2
        go_roundw
        case rel => exact ⟨k + 1, by omega, by go_num, by first | (rw [HX.out]; done) | (rw [HX.out]; rfl) | (rw [HX.out]; go_num), by rw [HX.out]; omega, by rw [HX.out]; omega, by first | exact G | exact G.drew⟩
        case measure => simp [intOf]; omega
      · have d0 : decide ((0 : Int) ≤ leftI ts k) = false := decide_eq_false hpos
        have d1 : leftI ts k < 0 := by omega
        have hbt : b = true := by
          rw [HB.out, decide_eq_true_eq]
          have := leftI_anti ts k (n - k)
          rw [show k + (n - k) = n by omega] at this
          omega
        subst hbt
        generalize leftI ts k = lf at *
        go_wp2
        go_ret
        exact ⟨by first | rfl | simp [d1], G⟩
    · obtain rfl : k = n := by omega
      by_cases hpos : leftI ts k < 0
      · have hbt : b = true := by rw [HB.out]; exact decide_eq_true hpos
        subst hbt
        have d1 : decide (leftI ts k < 0) = true := decide_eq_true hpos
        generalize leftI ts k = lf at h1 h2 hpos d1 ⊢
        go_wp2
        go_ret
        exact ⟨by first | rfl | simp [hpos], G⟩
      · have hbt : b = false := by rw [HB.out]; exact decide_eq_false hpos
        subst hbt
        have hp2 : 0 ≤ leftI ts k := by omega
        have d1 : decide (leftI ts k < 0) = false := decide_eq_false hpos
        generalize leftI ts k = lf at h1 h2 hpos hp2 d1 ⊢
        go_wp2
        go_ret
        exact ⟨by first | rfl | simp [hp2], G⟩
theorem kw_small (j : Nat) (h : j < 27) : (kw j).size ≤ 21 := by
  rcases (show j = 0 ∨ j = 1 ∨ j = 2 ∨ j = 3 ∨ j = 4 ∨ j = 5 ∨ j = 6 ∨ j = 7 ∨ j = 8 ∨ j = 9 ∨ j = 10 ∨ j = 11 ∨ j = 12 ∨ j = 13 ∨ j = 14 ∨ j = 15 ∨ j = 16 ∨ j = 17 ∨ j = 18 ∨ j = 19 ∨ j = 20 ∨ j = 21 ∨ j = 22 ∨ j = 23 ∨ j = 24 ∨ j = 25 ∨ j = 26 from by omega) with rfl | rfl | rfl | rfl | rfl | rfl | rfl | rfl | rfl | rfl | rfl | rfl | rfl | rfl | rfl | rfl | rfl | rfl | rfl | rfl | rfl | rfl | rfl | rfl | rfl | rfl | rfl <;> decide
theorem sg_small (j : Nat) (h : j < 19) : (sg j).size ≤ 21 := by
  rcases (show j = 0 ∨ j = 1 ∨ j = 2 ∨ j = 3 ∨ j = 4 ∨ j = 5 ∨ j = 6 ∨ j = 7 ∨ j = 8 ∨ j = 9 ∨ j = 10 ∨ j = 11 ∨ j = 12 ∨ j = 13 ∨ j = 14 ∨ j = 15 ∨ j = 16 ∨ j = 17 ∨ j = 18 from by omega) with rfl | rfl | rfl | rfl | rfl | rfl | rfl | rfl | rfl | rfl | rfl | rfl | rfl | rfl | rfl | rfl | rfl | rfl | rfl <;> decide
theorem spS_small (t : Tok) (h : okN t) : (spS t).size ≤ 21 + t.t.size := by
  unfold spS
  split
  · omega
  · split
    · have := Lib.itoa_length_le t.n h.1 h.2
      have h2 : (⟨(Lib.itoa t.n).toArray⟩ : ByteArray).size = (Lib.itoa t.n).length := by show (Lib.itoa t.n).toArray.size = _; simp
      omega
    · split
      · have := sg_small (t.k - 3).toNat (by omega); omega
      · split
        · have := kw_small (t.k - 30).toNat (by omega); omega
        · show 0 ≤ _; omega
theorem joinU_small (ts : List Tok) (hN : ∀ k, k < ts.length → okN (ts.getD k noTok)) : ∀ k, k ≤ ts.length → ((joinU ts k).length : Int) ≤ 2 * (2147483647 - leftI ts k) := by
  intro k
  induction k with
  | zero => intro _; show ((0 : Nat) : Int) ≤ 2 * (2147483647 - 2147483647); omega
  | succ k ih =>
    intro hk
    have h1 := ih (by omega)
    have h2 := spS_small _ (hN k (by omega))
    have h3 : (spS (ts.getD k noTok)).data.toList.length = (spS (ts.getD k noTok)).size := Array.length_toList
    have h4 : (if 0 < k then [(32 : UInt8)] else []).length ≤ 1 := by split <;> simp
    have h5 : (joinU ts (k + 1)).length = (joinU ts k).length + (if 0 < k then [(32 : UInt8)] else []).length + (spS (ts.getD k noTok)).data.toList.length := by
      show (joinU ts k ++ (if 0 < k then [32] else []) ++ (spS (ts.getD k noTok)).data.toList).length = _
      rw [List.length_append, List.length_append]
    have h6 : leftI ts (k + 1) = leftI ts k - 20 - ((ts.getD k noTok).t.size : Int) := rfl
    omega
theorem left_len (ts : List Tok) : ∀ k, leftI ts k ≤ 2147483647 - 20 * (k : Int) := by
  intro k
  induction k with
  | zero => show (2147483647 : Int) ≤ _; omega
  | succ k ih =>
    have h6 : leftI ts (k + 1) = leftI ts k - 20 - ((ts.getD k noTok).t.size : Int) := rfl
    omega

end Go.Proofs.YtlcmfefcammklaaDoor
