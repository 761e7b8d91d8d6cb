/- The laws' own same: two lists of the same tokens. -/
import Derived.Test.YtlcmfefcammklabDoorLx5
namespace Go.Proofs.YtlcmfefcammklabDoor
open Go.RowKit Go.BigFrame
set_option linter.unusedVariables false
set_option linter.unusedSimpArgs false

/-- A row of tokens in memory. -/
def IsToks (w : World) (ao : Option Addr) (ts : List Tok) : Prop := ∀ i, i < ts.length → ∃ g o, ao = some ⟨g, o, none⟩ ∧ w.cell? ⟨g, o + i * 4, none⟩ = some (.int .i64 (ts.getD i noTok).k) ∧ w.cell? ⟨g, o + i * 4 + 1, none⟩ = some (.string (ts.getD i noTok).t) ∧ w.cell? ⟨g, o + i * 4 + 2, none⟩ = some (.int .i64 (ts.getD i noTok).n) ∧ w.cell? ⟨g, o + i * 4 + 3, none⟩ = some (.int .i64 (ts.getD i noTok).a)

set_option maxRecDepth 100000 in
set_option maxHeartbeats 4000000 in
theorem same_true (ts : List Tok) (hl : ts.length ≤ 8192) (ao bo : Option Addr) (c1 c2 : Nat) (w : World) (A : IsToks w ao ts) (B : IsToks w bo ts) :
    Calls Tryd.prog 15 #[.slice ao ts.length c1, .slice bo ts.length c2] w fun e w' => e = .returned (.bool true) ∧ Below w.heap.size w w' := by
  obtain ⟨n, hn⟩ : ∃ n, ts.length = n := ⟨_, rfl⟩
  rw [hn]
  go_enter Tryd.func15, Tryd.ntmps15
  go_wp2
  go_loopw [5] (fun x wr => ∃ k : Nat, k ≤ n ∧ x = .int .i64 k ∧ Below w.heap.size w wr) (fun x _ => n - (intOf x).toNat)
  case atStart => exact ⟨0, Nat.zero_le _, rfl, Below.refl _ _⟩
  case round =>
    obtain ⟨k, hk, rfl, G⟩ := hrel
    by_cases hlt : k < n
    · obtain ⟨g1, o1, rfl, x0, x1, x2, x3⟩ := A k (by omega)
      obtain ⟨g2, o2, rfl, y0, y1, y2, y3⟩ := B k (by omega)
      replace x0 := (G.cell (p := ⟨_, _, none⟩) (lt_of_cell x0)).trans x0
      replace x1 := (G.cell (p := ⟨_, _, none⟩) (lt_of_cell x1)).trans x1
      replace x2 := (G.cell (p := ⟨_, _, none⟩) (lt_of_cell x2)).trans x2
      replace x3 := (G.cell (p := ⟨_, _, none⟩) (lt_of_cell x3)).trans x3
      replace y0 := (G.cell (p := ⟨_, _, none⟩) (lt_of_cell y0)).trans y0
      replace y1 := (G.cell (p := ⟨_, _, none⟩) (lt_of_cell y1)).trans y1
      replace y2 := (G.cell (p := ⟨_, _, none⟩) (lt_of_cell y2)).trans y2
      replace y3 := (G.cell (p := ⟨_, _, none⟩) (lt_of_cell y3)).trans y3
      generalize ts.getD k noTok = t at *
      clear A B
      go_wp2
      go_region_with fail
      all_goals
        go_wp2
        go_roundw
        case rel => exact ⟨k + 1, by omega, by go_num, by first | exact G.drew | exact G⟩
        case measure => simp [intOf]; omega
    · obtain rfl : k = n := by omega
      go_wp2
      go_ret
      exact ⟨rfl, G⟩

end Go.Proofs.YtlcmfefcammklabDoor
