/- The laws' own comparisons of two things that are the same. -/
import Derived.Test.YtmoimmghmmomlaaDoorQk
namespace Go.Proofs.YtmoimmghmmomlaaDoor
open Go.RowKit Go.BigFrame
set_option linter.unusedVariables false
set_option linter.unusedSimpArgs false

theorem ndsV_at (ns : List Nd) : ∀ i, i < ns.length → ∀ j, j < 6 → (ndsV ns)[i * 6 + j]? = (ndA (ns.getD i noNd)).toList[j]? := by
  induction ns with
  | nil => intro i hi; simp at hi
  | cons t r ih =>
    intro i hi j hj
    have e : ndsV (t :: r) = (ndA t).toList ++ ndsV r := rfl
    have hl : (ndA t).toList.length = 6 := rfl
    rw [e]
    cases i with
    | zero =>
      rw [Nat.zero_mul, Nat.zero_add, List.getElem?_append_left (by omega)]
      rfl
    | succ i =>
      rw [List.getElem?_append_right (by omega), hl, show (i + 1) * 6 + j - 6 = i * 6 + j by omega]
      rw [ih i (by simpa using hi) j hj]
      rfl
theorem own_addr {w : World} {b : Nat} {e : TypeId} {sz : Nat} {ao : Option Addr} {n c : Nat} {xs : List Value} (h : w.ownsRow b e sz (.slice ao n c) n xs) (hn : 0 < n) : ∃ g, ao = some ⟨g, 0, none⟩ ∧ g < w.heap.size := by
  rcases h.2 with ⟨_, h0⟩ | ⟨g, cap, cur, h1, _, hh, _⟩
  · omega
  · simp only [Value.slice.injEq] at h1
    exact ⟨g, h1.1, lt_of_block hh⟩
theorem own_le {w : World} {b : Nat} {e : TypeId} {sz : Nat} {v : Value} {n : Nat} {xs : List Value} (h : w.ownsRow b e sz v n xs) : n ≤ 9223372036854775807 := by
  rcases h.2 with ⟨_, h0⟩ | ⟨g, cap, cur, _, _, _, h1, h2, _⟩
  · omega
  · unfold maxLen at h2; omega
set_option maxRecDepth 100000 in
set_option maxHeartbeats 4000000 in
theorem sameInts_true (l : List Int) (b1 b2 : Nat) (v1 v2 : Value) (w : World) (A : w.ownsRow b1 3 1 v1 l.length (intsV l)) (B : w.ownsRow b2 3 1 v2 l.length (intsV l)) :
    Calls Tryd.prog 16 #[v1, v2] w fun e w' => e = .returned (.bool true) ∧ Below w.heap.size w w' := by
  obtain ⟨ao, c1, rfl⟩ := own_shape A
  obtain ⟨bo, c2, rfl⟩ := own_shape B
  obtain ⟨n, hn⟩ : ∃ n, l.length = n := ⟨_, rfl⟩
  rw [hn] at A B ⊢
  have hl := own_le A
  go_enter Tryd.func16, Tryd.ntmps16
  go_wp2
  go_loopw [5] (fun x wr => ∃ k : Nat, k ≤ n ∧ x = .int .i64 k ∧ Below w.heap.size w wr) (fun x _ => n - (intOf x).toNat)
  case atStart => exact ⟨0, Nat.zero_le _, rfl, Below.refl _ _⟩
  case round =>
    obtain ⟨k, hk, rfl, G⟩ := hrel
    by_cases hlt : k < n
    · obtain ⟨g1, rfl, hg1⟩ := own_addr A (by omega)
      obtain ⟨g2, rfl, hg2⟩ := own_addr B (by omega)
      have x0 : w.cell? ⟨g1, k, none⟩ = some (.int .i64 (l.getD k 0)) := by
        rw [World.ownsRow.cellAt A k (by omega)]
        have : k < l.length := by omega
        simp [intsV, List.getD, List.getElem?_eq_getElem this]
      have y0 : w.cell? ⟨g2, k, none⟩ = some (.int .i64 (l.getD k 0)) := by
        rw [World.ownsRow.cellAt B k (by omega)]
        have : k < l.length := by omega
        simp [intsV, List.getD, List.getElem?_eq_getElem this]
      replace x0 := (G.cell (p := ⟨_, _, none⟩) hg1).trans x0
      replace y0 := (G.cell (p := ⟨_, _, none⟩) hg2).trans y0
      generalize l.getD k 0 = z at *
      clear A B
      go_wp2
      go_region_with fail
      all_goals
        go_wp2
        go_roundw
        case rel => exact ⟨k + 1, by omega, by go_num, by first | exact G.drew | exact G⟩
        case measure => simp [intOf]; omega
    · obtain rfl : k = n := by omega
      go_wp2
      go_ret
      exact ⟨rfl, G⟩
theorem nds_cells {w : World} {b g n c : Nat} {ns : List Nd} (h : w.ownsRow b 58 6 (.slice (some ⟨g, 0, none⟩) n c) n (ndsV ns)) (hn : ns.length = n) (k : Nat) (hk : k < n) : w.cell? ⟨g, k * 6, none⟩ = some (.int .i64 (ns.getD k noNd).op) ∧ w.cell? ⟨g, k * 6 + 1, none⟩ = some (.int .i64 (ns.getD k noNd).n) ∧ w.cell? ⟨g, k * 6 + 2, none⟩ = some (.string (ns.getD k noNd).v) ∧ w.cell? ⟨g, k * 6 + 3, none⟩ = some (.string (ns.getD k noNd).x) ∧ w.cell? ⟨g, k * 6 + 4, none⟩ = some (.int .i64 (ns.getD k noNd).l) ∧ w.cell? ⟨g, k * 6 + 5, none⟩ = some (.int .i64 (ns.getD k noNd).r) := by
  have hc : ∀ j, j < 6 → w.cell? ⟨g, k * 6 + j, none⟩ = (ndA (ns.getD k noNd)).toList[j]? := fun j hj => by
    rw [World.ownsRow.cellAt h (k * 6 + j) (by omega), ndsV_at ns k (by omega) j hj]
  exact ⟨hc 0 (by omega), hc 1 (by omega), hc 2 (by omega), hc 3 (by omega), hc 4 (by omega), hc 5 (by omega)⟩
set_option maxRecDepth 100000 in
set_option maxHeartbeats 4000000 in
theorem sameNodes_true (l : List Nd) (b1 b2 : Nat) (v1 v2 : Value) (w : World) (A : w.ownsRow b1 58 6 v1 l.length (ndsV l)) (B : w.ownsRow b2 58 6 v2 l.length (ndsV l)) :
    Calls Tryd.prog 15 #[v1, v2] w fun e w' => e = .returned (.bool true) ∧ Below w.heap.size w w' := by
  obtain ⟨ao, c1, rfl⟩ := own_shape A
  obtain ⟨bo, c2, rfl⟩ := own_shape B
  obtain ⟨n, hn⟩ : ∃ n, l.length = n := ⟨_, rfl⟩
  rw [hn] at A B ⊢
  have hl := own_le A
  go_enter Tryd.func15, Tryd.ntmps15
  go_wp2
  go_loopw [5] (fun x wr => ∃ k : Nat, k ≤ n ∧ x = .int .i64 k ∧ Below w.heap.size w wr) (fun x _ => n - (intOf x).toNat)
  case atStart => exact ⟨0, Nat.zero_le _, rfl, Below.refl _ _⟩
  case round =>
    obtain ⟨k, hk, rfl, G⟩ := hrel
    by_cases hlt : k < n
    · obtain ⟨g1, rfl, hg1⟩ := own_addr A (by omega)
      obtain ⟨g2, rfl, hg2⟩ := own_addr B (by omega)
      obtain ⟨x0, x1, x2, x3, x4, x5⟩ := nds_cells A hn k hlt
      obtain ⟨y0, y1, y2, y3, y4, y5⟩ := nds_cells B hn k hlt
      replace x0 := (G.cell (p := ⟨_, _, none⟩) hg1).trans x0
      replace x1 := (G.cell (p := ⟨_, _, none⟩) hg1).trans x1
      replace x2 := (G.cell (p := ⟨_, _, none⟩) hg1).trans x2
      replace x3 := (G.cell (p := ⟨_, _, none⟩) hg1).trans x3
      replace x4 := (G.cell (p := ⟨_, _, none⟩) hg1).trans x4
      replace x5 := (G.cell (p := ⟨_, _, none⟩) hg1).trans x5
      replace y0 := (G.cell (p := ⟨_, _, none⟩) hg2).trans y0
      replace y1 := (G.cell (p := ⟨_, _, none⟩) hg2).trans y1
      replace y2 := (G.cell (p := ⟨_, _, none⟩) hg2).trans y2
      replace y3 := (G.cell (p := ⟨_, _, none⟩) hg2).trans y3
      replace y4 := (G.cell (p := ⟨_, _, none⟩) hg2).trans y4
      replace y5 := (G.cell (p := ⟨_, _, none⟩) hg2).trans y5
      generalize l.getD k noNd = z at *
      clear A B
      go_wp2
      go_region_with fail
      all_goals
        go_wp2
        go_roundw
        case rel => exact ⟨k + 1, by omega, by go_num, by first | exact G.drew | exact G⟩
        case measure => simp [intOf]; omega
    · obtain rfl : k = n := by omega
      go_wp2
      go_ret
      exact ⟨rfl, G⟩
end Go.Proofs.YtmoimmghmmomlaaDoor
