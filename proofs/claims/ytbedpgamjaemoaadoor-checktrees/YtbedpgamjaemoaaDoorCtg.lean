/- Conjuncts; the document's parents and what lies below a place. -/
import Derived.Test.YtbedpgamjaemoaaDoorCtf
import Derived.Test.YtbedpgamjaemoaaDoorShf
import Derived.Deep.RegionHeld
namespace Go.Proofs.YtbedpgamjaemoaaDoor
open Go.RowKit Go.BigFrame Go.Proofs.YtbedpgamjaemoaaDoor.Ev
set_option linter.unusedVariables false
set_option linter.unusedSimpArgs false

def conjO (ns : List Nd) : List Int := if treeB ns = true then (conjL ns).map (fun i : Nat => (i : Int)) else []
set_option maxRecDepth 100000 in
set_option maxHeartbeats 4000000 in
theorem conjuncts_any (ns : List Nd) (ao : Option Addr) (cap : Nat) (w : World) (A : IsNds w ao ns) (hr : ns.length * 64 ≤ 140737488351232) (hf : ∀ k, (ns.getD k noNd).fit) (K : KwAt w) :
    Calls Tryd.prog 8 #[.slice ao ns.length cap] w fun e w' => ∃ v, e = .returned v ∧ w'.ownsRow w.heap.size 3 1 v (conjO ns).length (intsV (conjO ns)) ∧ Below w.heap.size w w' := by
  have c1 := shTree_any ns ao cap w K A hr hf
  unfold conjO
  cases hT : treeB ns
  · rw [hT] at c1
    rw [if_neg (by decide)]
    go_enter Tryd.func8, Tryd.ntmps8
    go_wp2_with (go_at_call 20; (with_reducible refine c1.mono ?_); rintro e u ⟨rfl, g⟩)
    go_ret
    exact ⟨_, rfl, World.ownsRow_nil _ _ _ _, g⟩
  · rw [hT] at c1
    rw [if_pos rfl, List.length_map]
    have c2 := fun (u : World) (g : Below w.heap.size w u) => topmost_any ns hT ao cap u (A.keep g) hr
    generalize intsV ((conjL ns).map fun i : Nat => (i : Int)) = xs at *
    go_enter Tryd.func8, Tryd.ntmps8
    go_wp2_with (first
      | (go_at_call 20; (with_reducible refine c1.mono ?_); rintro e u ⟨rfl, g⟩)
      | (go_at_call 21; (with_reducible refine (c2 _ g).mono ?_); rintro e u2 ⟨v, rfl, O, g2⟩))
    go_ret
    exact ⟨_, rfl, World.ownsRow.mono O g.size, gtrans g g2⟩
set_option maxRecDepth 100000 in
set_option maxHeartbeats 8000000 in
theorem parents_any (ns : List Nd) (hT : treeB ns = true) (ao : Option Addr) (cap : Nat) (w : World) (A : IsNds w ao ns) (hr : ns.length * 64 ≤ 140737488351232) :
    Calls Tryd.prog 25 #[.slice ao ns.length cap] w fun e w' => ∃ b, e = .returned (.slice (some ⟨b, 0, none⟩) ns.length ns.length) ∧ w.heap.size ≤ b ∧ w'.rowIs b 3 ns.length (fun j => .int .i64 (parF ns ns.length j)) ∧ Below w.heap.size w w' := by
  obtain ⟨hbs, h0, hb0, K⟩ := tree_bs hT
  obtain ⟨n, hn⟩ : ∃ n, ns.length = n := ⟨_, rfl⟩
  have hmk := run_make_row' (P := Tryd.prog) 27 3 (.int .i64 0) 8 Tryd.underlying27 int_info rfl .i64 .i64 n (by omega) (by omega)
  rw [hn] at hr h0 ⊢
  have R0 := World.rowIs_made w (.int .i64 0) n 3
  have B0 := galloc (Below.refl w.heap.size w) (.cells (madeCells #[.int .i64 0] n) 3)
  go_enter Tryd.func25, Tryd.ntmps25
  go_wp2
  clear hmk
  generalize w.alloc (.cells (madeCells #[.int .i64 0] n) 3) = V at *
  go_loopw [4] (fun x wr => ∃ k : Nat, k ≤ n ∧ x = .int .i64 k ∧ wr.rowIs w.heap.size 3 n (fun j => .int .i64 (if j < k then -1 else 0)) ∧ Below w.heap.size w wr) (fun x _ => n - (intOf x).toNat)
  case atStart => exact ⟨0, Nat.zero_le _, rfl, R0.congr (fun j hj => by rw [if_neg (by omega)]), B0⟩
  case round =>
    obtain ⟨k, hk, rfl, R, G⟩ := hrel
    by_cases hlt : k < n
    · have c1 := R.cell (i := k) hlt
      have f1 := R.frozen k
      have hki : (k : Int) < (n : Int) := by omega
      have R2 := (R.set k (.int .i64 (-1))).congr (g := fun j => .int .i64 (if j < k + 1 then -1 else 0)) (fun j hj => by
        by_cases h : j = k
        · rw [if_pos h, if_pos (by omega)]
        · rw [if_neg h]
          by_cases h2 : j < k
          · rw [if_pos h2, if_pos (by omega)]
          · rw [if_neg h2, if_neg (by omega)])
      have G2 := gset G (p := ⟨w.heap.size, k, none⟩) (Nat.le_refl _) (.int .i64 (-1))
      clear R
      go_wp2
      go_roundw
      case rel => exact ⟨k + 1, by omega, by go_num, R2, G2⟩
      case measure => simp [intOf]; omega
    · obtain rfl : k = n := by omega
      have R3 := R.congr (g := fun j => .int .i64 (parF ns 0 j)) (fun j hj => by rw [if_pos hj]; rfl)
      clear R R0
      go_wp2
      generalize hV2 : wr = X at *
      clear hV2
      go_loopw [5] (fun x wr => ∃ i : Nat, i ≤ k ∧ x = .int .i64 i ∧ wr.rowIs w.heap.size 3 k (fun j => .int .i64 (parF ns i j)) ∧ Below w.heap.size w wr) (fun x _ => k - (intOf x).toNat)
      case atStart => exact ⟨0, Nat.zero_le _, rfl, R3, G⟩
      case round =>
        rename_i wr2 _
        obtain ⟨i, hi, rfl, R, G2⟩ := hrel
        by_cases hlt2 : i < k
        · obtain ⟨g, o, rfl, lg, _⟩ := A i (by omega)
          replace lg : g < w.heap.size := lt_of_cell lg
          obtain ⟨g', o', eg, _, _, _, _, y4, y5⟩ := (A.keep G2) i (by omega)
          cases eg
          have yk := fun (l : Nat) (v : Value) => (World.cell?_setCell_far _ ⟨w.heap.size, l, none⟩ ⟨g, o + i * 6 + 5, none⟩ v (by dsimp only; omega)).trans y5
          have hii : (i : Int) < (k : Int) := by omega
          rcases (K i (by omega)).how with ⟨_, _, e1, e2⟩ | ⟨_, e0, e1, e2, _⟩ | ⟨_, e0, e1, e2, e3, _⟩
          · clear yk
            rw [e1] at y4
            rw [e2] at y5
            have R2 := R.congr (g := fun j => .int .i64 (parF ns (i + 1) j)) (fun j hj => by
              show _ = Value.int _ (if Kid ns i j then (i : Int) else parF ns i j)
              rw [if_neg (by unfold Kid; omega)])
            clear e1 e2 R
            go_wp2
            go_roundw
            case rel => exact ⟨i + 1, by omega, by go_num, R2, G2⟩
            case measure => simp [intOf]; omega
          · obtain ⟨l, hl⟩ : ∃ l, i - 1 = l := ⟨_, rfl⟩
            rw [hl] at e1
            rw [e1] at y4
            rw [e2] at y5 yk
            have c1 := R.cell (i := l) (by omega)
            have f1 := R.frozen l
            have hli : (l : Int) < (k : Int) := by omega
            have R2 := (R.set l (.int .i64 i)).congr (g := fun j => .int .i64 (parF ns (i + 1) j)) (fun j hj => by
              show _ = Value.int _ (if Kid ns i j then (i : Int) else parF ns i j)
              by_cases h : j = l
              · rw [if_pos h, if_pos (by unfold Kid; omega)]
              · rw [if_neg h, if_neg (by unfold Kid; omega)])
            have G3 := gset G2 (p := ⟨w.heap.size, l, none⟩) (Nat.le_refl _) (.int .i64 i)
            clear e1 e2 e0 hl R
            go_wp2
            go_roundw
            case rel => exact ⟨i + 1, by omega, by go_num, R2, G3⟩
            case measure => simp [intOf]; omega
          · obtain ⟨r, hr2⟩ : ∃ r, i - 1 = r := ⟨_, rfl⟩
            rw [hr2] at e1 e2 e3
            have kr := (K r (by omega)).le
            obtain ⟨l, hl⟩ : ∃ l, bg (bsOf ns) r - 1 = l := ⟨_, rfl⟩
            rw [hl] at e3
            rw [e3] at y4
            rw [e2] at y5 yk
            have c1 := R.cell (i := l) (by omega)
            have f1 := R.frozen l
            have c2 := R.cell (i := r) (by omega)
            have f2 := R.frozen r
            have hli : (l : Int) < (k : Int) := by omega
            have hri : (r : Int) < (k : Int) := by omega
            have hlr : ¬ l = r := by omega
            have hrl : ¬ r = l := by omega
            have R2 := ((R.set l (.int .i64 i)).set r (.int .i64 i)).congr (g := fun j => .int .i64 (parF ns (i + 1) j)) (fun j hj => by
              show _ = Value.int _ (if Kid ns i j then (i : Int) else parF ns i j)
              by_cases h : j = r
              · rw [if_pos h, if_pos (by unfold Kid; omega)]
              · rw [if_neg h]
                by_cases h2 : j = l
                · rw [if_pos h2, if_pos (by unfold Kid; omega)]
                · rw [if_neg h2, if_neg (by unfold Kid; omega)])
            have G3 := gset (gset G2 (p := ⟨w.heap.size, l, none⟩) (Nat.le_refl _) (.int .i64 i)) (p := ⟨w.heap.size, r, none⟩) (Nat.le_refl _) (.int .i64 i)
            clear e1 e2 e3 e0 hl hr2 kr R
            go_wp2
            go_roundw
            case rel => exact ⟨i + 1, by omega, by go_num, R2, G3⟩
            case measure => simp [intOf]; omega
        · obtain rfl : i = k := by omega
          go_wp2
          go_ret
          exact ⟨_, rfl, Nat.le_refl _, R, G2⟩

end Go.Proofs.YtbedpgamjaemoaaDoor
