/- The method take of lex's machine. -/
import Derived.Test.YtmoimmghmmomlaaDoorLx4
import Derived.Deep.RegionLaw
namespace Go.Proofs.YtmoimmghmmomlaaDoor
open Go.RowKit Go.BigFrame
set_option linter.unusedVariables false
set_option linter.unusedSimpArgs false

theorem own_shape {w : World} {base : Nat} {e : TypeId} {size : Nat} {v : Value} {n : Nat} {xs : List Value} (h : w.ownsRow base e size v n xs) : ∃ ao cap, v = .slice ao n cap := by
  rcases h.2 with ⟨rfl, rfl⟩ | ⟨g, cap, cur, rfl, _⟩
  · exact ⟨_, _, rfl⟩
  · exact ⟨_, _, rfl⟩
theorem infoTk : (Tryd.prog.info? 79).map (fun i => (i.zero, i.size, i.bytes)) = some (some (.agg (tokA noTok)), 4, 40) := by kernel_rfl
theorem info_partsTk : ∃ i, Tryd.prog.info? 79 = some i ∧ i.zero = some (.agg (tokA noTok)) ∧ i.size = 4 ∧ i.bytes = 40 := by
  have h := infoTk
  cases hq : Tryd.prog.info? 79 with
  | none => simp [hq] at h
  | some i => simp [hq] at h; exact ⟨i, rfl, h.1, h.2.1, h.2.2⟩
def toksV (ts : List Tok) : List Value := ts.flatMap fun t => (tokA t).toList

theorem new4 (w : World) (t : Tok) (j : Nat) (u : Value) (h : (tokA t).toList[j]? = some u) : (w.alloc (.cells (tokA t) 79)).drew.cell? ((⟨w.heap.size, 0, none⟩ : Addr).add j) = some u := by
  show (w.alloc _).cell? _ = _
  rw [Go.WideShapes.add_plain, Nat.zero_add, World.cell?_alloc_new]
  simpa using h
set_option maxRecDepth 100000 in
set_option maxHeartbeats 4000000 in
theorem mtake_any (B B2 b : Nat) (hBb : B ≤ b) (hB2 : B ≤ B2) (s : ByteArray) (bg pos : Nat) (tk : Value) (ts : List Tok) (t : Tok) (w : World) (M : Mach w b s bg pos tk) (hB2w : B2 ≤ w.heap.size) (hown : w.ownsRow B2 79 4 tk ts.length (toksV ts)) (hn : ts.length < 400) :
    Calls Tryd.prog 43 #[.pointer (some ⟨b, 0, none⟩), .agg (tokA t)] w fun e w' => e = .returned (.int .i64 0) ∧ ∃ v, Mach w' b s bg pos v ∧ w'.ownsRow B2 79 4 v (ts.length + 1) (toksV (ts ++ [t])) ∧ Below B w w' ∧ ∀ j, j < B2 → j ≠ b → w'.heap[j]? = w.heap[j]? := by
  obtain ⟨i3, ti, tz0, tz1, tz2⟩ := info_partsTk
  obtain ⟨n, hnn⟩ : ∃ n, n = ts.length := ⟨_, rfl⟩
  rw [← hnn] at hown hn ⊢
  have HN : Hid (n = ts.length) := hnn
  clear hnn
  obtain ⟨ao, cap, rfl⟩ := own_shape hown
  have G0 := galloc (Below.refl w.heap.size w) (.cells (tokA t) 79)
  have T := TokAt.new w t
  have M1 := M.keep G0
  have O1 := own_keep hown G0
  go_enter Tryd.func43, Tryd.ntmps43
  go_upto_region 1 with fail
  generalize hV : w.alloc (.cells (tokA t) 79) = V at G0 T M1 O1 ⊢
  clear hV hown
  obtain ⟨m0, m1, m2, m3⟩ := M1.at
  obtain ⟨r0, r1, r2, r3⟩ := T.at
  have hn4 : ((n : Int) == 400) = false := by simp; omega
  have hbl := M.lt
  go_upto_region 3 with fail
  have hone : ∀ u ∈ (tokA t).toList, u.oneCell' = true := by intro u hu; simp [tokA] at hu; rcases hu with rfl | rfl | rfl | rfl <;> rfl
  have u3 : ∀ o, (V.alloc o).cell? ⟨b, 3, none⟩ = some (.slice ao n cap) := fun o => (M1.alloc o).at.2.2.2
  have hbV := M1.lt
  have hBV : B ≤ V.heap.size := by omega
  have hB2V : B2 ≤ V.heap.size := Nat.le_trans hB2w G0.size
  have hap : ∀ g, (Value.slice ao n cap).ownBlock = some g → g ≠ b := fun g hg e => by
    rcases O1.2 with ⟨h5, _⟩ | ⟨g', cap', cur, h5, _, hh, _⟩
    · rw [h5] at hg; simp [Value.ownBlock] at hg
    · rw [h5] at hg
      simp [Value.ownBlock] at hg
      rw [← hg] at e
      rw [e, show V.heap[b]? = _ from M1] at hh
      simp at hh
  go_region_law (refine step_append_lies _ rfl (.tmp 15) (.tmp 17) 27 rfl B2 79 i3 (.agg (tokA noTok)) 4 40 Tryd.underlying27 ti tz0 tz1 tz2 rfl (by decide) (.slice ao n cap) n (toksV ts) (by simp [Act.eval, Act.put]) (O1.drew.alloc _) ⟨V.heap.size, 0, none⟩ 1 1 (tokA t).toList (by simp [Act.eval, Act.put]) rfl (new4 _ _) hone (by decide) (by unfold maxLen; omega) (by omega) (by simp; omega) _ rfl ?_; intro g c3 w6 hown6 hgrow6 hat6 hlt6; have M6 : Mach w6 b s bg pos (.slice ao n cap) := (hgrow6.block b (by simp; omega) (fun e => hap b e.symm rfl)).trans (M1.alloc _); have t1 := M6.at.2.2.2; have t2 := M6.free 3)
  all_goals
    have M7 := M6.setToks (.slice (some ⟨g, 0, none⟩) (n + 1) c3)
    have R7 : (w6.setCell ⟨b, 3, none⟩ (.slice (some ⟨g, 0, none⟩) (n + 1) c3)).ownsRow B2 79 4 (.slice (some ⟨g, 0, none⟩) (n + 1) c3) (n + 1) (toksV (ts ++ [t])) := by
      rw [show toksV (ts ++ [t]) = toksV ts ++ (tokA t).toList by simp [toksV]]
      refine own_of_block hown6 (fun g' cur hg' hh => Below.heap_setCell w6 _ _ g' (fun e => ?_))
      have e' : g' = b := e
      rw [e', show w6.heap[b]? = _ from M6] at hh
      simp at hh
    have G7 : Below B w (w6.setCell ⟨b, 3, none⟩ (.slice (some ⟨g, 0, none⟩) (n + 1) c3)) :=
      ((((G0.mono (by omega : B ≤ w.heap.size)).alloc hBV _).drew.grown hgrow6 (by simp; omega) (fun r e => Nat.le_trans hB2 (O1.lt _ e).1))).setCell hBb _
    have N7 : ∀ j, j < B2 → j ≠ b → (w6.setCell ⟨b, 3, none⟩ (.slice (some ⟨g, 0, none⟩) (n + 1) c3)).heap[j]? = w.heap[j]? := fun j hj hne => by
      rw [Below.heap_setCell w6 _ _ j hne, hgrow6.block j (by simp; omega) (fun e => by have := (O1.lt _ e.symm).1; omega)]
      show (V.alloc _).heap[j]? = _
      rw [Below.heap_alloc V _ j (by omega), G0.block j (by omega)]
    generalize w6.setCell ⟨b, 3, none⟩ (.slice (some ⟨g, 0, none⟩) (n + 1) c3) = w7 at M7 R7 G7 N7 ⊢
    clear hown6 hgrow6 hat6 hlt6 M6 t1 t2
    go_wp2
    go_ret
    exact ⟨rfl, _, M7, R7, G7, N7⟩

set_option maxRecDepth 100000 in
set_option maxHeartbeats 1000000 in
theorem mtake_full (b : Nat) (s : ByteArray) (bg pos : Nat) (ao : Option Addr) (cap : Nat) (t : Tok) (w : World) (M : Mach w b s bg pos (.slice ao 400 cap)) :
    Calls Tryd.prog 43 #[.pointer (some ⟨b, 0, none⟩), .agg (tokA t)] w fun e w' => e = .returned (.int .i64 34) ∧ Below w.heap.size w w' := by
  have G0 := galloc (Below.refl w.heap.size w) (.cells (tokA t) 79)
  have M1 := M.keep G0
  go_enter Tryd.func43, Tryd.ntmps43
  go_upto_region 1 with fail
  generalize hV : w.alloc (.cells (tokA t) 79) = V at G0 M1 ⊢
  clear hV
  obtain ⟨m0, m1, m2, m3⟩ := M1.at
  go_wp2
  go_ret
  exact ⟨rfl, G0⟩

end Go.Proofs.YtmoimmghmmomlaaDoor
