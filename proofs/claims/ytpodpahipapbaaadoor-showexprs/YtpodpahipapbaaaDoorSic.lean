/- Pieces that open; rows of pieces as they are written out. -/
import Derived.Test.YtpodpahipapbaaaDoorSib
import Derived.Deep.RegionHeld3
namespace Go.Proofs.YtpodpahipapbaaaDoor
open Go.RowKit Go.BigFrame
set_option linter.unusedVariables false
set_option linter.unusedSimpArgs false

def openP (ps : List Pce) : Pce := ⟨(glueP ps).ts, (glueP ps).d + 1⟩
set_option maxRecDepth 100000 in
set_option maxHeartbeats 8000000 in
theorem opened_any (ps : List Pce) (hk8 : ps.length ≤ 1000000) (hT : ∀ k, k ≤ ps.length → (glueP (ps.take k)).ts.length ≤ 100000000) (hD : 0 ≤ (glueP ps).d ∧ (glueP ps).d ≤ 1000000000) (ao : Option Addr) (cap : Nat) (w : World) (A : IsPcs w ao ps) : Calls Tryd.prog 28 #[.slice ao ps.length cap] w fun e w' => ∃ v, e = .returned v ∧ PcA w' w.heap.size v (openP ps) ∧ Below w.heap.size w w' := by
  have c1 := fun (u : World) (g : Below w.heap.size w u) => glue_any ps hk8 hT ao cap u (A.keep g)
  obtain ⟨n, hn⟩ : ∃ n, ps.length = n := ⟨_, rfl⟩
  rw [hn] at c1 ⊢
  obtain ⟨q, hq⟩ : ∃ q, glueP ps = q := ⟨_, rfl⟩
  rw [hq] at hD c1
  have HO : Hid (openP ps = ⟨q.ts, q.d + 1⟩) := by show _ = _; unfold openP; rw [hq]
  obtain ⟨qt, qd⟩ := q
  dsimp only at hD HO
  clear hq A hT hk8
  go_enter Tryd.func28, Tryd.ntmps28
  go_wp2_with (go_at_call 25; (with_reducible refine (c1 _ (galloc (Below.refl _ _) _)).mono ?_); rintro e u ⟨v, rfl, ⟨t, rfl, O⟩, g⟩; obtain ⟨vo, vc, rfl⟩ := own_shape O; have T1 := ((Two.new w (.slice none 0 0) (.int .i64 0) 36).keep g).alloc (.cells #[.slice vo qt.length vc, .int .i64 (qd + 1)] 36); have f0 := T1.free 0; have f1 := T1.free 1; have p2 := T1.at0; have p3 := T1.at1)
  have hz : (w.alloc (.cells #[.slice none 0 0, .int .i64 0] 36)).heap.size = w.heap.size + 1 := by simp
  rw [hz] at O
  have P3 := T1.set (.slice vo qt.length vc) (.int .i64 (qd + 1))
  have O3 := own_of_block (O.alloc (.cells #[.slice vo qt.length vc, .int .i64 (qd + 1)] 36)) (u := ((u.alloc (.cells #[.slice vo qt.length vc, .int .i64 (qd + 1)] 36)).setCell ⟨w.heap.size, 0, none⟩ (.slice vo qt.length vc)).setCell ⟨w.heap.size, 1, none⟩ (.int .i64 (qd + 1))) (fun g' _ hg' _ => (Below.heap_setCell _ _ _ g' (by show g' ≠ w.heap.size; omega)).trans (Below.heap_setCell _ _ _ g' (by show g' ≠ w.heap.size; omega)))
  have G3 := gset (gset (galloc (gtrans (galloc (Below.refl _ _) _) g) (.cells #[.slice vo qt.length vc, .int .i64 (qd + 1)] 36)) (p := ⟨w.heap.size, 0, none⟩) (Nat.le_refl _) (.slice vo qt.length vc)) (p := ⟨w.heap.size, 1, none⟩) (Nat.le_refl _) (.int .i64 (qd + 1))
  have r0 := P3.at0
  have r1 := P3.at1
  refine bodyPost_ret (v := .agg #[.slice vo qt.length vc, .int .i64 (qd + 1)]) (by simp [results, Tryd.results28, go_sem, r0, r1]) rfl ⟨_, rfl, ?_, G3⟩
  rw [HO.out]
  exact ⟨_, rfl, own_mono O3 (by omega)⟩
/-- A piece that was made, as it stands in a row of pieces. -/
theorem pc_toks {w : World} {b : Nat} {v : Value} {p : Pce} (h : PcA w b v p) : ∃ t c, v = .agg #[.slice t p.ts.length c, .int .i64 p.d] ∧ IsToks w t p.ts ∧ (t = none → p.ts.length = 0 ∧ c = 0) := by
  obtain ⟨t, rfl, O⟩ := h
  obtain ⟨ao, c, rfl, A⟩ := toks_of_own O
  refine ⟨ao, c, rfl, A, fun e => ?_⟩
  subst e
  rcases O.2 with ⟨e1, e2⟩ | ⟨g, cap, cur, e1, _⟩
  · simp only [Value.slice.injEq, true_and] at e1
    exact ⟨e2, e1.2⟩
  · simp at e1
theorem PcA.keep {w u : World} {b : Nat} {v : Value} {p : Pce} (h : PcA w b v p) (G : Below w.heap.size w u) : PcA u b v p := by
  obtain ⟨t, e, O⟩ := h
  exact ⟨t, e, own_keep O G⟩
theorem PcA.mono {w : World} {b b' : Nat} {v : Value} {p : Pce} (h : PcA w b v p) (hb : b' ≤ b) : PcA w b' v p := by
  obtain ⟨t, e, O⟩ := h
  exact ⟨t, e, own_mono O hb⟩
theorem pcs3 {w : World} {t1 t2 t3 : Option Addr} {c1 c2 c3 : Nat} {p1 p2 p3 : Pce} (h1 : IsToks w t1 p1.ts) (h2 : IsToks w t2 p2.ts) (h3 : IsToks w t3 p3.ts) (n1 : t1 = none → p1.ts.length = 0 ∧ c1 = 0) (n2 : t2 = none → p2.ts.length = 0 ∧ c2 = 0) (n3 : t3 = none → p3.ts.length = 0 ∧ c3 = 0) :
    IsPcs (w.alloc (.cells #[.slice t1 p1.ts.length c1, .int .i64 p1.d, .slice t2 p2.ts.length c2, .int .i64 p2.d, .slice t3 p3.ts.length c3, .int .i64 p3.d] 36)) (some ⟨w.heap.size, 0, none⟩) [p1, p2, p3] := by
  have X : (w.alloc (.cells #[.slice t1 p1.ts.length c1, .int .i64 p1.d, .slice t2 p2.ts.length c2, .int .i64 p2.d, .slice t3 p3.ts.length c3, .int .i64 p3.d] 36)).heap[w.heap.size]? = some (.cells #[.slice t1 p1.ts.length c1, .int .i64 p1.d, .slice t2 p2.ts.length c2, .int .i64 p2.d, .slice t3 p3.ts.length c3, .int .i64 p3.d] 36 (0, 0)) := by
    show (w.heap.push _)[w.heap.size]? = _
    simp
  have G := galloc (Below.refl w.heap.size w) (.cells #[.slice t1 p1.ts.length c1, .int .i64 p1.d, .slice t2 p2.ts.length c2, .int .i64 p2.d, .slice t3 p3.ts.length c3, .int .i64 p3.d] 36)
  intro i hi
  have hi3 : i < 3 := hi
  rcases (show i = 0 ∨ i = 1 ∨ i = 2 by omega) with rfl | rfl | rfl
  · exact ⟨_, 0, t1, c1, rfl, cell_of_row _ _ 0 _ _ _ X, cell_of_row _ _ 1 _ _ _ X, h1.keep G, n1⟩
  · exact ⟨_, 0, t2, c2, rfl, cell_of_row _ _ 2 _ _ _ X, cell_of_row _ _ 3 _ _ _ X, h2.keep G, n2⟩
  · exact ⟨_, 0, t3, c3, rfl, cell_of_row _ _ 4 _ _ _ X, cell_of_row _ _ 5 _ _ _ X, h3.keep G, n3⟩
theorem pcs2 {w : World} {t1 t2 : Option Addr} {c1 c2 : Nat} {p1 p2 : Pce} (h1 : IsToks w t1 p1.ts) (h2 : IsToks w t2 p2.ts) (n1 : t1 = none → p1.ts.length = 0 ∧ c1 = 0) (n2 : t2 = none → p2.ts.length = 0 ∧ c2 = 0) :
    IsPcs (w.alloc (.cells #[.slice t1 p1.ts.length c1, .int .i64 p1.d, .slice t2 p2.ts.length c2, .int .i64 p2.d] 36)) (some ⟨w.heap.size, 0, none⟩) [p1, p2] := by
  have X : (w.alloc (.cells #[.slice t1 p1.ts.length c1, .int .i64 p1.d, .slice t2 p2.ts.length c2, .int .i64 p2.d] 36)).heap[w.heap.size]? = some (.cells #[.slice t1 p1.ts.length c1, .int .i64 p1.d, .slice t2 p2.ts.length c2, .int .i64 p2.d] 36 (0, 0)) := by
    show (w.heap.push _)[w.heap.size]? = _
    simp
  have G := galloc (Below.refl w.heap.size w) (.cells #[.slice t1 p1.ts.length c1, .int .i64 p1.d, .slice t2 p2.ts.length c2, .int .i64 p2.d] 36)
  intro i hi
  have hi3 : i < 2 := hi
  rcases (show i = 0 ∨ i = 1 by omega) with rfl | rfl
  · exact ⟨_, 0, t1, c1, rfl, cell_of_row _ _ 0 _ _ _ X, cell_of_row _ _ 1 _ _ _ X, h1.keep G, n1⟩
  · exact ⟨_, 0, t2, c2, rfl, cell_of_row _ _ 2 _ _ _ X, cell_of_row _ _ 3 _ _ _ X, h2.keep G, n2⟩
theorem ks1 (w : World) (k : Int) : IsKs (w.alloc (.cells #[.int .i64 k] 55)) (some ⟨w.heap.size, 0, none⟩) [k] := by
  intro i hi
  have hi1 : i < 1 := hi
  obtain rfl : i = 0 := by omega
  exact ⟨_, 0, rfl, World.cell?_alloc_new ..⟩

end Go.Proofs.YtpodpahipapbaaaDoor
