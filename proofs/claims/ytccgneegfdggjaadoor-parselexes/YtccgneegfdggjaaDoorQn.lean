/- Two lists of places that are the same. -/
import Derived.Test.YtccgneegfdggjaaDoorQl
namespace Go.Proofs.YtccgneegfdggjaaDoor
open Go.RowKit Go.BigFrame
set_option linter.unusedVariables false
set_option linter.unusedSimpArgs false

theorem flat_one {α : Type} (l : List (α × Value)) (i : Nat) (hi : i < l.length) : (l.flatMap fun p => [p.2])[i]? = some l[i].2 := by
  induction l generalizing i with
  | nil => simp at hi
  | cons t r ih =>
    cases i with
    | zero => rfl
    | succ i => simpa using ih i (by simpa using hi)
theorem map_got {α : Type} {l : List (α × Value)} {m : List α} (h : l.map Prod.fst = m) (i : Nat) (hi : i < l.length) : ∃ hm : i < m.length, l[i].1 = m[i] := by
  subst h
  exact ⟨by simpa using hi, by simp⟩
section
variable (w : World) (b1 b2 : Nat) (vi vw vr si sw sr vi' vw' vr' si' sw' sr' : Value)
set_option maxRecDepth 100000 in
set_option maxHeartbeats 16000000 in
theorem sameSpots_true (q1 q2 : Qy) (s : Sps) (R1 : QRows w b1 q1 s vi vw vr si sw sr) (R2 : QRows w b2 q2 s vi' vw' vr' si' sw' sr') :
    Calls Tryd.prog 15 #[.agg (spA s si sw sr), .agg (spA s si' sw' sr')] w fun e w' => e = .returned (.bool true) ∧ Below w.heap.size w w' := by
  have B0 := galloc (galloc (Below.refl w.heap.size w) (.cells (spA s si sw sr) 40)) (.cells (spA s si' sw' sr') 40)
  have X1 : ((w.alloc (.cells (spA s si sw sr) 40)).alloc (.cells (spA s si' sw' sr') 40)).heap[w.heap.size]? = some (.cells (spA s si sw sr) 40 (0, 0)) := heap_two _ _ _ _ rfl
  have X2 : ((w.alloc (.cells (spA s si sw sr) 40)).alloc (.cells (spA s si' sw' sr') 40)).heap[w.heap.size + 1]? = some (.cells (spA s si' sw' sr') 40 (0, 0)) := by
    have hz : (w.alloc (.cells (spA s si sw sr) 40)).heap.size = w.heap.size + 1 := by simp
    rw [← hz]
    exact heap_alloc_new _ _
  replace R1 := R1.keep B0
  replace R2 := R2.keep B0
  obtain ⟨m1, k1, f1, _⟩ := R1.sre
  obtain ⟨m2, k2, f2, _⟩ := R2.sre
  have w1 := R1.swh
  have w2 := R2.swh
  have i1 := R1.sit
  have i2 := R2.sit
  have hm1 : m1.length = s.ret.length := by rw [← f1]; simp
  have hm2 : m2.length = s.ret.length := by rw [← f2]; simp
  have k1o := k1.out
  have k2o := k2.out
  rw [hm1] at k1o
  rw [hm2] at k2o
  have hr := own_le k1o
  obtain ⟨a1, c1, rfl⟩ := own_shape i1
  obtain ⟨a2, c2, rfl⟩ := own_shape i2
  obtain ⟨a3, c3, rfl⟩ := own_shape k1o
  obtain ⟨a4, c4, rfl⟩ := own_shape k2o
  obtain ⟨a5, c5, rfl⟩ := own_shape w1
  obtain ⟨a6, c6, rfl⟩ := own_shape w2
  go_enter Tryd.func15, Tryd.ntmps15
  go_upto_region 1 with fail
  generalize (w.alloc (.cells (spA s (.slice a1 s.items.length c1) (.slice a5 s.wh.length c5) (.slice a3 s.ret.length c3)) 40)).alloc (.cells (spA s (.slice a2 s.items.length c2) (.slice a6 s.wh.length c6) (.slice a4 s.ret.length c4)) 40) = V at *
  have x : ∀ k, V.cell? ⟨w.heap.size, k, none⟩ = (spA s (.slice a1 s.items.length c1) (.slice a5 s.wh.length c5) (.slice a3 s.ret.length c3))[k]? := fun k => by simp [World.cell?, X1]
  have y : ∀ k, V.cell? ⟨w.heap.size + 1, k, none⟩ = (spA s (.slice a2 s.items.length c2) (.slice a6 s.wh.length c6) (.slice a4 s.ret.length c4))[k]? := fun k => by simp [World.cell?, X2]
  have lx := lt_of_block X1
  have ly := lt_of_block X2
  have x0 := x 0
  have x1 := x 1
  have x2 := x 2
  have x3 := x 3
  have x4 := x 4
  have y0 := y 0
  have y1 := y 1
  have y2 := y 2
  have y3 := y 3
  have y4 := y 4
  simp [spA] at x0 x1 x2 x3 x4 y0 y1 y2 y3 y4
  clear x y X1 X2
  have HR : Hid (m1.length = s.ret.length ∧ m2.length = s.ret.length ∧ m1.map Prod.fst = s.ret ∧ m2.map Prod.fst = s.ret) := ⟨hm1, hm2, f1, f2⟩
  clear hm1 hm2 f1 f2 R1 R2
  go_wp2
  go_loopw [5] (fun x ws => ∃ k : Nat, k ≤ s.ret.length ∧ x = .int .i64 k ∧ Below V.heap.size V ws) (fun x _ => s.ret.length - (intOf x).toNat)
  case atStart => exact ⟨0, Nat.zero_le _, rfl, Below.refl _ _⟩
  case round =>
    obtain ⟨k, hk, rfl, G⟩ := hrel
    have u6 := (G.cell (p := ⟨w.heap.size, 4, none⟩) lx).trans x4
    have v6 := (G.cell (p := ⟨w.heap.size + 1, 4, none⟩) ly).trans y4
    by_cases hlt : k < s.ret.length
    · obtain ⟨g1, rfl, hg1⟩ := own_addr k1o (by omega)
      obtain ⟨g2, rfl, hg2⟩ := own_addr k2o (by omega)
      obtain ⟨hm1, hm2, f1, f2⟩ := HR.out
      have hk1 : k < m1.length := by omega
      have hk2 : k < m2.length := by omega
      obtain ⟨_, q1⟩ := map_got f1 k hk1
      obtain ⟨_, q2⟩ := map_got f2 k hk2
      have r1 := k1.inn m1[k] (List.getElem_mem hk1)
      have r2 := k2.inn m2[k] (List.getElem_mem hk2)
      have d0 : wr.cell? ⟨g1, k, none⟩ = some m1[k].2 := by
        rw [G.cell (p := ⟨g1, k, none⟩) hg1, World.ownsRow.cellAt k1o k (by omega)]
        exact flat_one m1 k hk1
      have j0 : wr.cell? ⟨g2, k, none⟩ = some m2[k].2 := by
        rw [G.cell (p := ⟨g2, k, none⟩) hg2, World.ownsRow.cellAt k2o k (by omega)]
        exact flat_one m2 k hk2
      rw [q1] at r1
      rw [q2] at r2
      generalize m1[k].2 = z1 at *
      generalize m2[k].2 = z2 at *
      generalize s.ret[k] = it at *
      obtain ⟨o1, p1, rfl⟩ := own_shape r1
      obtain ⟨o2, p2, rfl⟩ := own_shape r2
      have cS := sameInts_true it b1 b2 (.slice o1 it.length p1) (.slice o2 it.length p2) wr.drew (own_keep (own_keep r1 G) (Below.refl _ _).drew) (own_keep (own_keep r2 G) (Below.refl _ _).drew)
      clear r1 r2 k1 k2 q1 q2 f1 f2 hm1 hm2
      go_wp2
      go_region_with (go_at_call 12; (with_reducible refine cS.mono ?_); rintro e u ⟨rfl, g⟩)
      all_goals
        go_wp2
        go_roundw
        case rel => exact ⟨k + 1, by omega, by go_num, gtrans G (by first | exact gtrans (Below.refl _ _).drew g | exact g)⟩
        case measure => simp [intOf]; omega
    · obtain rfl : k = s.ret.length := by omega
      have cI := fun u (G : Below V.heap.size V u) => sameInts_true s.items b1 b2 (.slice a1 s.items.length c1) (.slice a2 s.items.length c2) u (own_keep i1 G) (own_keep i2 G)
      have cW := fun u (G : Below V.heap.size V u) => sameInts_true s.wh b1 b2 (.slice a5 s.wh.length c5) (.slice a6 s.wh.length c6) u (own_keep w1 G) (own_keep w2 G)
      replace x0 := (G.cell (p := ⟨w.heap.size, 0, none⟩) lx).trans x0
      have x1' := (G.cell (p := ⟨w.heap.size, 1, none⟩) lx).trans x1
      replace x2 := (G.cell (p := ⟨w.heap.size, 2, none⟩) lx).trans x2
      replace x3 := (G.cell (p := ⟨w.heap.size, 3, none⟩) lx).trans x3
      replace y0 := (G.cell (p := ⟨w.heap.size + 1, 0, none⟩) ly).trans y0
      have y1' := (G.cell (p := ⟨w.heap.size + 1, 1, none⟩) ly).trans y1
      replace y2 := (G.cell (p := ⟨w.heap.size + 1, 2, none⟩) ly).trans y2
      replace y3 := (G.cell (p := ⟨w.heap.size + 1, 3, none⟩) ly).trans y3
      go_wp2_with first
        | (go_at_call 12; (with_reducible refine (cI _ (by first | exact gtrans G (Below.refl _ _).drew | exact G)).mono ?_); rintro e u ⟨rfl, g⟩; have G2 := gtrans G (by first | exact gtrans (Below.refl _ _).drew g | exact g); have x1 := (G2.cell (p := ⟨w.heap.size, 1, none⟩) lx).trans x1; have y1 := (G2.cell (p := ⟨w.heap.size + 1, 1, none⟩) ly).trans y1)
        | (go_at_call 12; (with_reducible refine (cW _ (by first | exact gtrans G2 (Below.refl _ _).drew | exact G2)).mono ?_); rintro e u2 ⟨rfl, g2⟩)
      go_ret
      exact ⟨by simp, gtrans B0 (gtrans G2 (by first | exact gtrans (Below.refl _ _).drew g2 | exact g2))⟩
end

end Go.Proofs.YtccgneegfdggjaaDoor
