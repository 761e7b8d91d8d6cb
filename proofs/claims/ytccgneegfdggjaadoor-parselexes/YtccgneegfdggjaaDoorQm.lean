/- Two queries, two lists of places that are the same. -/
import Derived.Test.YtccgneegfdggjaaDoorQl
namespace Go.Proofs.YtccgneegfdggjaaDoor
open Go.RowKit Go.BigFrame
set_option linter.unusedVariables false
set_option linter.unusedSimpArgs false

theorem flat_at {α : Type} (cel : α → Value → List Value) (sz : Nat) (hc : ∀ a v, (cel a v).length = sz) (l : List (α × Value)) : ∀ i (hi : i < l.length), ∀ j, j < sz → (l.flatMap fun p => cel p.1 p.2)[i * sz + j]? = (cel l[i].1 l[i].2)[j]? := by
  induction l with
  | nil => intro i hi; simp at hi
  | cons t r ih =>
    intro i hi j hj
    rw [List.flatMap_cons]
    cases i with
    | zero =>
      rw [Nat.zero_mul, Nat.zero_add, List.getElem?_append_left (by rw [hc]; omega)]
      rfl
    | succ i =>
      rw [List.getElem?_append_right (by rw [hc, Nat.add_mul]; omega), hc, show (i + 1) * sz + j - sz = i * sz + j by rw [Nat.add_mul]; omega]
      exact ih i (by simpa using hi) j hj
theorem map_get {α : Type} {l : List (α × Value)} {m : List α} (h : l.map Prod.fst = m) (i : Nat) (hi : i < l.length) : ∃ hm : i < m.length, l[i].1 = m[i] := by
  subst h
  exact ⟨by simpa using hi, by simp⟩
section
variable (w : World) (b1 b2 : Nat) (q : Qy) (s1 s2 : Sps) (vi vw vr si sw sr vi' vw' vr' si' sw' sr' : Value)
set_option maxRecDepth 100000 in
set_option maxHeartbeats 16000000 in
theorem sameQuery_true (R1 : QRows w b1 q s1 vi vw vr si sw sr) (R2 : QRows w b2 q s2 vi' vw' vr' si' sw' sr') :
    Calls Tryd.prog 14 #[.agg (qyA q vi vw vr), .agg (qyA q vi' vw' vr')] w fun e w' => e = .returned (.bool true) ∧ Below w.heap.size w w' := by
  have B0 := galloc (galloc (Below.refl w.heap.size w) (.cells (qyA q vi vw vr) 37)) (.cells (qyA q vi' vw' vr') 37)
  have X1 : ((w.alloc (.cells (qyA q vi vw vr) 37)).alloc (.cells (qyA q vi' vw' vr') 37)).heap[w.heap.size]? = some (.cells (qyA q vi vw vr) 37 (0, 0)) := heap_two _ _ _ _ rfl
  have X2 : ((w.alloc (.cells (qyA q vi vw vr) 37)).alloc (.cells (qyA q vi' vw' vr') 37)).heap[w.heap.size + 1]? = some (.cells (qyA q vi' vw' vr') 37 (0, 0)) := by
    have hz : (w.alloc (.cells (qyA q vi vw vr) 37)).heap.size = w.heap.size + 1 := by simp
    rw [← hz]
    exact heap_alloc_new _ _
  replace R1 := R1.keep B0
  replace R2 := R2.keep B0
  obtain ⟨l1, n1, e1⟩ := R1.its
  obtain ⟨l2, n2, e2⟩ := R2.its
  obtain ⟨m1, k1, f1, _⟩ := R1.ret
  obtain ⟨m2, k2, f2, _⟩ := R2.ret
  have w1 := R1.wh
  have w2 := R2.wh
  have hl1 : l1.length = q.items.length := by rw [← e1]; simp
  have hl2 : l2.length = q.items.length := by rw [← e2]; simp
  have hm1 : m1.length = q.ret.length := by rw [← f1]; simp
  have hm2 : m2.length = q.ret.length := by rw [← f2]; simp
  have n1o := n1.out
  have n2o := n2.out
  have k1o := k1.out
  have k2o := k2.out
  rw [hl1] at n1o
  rw [hl2] at n2o
  rw [hm1] at k1o
  rw [hm2] at k2o
  have hn := own_le n1o
  have hr := own_le k1o
  obtain ⟨a1, c1, rfl⟩ := own_shape n1o
  obtain ⟨a2, c2, rfl⟩ := own_shape n2o
  obtain ⟨a3, c3, rfl⟩ := own_shape k1o
  obtain ⟨a4, c4, rfl⟩ := own_shape k2o
  obtain ⟨a5, c5, rfl⟩ := own_shape w1
  obtain ⟨a6, c6, rfl⟩ := own_shape w2
  go_enter Tryd.func14, Tryd.ntmps14
  go_upto_region 1 with fail
  generalize (w.alloc (.cells (qyA q (.slice a1 q.items.length c1) (.slice a5 q.wh.length c5) (.slice a3 q.ret.length c3)) 37)).alloc (.cells (qyA q (.slice a2 q.items.length c2) (.slice a6 q.wh.length c6) (.slice a4 q.ret.length c4)) 37) = V at *
  have x : ∀ k, V.cell? ⟨w.heap.size, k, none⟩ = (qyA q (.slice a1 q.items.length c1) (.slice a5 q.wh.length c5) (.slice a3 q.ret.length c3))[k]? := fun k => by simp [World.cell?, X1]
  have y : ∀ k, V.cell? ⟨w.heap.size + 1, k, none⟩ = (qyA q (.slice a2 q.items.length c2) (.slice a6 q.wh.length c6) (.slice a4 q.ret.length c4))[k]? := fun k => by simp [World.cell?, X2]
  have lx := lt_of_block X1
  have ly := lt_of_block X2
  have x0 := x 0
  have x1 := x 1
  have x2 := x 2
  have x3 := x 3
  have x4 := x 4
  have x5 := x 5
  have x6 := x 6
  have y0 := y 0
  have y1 := y 1
  have y2 := y 2
  have y3 := y 3
  have y4 := y 4
  have y5 := y 5
  have y6 := y 6
  simp [qyA] at x0 x1 x2 x3 x4 x5 x6 y0 y1 y2 y3 y4 y5 y6
  clear x y X1 X2
  have HI : Hid (l1.length = q.items.length ∧ l2.length = q.items.length ∧ l1.map Prod.fst = q.items ∧ l2.map Prod.fst = q.items) := ⟨hl1, hl2, e1, e2⟩
  have HR : Hid (m1.length = q.ret.length ∧ m2.length = q.ret.length ∧ m1.map Prod.fst = q.ret ∧ m2.map Prod.fst = q.ret) := ⟨hm1, hm2, f1, f2⟩
  clear hl1 hl2 hm1 hm2 e1 e2 f1 f2 R1 R2
  go_upto_region 4 with fail
  go_loopw [5] (fun x wr => ∃ k : Nat, k ≤ q.items.length ∧ x = .int .i64 k ∧ Below V.heap.size V wr) (fun x _ => q.items.length - (intOf x).toNat)
  case atStart => exact ⟨0, Nat.zero_le _, rfl, Below.refl _ _⟩
  case round =>
    obtain ⟨k, hk, rfl, G⟩ := hrel
    have u0 := (G.cell (p := ⟨w.heap.size, 0, none⟩) lx).trans x0
    have v0 := (G.cell (p := ⟨w.heap.size + 1, 0, none⟩) ly).trans y0
    by_cases hlt : k < q.items.length
    · obtain ⟨g1, rfl, hg1⟩ := own_addr n1o (by omega)
      obtain ⟨g2, rfl, hg2⟩ := own_addr n2o (by omega)
      obtain ⟨hl1, hl2, e1, e2⟩ := HI.out
      have hk1 : k < l1.length := by omega
      have hk2 : k < l2.length := by omega
      obtain ⟨_, q1⟩ := map_get e1 k hk1
      obtain ⟨_, q2⟩ := map_get e2 k hk2
      have r1 := n1.inn l1[k] (List.getElem_mem hk1)
      have r2 := n2.inn l2[k] (List.getElem_mem hk2)
      have cc1 : ∀ j, j < 5 → wr.cell? ⟨g1, k * 5 + j, none⟩ = (itA l1[k].1 l1[k].2).toList[j]? := fun j hj => by
        rw [G.cell (p := ⟨g1, k * 5 + j, none⟩) hg1, World.ownsRow.cellAt n1o (k * 5 + j) (by omega)]
        exact flat_at (fun i v => (itA i v).toList) 5 (fun _ _ => rfl) l1 k hk1 j hj
      have cc2 : ∀ j, j < 5 → wr.cell? ⟨g2, k * 5 + j, none⟩ = (itA l2[k].1 l2[k].2).toList[j]? := fun j hj => by
        rw [G.cell (p := ⟨g2, k * 5 + j, none⟩) hg2, World.ownsRow.cellAt n2o (k * 5 + j) (by omega)]
        exact flat_at (fun i v => (itA i v).toList) 5 (fun _ _ => rfl) l2 k hk2 j hj
      rw [q1] at r1 cc1
      rw [q2] at r2 cc2
      generalize l1[k].2 = z1 at *
      generalize l2[k].2 = z2 at *
      generalize q.items[k] = it at *
      obtain ⟨o1, p1, rfl⟩ := own_shape r1
      obtain ⟨o2, p2, rfl⟩ := own_shape r2
      have d0 : wr.cell? ⟨g1, k * 5, none⟩ = some (.bool it.neg) := cc1 0 (by omega)
      have d1 : wr.cell? ⟨g1, k * 5 + 1, none⟩ = some (.slice o1 it.ty.length p1) := cc1 1 (by omega)
      have d2 : wr.cell? ⟨g1, k * 5 + 2, none⟩ = some (.string it.v) := cc1 2 (by omega)
      have d3 : wr.cell? ⟨g1, k * 5 + 3, none⟩ = some (.int .i64 it.lo) := cc1 3 (by omega)
      have d4 : wr.cell? ⟨g1, k * 5 + 4, none⟩ = some (.int .i64 it.hi) := cc1 4 (by omega)
      have j0 : wr.cell? ⟨g2, k * 5, none⟩ = some (.bool it.neg) := cc2 0 (by omega)
      have j1 : wr.cell? ⟨g2, k * 5 + 1, none⟩ = some (.slice o2 it.ty.length p2) := cc2 1 (by omega)
      have j2 : wr.cell? ⟨g2, k * 5 + 2, none⟩ = some (.string it.v) := cc2 2 (by omega)
      have j3 : wr.cell? ⟨g2, k * 5 + 3, none⟩ = some (.int .i64 it.lo) := cc2 3 (by omega)
      have j4 : wr.cell? ⟨g2, k * 5 + 4, none⟩ = some (.int .i64 it.hi) := cc2 4 (by omega)
      have cS := sameItem_true it b1 b2 (.slice o1 it.ty.length p1) (.slice o2 it.ty.length p2) wr.drew (own_keep (own_keep r1 G) (Below.refl _ _).drew) (own_keep (own_keep r2 G) (Below.refl _ _).drew)
      simp only [itA] at cS
      clear cc1 cc2 r1 r2 n1 n2 q1 q2 e1 e2 hl1 hl2
      go_wp2
      go_region_with (go_at_call 26; (with_reducible refine cS.mono ?_); rintro e u ⟨rfl, g⟩)
      all_goals
        go_wp2
        go_roundw
        case rel => exact ⟨k + 1, by omega, by go_num, gtrans G (by first | exact gtrans (Below.refl _ _).drew g | exact g)⟩
        case measure => simp [intOf]; omega
    · obtain rfl : k = q.items.length := by omega
      clear hk hlt
      go_wp2
      go_loopw [6] (fun x ws => ∃ k : Nat, k ≤ q.ret.length ∧ x = .int .i64 k ∧ Below V.heap.size V ws) (fun x _ => q.ret.length - (intOf x).toNat)
      case atStart => exact ⟨0, Nat.zero_le _, rfl, G⟩
      case round =>
        clear u0 v0 G
        obtain ⟨k, hk, rfl, G⟩ := hrel
        have u6 := (G.cell (p := ⟨w.heap.size, 6, none⟩) lx).trans x6
        have v6 := (G.cell (p := ⟨w.heap.size + 1, 6, none⟩) ly).trans y6
        by_cases hlt : k < q.ret.length
        · obtain ⟨g1, rfl, hg1⟩ := own_addr k1o (by omega)
          obtain ⟨g2, rfl, hg2⟩ := own_addr k2o (by omega)
          obtain ⟨hm1, hm2, f1, f2⟩ := HR.out
          have hk1 : k < m1.length := by omega
          have hk2 : k < m2.length := by omega
          obtain ⟨_, q1⟩ := map_get f1 k hk1
          obtain ⟨_, q2⟩ := map_get f2 k hk2
          have r1 := k1.inn m1[k] (List.getElem_mem hk1)
          have r2 := k2.inn m2[k] (List.getElem_mem hk2)
          have d0 : wr.cell? ⟨g1, k, none⟩ = some m1[k].2 := by
            rw [G.cell (p := ⟨g1, k, none⟩) hg1, World.ownsRow.cellAt k1o k (by omega)]
            have := flat_at (fun (i : List Nd) v => [v]) 1 (fun _ _ => rfl) m1 k hk1 0 (by omega)
            simpa using this
          have j0 : wr.cell? ⟨g2, k, none⟩ = some m2[k].2 := by
            rw [G.cell (p := ⟨g2, k, none⟩) hg2, World.ownsRow.cellAt k2o k (by omega)]
            have := flat_at (fun (i : List Nd) v => [v]) 1 (fun _ _ => rfl) m2 k hk2 0 (by omega)
            simpa using this
          rw [q1] at r1
          rw [q2] at r2
          generalize m1[k].2 = z1 at *
          generalize m2[k].2 = z2 at *
          generalize q.ret[k] = it at *
          obtain ⟨o1, p1, rfl⟩ := own_shape r1
          obtain ⟨o2, p2, rfl⟩ := own_shape r2
          have cS := sameNodes_true it b1 b2 (.slice o1 it.length p1) (.slice o2 it.length p2) wr.drew (own_keep (own_keep r1 G) (Below.refl _ _).drew) (own_keep (own_keep r2 G) (Below.refl _ _).drew)
          clear r1 r2 k1 k2 q1 q2 f1 f2 hm1 hm2
          go_wp2
          go_region_with (go_at_call 11; (with_reducible refine cS.mono ?_); rintro e u ⟨rfl, g⟩)
          all_goals
            go_wp2
            go_roundw
            case rel => exact ⟨k + 1, by omega, by go_num, gtrans G (by first | exact gtrans (Below.refl _ _).drew g | exact g)⟩
            case measure => simp [intOf]; omega
        · obtain rfl : k = q.ret.length := by omega
          have cW := fun u (G : Below V.heap.size V u) => sameNodes_true q.wh b1 b2 (.slice a5 q.wh.length c5) (.slice a6 q.wh.length c6) u (own_keep w1 G) (own_keep w2 G)
          replace x1 := (G.cell (p := ⟨w.heap.size, 1, none⟩) lx).trans x1
          replace x2 := (G.cell (p := ⟨w.heap.size, 2, none⟩) lx).trans x2
          replace x3 := (G.cell (p := ⟨w.heap.size, 3, none⟩) lx).trans x3
          replace x4 := (G.cell (p := ⟨w.heap.size, 4, none⟩) lx).trans x4
          replace x5 := (G.cell (p := ⟨w.heap.size, 5, none⟩) lx).trans x5
          replace y1 := (G.cell (p := ⟨w.heap.size + 1, 1, none⟩) ly).trans y1
          replace y2 := (G.cell (p := ⟨w.heap.size + 1, 2, none⟩) ly).trans y2
          replace y3 := (G.cell (p := ⟨w.heap.size + 1, 3, none⟩) ly).trans y3
          replace y4 := (G.cell (p := ⟨w.heap.size + 1, 4, none⟩) ly).trans y4
          replace y5 := (G.cell (p := ⟨w.heap.size + 1, 5, none⟩) ly).trans y5
          go_wp2_with (go_at_call 11; (with_reducible refine (cW _ (by first | exact G | exact gtrans G (Below.refl _ _).drew)).mono ?_); rintro e u ⟨rfl, g⟩)
          go_ret
          exact ⟨by simp, gtrans B0 (gtrans G (by first | exact gtrans (Below.refl _ _).drew g | exact g))⟩
end

end Go.Proofs.YtccgneegfdggjaaDoor
