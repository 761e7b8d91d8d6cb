/- Two programs that hold the same are the same to the law. -/
import Derived.Test.YtjeffmfnaihhjaaDoorCla
namespace Go.Proofs.YtjeffmfnaihhjaaDoor
open Go.RowKit Go.BigFrame
set_option linter.unusedVariables false
set_option linter.unusedSimpArgs false

set_option maxRecDepth 100000 in
set_option maxHeartbeats 8000000 in
theorem sameProg_true (p : Prg) (hp : p.ok) (ai : Option Addr) (ci : Nat) (ac : Option Addr) (cc : Nat) (bi : Option Addr) (di : Nat) (bc : Option Addr) (dc : Nat) (w : World) (A : IsPr w p ai ci ac cc) (B : IsPr w p bi di bc dc) :
    Calls Tryd.prog 12 #[prgA p ai ci ac cc, prgA p bi di bc dc] w fun e w' => e = .returned (.bool true) ∧ Below w.heap.size w w' := by
  have hpn := hp.n
  have hpc := hp.c
  have hs1 : ((p.code.length : Int) != (p.code.length : Int)) = false := by simp
  have hs2 : ((p.cols.length : Int) != (p.cols.length : Int)) = false := by simp
  have S0 := (Bk.new w #[.slice ai p.code.length ci, .slice ac p.cols.length cc] 25).alloc (.cells #[.slice bi p.code.length di, .slice bc p.cols.length dc] 25)
  have T0 := Bk.newE (w := w.alloc (.cells #[.slice ai p.code.length ci, .slice ac p.cols.length cc] 25)) (g := w.heap.size + 1) (by simp) #[.slice bi p.code.length di, .slice bc p.cols.length dc] 25
  have B0 := galloc (galloc (Below.refl w.heap.size w) (.cells #[.slice ai p.code.length ci, .slice ac p.cols.length cc] 25)) (.cells #[.slice bi p.code.length di, .slice bc p.cols.length dc] 25)
  have A0 := A.keep B0
  have D0 := B.keep B0
  go_enter Tryd.func12, Tryd.ntmps12
  go_upto_region 3 with fail
  generalize (w.alloc (.cells #[.slice ai p.code.length ci, .slice ac p.cols.length cc] 25)).alloc (.cells #[.slice bi p.code.length di, .slice bc p.cols.length dc] 25) = V at *
  go_wp2
  go_loopw [5] (fun x wr => ∃ k : Nat, k ≤ p.code.length ∧ x = .int .i64 k ∧ Below V.heap.size V wr) (fun x _ => p.code.length - (intOf x).toNat)
  case atStart => exact ⟨0, Nat.zero_le _, rfl, Below.refl _ _⟩
  case round =>
    obtain ⟨k, hk, rfl, G⟩ := hrel
    obtain ⟨s0, s1⟩ := (S0.keep G).at2
    obtain ⟨t0, t1⟩ := (T0.keep G).at2
    by_cases hlt : k < p.code.length
    · have hki : (k : Int) < (p.code.length : Int) := by omega
      obtain ⟨g3, o3, rfl, _, c3⟩ := ((A0.keep G).f).form (by rw [fl_len insC_sz]; omega)
      obtain ⟨g4, o4, rfl, _, c4⟩ := ((D0.keep G).f).form (by rw [fl_len insC_sz]; omega)
      obtain ⟨m0, m1, m2, m3, m4⟩ := in_at c3 k hlt
      obtain ⟨n0, n1, n2, n3, n4⟩ := in_at c4 k hlt
      have eqe := in_eq (p.code.getD k noIn)
      generalize p.code.getD k noIn = e at *
      unfold insC at eqe
      obtain ⟨Z, hZ⟩ : ∃ Z, Z = wr := ⟨_, rfl⟩
      subst hZ
      have hne : Nonempty (Ext Z) := ⟨⟨_, Below.refl _ _⟩⟩
      have p0 := fun z : Ext Z => (z.cell _ _ (lt_of_cell s0)).trans s0
      have p1 := fun z : Ext Z => (z.cell _ _ (lt_of_cell t0)).trans t0
      have q0 := fun z : Ext Z => (z.cell _ _ (lt_of_cell m0)).trans m0
      have r0 := fun z : Ext Z => (z.cell _ _ (lt_of_cell n0)).trans n0
      have q1 := fun z : Ext Z => (z.cell _ _ (lt_of_cell m1)).trans m1
      have r1 := fun z : Ext Z => (z.cell _ _ (lt_of_cell n1)).trans n1
      have q2 := fun z : Ext Z => (z.cell _ _ (lt_of_cell m2)).trans m2
      have r2 := fun z : Ext Z => (z.cell _ _ (lt_of_cell n2)).trans n2
      have q3 := fun z : Ext Z => (z.cell _ _ (lt_of_cell m3)).trans m3
      have r3 := fun z : Ext Z => (z.cell _ _ (lt_of_cell n3)).trans n3
      have q4 := fun z : Ext Z => (z.cell _ _ (lt_of_cell m4)).trans m4
      have r4 := fun z : Ext Z => (z.cell _ _ (lt_of_cell n4)).trans n4
      clear c3 c4 A B A0 D0
      go_wp2
      refine wp_region_ext (by kernel_rfl) (by kernel_rfl) ?_
      repeat (first
        | (refine quiet_neq_same rfl _ _ _ rfl (by kernel_rfl) _ eqe rfl rfl _ rfl ?_; simp only [Act.put, List.setIfInBounds_toArray, List.set_cons_succ, List.set_cons_zero])
        | go_big_quiet_step (fail))
      refine wpQuiet_nil ?_
      intro _ hw'
      obtain ⟨nx2, hw''⟩ := hw'
      subst hw''
      have G2 := gtrans G nx2.h
      generalize nx2.X = X2 at *
      clear p0 p1 q0 q1 q2 q3 q4 r0 r1 r2 r3 r4
      go_wp2
      go_roundw
      case rel => exact ⟨k + 1, by omega, by go_num, G2⟩
      case measure => simp [intOf]; omega
    · obtain rfl : k = p.code.length := by omega
      have hnk : ¬ ((p.code.length : Int) < (p.code.length : Int)) := by omega
      obtain ⟨U, hU⟩ : ∃ U, U = wr := ⟨_, rfl⟩
      subst hU
      have GU := G
      clear s0 s1 t0 t1
      have pu0 := (S0.keep GU).at2.1
      go_wp2
      go_loopw [6, 7] (fun x _ wr => ∃ k : Nat, k ≤ p.cols.length ∧ x = .int .i64 k ∧ Below V.heap.size V wr) (fun x _ _ => p.cols.length - (intOf x).toNat)
      case atStart => exact ⟨0, Nat.zero_le _, rfl, GU⟩
      case round =>
        clear pu0 G GU
        obtain ⟨k, hk, rfl, G⟩ := hrel
        obtain ⟨s0, s1⟩ := (S0.keep G).at2
        obtain ⟨t0, t1⟩ := (T0.keep G).at2
        by_cases hlt : k < p.cols.length
        · obtain ⟨g1, o1, a1, k1, rfl, x0, f1, _⟩ := ((A0.keep G).c) k hlt
          obtain ⟨g2, o2, a2, k2, rfl, y0, f2, _⟩ := ((D0.keep G).c) k hlt
          have hki : (k : Int) < (p.cols.length : Int) := by omega
          have hnk := hp.k k
          generalize p.cols.getD k [] = es at *
          have hes : ((es.length : Int) != (es.length : Int)) = false := by simp
          obtain ⟨Z, hZ⟩ : ∃ Z, Z = wr := ⟨_, rfl⟩
          subst hZ
          have hne : Nonempty (Ext Z) := ⟨⟨_, Below.refl _ _⟩⟩
          have p0 := fun z : Ext Z => (z.cell _ _ (lt_of_cell x0)).trans x0
          have p1 := fun z : Ext Z => (z.cell _ _ (lt_of_cell y0)).trans y0
          have p2 := fun z : Ext Z => (z.cell _ _ (lt_of_cell s1)).trans s1
          have p3 := fun z : Ext Z => (z.cell _ _ (lt_of_cell t1)).trans t1
          go_wp2
          refine wp_region_ext (by kernel_rfl) (by kernel_rfl) ?_
          repeat (go_big_quiet_step (fail))
          refine wpQuiet_nil ?_
          intro _ hw'
          obtain ⟨nx, hw''⟩ := hw'
          subst hw''
          have G1 := gtrans G nx.h
          have f1' := f1.keep nx.h
          have f2' := f2.keep nx.h
          have x1 := (nx.cell _ _ (lt_of_cell x0)).trans x0
          have y1 := (nx.cell _ _ (lt_of_cell y0)).trans y0
          have u1 := (nx.cell _ _ (lt_of_cell s1)).trans s1
          have v1 := (nx.cell _ _ (lt_of_cell t1)).trans t1
          generalize nx.X = X at *
          clear p0 p1 p2 p3 f1 f2 x0 y0 s0 s1 t0 t1 hne nx
          go_wp2
          go_loopw [7] (fun y w2 => ∃ j : Nat, j ≤ es.length ∧ y = .int .i64 j ∧ Below X.heap.size X w2) (fun y _ => es.length - (intOf y).toNat)
          case atStart => exact ⟨0, Nat.zero_le _, rfl, Below.refl _ _⟩
          case round =>
            obtain ⟨j, hj, rfl, GX⟩ := hrel
            have x2 := (GX.cell (p := ⟨g1, o1 + k, none⟩) (lt_of_cell x1)).trans x1
            have y2 := (GX.cell (p := ⟨g2, o2 + k, none⟩) (lt_of_cell y1)).trans y1
            have u2 := (GX.cell (p := ⟨w.heap.size, 1, none⟩) (lt_of_cell u1)).trans u1
            have v2 := (GX.cell (p := ⟨w.heap.size + 1, 1, none⟩) (lt_of_cell v1)).trans v1
            by_cases hjt : j < es.length
            · have hji : (j : Int) < (es.length : Int) := by omega
              obtain ⟨g3, o3, rfl, _, c3⟩ := (f1'.keep GX).form (by rw [fl_len intC_sz]; omega)
              obtain ⟨g4, o4, rfl, _, c4⟩ := (f2'.keep GX).form (by rw [fl_len intC_sz]; omega)
              have d1 := fl_at intC_sz 0 es j 0 hjt (by omega)
              rw [Nat.mul_one, Nat.add_zero] at d1
              have m0 := c3 j (.int .i64 (es.getD j 0)) d1
              have n0 := c4 j (.int .i64 (es.getD j 0)) d1
              generalize es.getD j 0 = e at *
              have hee : (e != e) = false := by simp
              obtain ⟨Z, hZ⟩ : ∃ Z, Z = wr := ⟨_, rfl⟩
              subst hZ
              have hne : Nonempty (Ext Z) := ⟨⟨_, Below.refl _ _⟩⟩
              have p0 := fun z : Ext Z => (z.cell _ _ (lt_of_cell x2)).trans x2
              have p1 := fun z : Ext Z => (z.cell _ _ (lt_of_cell y2)).trans y2
              have p2 := fun z : Ext Z => (z.cell _ _ (lt_of_cell u2)).trans u2
              have p3 := fun z : Ext Z => (z.cell _ _ (lt_of_cell v2)).trans v2
              have p4 := fun z : Ext Z => (z.cell _ _ (lt_of_cell m0)).trans m0
              have p5 := fun z : Ext Z => (z.cell _ _ (lt_of_cell n0)).trans n0
              clear c3 c4 d1
              go_wp2
              refine wp_region_ext (by kernel_rfl) (by kernel_rfl) ?_
              repeat (go_big_quiet_step (fail))
              refine wpQuiet_nil ?_
              intro _ hw'
              obtain ⟨nx2, hw''⟩ := hw'
              subst hw''
              have G2 := gtrans GX nx2.h
              generalize nx2.X = X2 at *
              clear p0 p1 p2 p3 p4 p5
              go_wp2
              go_roundw
              case rel => exact ⟨j + 1, by omega, by go_num, G2⟩
              case measure => simp [intOf]; omega
            · obtain rfl : j = es.length := by omega
              have hnj : ¬ ((es.length : Int) < (es.length : Int)) := by omega
              have G3 := gtrans G1 GX
              go_wp2
              go_roundw
              case rel => exact ⟨k + 1, by omega, by go_num, G3⟩
              case measure => simp [intOf]; omega
        · obtain rfl : k = p.cols.length := by omega
          have hnk : ¬ ((p.cols.length : Int) < (p.cols.length : Int)) := by omega
          have G9 := gtrans B0 G
          go_wp2
          go_ret
          exact ⟨rfl, G9⟩

end Go.Proofs.YtjeffmfnaihhjaaDoor
