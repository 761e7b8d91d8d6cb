/- Whether a query's trees are nested beyond the bound. And what goes with it: 4 texts in one. -/
import Derived.Test.YtnolbpekdikamaaGreatDoorJb23
import Derived.ChangeKeysEq
import Derived.Deep.CutRange
namespace Go.Proofs.YtnolbpekdikamaaGreatDoor
open Go.RowKit Go.BigFrame
set_option linter.unusedVariables false
set_option linter.unusedSimpArgs false

def qyA (q : Qy) (ai : Option Addr) (ci : Nat) (aw : Option Addr) (cw : Nat) (ar : Option Addr) (cr : Nat) : Array Value := #[.slice ai q.items.length ci, .int .i64 q.mode, .int .i64 q.after, .slice aw q.wh.length cw, .int .i64 q.within, .string q.by_, .slice ar q.ret.length cr]
set_option maxRecDepth 100000 in
set_option maxHeartbeats 8000000 in
theorem qBeyond_any (q : Qy) (hq : q.fit) (cs : Array Value) (ai : Option Addr) (ci : Nat) (aw : Option Addr) (cw : Nat) (ar : Option Addr) (cr : Nat) (w : World) (A : IsQ w q cs ai ci aw cw ar cr) :
    Calls Tryz.prog 5 #[.agg cs] w fun e w' => ∃ bb, e = .returned (.bool bb) ∧ Below w.heap.size w w' := by
  obtain ⟨he, Ai, Aw, Ar, si, sw, sr⟩ := A
  subst he
  have hr := hq.r
  have c1 := fun (u : World) (g : Below w.heap.size w u) => beyond_any q.wh aw cw u (Aw.keep g) hq.wh.1 hq.wh.2
  have B0 := galloc (Below.refl w.heap.size w) (.cells #[.slice ai q.items.length ci, .int .i64 q.mode, .int .i64 q.after, .slice aw q.wh.length cw, .int .i64 q.within, .string q.by_, .slice ar q.ret.length cr] 31)
  have S0 := Bk.new w #[.slice ai q.items.length ci, .int .i64 q.mode, .int .i64 q.after, .slice aw q.wh.length cw, .int .i64 q.within, .string q.by_, .slice ar q.ret.length cr] 31
  go_enter Tryz.func5, Tryz.ntmps5
  go_wp2_with (go_at_call 6; (with_reducible refine (c1 _ B0).mono ?_); rintro e u1 ⟨b1, rfl, g1⟩)
  have G1 := gtrans B0 g1
  have S1 := S0.keep g1
  go_loopw [3, 4, 5] (fun d x _ wr => ∃ (k : Nat) (bb : Bool), k ≤ q.ret.length ∧ x = .int .i64 k ∧ d = .bool bb ∧ Bk wr w.heap.size #[.slice ai q.items.length ci, .int .i64 q.mode, .int .i64 q.after, .slice aw q.wh.length cw, .int .i64 q.within, .string q.by_, .slice ar q.ret.length cr] 31 ∧ Below w.heap.size w wr) (fun _ x _ _ => q.ret.length - (intOf x).toNat)
  case atStart => exact ⟨0, b1, Nat.zero_le _, rfl, rfl, S1, G1⟩
  case round =>
    obtain ⟨k, bb, hk, rfl, rfl, S, G⟩ := hrel
    obtain ⟨_, _, _, _, _, _, s6⟩ := S.at7
    by_cases hlt : k < q.ret.length
    · obtain ⟨g, o, a, c, rfl, x0, I, sl⟩ := (Ar.keep G) k hlt
      have hki : (k : Int) < (q.ret.length : Int) := by omega
      have c2 := beyond_any (q.ret.getD k []) a c wr I (hq.ret k).1 (hq.ret k).2
      generalize q.ret.getD k [] = rk at *
      go_wp2_with (go_at_call 6; (with_reducible refine c2.mono ?_); rintro e u2 ⟨b2, rfl, g2⟩)
      all_goals
        go_roundw
        case rel => exact ⟨k + 1, _, by omega, by go_num, rfl, S.keep g2, gtrans G g2⟩
        case measure => simp [intOf]; omega
    · have hkn : k = q.ret.length := by omega
      subst hkn
      go_wp2
      go_ret
      exact ⟨_, rfl, G⟩

end Go.Proofs.YtnolbpekdikamaaGreatDoor
namespace Go.Proofs.YtnolbpekdikamaaGreatDoor
open Go.RowKit Go.BigFrame
set_option linter.unusedVariables false
set_option linter.unusedSimpArgs false

theorem cells2 : Tryz.prog.cellsOf 2 = 1 := by kernel_rfl
theorem plain2 : Tryz.prog.plainKey 2 = true := by kernel_rfl
theorem arr_eq (a0 a1 a2 a3 a4 a5 a6 a7 : Int) (u : World) : (Op.equalIn 9999 72 (.agg #[.int .i64 a0, .int .i64 a1, .int .i64 a2, .int .i64 a3, .int .i64 a4, .int .i64 a5, .int .i64 a6, .int .i64 a7]) (.agg #[.int .i64 a0, .int .i64 a1, .int .i64 a2, .int .i64 a3, .int .i64 a4, .int .i64 a5, .int .i64 a6, .int .i64 a7])).run Tryz.prog u = .ok true u := by
  obtain ⟨i0, hi⟩ : ∃ i, Tryz.prog.info? 2 = some i := by
    cases h : Tryz.prog.info? 2 with
    | none => exact absurd h (by have : (Tryz.prog.info? 2).isSome = true := by kernel_rfl
                                 intro h2; rw [h2] at this; cases this)
    | some i => exact ⟨i, rfl⟩
  have one : ∀ (j : Nat) (x : Int), (#[.int .i64 a0, .int .i64 a1, .int .i64 a2, .int .i64 a3, .int .i64 a4, .int .i64 a5, .int .i64 a6, .int .i64 a7] : Array Value)[j]? = some (.int .i64 x) → (part 2 #[.int .i64 a0, .int .i64 a1, .int .i64 a2, .int .i64 a3, .int .i64 a4, .int .i64 a5, .int .i64 a6, .int .i64 a7] j).run Tryz.prog u = .ok (.int .i64 x) u := fun j x h => run_part_plain u plain2 h
  have e0 := one 0 a0 rfl
  have e1 := one 1 a1 rfl
  have e2 := one 2 a2 rfl
  have e3 := one 3 a3 rfl
  have e4 := one 4 a4 rfl
  have e5 := one 5 a5 rfl
  have e6 := one 6 a6 rfl
  have e7 := one 7 a7 rfl
  have eq : ∀ x : Int, (Op.equalIn 9998 2 (.int .i64 x) (.int .i64 x)).run Tryz.prog u = .ok true u := fun x => by
    rw [run_equalIn_int u 9997 2 .i64 .i64 x x Tryz.underlying2]
    simp
  rw [show (9999 : Nat) = 9998 + 1 from rfl, run_equalIn_array u 9998 _ _ Tryz.underlying72 hi, cells2]
  rw [show List.range 8 = [0, 1, 2, 3, 4, 5, 6, 7] from rfl]
  simp only [Op.eqItems, Sem.run_bind, Nat.zero_mul, Nat.mul_one, e0, e1, e2, e3, e4, e5, e6, e7, Result.andThen_ok, eq, Bool.not_true, Bool.false_eq_true, if_false, Sem.run_pure]
theorem ev_eq (e : Ev) (w : World) : (Op.equalIn 10000 75 (.agg (evC e)) (.agg (evC e))).run Tryz.prog w = .ok true w := by
  obtain ⟨ts, id, typ, a0, a1, a2, a3, a4, a5, a6, a7⟩ := e
  have u1 := Tryz.underlying73
  have u2 := Tryz.underlying2
  have u4 := Tryz.underlying3
  have u5 := Tryz.underlying72
  have ae := arr_eq a0 a1 a2 a3 a4 a5 a6 a7
  have hS : Tryz.prog.underlying 75 = some (.struct (Tryz.prog.fieldsOf 75)) := by kernel_rfl
  have hp : Tryz.prog.stoodInHeld 75 = false := by kernel_rfl
  rw [show (10000 : Nat) = 9999 + 1 from rfl, run_equalIn_agg w 9999 75 _ _ hS hp]
  simp only [Program.fieldsOf, Tryz.underlying75, evC]
  go_simp
theorem in_eq (i : Ins) (w : World) : (Op.equalIn 10000 87 (.agg (insC i)) (.agg (insC i))).run Tryz.prog w = .ok true w := by
  obtain ⟨c, it, co, n, tz⟩ := i
  have u1 := Tryz.underlying85
  have u2 := Tryz.underlying2
  have u4 := Tryz.underlying3
  have hS : Tryz.prog.underlying 87 = some (.struct (Tryz.prog.fieldsOf 87)) := by kernel_rfl
  have hp : Tryz.prog.stoodInHeld 87 = false := by kernel_rfl
  rw [show (10000 : Nat) = 9999 + 1 from rfl, run_equalIn_agg w 9999 87 _ _ hS hp]
  simp only [Program.fieldsOf, Tryz.underlying87, insC]
  go_simp
/-- In a region that only reads: a struct is held against one of the same cells. -/
theorem quiet_neq_same {ops : Array Oper} {C : World → Prop} {Q : Act → Prop} {o : Oper} {rest : List Oper} {a : Act} (hw : Region.wanted o (yielded ops a.tmps) = true) (x y : Operand) (T : TypeId) (ho : o.op = .binOp .neq T x y T) (hg : Tryz.prog.eqGuardType Tryz.prog.depth T = false)
    (cs : Array Value) (heq : ∀ w, (Op.equalIn 10000 T (.agg cs) (.agg cs)).run Tryz.prog w = .ok true w) (hx : a.eval x = .agg cs) (hy : a.eval y = .agg cs) (a' : Act) (ha : a.put o.dst (.bool false) = a') (h : wpQuiet Tryz.prog ops C Q rest a') : wpQuiet Tryz.prog ops C Q (o :: rest) a := by
  subst ha
  refine wpQuiet_want hw fun K hK => ⟨.bool false, fun w hC => ?_, hK _ h⟩
  unfold Oper.quietAt execOp
  simp only [ho, hx, hy, Sem.run_bind, Sem.run_pure, run_eqGuard_agg (P := Tryz.prog) w .neq T x y cs cs hg, run_neq_struct, heq, Result.andThen_ok]
  exact ⟨rfl, rfl⟩

def BeyR (l : List (List Ev)) (e : Ending) : Prop := ∃ b, e = .returned (.bool b) ∧ (b = false → ∀ k, (l.getD k []).length ≤ 2147483647)
set_option maxHeartbeats 2000000 in
theorem beyond7_any (l : List (List Ev)) (ao : Option Addr) (cap : Nat) (w : World) (A : Nst w ao evC l) (hl : l.length ≤ 140737488351232) (hn : ∀ k, (l.getD k []).length ≤ 140737488351232) :
    Calls Tryz.prog 7 #[.slice ao l.length cap] w fun e w' => BeyR l e ∧ w = w' := by
  go_enter Tryz.func7, Tryz.ntmps7
  go_wp2
  go_loopw [3, 4] (fun s i wr => ∃ (k m : Nat), k ≤ l.length ∧ s = .int .i64 m ∧ i = .int .i64 k ∧ m ≤ 2147483647 ∧ (∀ j, j < k → (l.getD j []).length ≤ 2147483647) ∧ wr = w) (fun _ i _ => l.length - (intOf i).toNat)
  case atStart => exact ⟨0, 0, Nat.zero_le _, rfl, rfl, by omega, fun j hj => absurd hj (Nat.not_lt_zero _), rfl⟩
  case round =>
    obtain ⟨k, m, hk, rfl, rfl, hm, hall, rfl⟩ := hrel
    by_cases hlt : k < l.length
    · obtain ⟨g, o, a, c, rfl, a0, _, _⟩ := A k hlt
      have hki : (k : Int) < (l.length : Int) := by omega
      have hnk := hn k
      have HAL := show Hid _ from hall
      obtain ⟨x, hx⟩ : ∃ x, (l.getD k []).length = x := ⟨_, rfl⟩
      rw [hx] at a0 hnk
      have HX := show Hid (_ = _) from hx
      clear hx hall A hn
      by_cases hg : (2147483647 : Int) - (m : Int) < (x : Int)
      · go_wp2
        go_ret
        exact ⟨⟨true, rfl, fun h => by cases h⟩, rfl⟩
      · have h3 : m + x ≤ 2147483647 := by omega
        go_wp2
        go_roundw
        case rel =>
          exact ⟨k + 1, m + x, by omega, by go_num, by go_num, h3, fun j hj => by
            by_cases e : j < k
            · exact HAL.out j e
            · obtain rfl : j = k := by omega
              rw [HX.out]; omega, by first | trivial | rfl⟩
        case measure => simp [intOf]; omega
    · obtain rfl : k = l.length := by omega
      have hnk : ¬ ((l.length : Int) < (l.length : Int)) := by omega
      have HAL := show Hid _ from hall
      clear hall
      go_wp2
      go_ret
      refine ⟨⟨false, rfl, fun _ j => ?_⟩, rfl⟩
      by_cases e : j < l.length
      · exact HAL.out j e
      · rw [List.getD_eq_getElem?_getD, List.getElem?_eq_none (by omega)]; simp

end Go.Proofs.YtnolbpekdikamaaGreatDoor
namespace Go.Proofs.YtnolbpekdikamaaGreatDoor
open Go.RowKit Go.BigFrame
set_option linter.unusedVariables false
set_option linter.unusedSimpArgs false

set_option maxRecDepth 100000 in
set_option maxHeartbeats 8000000 in
theorem sameProg_true (p : Prg) (hp : p.ok) (ai : Option Addr) (ci : Nat) (ac : Option Addr) (cc : Nat) (bi : Option Addr) (di : Nat) (bc : Option Addr) (dc : Nat) (w : World) (A : IsPr w p ai ci ac cc) (B : IsPr w p bi di bc dc) :
    Calls Tryz.prog 16 #[prgA p ai ci ac cc, prgA p bi di bc dc] w fun e w' => e = .returned (.bool true) ∧ Below w.heap.size w w' := by
  have hpn := hp.n
  have hpc := hp.c
  have hs1 : ((p.code.length : Int) != (p.code.length : Int)) = false := by simp
  have hs2 : ((p.cols.length : Int) != (p.cols.length : Int)) = false := by simp
  have S0 := (Bk.new w #[.slice ai p.code.length ci, .slice ac p.cols.length cc] 48).alloc (.cells #[.slice bi p.code.length di, .slice bc p.cols.length dc] 48)
  have T0 := Bk.newE (w := w.alloc (.cells #[.slice ai p.code.length ci, .slice ac p.cols.length cc] 48)) (g := w.heap.size + 1) (by simp) #[.slice bi p.code.length di, .slice bc p.cols.length dc] 48
  have B0 := galloc (galloc (Below.refl w.heap.size w) (.cells #[.slice ai p.code.length ci, .slice ac p.cols.length cc] 48)) (.cells #[.slice bi p.code.length di, .slice bc p.cols.length dc] 48)
  have A0 := A.keep B0
  have D0 := B.keep B0
  go_enter Tryz.func16, Tryz.ntmps16
  go_upto_region 3 with fail
  generalize (w.alloc (.cells #[.slice ai p.code.length ci, .slice ac p.cols.length cc] 48)).alloc (.cells #[.slice bi p.code.length di, .slice bc p.cols.length dc] 48) = V at *
  go_wp2
  go_loopw [5] (fun x wr => ∃ k : Nat, k ≤ p.code.length ∧ x = .int .i64 k ∧ Below V.heap.size V wr) (fun x _ => p.code.length - (intOf x).toNat)
  case atStart => exact ⟨0, Nat.zero_le _, rfl, Below.refl _ _⟩
  case round =>
    obtain ⟨k, hk, rfl, G⟩ := hrel
    obtain ⟨s0, s1⟩ := (S0.keep G).at2
    obtain ⟨t0, t1⟩ := (T0.keep G).at2
    by_cases hlt : k < p.code.length
    · have hki : (k : Int) < (p.code.length : Int) := by omega
      obtain ⟨g3, o3, rfl, _, c3⟩ := ((A0.keep G).f).form (by rw [fl_len insC_sz]; omega)
      obtain ⟨g4, o4, rfl, _, c4⟩ := ((D0.keep G).f).form (by rw [fl_len insC_sz]; omega)
      obtain ⟨m0, m1, m2, m3, m4⟩ := in_at c3 k hlt
      obtain ⟨n0, n1, n2, n3, n4⟩ := in_at c4 k hlt
      have eqe := in_eq (p.code.getD k noIn)
      generalize p.code.getD k noIn = e at *
      unfold insC at eqe
      obtain ⟨Z, hZ⟩ : ∃ Z, Z = wr := ⟨_, rfl⟩
      subst hZ
      have hne : Nonempty (Ext Z) := ⟨⟨_, Below.refl _ _⟩⟩
      have p0 := fun z : Ext Z => (z.cell _ _ (lt_of_cell s0)).trans s0
      have p1 := fun z : Ext Z => (z.cell _ _ (lt_of_cell t0)).trans t0
      have q0 := fun z : Ext Z => (z.cell _ _ (lt_of_cell m0)).trans m0
      have r0 := fun z : Ext Z => (z.cell _ _ (lt_of_cell n0)).trans n0
      have q1 := fun z : Ext Z => (z.cell _ _ (lt_of_cell m1)).trans m1
      have r1 := fun z : Ext Z => (z.cell _ _ (lt_of_cell n1)).trans n1
      have q2 := fun z : Ext Z => (z.cell _ _ (lt_of_cell m2)).trans m2
      have r2 := fun z : Ext Z => (z.cell _ _ (lt_of_cell n2)).trans n2
      have q3 := fun z : Ext Z => (z.cell _ _ (lt_of_cell m3)).trans m3
      have r3 := fun z : Ext Z => (z.cell _ _ (lt_of_cell n3)).trans n3
      have q4 := fun z : Ext Z => (z.cell _ _ (lt_of_cell m4)).trans m4
      have r4 := fun z : Ext Z => (z.cell _ _ (lt_of_cell n4)).trans n4
      clear c3 c4 A B A0 D0
      go_wp2
      refine wp_region_ext (by kernel_rfl) (by kernel_rfl) ?_
      repeat (first
        | (refine quiet_neq_same rfl _ _ _ rfl (by kernel_rfl) _ eqe rfl rfl _ rfl ?_; simp only [Act.put, List.setIfInBounds_toArray, List.set_cons_succ, List.set_cons_zero])
        | go_big_quiet_step (fail))
      refine wpQuiet_nil ?_
      intro _ hw'
      obtain ⟨nx2, hw''⟩ := hw'
      subst hw''
      have G2 := gtrans G nx2.h
      generalize nx2.X = X2 at *
      clear p0 p1 q0 q1 q2 q3 q4 r0 r1 r2 r3 r4
      go_wp2
      go_roundw
      case rel => exact ⟨k + 1, by omega, by go_num, G2⟩
      case measure => simp [intOf]; omega
    · obtain rfl : k = p.code.length := by omega
      have hnk : ¬ ((p.code.length : Int) < (p.code.length : Int)) := by omega
      obtain ⟨U, hU⟩ : ∃ U, U = wr := ⟨_, rfl⟩
      subst hU
      have GU := G
      clear s0 s1 t0 t1
      have pu0 := (S0.keep GU).at2.1
      go_wp2
      go_loopw [6, 7] (fun x _ wr => ∃ k : Nat, k ≤ p.cols.length ∧ x = .int .i64 k ∧ Below V.heap.size V wr) (fun x _ _ => p.cols.length - (intOf x).toNat)
      case atStart => exact ⟨0, Nat.zero_le _, rfl, GU⟩
      case round =>
        clear pu0 G GU
        obtain ⟨k, hk, rfl, G⟩ := hrel
        obtain ⟨s0, s1⟩ := (S0.keep G).at2
        obtain ⟨t0, t1⟩ := (T0.keep G).at2
        by_cases hlt : k < p.cols.length
        · obtain ⟨g1, o1, a1, k1, rfl, x0, f1, _⟩ := ((A0.keep G).c) k hlt
          obtain ⟨g2, o2, a2, k2, rfl, y0, f2, _⟩ := ((D0.keep G).c) k hlt
          have hki : (k : Int) < (p.cols.length : Int) := by omega
          have hnk := hp.k k
          generalize p.cols.getD k [] = es at *
          have hes : ((es.length : Int) != (es.length : Int)) = false := by simp
          obtain ⟨Z, hZ⟩ : ∃ Z, Z = wr := ⟨_, rfl⟩
          subst hZ
          have hne : Nonempty (Ext Z) := ⟨⟨_, Below.refl _ _⟩⟩
          have p0 := fun z : Ext Z => (z.cell _ _ (lt_of_cell x0)).trans x0
          have p1 := fun z : Ext Z => (z.cell _ _ (lt_of_cell y0)).trans y0
          have p2 := fun z : Ext Z => (z.cell _ _ (lt_of_cell s1)).trans s1
          have p3 := fun z : Ext Z => (z.cell _ _ (lt_of_cell t1)).trans t1
          go_wp2
          refine wp_region_ext (by kernel_rfl) (by kernel_rfl) ?_
          repeat (go_big_quiet_step (fail))
          refine wpQuiet_nil ?_
          intro _ hw'
          obtain ⟨nx, hw''⟩ := hw'
          subst hw''
          have G1 := gtrans G nx.h
          have f1' := f1.keep nx.h
          have f2' := f2.keep nx.h
          have x1 := (nx.cell _ _ (lt_of_cell x0)).trans x0
          have y1 := (nx.cell _ _ (lt_of_cell y0)).trans y0
          have u1 := (nx.cell _ _ (lt_of_cell s1)).trans s1
          have v1 := (nx.cell _ _ (lt_of_cell t1)).trans t1
          generalize nx.X = X at *
          clear p0 p1 p2 p3 f1 f2 x0 y0 s0 s1 t0 t1 hne nx
          go_wp2
          go_loopw [7] (fun y w2 => ∃ j : Nat, j ≤ es.length ∧ y = .int .i64 j ∧ Below X.heap.size X w2) (fun y _ => es.length - (intOf y).toNat)
          case atStart => exact ⟨0, Nat.zero_le _, rfl, Below.refl _ _⟩
          case round =>
            obtain ⟨j, hj, rfl, GX⟩ := hrel
            have x2 := (GX.cell (p := ⟨g1, o1 + k, none⟩) (lt_of_cell x1)).trans x1
            have y2 := (GX.cell (p := ⟨g2, o2 + k, none⟩) (lt_of_cell y1)).trans y1
            have u2 := (GX.cell (p := ⟨w.heap.size, 1, none⟩) (lt_of_cell u1)).trans u1
            have v2 := (GX.cell (p := ⟨w.heap.size + 1, 1, none⟩) (lt_of_cell v1)).trans v1
            by_cases hjt : j < es.length
            · have hji : (j : Int) < (es.length : Int) := by omega
              obtain ⟨g3, o3, rfl, _, c3⟩ := (f1'.keep GX).form (by rw [fl_len intC_sz]; omega)
              obtain ⟨g4, o4, rfl, _, c4⟩ := (f2'.keep GX).form (by rw [fl_len intC_sz]; omega)
              have d1 := fl_at intC_sz 0 es j 0 hjt (by omega)
              rw [Nat.mul_one, Nat.add_zero] at d1
              have m0 := c3 j (.int .i64 (es.getD j 0)) d1
              have n0 := c4 j (.int .i64 (es.getD j 0)) d1
              generalize es.getD j 0 = e at *
              have hee : (e != e) = false := by simp
              obtain ⟨Z, hZ⟩ : ∃ Z, Z = wr := ⟨_, rfl⟩
              subst hZ
              have hne : Nonempty (Ext Z) := ⟨⟨_, Below.refl _ _⟩⟩
              have p0 := fun z : Ext Z => (z.cell _ _ (lt_of_cell x2)).trans x2
              have p1 := fun z : Ext Z => (z.cell _ _ (lt_of_cell y2)).trans y2
              have p2 := fun z : Ext Z => (z.cell _ _ (lt_of_cell u2)).trans u2
              have p3 := fun z : Ext Z => (z.cell _ _ (lt_of_cell v2)).trans v2
              have p4 := fun z : Ext Z => (z.cell _ _ (lt_of_cell m0)).trans m0
              have p5 := fun z : Ext Z => (z.cell _ _ (lt_of_cell n0)).trans n0
              clear c3 c4 d1
              go_wp2
              refine wp_region_ext (by kernel_rfl) (by kernel_rfl) ?_
              repeat (go_big_quiet_step (fail))
              refine wpQuiet_nil ?_
              intro _ hw'
              obtain ⟨nx2, hw''⟩ := hw'
              subst hw''
              have G2 := gtrans GX nx2.h
              generalize nx2.X = X2 at *
              clear p0 p1 p2 p3 p4 p5
              go_wp2
              go_roundw
              case rel => exact ⟨j + 1, by omega, by go_num, G2⟩
              case measure => simp [intOf]; omega
            · obtain rfl : j = es.length := by omega
              have hnj : ¬ ((es.length : Int) < (es.length : Int)) := by omega
              have G3 := gtrans G1 GX
              go_wp2
              go_roundw
              case rel => exact ⟨k + 1, by omega, by go_num, G3⟩
              case measure => simp [intOf]; omega
        · obtain rfl : k = p.cols.length := by omega
          have hnk : ¬ ((p.cols.length : Int) < (p.cols.length : Int)) := by omega
          have G9 := gtrans B0 G
          go_wp2
          go_ret
          exact ⟨rfl, G9⟩

end Go.Proofs.YtnolbpekdikamaaGreatDoor
namespace Go.Proofs.YtnolbpekdikamaaGreatDoor
open Go.RowKit Go.BigFrame Go.Proofs.YtnolbpekdikamaaGreatDoor.Ev
set_option linter.unusedVariables false
set_option linter.unusedSimpArgs false

theorem valR_self (k : Bool) (n : Int) (w : World) : (Op.equalIn 10000 51 (.agg #[.bool k, .int .i64 n]) (.agg #[.bool k, .int .i64 n])).run Tryz.prog w = .ok true w := by
  have u1 := Tryz.underlying4
  have u2 := Tryz.underlying2
  have hS : Tryz.prog.underlying 51 = some (.struct (Tryz.prog.fieldsOf 51)) := by kernel_rfl
  have hp : Tryz.prog.stoodInHeld 51 = false := by kernel_rfl
  rw [show (10000 : Nat) = 9999 + 1 from rfl, run_equalIn_agg w 9999 51 _ _ hS hp]
  simp only [Program.fieldsOf, Tryz.underlying51]
  go_simp
/-- In a region that only reads: a value is held against itself. -/
theorem quiet_eql_valR {ops : Array Oper} {C : World → Prop} {Q : Act → Prop} {o : Oper} {rest : List Oper} {a : Act} (hw : Region.wanted o (yielded ops a.tmps) = true) (x y : Operand) (ho : o.op = .binOp .eql 51 x y 51)
    (k : Bool) (n : Int) (hx : a.eval x = .agg #[.bool k, .int .i64 n]) (hy : a.eval y = .agg #[.bool k, .int .i64 n]) (a' : Act) (ha : a.put o.dst (.bool true) = a') (h : wpQuiet Tryz.prog ops C Q rest a') : wpQuiet Tryz.prog ops C Q (o :: rest) a := by
  subst ha
  refine wpQuiet_want hw fun K hK => ⟨.bool true, fun w hC => ?_, hK _ h⟩
  unfold Oper.quietAt execOp
  simp only [ho, hx, hy, Sem.run_bind, Sem.run_pure, run_eqGuard_agg (P := Tryz.prog) w .eql 51 x y #[.bool k, .int .i64 n] #[.bool k, .int .i64 n] (by kernel_rfl), run_eql_struct, valR_self, Result.andThen_ok]
  exact ⟨rfl, rfl⟩
set_option maxRecDepth 100000 in
set_option maxHeartbeats 16000000 in
theorem codeRenames_walk (sa : Option Addr) (sc : Nat) (L : List Ty) (q : Qy) (hq : q.fit) (cs : Array Value) (ai : Option Addr) (ci : Nat) (aw : Option Addr) (cw : Nat) (ar : Option Addr) (cr : Nat) (ns : List Nd) (ao : Option Addr) (cap : Nat) (E : Envr) (al : Option Addr) (cl : Nat) (w : World) (K : KwAt w) (TP : PwAt w) (T : TbAt w) (A : IsTypes w sa L.length L) (AQ : IsQ w q cs ai ci aw cw ar cr) (AN : IsNds w ao ns) (IE : IsEnv w E al cl)
    (hE0 : (∀ k, (E.lists.getD k []).length ≤ 2147483647) → E.ok) (hEn : E.lists.length * 24 ≤ 140737488351232) (hEl : ∀ k, (E.lists.getD k []).length * 88 ≤ 140737488351232) (hf : ∀ k, (ns.getD k noNd).fit) (hr : ns.length * 64 ≤ 140737488351232) (hL : L.length * 8 ≤ 140737488351232) :
    Calls Tryz.prog 4 #[.agg #[.slice sa L.length sc], .agg cs, .slice ao ns.length cap, envA al cl E] w fun e w' => e = .returned (.bool true) ∧ Below w.heap.size w w' := by
  have hcs := AQ.eq
  subst hcs
  have B1 := galloc (Below.refl w.heap.size w) (.cells #[.slice sa L.length sc] 24)
  have B2 := galloc B1 (.cells #[.slice ai q.items.length ci, .int .i64 q.mode, .int .i64 q.after, .slice aw q.wh.length cw, .int .i64 q.within, .string q.by_, .slice ar q.ret.length cr] 31)
  have B3 := galloc B2 (.cells #[.slice al E.lists.length cl, .int .i64 E.each, .int .i64 E.at_] 34)
  have k1 := ((Bk.new w #[.slice sa L.length sc] 24).alloc (.cells #[.slice ai q.items.length ci, .int .i64 q.mode, .int .i64 q.after, .slice aw q.wh.length cw, .int .i64 q.within, .string q.by_, .slice ar q.ret.length cr] 31)).alloc (.cells #[.slice al E.lists.length cl, .int .i64 E.each, .int .i64 E.at_] 34)
  have k2 := (Bk.newE (w := w.alloc (.cells #[.slice sa L.length sc] 24)) (g := w.heap.size + 1) (by simp) #[.slice ai q.items.length ci, .int .i64 q.mode, .int .i64 q.after, .slice aw q.wh.length cw, .int .i64 q.within, .string q.by_, .slice ar q.ret.length cr] 31).alloc (.cells #[.slice al E.lists.length cl, .int .i64 E.each, .int .i64 E.at_] 34)
  have k3 := Bk.newE (w := (w.alloc (.cells #[.slice sa L.length sc] 24)).alloc (.cells #[.slice ai q.items.length ci, .int .i64 q.mode, .int .i64 q.after, .slice aw q.wh.length cw, .int .i64 q.within, .string q.by_, .slice ar q.ret.length cr] 31)) (g := w.heap.size + 2) (by simp) #[.slice al E.lists.length cl, .int .i64 E.each, .int .i64 E.at_] 34
  go_enter Tryz.func4, Tryz.ntmps4
  go_upto_region 1 with fail
  generalize ((w.alloc _).alloc _).alloc _ = V at *
  obtain ⟨q0, q1, q2, q3, q4, q5, q6⟩ := k2.at7
  have c1 := qBeyond_any q hq _ ai ci aw cw ar cr V (AQ.keep B3)
  have c2 := fun (u : World) (g : Below w.heap.size w u) => beyond_any ns ao cap u (AN.keep g) hr hf
  have c3 := fun (u : World) (g : Below w.heap.size w u) => beyond7_any E.lists al cl u (IE.n.keep g) (by omega) (fun k => by have := hEl k; omega)
  go_upto_region 3 with (first
    | (go_at_call 5; (with_reducible refine c1.mono ?_); rintro e u1 ⟨bb, rfl, g1⟩; have G1 := gtrans B3 g1; have Q3 := k3.keep g1; obtain ⟨t0, t1, t2⟩ := Q3.at3; cases bb)
    | (go_at_call 6; (with_reducible refine (c2 _ G1).mono ?_); rintro e u2 ⟨bb, rfl, g2⟩; have G2 := gtrans G1 g2; have P3 := Q3.keep g2; obtain ⟨s0, s1, s2⟩ := P3.at3; cases bb)
    | (go_at_call 7; (with_reducible refine (c3 _ G2).mono ?_); rintro e u3 ⟨⟨bb, rfl, hbb⟩, rfl⟩; cases bb))
  all_goals try (go_ret; (first | exact ⟨rfl, G1⟩ | exact ⟨rfl, G2⟩))
  have hE := hE0 (hbb (by first | trivial | rfl))
  have ca := awake_any _ (K.keep G2) (T.keep G2)
  go_upto_region 5 with (first
    | (go_at_call 8; (with_reducible refine ca.mono ?_); rintro e u4 ⟨rfl, g4⟩))
  have G4 := gtrans G2 g4
  have j1 := ((k1.keep g1).keep g2).keep g4
  have j2 := ((k2.keep g1).keep g2).keep g4
  have j3 := ((k3.keep g1).keep g2).keep g4
  clear k1 k2 k3 g1 g2 g4 G1 G2 c1 c2 c3 ca q0 q1 q2 q3 q4 q5 q6 t0 t1 t2 s0 s1 s2 Q3 P3 hbb B1 B2 B3
  obtain ⟨q0, q1, q2, q3, q4, q5, q6⟩ := j2.at7
  have cN := runnable_any q hq ns ao cap _ ai ci aw cw ar cr u4 (K.keep G4) (AQ.keep G4) (AN.keep G4) hr hf
  obtain ⟨rb, hrb⟩ : ∃ rb, runB (itemF q.items q.items.length) ns = rb := ⟨_, rfl⟩
  have HB : Hid (runB (itemF q.items q.items.length) ns = rb) := hrb
  rw [hrb] at cN
  clear hrb
  cases rb with
  | false =>
    go_upto_region 7 with (go_at_call 14; (with_reducible refine cN.mono ?_); rintro e u5 ⟨rfl, g5⟩)
    all_goals (go_ret; exact ⟨rfl, gtrans G4 g5⟩)
  | true =>
    by_cases hbig : 1000 < q.items.length
    · have hbi : (1000 : Int) < (q.items.length : Int) := by omega
      have q0' := fun (u : World) (g : Below u4.heap.size u4 u) => (j2.keep g).at7.1
      go_upto_region 7 with (go_at_call 14; (with_reducible refine cN.mono ?_); rintro e u5 ⟨rfl, g5⟩; have z0 := q0' _ g5)
      all_goals (go_ret; exact ⟨rfl, gtrans G4 g5⟩)
    have hbi : ¬ (1000 : Int) < (q.items.length : Int) := by omega
    have hl : q.items.length ≤ 1000 := by omega
    have q0' := fun (u : World) (g : Below u4.heap.size u4 u) => (j2.keep g).at7.1
    go_upto_region 7 with (go_at_call 14; (with_reducible refine cN.mono ?_); rintro e u5 ⟨rfl, g5⟩; have z0 := q0' _ g5)
    have G5 := gtrans G4 g5
    have i1 := j1.keep g5
    have i2 := j2.keep g5
    have i3 := j3.keep g5
    clear q0 q1 q2 q3 q4 q5 q6 cN z0 q0' g5 j1 j2 j3 G4
    have hcmp := ren_cmp L q hl HB.out
    have hev := ren_eval L q E hl HB.out
    have c7 := renamed_any q hq _ ai ci aw cw ar cr ns ao cap u5 (TP.keep G5) (AQ.keep G5) (AN.keep G5) hf hr
    obtain ⟨q0, q1, q2, q3, q4, q5, q6⟩ := i2.at7
    go_upto_region 8 with (go_at_call 15; (with_reducible refine c7.mono ?_); rintro e u6 ⟨⟨av, cv, bv, dv, rfl, RQ, RN⟩, g6⟩)
    have h6 := galloc g6 (.cells (zQ (.slice av q.items.length cv)) 31)
    have ZB := Bk.new u6 (zQ (.slice av q.items.length cv)) 31
    have ge := galloc (Below.refl u6.heap.size u6) (.cells (zQ (.slice av q.items.length cv)) 31)
    have RQ := RQ.keep ge
    have RN := RN.keep ge
    have i1 := i1.keep h6
    have i2 := i2.keep h6
    have i3 := i3.keep h6
    have G6 := gtrans G5 h6
    clear q0 q1 q2 q3 q4 q5 q6 c7 g6 h6 ge G5
    generalize u6.alloc _ = X at *
    generalize u6.heap.size = bz at *
    have hfit2 := renQ_fit q hq
    have hf2 : ∀ k, ((ns.map (renN q.items)).getD k noNd).fit := fun k => by rw [ren_getD]; exact renN_fit _ (by omega) (hf k)
    have hlen2 : (ns.map (renN q.items)).length = ns.length := List.length_map _
    have hr2 : (ns.map (renN q.items)).length * 64 ≤ 140737488351232 := by rw [hlen2]; exact hr
    have hok := cmpG_ok L q hf hr hL
    have c1 := fun (Y : World) (G : Below X.heap.size X Y) => Calls.mono (compile_any sa sc L q hq _ ai ci aw cw ar cr ns ao cap Y (K.keep (gtrans G6 G)) (A.keep (gtrans G6 G)) (AQ.keep (gtrans G6 G)) (AN.keep (gtrans G6 G)) hf hr hL) fun e w' h => h.pr
    have c2 := fun (Y : World) (G : Below X.heap.size X Y) => Calls.mono (compile_any sa sc L (renQ q) hfit2 _ av cv none 0 none 0 (ns.map (renN q.items)) bv dv Y (K.keep (gtrans G6 G)) (A.keep (gtrans G6 G)) (RQ.keep G) (RN.keep G) hf2 hr2 hL) fun e w' h => h.pr
    have c3 := fun (Y : World) (G : Below X.heap.size X Y) => eval_any sa sc L q hq _ ai ci aw cw ar cr ns ao cap E al cl Y (K.keep (gtrans G6 G)) (T.keep (gtrans G6 G)) (A.keep (gtrans G6 G)) (AQ.keep (gtrans G6 G)) (AN.keep (gtrans G6 G)) (IE.keep (gtrans G6 G)) hf hr hE
    have c4 := fun (Y : World) (G : Below X.heap.size X Y) => eval_any sa sc L (renQ q) hfit2 _ av cv none 0 none 0 (ns.map (renN q.items)) bv dv E al cl Y (K.keep (gtrans G6 G)) (T.keep (gtrans G6 G)) (A.keep (gtrans G6 G)) (RQ.keep G) (RN.keep G) (IE.keep (gtrans G6 G)) hf2 hr2 hE
    rw [hcmp, hlen2] at c2
    rw [hev, hlen2] at c4
    obtain ⟨P, hP⟩ : ∃ P, cmpG L q ns = P := ⟨_, rfl⟩
    obtain ⟨⟨xk, xn⟩, hx⟩ : ∃ x, evalV L q E ns = x := ⟨_, rfl⟩
    rw [hP] at c1 c2 hok
    rw [hx] at c3 c4
    unfold envA at c3 c4
    clear hcmp hev hP hx hE hE0 hEn hEl hf hf2 hr hr2 hlen2 hfit2 hL K TP T A AQ AN IE RQ RN HB hl hq
    have s0 := i1.one1
    obtain ⟨q0, q1, q2, q3, q4, q5, q6⟩ := i2.at7
    obtain ⟨t0, t1, t2⟩ := i3.at3
    obtain ⟨z0, z1, z2, z3, z4, z5, z6⟩ := ZB.at7
    have hne0 : Nonempty (Ext X) := ⟨⟨_, Below.refl _ _⟩⟩
    have ps0 := fun z : Ext X => (z.cell _ _ (lt_of_cell s0)).trans s0
    have pq0 := fun z : Ext X => (z.cell _ _ (lt_of_cell q0)).trans q0
    have pq1 := fun z : Ext X => (z.cell _ _ (lt_of_cell q1)).trans q1
    have pq2 := fun z : Ext X => (z.cell _ _ (lt_of_cell q2)).trans q2
    have pq3 := fun z : Ext X => (z.cell _ _ (lt_of_cell q3)).trans q3
    have pq4 := fun z : Ext X => (z.cell _ _ (lt_of_cell q4)).trans q4
    have pq5 := fun z : Ext X => (z.cell _ _ (lt_of_cell q5)).trans q5
    have pq6 := fun z : Ext X => (z.cell _ _ (lt_of_cell q6)).trans q6
    have pt0 := fun z : Ext X => (z.cell _ _ (lt_of_cell t0)).trans t0
    have pt1 := fun z : Ext X => (z.cell _ _ (lt_of_cell t1)).trans t1
    have pt2 := fun z : Ext X => (z.cell _ _ (lt_of_cell t2)).trans t2
    have pz0 := fun z : Ext X => (z.cell _ _ (lt_of_cell z0)).trans z0
    have pz1 := fun z : Ext X => (z.cell _ _ (lt_of_cell z1)).trans z1
    have pz2 := fun z : Ext X => (z.cell _ _ (lt_of_cell z2)).trans z2
    have pz3 := fun z : Ext X => (z.cell _ _ (lt_of_cell z3)).trans z3
    have pz4 := fun z : Ext X => (z.cell _ _ (lt_of_cell z4)).trans z4
    have pz5 := fun z : Ext X => (z.cell _ _ (lt_of_cell z5)).trans z5
    have pz6 := fun z : Ext X => (z.cell _ _ (lt_of_cell z6)).trans z6
    go_upto_region 8 with fail
    refine wp_region_held (S := fun Y => ∃ n : Ext X, Y = n.X) (by kernel_rfl) ?_
    have hX0 : Below X.heap.size X { X with drawn := X.drawn + 1 } := (Below.refl _ X).drew
    obtain ⟨X2, hXe⟩ : ∃ Y, { X with drawn := X.drawn + 1 } = Y := ⟨_, rfl⟩
    have hX : Below X.heap.size X X2 := hXe ▸ hX0
    rw [hXe]
    clear hX0 hXe
    refine anyH_pick (g := 17) [0, 1, 2, 4, 5, 6] (by kernel_rfl) (fun c a d v w h => by cases d <;> exact h) ⟨⟨X2, hX⟩, rfl⟩ rfl (by kernel_rfl) ?_
    simp only [pickL, List.filterMap_cons, List.filterMap_nil, List.getElem?_toArray, List.getElem?_cons_zero, List.getElem?_cons_succ]
    refine (show wpQuiet _ _ _ _ [_, _, _, _, _, _] _ from ?_)
    repeat (first
      | (refine quiet_eql_valR rfl _ _ rfl xk xn rfl rfl _ rfl ?_; simp only [Act.put, List.setIfInBounds_toArray, List.set_cons_succ, List.set_cons_zero])
      | go_big_quiet_step (fail))
    refine wpQuiet_nil ?_
    refine wpAnyH_all (rs := [3]) (by kernel_rfl) (by decide) ?_
    intro i hi
    simp only [List.mem_cons, List.not_mem_nil, or_false] at hi
    subst hi
    refine wpOp_callG (some 43) rfl rfl (by kernel_rfl) 11 #[.agg #[.slice sa L.length sc], .agg #[.slice ai q.items.length ci, .int .i64 q.mode, .int .i64 q.after, .slice aw q.wh.length cw, .int .i64 q.within, .string q.by_, .slice ar q.ret.length cr], .slice ao ns.length cap] (by kernel_rfl) _ (c1 X2 hX) ?_
    rintro e Y1 ⟨pi, pci, pc, pcc, pws, rfl, IP, gY, _, _⟩
    have hY1 := hX.trans (gY.mono hX.size)
    refine ⟨_, rfl, ⟨⟨Y1, hY1⟩, rfl⟩, ?_⟩
    clear gY
    simp only [Act.put, List.setIfInBounds_toArray, List.set_cons_succ, List.set_cons_zero]
    refine wpAnyH_all (rs := [7]) (by kernel_rfl) (by decide) ?_
    intro i hi
    simp only [List.mem_cons, List.not_mem_nil, or_false] at hi
    subst hi
    refine wpOp_callG (some 47) rfl rfl (by kernel_rfl) 11 #[.agg #[.slice sa L.length sc], .agg (zQ (.slice av q.items.length cv)), .slice bv ns.length dv] (by kernel_rfl) _ (c2 Y1 hY1) ?_
    rintro e Y2 ⟨ri, rci, rc, rcc, rws, rfl, IR, gY, _, _⟩
    have IP := IP.keep gY
    have hY2 := hY1.trans (gY.mono hY1.size)
    refine ⟨_, rfl, ⟨⟨Y2, hY2⟩, rfl⟩, ?_⟩
    clear gY
    simp only [Act.put, List.setIfInBounds_toArray, List.set_cons_succ, List.set_cons_zero]
    refine wpAnyH_all (rs := [8]) (by kernel_rfl) (by decide) ?_
    intro i hi
    simp only [List.mem_cons, List.not_mem_nil, or_false] at hi
    subst hi
    refine wpOp_callG (some 48) rfl rfl (by kernel_rfl) 16 #[prgA P pi pci pc pcc, prgA P ri rci rc rcc] (by kernel_rfl) _ (sameProg_true P hok pi pci pc pcc ri rci rc rcc Y2 IP IR) ?_
    rintro e Y3 ⟨rfl, gY⟩
    have hY3 := hY2.trans (gY.mono hY2.size)
    refine ⟨_, rfl, ⟨⟨Y3, hY3⟩, rfl⟩, ?_⟩
    clear gY IP IR
    simp only [Act.put, List.setIfInBounds_toArray, List.set_cons_succ, List.set_cons_zero]
    refine anyH_pick (g := 5) [9, 10, 11, 12, 13, 15, 16, 17, 18] (by kernel_rfl) (fun c a d v w h => by cases d <;> exact h) ⟨⟨Y3, hY3⟩, rfl⟩ rfl (by kernel_rfl) ?_
    simp only [pickL, List.filterMap_cons, List.filterMap_nil, List.getElem?_toArray, List.getElem?_cons_zero, List.getElem?_cons_succ]
    refine (show wpQuiet _ _ _ _ [_, _, _, _, _, _, _, _, _] _ from ?_)
    repeat (first
      | (refine quiet_eql_valR rfl _ _ rfl xk xn rfl rfl _ rfl ?_; simp only [Act.put, List.setIfInBounds_toArray, List.set_cons_succ, List.set_cons_zero])
      | go_big_quiet_step (fail))
    refine wpQuiet_nil ?_
    refine wpAnyH_all (rs := [14]) (by kernel_rfl) (by decide) ?_
    intro i hi
    simp only [List.mem_cons, List.not_mem_nil, or_false] at hi
    subst hi
    refine wpOp_callG (some 54) rfl rfl (by kernel_rfl) 13 #[.agg #[.slice sa L.length sc], .agg #[.slice ai q.items.length ci, .int .i64 q.mode, .int .i64 q.after, .slice aw q.wh.length cw, .int .i64 q.within, .string q.by_, .slice ar q.ret.length cr], .slice ao ns.length cap, .agg #[.slice al E.lists.length cl, .int .i64 E.each, .int .i64 E.at_]] (by kernel_rfl) _ (c3 Y3 hY3) ?_
    rintro e Y4 ⟨rfl, gY⟩
    have hY4 := hY3.trans (gY.mono hY3.size)
    refine ⟨_, rfl, ⟨⟨Y4, hY4⟩, rfl⟩, ?_⟩
    clear gY
    simp only [Act.put, List.setIfInBounds_toArray, List.set_cons_succ, List.set_cons_zero]
    refine wpAnyH_all (rs := [19]) (by kernel_rfl) (by decide) ?_
    intro i hi
    simp only [List.mem_cons, List.not_mem_nil, or_false] at hi
    subst hi
    refine wpOp_callG (some 59) rfl rfl (by kernel_rfl) 13 #[.agg #[.slice sa L.length sc], .agg (zQ (.slice av q.items.length cv)), .slice bv ns.length dv, .agg #[.slice al E.lists.length cl, .int .i64 E.each, .int .i64 E.at_]] (by kernel_rfl) _ (c4 Y4 hY4) ?_
    rintro e Y5 ⟨rfl, gY⟩
    have hY5 := hY4.trans (gY.mono hY4.size)
    refine ⟨_, rfl, ⟨⟨Y5, hY5⟩, rfl⟩, ?_⟩
    clear gY
    simp only [Act.put, List.setIfInBounds_toArray, List.set_cons_succ, List.set_cons_zero]
    refine anyH_pick (g := 0) [20, 21, 22] (by kernel_rfl) (fun c a d v w h => by cases d <;> exact h) ⟨⟨Y5, hY5⟩, rfl⟩ rfl (by kernel_rfl) ?_
    simp only [pickL, List.filterMap_cons, List.filterMap_nil, List.getElem?_toArray, List.getElem?_cons_zero, List.getElem?_cons_succ]
    refine (show wpQuiet _ _ _ _ [_, _, _] _ from ?_)
    repeat (first
      | (refine quiet_eql_valR rfl _ _ rfl xk xn rfl rfl _ rfl ?_; simp only [Act.put, List.setIfInBounds_toArray, List.set_cons_succ, List.set_cons_zero])
      | go_big_quiet_step (fail))
    refine wpQuiet_nil ?_
    refine wpAnyH_done (by kernel_rfl) ?_ _
    try simp only [Exit.then]
    go_step
    go_wp2
    go_ret
    exact ⟨rfl, gtrans G6 hY5⟩

end Go.Proofs.YtnolbpekdikamaaGreatDoor
