/- Are two events, two instructions the same? Rows of them; lists beyond the bound. -/
import Derived.Test.YtjeffmfnaihhjaaDoorCdf
import Derived.Test.YtjeffmfnaihhjaaDoorQt
import Derived.ChangeKeysEq
namespace Go.Proofs.YtjeffmfnaihhjaaDoor
open Go.RowKit Go.BigFrame
set_option linter.unusedVariables false
set_option linter.unusedSimpArgs false

theorem cells2 : Tryd.prog.cellsOf 2 = 1 := by kernel_rfl
theorem plain2 : Tryd.prog.plainKey 2 = true := by kernel_rfl
theorem arr_eq (a0 a1 a2 a3 a4 a5 a6 a7 : Int) (u : World) : (Op.equalIn 9999 67 (.agg #[.int .i64 a0, .int .i64 a1, .int .i64 a2, .int .i64 a3, .int .i64 a4, .int .i64 a5, .int .i64 a6, .int .i64 a7]) (.agg #[.int .i64 a0, .int .i64 a1, .int .i64 a2, .int .i64 a3, .int .i64 a4, .int .i64 a5, .int .i64 a6, .int .i64 a7])).run Tryd.prog u = .ok true u := by
  obtain ⟨i0, hi⟩ : ∃ i, Tryd.prog.info? 2 = some i := by
    cases h : Tryd.prog.info? 2 with
    | none => exact absurd h (by have : (Tryd.prog.info? 2).isSome = true := by kernel_rfl
                                 intro h2; rw [h2] at this; cases this)
    | some i => exact ⟨i, rfl⟩
  have one : ∀ (j : Nat) (x : Int), (#[.int .i64 a0, .int .i64 a1, .int .i64 a2, .int .i64 a3, .int .i64 a4, .int .i64 a5, .int .i64 a6, .int .i64 a7] : Array Value)[j]? = some (.int .i64 x) → (part 2 #[.int .i64 a0, .int .i64 a1, .int .i64 a2, .int .i64 a3, .int .i64 a4, .int .i64 a5, .int .i64 a6, .int .i64 a7] j).run Tryd.prog u = .ok (.int .i64 x) u := fun j x h => run_part_plain u plain2 h
  have e0 := one 0 a0 rfl
  have e1 := one 1 a1 rfl
  have e2 := one 2 a2 rfl
  have e3 := one 3 a3 rfl
  have e4 := one 4 a4 rfl
  have e5 := one 5 a5 rfl
  have e6 := one 6 a6 rfl
  have e7 := one 7 a7 rfl
  have eq : ∀ x : Int, (Op.equalIn 9998 2 (.int .i64 x) (.int .i64 x)).run Tryd.prog u = .ok true u := fun x => by
    rw [run_equalIn_int u 9997 2 .i64 .i64 x x Tryd.underlying2]
    simp
  rw [show (9999 : Nat) = 9998 + 1 from rfl, run_equalIn_array u 9998 _ _ Tryd.underlying67 hi, cells2]
  rw [show List.range 8 = [0, 1, 2, 3, 4, 5, 6, 7] from rfl]
  simp only [Op.eqItems, Sem.run_bind, Nat.zero_mul, Nat.mul_one, e0, e1, e2, e3, e4, e5, e6, e7, Result.andThen_ok, eq, Bool.not_true, Bool.false_eq_true, if_false, Sem.run_pure]
theorem ev_eq (e : Ev) (w : World) : (Op.equalIn 10000 69 (.agg (evC e)) (.agg (evC e))).run Tryd.prog w = .ok true w := by
  obtain ⟨ts, id, typ, a0, a1, a2, a3, a4, a5, a6, a7⟩ := e
  have u1 := Tryd.underlying66
  have u2 := Tryd.underlying2
  have u4 := Tryd.underlying3
  have u5 := Tryd.underlying67
  have ae := arr_eq a0 a1 a2 a3 a4 a5 a6 a7
  have hS : Tryd.prog.underlying 69 = some (.struct (Tryd.prog.fieldsOf 69)) := by kernel_rfl
  have hp : Tryd.prog.stoodInHeld 69 = false := by kernel_rfl
  rw [show (10000 : Nat) = 9999 + 1 from rfl, run_equalIn_agg w 9999 69 _ _ hS hp]
  simp only [Program.fieldsOf, Tryd.underlying69, evC]
  go_simp
theorem in_eq (i : Ins) (w : World) : (Op.equalIn 10000 43 (.agg (insC i)) (.agg (insC i))).run Tryd.prog w = .ok true w := by
  obtain ⟨c, it, co, n, tz⟩ := i
  have u1 := Tryd.underlying41
  have u2 := Tryd.underlying2
  have u4 := Tryd.underlying3
  have hS : Tryd.prog.underlying 43 = some (.struct (Tryd.prog.fieldsOf 43)) := by kernel_rfl
  have hp : Tryd.prog.stoodInHeld 43 = false := by kernel_rfl
  rw [show (10000 : Nat) = 9999 + 1 from rfl, run_equalIn_agg w 9999 43 _ _ hS hp]
  simp only [Program.fieldsOf, Tryd.underlying43, insC]
  go_simp
/-- In a region that only reads: a struct is held against one of the same cells. -/
theorem quiet_neq_same {ops : Array Oper} {C : World → Prop} {Q : Act → Prop} {o : Oper} {rest : List Oper} {a : Act} (hw : Region.wanted o (yielded ops a.tmps) = true) (x y : Operand) (T : TypeId) (ho : o.op = .binOp .neq T x y T) (hg : Tryd.prog.eqGuardType Tryd.prog.depth T = false)
    (cs : Array Value) (heq : ∀ w, (Op.equalIn 10000 T (.agg cs) (.agg cs)).run Tryd.prog w = .ok true w) (hx : a.eval x = .agg cs) (hy : a.eval y = .agg cs) (a' : Act) (ha : a.put o.dst (.bool false) = a') (h : wpQuiet Tryd.prog ops C Q rest a') : wpQuiet Tryd.prog ops C Q (o :: rest) a := by
  subst ha
  refine wpQuiet_want hw fun K hK => ⟨.bool false, fun w hC => ?_, hK _ h⟩
  unfold Oper.quietAt execOp
  simp only [ho, hx, hy, Sem.run_bind, Sem.run_pure, run_eqGuard_agg (P := Tryd.prog) w .neq T x y cs cs hg, run_neq_struct, heq, Result.andThen_ok]
  exact ⟨rfl, rfl⟩

def BeyR (l : List (List Ev)) (e : Ending) : Prop := ∃ b, e = .returned (.bool b) ∧ (b = false → ∀ k, (l.getD k []).length ≤ 2147483647)
set_option maxHeartbeats 2000000 in
theorem beyond_any (l : List (List Ev)) (ao : Option Addr) (cap : Nat) (w : World) (A : Nst w ao evC l) (hl : l.length ≤ 140737488351232) (hn : ∀ k, (l.getD k []).length ≤ 140737488351232) :
    Calls Tryd.prog 5 #[.slice ao l.length cap] w fun e w' => BeyR l e ∧ w = w' := by
  go_enter Tryd.func5, Tryd.ntmps5
  go_wp2
  go_loopw [3, 4] (fun s i wr => ∃ (k m : Nat), k ≤ l.length ∧ s = .int .i64 m ∧ i = .int .i64 k ∧ m ≤ 2147483647 ∧ (∀ j, j < k → (l.getD j []).length ≤ 2147483647) ∧ wr = w) (fun _ i _ => l.length - (intOf i).toNat)
  case atStart => exact ⟨0, 0, Nat.zero_le _, rfl, rfl, by omega, fun j hj => absurd hj (Nat.not_lt_zero _), rfl⟩
  case round =>
    obtain ⟨k, m, hk, rfl, rfl, hm, hall, rfl⟩ := hrel
    by_cases hlt : k < l.length
    · obtain ⟨g, o, a, c, rfl, a0, _, _⟩ := A k hlt
      have hki : (k : Int) < (l.length : Int) := by omega
      have hnk := hn k
      have HAL := show Hid _ from hall
      obtain ⟨x, hx⟩ : ∃ x, (l.getD k []).length = x := ⟨_, rfl⟩
      rw [hx] at a0 hnk
      have HX := show Hid (_ = _) from hx
      clear hx hall A hn
      by_cases hg : (2147483647 : Int) - (m : Int) < (x : Int)
      · go_wp2
        go_ret
        exact ⟨⟨true, rfl, fun h => by cases h⟩, rfl⟩
      · have h3 : m + x ≤ 2147483647 := by omega
        go_wp2
        go_roundw
        case rel =>
          exact ⟨k + 1, m + x, by omega, by go_num, by go_num, h3, fun j hj => by
            by_cases e : j < k
            · exact HAL.out j e
            · obtain rfl : j = k := by omega
              rw [HX.out]; omega, by first | trivial | rfl⟩
        case measure => simp [intOf]; omega
    · obtain rfl : k = l.length := by omega
      have hnk : ¬ ((l.length : Int) < (l.length : Int)) := by omega
      have HAL := show Hid _ from hall
      clear hall
      go_wp2
      go_ret
      refine ⟨⟨false, rfl, fun _ j => ?_⟩, rfl⟩
      by_cases e : j < l.length
      · exact HAL.out j e
      · rw [List.getD_eq_getElem?_getD, List.getElem?_eq_none (by omega)]; simp

set_option maxRecDepth 100000 in
set_option maxHeartbeats 4000000 in
theorem sameLists_true (l : List (List Ev)) (ao bo : Option Addr) (ca cb : Nat) (w : World) (A : Nst w ao evC l) (B : Nst w bo evC l) (hl : l.length ≤ 140737488351232) (hn : ∀ k, (l.getD k []).length * 88 ≤ 140737488351232) :
    Calls Tryd.prog 13 #[.slice ao l.length ca, .slice bo l.length cb] w fun e w' => e = .returned (.bool true) ∧ Below w.heap.size w w' := by
  have hself : ((l.length : Int) != (l.length : Int)) = false := by simp
  go_enter Tryd.func13, Tryd.ntmps13
  go_wp2
  go_loopw [5, 6] (fun x _ wr => ∃ k : Nat, k ≤ l.length ∧ x = .int .i64 k ∧ Below w.heap.size w wr) (fun x _ _ => l.length - (intOf x).toNat)
  case atStart => exact ⟨0, Nat.zero_le _, rfl, Below.refl _ _⟩
  case round =>
    obtain ⟨k, hk, rfl, G⟩ := hrel
    by_cases hlt : k < l.length
    · obtain ⟨g1, o1, a1, k1, rfl, x0, f1, _⟩ := (A.keep G) k hlt
      obtain ⟨g2, o2, a2, k2, rfl, y0, f2, _⟩ := (B.keep G) k hlt
      have hki : (k : Int) < (l.length : Int) := by omega
      have hnk := hn k
      generalize l.getD k [] = es at *
      have hes : ((es.length : Int) != (es.length : Int)) = false := by simp
      have hne : Nonempty (Ext wr) := ⟨⟨_, Below.refl _ _⟩⟩
      have p0 := fun z : Ext wr => (z.cell _ _ (lt_of_cell x0)).trans x0
      have p1 := fun z : Ext wr => (z.cell _ _ (lt_of_cell y0)).trans y0
      go_wp2
      refine wp_region_ext (by kernel_rfl) (by kernel_rfl) ?_
      repeat (go_big_quiet_step (fail))
      refine wpQuiet_nil ?_
      intro _ hw'
      obtain ⟨nx, hw''⟩ := hw'
      subst hw''
      have G1 := gtrans G nx.h
      have f1' := f1.keep nx.h
      have f2' := f2.keep nx.h
      have x1 := (nx.cell _ _ (lt_of_cell x0)).trans x0
      have y1 := (nx.cell _ _ (lt_of_cell y0)).trans y0
      generalize nx.X = X at *
      clear p0 p1 f1 f2 x0 y0 hne nx
      go_wp2
      go_loopw [6] (fun y w2 => ∃ j : Nat, j ≤ es.length ∧ y = .int .i64 j ∧ Below X.heap.size X w2) (fun y _ => es.length - (intOf y).toNat)
      case atStart => exact ⟨0, Nat.zero_le _, rfl, Below.refl _ _⟩
      case round =>
        obtain ⟨j, hj, rfl, GX⟩ := hrel
        have x2 := (GX.cell (p := ⟨g1, o1 + k, none⟩) (lt_of_cell x1)).trans x1
        have y2 := (GX.cell (p := ⟨g2, o2 + k, none⟩) (lt_of_cell y1)).trans y1
        by_cases hjt : j < es.length
        · have hji : (j : Int) < (es.length : Int) := by omega
          obtain ⟨g3, o3, rfl, _, c3⟩ := (f1'.keep GX).form (by rw [fl_len evC_sz]; omega)
          obtain ⟨g4, o4, rfl, _, c4⟩ := (f2'.keep GX).form (by rw [fl_len evC_sz]; omega)
          obtain ⟨m0, m1, m2, m3, m4, m5, m6, m7, m8, m9, m10⟩ := ev_at c3 j hjt
          obtain ⟨n0, n1, n2, n3, n4, n5, n6, n7, n8, n9, n10⟩ := ev_at c4 j hjt
          have eqe := ev_eq (es.getD j zeroE)
          generalize es.getD j zeroE = e at *
          unfold evC at eqe
          obtain ⟨Z, hZ⟩ : ∃ Z, Z = wr := ⟨_, rfl⟩
          subst hZ
          have hne : Nonempty (Ext Z) := ⟨⟨_, Below.refl _ _⟩⟩
          have p0 := fun z : Ext Z => (z.cell _ _ (lt_of_cell x2)).trans x2
          have p1 := fun z : Ext Z => (z.cell _ _ (lt_of_cell y2)).trans y2
          have q0 := fun z : Ext Z => (z.cell _ _ (lt_of_cell m0)).trans m0
          have r0 := fun z : Ext Z => (z.cell _ _ (lt_of_cell n0)).trans n0
          have q1 := fun z : Ext Z => (z.cell _ _ (lt_of_cell m1)).trans m1
          have r1 := fun z : Ext Z => (z.cell _ _ (lt_of_cell n1)).trans n1
          have q2 := fun z : Ext Z => (z.cell _ _ (lt_of_cell m2)).trans m2
          have r2 := fun z : Ext Z => (z.cell _ _ (lt_of_cell n2)).trans n2
          have q3 := fun z : Ext Z => (z.cell _ _ (lt_of_cell m3)).trans m3
          have r3 := fun z : Ext Z => (z.cell _ _ (lt_of_cell n3)).trans n3
          have q4 := fun z : Ext Z => (z.cell _ _ (lt_of_cell m4)).trans m4
          have r4 := fun z : Ext Z => (z.cell _ _ (lt_of_cell n4)).trans n4
          have q5 := fun z : Ext Z => (z.cell _ _ (lt_of_cell m5)).trans m5
          have r5 := fun z : Ext Z => (z.cell _ _ (lt_of_cell n5)).trans n5
          have q6 := fun z : Ext Z => (z.cell _ _ (lt_of_cell m6)).trans m6
          have r6 := fun z : Ext Z => (z.cell _ _ (lt_of_cell n6)).trans n6
          have q7 := fun z : Ext Z => (z.cell _ _ (lt_of_cell m7)).trans m7
          have r7 := fun z : Ext Z => (z.cell _ _ (lt_of_cell n7)).trans n7
          have q8 := fun z : Ext Z => (z.cell _ _ (lt_of_cell m8)).trans m8
          have r8 := fun z : Ext Z => (z.cell _ _ (lt_of_cell n8)).trans n8
          have q9 := fun z : Ext Z => (z.cell _ _ (lt_of_cell m9)).trans m9
          have r9 := fun z : Ext Z => (z.cell _ _ (lt_of_cell n9)).trans n9
          have q10 := fun z : Ext Z => (z.cell _ _ (lt_of_cell m10)).trans m10
          have r10 := fun z : Ext Z => (z.cell _ _ (lt_of_cell n10)).trans n10
          clear c3 c4
          go_wp2
          refine wp_region_ext (by kernel_rfl) (by kernel_rfl) ?_
          repeat (first
            | (refine quiet_neq_same rfl _ _ _ rfl (by kernel_rfl) _ eqe rfl rfl _ rfl ?_; simp only [Act.put, List.setIfInBounds_toArray, List.set_cons_succ, List.set_cons_zero])
            | go_big_quiet_step (fail))
          refine wpQuiet_nil ?_
          intro _ hw'
          obtain ⟨nx2, hw''⟩ := hw'
          subst hw''
          have G2 := gtrans GX nx2.h
          generalize nx2.X = X2 at *
          clear p0 p1 q0 q1 q2 q3 q4 q5 q6 q7 q8 q9 q10 r0 r1 r2 r3 r4 r5 r6 r7 r8 r9 r10
          go_wp2
          go_roundw
          case rel => exact ⟨j + 1, by omega, by go_num, G2⟩
          case measure => simp [intOf]; omega
        · obtain rfl : j = es.length := by omega
          have hnj : ¬ ((es.length : Int) < (es.length : Int)) := by omega
          have G3 := gtrans G1 GX
          go_wp2
          go_roundw
          case rel => exact ⟨k + 1, by omega, by go_num, G3⟩
          case measure => simp [intOf]; omega
    · obtain rfl : k = l.length := by omega
      have hnk : ¬ ((l.length : Int) < (l.length : Int)) := by omega
      go_wp2
      go_ret
      exact ⟨rfl, G⟩

end Go.Proofs.YtjeffmfnaihhjaaDoor
