/- Are two events, two instructions the same? Rows of them; lists beyond the bound. And what goes with it: 6 texts in one. -/
import Derived.Test.YtglagbedgjkdbaaGreatDoorJa26
import Derived.ChangeKeysEq
import Derived.Deep.OwnRows
import Derived.Deep.Onto
namespace Go.Proofs.YtglagbedgjkdbaaGreatDoor
open Go.RowKit Go.BigFrame
set_option linter.unusedVariables false
set_option linter.unusedSimpArgs false

theorem cells2 : Tryz.prog.cellsOf 2 = 1 := by kernel_rfl
theorem plain2 : Tryz.prog.plainKey 2 = true := by kernel_rfl
theorem arr_eq (a0 a1 a2 a3 a4 a5 a6 a7 : Int) (u : World) : (Op.equalIn 9999 73 (.agg #[.int .i64 a0, .int .i64 a1, .int .i64 a2, .int .i64 a3, .int .i64 a4, .int .i64 a5, .int .i64 a6, .int .i64 a7]) (.agg #[.int .i64 a0, .int .i64 a1, .int .i64 a2, .int .i64 a3, .int .i64 a4, .int .i64 a5, .int .i64 a6, .int .i64 a7])).run Tryz.prog u = .ok true u := by
  obtain ⟨i0, hi⟩ : ∃ i, Tryz.prog.info? 2 = some i := by
    cases h : Tryz.prog.info? 2 with
    | none => exact absurd h (by have : (Tryz.prog.info? 2).isSome = true := by kernel_rfl
                                 intro h2; rw [h2] at this; cases this)
    | some i => exact ⟨i, rfl⟩
  have one : ∀ (j : Nat) (x : Int), (#[.int .i64 a0, .int .i64 a1, .int .i64 a2, .int .i64 a3, .int .i64 a4, .int .i64 a5, .int .i64 a6, .int .i64 a7] : Array Value)[j]? = some (.int .i64 x) → (part 2 #[.int .i64 a0, .int .i64 a1, .int .i64 a2, .int .i64 a3, .int .i64 a4, .int .i64 a5, .int .i64 a6, .int .i64 a7] j).run Tryz.prog u = .ok (.int .i64 x) u := fun j x h => run_part_plain u plain2 h
  have e0 := one 0 a0 rfl
  have e1 := one 1 a1 rfl
  have e2 := one 2 a2 rfl
  have e3 := one 3 a3 rfl
  have e4 := one 4 a4 rfl
  have e5 := one 5 a5 rfl
  have e6 := one 6 a6 rfl
  have e7 := one 7 a7 rfl
  have eq : ∀ x : Int, (Op.equalIn 9998 2 (.int .i64 x) (.int .i64 x)).run Tryz.prog u = .ok true u := fun x => by
    rw [run_equalIn_int u 9997 2 .i64 .i64 x x Tryz.underlying2]
    simp
  rw [show (9999 : Nat) = 9998 + 1 from rfl, run_equalIn_array u 9998 _ _ Tryz.underlying73 hi, cells2]
  rw [show List.range 8 = [0, 1, 2, 3, 4, 5, 6, 7] from rfl]
  simp only [Op.eqItems, Sem.run_bind, Nat.zero_mul, Nat.mul_one, e0, e1, e2, e3, e4, e5, e6, e7, Result.andThen_ok, eq, Bool.not_true, Bool.false_eq_true, if_false, Sem.run_pure]
theorem ev_eq (e : Ev) (w : World) : (Op.equalIn 10000 76 (.agg (evC e)) (.agg (evC e))).run Tryz.prog w = .ok true w := by
  obtain ⟨ts, id, typ, a0, a1, a2, a3, a4, a5, a6, a7⟩ := e
  have u1 := Tryz.underlying74
  have u2 := Tryz.underlying2
  have u4 := Tryz.underlying3
  have u5 := Tryz.underlying73
  have ae := arr_eq a0 a1 a2 a3 a4 a5 a6 a7
  have hS : Tryz.prog.underlying 76 = some (.struct (Tryz.prog.fieldsOf 76)) := by kernel_rfl
  have hp : Tryz.prog.stoodInHeld 76 = false := by kernel_rfl
  rw [show (10000 : Nat) = 9999 + 1 from rfl, run_equalIn_agg w 9999 76 _ _ hS hp]
  simp only [Program.fieldsOf, Tryz.underlying76, evC]
  go_simp
theorem in_eq (i : Ins) (w : World) : (Op.equalIn 10000 100 (.agg (insC i)) (.agg (insC i))).run Tryz.prog w = .ok true w := by
  obtain ⟨c, it, co, n, tz⟩ := i
  have u1 := Tryz.underlying98
  have u2 := Tryz.underlying2
  have u4 := Tryz.underlying3
  have hS : Tryz.prog.underlying 100 = some (.struct (Tryz.prog.fieldsOf 100)) := by kernel_rfl
  have hp : Tryz.prog.stoodInHeld 100 = false := by kernel_rfl
  rw [show (10000 : Nat) = 9999 + 1 from rfl, run_equalIn_agg w 9999 100 _ _ hS hp]
  simp only [Program.fieldsOf, Tryz.underlying100, insC]
  go_simp
/-- In a region that only reads: a struct is held against one of the same cells. -/
theorem quiet_neq_same {ops : Array Oper} {C : World → Prop} {Q : Act → Prop} {o : Oper} {rest : List Oper} {a : Act} (hw : Region.wanted o (yielded ops a.tmps) = true) (x y : Operand) (T : TypeId) (ho : o.op = .binOp .neq T x y T) (hg : Tryz.prog.eqGuardType Tryz.prog.depth T = false)
    (cs : Array Value) (heq : ∀ w, (Op.equalIn 10000 T (.agg cs) (.agg cs)).run Tryz.prog w = .ok true w) (hx : a.eval x = .agg cs) (hy : a.eval y = .agg cs) (a' : Act) (ha : a.put o.dst (.bool false) = a') (h : wpQuiet Tryz.prog ops C Q rest a') : wpQuiet Tryz.prog ops C Q (o :: rest) a := by
  subst ha
  refine wpQuiet_want hw fun K hK => ⟨.bool false, fun w hC => ?_, hK _ h⟩
  unfold Oper.quietAt execOp
  simp only [ho, hx, hy, Sem.run_bind, Sem.run_pure, run_eqGuard_agg (P := Tryz.prog) w .neq T x y cs cs hg, run_neq_struct, heq, Result.andThen_ok]
  exact ⟨rfl, rfl⟩

def BeyR (l : List (List Ev)) (e : Ending) : Prop := ∃ b, e = .returned (.bool b) ∧ (b = false → ∀ k, (l.getD k []).length ≤ 2147483647)
set_option maxHeartbeats 2000000 in
theorem beyond7_any (l : List (List Ev)) (ao : Option Addr) (cap : Nat) (w : World) (A : Nst w ao evC l) (hl : l.length ≤ 140737488351232) (hn : ∀ k, (l.getD k []).length ≤ 140737488351232) :
    Calls Tryz.prog 7 #[.slice ao l.length cap] w fun e w' => BeyR l e ∧ w = w' := by
  go_enter Tryz.func7, Tryz.ntmps7
  go_wp2
  go_loopw [3, 4] (fun s i wr => ∃ (k m : Nat), k ≤ l.length ∧ s = .int .i64 m ∧ i = .int .i64 k ∧ m ≤ 2147483647 ∧ (∀ j, j < k → (l.getD j []).length ≤ 2147483647) ∧ wr = w) (fun _ i _ => l.length - (intOf i).toNat)
  case atStart => exact ⟨0, 0, Nat.zero_le _, rfl, rfl, by omega, fun j hj => absurd hj (Nat.not_lt_zero _), rfl⟩
  case round =>
    obtain ⟨k, m, hk, rfl, rfl, hm, hall, rfl⟩ := hrel
    by_cases hlt : k < l.length
    · obtain ⟨g, o, a, c, rfl, a0, _, _⟩ := A k hlt
      have hki : (k : Int) < (l.length : Int) := by omega
      have hnk := hn k
      have HAL := show Hid _ from hall
      obtain ⟨x, hx⟩ : ∃ x, (l.getD k []).length = x := ⟨_, rfl⟩
      rw [hx] at a0 hnk
      have HX := show Hid (_ = _) from hx
      clear hx hall A hn
      by_cases hg : (2147483647 : Int) - (m : Int) < (x : Int)
      · go_wp2
        go_ret
        exact ⟨⟨true, rfl, fun h => by cases h⟩, rfl⟩
      · have h3 : m + x ≤ 2147483647 := by omega
        go_wp2
        go_roundw
        case rel =>
          exact ⟨k + 1, m + x, by omega, by go_num, by go_num, h3, fun j hj => by
            by_cases e : j < k
            · exact HAL.out j e
            · obtain rfl : j = k := by omega
              rw [HX.out]; omega, by first | trivial | rfl⟩
        case measure => simp [intOf]; omega
    · obtain rfl : k = l.length := by omega
      have hnk : ¬ ((l.length : Int) < (l.length : Int)) := by omega
      have HAL := show Hid _ from hall
      clear hall
      go_wp2
      go_ret
      refine ⟨⟨false, rfl, fun _ j => ?_⟩, rfl⟩
      by_cases e : j < l.length
      · exact HAL.out j e
      · rw [List.getD_eq_getElem?_getD, List.getElem?_eq_none (by omega)]; simp

set_option maxRecDepth 100000 in
set_option maxHeartbeats 4000000 in
theorem sameLists_true (l : List (List Ev)) (ao bo : Option Addr) (ca cb : Nat) (w : World) (A : Nst w ao evC l) (B : Nst w bo evC l) (hl : l.length ≤ 140737488351232) (hn : ∀ k, (l.getD k []).length * 88 ≤ 140737488351232) :
    Calls Tryz.prog 25 #[.slice ao l.length ca, .slice bo l.length cb] w fun e w' => e = .returned (.bool true) ∧ Below w.heap.size w w' := by
  have hself : ((l.length : Int) != (l.length : Int)) = false := by simp
  go_enter Tryz.func25, Tryz.ntmps25
  go_wp2
  go_loopw [5, 6] (fun x _ wr => ∃ k : Nat, k ≤ l.length ∧ x = .int .i64 k ∧ Below w.heap.size w wr) (fun x _ _ => l.length - (intOf x).toNat)
  case atStart => exact ⟨0, Nat.zero_le _, rfl, Below.refl _ _⟩
  case round =>
    obtain ⟨k, hk, rfl, G⟩ := hrel
    by_cases hlt : k < l.length
    · obtain ⟨g1, o1, a1, k1, rfl, x0, f1, _⟩ := (A.keep G) k hlt
      obtain ⟨g2, o2, a2, k2, rfl, y0, f2, _⟩ := (B.keep G) k hlt
      have hki : (k : Int) < (l.length : Int) := by omega
      have hnk := hn k
      generalize l.getD k [] = es at *
      have hes : ((es.length : Int) != (es.length : Int)) = false := by simp
      have hne : Nonempty (Ext wr) := ⟨⟨_, Below.refl _ _⟩⟩
      have p0 := fun z : Ext wr => (z.cell _ _ (lt_of_cell x0)).trans x0
      have p1 := fun z : Ext wr => (z.cell _ _ (lt_of_cell y0)).trans y0
      go_wp2
      refine wp_region_ext (by kernel_rfl) (by kernel_rfl) ?_
      repeat (go_big_quiet_step (fail))
      refine wpQuiet_nil ?_
      intro _ hw'
      obtain ⟨nx, hw''⟩ := hw'
      subst hw''
      have G1 := gtrans G nx.h
      have f1' := f1.keep nx.h
      have f2' := f2.keep nx.h
      have x1 := (nx.cell _ _ (lt_of_cell x0)).trans x0
      have y1 := (nx.cell _ _ (lt_of_cell y0)).trans y0
      generalize nx.X = X at *
      clear p0 p1 f1 f2 x0 y0 hne nx
      go_wp2
      go_loopw [6] (fun y w2 => ∃ j : Nat, j ≤ es.length ∧ y = .int .i64 j ∧ Below X.heap.size X w2) (fun y _ => es.length - (intOf y).toNat)
      case atStart => exact ⟨0, Nat.zero_le _, rfl, Below.refl _ _⟩
      case round =>
        obtain ⟨j, hj, rfl, GX⟩ := hrel
        have x2 := (GX.cell (p := ⟨g1, o1 + k, none⟩) (lt_of_cell x1)).trans x1
        have y2 := (GX.cell (p := ⟨g2, o2 + k, none⟩) (lt_of_cell y1)).trans y1
        by_cases hjt : j < es.length
        · have hji : (j : Int) < (es.length : Int) := by omega
          obtain ⟨g3, o3, rfl, _, c3⟩ := (f1'.keep GX).form (by rw [fl_len evC_sz]; omega)
          obtain ⟨g4, o4, rfl, _, c4⟩ := (f2'.keep GX).form (by rw [fl_len evC_sz]; omega)
          obtain ⟨m0, m1, m2, m3, m4, m5, m6, m7, m8, m9, m10⟩ := ev_at c3 j hjt
          obtain ⟨n0, n1, n2, n3, n4, n5, n6, n7, n8, n9, n10⟩ := ev_at c4 j hjt
          have eqe := ev_eq (es.getD j zeroE)
          generalize es.getD j zeroE = e at *
          unfold evC at eqe
          obtain ⟨Z, hZ⟩ : ∃ Z, Z = wr := ⟨_, rfl⟩
          subst hZ
          have hne : Nonempty (Ext Z) := ⟨⟨_, Below.refl _ _⟩⟩
          have p0 := fun z : Ext Z => (z.cell _ _ (lt_of_cell x2)).trans x2
          have p1 := fun z : Ext Z => (z.cell _ _ (lt_of_cell y2)).trans y2
          have q0 := fun z : Ext Z => (z.cell _ _ (lt_of_cell m0)).trans m0
          have r0 := fun z : Ext Z => (z.cell _ _ (lt_of_cell n0)).trans n0
          have q1 := fun z : Ext Z => (z.cell _ _ (lt_of_cell m1)).trans m1
          have r1 := fun z : Ext Z => (z.cell _ _ (lt_of_cell n1)).trans n1
          have q2 := fun z : Ext Z => (z.cell _ _ (lt_of_cell m2)).trans m2
          have r2 := fun z : Ext Z => (z.cell _ _ (lt_of_cell n2)).trans n2
          have q3 := fun z : Ext Z => (z.cell _ _ (lt_of_cell m3)).trans m3
          have r3 := fun z : Ext Z => (z.cell _ _ (lt_of_cell n3)).trans n3
          have q4 := fun z : Ext Z => (z.cell _ _ (lt_of_cell m4)).trans m4
          have r4 := fun z : Ext Z => (z.cell _ _ (lt_of_cell n4)).trans n4
          have q5 := fun z : Ext Z => (z.cell _ _ (lt_of_cell m5)).trans m5
          have r5 := fun z : Ext Z => (z.cell _ _ (lt_of_cell n5)).trans n5
          have q6 := fun z : Ext Z => (z.cell _ _ (lt_of_cell m6)).trans m6
          have r6 := fun z : Ext Z => (z.cell _ _ (lt_of_cell n6)).trans n6
          have q7 := fun z : Ext Z => (z.cell _ _ (lt_of_cell m7)).trans m7
          have r7 := fun z : Ext Z => (z.cell _ _ (lt_of_cell n7)).trans n7
          have q8 := fun z : Ext Z => (z.cell _ _ (lt_of_cell m8)).trans m8
          have r8 := fun z : Ext Z => (z.cell _ _ (lt_of_cell n8)).trans n8
          have q9 := fun z : Ext Z => (z.cell _ _ (lt_of_cell m9)).trans m9
          have r9 := fun z : Ext Z => (z.cell _ _ (lt_of_cell n9)).trans n9
          have q10 := fun z : Ext Z => (z.cell _ _ (lt_of_cell m10)).trans m10
          have r10 := fun z : Ext Z => (z.cell _ _ (lt_of_cell n10)).trans n10
          clear c3 c4
          go_wp2
          refine wp_region_ext (by kernel_rfl) (by kernel_rfl) ?_
          repeat (first
            | (refine quiet_neq_same rfl _ _ _ rfl (by kernel_rfl) _ eqe rfl rfl _ rfl ?_; simp only [Act.put, List.setIfInBounds_toArray, List.set_cons_succ, List.set_cons_zero])
            | go_big_quiet_step (fail))
          refine wpQuiet_nil ?_
          intro _ hw'
          obtain ⟨nx2, hw''⟩ := hw'
          subst hw''
          have G2 := gtrans GX nx2.h
          generalize nx2.X = X2 at *
          clear p0 p1 q0 q1 q2 q3 q4 q5 q6 q7 q8 q9 q10 r0 r1 r2 r3 r4 r5 r6 r7 r8 r9 r10
          go_wp2
          go_roundw
          case rel => exact ⟨j + 1, by omega, by go_num, G2⟩
          case measure => simp [intOf]; omega
        · obtain rfl : j = es.length := by omega
          have hnj : ¬ ((es.length : Int) < (es.length : Int)) := by omega
          have G3 := gtrans G1 GX
          go_wp2
          go_roundw
          case rel => exact ⟨k + 1, by omega, by go_num, G3⟩
          case measure => simp [intOf]; omega
    · obtain rfl : k = l.length := by omega
      have hnk : ¬ ((l.length : Int) < (l.length : Int)) := by omega
      go_wp2
      go_ret
      exact ⟨rfl, G⟩

end Go.Proofs.YtglagbedgjkdbaaGreatDoor
namespace Go.Proofs.YtglagbedgjkdbaaGreatDoor
open Go.RowKit Go.BigFrame Go.Proofs.YtglagbedgjkdbaaGreatDoor.Ev
set_option linter.unusedVariables false
set_option linter.unusedSimpArgs false

/-- By both roads the same. -/
theorem holds_eq (L : List Ty) (q : Qy) (E : Envr) (ns : List Nd) : holdsC (cmpG L q ns) E = tru (evalV L q E ns) := by
  cases h : runB (itemF q.items q.items.length) ns with
  | true =>
    unfold holdsC
    rw [(cmpG_run L q E h).2]
    rfl
  | false =>
    rw [(cmpG_not L q E h).1, (cmpG_not L q E h).2]
    have e : runV ⟨[], []⟩ E = (noV2, 70) := by
      unfold runV runW
      rw [dif_neg (show ¬ 0 < ([] : List Ins).length from by decide)]
      rfl
    unfold holdsC
    rw [e]
    rfl
/-- What a conjunct's subtree comes to. -/
theorem eval_sub (L : List Ty) (q : Qy) (E : Envr) {ns : List Nd} (h : runB (itemF q.items q.items.length) ns = true) {bs : List Int} (hb : begsO ns [] = some bs) {r : Nat} (hr : r < ns.length) : evalV L q E (subL ns (bg bs r) r) = valA L (itemF q.items q.items.length) E ns r := by
  have K : ∀ i, i < ns.length → Kin ns bs i := fun i hi => kin_of hb i hi
  unfold evalV
  rw [if_pos (run_sub h hb hr), valA_sub L _ E K hr]
/-- The whole is true just if all its conjuncts are, each by itself. -/
theorem conj_eval (L : List Ty) (q : Qy) (E : Envr) {ns : List Nd} (h : runB (itemF q.items q.items.length) ns = true) {bs : List Int} (hb : begsO ns [] = some bs) : tru (evalV L q E ns) = (conjL ns).all fun r => tru (evalV L q E (subL ns (bg bs r) r)) := by
  have ht := (run_split h).1
  have e : evalV L q E ns = valA L (itemF q.items q.items.length) E ns (ns.length - 1) := by unfold evalV; rw [if_pos h]
  have hmem : ∀ r ∈ conjL ns, r < ns.length := fun r hr => by
    unfold conjL at hr
    rw [List.mem_filter, List.mem_range] at hr
    exact hr.1
  rw [e, Bool.eq_iff_iff, conj_true L _ E ht, List.all_eq_true]
  constructor
  · intro g r hr
    rw [eval_sub L q E h hb (hmem r hr)]
    exact g r hr
  · intro g r hr
    have := g r hr
    rw [eval_sub L q E h hb (hmem r hr)] at this
    exact this

end Go.Proofs.YtglagbedgjkdbaaGreatDoor
namespace Go.Proofs.YtglagbedgjkdbaaGreatDoor
open Go.RowKit Go.BigFrame Go.Proofs.YtglagbedgjkdbaaGreatDoor.Ev
set_option linter.unusedVariables false
set_option linter.unusedSimpArgs false

def trB (op : Int) : Bool := decide (op = 2 ∨ op = 3 ∨ op = 13 ∨ (19 ≤ op ∧ op ≤ 26))
def jnB (op : Int) : Bool := decide (op = 13 ∨ op = 25 ∨ op = 26)
theorem op_cases (op : Int) : op = 2 ∨ op = 3 ∨ op = 13 ∨ op = 25 ∨ op = 26 ∨ ((op ≠ 2 ∧ op ≠ 3 ∧ op ≠ 13 ∧ op ≠ 25 ∧ op ≠ 26) ∧ ((19 ≤ op ∧ op ≤ 24) ∨ op < 19 ∨ 26 < op)) := by omega

set_option maxRecDepth 100000 in
set_option maxHeartbeats 4000000 in
theorem joins_any (op : Int) (w : World) : Calls Tryz.prog 59 #[.int .i64 op] w fun e w' => e = .returned (.bool (jnB op)) ∧ w = w' := by
  obtain ⟨v, hv⟩ : ∃ v, jnB op = v := ⟨_, rfl⟩
  rw [hv]
  skip
  rcases op_cases op with rfl | rfl | rfl | rfl | rfl | ⟨⟨n1, n2, n3, n4, n5⟩, hc⟩
  iterate 5
    · cases hv
      go_enter Tryz.func59, Tryz.ntmps59
      go_wp2
      go_ret
      exact ⟨rfl, rfl⟩
  have b1 : (op == 2) = false := beq_eq_false_iff_ne.2 n1
  have b2 : (op == 3) = false := beq_eq_false_iff_ne.2 n2
  have b3 : (op == 13) = false := beq_eq_false_iff_ne.2 n3
  have b4 : (op == 25) = false := beq_eq_false_iff_ne.2 n4
  have b5 : (op == 26) = false := beq_eq_false_iff_ne.2 n5
  have hv' : decide (op = 2 ∨ op = 3 ∨ op = 13 ∨ (19 ≤ op ∧ op ≤ 26)) = decide (19 ≤ op ∧ op ≤ 24) := decide_eq_decide.2 (by omega)
  have hj : jnB op = false := decide_eq_false (by omega)
  rcases hc with ⟨h1, h2⟩ | h1 | h1
  · have d1 : decide (19 ≤ op) = true := decide_eq_true h1
    have d2 : decide (op ≤ 24) = true := decide_eq_true h2
    have d3 : decide (op ≤ 26) = true := decide_eq_true (by omega)
    obtain rfl : false = v := by rw [← hv]; first | exact hj.symm | exact (hv'.trans (decide_eq_true ⟨h1, h2⟩)).symm
    clear hv hv'
    try rw [hj] at cJ
    go_enter Tryz.func59, Tryz.ntmps59
    go_wp2
    go_ret
    exact ⟨rfl, rfl⟩
  · have d1 : decide (19 ≤ op) = false := decide_eq_false (by omega)
    obtain rfl : false = v := by rw [← hv]; first | exact hj.symm | exact (hv'.trans (decide_eq_false (by omega))).symm
    clear hv hv'
    try rw [hj] at cJ
    go_enter Tryz.func59, Tryz.ntmps59
    go_wp2
    go_ret
    exact ⟨rfl, rfl⟩
  · have d1 : decide (19 ≤ op) = true := decide_eq_true (by omega)
    have d2 : decide (op ≤ 24) = false := decide_eq_false (by omega)
    have d3 : decide (op ≤ 26) = false := decide_eq_false (by omega)
    obtain rfl : false = v := by rw [← hv]; first | exact hj.symm | exact (hv'.trans (decide_eq_false (by omega))).symm
    clear hv hv'
    try rw [hj] at cJ
    go_enter Tryz.func59, Tryz.ntmps59
    go_wp2
    go_ret
    exact ⟨rfl, rfl⟩

set_option maxRecDepth 100000 in
set_option maxHeartbeats 4000000 in
theorem isTruth_any (op : Int) (w : World) : Calls Tryz.prog 34 #[.int .i64 op] w fun e w' => e = .returned (.bool (trB op)) ∧ w = w' := by
  obtain ⟨v, hv⟩ : ∃ v, trB op = v := ⟨_, rfl⟩
  rw [hv]
  have cJ := joins_any op
  rcases op_cases op with rfl | rfl | rfl | rfl | rfl | ⟨⟨n1, n2, n3, n4, n5⟩, hc⟩
  iterate 5
    · cases hv
      go_enter Tryz.func34, Tryz.ntmps34
      go_wp2_with (go_at_call 59; (with_reducible refine (cJ _).mono ?_); rintro e u ⟨rfl, rfl⟩)
      go_ret
      exact ⟨rfl, rfl⟩
  have b1 : (op == 2) = false := beq_eq_false_iff_ne.2 n1
  have b2 : (op == 3) = false := beq_eq_false_iff_ne.2 n2
  have b3 : (op == 13) = false := beq_eq_false_iff_ne.2 n3
  have b4 : (op == 25) = false := beq_eq_false_iff_ne.2 n4
  have b5 : (op == 26) = false := beq_eq_false_iff_ne.2 n5
  have hv' : decide (op = 2 ∨ op = 3 ∨ op = 13 ∨ (19 ≤ op ∧ op ≤ 26)) = decide (19 ≤ op ∧ op ≤ 24) := decide_eq_decide.2 (by omega)
  have hj : jnB op = false := decide_eq_false (by omega)
  rcases hc with ⟨h1, h2⟩ | h1 | h1
  · have d1 : decide (19 ≤ op) = true := decide_eq_true h1
    have d2 : decide (op ≤ 24) = true := decide_eq_true h2
    have d3 : decide (op ≤ 26) = true := decide_eq_true (by omega)
    obtain rfl : true = v := by rw [← hv]; first | exact hj.symm | exact (hv'.trans (decide_eq_true ⟨h1, h2⟩)).symm
    clear hv hv'
    try rw [hj] at cJ
    go_enter Tryz.func34, Tryz.ntmps34
    go_wp2_with (go_at_call 59; (with_reducible refine (cJ _).mono ?_); rintro e u ⟨rfl, rfl⟩)
    go_ret
    exact ⟨rfl, rfl⟩
  · have d1 : decide (19 ≤ op) = false := decide_eq_false (by omega)
    obtain rfl : false = v := by rw [← hv]; first | exact hj.symm | exact (hv'.trans (decide_eq_false (by omega))).symm
    clear hv hv'
    try rw [hj] at cJ
    go_enter Tryz.func34, Tryz.ntmps34
    go_wp2_with (go_at_call 59; (with_reducible refine (cJ _).mono ?_); rintro e u ⟨rfl, rfl⟩)
    go_ret
    exact ⟨rfl, rfl⟩
  · have d1 : decide (19 ≤ op) = true := decide_eq_true (by omega)
    have d2 : decide (op ≤ 24) = false := decide_eq_false (by omega)
    have d3 : decide (op ≤ 26) = false := decide_eq_false (by omega)
    obtain rfl : false = v := by rw [← hv]; first | exact hj.symm | exact (hv'.trans (decide_eq_false (by omega))).symm
    clear hv hv'
    try rw [hj] at cJ
    go_enter Tryz.func34, Tryz.ntmps34
    go_wp2_with (go_at_call 59; (with_reducible refine (cJ _).mono ?_); rintro e u ⟨rfl, rfl⟩)
    go_ret
    exact ⟨rfl, rfl⟩

/-- Is the last node a truth? -/
def lastT (ns : List Nd) : Bool := decide (0 < ns.length) && trB (ns.getD (ns.length - 1) noNd).op

set_option maxRecDepth 100000 in
set_option maxHeartbeats 4000000 in
theorem IsTruth_any (ns : List Nd) (ao : Option Addr) (cap : Nat) (w : World) (A : IsNds w ao ns) (hr : ns.length * 64 ≤ 140737488351232) :
    Calls Tryz.prog 10 #[.slice ao ns.length cap] w fun e w' => e = .returned (.bool (lastT ns)) ∧ Below w.heap.size w w' := by
  obtain ⟨n, hn⟩ : ∃ n, ns.length = n := ⟨_, rfl⟩
  rw [hn] at hr ⊢
  by_cases h0 : n = 0
  · have hf : lastT ns = false := by unfold lastT; rw [hn, h0]; rfl
    rw [hf]
    subst h0
    go_enter Tryz.func10, Tryz.ntmps10
    go_wp2
    go_ret
    exact ⟨rfl, Below.refl _ _⟩
  obtain ⟨j, hj⟩ : ∃ j, n = j + 1 := ⟨n - 1, by omega⟩
  have hT : lastT ns = trB (ns.getD j noNd).op := by unfold lastT; rw [hn, hj]; simp
  rw [hT]
  obtain ⟨g, o, rfl, x0, _⟩ := A j (by omega)
  have cT := isTruth_any (ns.getD j noNd).op
  generalize trB (ns.getD j noNd).op = v at *
  generalize (ns.getD j noNd).op = op at *
  have hji : (n : Int) - 1 = (j : Int) := by omega
  have hjn : (j : Int) < (n : Int) := by omega
  have hi0 : (0 : Int) < (n : Int) := by omega
  have hb0 : ((n : Int) == 0) = false := beq_eq_false_iff_ne.2 (by omega)
  clear hj h0 hT
  go_enter Tryz.func10, Tryz.ntmps10
  go_wp2_with (go_at_call 34; (with_reducible refine (cT _).mono ?_); rintro e u ⟨rfl, rfl⟩)
  go_ret
  exact ⟨rfl, by first | exact Below.refl _ _ | exact (Below.refl _ _).drew⟩

/-- The left operand begins where the node does. -/
theorem kin_left {ns : List Nd} {bs : List Int} (K : ∀ i, i < ns.length → Kin ns bs i) (k : Nat) (hk : k < ns.length) : ((ns.getD k noNd).l = -1 ∧ bg bs k = k) ∨ ∃ m : Nat, m < k ∧ (ns.getD k noNd).l = (m : Int) ∧ bg bs m = bg bs k := by
  rcases (K k hk).how with ⟨_, e, e1, _⟩ | ⟨_, e0, e1, _, e⟩ | ⟨_, e0, e1, _, e3, e⟩
  · exact .inl ⟨e1, e⟩
  · exact .inr ⟨k - 1, by omega, e1, e.symm⟩
  · have := (K (k - 1) (by omega)).le
    exact .inr ⟨_, by omega, e3, e.symm⟩
set_option maxRecDepth 100000 in
set_option maxHeartbeats 4000000 in
theorem begin_any (ns : List Nd) (bs : List Int) (K : ∀ i, i < ns.length → Kin ns bs i) (root : Nat) (hroot : root < ns.length) (ao : Option Addr) (cap : Nat) (w : World) (A : IsNds w ao ns) (hr : ns.length * 64 ≤ 140737488351232) :
    Calls Tryz.prog 40 #[.slice ao ns.length cap, .int .i64 root] w fun e w' => e = .returned (.int .i64 (bg bs root)) ∧ Below w.heap.size w w' := by
  obtain ⟨n, hn⟩ : ∃ n, ns.length = n := ⟨_, rfl⟩
  rw [hn] at hr hroot ⊢
  go_enter Tryz.func40, Tryz.ntmps40
  go_wp2
  go_loopw [5] (fun x wr => ∃ k : Nat, k < n ∧ x = .int .i64 k ∧ bg bs k = bg bs root ∧ Below w.heap.size w wr) (fun x _ => (intOf x).toNat)
  case atStart => exact ⟨root, hroot, rfl, rfl, Below.refl _ _⟩
  case round =>
    obtain ⟨k, hk, rfl, hb, G⟩ := hrel
    obtain ⟨g, o, rfl, x0, x1, x2, x3, x4, x5⟩ := (A.keep G) k (by omega)
    have hki : (k : Int) < (n : Int) := by omega
    rcases kin_left K k (by omega) with ⟨e1, e2⟩ | ⟨m, hm, e1, e2⟩
    · rw [e1] at x4
      have HB := show Hid (_ = _) from e2.symm.trans hb
      clear e1 e2 hb x0 x1 x2 x3 x5
      go_wp2
      go_ret
      exact ⟨by rw [HB.out]; rfl, by first | exact G | exact G.drew⟩
    · rw [e1] at x4
      have HB := show Hid (_ = _) from e2.trans hb
      clear e1 e2 hb x0 x1 x2 x3 x5
      go_wp2
      go_roundw
      case rel => exact ⟨m, by omega, rfl, HB.out, by first | exact G | exact G.drew⟩
      case measure => simp [intOf]; omega
/-- Is it a place of a well shaped tree? -/
def plB (ns : List Nd) (root : Int) : Bool := decide (0 ≤ root ∧ root < (ns.length : Int)) && treeB ns
set_option maxRecDepth 100000 in
set_option maxHeartbeats 4000000 in
theorem isPlace_any (ns : List Nd) (root : Int) (ao : Option Addr) (cap : Nat) (w : World) (A : IsNds w ao ns) (hr : ns.length * 64 ≤ 140737488351232) (hf : ∀ k, (ns.getD k noNd).fit) (K : KwAt w) :
    Calls Tryz.prog 39 #[.slice ao ns.length cap, .int .i64 root] w fun e w' => e = .returned (.bool (plB ns root)) ∧ Below w.heap.size w w' := by
  have c1 := shTree_any ns ao cap w K A hr hf
  obtain ⟨v, hv⟩ : ∃ v, plB ns root = v := ⟨_, rfl⟩
  rw [hv]
  unfold plB at hv
  generalize treeB ns = tb at *
  obtain ⟨n, hn⟩ : ∃ n, ns.length = n := ⟨_, rfl⟩
  rw [hn] at hr hv c1 ⊢
  have HV := show Hid (_ = v) from hv
  clear hv
  by_cases h1 : 0 ≤ root
  · by_cases h2 : root < (n : Int)
    · obtain rfl : tb = v := by have := HV.out; rw [decide_eq_true ⟨h1, h2⟩, Bool.true_and] at this; exact this
      go_enter Tryz.func39, Tryz.ntmps39
      go_wp2_with (go_at_call 31; (with_reducible refine c1.mono ?_); rintro e u ⟨rfl, g⟩)
      go_ret
      exact ⟨rfl, g⟩
    · have d2 : decide (root < (n : Int)) = false := decide_eq_false h2
      obtain rfl : false = v := by have := HV.out; rw [decide_eq_false (fun h => h2 h.2), Bool.false_and] at this; exact this
      go_enter Tryz.func39, Tryz.ntmps39
      go_wp2_with (go_at_call 31; (with_reducible refine c1.mono ?_); rintro e u ⟨rfl, g⟩)
      go_ret
      exact ⟨rfl, Below.refl _ _⟩
  · have d1 : decide (0 ≤ root) = false := decide_eq_false h1
    obtain rfl : false = v := by have := HV.out; rw [decide_eq_false (fun h => h1 h.1), Bool.false_and] at this; exact this
    go_enter Tryz.func39, Tryz.ntmps39
    go_wp2_with (go_at_call 31; (with_reducible refine c1.mono ?_); rintro e u ⟨rfl, g⟩)
    go_ret
    exact ⟨rfl, Below.refl _ _⟩
/-- Where the subtrees of a tree begin; none: it is no tree. -/
def bsOf (ns : List Nd) : List Int := (begsO ns []).getD []
theorem tree_bs {ns : List Nd} (h : treeB ns = true) : begsO ns [] = some (bsOf ns) ∧ 0 < ns.length ∧ bg (bsOf ns) (ns.length - 1) = 0 ∧ ∀ i, i < ns.length → Kin ns (bsOf ns) i := by
  unfold treeB at h
  cases hb : begsO ns [] with
  | none => rw [hb] at h; cases h
  | some bs =>
    rw [hb] at h
    have h2 := of_decide_eq_true h
    have e : bsOf ns = bs := by unfold bsOf; rw [hb]; rfl
    rw [e]
    exact ⟨rfl, h2.1, by unfold bg; rw [h2.2]; rfl, kin_of hb⟩
/-- The size of a subtree. -/
def sizeO (ns : List Nd) (root : Int) : Int := if plB ns root = true then root - (bg (bsOf ns) root.toNat : Int) + 1 else 0
end Go.Proofs.YtglagbedgjkdbaaGreatDoor
namespace Go.Proofs.YtglagbedgjkdbaaGreatDoor
open Go.RowKit Go.BigFrame Go.Proofs.YtglagbedgjkdbaaGreatDoor.Ev
set_option linter.unusedVariables false
set_option linter.unusedSimpArgs false

set_option maxRecDepth 100000 in
set_option maxHeartbeats 4000000 in
theorem clone_any (ns : List Nd) (ad : Addr) (cap : Nat) (w : World) (A : IsNds w (some ad) ns) (hr : ns.length * 64 ≤ 140737488351232) :
    Calls Tryz.prog 41 #[.slice (some ad) ns.length cap] w fun e w' => ∃ v, e = .returned v ∧ w'.ownsRow w.heap.size 64 6 v ns.length (ndsV ns) ∧ Below w.heap.size w w' := by
  have q22 : ∀ (w : World) (a : Option Addr) (n c n' c' : Nat), (binOp .eql 28 (.slice a n c) (.slice none n' c')).run Tryz.prog w = .ok (.bool a.isNone) w := fun w a n c n' c' => Lib.run_eql_slice_nil w _ _ a n c n' c' Tryz.underlying28
  have B0 := galloc (Below.refl w.heap.size w) (.cells #[] 64)
  have A0 := A.keep B0
  go_enter Tryz.func41, Tryz.ntmps41
  go_wp2_with (at_builtin; refine wpList_append_nds rfl _ _ rfl _ w.heap.size 0 [] rfl (World.ownsRow_made w #[] 0 (Nat.le_refl _) (Nat.zero_le _) rfl) B0.size (some ad) cap ns rfl (fun e => by cases e) A0 (by omega) ?_; intro v' w1 O1 g1)
  rw [Nat.zero_add, List.nil_append] at O1
  go_wp2
  go_ret
  exact ⟨_, rfl, O1, B0.grown g1 B0.size (fun k e => by cases e; exact Nat.le_refl _)⟩

end Go.Proofs.YtglagbedgjkdbaaGreatDoor
namespace Go.Proofs.YtglagbedgjkdbaaGreatDoor
open Go.RowKit Go.BigFrame Go.Proofs.YtglagbedgjkdbaaGreatDoor.Ev
set_option linter.unusedVariables false
set_option linter.unusedSimpArgs false

set_option maxRecDepth 100000 in
set_option maxHeartbeats 4000000 in
theorem shifted_any (a : Int) (ha : fI a) (f : Nat) (hf : f ≤ 2199023255488) (w : World) : Calls Tryz.prog 42 #[.int .i64 a, .int .i64 f] w fun e w' => e = .returned (.int .i64 (shI f a)) ∧ w = w' := by
  obtain ⟨h1, h2⟩ := ha
  unfold shI
  by_cases h : a < 0
  · rw [if_pos h]
    go_enter Tryz.func42, Tryz.ntmps42
    go_wp2
    go_ret
    exact ⟨rfl, rfl⟩
  · rw [if_neg h]
    have d : decide (a < 0) = false := decide_eq_false h
    go_enter Tryz.func42, Tryz.ntmps42
    go_wp2
    go_ret
    exact ⟨rfl, rfl⟩
/-- The first k are shifted. -/
def shL (f : Nat) (ns : List Nd) (k : Nat) : List Nd := (ns.take k).map (shN f) ++ ns.drop k
theorem shL_len (f : Nat) (ns : List Nd) (k : Nat) (h : k ≤ ns.length) : (shL f ns k).length = ns.length := by
  unfold shL
  simp
  omega
theorem shL_at (f : Nat) (ns : List Nd) (k : Nat) (h : k < ns.length) : (shL f ns k).getD k noNd = ns.getD k noNd := by
  unfold shL
  have hl : ((ns.take k).map (shN f)).length = k := by simp; omega
  rw [List.getD_eq_getElem?_getD, List.getD_eq_getElem?_getD, List.getElem?_append_right (by omega), hl, Nat.sub_self, List.getElem?_drop, Nat.add_zero]
theorem shL_step (f : Nat) (ns : List Nd) (k : Nat) (h : k < ns.length) : (shL f ns k).set k (shN f (ns.getD k noNd)) = shL f ns (k + 1) := by
  unfold shL
  have hl : ((ns.take k).map (shN f)).length = k := by simp; omega
  rw [List.set_append_right _ _ (by omega), hl, Nat.sub_self, List.take_add_one, List.getElem?_eq_getElem h, Option.toList_some, List.map_append, List.append_assoc]
  congr 1
  rw [List.drop_eq_getElem_cons h, List.getD_eq_getElem?_getD, List.getElem?_eq_getElem h]
  rfl
theorem nds_set2 (ns : List Nd) (k : Nat) (hk : k < ns.length) (a c : Int) : ((ndsV ns).set (k * 6 + 4) (.int .i64 a)).set (k * 6 + 5) (.int .i64 c) = ndsV (ns.set k ⟨(ns.getD k noNd).op, (ns.getD k noNd).n, (ns.getD k noNd).v, (ns.getD k noNd).x, a, c⟩) := by
  rw [nds_set ns k 4 hk (by decide) (.int .i64 a) ⟨(ns.getD k noNd).op, (ns.getD k noNd).n, (ns.getD k noNd).v, (ns.getD k noNd).x, a, (ns.getD k noNd).r⟩ rfl]
  have hg : (ns.set k ⟨(ns.getD k noNd).op, (ns.getD k noNd).n, (ns.getD k noNd).v, (ns.getD k noNd).x, a, (ns.getD k noNd).r⟩).getD k noNd = ⟨(ns.getD k noNd).op, (ns.getD k noNd).n, (ns.getD k noNd).v, (ns.getD k noNd).x, a, (ns.getD k noNd).r⟩ := by
    rw [List.getD_eq_getElem?_getD, List.getElem?_set_self hk]; rfl
  rw [nds_set _ k 5 (by simpa using hk) (by decide) (.int .i64 c) ⟨(ns.getD k noNd).op, (ns.getD k noNd).n, (ns.getD k noNd).v, (ns.getD k noNd).x, a, c⟩ (by rw [hg]; rfl), List.set_set]
theorem own_free {w : World} {base : Nat} {e : TypeId} {size g n cap : Nat} {xs : List Value} (h : w.ownsRow base e size (.slice (some ⟨g, 0, none⟩) n cap) n xs) (o : Nat) : w.frozen? ⟨g, o, none⟩ = false := by
  rcases h.2 with ⟨h', _⟩ | ⟨g', cap', cur, h', hb, hg, _⟩
  · simp at h'
  · simp only [Value.slice.injEq, Option.some.injEq, Addr.mk.injEq, and_true, true_and] at h'
    obtain ⟨rfl, rfl⟩ := h'
    simp [World.frozen?, hg]
/-- The subtree as a tree of its own. -/
def subO (ns : List Nd) (root : Int) : List Nd := if plB ns root = true then subL ns (bg (bsOf ns) root.toNat) root.toNat else []
set_option maxRecDepth 100000 in
set_option maxHeartbeats 8000000 in
theorem csub_any (ns : List Nd) (root : Int) (ao : Option Addr) (cap : Nat) (hcap : ns.length ≤ cap) (w : World) (A : IsNds w ao ns) (hr : ns.length * 64 ≤ 140737488351232) (hf : ∀ k, (ns.getD k noNd).fit) (K : KwAt w) :
    Calls Tryz.prog 14 #[.slice ao ns.length cap, .int .i64 root] w fun e w' => ∃ v, e = .returned v ∧ w'.ownsRow w.heap.size 64 6 v (subO ns root).length (ndsV (subO ns root)) ∧ Below w.heap.size w w' := by
  have c1 := isPlace_any ns root ao cap w A hr hf K
  unfold subO
  cases hp : plB ns root
  · rw [hp] at c1
    rw [if_neg (by decide)]
    go_enter Tryz.func14, Tryz.ntmps14
    go_wp2_with (go_at_call 39; (with_reducible refine c1.mono ?_); rintro e u ⟨rfl, g⟩)
    go_ret
    exact ⟨_, rfl, World.ownsRow_nil _ _ _ _, g⟩
  rw [hp] at c1
  rw [if_pos rfl]
  unfold plB at hp
  rw [Bool.and_eq_true] at hp
  obtain ⟨h1, h2⟩ := of_decide_eq_true hp.1
  obtain ⟨_, _, _, KN⟩ := tree_bs hp.2
  obtain ⟨r, rfl⟩ : ∃ r : Nat, root = (r : Int) := ⟨root.toNat, by omega⟩
  have c2 := fun (u : World) (g : Below w.heap.size w u) => begin_any ns (bsOf ns) KN r (by omega) ao cap u (A.keep g) hr
  have hle := (KN r (by omega)).le
  rw [Int.toNat_natCast]
  generalize bg (bsOf ns) r = b at *
  have hr2 : r < ns.length := by omega
  obtain ⟨g0, o0, rfl, _⟩ := A r hr2
  obtain ⟨m, hm⟩ : ∃ m, r + 1 - b = m := ⟨_, rfl⟩
  have As := nds_sub A b m (by omega)
  have hsl : ((ns.drop b).take m).length = m := by simp; omega
  have c3 := fun (u : World) (g : Below w.heap.size w u) (c : Nat) => clone_any _ _ c u (As.keep g) (by rw [hsl]; omega)
  rw [hsl] at c3
  have hS : Hid (subL ns b r = ((ns.drop b).take m).map (shN b)) := by show _ = _; unfold subL; rw [hm]
  have hsf : ∀ k, (((ns.drop b).take m).getD k noNd).fit := fun k => by
    rw [List.getD_eq_getElem?_getD, List.getElem?_take]
    split
    · rw [List.getElem?_drop, ← List.getD_eq_getElem?_getD]; exact hf _
    · exact noNd_fit
  generalize (ns.drop b).take m = ss at *
  obtain ⟨n, hn⟩ : ∃ n, ns.length = n := ⟨_, rfl⟩
  rw [hn] at c1 c2 hr h2 hr2 hcap ⊢
  have hbi : (b : Int) ≤ (r : Int) + 1 := by omega
  have hri : (r : Int) + 1 ≤ (cap : Int) := by omega
  have hri2 : (r : Int) ≤ 2199023255488 := by omega
  have hmi : (r : Int) + 1 - (b : Int) = (m : Int) := by omega
  clear KN hp A As hf
  go_enter Tryz.func14, Tryz.ntmps14
  go_wp2_with (first
    | (go_at_call 39; (with_reducible refine c1.mono ?_); rintro e u ⟨rfl, g⟩)
    | (go_at_call 40; (with_reducible refine (c2 _ g).mono ?_); rintro e u2 ⟨rfl, g2⟩)
    | (go_at_call 41; (with_reducible refine (c3 _ (gtrans g g2) _).mono ?_); rintro e u3 ⟨v3, rfl, O3, g3⟩; obtain ⟨vo, vc, rfl, _, _, _⟩ := own_form O3))
  obtain ⟨gv, rfl⟩ : ∃ gv, vo = some ⟨gv, 0, none⟩ := by
    rcases (own_form O3) with ⟨ao', c', e, _, _, hh | ⟨gq, e2, _⟩⟩
    · omega
    · cases e; exact ⟨gq, e2⟩
  have G3 := gtrans (gtrans g g2) g3
  have hgv : u2.heap.size ≤ gv := by
    rcases (own_form O3) with ⟨ao', c', e, _, _, hh | ⟨gq, e2, _, e3⟩⟩
    · omega
    · cases e; cases e2; exact e3
  have zz := (gtrans g g2).size
  have hO : Hid (u3.ownsRow u2.heap.size 64 6 (.slice (some ⟨gv, 0, none⟩) m vc) m (ndsV ss)) := O3
  clear O3 c1 c2 c3
  go_loopw [7, 23] (fun _ x wr => ∃ k : Nat, k ≤ m ∧ x = .int .i64 k ∧ wr.ownsRow u2.heap.size 64 6 (.slice (some ⟨gv, 0, none⟩) m vc) m (ndsV (shL b ss k)) ∧ Below w.heap.size w wr) (fun _ x _ => m - (intOf x).toNat)
  case atStart => exact ⟨0, Nat.zero_le _, rfl, hO.out, G3⟩
  case round =>
    obtain ⟨k, hk, rfl, O, G⟩ := hrel
    by_cases hlt : k < m
    · have hlen := shL_len b ss k (by omega)
      obtain ⟨g', o', e', x0, x1, x2, x3, x4, x5⟩ := nds_of_own (ns := shL b ss k) (b := u2.heap.size) (c := vc) (by rw [hlen, hsl]; exact O) k (by omega)
      cases e'
      rw [shL_at b ss k (by omega)] at x4 x5
      rw [Nat.zero_add] at x4 x5
      have cA := shifted_any (ss.getD k noNd).l (hsf k).l b (by omega)
      have cB := shifted_any (ss.getD k noNd).r (hsf k).r b (by omega)
      have O1 := (O.stored (k * 6 + 4) (.int .i64 (shI b (ss.getD k noNd).l))).1
      have O2 := (O1.stored (k * 6 + 5) (.int .i64 (shI b (ss.getD k noNd).r))).1
      rw [nds_set2 (shL b ss k) k (by omega), shL_at b ss k (by omega)] at O2
      replace O2 := show World.ownsRow _ _ _ _ _ _ (ndsV ((shL b ss k).set k (shN b (ss.getD k noNd)))) from O2
      rw [shL_step b ss k (by omega)] at O2
      have f4 := own_free O (k * 6 + 4)
      have f5 := own_free O (k * 6 + 5)
      have lg : gv < wr.heap.size := lt_of_cell x4
      clear x0 x1 x2 x3 O O1 hlen
      generalize (ss.getD k noNd).l = yl at *
      generalize (ss.getD k noNd).r = yr at *
      generalize shI b yl = zl at *
      generalize shI b yr = zr at *
      have hki : (k : Int) < (m : Int) := by omega
      have GE := gset (gset G (p := ⟨gv, k * 6 + 4, none⟩) (by dsimp only; omega) (.int .i64 zl)) (p := ⟨gv, k * 6 + 5, none⟩) (by dsimp only; omega) (.int .i64 zr)
      go_wp2_with (first | (go_at_call 42; (with_reducible refine (cA _).mono ?_); rintro e u ⟨rfl, rfl⟩) | (go_at_call 42; (with_reducible refine (cB _).mono ?_); rintro e u ⟨rfl, rfl⟩))
      go_roundw
      case rel => exact ⟨k + 1, by omega, by go_num, O2, GE⟩
      case measure => simp [intOf]; omega
    · obtain rfl : k = m := by omega
      have hS2 := hS.out
      rw [show shL b ss k = ss.map (shN b) by unfold shL; rw [List.take_of_length_le (by omega), List.drop_of_length_le (by omega), List.append_nil], ← hS2] at O
      have hl9 : (subL ns b r).length = k := by rw [hS2, List.length_map, hsl]
      go_wp2
      go_ret
      exact ⟨_, rfl, by rw [hl9]; exact World.ownsRow.mono O zz, G⟩

end Go.Proofs.YtglagbedgjkdbaaGreatDoor
namespace Go.Proofs.YtglagbedgjkdbaaGreatDoor
open Go.RowKit Go.BigFrame Go.Proofs.YtglagbedgjkdbaaGreatDoor.Ev
set_option linter.unusedVariables false
set_option linter.unusedSimpArgs false

/-- Known to be topmost when all places from at on have been gone through. -/
def tpAt (ns : List Nd) (at' j : Nat) : Bool := decide (j + 1 = ns.length) || (List.range ns.length).any fun p => decide (at' ≤ p) && decide (Kid ns p j) && topB ns p && decide ((ns.getD p noNd).op = 25)
section
variable {ns : List Nd} {bs : List Int} (K : ∀ i, i < ns.length → Kin ns bs i) (h0 : 0 < ns.length) (hb : bg bs (ns.length - 1) = 0)
include K h0 hb
theorem par_root (i : Nat) (hi : i < ns.length) : parF ns ns.length i < 0 ↔ i + 1 = ns.length := by
  constructor
  · intro h
    apply Classical.byContradiction
    intro hne
    obtain ⟨p, q1, q2, _⟩ := kin_up K (ns.length - 1) (by omega) i (by omega) (by omega)
    exact parF_none h p q1 q2
  · intro h
    apply Classical.byContradiction
    intro hne
    obtain ⟨p, e, q1, q2⟩ := parF_kid (show 0 ≤ parF ns ns.length i by omega)
    have := kin_kid K q1 q2
    omega
theorem tp_full (j : Nat) (hj : j < ns.length) : tpAt ns (j + 1) j = topB ns j := by
  rw [topB_step K j hj]
  unfold tpAt
  by_cases hr : j + 1 = ns.length
  · rw [decide_eq_true hr, decide_eq_true ((par_root K h0 hb j hj).2 hr), Bool.true_or, Bool.true_or]
  · have hp : 0 ≤ parF ns ns.length j := by have := mt (par_root K h0 hb j hj).1 hr; omega
    obtain ⟨p, e, q1, q2⟩ := parF_kid hp
    have hk := kin_kid K q1 q2
    rw [decide_eq_false hr, decide_eq_false (show ¬ parF ns ns.length j < 0 by omega), Bool.false_or, Bool.false_or, e, Int.toNat_natCast, Bool.eq_iff_iff, List.any_eq_true]
    constructor
    · rintro ⟨q, hq, h⟩
      simp only [Bool.and_eq_true, decide_eq_true_eq] at h
      obtain rfl := kin_uniq K (List.mem_range.1 hq) q1 h.1.1.2 q2
      simp only [Bool.and_eq_true, decide_eq_true_eq]
      exact ⟨h.1.2, h.2⟩
    · intro h
      simp only [Bool.and_eq_true, decide_eq_true_eq] at h
      exact ⟨p, List.mem_range.2 q1, by simp only [Bool.and_eq_true, decide_eq_true_eq]; exact ⟨⟨⟨by omega, q2⟩, h.1⟩, h.2⟩⟩
end
theorem tp_start (ns : List Nd) (j : Nat) : tpAt ns ns.length j = decide (j + 1 = ns.length) := by
  unfold tpAt
  rw [List.any_eq_false.2, Bool.or_false]
  intro p hp
  have := List.mem_range.1 hp
  simp only [Bool.and_eq_true, decide_eq_true_eq]
  omega
theorem tp_step (ns : List Nd) (a j : Nat) (ha : a < ns.length) : tpAt ns a j = (tpAt ns (a + 1) j || (decide (Kid ns a j) && topB ns a && decide ((ns.getD a noNd).op = 25))) := by
  unfold tpAt
  rw [Bool.or_assoc]
  congr 1
  rw [Bool.eq_iff_iff, List.any_eq_true, Bool.or_eq_true, List.any_eq_true]
  constructor
  · rintro ⟨p, hp, h⟩
    simp only [Bool.and_eq_true, decide_eq_true_eq] at h
    by_cases e : p = a
    · subst e
      exact .inr (by simp only [Bool.and_eq_true, decide_eq_true_eq]; exact ⟨⟨h.1.1.2, h.1.2⟩, h.2⟩)
    · exact .inl ⟨p, hp, by simp only [Bool.and_eq_true, decide_eq_true_eq]; exact ⟨⟨⟨by omega, h.1.1.2⟩, h.1.2⟩, h.2⟩⟩
  · rintro (⟨p, hp, h⟩ | h)
    · simp only [Bool.and_eq_true, decide_eq_true_eq] at h
      exact ⟨p, hp, by simp only [Bool.and_eq_true, decide_eq_true_eq]; exact ⟨⟨⟨by omega, h.1.1.2⟩, h.1.2⟩, h.2⟩⟩
    · simp only [Bool.and_eq_true, decide_eq_true_eq] at h
      exact ⟨a, List.mem_range.2 ha, by simp only [Bool.and_eq_true, decide_eq_true_eq]; exact ⟨⟨⟨Nat.le_refl _, h.1.1⟩, h.1.2⟩, h.2⟩⟩
/-- The conjuncts' roots from the last one back to the place a. -/
def backL (ns : List Nd) : Nat → List Nat
  | 0 => []
  | d + 1 => backL ns d ++ (if topB ns (ns.length - 1 - d) && !decide ((ns.getD (ns.length - 1 - d) noNd).op = 25) then [ns.length - 1 - d] else [])
theorem filter_back (q : Nat → Bool) (n : Nat) : ∀ d, d ≤ n → (((List.range n).drop (n - d)).filter q).reverse = (List.range d).flatMap fun e => if q (n - 1 - e) then [n - 1 - e] else [] := by
  intro d
  induction d with
  | zero => intro _; rw [Nat.sub_zero, List.drop_of_length_le (by simp)]; rfl
  | succ d ih =>
    intro h
    have hd : (List.range n).drop (n - (d + 1)) = (n - 1 - d) :: (List.range n).drop (n - d) := by
      rw [List.drop_eq_getElem_cons (by simp; omega), List.getElem_range]
      congr 1
      · omega
      · congr 1; omega
    rw [hd, List.filter_cons, List.range_succ, List.flatMap_append, ← ih (by omega)]
    split
    · rename_i hq
      rw [List.reverse_cons]
      simp [hq]
    · rename_i hq
      simp [hq]
theorem backL_eq (ns : List Nd) : ∀ d, backL ns d = (List.range d).flatMap fun e => if topB ns (ns.length - 1 - e) && !decide ((ns.getD (ns.length - 1 - e) noNd).op = 25) then [ns.length - 1 - e] else []
  | 0 => rfl
  | d + 1 => by
    rw [List.range_succ, List.flatMap_append, ← backL_eq ns d]
    show backL ns d ++ _ = _
    simp
theorem back_full (ns : List Nd) : (backL ns ns.length).reverse = conjL ns := by
  rw [backL_eq, ← filter_back (fun i => topB ns i && !decide ((ns.getD i noNd).op = 25)) ns.length ns.length (Nat.le_refl _), List.reverse_reverse, Nat.sub_self, List.drop_zero]
  rfl
theorem back_len (ns : List Nd) : ∀ d, (backL ns d).length ≤ d
  | 0 => Nat.le_refl _
  | d + 1 => by
    unfold backL
    rw [List.length_append]
    have := back_len ns d
    split <;> simp <;> omega

end Go.Proofs.YtglagbedgjkdbaaGreatDoor
