/- A schema of the call's own; what the law's twin comes to. And what goes with it: 5 texts in one. -/
import Derived.Test.YtglagbedgjkdbaaGreatDoorJb27
import Derived.Deep.AppendLies
import Derived.Deep.RegionLaw
import Derived.OwnWalk
import Derived.ChangeKeysEq
namespace Go.Proofs.YtglagbedgjkdbaaGreatDoor
open Go.RowKit Go.BigFrame
set_option linter.unusedVariables false
set_option linter.unusedSimpArgs false

def strsV (ss : List ByteArray) : List Value := ss.map Value.string
theorem strsV_more (ss : List ByteArray) (k : Nat) (h : k < ss.length) : strsV (ss.take k) ++ [.string (ss.getD k .empty)] = strsV (ss.take (k + 1)) := by
  unfold strsV
  rw [List.take_add_one]
  simp only [List.map_append, List.getD, List.getElem?_eq_getElem h, Option.getD_some, Option.toList_some, List.map_cons, List.map_nil]
/-- The value v holds the types L in memory that lies at base or behind. -/
def OwnT (base : Nat) (w : World) (v : Value) (n : Nat) (L : List Ty) : Prop :=
  L.length = n ∧ ∃ cells : List Value, w.ownsRow base 68 2 v n cells ∧ ∀ j, j < n → cells[j * 2]? = some (.string (L.getD j noTy).1) ∧
    ∃ aj cj, cells[j * 2 + 1]? = some (.slice aj (L.getD j noTy).2.length cj) ∧ w.ownsRow base 9 1 (.slice aj (L.getD j noTy).2.length cj) (L.getD j noTy).2.length (strsV (L.getD j noTy).2)
theorem OwnT.keep {base : Nat} {w u : World} {v : Value} {n : Nat} {L : List Ty} (h : OwnT base w v n L) (G : Below w.heap.size w u) : OwnT base u v n L := by
  obtain ⟨h0, cells, h1, h2⟩ := h
  refine ⟨h0, cells, own_keep h1 G, fun j hj => ?_⟩
  obtain ⟨e1, aj, cj, e2, e3⟩ := h2 j hj
  exact ⟨e1, aj, cj, e2, own_keep e3 G⟩
theorem OwnT.mono {base base' : Nat} {w : World} {v : Value} {n : Nat} {L : List Ty} (h : OwnT base w v n L) (hb : base' ≤ base) : OwnT base' w v n L := by
  obtain ⟨h0, cells, h1, h2⟩ := h
  refine ⟨h0, cells, own_mono h1 hb, fun j hj => ?_⟩
  obtain ⟨e1, aj, cj, e2, e3⟩ := h2 j hj
  exact ⟨e1, aj, cj, e2, own_mono e3 hb⟩
theorem OwnT.other {base : Nat} {w : World} {v : Value} {n : Nat} {L : List Ty} (h : OwnT base w v n L) {p : Addr} (hp : p.block < base) (u : Value) : OwnT base (w.setCell p u) v n L := by
  obtain ⟨h0, cells, h1, h2⟩ := h
  refine ⟨h0, cells, own_of_block h1 (fun g _ hg _ => Below.heap_setCell w p u g (by omega)), fun j hj => ?_⟩
  obtain ⟨e1, aj, cj, e2, e3⟩ := h2 j hj
  exact ⟨e1, aj, cj, e2, own_of_block e3 (fun g _ hg _ => Below.heap_setCell w p u g (by omega))⟩
theorem own_cell {w : World} {base : Nat} {e : TypeId} {size : Nat} {g n cap : Nat} {xs : List Value} (h : w.ownsRow base e size (.slice (some ⟨g, 0, none⟩) n cap) n xs) (j : Nat) (x : Value) (hj : xs[j]? = some x) : w.cell? ⟨g, j, none⟩ = some x := by
  obtain ⟨h1, h2⟩ := h
  rcases h2 with ⟨e1, _⟩ | ⟨g', cap', cur, e1, hb, hh, hc, hm, hs, ht⟩
  · simp at e1
  · simp only [Value.slice.injEq, Option.some.injEq, Addr.mk.injEq, and_true, true_and] at e1
    obtain ⟨rfl, rfl⟩ := e1
    rw [cell_of_row w g j cur e (0, 0) hh]
    have hjl := (List.getElem?_eq_some_iff.1 hj).1
    have e1 : cur.toList[j]? = xs[j]? := by rw [← ht, List.getElem?_take, if_pos (by omega)]
    have e2 : cur[j]? = cur.toList[j]? := by simp
    rw [e2, e1, hj]
theorem own_shape {w : World} {base : Nat} {e : TypeId} {size : Nat} {v : Value} {n : Nat} {xs : List Value} (h : w.ownsRow base e size v n xs) : ∃ ao cap, v = .slice ao n cap ∧ n ≤ 9223372036854775807 ∧ (n = 0 ∨ ∃ g, ao = some ⟨g, 0, none⟩ ∧ g < w.heap.size ∧ base ≤ g) := by
  obtain ⟨h1, h2⟩ := h
  rcases h2 with ⟨rfl, rfl⟩ | ⟨g, cap, cur, rfl, hb, hh, hc, hm, hs, ht⟩
  · exact ⟨_, _, rfl, by omega, .inl rfl⟩
  · exact ⟨_, _, rfl, by unfold maxLen at hm; omega, .inr ⟨g, rfl, lt_of_block hh, hb⟩⟩
theorem own_cap {w : World} {base : Nat} {e : TypeId} {size : Nat} {ao : Option Addr} {n cap : Nat} {xs : List Value} (h : w.ownsRow base e size (.slice ao n cap) n xs) : n ≤ cap := by
  rcases h.2 with ⟨e1, rfl⟩ | ⟨g, cap', cur, e1, _, _, hc, _⟩
  · exact Nat.zero_le _
  · simp only [Value.slice.injEq, true_and] at e1
    obtain ⟨_, rfl⟩ := e1
    exact hc
theorem OwnT.types {base : Nat} {w : World} {v : Value} {n : Nat} {L : List Ty} (h : OwnT base w v n L) : ∃ ao cap, v = .slice ao n cap ∧ IsTypes w ao n L := by
  obtain ⟨h0, cells, h1, h2⟩ := h
  obtain ⟨ao, cap, rfl, hn, hg⟩ := own_shape h1
  refine ⟨ao, cap, rfl, h0, hn, ?_⟩
  rcases hg with hg | ⟨g, rfl, hlt, hb⟩
  · exact .inl hg
  refine .inr ⟨g, 0, rfl, hlt, fun j hj => ?_⟩
  obtain ⟨e1, aj, cj, e2, e3⟩ := h2 j hj
  refine ⟨by rw [Nat.zero_add]; exact own_cell h1 _ _ e1, aj, cj, by rw [Nat.zero_add]; exact own_cell h1 _ _ e2, own_cap e3, ?_⟩
  obtain ⟨ao2, cap2, e4, hn2, hg2⟩ := own_shape e3
  simp only [Value.slice.injEq, true_and] at e4
  obtain ⟨rfl, rfl⟩ := e4
  refine ⟨rfl, hn2, ?_⟩
  rcases hg2 with hg2 | ⟨g2, rfl, hlt2, _⟩
  · exact .inl hg2
  refine .inr ⟨g2, 0, rfl, hlt2, fun i hi => ?_⟩
  rw [Nat.zero_add]
  have hi' : (L.getD j noTy).2[i]? = some ((L.getD j noTy).2.getD i .empty) := by
    rw [List.getD_eq_getElem?_getD (l := (L.getD j noTy).2), List.getElem?_eq_getElem hi]; rfl
  exact own_cell e3 _ _ (by unfold strsV; rw [List.getElem?_map, hi']; rfl)

theorem new2 (w : World) (x y : Value) (t : TypeId) (j : Nat) (u : Value) (h : [x, y][j]? = some u) : (w.alloc (.cells #[x, y] t)).cell? ((⟨w.heap.size, 0, none⟩ : Addr).add j) = some u := by
  rw [Go.WideShapes.add_plain, Nat.zero_add, World.cell?_alloc_new]
  simpa using h
theorem getD_take {α : Type} (l : List α) (k j : Nat) (d : α) (h : j < k) : (l.take k).getD j d = l.getD j d := by
  simp [List.getD, List.getElem?_take, h]
/-- A row of strings is not the row of types. -/
theorem row_apart {w : World} {base : Nat} {v : Value} {n : Nat} {xs : List Value} (h : w.ownsRow base 68 2 v n xs) {g : Nat} {cur : Array Value} (hg : w.heap[g]? = some (.cells cur 9 (0, 0))) : some g ≠ v.ownBlock := by
  rcases h.2 with ⟨rfl, _⟩ | ⟨g', cap', cur', rfl, hb, hh, r⟩
  · simp [Value.ownBlock]
  · simp only [Value.ownBlock, ne_eq, Option.some.injEq]
    intro e
    subst e
    rw [hg] at hh
    simp at hh
theorem infoS : (Tryz.prog.info? 9).map (fun i => (i.zero, i.size, i.bytes)) = some (some (.string ⟨#[]⟩), 1, 16) := by kernel_rfl
theorem info_partsS : ∃ i, Tryz.prog.info? 9 = some i ∧ i.zero = some (.string ⟨#[]⟩) ∧ i.size = 1 ∧ i.bytes = 16 := by
  have h := infoS
  cases hq : Tryz.prog.info? 9 with
  | none => simp [hq] at h
  | some i => simp [hq] at h; exact ⟨i, rfl, h.1, h.2.1, h.2.2⟩
theorem infoT : (Tryz.prog.info? 68).map (fun i => (i.zero, i.size, i.bytes)) = some (some (.agg #[.string ⟨#[]⟩, .slice none 0 0]), 2, 40) := by kernel_rfl
theorem info_partsT : ∃ i, Tryz.prog.info? 68 = some i ∧ i.zero = some (.agg #[.string ⟨#[]⟩, .slice none 0 0]) ∧ i.size = 2 ∧ i.bytes = 40 := by
  have h := infoT
  cases hq : Tryz.prog.info? 68 with
  | none => simp [hq] at h
  | some i => simp [hq] at h; exact ⟨i, rfl, h.1, h.2.1, h.2.2⟩

end Go.Proofs.YtglagbedgjkdbaaGreatDoor
namespace Go.Proofs.YtglagbedgjkdbaaGreatDoor
open Go.RowKit Go.BigFrame
set_option linter.unusedVariables false
set_option linter.unusedSimpArgs false

theorem cells2 : Tryz.prog.cellsOf 2 = 1 := by kernel_rfl
theorem plain2 : Tryz.prog.plainKey 2 = true := by kernel_rfl
theorem arr_eq (a0 a1 a2 a3 a4 a5 a6 a7 : Int) (u : World) : (Op.equalIn 9999 73 (.agg #[.int .i64 a0, .int .i64 a1, .int .i64 a2, .int .i64 a3, .int .i64 a4, .int .i64 a5, .int .i64 a6, .int .i64 a7]) (.agg #[.int .i64 a0, .int .i64 a1, .int .i64 a2, .int .i64 a3, .int .i64 a4, .int .i64 a5, .int .i64 a6, .int .i64 a7])).run Tryz.prog u = .ok true u := by
  obtain ⟨i0, hi⟩ : ∃ i, Tryz.prog.info? 2 = some i := by
    cases h : Tryz.prog.info? 2 with
    | none => exact absurd h (by have : (Tryz.prog.info? 2).isSome = true := by kernel_rfl
                                 intro h2; rw [h2] at this; cases this)
    | some i => exact ⟨i, rfl⟩
  have one : ∀ (j : Nat) (x : Int), (#[.int .i64 a0, .int .i64 a1, .int .i64 a2, .int .i64 a3, .int .i64 a4, .int .i64 a5, .int .i64 a6, .int .i64 a7] : Array Value)[j]? = some (.int .i64 x) → (part 2 #[.int .i64 a0, .int .i64 a1, .int .i64 a2, .int .i64 a3, .int .i64 a4, .int .i64 a5, .int .i64 a6, .int .i64 a7] j).run Tryz.prog u = .ok (.int .i64 x) u := fun j x h => run_part_plain u plain2 h
  have e0 := one 0 a0 rfl
  have e1 := one 1 a1 rfl
  have e2 := one 2 a2 rfl
  have e3 := one 3 a3 rfl
  have e4 := one 4 a4 rfl
  have e5 := one 5 a5 rfl
  have e6 := one 6 a6 rfl
  have e7 := one 7 a7 rfl
  have eq : ∀ x : Int, (Op.equalIn 9998 2 (.int .i64 x) (.int .i64 x)).run Tryz.prog u = .ok true u := fun x => by
    rw [run_equalIn_int u 9997 2 .i64 .i64 x x Tryz.underlying2]
    simp
  rw [show (9999 : Nat) = 9998 + 1 from rfl, run_equalIn_array u 9998 _ _ Tryz.underlying73 hi, cells2]
  rw [show List.range 8 = [0, 1, 2, 3, 4, 5, 6, 7] from rfl]
  simp only [Op.eqItems, Sem.run_bind, Nat.zero_mul, Nat.mul_one, e0, e1, e2, e3, e4, e5, e6, e7, Result.andThen_ok, eq, Bool.not_true, Bool.false_eq_true, if_false, Sem.run_pure]
theorem ev_eq (e : Ev) (w : World) : (Op.equalIn 10000 76 (.agg (evC e)) (.agg (evC e))).run Tryz.prog w = .ok true w := by
  obtain ⟨ts, id, typ, a0, a1, a2, a3, a4, a5, a6, a7⟩ := e
  have u1 := Tryz.underlying74
  have u2 := Tryz.underlying2
  have u4 := Tryz.underlying3
  have u5 := Tryz.underlying73
  have ae := arr_eq a0 a1 a2 a3 a4 a5 a6 a7
  have hS : Tryz.prog.underlying 76 = some (.struct (Tryz.prog.fieldsOf 76)) := by kernel_rfl
  have hp : Tryz.prog.stoodInHeld 76 = false := by kernel_rfl
  rw [show (10000 : Nat) = 9999 + 1 from rfl, run_equalIn_agg w 9999 76 _ _ hS hp]
  simp only [Program.fieldsOf, Tryz.underlying76, evC]
  go_simp
theorem in_eq (i : Ins) (w : World) : (Op.equalIn 10000 100 (.agg (insC i)) (.agg (insC i))).run Tryz.prog w = .ok true w := by
  obtain ⟨c, it, co, n, tz⟩ := i
  have u1 := Tryz.underlying98
  have u2 := Tryz.underlying2
  have u4 := Tryz.underlying3
  have hS : Tryz.prog.underlying 100 = some (.struct (Tryz.prog.fieldsOf 100)) := by kernel_rfl
  have hp : Tryz.prog.stoodInHeld 100 = false := by kernel_rfl
  rw [show (10000 : Nat) = 9999 + 1 from rfl, run_equalIn_agg w 9999 100 _ _ hS hp]
  simp only [Program.fieldsOf, Tryz.underlying100, insC]
  go_simp
/-- In a region that only reads: a struct is held against one of the same cells. -/
theorem quiet_neq_same {ops : Array Oper} {C : World → Prop} {Q : Act → Prop} {o : Oper} {rest : List Oper} {a : Act} (hw : Region.wanted o (yielded ops a.tmps) = true) (x y : Operand) (T : TypeId) (ho : o.op = .binOp .neq T x y T) (hg : Tryz.prog.eqGuardType Tryz.prog.depth T = false)
    (cs : Array Value) (heq : ∀ w, (Op.equalIn 10000 T (.agg cs) (.agg cs)).run Tryz.prog w = .ok true w) (hx : a.eval x = .agg cs) (hy : a.eval y = .agg cs) (a' : Act) (ha : a.put o.dst (.bool false) = a') (h : wpQuiet Tryz.prog ops C Q rest a') : wpQuiet Tryz.prog ops C Q (o :: rest) a := by
  subst ha
  refine wpQuiet_want hw fun K hK => ⟨.bool false, fun w hC => ?_, hK _ h⟩
  unfold Oper.quietAt execOp
  simp only [ho, hx, hy, Sem.run_bind, Sem.run_pure, run_eqGuard_agg (P := Tryz.prog) w .neq T x y cs cs hg, run_neq_struct, heq, Result.andThen_ok]
  exact ⟨rfl, rfl⟩

def BeyR (l : List (List Ev)) (e : Ending) : Prop := ∃ b, e = .returned (.bool b) ∧ (b = false → ∀ k, (l.getD k []).length ≤ 2147483647)
set_option maxHeartbeats 2000000 in
theorem beyond7_any (l : List (List Ev)) (ao : Option Addr) (cap : Nat) (w : World) (A : Nst w ao evC l) (hl : l.length ≤ 140737488351232) (hn : ∀ k, (l.getD k []).length ≤ 140737488351232) :
    Calls Tryz.prog 7 #[.slice ao l.length cap] w fun e w' => BeyR l e ∧ w = w' := by
  go_enter Tryz.func7, Tryz.ntmps7
  go_wp2
  go_loopw [3, 4] (fun s i wr => ∃ (k m : Nat), k ≤ l.length ∧ s = .int .i64 m ∧ i = .int .i64 k ∧ m ≤ 2147483647 ∧ (∀ j, j < k → (l.getD j []).length ≤ 2147483647) ∧ wr = w) (fun _ i _ => l.length - (intOf i).toNat)
  case atStart => exact ⟨0, 0, Nat.zero_le _, rfl, rfl, by omega, fun j hj => absurd hj (Nat.not_lt_zero _), rfl⟩
  case round =>
    obtain ⟨k, m, hk, rfl, rfl, hm, hall, rfl⟩ := hrel
    by_cases hlt : k < l.length
    · obtain ⟨g, o, a, c, rfl, a0, _, _⟩ := A k hlt
      have hki : (k : Int) < (l.length : Int) := by omega
      have hnk := hn k
      have HAL := show Hid _ from hall
      obtain ⟨x, hx⟩ : ∃ x, (l.getD k []).length = x := ⟨_, rfl⟩
      rw [hx] at a0 hnk
      have HX := show Hid (_ = _) from hx
      clear hx hall A hn
      by_cases hg : (2147483647 : Int) - (m : Int) < (x : Int)
      · go_wp2
        go_ret
        exact ⟨⟨true, rfl, fun h => by cases h⟩, rfl⟩
      · have h3 : m + x ≤ 2147483647 := by omega
        go_wp2
        go_roundw
        case rel =>
          exact ⟨k + 1, m + x, by omega, by go_num, by go_num, h3, fun j hj => by
            by_cases e : j < k
            · exact HAL.out j e
            · obtain rfl : j = k := by omega
              rw [HX.out]; omega, by first | trivial | rfl⟩
        case measure => simp [intOf]; omega
    · obtain rfl : k = l.length := by omega
      have hnk : ¬ ((l.length : Int) < (l.length : Int)) := by omega
      have HAL := show Hid _ from hall
      clear hall
      go_wp2
      go_ret
      refine ⟨⟨false, rfl, fun _ j => ?_⟩, rfl⟩
      by_cases e : j < l.length
      · exact HAL.out j e
      · rw [List.getD_eq_getElem?_getD, List.getElem?_eq_none (by omega)]; simp

set_option maxRecDepth 100000 in
set_option maxHeartbeats 4000000 in
theorem sameLists_true (l : List (List Ev)) (ao bo : Option Addr) (ca cb : Nat) (w : World) (A : Nst w ao evC l) (B : Nst w bo evC l) (hl : l.length ≤ 140737488351232) (hn : ∀ k, (l.getD k []).length * 88 ≤ 140737488351232) :
    Calls Tryz.prog 25 #[.slice ao l.length ca, .slice bo l.length cb] w fun e w' => e = .returned (.bool true) ∧ Below w.heap.size w w' := by
  have hself : ((l.length : Int) != (l.length : Int)) = false := by simp
  go_enter Tryz.func25, Tryz.ntmps25
  go_wp2
  go_loopw [5, 6] (fun x _ wr => ∃ k : Nat, k ≤ l.length ∧ x = .int .i64 k ∧ Below w.heap.size w wr) (fun x _ _ => l.length - (intOf x).toNat)
  case atStart => exact ⟨0, Nat.zero_le _, rfl, Below.refl _ _⟩
  case round =>
    obtain ⟨k, hk, rfl, G⟩ := hrel
    by_cases hlt : k < l.length
    · obtain ⟨g1, o1, a1, k1, rfl, x0, f1, _⟩ := (A.keep G) k hlt
      obtain ⟨g2, o2, a2, k2, rfl, y0, f2, _⟩ := (B.keep G) k hlt
      have hki : (k : Int) < (l.length : Int) := by omega
      have hnk := hn k
      generalize l.getD k [] = es at *
      have hes : ((es.length : Int) != (es.length : Int)) = false := by simp
      have hne : Nonempty (Ext wr) := ⟨⟨_, Below.refl _ _⟩⟩
      have p0 := fun z : Ext wr => (z.cell _ _ (lt_of_cell x0)).trans x0
      have p1 := fun z : Ext wr => (z.cell _ _ (lt_of_cell y0)).trans y0
      go_wp2
      refine wp_region_ext (by kernel_rfl) (by kernel_rfl) ?_
      repeat (go_big_quiet_step (fail))
      refine wpQuiet_nil ?_
      intro _ hw'
      obtain ⟨nx, hw''⟩ := hw'
      subst hw''
      have G1 := gtrans G nx.h
      have f1' := f1.keep nx.h
      have f2' := f2.keep nx.h
      have x1 := (nx.cell _ _ (lt_of_cell x0)).trans x0
      have y1 := (nx.cell _ _ (lt_of_cell y0)).trans y0
      generalize nx.X = X at *
      clear p0 p1 f1 f2 x0 y0 hne nx
      go_wp2
      go_loopw [6] (fun y w2 => ∃ j : Nat, j ≤ es.length ∧ y = .int .i64 j ∧ Below X.heap.size X w2) (fun y _ => es.length - (intOf y).toNat)
      case atStart => exact ⟨0, Nat.zero_le _, rfl, Below.refl _ _⟩
      case round =>
        obtain ⟨j, hj, rfl, GX⟩ := hrel
        have x2 := (GX.cell (p := ⟨g1, o1 + k, none⟩) (lt_of_cell x1)).trans x1
        have y2 := (GX.cell (p := ⟨g2, o2 + k, none⟩) (lt_of_cell y1)).trans y1
        by_cases hjt : j < es.length
        · have hji : (j : Int) < (es.length : Int) := by omega
          obtain ⟨g3, o3, rfl, _, c3⟩ := (f1'.keep GX).form (by rw [fl_len evC_sz]; omega)
          obtain ⟨g4, o4, rfl, _, c4⟩ := (f2'.keep GX).form (by rw [fl_len evC_sz]; omega)
          obtain ⟨m0, m1, m2, m3, m4, m5, m6, m7, m8, m9, m10⟩ := ev_at c3 j hjt
          obtain ⟨n0, n1, n2, n3, n4, n5, n6, n7, n8, n9, n10⟩ := ev_at c4 j hjt
          have eqe := ev_eq (es.getD j zeroE)
          generalize es.getD j zeroE = e at *
          unfold evC at eqe
          obtain ⟨Z, hZ⟩ : ∃ Z, Z = wr := ⟨_, rfl⟩
          subst hZ
          have hne : Nonempty (Ext Z) := ⟨⟨_, Below.refl _ _⟩⟩
          have p0 := fun z : Ext Z => (z.cell _ _ (lt_of_cell x2)).trans x2
          have p1 := fun z : Ext Z => (z.cell _ _ (lt_of_cell y2)).trans y2
          have q0 := fun z : Ext Z => (z.cell _ _ (lt_of_cell m0)).trans m0
          have r0 := fun z : Ext Z => (z.cell _ _ (lt_of_cell n0)).trans n0
          have q1 := fun z : Ext Z => (z.cell _ _ (lt_of_cell m1)).trans m1
          have r1 := fun z : Ext Z => (z.cell _ _ (lt_of_cell n1)).trans n1
          have q2 := fun z : Ext Z => (z.cell _ _ (lt_of_cell m2)).trans m2
          have r2 := fun z : Ext Z => (z.cell _ _ (lt_of_cell n2)).trans n2
          have q3 := fun z : Ext Z => (z.cell _ _ (lt_of_cell m3)).trans m3
          have r3 := fun z : Ext Z => (z.cell _ _ (lt_of_cell n3)).trans n3
          have q4 := fun z : Ext Z => (z.cell _ _ (lt_of_cell m4)).trans m4
          have r4 := fun z : Ext Z => (z.cell _ _ (lt_of_cell n4)).trans n4
          have q5 := fun z : Ext Z => (z.cell _ _ (lt_of_cell m5)).trans m5
          have r5 := fun z : Ext Z => (z.cell _ _ (lt_of_cell n5)).trans n5
          have q6 := fun z : Ext Z => (z.cell _ _ (lt_of_cell m6)).trans m6
          have r6 := fun z : Ext Z => (z.cell _ _ (lt_of_cell n6)).trans n6
          have q7 := fun z : Ext Z => (z.cell _ _ (lt_of_cell m7)).trans m7
          have r7 := fun z : Ext Z => (z.cell _ _ (lt_of_cell n7)).trans n7
          have q8 := fun z : Ext Z => (z.cell _ _ (lt_of_cell m8)).trans m8
          have r8 := fun z : Ext Z => (z.cell _ _ (lt_of_cell n8)).trans n8
          have q9 := fun z : Ext Z => (z.cell _ _ (lt_of_cell m9)).trans m9
          have r9 := fun z : Ext Z => (z.cell _ _ (lt_of_cell n9)).trans n9
          have q10 := fun z : Ext Z => (z.cell _ _ (lt_of_cell m10)).trans m10
          have r10 := fun z : Ext Z => (z.cell _ _ (lt_of_cell n10)).trans n10
          clear c3 c4
          go_wp2
          refine wp_region_ext (by kernel_rfl) (by kernel_rfl) ?_
          repeat (first
            | (refine quiet_neq_same rfl _ _ _ rfl (by kernel_rfl) _ eqe rfl rfl _ rfl ?_; simp only [Act.put, List.setIfInBounds_toArray, List.set_cons_succ, List.set_cons_zero])
            | go_big_quiet_step (fail))
          refine wpQuiet_nil ?_
          intro _ hw'
          obtain ⟨nx2, hw''⟩ := hw'
          subst hw''
          have G2 := gtrans GX nx2.h
          generalize nx2.X = X2 at *
          clear p0 p1 q0 q1 q2 q3 q4 q5 q6 q7 q8 q9 q10 r0 r1 r2 r3 r4 r5 r6 r7 r8 r9 r10
          go_wp2
          go_roundw
          case rel => exact ⟨j + 1, by omega, by go_num, G2⟩
          case measure => simp [intOf]; omega
        · obtain rfl : j = es.length := by omega
          have hnj : ¬ ((es.length : Int) < (es.length : Int)) := by omega
          have G3 := gtrans G1 GX
          go_wp2
          go_roundw
          case rel => exact ⟨k + 1, by omega, by go_num, G3⟩
          case measure => simp [intOf]; omega
    · obtain rfl : k = l.length := by omega
      have hnk : ¬ ((l.length : Int) < (l.length : Int)) := by omega
      go_wp2
      go_ret
      exact ⟨rfl, G⟩

end Go.Proofs.YtglagbedgjkdbaaGreatDoor
namespace Go.Proofs.YtglagbedgjkdbaaGreatDoor
open Go.RowKit Go.BigFrame Go.Proofs.YtglagbedgjkdbaaGreatDoor.Ev
set_option linter.unusedVariables false
set_option linter.unusedSimpArgs false

set_option maxRecDepth 100000 in
set_option maxHeartbeats 4000000 in
theorem twinN7_any (ns : List Nd) (ao : Option Addr) (cap : Nat) (w : World) (hno : ao = none → ns.length = 0 ∧ cap = 0) (A : IsNds w ao ns) (hr : ns.length * 64 ≤ 140737488351232) :
    Calls Tryz.prog 19 #[.slice ao ns.length cap] w fun e w' => ∃ v, e = .returned v ∧ w'.ownsRow w.heap.size 64 6 v ns.length (ndsV ns) ∧ Below w.heap.size w w' := by
  have B0 := galloc (Below.refl w.heap.size w) (.cells #[] 64)
  have A0 := A.keep B0
  go_enter Tryz.func19, Tryz.ntmps19
  go_wp2_with (at_builtin; refine wpList_append_nds rfl _ _ rfl _ w.heap.size 0 [] rfl (World.ownsRow_made w #[] 0 (Nat.le_refl _) (Nat.zero_le _) rfl) B0.size ao cap ns rfl hno A0 (by omega) ?_; intro v' w1 O1 g1)
  rw [Nat.zero_add, List.nil_append] at O1
  go_wp2
  go_ret
  exact ⟨_, rfl, O1, B0.grown g1 B0.size (fun k e => by cases e; exact Nat.le_refl _)⟩
/-- The mark behind a tree. -/
def mkd (i : Nat) : Nd := ⟨0, 61, eS, eS, (i : Int), 0⟩
def rmL (ns : List Nd) (k : Nat) : List Nd := ns ++ (List.range k).map mkd
theorem rmL_len (ns : List Nd) (k : Nat) : (rmL ns k).length = ns.length + k := by unfold rmL; rw [List.length_append, List.length_map, List.length_range]
theorem rmL_succ (ns : List Nd) (k : Nat) : rmL ns (k + 1) = rmL ns k ++ [mkd k] := by unfold rmL; rw [List.range_succ, List.map_append, ← List.append_assoc]; rfl
theorem rmL_low (ns : List Nd) (k j : Nat) (h : j < ns.length) : (rmL ns k).getD j noNd = ns.getD j noNd := by
  unfold rmL
  rw [List.getD_eq_getElem?_getD, List.getElem?_append_left h, ← List.getD_eq_getElem?_getD]
theorem rmL_high (ns : List Nd) (k j : Nat) (h : j < k) : (rmL ns k).getD (ns.length + j) noNd = mkd j := by
  unfold rmL
  rw [List.getD_eq_getElem?_getD, List.getElem?_append_right (by omega), Nat.add_sub_cancel_left, List.getElem?_map, List.getElem?_range h]
  rfl
/-- append of a whole row of nodes onto a row of one's own, with some room more. -/
theorem wpList_append_nds4 {w : World} {ops : Array Oper} {rest : List Oper} {o : Oper} {a : Act} {Q : Exit → Act → World → Prop} (hgd : o.guard = none) (s x : Operand)
    (ho : o.op = .call { callee := .builtin .append, args := #[s, x], argTypes := #[28, 28] }) (v : Value) (base n : Nat) (xs : List Value) (hs : a.eval s = v) (O : w.ownsRow base 64 6 v n xs) (hb : base ≤ w.heap.size)
    (ao : Option Addr) (cap : Nat) (ts : List Nd) (hx : a.eval x = .slice ao ts.length cap) (hnone : ao = none → ts.length = 0 ∧ cap = 0) (A : IsNds w ao ts) (hl : (n + ts.length) * 64 ≤ 140737488355328)
    (h : ∀ v' w', w'.ownsRow base 64 6 v' (n + ts.length) (xs ++ ndsV ts) → w.grownBy w' v.ownBlock → wpList Tryz.prog ops Q rest (a.put o.dst v') w') : wpList Tryz.prog ops Q (o :: rest) a w := by
  obtain ⟨i3, ti, tz0, tz1, tz2⟩ := of_info nd_info
  have hlen := nds_len ts
  cases ao with
  | none =>
    obtain ⟨h0, rfl⟩ := hnone rfl
    refine wpList_plain hgd fun K hK' => ?_
    have hrun := run_append_owned_none (P := Tryz.prog) w base 28 o.type 64 i3 6 Tryz.underlying28 ti v n xs O
    have hts : ts = [] := List.length_eq_zero_iff.1 h0
    subst hts
    replace hx : a.eval x = .slice none 0 0 := hx
    unfold Oper.wp
    simp [execOp, ho, resolve, invoke, builtin, hs, hx, hrun, Result.andThen]
    refine hK' _ _ (h _ _ ?_ (World.grownBy.refl _ _))
    rw [show ndsV [] = [] from rfl, List.append_nil]
    exact O
  | some ad =>
    exact wpList_append_own (w := w) hgd s x 28 ho base 64 i3 (.agg (ndA noNd)) 6 64 Tryz.underlying28 ti tz0 tz1 tz2 rfl (by decide) v n xs hs O ad ts.length cap (ndsV ts) hx hlen (nds_cells A) (nds_ones ts) (by unfold maxLen; omega) (by omega) hb (fun v' w' h1 h2 _ => h v' w' h1 h2)
set_option maxRecDepth 100000 in
set_option maxHeartbeats 4000000 in
theorem roomy_any (ns : List Nd) (ao : Option Addr) (cap : Nat) (w : World) (hno : ao = none → ns.length = 0 ∧ cap = 0) (A : IsNds w ao ns) (hr : ns.length * 64 ≤ 140737488351232) :
    Calls Tryz.prog 21 #[.slice ao ns.length cap] w fun e w' => ∃ v, e = .returned v ∧ w'.ownsRow w.heap.size 64 6 v (ns.length + 40) (ndsV (rmL ns 40)) ∧ Below w.heap.size w w' := by
  have c1 := twinN7_any ns ao cap w hno A (by omega)
  obtain ⟨n, hn⟩ : ∃ n, ns.length = n := ⟨_, rfl⟩
  rw [hn] at c1 hr ⊢
  have HR : Hid (∀ (k : Nat), k < 40 → ∀ x : Nd, (n + k + ([x] : List Nd).length) * 64 ≤ 140737488355328) := fun k hk x => by show (n + k + 1) * 64 ≤ _; omega
  go_enter Tryz.func21, Tryz.ntmps21
  go_upto_region 3 with (go_at_call 19; (with_reducible refine c1.mono ?_); rintro e u ⟨v, rfl, O1, g1⟩)
  clear c1
  go_loopw [3, 4] (fun v x wr => ∃ k : Nat, k ≤ 40 ∧ x = .int .i64 (k : Int) ∧ wr.ownsRow w.heap.size 64 6 v (n + k) (ndsV (rmL ns k)) ∧ Below w.heap.size w wr) (fun _ x _ => 40 - (intOf x).toNat)
  case atStart => exact ⟨0, by omega, rfl, by unfold rmL; simpa using O1, g1⟩
  case round =>
    obtain ⟨k, hk, rfl, O, G⟩ := hrel
    by_cases hlt : k < 40
    · have hki : (k : Int) < 40 := by omega
      have hb := bldNd ⟨0, 61, eS, eS, (k : Int), 0⟩
      have AN := nds_new ⟨0, 61, eS, eS, (k : Int), 0⟩ wr
      have G2 := galloc G (.cells (ndA ⟨0, 61, eS, eS, (k : Int), 0⟩) 64)
      have O2 := own_keep O (galloc (Below.refl wr.heap.size wr) (.cells (ndA ⟨0, 61, eS, eS, (k : Int), 0⟩) 64))
      have hz2 := G2.size
      unfold ndA at hb AN G2 O2 hz2
      dsimp only at hb AN G2 O2 hz2
      go_wp2_with (at_builtin; refine wpList_append_nds4 rfl _ _ rfl _ w.heap.size (n + k) _ rfl O2 hz2 (some ⟨wr.heap.size, 0, none⟩) 1 [⟨0, 61, eS, eS, (k : Int), 0⟩] rfl (fun h => by cases h) AN (HR.out k hlt _) ?_; intro v3 w3 O3 g3)
      have fin : w3.ownsRow w.heap.size 64 6 v3 (n + (k + 1)) (ndsV (rmL ns (k + 1))) := by
        rw [rmL_succ, ndsV_app]
        exact O3
      have G3 := G2.grown g3 hz2 (fun k e => (World.ownsRow.lt O k e).1)
      have HF := show Hid _ from fin
      clear fin O3 O2 O G2 AN hb
      go_wp2
      go_roundw
      case rel => exact ⟨k + 1, by omega, by go_num, HF.out, G3⟩
      case measure => simp [intOf]; omega
    · obtain rfl : k = 40 := by omega
      go_wp2
      go_ret
      exact ⟨_, rfl, O, G⟩
set_option maxRecDepth 100000 in
set_option maxHeartbeats 4000000 in
theorem spared_true (m : List Nd) (hm : ∀ j, j < 40 → m.getD j noNd = mkd j) (hl : m.length = 40) (ao : Option Addr) (cap : Nat) (w : World) (A : IsNds w ao m) :
    Calls Tryz.prog 24 #[.slice ao 40 cap] w fun e w' => e = .returned (.bool true) ∧ Below w.heap.size w w' := by
  go_enter Tryz.func24, Tryz.ntmps24
  go_wp2
  go_loopw [3] (fun x wr => ∃ k : Nat, k ≤ 40 ∧ x = .int .i64 (k : Int) ∧ Below w.heap.size w wr) (fun x _ => 40 - (intOf x).toNat)
  case atStart => exact ⟨0, by omega, rfl, Below.refl _ _⟩
  case round =>
    obtain ⟨k, hk, rfl, G⟩ := hrel
    by_cases hlt : k < 40
    · have hki : (k : Int) < 40 := by omega
      obtain ⟨g, o, rfl, x0, x1, x2, x3, x4, x5⟩ := (A.keep G) k (by omega)
      rw [hm k hlt] at x0 x1 x2 x3 x4 x5
      replace x0 : wr.cell? ⟨g, o + k * 6, none⟩ = some (.int .i64 0) := x0
      replace x1 : wr.cell? ⟨g, o + k * 6 + 1, none⟩ = some (.int .i64 61) := x1
      replace x2 : wr.cell? ⟨g, o + k * 6 + 2, none⟩ = some (.string ⟨#[]⟩) := x2
      replace x3 : wr.cell? ⟨g, o + k * 6 + 3, none⟩ = some (.string ⟨#[]⟩) := x3
      replace x4 : wr.cell? ⟨g, o + k * 6 + 4, none⟩ = some (.int .i64 (k : Int)) := x4
      replace x5 : wr.cell? ⟨g, o + k * 6 + 5, none⟩ = some (.int .i64 0) := x5
      clear A hm
      go_wp2
      go_roundw
      case rel => exact ⟨k + 1, by omega, by go_num, by first | exact G | exact G.drew⟩
      case measure => simp [intOf]; omega
    · obtain rfl : k = 40 := by omega
      go_wp2
      go_ret
      exact ⟨rfl, G⟩

end Go.Proofs.YtglagbedgjkdbaaGreatDoor
namespace Go.Proofs.YtglagbedgjkdbaaGreatDoor
open Go.RowKit Go.BigFrame Go.Proofs.YtglagbedgjkdbaaGreatDoor.Ev
set_option linter.unusedVariables false
set_option linter.unusedSimpArgs false

theorem nd_self (x : Nd) (w : World) : (Op.equalIn 10000 64 (.agg (ndA x)) (.agg (ndA x))).run Tryz.prog w = .ok true w := by
  rw [nd_eq, (ndE_iff x x).2 ⟨rfl, rfl, rfl, rfl, rfl, rfl⟩]
set_option maxRecDepth 100000 in
set_option maxHeartbeats 16000000 in
theorem sameTexts_true (L : List Ty) (sa sb : Option Addr) (sc sd : Nat) (q : Qy) (hq : q.fit) (cs cs' : Array Value) (ai : Option Addr) (ci : Nat) (aw : Option Addr) (cw : Nat) (ar : Option Addr) (cr : Nat) (ai' : Option Addr) (ci' : Nat) (aw' : Option Addr) (cw' : Nat) (ar' : Option Addr) (cr' : Nat) (ns : List Nd) (ao bo : Option Addr) (ca cb : Nat) (w : World)
    (A : IsTypes w sa L.length L) (B : IsTypes w sb L.length L) (Q1 : IsQ w q cs ai ci aw cw ar cr) (Q2 : IsQ w q cs' ai' ci' aw' cw' ar' cr') (N1 : IsNds w ao ns) (N2 : IsNds w bo ns) (hL : L.length * 8 ≤ 140737488351232) (hr : ns.length * 64 ≤ 140737488351232) :
    Calls Tryz.prog 23 #[.agg #[.slice sa L.length sc], .agg #[.slice sb L.length sd], .agg cs, .agg cs', .slice ao ns.length ca, .slice bo ns.length cb] w fun e w' => e = .returned (.bool true) ∧ Below w.heap.size w w' := by
  obtain ⟨he1, I1, _, _, _, _, _⟩ := Q1
  obtain ⟨he2, I2, _, _, _, _, _⟩ := Q2
  subst he1
  subst he2
  have hnn := hq.n
  obtain ⟨V, hV⟩ : ∃ V, (((w.alloc (.cells #[.slice sa L.length sc] 24)).alloc (.cells #[.slice sb L.length sd] 24)).alloc (.cells #[.slice ai q.items.length ci, .int .i64 q.mode, .int .i64 q.after, .slice aw q.wh.length cw, .int .i64 q.within, .string q.by_, .slice ar q.ret.length cr] 31)).alloc (.cells #[.slice ai' q.items.length ci', .int .i64 q.mode, .int .i64 q.after, .slice aw' q.wh.length cw', .int .i64 q.within, .string q.by_, .slice ar' q.ret.length cr'] 31) = V := ⟨_, rfl⟩
  obtain ⟨b0, b1, b2, b3, BV⟩ := alloc4 w _ _ _ _ _ _ _ _ hV
  have AV := A.keep BV
  have AW := B.keep BV
  have IV := I1.keep BV
  have IW := I2.keep BV
  have NV := N1.keep BV
  have NW := N2.keep BV
  clear A B I1 I2 N1 N2
  obtain ⟨m, hm⟩ : ∃ m, L.length = m := ⟨_, rfl⟩
  obtain ⟨n, hn⟩ : ∃ n, ns.length = n := ⟨_, rfl⟩
  obtain ⟨r, hrr⟩ : ∃ r, q.items.length = r := ⟨_, rfl⟩
  have HM := show Hid (_ = _) from hm
  have HN := show Hid (_ = _) from hn
  have HR := show Hid (_ = _) from hrr
  rw [hm] at b0 b1 AV AW hL ⊢
  rw [hrr] at b2 b3 hnn ⊢
  rw [hn] at hr ⊢
  rw [hm, hrr] at hV
  go_enter Tryz.func23, Tryz.ntmps23
  go_upto_region 1 with fail
  clear hV hm hn hrr
  obtain ⟨q0, _⟩ := b2.at7
  obtain ⟨r0, _⟩ := b3.at7
  have s0 := b0.one1
  have s1 := b1.one1
  go_upto_region 4 with fail
  go_loopw [13, 14] (fun x _ wr => ∃ k : Nat, k ≤ m ∧ x = .int .i64 (k : Int) ∧ Below V.heap.size V wr) (fun x _ _ => m - (intOf x).toNat)
  case atStart => exact ⟨0, Nat.zero_le _, rfl, Below.refl _ _⟩
  case round =>
    clear q0 r0 s0 s1
    obtain ⟨k, hk, rfl, G⟩ := hrel
    have s0 := (b0.keep G).one1
    have s1 := (b1.keep G).one1
    by_cases hlt : k < m
    · have hki : (k : Int) < (m : Int) := by omega
      obtain ⟨_, _, e1⟩ := AV.keep G
      obtain ⟨_, _, e2⟩ := AW.keep G
      rcases e1 with e1 | ⟨g1, o1, rfl, h1, c1⟩
      · omega
      rcases e2 with e2 | ⟨g2, o2, rfl, h2, c2⟩
      · omega
      obtain ⟨x0, aj, cj, x1, _, S1⟩ := c1 k hlt
      obtain ⟨y0, al, cl, y1, _, S2⟩ := c2 k hlt
      clear c1 c2
      obtain ⟨ss, hss⟩ : ∃ ss, (L.getD k noTy).2 = ss := ⟨_, rfl⟩
      obtain ⟨tn, htn⟩ : ∃ tn, (L.getD k noTy).1 = tn := ⟨_, rfl⟩
      rw [htn] at x0 y0
      rw [hss] at x1 y1 S1 S2
      obtain ⟨z, hz⟩ : ∃ z, ss.length = z := ⟨_, rfl⟩
      rw [hz] at x1 y1 S1 S2
      clear hss htn
      have hne0 : Nonempty (Ext wr) := ⟨⟨_, Below.refl _ _⟩⟩
      have p0 := fun e : Ext wr => (e.cell _ _ (lt_of_cell x0)).trans x0
      have p1 := fun e : Ext wr => (e.cell _ _ (lt_of_cell x1)).trans x1
      have p2 := fun e : Ext wr => (e.cell _ _ (lt_of_cell y0)).trans y0
      have p3 := fun e : Ext wr => (e.cell _ _ (lt_of_cell y1)).trans y1
      have p4 := fun e : Ext wr => (e.cell _ _ (lt_of_cell s0)).trans s0
      have p5 := fun e : Ext wr => (e.cell _ _ (lt_of_cell s1)).trans s1
      go_upto_region 6 with fail
      refine wp_region_ext (by kernel_rfl) (by kernel_rfl) ?_
      repeat (go_big_quiet_step (fail))
      refine wpQuiet_nil ?_
      intro _ hw'
      obtain ⟨nx, hw''⟩ := hw'
      subst hw''
      have GX := gtrans G nx.h
      have hXX := nx.h
      generalize nx.X = X at *
      clear p0 p1 p2 p3 p4 p5 hne0
      go_upto_region 9 with fail
      go_loopw [14] (fun x wr => ∃ j : Nat, j ≤ z ∧ x = .int .i64 (j : Int) ∧ Below X.heap.size X wr) (fun x _ => z - (intOf x).toNat)
      case atStart => exact ⟨0, Nat.zero_le _, rfl, Below.refl _ _⟩
      case round =>
        obtain ⟨j, hj, rfl, H⟩ := hrel
        have GH := gtrans GX H
        have u0 := (b0.keep GH).one1
        have u1 := (b1.keep GH).one1
        have HH := gtrans hXX H
        have v1 := (HH.cell (p := ⟨_, _, none⟩) (lt_of_cell x1)).trans x1
        have v2 := (HH.cell (p := ⟨_, _, none⟩) (lt_of_cell y1)).trans y1
        by_cases hjt : j < z
        · have hji : (j : Int) < (z : Int) := by omega
          obtain ⟨_, _, e3⟩ := S1.keep HH
          obtain ⟨_, _, e4⟩ := S2.keep HH
          rcases e3 with e3 | ⟨g3, o3, rfl, h3, c3⟩
          · omega
          rcases e4 with e4 | ⟨g4, o4, rfl, h4, c4⟩
          · omega
          have z1 := c3 j hjt
          have z2 := c4 j hjt
          clear c3 c4
          generalize ss.getD j .empty = sj at *
          have hne0 : Nonempty (Ext wr) := ⟨⟨_, Below.refl _ _⟩⟩
          have p0 := fun e : Ext wr => (e.cell _ _ (lt_of_cell z1)).trans z1
          have p1 := fun e : Ext wr => (e.cell _ _ (lt_of_cell z2)).trans z2
          have p2 := fun e : Ext wr => (e.cell _ _ (lt_of_cell v1)).trans v1
          have p3 := fun e : Ext wr => (e.cell _ _ (lt_of_cell v2)).trans v2
          have p4 := fun e : Ext wr => (e.cell _ _ (lt_of_cell u0)).trans u0
          have p5 := fun e : Ext wr => (e.cell _ _ (lt_of_cell u1)).trans u1
          go_upto_region 11 with fail
          refine wp_region_ext (by kernel_rfl) (by kernel_rfl) ?_
          repeat (go_big_quiet_step (fail))
          refine wpQuiet_nil ?_
          intro _ hw'
          obtain ⟨ny, hw''⟩ := hw'
          subst hw''
          have HY := gtrans H ny.h
          generalize ny.X = Y at *
          clear p0 p1 p2 p3 p4 p5 hne0
          go_wp2
          go_roundw
          case rel => exact ⟨j + 1, by omega, by go_num, HY⟩
          case measure => simp [intOf]; omega
        · obtain rfl : j = z := by omega
          go_wp2
          go_roundw
          case rel => exact ⟨k + 1, by omega, by go_num, GH⟩
          case measure => simp [intOf]; omega
    · obtain rfl : k = m := by omega
      obtain ⟨w3, rfl⟩ : ∃ w3, w3 = wr := ⟨_, rfl⟩
      go_upto_region 14 with fail
      go_loopw [15] (fun x wr => ∃ j : Nat, j ≤ r ∧ x = .int .i64 (j : Int) ∧ Below w3.heap.size w3 wr) (fun x _ => r - (intOf x).toNat)
      case atStart => exact ⟨0, Nat.zero_le _, rfl, Below.refl _ _⟩
      case round =>
        obtain ⟨j, hj, rfl, H⟩ := hrel
        have GH := gtrans G H
        obtain ⟨u0, _⟩ := (b2.keep GH).at7
        obtain ⟨u1, _⟩ := (b3.keep GH).at7
        by_cases hjt : j < r
        · have hji : (j : Int) < (r : Int) := by omega
          obtain ⟨g3, o3, rfl, _, _, _, _, z1, _⟩ := (IV.keep GH) j (by rw [HR.out]; exact hjt)
          obtain ⟨g4, o4, rfl, _, _, _, _, z2, _⟩ := (IW.keep GH) j (by rw [HR.out]; exact hjt)
          generalize (q.items.getD j noIt).v = vj at *
          have hne0 : Nonempty (Ext wr) := ⟨⟨_, Below.refl _ _⟩⟩
          have p0 := fun e : Ext wr => (e.cell _ _ (lt_of_cell z1)).trans z1
          have p1 := fun e : Ext wr => (e.cell _ _ (lt_of_cell z2)).trans z2
          have p4 := fun e : Ext wr => (e.cell _ _ (lt_of_cell u0)).trans u0
          have p5 := fun e : Ext wr => (e.cell _ _ (lt_of_cell u1)).trans u1
          go_upto_region 16 with fail
          refine wp_region_ext (by kernel_rfl) (by kernel_rfl) ?_
          repeat (go_big_quiet_step (fail))
          refine wpQuiet_nil ?_
          intro _ hw'
          obtain ⟨ny, hw''⟩ := hw'
          subst hw''
          have HY := gtrans H ny.h
          generalize ny.X = Y at *
          clear p0 p1 p4 p5 hne0
          go_wp2
          go_roundw
          case rel => exact ⟨j + 1, by omega, by go_num, HY⟩
          case measure => simp [intOf]; omega
        · obtain rfl : j = r := by omega
          obtain ⟨w4, rfl⟩ : ∃ w4, w4 = wr := ⟨_, rfl⟩
          go_upto_region 19 with fail
          go_loopw [16] (fun x wr => ∃ i : Nat, i ≤ n ∧ x = .int .i64 (i : Int) ∧ Below w4.heap.size w4 wr) (fun x _ => n - (intOf x).toNat)
          case atStart => exact ⟨0, Nat.zero_le _, rfl, Below.refl _ _⟩
          case round =>
            obtain ⟨i, hi, rfl, P⟩ := hrel
            have GP := gtrans GH P
            by_cases hit : i < n
            · have hii : (i : Int) < (n : Int) := by omega
              obtain ⟨g3, o3, rfl, x0, x1, x2, x3, x4, x5⟩ := (NV.keep GP) i (by rw [HN.out]; exact hit)
              obtain ⟨g4, o4, rfl, y0, y1, y2, y3, y4, y5⟩ := (NW.keep GP) i (by rw [HN.out]; exact hit)
              have eqe := nd_self (ns.getD i noNd)
              generalize ns.getD i noNd = y at *
              have hne0 : Nonempty (Ext wr) := ⟨⟨_, Below.refl _ _⟩⟩
              have p0 := fun e : Ext wr => (e.cell _ _ (lt_of_cell x0)).trans x0
              have p1 := fun e : Ext wr => (e.cell _ _ (lt_of_cell x1)).trans x1
              have p2 := fun e : Ext wr => (e.cell _ _ (lt_of_cell x2)).trans x2
              have p3 := fun e : Ext wr => (e.cell _ _ (lt_of_cell x3)).trans x3
              have p4 := fun e : Ext wr => (e.cell _ _ (lt_of_cell x4)).trans x4
              have p5 := fun e : Ext wr => (e.cell _ _ (lt_of_cell x5)).trans x5
              have q0 := fun e : Ext wr => (e.cell _ _ (lt_of_cell y0)).trans y0
              have q1 := fun e : Ext wr => (e.cell _ _ (lt_of_cell y1)).trans y1
              have q2 := fun e : Ext wr => (e.cell _ _ (lt_of_cell y2)).trans y2
              have q3 := fun e : Ext wr => (e.cell _ _ (lt_of_cell y3)).trans y3
              have q4 := fun e : Ext wr => (e.cell _ _ (lt_of_cell y4)).trans y4
              have q5 := fun e : Ext wr => (e.cell _ _ (lt_of_cell y5)).trans y5
              unfold ndA at eqe
              go_upto_region 21 with fail
              refine wp_region_ext (by kernel_rfl) (by kernel_rfl) ?_
              repeat (first
                | (refine quiet_neq_same rfl _ _ _ rfl (by kernel_rfl) _ eqe rfl rfl _ rfl ?_; simp only [Act.put, List.setIfInBounds_toArray, List.set_cons_succ, List.set_cons_zero])
                | go_big_quiet_step (fail))
              refine wpQuiet_nil ?_
              intro _ hw'
              obtain ⟨ny, hw''⟩ := hw'
              subst hw''
              have HY := gtrans P ny.h
              generalize ny.X = Y at *
              clear p0 p1 p2 p3 p4 p5 q0 q1 q2 q3 q4 q5 hne0
              go_wp2
              go_roundw
              case rel => exact ⟨i + 1, by omega, by go_num, HY⟩
              case measure => simp [intOf]; omega
            · obtain rfl : i = n := by omega
              go_wp2
              go_ret
              exact ⟨rfl, gtrans BV GP⟩

end Go.Proofs.YtglagbedgjkdbaaGreatDoor
namespace Go.Proofs.YtglagbedgjkdbaaGreatDoor
open Go.RowKit Go.BigFrame
set_option linter.unusedVariables false
set_option linter.unusedSimpArgs false

def entI (zs : List Int) (i : Int) : Int := if i < 0 ∨ (zs.length : Int) ≤ i then 0 else zs.getD i.toNat 0
def entR (l : List (List Int)) (i : Int) : List Int := if i < 0 ∨ (l.length : Int) ≤ i then [] else l.getD i.toNat []
theorem Blk4 (w : World) (a b c d : Value) (t : TypeId) : (w.alloc (.cells #[a, b, c, d] t)).cell? ⟨w.heap.size, 2, none⟩ = some c ∧ (w.alloc (.cells #[a, b, c, d] t)).cell? ⟨w.heap.size, 3, none⟩ = some d := ⟨by simp, by simp⟩
/-- A flaw: its code, part, index, sub. -/
structure Fw where
  code : Int
  part : Int
  ix : Int
  sub : Int
structure Fw.fit (f : Fw) : Prop where
  code : fI f.code
  part : fI f.part
  ix : fI f.ix
  sub : fI f.sub
def fwA (f : Fw) : Array Value := #[.int .i64 f.code, .int .i64 f.part, .int .i64 f.ix, .int .i64 f.sub]
def plaO (s : Sps) (f : Fw) : Int :=
  if f.part = 1 then entI s.items f.ix else if f.part = 2 then s.within else if f.part = 3 then s.by_ else if f.part = 4 then entI s.wh f.ix else if f.part = 5 then entI (entR s.ret f.ix) f.sub else 0
theorem entR_small {s : Sps} (hs : s.fit) (i : Int) : (entR s.ret i).length * 8 ≤ 140737488351232 := by
  unfold entR
  split
  · simp
  · exact hs.ret _
end Go.Proofs.YtglagbedgjkdbaaGreatDoor
