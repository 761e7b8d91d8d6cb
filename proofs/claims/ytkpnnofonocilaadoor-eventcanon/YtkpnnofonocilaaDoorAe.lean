/- Two arrays of eight numbers that are the same are equal. -/
import Derived.Test.YtkpnnofonocilaaDoorWb
import Derived.ChangeKeysEq
namespace Go.Proofs.YtkpnnofonocilaaDoor
open Go.RowKit Go.BigFrame
set_option linter.unusedVariables false
set_option linter.unusedSimpArgs false

theorem cells2 : Tryd.prog.cellsOf 2 = 1 := by kernel_rfl
theorem plain2 : Tryd.prog.plainKey 2 = true := by kernel_rfl
theorem arr_eq (a0 a1 a2 a3 a4 a5 a6 a7 : Int) (u : World) : (Op.equalIn 9999 42 (.agg #[.int .i64 a0, .int .i64 a1, .int .i64 a2, .int .i64 a3, .int .i64 a4, .int .i64 a5, .int .i64 a6, .int .i64 a7]) (.agg #[.int .i64 a0, .int .i64 a1, .int .i64 a2, .int .i64 a3, .int .i64 a4, .int .i64 a5, .int .i64 a6, .int .i64 a7])).run Tryd.prog u = .ok true u := by
  obtain ⟨i0, hi⟩ : ∃ i, Tryd.prog.info? 2 = some i := by
    cases h : Tryd.prog.info? 2 with
    | none => exact absurd h (by have : (Tryd.prog.info? 2).isSome = true := by kernel_rfl
                                 intro h2; rw [h2] at this; cases this)
    | some i => exact ⟨i, rfl⟩
  have one : ∀ (j : Nat) (x : Int), (#[.int .i64 a0, .int .i64 a1, .int .i64 a2, .int .i64 a3, .int .i64 a4, .int .i64 a5, .int .i64 a6, .int .i64 a7] : Array Value)[j]? = some (.int .i64 x) → (part 2 #[.int .i64 a0, .int .i64 a1, .int .i64 a2, .int .i64 a3, .int .i64 a4, .int .i64 a5, .int .i64 a6, .int .i64 a7] j).run Tryd.prog u = .ok (.int .i64 x) u := fun j x h => run_part_plain u plain2 h
  have e0 := one 0 a0 rfl
  have e1 := one 1 a1 rfl
  have e2 := one 2 a2 rfl
  have e3 := one 3 a3 rfl
  have e4 := one 4 a4 rfl
  have e5 := one 5 a5 rfl
  have e6 := one 6 a6 rfl
  have e7 := one 7 a7 rfl
  have eq : ∀ x : Int, (Op.equalIn 9998 2 (.int .i64 x) (.int .i64 x)).run Tryd.prog u = .ok true u := fun x => by
    rw [run_equalIn_int u 9997 2 .i64 .i64 x x Tryd.underlying2]
    simp
  rw [show (9999 : Nat) = 9998 + 1 from rfl, run_equalIn_array u 9998 _ _ Tryd.underlying42 hi, cells2]
  rw [show List.range 8 = [0, 1, 2, 3, 4, 5, 6, 7] from rfl]
  simp only [Op.eqItems, Sem.run_bind, Nat.zero_mul, Nat.mul_one, e0, e1, e2, e3, e4, e5, e6, e7, Result.andThen_ok, eq, Bool.not_true, Bool.false_eq_true, if_false, Sem.run_pure]

theorem evFields : (Tryd.prog.fieldsOf 44).toList.map (fun f => (f.type, f.offset)) = [(2, 0), (41, 1), (3, 2), (42, 3)] := by kernel_rfl
theorem evPlain : (Tryd.prog.fieldsOf 44).toList.all (fun f => f.name != "_") = true := by kernel_rfl
theorem ev_same (t i y a0 a1 a2 a3 a4 a5 a6 a7 : Int) (u : World) : (Op.equalIn 10000 44 (.agg #[.int .i64 t, .int .u64 i, .int .i64 y, .int .i64 a0, .int .i64 a1, .int .i64 a2, .int .i64 a3, .int .i64 a4, .int .i64 a5, .int .i64 a6, .int .i64 a7]) (.agg #[.int .i64 t, .int .u64 i, .int .i64 y, .int .i64 a0, .int .i64 a1, .int .i64 a2, .int .i64 a3, .int .i64 a4, .int .i64 a5, .int .i64 a6, .int .i64 a7])).run Tryd.prog u = .ok true u := by
  have ae := arr_eq a0 a1 a2 a3 a4 a5 a6 a7 u
  rw [show (10000 : Nat) = 9999 + 1 from rfl, run_equalIn_struct u 9999 _ _ _ (by kernel_rfl) (by kernel_rfl)]
  have hn : ∀ f ∈ (Tryd.prog.fieldsOf 44).toList, f.name ≠ "_" := fun f hf => by
    have := List.all_eq_true.1 evPlain f hf
    simpa using this
  have hf := evFields
  generalize (Tryd.prog.fieldsOf 44).toList = fs at hf hn
  rcases fs with _ | ⟨f0, _ | ⟨f1, _ | ⟨f2, _ | ⟨f3, _ | ⟨f4, fs⟩⟩⟩⟩⟩ <;> simp only [List.map_cons, List.map_nil, List.cons.injEq, Prod.mk.injEq, and_true, reduceCtorEq, and_false] at hf
  obtain ⟨⟨k0, o0⟩, ⟨k1, o1⟩, ⟨k2, o2⟩, k3, o3⟩ := hf
  have m0 := hn f0 (by simp)
  have m1 := hn f1 (by simp)
  have m2 := hn f2 (by simp)
  have m3 := hn f3 (by simp)
  have pI : ∀ x : Int, ∀ k : Nat, (#[.int .i64 t, .int .u64 i, .int .i64 y, .int .i64 a0, .int .i64 a1, .int .i64 a2, .int .i64 a3, .int .i64 a4, .int .i64 a5, .int .i64 a6, .int .i64 a7] : Array Value)[k]? = some (.int .i64 x) → (part 2 #[.int .i64 t, .int .u64 i, .int .i64 y, .int .i64 a0, .int .i64 a1, .int .i64 a2, .int .i64 a3, .int .i64 a4, .int .i64 a5, .int .i64 a6, .int .i64 a7] k).run Tryd.prog u = .ok (.int .i64 x) u := fun x k h => run_part_plain u plain2 h
  have q0 := pI t 0 rfl
  have q1 : (part 41 #[.int .i64 t, .int .u64 i, .int .i64 y, .int .i64 a0, .int .i64 a1, .int .i64 a2, .int .i64 a3, .int .i64 a4, .int .i64 a5, .int .i64 a6, .int .i64 a7] 1).run Tryd.prog u = .ok (.int .u64 i) u := run_part_plain u (by kernel_rfl) rfl
  have q2 : (part 3 #[.int .i64 t, .int .u64 i, .int .i64 y, .int .i64 a0, .int .i64 a1, .int .i64 a2, .int .i64 a3, .int .i64 a4, .int .i64 a5, .int .i64 a6, .int .i64 a7] 2).run Tryd.prog u = .ok (.int .i64 y) u := run_part_plain u (by kernel_rfl) rfl
  have q3 : (part 42 #[.int .i64 t, .int .u64 i, .int .i64 y, .int .i64 a0, .int .i64 a1, .int .i64 a2, .int .i64 a3, .int .i64 a4, .int .i64 a5, .int .i64 a6, .int .i64 a7] 3).run Tryd.prog u = .ok (.agg #[.int .i64 a0, .int .i64 a1, .int .i64 a2, .int .i64 a3, .int .i64 a4, .int .i64 a5, .int .i64 a6, .int .i64 a7]) u := by kernel_rfl
  have e0 : (Op.equalIn 9999 2 (.int .i64 t) (.int .i64 t)).run Tryd.prog u = .ok true u := by
    rw [run_equalIn_int u 9998 2 .i64 .i64 t t Tryd.underlying2]; simp
  have e1 : (Op.equalIn 9999 41 (.int .u64 i) (.int .u64 i)).run Tryd.prog u = .ok true u := by
    rw [run_equalIn_int u 9998 41 .u64 .u64 i i Tryd.underlying41]; simp
  have e2 : (Op.equalIn 9999 3 (.int .i64 y) (.int .i64 y)).run Tryd.prog u = .ok true u := by
    rw [run_equalIn_int u 9998 3 .i64 .i64 y y Tryd.underlying3]; simp
  simp only [Op.eqFields, Sem.run_bind, if_pos m0, if_pos m1, if_pos m2, if_pos m3, k0, k1, k2, k3, o0, o1, o2, o3, q0, q1, q2, q3, e0, e1, e2, ae, Result.andThen_ok, Bool.not_true, Bool.false_eq_true, if_false, Sem.run_pure]
theorem evGuard : Tryd.prog.eqGuardType Tryd.prog.depth 44 = false := by kernel_rfl
/-- In a region that only reads: two events that are the same are not unlike. -/
theorem wpQuiet_ev_neq {ops : Array Oper} {C : World → Prop} {Q : Act → Prop} {o : Oper} {rest : List Oper} {a : Act} (hw : Region.wanted o (yielded ops a.tmps) = true) (x y : Operand) (r : TypeId) (ho : o.op = .binOp .neq 44 x y r)
    (t i z a0 a1 a2 a3 a4 a5 a6 a7 : Int) (hx : a.eval x = .agg #[.int .i64 t, .int .u64 i, .int .i64 z, .int .i64 a0, .int .i64 a1, .int .i64 a2, .int .i64 a3, .int .i64 a4, .int .i64 a5, .int .i64 a6, .int .i64 a7]) (hy : a.eval y = .agg #[.int .i64 t, .int .u64 i, .int .i64 z, .int .i64 a0, .int .i64 a1, .int .i64 a2, .int .i64 a3, .int .i64 a4, .int .i64 a5, .int .i64 a6, .int .i64 a7])
    (a' : Act) (ha : a.put o.dst (.bool false) = a') (h : wpQuiet Tryd.prog ops C Q rest a') : wpQuiet Tryd.prog ops C Q (o :: rest) a := by
  subst ha
  refine wpQuiet_want hw fun K hK => ⟨.bool false, fun w hC => ?_, hK _ h⟩
  unfold Oper.quietAt execOp
  simp only [ho, hx, hy, Sem.run_bind, run_eqGuard_agg w .neq 44 x y _ _ evGuard, run_neq_struct, ev_same, Sem.run_pure, Result.andThen_ok, Bool.not_true]
  exact ⟨rfl, rfl⟩

end Go.Proofs.YtkpnnofonocilaaDoor
