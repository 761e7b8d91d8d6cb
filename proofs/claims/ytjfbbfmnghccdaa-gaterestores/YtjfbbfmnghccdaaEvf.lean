/- Events held against each other, whatever they are. -/
import Derived.Test.YtjfbbfmnghccdaaEve
namespace Go.Proofs.Ytjfbbfmnghccdaa
open Go.RowKit Go.BigFrame
set_option linter.unusedVariables false
set_option linter.unusedSimpArgs false

theorem arr_eqB (a0 a1 a2 a3 a4 a5 a6 a7 b0 b1 b2 b3 b4 b5 b6 b7 : Int) (u : World) : (Op.equalIn 9999 27 (.agg #[.int .i64 a0, .int .i64 a1, .int .i64 a2, .int .i64 a3, .int .i64 a4, .int .i64 a5, .int .i64 a6, .int .i64 a7]) (.agg #[.int .i64 b0, .int .i64 b1, .int .i64 b2, .int .i64 b3, .int .i64 b4, .int .i64 b5, .int .i64 b6, .int .i64 b7])).run Try.prog u = .ok (((a0 == b0) && ((a1 == b1) && ((a2 == b2) && ((a3 == b3) && ((a4 == b4) && ((a5 == b5) && ((a6 == b6) && ((a7 == b7)))))))))) u := by
  obtain ⟨i0, hi⟩ : ∃ i, Try.prog.info? 2 = some i := by
    cases h : Try.prog.info? 2 with
    | none => exact absurd h (by have : (Try.prog.info? 2).isSome = true := by kernel_rfl
                                 intro h2; rw [h2] at this; cases this)
    | some i => exact ⟨i, rfl⟩
  have one : ∀ (j : Nat) (x : Int), (#[.int .i64 a0, .int .i64 a1, .int .i64 a2, .int .i64 a3, .int .i64 a4, .int .i64 a5, .int .i64 a6, .int .i64 a7] : Array Value)[j]? = some (.int .i64 x) → (part 2 #[.int .i64 a0, .int .i64 a1, .int .i64 a2, .int .i64 a3, .int .i64 a4, .int .i64 a5, .int .i64 a6, .int .i64 a7] j).run Try.prog u = .ok (.int .i64 x) u := fun j x h => run_part_plain u plain2 h
  have two : ∀ (j : Nat) (x : Int), (#[.int .i64 b0, .int .i64 b1, .int .i64 b2, .int .i64 b3, .int .i64 b4, .int .i64 b5, .int .i64 b6, .int .i64 b7] : Array Value)[j]? = some (.int .i64 x) → (part 2 #[.int .i64 b0, .int .i64 b1, .int .i64 b2, .int .i64 b3, .int .i64 b4, .int .i64 b5, .int .i64 b6, .int .i64 b7] j).run Try.prog u = .ok (.int .i64 x) u := fun j x h => run_part_plain u plain2 h
  have e0 := one 0 a0 rfl
  have f0 := two 0 b0 rfl
  have e1 := one 1 a1 rfl
  have f1 := two 1 b1 rfl
  have e2 := one 2 a2 rfl
  have f2 := two 2 b2 rfl
  have e3 := one 3 a3 rfl
  have f3 := two 3 b3 rfl
  have e4 := one 4 a4 rfl
  have f4 := two 4 b4 rfl
  have e5 := one 5 a5 rfl
  have f5 := two 5 b5 rfl
  have e6 := one 6 a6 rfl
  have f6 := two 6 b6 rfl
  have e7 := one 7 a7 rfl
  have f7 := two 7 b7 rfl
  have eq : ∀ x y : Int, (Op.equalIn 9998 2 (.int .i64 x) (.int .i64 y)).run Try.prog u = .ok (x == y) u := fun x y => by
    rw [run_equalIn_int u 9997 2 .i64 .i64 x y Try.underlying2]
  rw [show (9999 : Nat) = 9998 + 1 from rfl, run_equalIn_array u 9998 _ _ Try.underlying27 hi, cells2]
  rw [show List.range 8 = [0, 1, 2, 3, 4, 5, 6, 7] from rfl]
  simp only [Op.eqItems, Sem.run_bind, Nat.zero_mul, Nat.one_mul, Nat.mul_one, e0, f0, Result.andThen_ok, eq]
  cases (a0 == b0)
  case false => simp only [Bool.not_false, if_true, Bool.false_and, Sem.run_pure]
  simp only [Bool.not_true, Bool.false_eq_true, if_false, Bool.true_and]
  simp only [Op.eqItems, Sem.run_bind, Nat.zero_mul, Nat.one_mul, Nat.mul_one, e1, f1, Result.andThen_ok, eq]
  cases (a1 == b1)
  case false => simp only [Bool.not_false, if_true, Bool.false_and, Sem.run_pure]
  simp only [Bool.not_true, Bool.false_eq_true, if_false, Bool.true_and]
  simp only [Op.eqItems, Sem.run_bind, Nat.zero_mul, Nat.one_mul, Nat.mul_one, e2, f2, Result.andThen_ok, eq]
  cases (a2 == b2)
  case false => simp only [Bool.not_false, if_true, Bool.false_and, Sem.run_pure]
  simp only [Bool.not_true, Bool.false_eq_true, if_false, Bool.true_and]
  simp only [Op.eqItems, Sem.run_bind, Nat.zero_mul, Nat.one_mul, Nat.mul_one, e3, f3, Result.andThen_ok, eq]
  cases (a3 == b3)
  case false => simp only [Bool.not_false, if_true, Bool.false_and, Sem.run_pure]
  simp only [Bool.not_true, Bool.false_eq_true, if_false, Bool.true_and]
  simp only [Op.eqItems, Sem.run_bind, Nat.zero_mul, Nat.one_mul, Nat.mul_one, e4, f4, Result.andThen_ok, eq]
  cases (a4 == b4)
  case false => simp only [Bool.not_false, if_true, Bool.false_and, Sem.run_pure]
  simp only [Bool.not_true, Bool.false_eq_true, if_false, Bool.true_and]
  simp only [Op.eqItems, Sem.run_bind, Nat.zero_mul, Nat.one_mul, Nat.mul_one, e5, f5, Result.andThen_ok, eq]
  cases (a5 == b5)
  case false => simp only [Bool.not_false, if_true, Bool.false_and, Sem.run_pure]
  simp only [Bool.not_true, Bool.false_eq_true, if_false, Bool.true_and]
  simp only [Op.eqItems, Sem.run_bind, Nat.zero_mul, Nat.one_mul, Nat.mul_one, e6, f6, Result.andThen_ok, eq]
  cases (a6 == b6)
  case false => simp only [Bool.not_false, if_true, Bool.false_and, Sem.run_pure]
  simp only [Bool.not_true, Bool.false_eq_true, if_false, Bool.true_and]
  simp only [Op.eqItems, Sem.run_bind, Nat.zero_mul, Nat.one_mul, Nat.mul_one, e7, f7, Result.andThen_ok, eq]
  cases (a7 == b7)
  case false => simp only [Bool.not_false, if_true, Bool.false_and, Sem.run_pure]
  simp only [Bool.not_true, Bool.false_eq_true, if_false, Bool.true_and]
  simp only [Op.eqItems, Sem.run_pure]
/-- Are two events the same? -/
def evB (a b : Ev) : Bool := (a.ts == b.ts) && ((a.id == b.id) && ((a.typ == b.typ) && (((a.a0 == b.a0) && ((a.a1 == b.a1) && ((a.a2 == b.a2) && ((a.a3 == b.a3) && ((a.a4 == b.a4) && ((a.a5 == b.a5) && ((a.a6 == b.a6) && ((a.a7 == b.a7))))))))))))
theorem ev_eqB (a b : Ev) (w : World) : (Op.equalIn 10000 29 (.agg (evC a)) (.agg (evC b))).run Try.prog w = .ok (evB a b) w := by
  obtain ⟨ts, id, typ, a0, a1, a2, a3, a4, a5, a6, a7⟩ := a
  obtain ⟨ts', id', typ', b0, b1, b2, b3, b4, b5, b6, b7⟩ := b
  have u1 := Try.underlying26
  have u2 := Try.underlying2
  have u4 := Try.underlying3
  have u5 := Try.underlying27
  have ae := arr_eqB a0 a1 a2 a3 a4 a5 a6 a7 b0 b1 b2 b3 b4 b5 b6 b7
  have hS : Try.prog.underlying 29 = some (.struct (Try.prog.fieldsOf 29)) := by kernel_rfl
  have hp : Try.prog.stoodInHeld 29 = false := by kernel_rfl
  unfold evB
  dsimp only
  generalize ((a0 == b0) && ((a1 == b1) && ((a2 == b2) && ((a3 == b3) && ((a4 == b4) && ((a5 == b5) && ((a6 == b6) && ((a7 == b7))))))))) = z at ae ⊢
  rw [show (10000 : Nat) = 9999 + 1 from rfl, run_equalIn_agg w 9999 29 _ _ hS hp]
  simp only [Program.fieldsOf, Try.underlying29, evC]
  go_simp
  by_cases h1 : ts = ts'
  · by_cases h2 : id = id'
    · by_cases h3 : typ = typ'
      · rw [if_pos h1, if_pos h2, if_pos h3, h1, h2, h3]
        cases z <;> simp
      · rw [if_pos h1, if_pos h2, if_neg h3, beq_eq_false_iff_ne.2 h3]
        simp
    · rw [if_pos h1, if_neg h2, beq_eq_false_iff_ne.2 h2]
      simp
  · rw [if_neg h1, beq_eq_false_iff_ne.2 h1]
    simp
theorem evB_self (a : Ev) : evB a a = true := by simp [evB]
theorem evB_eq {a b : Ev} (h : evB a b = true) : a = b := by
  obtain ⟨ts, id, typ, a0, a1, a2, a3, a4, a5, a6, a7⟩ := a
  obtain ⟨ts', id', typ', b0, b1, b2, b3, b4, b5, b6, b7⟩ := b
  simp only [evB, Bool.and_eq_true, beq_iff_eq] at h
  obtain ⟨h1, h2, h3, h4, h5, h6, h7, h8, h9, h10, h11⟩ := h
  subst h1 h2 h3 h4 h5 h6 h7 h8 h9 h10 h11
  rfl
/-- In a region that only reads: an event is held against another. -/
theorem quiet_eql_ev {ops : Array Oper} {C : World → Prop} {Q : Act → Prop} {o : Oper} {rest : List Oper} {a : Act} (hw : Region.wanted o (yielded ops a.tmps) = true) (x y : Operand) (ho : o.op = .binOp .eql 29 x y 29) (ex ey : Ev) (hx : a.eval x = .agg (evC ex)) (hy : a.eval y = .agg (evC ey)) (a' : Act) (ha : a.put o.dst (.bool (evB ex ey)) = a') (h : wpQuiet Try.prog ops C Q rest a') : wpQuiet Try.prog ops C Q (o :: rest) a := by
  subst ha
  refine wpQuiet_want hw fun K hK => ⟨.bool (evB ex ey), fun w hC => ?_, hK _ h⟩
  unfold Oper.quietAt execOp
  simp only [ho, hx, hy, Sem.run_bind, Sem.run_pure, run_eqGuard_agg (P := Try.prog) w .eql 29 x y (evC ex) (evC ey) evGuard, run_eql_struct, ev_eqB, Result.andThen_ok]
  exact ⟨rfl, rfl⟩

end Go.Proofs.Ytjfbbfmnghccdaa
