/- Guarded operations; what stays of rows while a pile turns. -/
import Derived.Test.YthjnkcapjhelgaaHlc
import Derived.Test.YthjnkcapjhelgaaHpn
namespace Go.Proofs.Ythjnkcapjhelgaa
open Go.RowKit Go.BigFrame
set_option linter.unusedVariables false
set_option linter.unusedSimpArgs false

theorem wpList_want {P : Program} {w : World} {ops : Array Oper} {rest : List Oper} {o : Oper} {a : Act} {Q : Exit → Act → World → Prop} (hw : Region.wanted o (yielded ops a.tmps) = true) (h : ∀ K : Act → World → Prop, (∀ a w, wpList P ops Q rest a w → K a w) → o.wp P a w K Q) : wpList P ops Q (o :: rest) a w :=
  wpList_step fun K hK => by rw [if_pos hw]; exact h K hK
theorem wpList_load_midw {P : Program} {w : World} {ops : Array Oper} {rest : List Oper} {op : Oper} {a : Act} {Q : Exit → Act → World → Prop} (hw : Region.wanted op (yielded ops a.tmps) = true) (ty : TypeId) (x : Operand) (ho : op.op = .load ty x)
    (b o : Nat) (hx : a.eval x = .pointer (some ⟨b, o, none⟩)) (cs : Array Value) (d : TypeDesc) (hc : w.rangeAt b o cs.toList)
    (hu : P.underlying ty = some d) (hd : d.isRow = true) (hi : (P.info? ty).map (·.size) = some cs.size)
    (h : wpList P ops Q rest (a.put op.dst (.agg cs)) w) : wpList P ops Q (op :: rest) a w :=
  wpList_want hw fun K hK => wp_load_mid ty x ho b o hx cs.toList d hc hu hd (by rw [hi]; simp) (hK _ _ (by simpa using h))
theorem wpList_neq_samew {w : World} {ops : Array Oper} {rest : List Oper} {o : Oper} {a : Act} {Q : Exit → Act → World → Prop} (hw : Region.wanted o (yielded ops a.tmps) = true) (x y : Operand) (T : TypeId) (ho : o.op = .binOp .neq T x y T) (hg : Try.prog.eqGuardType Try.prog.depth T = false)
    (cs : Array Value) (heq : ∀ w, (Op.equalIn 10000 T (.agg cs) (.agg cs)).run Try.prog w = .ok true w) (hx : a.eval x = .agg cs) (hy : a.eval y = .agg cs) (h : wpList Try.prog ops Q rest (a.put o.dst (.bool false)) w) : wpList Try.prog ops Q (o :: rest) a w := by
  refine wpList_want hw fun K hK => ?_
  unfold Oper.wp execOp
  simp only [ho, hx, hy, Sem.run_bind, Sem.run_pure, run_eqGuard_agg (P := Try.prog) w .neq T x y cs cs hg, run_neq_struct, heq, Result.andThen_ok]
  exact hK _ _ h
theorem wpList_eql_samew {w : World} {ops : Array Oper} {rest : List Oper} {o : Oper} {a : Act} {Q : Exit → Act → World → Prop} (hw : Region.wanted o (yielded ops a.tmps) = true) (x y : Operand) (T : TypeId) (ho : o.op = .binOp .eql T x y T) (hg : Try.prog.eqGuardType Try.prog.depth T = false)
    (cs : Array Value) (heq : ∀ w, (Op.equalIn 10000 T (.agg cs) (.agg cs)).run Try.prog w = .ok true w) (hx : a.eval x = .agg cs) (hy : a.eval y = .agg cs) (h : wpList Try.prog ops Q rest (a.put o.dst (.bool true)) w) : wpList Try.prog ops Q (o :: rest) a w := by
  refine wpList_want hw fun K hK => ?_
  unfold Oper.wp execOp
  simp only [ho, hx, hy, Sem.run_bind, Sem.run_pure, run_eqGuard_agg (P := Try.prog) w .eql T x y cs cs hg, run_eql_struct, heq, Result.andThen_ok]
  exact hK _ _ h
theorem evBuildZ (w : World) : (Instr.build 47 #[]).run Try.prog w = .ok (.agg (evC zrEv)) w := by kernel_rfl
theorem wpList_buildz {P : Program} {w : World} {ops : Array Oper} {rest : List Oper} {o : Oper} {a : Act} {Q : Exit → Act → World → Prop} (hw : Region.wanted o (yielded ops a.tmps) = true) {T : TypeId} {v : Value} (ho : o.op = .build T #[]) (hr : (Instr.build T #[]).run P w = .ok v w)
    (h : wpList P ops Q rest (a.put o.dst v) w) : wpList P ops Q (o :: rest) a w := by
  refine wpList_want hw fun K hK => ?_
  unfold Oper.wp execOp
  simp only [ho, List.map_toArray, List.map_nil, Sem.run_bind, hr, Result.andThen_ok, Sem.run_pure]
  exact hK _ _ h
/-- A row of one's own of another type stays while a pile turns. -/
theorem Gb.own {TP TL : TypeId} {sz : Nat} {β : Type} {cv : β → Array Value} {A : β × Nat → β × Nat → Bool} {z : β × Nat} {w u : World} {p base : Nat} {v : Value} {L : List (β × Nat)} {t : Nat} (G : Gb p v w u) (P : Pa TP TL sz cv A z w p base v L t) {b1 : Nat} {e1 : TypeId} {s1 : Nat} {v1 : Value} {n1 : Nat} {x1 : List Value} (O : w.ownsRow b1 e1 s1 v1 n1 x1) (h1 : e1 ≠ TP) (h2 : e1 ≠ TL) : u.ownsRow b1 e1 s1 v1 n1 x1 := by
  obtain ⟨xs, R⟩ := P.row
  refine own_of_block O fun g cur hb hh => G.blk g (lt_of_block hh) (fun e => ?_) (fun e => ?_)
  · subst e
    rw [show w.heap[g]? = _ from P.blk] at hh
    simp only [Option.some.injEq, Obj.cells.injEq] at hh
    exact h1 hh.2.1.symm
  · rcases R.2 with ⟨rfl, _⟩ | ⟨g1, c1, cur1, rfl, _, hh1, _⟩
    · simp [Value.ownBlock] at e
    · have : g1 = g := by simpa [Value.ownBlock] using e
      subst this
      rw [hh1] at hh
      simp only [Option.some.injEq, Obj.cells.injEq] at hh
      exact h2 hh.2.1.symm
/-- A local of another type stays too. -/
theorem Gb.loc {TP TL : TypeId} {sz : Nat} {β : Type} {cv : β → Array Value} {A : β × Nat → β × Nat → Bool} {z : β × Nat} {w u : World} {p base : Nat} {v : Value} {L : List (β × Nat)} {t : Nat} (G : Gb p v w u) (P : Pa TP TL sz cv A z w p base v L t) {b : Nat} {cs : Array Value} {e1 : TypeId} (O : Bk w b cs e1) (h1 : e1 ≠ TP) (h2 : e1 ≠ TL) : Bk u b cs e1 := by
  obtain ⟨xs, R⟩ := P.row
  refine G.bk O (fun e => ?_) (fun e => ?_)
  · subst e
    have h := P.blk
    unfold Bk at h O
    rw [h] at O
    simp only [Option.some.injEq, Obj.cells.injEq] at O
    exact h1 O.2.1.symm
  · rcases R.2 with ⟨rfl, _⟩ | ⟨g1, c1, cur1, rfl, _, hh1, _⟩
    · simp [Value.ownBlock] at e
    · have : g1 = b := by simpa [Value.ownBlock] using e
      subst this
      unfold Bk at O
      rw [hh1] at O
      simp only [Option.some.injEq, Obj.cells.injEq] at O
      exact h2 O.2.1.symm

end Go.Proofs.Ythjnkcapjhelgaa
