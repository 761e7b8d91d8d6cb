/- apart of the gate's statements: rows side by side that are written over. -/
import Derived.Test.YthjnkcapjhelgaaGsd
namespace Go.Proofs.Ythjnkcapjhelgaa
open Go.RowKit Go.BigFrame Go.Maps
set_option linter.unusedVariables false
set_option linter.unusedSimpArgs false

/-- Where a row lies. -/
structure Hd where
  a : Option Addr
  n : Nat
  c : Nat
def hdV (h : Hd) : Value := .slice h.a h.n h.c
def hdC (h : Hd) : Array Value := #[hdV h]
theorem hd_size (h : Hd) : (hdC h).size = 1 := rfl
def zeroHd : Hd := ⟨none, 0, 0⟩
/-- Rows side by side, no two in one block; C: what they hold. -/
structure Rws (w : World) (b : Nat) (H : List Hd) (C : Nat → List Ev) : Prop where
  row : ∀ j, j < H.length → w.ownsRow b 47 11 (hdV (H.getD j zeroHd)) (H.getD j zeroHd).n (fl evC (C j))
  ap : ∀ i j q, i < H.length → j < H.length → (hdV (H.getD i zeroHd)).ownBlock = some q → (hdV (H.getD j zeroHd)).ownBlock = some q → i = j
/-- The blocks of the rows. -/
def rBlk (H : List Hd) (q : Nat) : Prop := ∃ j, j < H.length ∧ (hdV (H.getD j zeroHd)).ownBlock = some q
theorem Rws.keep {w u : World} {b : Nat} {H : List Hd} {C : Nat → List Ev} (R : Rws w b H C) (G : Below w.heap.size w u) : Rws u b H C := ⟨fun j hj => own_keep (R.row j hj) G, R.ap⟩
theorem Rws.congr {w : World} {b : Nat} {H : List Hd} {C D : Nat → List Ev} (R : Rws w b H C) (h : ∀ j, j < H.length → C j = D j) : Rws w b H D := ⟨fun j hj => by rw [← h j hj]; exact R.row j hj, R.ap⟩
theorem Rws.len {w : World} {b : Nat} {H : List Hd} {C : Nat → List Ev} (R : Rws w b H C) {j : Nat} (hj : j < H.length) : (C j).length = (H.getD j zeroHd).n := by
  have := (R.row j hj).1
  rw [fl_len ev_size] at this
  omega
/-- One place of one row is written. -/
theorem Rws.put {w : World} {b : Nat} {H : List Hd} {C : Nat → List Ev} (R : Rws w b H C) {i : Nat} (hi : i < H.length) {g n c : Nat} (hh : H.getD i zeroHd = ⟨some ⟨g, 0, none⟩, n, c⟩) {k : Nat} (hk : k < n) (y : Ev) : Rws (w.setCells g (k * 11) (evC y).toList) b H (fun j => if j = i then (C i).set k y else C j) := by
  refine ⟨fun j hj => ?_, R.ap⟩
  by_cases e : j = i
  · subst e
    simp only [if_true]
    have h1 := R.row j hj
    rw [hh] at h1 ⊢
    exact own_putN h1 hk y
  · simp only [if_neg e]
    refine own_else (R.row j hj) (fun q hq => setCells_blk g _ _ w q hq) fun q hq e2 => e ?_
    refine R.ap j i q hj hi hq ?_
    rw [hh, e2]
    rfl
theorem Frm.put {S : Nat → Prop} {w u : World} (F : Frm S w u) {g : Nat} (hg : S g) (o : Nat) (vs : List Value) : Frm S w (u.setCells g o vs) := by
  have e := setCells_os g vs o u
  exact ⟨e.1.trans F.os, e.2.1.trans F.tape, e.2.2.trans F.output, by rw [setCells_size]; exact F.size, fun q h1 h2 => (setCells_blk g _ _ u q (fun e => h2 (by rw [e]; exact hg))).trans (F.blk q h1 h2)⟩
/-- The first k are written over by y. -/
def ovy (y : Ev) (S : List Ev) : Nat → List Ev
  | 0 => S
  | i + 1 => (ovy y S i).set i y
theorem ovy_len (y : Ev) (S : List Ev) : ∀ i, (ovy y S i).length = S.length
  | 0 => rfl
  | i + 1 => by unfold ovy; rw [List.length_set, ovy_len y S i]
theorem ovy_at (y : Ev) (S : List Ev) (z : Ev) : ∀ {i j : Nat}, j < i → j < S.length → (ovy y S i).getD j z = y
  | i + 1, j, h, hl => by
    unfold ovy
    rw [getD_set (by rw [ovy_len]; exact hl)]
    by_cases e : i = j
    · rw [if_pos e]
    · rw [if_neg e]; exact ovy_at y S z (by omega) hl
theorem ovy_end (y : Ev) (S : List Ev) : ovy y S S.length = List.replicate S.length y := by
  refine List.ext_getElem (by rw [ovy_len, List.length_replicate]) fun j h1 h2 => ?_
  rw [ovy_len] at h1
  have h3 := ovy_at y S zeroE h1 h1
  rw [getD_of_lt _ j (by rw [ovy_len]; exact h1)] at h3
  rw [h3, List.getElem_replicate]
/-- What the rows hold behind the first i. -/
def apC (C : Nat → List Ev) (i : Nat) (j : Nat) : List Ev := if j < i then List.replicate (C j).length (mkE (1000 + (j : Int)) 0) else C j
theorem bldX (a : Int) (w : World) : (Instr.build 47 #[(0, .int .i64 a)]).run Try.prog w = .ok (.agg (evC (mkE a 0))) w := by kernel_rfl

theorem ld_run {g o : Nat} {v : Value} {w : World} (h : w.cell? ⟨g, o, none⟩ = some v) : (Instr.loadAt 39 (.pointer (some ⟨g, o, none⟩))).run Try.prog w = .ok v w := by
  have hu := Try.underlying39
  simp [Instr.loadAt, Instr.sureAddr, loadVar, asAddr, run_underlying hu, h]
theorem ixN_run {g o n c i : Nat} (h : i < n) (w : World) : (Instr.indexAt 53 (.slice (some ⟨g, o, none⟩) n c) (.int .i64 (i : Int))).run Try.prog w = .ok (.pointer (some ⟨g, o + i, none⟩)) w := by
  have hu : Try.prog.underlying 53 = some (.slice (Try.prog.elem 53)) := by kernel_rfl
  have hs : (sizeOf (Try.prog.elem 53)).run Try.prog w = .ok 1 w := by kernel_rfl
  rw [run_indexAt_slice (h := hu), if_pos ⟨by omega, by omega⟩, hs, Result.andThen_ok, Int.toNat_natCast, Nat.mul_one, Go.WideShapes.add_plain]
theorem wpL_ld {P : Program} {w : World} {ops : Array Oper} {rest : List Oper} {o : Oper} {a : Act} {Q : Exit → Act → World → Prop} (hgd : o.guard = none) {T : TypeId} (x : Operand) {v0 v : Value} (ho : o.op = .load T x) (h0 : a.eval x = v0) (hr : (Instr.loadAt T v0).run P w = .ok v w) (h : wpList P ops Q rest (a.put o.dst v) w) : wpList P ops Q (o :: rest) a w := by
  refine wpList_plain hgd fun K hK => ?_
  unfold Oper.wp execOp
  simp only [ho, h0, Sem.run_bind, hr, Result.andThen_ok, Sem.run_pure]
  exact hK _ _ h
theorem wpL_op {P : Program} {w : World} {ops : Array Oper} {rest : List Oper} {o : Oper} {a : Act} {Q : Exit → Act → World → Prop} (hgd : o.guard = none) {b : BinOp} {T U : TypeId} (x y : Operand) {v0 v1 v : Value} (ho : o.op = .binOp b T x y U) (h0 : a.eval x = v0) (h1 : a.eval y = v1) (hg : (eqGuard b T x y v0 v1).run P w = .ok () w) (hr : (binOp b T v0 v1).run P w = .ok v w) (h : wpList P ops Q rest (a.put o.dst v) w) : wpList P ops Q (o :: rest) a w := by
  refine wpList_plain hgd fun K hK => ?_
  unfold Oper.wp execOp
  simp only [ho, h0, h1, Sem.run_bind, hg, hr, Result.andThen_ok, Sem.run_pure]
  exact hK _ _ h

end Go.Proofs.Ythjnkcapjhelgaa
