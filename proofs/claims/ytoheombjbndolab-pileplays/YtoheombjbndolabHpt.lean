/- Scripts that come in; two piles beside each other. -/
import Derived.Test.YtoheombjbndolabHps
import Derived.Test.YtoheombjbndolabOpenH
import Derived.Deep.Strs
namespace Go.Proofs.Ytoheombjbndolab
open Go.ChangeShapes Go.WideShapes Go.ChangeAt Go.RowKit Go.BigFrame
set_option linter.unusedVariables false
set_option linter.unusedSimpArgs false

structure Opr where
  kd : Int
  pn : Int
  e : Ev
def opV (o : Opr) : Array Value := opC o.kd o.pn o.e
theorem opV_size (o : Opr) : (opV o).size = 13 := rfl
theorem infoOp : (Try.prog.info? 56).map (·.size) = some 13 := by kernel_rfl
def zeroO : Opr := ⟨0, 0, zeroE⟩
theorem bytesOp7 : Try.prog.bytesOf 56 = 104 := by kernel_rfl
theorem cellsOp7 : Try.prog.cellsOf 56 = 13 := by kernel_rfl
section
variable {H : Type} {enc : TypeId × Value → H} {w : World} {spare : Nat → Bool} {held : Bool}
set_option maxRecDepth 100000 in
theorem open_op7 {fuel : Nat} {l : List Value} {y : DataW H × List MemPlace} (hl : l.length = 13) (h : DataW.trod enc Try.prog w 0 spare held fuel 56 l = some y) : ∃ o : Opr, True ∧ l = (opV o).toList := by
  obtain ⟨k0, k1, c0, c1, c2, c3, c4, c5, c6, c7, c8, c9, c10, rfl⟩ : ∃ k0 k1 c0 c1 c2 c3 c4 c5 c6 c7 c8 c9 c10, l = [k0, k1, c0, c1, c2, c3, c4, c5, c6, c7, c8, c9, c10] := by
    match l, hl with
    | [k0, k1, c0, c1, c2, c3, c4, c5, c6, c7, c8, c9, c10], _ => exact ⟨k0, k1, c0, c1, c2, c3, c4, c5, c6, c7, c8, c9, c10, rfl⟩
  obtain ⟨y0, y1, y2, m, _, _, g0, g1, g2⟩ := Go.Deep.trod_struct3 Try.underlying56 h
  have g0' : DataW.trod enc Try.prog w 0 spare held m 3 [k0] = some y0 := g0
  have g1' : DataW.trod enc Try.prog w 0 spare held m 3 [k1] = some y1 := g1
  have g2' : DataW.trod enc Try.prog w 0 spare held m 29 [c0, c1, c2, c3, c4, c5, c6, c7, c8, c9, c10] = some y2 := g2
  obtain ⟨n0, e0, _, r0⟩ := DataW.trod_int Try.underlying3 g0'
  obtain ⟨n1, e1, _, r1⟩ := DataW.trod_int Try.underlying3 g1'
  obtain ⟨e, _, he⟩ := open_ev7 rfl g2'
  simp only [List.cons.injEq, and_true] at e0 e1
  subst e0 e1
  refine ⟨⟨n0, n1, e⟩, trivial, ?_⟩
  rw [he]
  rfl
theorem open_oprow {fuel : Nat} {v : Value} {y : DataW H × List MemPlace} (h : DataW.trod enc Try.prog w 0 spare held fuel 52 [v] = some y) (hw : ∀ n ∈ y.1.weights Try.prog 52, n ≤ reachBytes) :
    ∃ ao cap l, v = .slice ao (l : List Opr).length cap ∧ Sl ao l.length cap ∧ Flat w ao (fl opV l) ∧ l.length * 104 ≤ 140737488351232 ∧ ∀ k, (fun _ => True) (l.getD k zeroO) :=
  open_row Try.underlying52 bytesOp7 cellsOp7 (by decide) opV (fun x => rfl) zeroO (fun _ => True) trivial (fun hl ht _ => open_op7 hl ht) h hw
end
theorem step_any (p m base t : Nat) (v : Value) (L : List (Ev × Nat)) (w : World) (P : evPa w p base v L t) (M : Mo w m (L.map Prod.fst)) (hL : L.length ≤ t) (ht : t ≤ 1599289640355) (hbw : base ≤ w.heap.size) (o : Opr) : Calls Try.prog 23 #[.pointer (some ⟨p, 0, none⟩), .pointer (some ⟨m, 0, none⟩), .agg (opV o)] w fun e w' => e = .returned (.bool true) ∧ StepP p m base t v w w' := by
  obtain ⟨kd, pp, x⟩ := o
  show Calls _ _ #[_, _, .agg (opC kd pp x)] _ _
  by_cases h1 : kd = 1
  · subst h1; exact step1 p m base t v L w P M hL ht hbw pp x
  by_cases h2 : kd = 2
  · subst h2; exact step2 p m base t v L w P M hL ht hbw pp x
  by_cases h3 : kd = 3
  · subst h3; exact step3 p m base t v L w P M hL ht hbw pp x
  by_cases h4 : kd = 4
  · subst h4; exact step4 p m base t v L w P M hL ht hbw pp x
  by_cases h5 : kd = 5
  · subst h5; exact step5 p m base t v L w P M hL ht hbw pp x
  exact step0 p m base t v L w P M hL ht hbw pp x kd (beq_eq_false_iff_ne.2 h1) (beq_eq_false_iff_ne.2 h2) (beq_eq_false_iff_ne.2 h3) (beq_eq_false_iff_ne.2 h4) (beq_eq_false_iff_ne.2 h5)
/-- The block k is of the type t. -/
def Tyb (w : World) (k : Nat) (t : TypeId) : Prop := ∃ cs fr, w.heap[k]? = some (.cells cs t fr)
theorem Tyb.ne {w : World} {k k' : Nat} {t t' : TypeId} (h : Tyb w k t) (h' : Tyb w k' t') (hn : t ≠ t') : k ≠ k' := fun e => by
  subst e
  obtain ⟨cs, fr, h⟩ := h
  obtain ⟨cs', fr', h'⟩ := h'
  rw [h] at h'
  simp only [Option.some.injEq, Obj.cells.injEq] at h'
  exact hn h'.2.1
theorem Tyb.lt {w : World} {k : Nat} {t : TypeId} (h : Tyb w k t) : k < w.heap.size := by obtain ⟨cs, fr, h⟩ := h; exact lt_of_block h
theorem evPa.ty {w : World} {p base t : Nat} {v : Value} {L : List (Ev × Nat)} (P : evPa w p base v L t) : Tyb w p 61 := ⟨_, _, P.blk⟩
theorem evPa.tyr {w : World} {p base t : Nat} {v : Value} {L : List (Ev × Nat)} (P : evPa w p base v L t) (g : Nat) (e : v.ownBlock = some g) : Tyb w g 63 := by
  obtain ⟨xs, R⟩ := P.row
  rcases R.2 with ⟨rfl, _⟩ | ⟨g1, c1, cur1, rfl, _, hh1, _⟩
  · simp [Value.ownBlock] at e
  · have : g1 = g := by simpa [Value.ownBlock] using e
    subst this
    exact ⟨_, _, hh1⟩
theorem Mo.ty {w : World} {m : Nat} {l : List Ev} (M : Mo w m l) : Tyb w m 78 := by obtain ⟨_, _, b, _⟩ := M; exact ⟨_, _, b⟩
/-- Two piles, and the document's two. -/
structure Two (w : World) (p q m n bp bq : Nat) (vp vq : Value) (Lp Lq : List (Ev × Nat)) (tp tq : Nat) : Prop where
  P : evPa w p bp vp Lp tp
  Q : evPa w q bq vq Lq tq
  M : Mo w m (Lp.map Prod.fst)
  N : Mo w n (Lq.map Prod.fst)
  pl : Lp.length ≤ tp
  ql : Lq.length ≤ tq
  d : ∀ g, vp.ownBlock = some g → vq.ownBlock ≠ some g
theorem Two.swap {w : World} {p q m n bp bq : Nat} {vp vq : Value} {Lp Lq : List (Ev × Nat)} {tp tq : Nat} (h : Two w p q m n bp bq vp vq Lp Lq tp tq) : Two w q p n m bq bp vq vp Lq Lp tq tp := ⟨h.Q, h.P, h.N, h.M, h.ql, h.pl, fun g e1 e2 => h.d g e2 e1⟩
theorem Two.step {w u : World} {p q m n bp bq : Nat} {vp vq : Value} {Lp Lq : List (Ev × Nat)} {tp tq : Nat} (h : Two w p q m n bp bq vp vq Lp Lq tp tq) (hpq : p ≠ q) (hmn : m ≠ n) (S : StepP p m bp tp vp w u) : ∃ v' L' t', t' ≤ tp + 1 ∧ Two u p q m n bp bq v' vq L' Lq t' tq ∧ Gm p m vp w u := by
  obtain ⟨v', L', t', P', M', h1, h2, G, V⟩ := S
  refine ⟨v', L', t', h2, ⟨P', ?_, M', ?_, h1, h.ql, fun g e1 e2 => ?_⟩, G⟩
  · exact h.Q.same (G.blk q h.Q.blk.lt hpq.symm (h.Q.ty.ne h.M.ty (by decide)) (fun e => (h.P.tyr q e).ne h.Q.ty (by decide) rfl)) (fun g e => G.blk g (h.Q.tyr g e).lt ((h.Q.tyr g e).ne h.P.ty (by decide)) ((h.Q.tyr g e).ne h.M.ty (by decide)) (fun e2 => h.d g e2 e))
  · refine h.N.same fun k cs ty fr hc hk => ?_
    have hT : Tyb w k ty := ⟨cs, fr, hc⟩
    rcases hk with hk | hk
    · subst hk
      exact G.blk k hT.lt (hT.ne h.P.ty (by decide)) (hT.ne h.M.ty (by decide)) (fun e => (h.P.tyr k e).ne hT (by decide) rfl)
    · subst hk
      exact G.blk k hT.lt (h.N.ty.ne h.P.ty (by decide)) hmn.symm (fun e => (h.P.tyr k e).ne h.N.ty (by decide) rfl)
  · rcases V g e1 with e | e
    · exact h.d g e e2
    · have := (h.Q.tyr g e2).lt; omega
theorem Gm.toBelow {p m : Nat} {v : Value} {N : Nat} {w wr u : World} (G : Gm p m v wr u) (B : Below N w wr) (hN : N ≤ w.heap.size) (hp : N ≤ p) (hm : N ≤ m) (hv : ∀ g, v.ownBlock = some g → N ≤ g) : Below N w u :=
  ⟨G.os.trans B.os, G.tape.trans B.tape, G.output.trans B.output, Nat.le_trans B.size G.size, fun k hk => (G.blk k (Nat.lt_of_lt_of_le hk (Nat.le_trans hN B.size)) (by omega) (by omega) (fun e => by have := hv k e; omega)).trans (B.block k hk)⟩

end Go.Proofs.Ytoheombjbndolab
