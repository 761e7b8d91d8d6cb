/- A copy of spots. -/
import Derived.Test.YtlejhococjlijaaGreatDoorCpa
import Derived.Laws.OwnMore
import Derived.Deep.Onto
namespace Go.Proofs.YtlejhococjlijaaGreatDoor
open Go.RowKit Go.BigFrame
set_option linter.unusedVariables false
set_option linter.unusedSimpArgs false

theorem nf_int : (Tryz.prog.info? 3).map (fun i => (i.zero, i.size, i.bytes)) = some (some (.int .i64 0), 1, 8) := by kernel_rfl
theorem ints_at (zs : List Int) (j : Nat) (u : Value) (h : (intsV zs)[j]? = some u) : j < zs.length ∧ u = .int .i64 (zs.getD j 0) := by
  have hj := (List.getElem?_eq_some_iff.1 h).1
  rw [show (intsV zs).length = zs.length by simp [intsV]] at hj
  refine ⟨hj, ?_⟩
  unfold intsV at h
  rw [List.getElem?_map, List.getElem?_eq_getElem hj] at h
  simp only [Option.map_some, Option.some.injEq] at h
  rw [← h, List.getD_eq_getElem?_getD, List.getElem?_eq_getElem hj]
  rfl
/-- append of a whole row of numbers onto a row of one's own. -/
theorem wpList_append_ints {w : World} {ops : Array Oper} {rest : List Oper} {o : Oper} {a : Act} {Q : Exit → Act → World → Prop} (hgd : o.guard = none) (s x : Operand)
    (ho : o.op = .call { callee := .builtin .append, args := #[s, x], argTypes := #[49, 49] }) (v : Value) (base n : Nat) (xs : List Value) (hs : a.eval s = v) (O : w.ownsRow base 3 1 v n xs) (hb : base ≤ w.heap.size)
    (ao : Option Addr) (cap : Nat) (ts : List Int) (hx : a.eval x = .slice ao ts.length cap) (hsl : Sl ao ts.length cap) (A : IsInts w ao ts) (hl : (n + ts.length) * 8 ≤ 140737488351232)
    (h : ∀ v' w', w'.ownsRow base 3 1 v' (n + ts.length) (xs ++ intsV ts) → w.grownBy w' v.ownBlock → wpList Tryz.prog ops Q rest (a.put o.dst v') w') : wpList Tryz.prog ops Q (o :: rest) a w := by
  obtain ⟨i3, ti, tz0, tz1, tz2⟩ := nf_info nf_int
  have hlen : (intsV ts).length = ts.length := by simp [intsV]
  cases ao with
  | none =>
    obtain ⟨h0, rfl⟩ := hsl.2 rfl
    refine wpList_plain hgd fun K hK' => ?_
    have hrun := run_append_owned_none (P := Tryz.prog) w base 49 o.type 3 i3 1 Tryz.underlying49 ti v n xs O
    have hts : ts = [] := List.length_eq_zero_iff.1 h0
    subst hts
    replace hx : a.eval x = .slice none 0 0 := hx
    unfold Oper.wp
    simp [execOp, ho, resolve, invoke, builtin, hs, hx, hrun, Result.andThen]
    refine hK' _ _ (h _ _ ?_ (World.grownBy.refl _ _))
    rw [show intsV [] = [] from rfl, List.append_nil]
    exact O
  | some ad =>
    refine wpList_append_own (w := w) hgd s x 49 ho base 3 i3 (.int .i64 0) 1 8 Tryz.underlying49 ti tz0 tz1 tz2 rfl (by decide) v n xs hs O ad ts.length cap (intsV ts) hx (by rw [hlen, Nat.mul_one]) (fun j u hj => ?_) (fun u hu => ?_) (by unfold maxLen; omega) (by omega) hb (fun v' w' h1 h2 _ => h v' w' h1 h2)
    · obtain ⟨hj2, rfl⟩ := ints_at ts j u hj
      obtain ⟨g, off, e, c0⟩ := A j hj2
      cases e
      rw [Go.WideShapes.add_plain]
      exact c0
    · unfold intsV at hu
      obtain ⟨z, _, rfl⟩ := List.mem_map.1 hu
      rfl
/-- A local of five cells. -/
def Fv (w : World) (b : Nat) (c0 c1 c2 c3 c4 : Value) (t : TypeId) : Prop := w.heap[b]? = some (.cells #[c0, c1, c2, c3, c4] t (0, 0))
section
variable {w u : World} {b : Nat} {c0 c1 c2 c3 c4 : Value} {t : TypeId}
theorem Fv.lt (h : Fv w b c0 c1 c2 c3 c4 t) : b < w.heap.size := lt_of_block h
theorem Fv.at (h : Fv w b c0 c1 c2 c3 c4 t) : w.cell? ⟨b, 0, none⟩ = some c0 ∧ w.cell? ⟨b, 1, none⟩ = some c1 ∧ w.cell? ⟨b, 2, none⟩ = some c2 ∧ w.cell? ⟨b, 3, none⟩ = some c3 ∧ w.cell? ⟨b, 4, none⟩ = some c4 := ⟨cell_of_row w b 0 _ _ _ h, cell_of_row w b 1 _ _ _ h, cell_of_row w b 2 _ _ _ h, cell_of_row w b 3 _ _ _ h, cell_of_row w b 4 _ _ _ h⟩
theorem Fv.free (h : Fv w b c0 c1 c2 c3 c4 t) (o : Nat) : w.frozen? ⟨b, o, none⟩ = false := by unfold Fv at h; simp [World.frozen?, h]
theorem Fv.new (w : World) (c0 c1 c2 c3 c4 : Value) (t : TypeId) : Fv (w.alloc (.cells #[c0, c1, c2, c3, c4] t)) w.heap.size c0 c1 c2 c3 c4 t := by
  show (w.heap.push _)[w.heap.size]? = _
  simp
theorem Fv.keep (h : Fv w b c0 c1 c2 c3 c4 t) (G : Below w.heap.size w u) : Fv u b c0 c1 c2 c3 c4 t := (G.block b h.lt).trans h
theorem Fv.alloc (h : Fv w b c0 c1 c2 c3 c4 t) (o : Obj) : Fv (w.alloc o) b c0 c1 c2 c3 c4 t := (Below.heap_alloc w o b h.lt).trans h
theorem Fv.other (h : Fv w b c0 c1 c2 c3 c4 t) {b' : Nat} (hne : b' ≠ b) (o : Nat) (v : Value) : Fv (w.setCell ⟨b', o, none⟩ v) b c0 c1 c2 c3 c4 t := by
  unfold Fv at h ⊢
  rw [← h]
  show (w.heap.modify b' _)[b]? = _
  rw [Array.getElem?_modify, if_neg hne]
theorem Fv.go (w : World) (cs : Array Value) (o : Nat) (a : Value) (h : w.heap[b]? = some (.cells cs t (0, 0))) : (w.setCell ⟨b, o, none⟩ a).heap[b]? = some (.cells (cs.setIfInBounds o a) t (0, 0)) := by
  have hlt := lt_of_block h
  have h' : w.heap[b] = .cells cs t (0, 0) := by simpa [Array.getElem?_eq_getElem hlt] using h
  show (w.heap.modify b _)[b]? = _
  rw [Array.getElem?_eq_getElem (by simpa using hlt), Array.getElem_modify_self, h']
  rfl
theorem Fv.set0 (h : Fv w b c0 c1 c2 c3 c4 t) (v : Value) : Fv (w.setCell ⟨b, 0, none⟩ v) b v c1 c2 c3 c4 t := Fv.go w _ 0 v h
theorem Fv.set1 (h : Fv w b c0 c1 c2 c3 c4 t) (v : Value) : Fv (w.setCell ⟨b, 1, none⟩ v) b c0 v c2 c3 c4 t := Fv.go w _ 1 v h
theorem Fv.set2 (h : Fv w b c0 c1 c2 c3 c4 t) (v : Value) : Fv (w.setCell ⟨b, 2, none⟩ v) b c0 c1 v c3 c4 t := Fv.go w _ 2 v h
theorem Fv.set3 (h : Fv w b c0 c1 c2 c3 c4 t) (v : Value) : Fv (w.setCell ⟨b, 3, none⟩ v) b c0 c1 c2 v c4 t := Fv.go w _ 3 v h
theorem Fv.set4 (h : Fv w b c0 c1 c2 c3 c4 t) (v : Value) : Fv (w.setCell ⟨b, 4, none⟩ v) b c0 c1 c2 c3 v t := Fv.go w _ 4 v h
end
theorem own_ints {w : World} {b : Nat} {ao : Option Addr} {c : Nat} {zs : List Int} (h : w.ownsRow b 3 1 (.slice ao zs.length c) zs.length (intsV zs)) : IsInts w ao zs := fun i hi => by
  rcases h.2 with ⟨h1, h2⟩ | ⟨g, c', cur, h1, _, _, _, _⟩
  · omega
  · cases h1
    refine ⟨g, 0, rfl, ?_⟩
    rw [Nat.zero_add, World.ownsRow.cellAt h i (by omega)]
    simp [intsV, List.getD, List.getElem?_eq_getElem hi]
/-- A row of rows of numbers of one's own. -/
theorem own_iss {w : World} {b b' : Nat} {ao : Option Addr} {c : Nat} {l : List (List Int)} {vs : List Value} (hl : vs.length = l.length) (h : w.ownsRow b 49 1 (.slice ao l.length c) l.length vs) (hin : ∀ j, j < l.length → ∃ a c', vs[j]? = some (.slice a (l.getD j []).length c') ∧ w.ownsRow b' 3 1 (.slice a (l.getD j []).length c') (l.getD j []).length (intsV (l.getD j []))) : IsIss w ao l := fun i hi => by
  obtain ⟨a, c', e, O⟩ := hin i hi
  rcases h.2 with ⟨h1, h2⟩ | ⟨g, c2, cur, h1, _, _, _, _⟩
  · omega
  · cases h1
    refine ⟨g, 0, a, c', rfl, ?_, own_ints O, own_sl O⟩
    rw [Nat.zero_add, World.ownsRow.cellAt h i (by omega)]
    exact e
theorem nf_ints : (Tryz.prog.info? 49).map (fun i => (i.zero, i.size, i.bytes)) = some (some (.slice none 0 0), 1, 24) := by kernel_rfl
end Go.Proofs.YtlejhococjlijaaGreatDoor
