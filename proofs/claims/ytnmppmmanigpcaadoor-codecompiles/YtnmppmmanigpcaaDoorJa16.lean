/- A schema of the call's own; what the law's twin comes to. And what goes with it: 6 texts in one. -/
import Derived.Test.YtnmppmmanigpcaaDoorJa15
import Derived.Deep.AppendLies
import Derived.Deep.RegionLaw
import Derived.OwnWalk
import Derived.Laws.OwnMore
import Derived.Deep.Onto
namespace Go.Proofs.YtnmppmmanigpcaaDoor
open Go.RowKit Go.BigFrame
set_option linter.unusedVariables false
set_option linter.unusedSimpArgs false

def strsV (ss : List ByteArray) : List Value := ss.map Value.string
theorem strsV_more (ss : List ByteArray) (k : Nat) (h : k < ss.length) : strsV (ss.take k) ++ [.string (ss.getD k .empty)] = strsV (ss.take (k + 1)) := by
  unfold strsV
  rw [List.take_add_one]
  simp only [List.map_append, List.getD, List.getElem?_eq_getElem h, Option.getD_some, Option.toList_some, List.map_cons, List.map_nil]
/-- The value v holds the types L in memory that lies at base or behind. -/
def OwnT (base : Nat) (w : World) (v : Value) (n : Nat) (L : List Ty) : Prop :=
  L.length = n ∧ ∃ cells : List Value, w.ownsRow base 66 2 v n cells ∧ ∀ j, j < n → cells[j * 2]? = some (.string (L.getD j noTy).1) ∧
    ∃ aj cj, cells[j * 2 + 1]? = some (.slice aj (L.getD j noTy).2.length cj) ∧ w.ownsRow base 9 1 (.slice aj (L.getD j noTy).2.length cj) (L.getD j noTy).2.length (strsV (L.getD j noTy).2)
theorem OwnT.keep {base : Nat} {w u : World} {v : Value} {n : Nat} {L : List Ty} (h : OwnT base w v n L) (G : Below w.heap.size w u) : OwnT base u v n L := by
  obtain ⟨h0, cells, h1, h2⟩ := h
  refine ⟨h0, cells, own_keep h1 G, fun j hj => ?_⟩
  obtain ⟨e1, aj, cj, e2, e3⟩ := h2 j hj
  exact ⟨e1, aj, cj, e2, own_keep e3 G⟩
theorem OwnT.mono {base base' : Nat} {w : World} {v : Value} {n : Nat} {L : List Ty} (h : OwnT base w v n L) (hb : base' ≤ base) : OwnT base' w v n L := by
  obtain ⟨h0, cells, h1, h2⟩ := h
  refine ⟨h0, cells, own_mono h1 hb, fun j hj => ?_⟩
  obtain ⟨e1, aj, cj, e2, e3⟩ := h2 j hj
  exact ⟨e1, aj, cj, e2, own_mono e3 hb⟩
theorem OwnT.other {base : Nat} {w : World} {v : Value} {n : Nat} {L : List Ty} (h : OwnT base w v n L) {p : Addr} (hp : p.block < base) (u : Value) : OwnT base (w.setCell p u) v n L := by
  obtain ⟨h0, cells, h1, h2⟩ := h
  refine ⟨h0, cells, own_of_block h1 (fun g _ hg _ => Below.heap_setCell w p u g (by omega)), fun j hj => ?_⟩
  obtain ⟨e1, aj, cj, e2, e3⟩ := h2 j hj
  exact ⟨e1, aj, cj, e2, own_of_block e3 (fun g _ hg _ => Below.heap_setCell w p u g (by omega))⟩
theorem own_cell {w : World} {base : Nat} {e : TypeId} {size : Nat} {g n cap : Nat} {xs : List Value} (h : w.ownsRow base e size (.slice (some ⟨g, 0, none⟩) n cap) n xs) (j : Nat) (x : Value) (hj : xs[j]? = some x) : w.cell? ⟨g, j, none⟩ = some x := by
  obtain ⟨h1, h2⟩ := h
  rcases h2 with ⟨e1, _⟩ | ⟨g', cap', cur, e1, hb, hh, hc, hm, hs, ht⟩
  · simp at e1
  · simp only [Value.slice.injEq, Option.some.injEq, Addr.mk.injEq, and_true, true_and] at e1
    obtain ⟨rfl, rfl⟩ := e1
    rw [cell_of_row w g j cur e (0, 0) hh]
    have hjl := (List.getElem?_eq_some_iff.1 hj).1
    have e1 : cur.toList[j]? = xs[j]? := by rw [← ht, List.getElem?_take, if_pos (by omega)]
    have e2 : cur[j]? = cur.toList[j]? := by simp
    rw [e2, e1, hj]
theorem own_shape {w : World} {base : Nat} {e : TypeId} {size : Nat} {v : Value} {n : Nat} {xs : List Value} (h : w.ownsRow base e size v n xs) : ∃ ao cap, v = .slice ao n cap ∧ n ≤ 9223372036854775807 ∧ (n = 0 ∨ ∃ g, ao = some ⟨g, 0, none⟩ ∧ g < w.heap.size ∧ base ≤ g) := by
  obtain ⟨h1, h2⟩ := h
  rcases h2 with ⟨rfl, rfl⟩ | ⟨g, cap, cur, rfl, hb, hh, hc, hm, hs, ht⟩
  · exact ⟨_, _, rfl, by omega, .inl rfl⟩
  · exact ⟨_, _, rfl, by unfold maxLen at hm; omega, .inr ⟨g, rfl, lt_of_block hh, hb⟩⟩
theorem own_cap {w : World} {base : Nat} {e : TypeId} {size : Nat} {ao : Option Addr} {n cap : Nat} {xs : List Value} (h : w.ownsRow base e size (.slice ao n cap) n xs) : n ≤ cap := by
  rcases h.2 with ⟨e1, rfl⟩ | ⟨g, cap', cur, e1, _, _, hc, _⟩
  · exact Nat.zero_le _
  · simp only [Value.slice.injEq, true_and] at e1
    obtain ⟨_, rfl⟩ := e1
    exact hc
theorem OwnT.types {base : Nat} {w : World} {v : Value} {n : Nat} {L : List Ty} (h : OwnT base w v n L) : ∃ ao cap, v = .slice ao n cap ∧ IsTypes w ao n L := by
  obtain ⟨h0, cells, h1, h2⟩ := h
  obtain ⟨ao, cap, rfl, hn, hg⟩ := own_shape h1
  refine ⟨ao, cap, rfl, h0, hn, ?_⟩
  rcases hg with hg | ⟨g, rfl, hlt, hb⟩
  · exact .inl hg
  refine .inr ⟨g, 0, rfl, hlt, fun j hj => ?_⟩
  obtain ⟨e1, aj, cj, e2, e3⟩ := h2 j hj
  refine ⟨by rw [Nat.zero_add]; exact own_cell h1 _ _ e1, aj, cj, by rw [Nat.zero_add]; exact own_cell h1 _ _ e2, own_cap e3, ?_⟩
  obtain ⟨ao2, cap2, e4, hn2, hg2⟩ := own_shape e3
  simp only [Value.slice.injEq, true_and] at e4
  obtain ⟨rfl, rfl⟩ := e4
  refine ⟨rfl, hn2, ?_⟩
  rcases hg2 with hg2 | ⟨g2, rfl, hlt2, _⟩
  · exact .inl hg2
  refine .inr ⟨g2, 0, rfl, hlt2, fun i hi => ?_⟩
  rw [Nat.zero_add]
  have hi' : (L.getD j noTy).2[i]? = some ((L.getD j noTy).2.getD i .empty) := by
    rw [List.getD_eq_getElem?_getD (l := (L.getD j noTy).2), List.getElem?_eq_getElem hi]; rfl
  exact own_cell e3 _ _ (by unfold strsV; rw [List.getElem?_map, hi']; rfl)

theorem new2 (w : World) (x y : Value) (t : TypeId) (j : Nat) (u : Value) (h : [x, y][j]? = some u) : (w.alloc (.cells #[x, y] t)).cell? ((⟨w.heap.size, 0, none⟩ : Addr).add j) = some u := by
  rw [Go.WideShapes.add_plain, Nat.zero_add, World.cell?_alloc_new]
  simpa using h
theorem getD_take {α : Type} (l : List α) (k j : Nat) (d : α) (h : j < k) : (l.take k).getD j d = l.getD j d := by
  simp [List.getD, List.getElem?_take, h]
/-- A row of strings is not the row of types. -/
theorem row_apart {w : World} {base : Nat} {v : Value} {n : Nat} {xs : List Value} (h : w.ownsRow base 66 2 v n xs) {g : Nat} {cur : Array Value} (hg : w.heap[g]? = some (.cells cur 9 (0, 0))) : some g ≠ v.ownBlock := by
  rcases h.2 with ⟨rfl, _⟩ | ⟨g', cap', cur', rfl, hb, hh, r⟩
  · simp [Value.ownBlock]
  · simp only [Value.ownBlock, ne_eq, Option.some.injEq]
    intro e
    subst e
    rw [hg] at hh
    simp at hh
theorem infoS : (Tryd.prog.info? 9).map (fun i => (i.zero, i.size, i.bytes)) = some (some (.string ⟨#[]⟩), 1, 16) := by kernel_rfl
theorem info_partsS : ∃ i, Tryd.prog.info? 9 = some i ∧ i.zero = some (.string ⟨#[]⟩) ∧ i.size = 1 ∧ i.bytes = 16 := by
  have h := infoS
  cases hq : Tryd.prog.info? 9 with
  | none => simp [hq] at h
  | some i => simp [hq] at h; exact ⟨i, rfl, h.1, h.2.1, h.2.2⟩
theorem infoT : (Tryd.prog.info? 66).map (fun i => (i.zero, i.size, i.bytes)) = some (some (.agg #[.string ⟨#[]⟩, .slice none 0 0]), 2, 40) := by kernel_rfl
theorem info_partsT : ∃ i, Tryd.prog.info? 66 = some i ∧ i.zero = some (.agg #[.string ⟨#[]⟩, .slice none 0 0]) ∧ i.size = 2 ∧ i.bytes = 40 := by
  have h := infoT
  cases hq : Tryd.prog.info? 66 with
  | none => simp [hq] at h
  | some i => simp [hq] at h; exact ⟨i, rfl, h.1, h.2.1, h.2.2⟩

end Go.Proofs.YtnmppmmanigpcaaDoor
namespace Go.Proofs.YtnmppmmanigpcaaDoor
open Go.RowKit Go.BigFrame
set_option linter.unusedVariables false
set_option linter.unusedSimpArgs false

def entI (zs : List Int) (i : Int) : Int := if i < 0 ∨ (zs.length : Int) ≤ i then 0 else zs.getD i.toNat 0
def entR (l : List (List Int)) (i : Int) : List Int := if i < 0 ∨ (l.length : Int) ≤ i then [] else l.getD i.toNat []
theorem Blk4 (w : World) (a b c d : Value) (t : TypeId) : (w.alloc (.cells #[a, b, c, d] t)).cell? ⟨w.heap.size, 2, none⟩ = some c ∧ (w.alloc (.cells #[a, b, c, d] t)).cell? ⟨w.heap.size, 3, none⟩ = some d := ⟨by simp, by simp⟩
/-- A flaw: its code, part, index, sub. -/
structure Fw where
  code : Int
  part : Int
  ix : Int
  sub : Int
structure Fw.fit (f : Fw) : Prop where
  code : fI f.code
  part : fI f.part
  ix : fI f.ix
  sub : fI f.sub
def fwA (f : Fw) : Array Value := #[.int .i64 f.code, .int .i64 f.part, .int .i64 f.ix, .int .i64 f.sub]
def plaO (s : Sps) (f : Fw) : Int :=
  if f.part = 1 then entI s.items f.ix else if f.part = 2 then s.within else if f.part = 3 then s.by_ else if f.part = 4 then entI s.wh f.ix else if f.part = 5 then entI (entR s.ret f.ix) f.sub else 0
theorem entR_small {s : Sps} (hs : s.fit) (i : Int) : (entR s.ret i).length * 8 ≤ 140737488351232 := by
  unfold entR
  split
  · simp
  · exact hs.ret _
end Go.Proofs.YtnmppmmanigpcaaDoor
namespace Go.Proofs.YtnmppmmanigpcaaDoor
open Go.RowKit Go.BigFrame
set_option linter.unusedVariables false
set_option linter.unusedSimpArgs false

theorem nf_int : (Tryd.prog.info? 3).map (fun i => (i.zero, i.size, i.bytes)) = some (some (.int .i64 0), 1, 8) := by kernel_rfl
theorem ints_at (zs : List Int) (j : Nat) (u : Value) (h : (intsV zs)[j]? = some u) : j < zs.length ∧ u = .int .i64 (zs.getD j 0) := by
  have hj := (List.getElem?_eq_some_iff.1 h).1
  rw [show (intsV zs).length = zs.length by simp [intsV]] at hj
  refine ⟨hj, ?_⟩
  unfold intsV at h
  rw [List.getElem?_map, List.getElem?_eq_getElem hj] at h
  simp only [Option.map_some, Option.some.injEq] at h
  rw [← h, List.getD_eq_getElem?_getD, List.getElem?_eq_getElem hj]
  rfl
/-- append of a whole row of numbers onto a row of one's own. -/
theorem wpList_append_ints {w : World} {ops : Array Oper} {rest : List Oper} {o : Oper} {a : Act} {Q : Exit → Act → World → Prop} (hgd : o.guard = none) (s x : Operand)
    (ho : o.op = .call { callee := .builtin .append, args := #[s, x], argTypes := #[60, 60] }) (v : Value) (base n : Nat) (xs : List Value) (hs : a.eval s = v) (O : w.ownsRow base 3 1 v n xs) (hb : base ≤ w.heap.size)
    (ao : Option Addr) (cap : Nat) (ts : List Int) (hx : a.eval x = .slice ao ts.length cap) (hsl : Sl ao ts.length cap) (A : IsInts w ao ts) (hl : (n + ts.length) * 8 ≤ 140737488351232)
    (h : ∀ v' w', w'.ownsRow base 3 1 v' (n + ts.length) (xs ++ intsV ts) → w.grownBy w' v.ownBlock → wpList Tryd.prog ops Q rest (a.put o.dst v') w') : wpList Tryd.prog ops Q (o :: rest) a w := by
  obtain ⟨i3, ti, tz0, tz1, tz2⟩ := nf_info nf_int
  have hlen : (intsV ts).length = ts.length := by simp [intsV]
  cases ao with
  | none =>
    obtain ⟨h0, rfl⟩ := hsl.2 rfl
    refine wpList_plain hgd fun K hK' => ?_
    have hrun := run_append_owned_none (P := Tryd.prog) w base 60 o.type 3 i3 1 Tryd.underlying60 ti v n xs O
    have hts : ts = [] := List.length_eq_zero_iff.1 h0
    subst hts
    replace hx : a.eval x = .slice none 0 0 := hx
    unfold Oper.wp
    simp [execOp, ho, resolve, invoke, builtin, hs, hx, hrun, Result.andThen]
    refine hK' _ _ (h _ _ ?_ (World.grownBy.refl _ _))
    rw [show intsV [] = [] from rfl, List.append_nil]
    exact O
  | some ad =>
    refine wpList_append_own (w := w) hgd s x 60 ho base 3 i3 (.int .i64 0) 1 8 Tryd.underlying60 ti tz0 tz1 tz2 rfl (by decide) v n xs hs O ad ts.length cap (intsV ts) hx (by rw [hlen, Nat.mul_one]) (fun j u hj => ?_) (fun u hu => ?_) (by unfold maxLen; omega) (by omega) hb (fun v' w' h1 h2 _ => h v' w' h1 h2)
    · obtain ⟨hj2, rfl⟩ := ints_at ts j u hj
      obtain ⟨g, off, e, c0⟩ := A j hj2
      cases e
      rw [Go.WideShapes.add_plain]
      exact c0
    · unfold intsV at hu
      obtain ⟨z, _, rfl⟩ := List.mem_map.1 hu
      rfl
/-- A local of five cells. -/
def Fv (w : World) (b : Nat) (c0 c1 c2 c3 c4 : Value) (t : TypeId) : Prop := w.heap[b]? = some (.cells #[c0, c1, c2, c3, c4] t (0, 0))
section
variable {w u : World} {b : Nat} {c0 c1 c2 c3 c4 : Value} {t : TypeId}
theorem Fv.lt (h : Fv w b c0 c1 c2 c3 c4 t) : b < w.heap.size := lt_of_block h
theorem Fv.at (h : Fv w b c0 c1 c2 c3 c4 t) : w.cell? ⟨b, 0, none⟩ = some c0 ∧ w.cell? ⟨b, 1, none⟩ = some c1 ∧ w.cell? ⟨b, 2, none⟩ = some c2 ∧ w.cell? ⟨b, 3, none⟩ = some c3 ∧ w.cell? ⟨b, 4, none⟩ = some c4 := ⟨cell_of_row w b 0 _ _ _ h, cell_of_row w b 1 _ _ _ h, cell_of_row w b 2 _ _ _ h, cell_of_row w b 3 _ _ _ h, cell_of_row w b 4 _ _ _ h⟩
theorem Fv.free (h : Fv w b c0 c1 c2 c3 c4 t) (o : Nat) : w.frozen? ⟨b, o, none⟩ = false := by unfold Fv at h; simp [World.frozen?, h]
theorem Fv.new (w : World) (c0 c1 c2 c3 c4 : Value) (t : TypeId) : Fv (w.alloc (.cells #[c0, c1, c2, c3, c4] t)) w.heap.size c0 c1 c2 c3 c4 t := by
  show (w.heap.push _)[w.heap.size]? = _
  simp
theorem Fv.keep (h : Fv w b c0 c1 c2 c3 c4 t) (G : Below w.heap.size w u) : Fv u b c0 c1 c2 c3 c4 t := (G.block b h.lt).trans h
theorem Fv.alloc (h : Fv w b c0 c1 c2 c3 c4 t) (o : Obj) : Fv (w.alloc o) b c0 c1 c2 c3 c4 t := (Below.heap_alloc w o b h.lt).trans h
theorem Fv.other (h : Fv w b c0 c1 c2 c3 c4 t) {b' : Nat} (hne : b' ≠ b) (o : Nat) (v : Value) : Fv (w.setCell ⟨b', o, none⟩ v) b c0 c1 c2 c3 c4 t := by
  unfold Fv at h ⊢
  rw [← h]
  show (w.heap.modify b' _)[b]? = _
  rw [Array.getElem?_modify, if_neg hne]
theorem Fv.go (w : World) (cs : Array Value) (o : Nat) (a : Value) (h : w.heap[b]? = some (.cells cs t (0, 0))) : (w.setCell ⟨b, o, none⟩ a).heap[b]? = some (.cells (cs.setIfInBounds o a) t (0, 0)) := by
  have hlt := lt_of_block h
  have h' : w.heap[b] = .cells cs t (0, 0) := by simpa [Array.getElem?_eq_getElem hlt] using h
  show (w.heap.modify b _)[b]? = _
  rw [Array.getElem?_eq_getElem (by simpa using hlt), Array.getElem_modify_self, h']
  rfl
theorem Fv.set0 (h : Fv w b c0 c1 c2 c3 c4 t) (v : Value) : Fv (w.setCell ⟨b, 0, none⟩ v) b v c1 c2 c3 c4 t := Fv.go w _ 0 v h
theorem Fv.set1 (h : Fv w b c0 c1 c2 c3 c4 t) (v : Value) : Fv (w.setCell ⟨b, 1, none⟩ v) b c0 v c2 c3 c4 t := Fv.go w _ 1 v h
theorem Fv.set2 (h : Fv w b c0 c1 c2 c3 c4 t) (v : Value) : Fv (w.setCell ⟨b, 2, none⟩ v) b c0 c1 v c3 c4 t := Fv.go w _ 2 v h
theorem Fv.set3 (h : Fv w b c0 c1 c2 c3 c4 t) (v : Value) : Fv (w.setCell ⟨b, 3, none⟩ v) b c0 c1 c2 v c4 t := Fv.go w _ 3 v h
theorem Fv.set4 (h : Fv w b c0 c1 c2 c3 c4 t) (v : Value) : Fv (w.setCell ⟨b, 4, none⟩ v) b c0 c1 c2 c3 v t := Fv.go w _ 4 v h
end
theorem own_ints {w : World} {b : Nat} {ao : Option Addr} {c : Nat} {zs : List Int} (h : w.ownsRow b 3 1 (.slice ao zs.length c) zs.length (intsV zs)) : IsInts w ao zs := fun i hi => by
  rcases h.2 with ⟨h1, h2⟩ | ⟨g, c', cur, h1, _, _, _, _⟩
  · omega
  · cases h1
    refine ⟨g, 0, rfl, ?_⟩
    rw [Nat.zero_add, World.ownsRow.cellAt h i (by omega)]
    simp [intsV, List.getD, List.getElem?_eq_getElem hi]
/-- A row of rows of numbers of one's own. -/
theorem own_iss {w : World} {b b' : Nat} {ao : Option Addr} {c : Nat} {l : List (List Int)} {vs : List Value} (hl : vs.length = l.length) (h : w.ownsRow b 60 1 (.slice ao l.length c) l.length vs) (hin : ∀ j, j < l.length → ∃ a c', vs[j]? = some (.slice a (l.getD j []).length c') ∧ w.ownsRow b' 3 1 (.slice a (l.getD j []).length c') (l.getD j []).length (intsV (l.getD j []))) : IsIss w ao l := fun i hi => by
  obtain ⟨a, c', e, O⟩ := hin i hi
  rcases h.2 with ⟨h1, h2⟩ | ⟨g, c2, cur, h1, _, _, _, _⟩
  · omega
  · cases h1
    refine ⟨g, 0, a, c', rfl, ?_, own_ints O, own_sl O⟩
    rw [Nat.zero_add, World.ownsRow.cellAt h i (by omega)]
    exact e
theorem nf_ints : (Tryd.prog.info? 60).map (fun i => (i.zero, i.size, i.bytes)) = some (some (.slice none 0 0), 1, 24) := by kernel_rfl
end Go.Proofs.YtnmppmmanigpcaaDoor
namespace Go.Proofs.YtnmppmmanigpcaaDoor
open Go.RowKit Go.BigFrame
set_option linter.unusedVariables false
set_option linter.unusedSimpArgs false

def qyA (q : Qy) (ai : Option Addr) (ci : Nat) (aw : Option Addr) (cw : Nat) (ar : Option Addr) (cr : Nat) : Array Value := #[.slice ai q.items.length ci, .int .i64 q.mode, .int .i64 q.after, .slice aw q.wh.length cw, .int .i64 q.within, .string q.by_, .slice ar q.ret.length cr]
set_option maxRecDepth 100000 in
set_option maxHeartbeats 8000000 in
theorem qBeyond_any (q : Qy) (hq : q.fit) (cs : Array Value) (ai : Option Addr) (ci : Nat) (aw : Option Addr) (cw : Nat) (ar : Option Addr) (cr : Nat) (w : World) (A : IsQ w q cs ai ci aw cw ar cr) :
    Calls Tryd.prog 5 #[.agg cs] w fun e w' => ∃ bb, e = .returned (.bool bb) ∧ Below w.heap.size w w' := by
  obtain ⟨he, Ai, Aw, Ar, si, sw, sr⟩ := A
  subst he
  have hr := hq.r
  have c1 := fun (u : World) (g : Below w.heap.size w u) => beyond_any q.wh aw cw u (Aw.keep g) hq.wh.1 hq.wh.2
  have B0 := galloc (Below.refl w.heap.size w) (.cells #[.slice ai q.items.length ci, .int .i64 q.mode, .int .i64 q.after, .slice aw q.wh.length cw, .int .i64 q.within, .string q.by_, .slice ar q.ret.length cr] 31)
  have S0 := Bk.new w #[.slice ai q.items.length ci, .int .i64 q.mode, .int .i64 q.after, .slice aw q.wh.length cw, .int .i64 q.within, .string q.by_, .slice ar q.ret.length cr] 31
  go_enter Tryd.func5, Tryd.ntmps5
  go_wp2_with (go_at_call 6; (with_reducible refine (c1 _ B0).mono ?_); rintro e u1 ⟨b1, rfl, g1⟩)
  have G1 := gtrans B0 g1
  have S1 := S0.keep g1
  go_loopw [3, 4, 5] (fun d x _ wr => ∃ (k : Nat) (bb : Bool), k ≤ q.ret.length ∧ x = .int .i64 k ∧ d = .bool bb ∧ Bk wr w.heap.size #[.slice ai q.items.length ci, .int .i64 q.mode, .int .i64 q.after, .slice aw q.wh.length cw, .int .i64 q.within, .string q.by_, .slice ar q.ret.length cr] 31 ∧ Below w.heap.size w wr) (fun _ x _ _ => q.ret.length - (intOf x).toNat)
  case atStart => exact ⟨0, b1, Nat.zero_le _, rfl, rfl, S1, G1⟩
  case round =>
    obtain ⟨k, bb, hk, rfl, rfl, S, G⟩ := hrel
    obtain ⟨_, _, _, _, _, _, s6⟩ := S.at7
    by_cases hlt : k < q.ret.length
    · obtain ⟨g, o, a, c, rfl, x0, I, sl⟩ := (Ar.keep G) k hlt
      have hki : (k : Int) < (q.ret.length : Int) := by omega
      have c2 := beyond_any (q.ret.getD k []) a c wr I (hq.ret k).1 (hq.ret k).2
      generalize q.ret.getD k [] = rk at *
      go_wp2_with (go_at_call 6; (with_reducible refine c2.mono ?_); rintro e u2 ⟨b2, rfl, g2⟩)
      all_goals
        go_roundw
        case rel => exact ⟨k + 1, _, by omega, by go_num, rfl, S.keep g2, gtrans G g2⟩
        case measure => simp [intOf]; omega
    · have hkn : k = q.ret.length := by omega
      subst hkn
      go_wp2
      go_ret
      exact ⟨_, rfl, G⟩

end Go.Proofs.YtnmppmmanigpcaaDoor
namespace Go.Proofs.YtnmppmmanigpcaaDoor
open Go.RowKit Go.BigFrame
set_option linter.unusedVariables false
set_option linter.unusedSimpArgs false

def ssV (l : List ByteArray) : List Value := l.map Value.string
theorem nf_str : (Tryd.prog.info? 9).map (fun i => (i.zero, i.size, i.bytes)) = some (some (.string ⟨#[]⟩), 1, 16) := by kernel_rfl
theorem ss_at (zs : List ByteArray) (j : Nat) (u : Value) (h : (ssV zs)[j]? = some u) : j < zs.length ∧ u = .string (zs.getD j eS) := by
  have hj := (List.getElem?_eq_some_iff.1 h).1
  rw [show (ssV zs).length = zs.length by simp [ssV]] at hj
  refine ⟨hj, ?_⟩
  unfold ssV at h
  rw [List.getElem?_map, List.getElem?_eq_getElem hj] at h
  simp only [Option.map_some, Option.some.injEq] at h
  rw [← h, List.getD_eq_getElem?_getD, List.getElem?_eq_getElem hj]
  rfl
/-- append of a whole row of strings onto a row of one's own. -/
theorem wpList_append_ss {w : World} {ops : Array Oper} {rest : List Oper} {o : Oper} {a : Act} {Q : Exit → Act → World → Prop} (hgd : o.guard = none) (s x : Operand)
    (ho : o.op = .call { callee := .builtin .append, args := #[s, x], argTypes := #[64, 64] }) (v : Value) (base n : Nat) (xs : List Value) (hs : a.eval s = v) (O : w.ownsRow base 9 1 v n xs) (hb : base ≤ w.heap.size)
    (ao : Option Addr) (cap : Nat) (ts : List ByteArray) (hx : a.eval x = .slice ao ts.length cap) (hsl : Sl ao ts.length cap) (A : IsSs w ao ts) (hl : (n + ts.length) * 16 ≤ 140737488351232)
    (h : ∀ v' w', w'.ownsRow base 9 1 v' (n + ts.length) (xs ++ ssV ts) → w.grownBy w' v.ownBlock → wpList Tryd.prog ops Q rest (a.put o.dst v') w') : wpList Tryd.prog ops Q (o :: rest) a w := by
  obtain ⟨i3, ti, tz0, tz1, tz2⟩ := nf_info nf_str
  have hlen : (ssV ts).length = ts.length := by simp [ssV]
  cases ao with
  | none =>
    obtain ⟨h0, rfl⟩ := hsl.2 rfl
    refine wpList_plain hgd fun K hK' => ?_
    have hrun := run_append_owned_none (P := Tryd.prog) w base 64 o.type 9 i3 1 Tryd.underlying64 ti v n xs O
    have hts : ts = [] := List.length_eq_zero_iff.1 h0
    subst hts
    replace hx : a.eval x = .slice none 0 0 := hx
    unfold Oper.wp
    simp [execOp, ho, resolve, invoke, builtin, hs, hx, hrun, Result.andThen]
    refine hK' _ _ (h _ _ ?_ (World.grownBy.refl _ _))
    rw [show ssV [] = [] from rfl, List.append_nil]
    exact O
  | some ad =>
    refine wpList_append_own (w := w) hgd s x 64 ho base 9 i3 (.string ⟨#[]⟩) 1 16 Tryd.underlying64 ti tz0 tz1 tz2 rfl (by decide) v n xs hs O ad ts.length cap (ssV ts) hx (by rw [hlen, Nat.mul_one]) (fun j u hj => ?_) (fun u hu => ?_) (by unfold maxLen; omega) (by omega) hb (fun v' w' h1 h2 _ => h v' w' h1 h2)
    · obtain ⟨hj2, rfl⟩ := ss_at ts j u hj
      obtain ⟨g, off, e, c0⟩ := A j hj2
      cases e
      rw [Go.WideShapes.add_plain]
      exact c0
    · unfold ssV at hu
      obtain ⟨z, _, rfl⟩ := List.mem_map.1 hu
      rfl
theorem own_ss {w : World} {b : Nat} {ao : Option Addr} {c : Nat} {zs : List ByteArray} (h : w.ownsRow b 9 1 (.slice ao zs.length c) zs.length (ssV zs)) : IsSs w ao zs := fun i hi => by
  rcases h.2 with ⟨h1, h2⟩ | ⟨g, c', cur, h1, _, _, _, _⟩
  · omega
  · cases h1
    refine ⟨g, 0, rfl, ?_⟩
    rw [Nat.zero_add, World.ownsRow.cellAt h i (by omega)]
    simp [ssV, List.getD, List.getElem?_eq_getElem hi]
theorem nf_it : (Tryd.prog.info? 79).map (fun i => (i.zero, i.size, i.bytes)) = some (some (.agg #[.bool false, .slice none 0 0, .string ⟨#[]⟩, .int .i64 0, .int .i64 0]), 5, 64) := by kernel_rfl
theorem nf_nds : (Tryd.prog.info? 28).map (fun i => (i.zero, i.size, i.bytes)) = some (some (.slice none 0 0), 1, 24) := by kernel_rfl
/-- The cells of an item whose types lie at a. -/
def itC (i : It) (a : Option Addr) (c : Nat) : Array Value := #[.bool i.neg, .slice a i.ty.length c, .string i.v, .int .i64 i.lo, .int .i64 i.hi]
theorem it_newE {w : World} {g : Nat} (hg : g = w.heap.size) (i : It) (a : Option Addr) (c : Nat) (j : Nat) (u : Value) (h : (itC i a c).toList[j]? = some u) : (w.alloc (.cells (itC i a c) 79)).cell? ((⟨g, 0, none⟩ : Addr).add j) = some u := by
  subst hg
  rw [Go.WideShapes.add_plain, Nat.zero_add, World.cell?_alloc_new]
  simpa using h
theorem it_one (i : It) (a : Option Addr) (c : Nat) : ∀ u ∈ (itC i a c).toList, u.oneCell' = true := by
  intro u hu
  simp [itC] at hu
  rcases hu with rfl | rfl | rfl | rfl | rfl <;> rfl
/-- A row of items of one's own as it is read. -/
theorem own_its {w : World} {b b' : Nat} {ao : Option Addr} {c : Nat} {l : List It} {vs : List Value} (h : w.ownsRow b 79 5 (.slice ao l.length c) l.length vs) (hin : ∀ j, j < l.length → ∃ a c', (∀ r, r < 5 → vs[j * 5 + r]? = (itC (l.getD j noIt) a c').toList[r]?) ∧ w.ownsRow b' 9 1 (.slice a (l.getD j noIt).ty.length c') (l.getD j noIt).ty.length (ssV (l.getD j noIt).ty)) : IsIts w ao l := fun i hi => by
  obtain ⟨a, c', e, O⟩ := hin i hi
  rcases h.2 with ⟨h1, h2⟩ | ⟨g, c2, cur, h1, _, _, _, _⟩
  · omega
  · cases h1
    have hc : ∀ r, r < 5 → w.cell? ⟨g, i * 5 + r, none⟩ = (itC (l.getD i noIt) a c').toList[r]? := fun r hr => by rw [World.ownsRow.cellAt h (i * 5 + r) (by omega), e r hr]
    refine ⟨g, 0, rfl, a, c', ?_⟩
    rw [Nat.zero_add]
    exact ⟨hc 0 (by omega), hc 1 (by omega), hc 2 (by omega), hc 3 (by omega), hc 4 (by omega), own_ss O, own_sl O⟩
theorem own_nss {w : World} {b b' : Nat} {ao : Option Addr} {c : Nat} {l : List (List Nd)} {vs : List Value} (h : w.ownsRow b 28 1 (.slice ao l.length c) l.length vs) (hin : ∀ j, j < l.length → ∃ a c', vs[j]? = some (.slice a (l.getD j []).length c') ∧ w.ownsRow b' 63 6 (.slice a (l.getD j []).length c') (l.getD j []).length (ndsV (l.getD j []))) : IsNss w ao l := fun i hi => by
  obtain ⟨a, c', e, O⟩ := hin i hi
  rcases h.2 with ⟨h1, h2⟩ | ⟨g, c2, cur, h1, _, _, _, _⟩
  · omega
  · cases h1
    refine ⟨g, 0, a, c', rfl, ?_, nds_of_own O, own_sl O⟩
    rw [Nat.zero_add, World.ownsRow.cellAt h i (by omega)]
    exact e
structure QLoop1 (q : Qy) (w : World) (zz : Nat) (ai : Option Addr) (ci : Nat) (aw : Option Addr) (cw : Nat) (ar : Option Addr) (cr : Nat) (x : Value) (wr : World) : Prop where
  ex : ∃ (k : Nat) (vs : List Value) (o : Option Addr) (oc : Nat), k ≤ q.items.length ∧ x = .int .i64 k ∧ Bk wr w.heap.size #[.slice ai q.items.length ci, .int .i64 q.mode, .int .i64 q.after, .slice aw q.wh.length cw, .int .i64 q.within, .string q.by_, .slice ar q.ret.length cr] 31 ∧ Bk wr (w.heap.size + 1) #[.slice none 0 0, .int .i64 0, .int .i64 0, .slice none 0 0, .int .i64 0, .string ⟨#[]⟩, .slice none 0 0] 31 ∧ Bk wr (w.heap.size + 1 + 1) #[.slice o k oc, .int .i64 q.mode, .int .i64 q.after, .slice aw q.wh.length cw, .int .i64 q.within, .string q.by_, .slice ar q.ret.length cr] 31 ∧
    vs.length = k * 5 ∧ wr.ownsRow zz 79 5 (.slice o k oc) k vs ∧ (∀ j, j < k → ∃ a c', (∀ r, r < 5 → vs[j * 5 + r]? = (itC (q.items.getD j noIt) a c').toList[r]?) ∧ wr.ownsRow w.heap.size 9 1 (.slice a (q.items.getD j noIt).ty.length c') (q.items.getD j noIt).ty.length (ssV (q.items.getD j noIt).ty)) ∧ zz ≤ wr.heap.size ∧ Below w.heap.size w wr
/-- The items' copy. -/
structure ItsO (q : Qy) (w : World) (zz : Nat) (oi : Option Addr) (ic : Nat) (vi : List Value) (wr : World) : Prop where
  own : wr.ownsRow zz 79 5 (.slice oi q.items.length ic) q.items.length vi
  inn : ∀ j, j < q.items.length → ∃ a c', (∀ r, r < 5 → vi[j * 5 + r]? = (itC (q.items.getD j noIt) a c').toList[r]?) ∧ wr.ownsRow w.heap.size 9 1 (.slice a (q.items.getD j noIt).ty.length c') (q.items.getD j noIt).ty.length (ssV (q.items.getD j noIt).ty)
theorem ItsO.map {q : Qy} {w : World} {zz : Nat} {oi : Option Addr} {ic : Nat} {vi : List Value} {wr wr' : World} (h : ItsO q w zz oi ic vi wr) (f : ∀ (e : TypeId) (b s : Nat) (v : Value) (n : Nat) (xs : List Value), (e = 79 ∨ e = 9) → wr.ownsRow b e s v n xs → wr'.ownsRow b e s v n xs) : ItsO q w zz oi ic vi wr' :=
  ⟨f _ _ _ _ _ _ (.inl rfl) h.own, fun j hj => by
    obtain ⟨a, c, h1, h2⟩ := h.inn j hj
    exact ⟨a, c, h1, f _ _ _ _ _ _ (.inr rfl) h2⟩⟩
structure QLoop2 (q : Qy) (w : World) (zz z2 : Nat) (oi : Option Addr) (ic : Nat) (vi : List Value) (a2 : Option Addr) (k2 : Nat) (ai : Option Addr) (ci : Nat) (aw : Option Addr) (cw : Nat) (ar : Option Addr) (cr : Nat) (x : Value) (wr : World) : Prop where
  ex : ∃ (k : Nat) (vs : List Value) (o : Option Addr) (oc : Nat), k ≤ q.ret.length ∧ x = .int .i64 k ∧ Bk wr w.heap.size #[.slice ai q.items.length ci, .int .i64 q.mode, .int .i64 q.after, .slice aw q.wh.length cw, .int .i64 q.within, .string q.by_, .slice ar q.ret.length cr] 31 ∧ Bk wr (w.heap.size + 1) #[.slice none 0 0, .int .i64 0, .int .i64 0, .slice none 0 0, .int .i64 0, .string ⟨#[]⟩, .slice none 0 0] 31 ∧ Bk wr (w.heap.size + 1 + 1) #[.slice oi q.items.length ic, .int .i64 q.mode, .int .i64 q.after, .slice a2 q.wh.length k2, .int .i64 q.within, .string q.by_, .slice o k oc] 31 ∧ ItsO q w zz oi ic vi wr ∧ wr.ownsRow w.heap.size 63 6 (.slice a2 q.wh.length k2) q.wh.length (ndsV q.wh) ∧
    vs.length = k ∧ wr.ownsRow z2 28 1 (.slice o k oc) k vs ∧ (∀ j, j < k → ∃ a c', vs[j]? = some (.slice a (q.ret.getD j []).length c') ∧ wr.ownsRow w.heap.size 63 6 (.slice a (q.ret.getD j []).length c') (q.ret.getD j []).length (ndsV (q.ret.getD j []))) ∧ z2 ≤ wr.heap.size ∧ Below w.heap.size w wr
end Go.Proofs.YtnmppmmanigpcaaDoor
namespace Go.Proofs.YtnmppmmanigpcaaDoor
open Go.RowKit Go.BigFrame
set_option linter.unusedVariables false
set_option linter.unusedSimpArgs false

theorem append_none0 {P : Program} {w : World} (base : Nat) (t ty e : TypeId) (i : TypeInfo) (size : Nat) (ht : P.underlying t = some (.slice e)) (hi : P.info? e = some i)
    (v : Value) (n c : Nat) (xs : List Value) (hown : w.ownsRow base e size v n xs) :
    (Builtin.append_ #[t, t] ty #[v, .slice none 0 c]).run P w = .ok v w := by
  rcases hown.2 with ⟨rfl, rfl⟩ | ⟨g, cap, cur, rfl, _, _, hnc, _⟩
  · simp [Builtin.append_, run_underlying ht, sizeOf, typeInfo, hi, Builtin.lenOf, Builtin.firstCells]
  · simp [Builtin.append_, run_underlying ht, sizeOf, typeInfo, hi, Builtin.lenOf, Builtin.firstCells, hnc, storeCells]
/-- append of a whole row of strings onto a row of one's own. -/
theorem wpList_append_strs {w : World} {ops : Array Oper} {rest : List Oper} {o : Oper} {a : Act} {Q : Exit → Act → World → Prop} (hgd : o.guard = none) (s x : Operand)
    (ho : o.op = .call { callee := .builtin .append, args := #[s, x], argTypes := #[64, 64] }) (v : Value) (base n : Nat) (xs : List Value) (hs : a.eval s = v) (O : w.ownsRow base 9 1 v n xs) (hb : base ≤ w.heap.size)
    (ao : Option Addr) (cap : Nat) (ts : List ByteArray) (hx : a.eval x = .slice ao ts.length cap) (A : IsStrs w ao ts.length ts) (hl : (n + ts.length) * 16 ≤ 140737488351232)
    (h : ∀ v' w', w'.ownsRow base 9 1 v' (n + ts.length) (xs ++ strsV ts) → w.grownBy w' v.ownBlock → wpList Tryd.prog ops Q rest (a.put o.dst v') w') : wpList Tryd.prog ops Q (o :: rest) a w := by
  obtain ⟨i3, ti, tz0, tz1, tz2⟩ := info_partsS
  have hlen : (strsV ts).length = ts.length := by simp [strsV]
  cases ao with
  | none =>
    have h0 : ts.length = 0 := by
      rcases A.2.2 with h | ⟨b, off, e, _⟩
      · exact h
      · cases e
    refine wpList_plain hgd fun K hK' => ?_
    have hrun := append_none0 (P := Tryd.prog) (w := w) base 64 o.type 9 i3 1 Tryd.underlying64 ti v n cap xs O
    have hts : ts = [] := List.length_eq_zero_iff.1 h0
    subst hts
    replace hx : a.eval x = .slice none 0 cap := hx
    unfold Oper.wp
    simp [execOp, ho, resolve, invoke, builtin, hs, hx, hrun, Result.andThen]
    refine hK' _ _ (h _ _ ?_ (World.grownBy.refl _ _))
    rw [show strsV [] = [] from rfl, List.append_nil]
    exact O
  | some ad =>
    refine wpList_append_own (w := w) hgd s x 64 ho base 9 i3 (.string ⟨#[]⟩) 1 16 Tryd.underlying64 ti tz0 tz1 tz2 rfl (by decide) v n xs hs O ad ts.length cap (strsV ts) hx (by rw [hlen, Nat.mul_one]) (fun j u hj => ?_) (fun u hu => ?_) (by unfold maxLen; omega) (by omega) hb (fun v' w' h1 h2 _ => h v' w' h1 h2)
    · have hjl := (List.getElem?_eq_some_iff.1 hj).1
      rw [hlen] at hjl
      unfold strsV at hj
      rw [List.getElem?_map, List.getElem?_eq_getElem hjl] at hj
      simp only [Option.map_some, Option.some.injEq] at hj
      rcases A.2.2 with h | ⟨b, off, e, _, hc⟩
      · omega
      · cases e
        have := hc j hjl
        rw [Go.WideShapes.add_plain, this, ← hj, List.getD_eq_getElem?_getD, List.getElem?_eq_getElem hjl]
        rfl
    · unfold strsV at hu
      obtain ⟨z, _, rfl⟩ := List.mem_map.1 hu
      rfl
set_option maxRecDepth 100000 in
set_option maxHeartbeats 8000000 in
theorem twinS7_any (ao : Option Addr) (n cap : Nat) (L : List Ty) (w : World) (h : IsTypes w ao n L) (hr : n * 40 ≤ 140737488351232) (hrs : ∀ j, (L.getD j noTy).2.length * 16 ≤ 140737488351232) :
    Calls Tryd.prog 7 #[.agg #[.slice ao n cap]] w fun e w' => ∃ v, e = .returned (.agg #[v]) ∧ OwnT w.heap.size w' v n L ∧ Below w.heap.size w w' := by
  obtain ⟨i0, hi, hz0, hz1, hz2⟩ := info_partsS
  obtain ⟨i3, ti, tz0, tz1, tz2⟩ := info_partsT
  have hL := h.1
  have hn := h.2.1
  go_enter Tryd.func7, Tryd.ntmps7
  go_wp2
  have Bw := galloc (galloc (galloc (Below.refl w.heap.size w) (.cells #[.slice ao n cap] 24)) (.cells #[.slice none 0 0] 24)) (.cells #[.slice none 0 0] 24)
  have O1 := ((One.new w (.slice ao n cap) 24).alloc (.cells #[.slice none 0 0] 24)).alloc (.cells #[.slice none 0 0] 24)
  have O2 := (One.new (w.alloc (.cells #[.slice ao n cap] 24)) (.slice none 0 0) 24).alloc (.cells #[.slice none 0 0] 24)
  have O3 := One.new ((w.alloc (.cells #[.slice ao n cap] 24)).alloc (.cells #[.slice none 0 0] 24)) (.slice none 0 0) 24
  have z1 : (w.alloc (.cells #[.slice ao n cap] 24)).heap.size = w.heap.size + 1 := by simp
  have z2 : ((w.alloc (.cells #[.slice ao n cap] 24)).alloc (.cells #[.slice none 0 0] 24)).heap.size = w.heap.size + 1 + 1 := by simp
  rw [z1] at O2
  rw [z2] at O3
  generalize hV : ((w.alloc (.cells #[.slice ao n cap] 24)).alloc (.cells #[.slice none 0 0] 24)).alloc (.cells #[.slice none 0 0] 24) = V at Bw O1 O2 O3 ⊢
  have hVs : V.heap.size = w.heap.size + 1 + 1 + 1 := by rw [← hV]; simp
  clear hV z1 z2
  go_loopw [4] (fun i wr => ∃ (k : Nat) (v : Value), k ≤ n ∧ i = .int .i64 k ∧ One wr w.heap.size (.slice ao n cap) 24 ∧ One wr (w.heap.size + 1) (.slice none 0 0) 24 ∧ One wr (w.heap.size + 1 + 1) v 24 ∧ OwnT V.heap.size wr v k (L.take k) ∧ Below w.heap.size w wr ∧ V.heap.size ≤ wr.heap.size) (fun i _ => n - (intOf i).toNat)
  case atStart => exact ⟨0, .slice none 0 0, Nat.zero_le _, rfl, O1, O2, O3, ⟨rfl, [], World.ownsRow_nil _ _ _ _, fun j hj => absurd hj (Nat.not_lt_zero _)⟩, Bw, Nat.le_refl _⟩
  case round =>
    obtain ⟨k, v, hk, rfl, P1, P2, P3, T, G, hsz⟩ := hrel
    obtain ⟨wo, rfl⟩ : ∃ wo, wo = wr := ⟨_, rfl⟩
    have p1 := P1.at0
    by_cases hlt : k < n
    · obtain ⟨_, _, q4⟩ := h.keep G
      rcases q4 with q4 | ⟨b, off, eb, hb, hcb⟩
      · omega
      subst eb
      obtain ⟨f1, aj, cj, f2, _, hs⟩ := hcb k hlt
      obtain ⟨x, hx⟩ : ∃ x, x = (L.getD k noTy).1 := ⟨_, rfl⟩
      obtain ⟨ss, hss⟩ : ∃ ss, ss = (L.getD k noTy).2 := ⟨_, rfl⟩
      have hrk := hrs k
      rw [← hx] at f1
      rw [← hss] at f2 hs hrk
      obtain ⟨m, hm⟩ : ∃ m, ss.length = m := ⟨_, rfl⟩
      rw [hm] at f2 hs hrk
      have HX : Hid (L.getD k noTy = (x, ss)) := by show _ = _; rw [hx, hss]
      clear hcb hx hss
      go_upto_region 6 with fail
      have B5 := galloc (Below.refl wo.heap.size wo) (.cells #[.string x, .slice aj m cj] 66)
      have W5 := Two.new wo (.string x) (.slice aj m cj) 66
      generalize hw5 : wo.alloc (.cells #[.string x, .slice aj m cj] 66) = w5 at B5 W5 ⊢
      have hw5s : w5.heap.size = wo.heap.size + 1 := by rw [← hw5]; simp
      clear hw5 f1
      have u1 : ∀ o, (w5.alloc o).cell? ⟨wo.heap.size, 1, none⟩ = some (.slice aj m cj) := fun o => (W5.alloc o).at1
      have hsE : IsStrs (w5.alloc (.cells #[] 9)) aj ss.length ss := by rw [hm]; exact (hs.keep B5).keep (galloc (Below.refl w5.heap.size w5) _)
      have O0 : (w5.alloc (.cells #[] 9)).ownsRow w5.heap.size 9 1 (.slice (some ⟨wo.heap.size + 1, 0, none⟩) 0 0) 0 [] := by
        rw [← hw5s]
        exact World.ownsRow_made w5 #[] 0 (Nat.le_refl w5.heap.size) (Nat.zero_le _) rfl
      go_upto_region 7 with (at_builtin; refine wpList_append_strs rfl (.tmp 19) (.tmp 21) rfl (.slice (some ⟨wo.heap.size + 1, 0, none⟩) 0 0) w5.heap.size 0 [] rfl O0 (by simp) aj cj ss (by rw [hm]; rfl) hsE (by omega) ?_; intro v5 w6 hown6 hgrow6; rw [Nat.zero_add, List.nil_append, hm] at hown6; obtain ⟨a5, c5, rfl, hv5, _⟩ := own_shape hown6; have U6 : Two w6 wo.heap.size (.string x) (.slice aj m cj) 66 := (hgrow6.block wo.heap.size (by simp; omega) (fun e => by simp [Value.ownBlock] at e)).trans (W5.alloc _); have t1 := U6.at1; have t2 := U6.free 1)
      have U := U6.set1 (.slice a5 m c5)
      have R : (w6.setCell ⟨wo.heap.size, 1, none⟩ (.slice a5 m c5)).ownsRow w5.heap.size 9 1 (.slice a5 m c5) m (strsV ss) := own_of_block hown6 (fun g' _ hg' _ => Below.heap_setCell w6 _ _ g' (by show g' ≠ wo.heap.size; omega))
      have G2 : Below wo.heap.size wo (w6.setCell ⟨wo.heap.size, 1, none⟩ (.slice a5 m c5)) := gset ((B5.alloc B5.size _).grown hgrow6 (by simp; omega) (fun r e => by simp [Value.ownBlock] at e; omega)) (Nat.le_refl _) _
      have hsz2 : w5.heap.size ≤ (w6.setCell ⟨wo.heap.size, 1, none⟩ (.slice a5 m c5)).heap.size := by
        have := hgrow6.size
        simp at this ⊢
        omega
      generalize w6.setCell ⟨wo.heap.size, 1, none⟩ (.slice a5 m c5) = wz at *
      clear hown6 hgrow6 U6 t1 t2 u1 W5 O0 hsE
      have p1' := (P1.keep G2).at0
      have f2' := (G2.cell (p := ⟨b, off + k * 2 + 1, none⟩) hb).trans f2
      have P3' := P3.keep G2
      have p3 := P3'.at0
      have p4 := P3'.free
      have u0 := U.at0
      have u1 := U.at1
      have T' := T.keep G2
      obtain ⟨hTl, cells, C1, C2⟩ := T'
      have hone : ∀ u ∈ [Value.string x, .slice a5 m c5], u.oneCell' = true := by intro u hu; simp at hu; rcases hu with rfl | rfl <;> rfl
      clear f2
      go_upto_region 4 with (at_builtin; refine wpList_append_lies _ rfl (.tmp 25) (.tmp 27) 22 rfl V.heap.size 66 i3 (.agg #[.string ⟨#[]⟩, .slice none 0 0]) 2 40 Tryd.underlying22 ti tz0 tz1 tz2 rfl (by decide) v k cells rfl (C1.alloc _) ⟨wz.heap.size, 0, none⟩ 1 1 [.string x, .slice a5 m c5] rfl rfl (new2 _ _ _ _) hone (by decide) ?c2 ?c3 ?c4 _ rfl ?_)
      case c2 => unfold maxLen; omega
      case c3 => omega
      case c4 => simp; omega
      intro g c6 w6 hown6 hgrow6 hat6 hlt6
      rw [← hVs] at hown6
      have hB3 : w.heap.size + 1 + 1 < wz.heap.size := P3'.lt
      have P6 : One w6 (w.heap.size + 1 + 1) v 24 := (hgrow6.block _ (by simp; omega) (fun e => by have := (C1.lt _ e.symm).1; omega)).trans (P3'.alloc _)
      have t1 := P6.at0
      have t2 := P6.free
      have far : ∀ (g' : Nat) (cur : Array Value), V.heap.size ≤ g' → wz.heap[g']? = some (.cells cur 9 (0, 0)) → (w6.setCell ⟨w.heap.size + 1 + 1, 0, none⟩ (.slice (some ⟨g, 0, none⟩) (k + 1) c6)).heap[g']? = wz.heap[g']? := by
        intro g' cur h1 h2
        have h3 := lt_of_block h2
        rw [Below.heap_setCell w6 _ _ g' (by show g' ≠ w.heap.size + 1 + 1; omega), hgrow6.block g' (by simp; omega) (row_apart C1 h2), Below.heap_alloc _ _ _ h3]
      have T8 : OwnT V.heap.size (w6.setCell ⟨w.heap.size + 1 + 1, 0, none⟩ (.slice (some ⟨g, 0, none⟩) (k + 1) c6)) (.slice (some ⟨g, 0, none⟩) (k + 1) c6) (k + 1) (L.take (k + 1)) := by
        refine ⟨by simp; omega, cells ++ [.string x, .slice a5 m c5], own_of_block hown6 (fun g' _ hg' _ => Below.heap_setCell w6 _ _ g' (by show g' ≠ w.heap.size + 1 + 1; omega)), fun j hj => ?_⟩
        rw [getD_take L (k + 1) j noTy hj]
        have hcl : cells.length = k * 2 := C1.1
        rcases Nat.lt_or_ge j k with e | e
        · obtain ⟨d1, aj', cj', d2, d3⟩ := C2 j e
          rw [getD_take L k j noTy e] at d1 d2 d3
          exact ⟨by rw [List.getElem?_append_left (by omega)]; exact d1, aj', cj', by rw [List.getElem?_append_left (by omega)]; exact d2, own_of_block d3 far⟩
        · obtain rfl : j = k := by omega
          rw [HX.out]
          refine ⟨by rw [List.getElem?_append_right (by omega), hcl]; simp, a5, c5, ?_, ?_⟩
          · rw [List.getElem?_append_right (by omega), hcl]; simp [hm]
          · simp only [hm]
            exact own_of_block (own_mono R (by omega)) far
      have P18 : One (w6.setCell ⟨w.heap.size + 1 + 1, 0, none⟩ (.slice (some ⟨g, 0, none⟩) (k + 1) c6)) w.heap.size (.slice (some ⟨b, off, none⟩) n cap) 24 :=
        (Below.heap_setCell w6 _ _ _ (by show w.heap.size ≠ w.heap.size + 1 + 1; omega)).trans ((hgrow6.block _ (by simp; omega) (fun e => by have := (C1.lt _ e.symm).1; omega)).trans ((P1.keep G2).alloc _))
      have P28 : One (w6.setCell ⟨w.heap.size + 1 + 1, 0, none⟩ (.slice (some ⟨g, 0, none⟩) (k + 1) c6)) (w.heap.size + 1) (.slice none 0 0) 24 :=
        (Below.heap_setCell w6 _ _ _ (by show w.heap.size + 1 ≠ w.heap.size + 1 + 1; omega)).trans ((hgrow6.block _ (by simp; omega) (fun e => by have := (C1.lt _ e.symm).1; omega)).trans ((P2.keep G2).alloc _))
      have P38 : One (w6.setCell ⟨w.heap.size + 1 + 1, 0, none⟩ (.slice (some ⟨g, 0, none⟩) (k + 1) c6)) (w.heap.size + 1 + 1) (.slice (some ⟨g, 0, none⟩) (k + 1) c6) 24 := P6.set _
      have G8 : Below w.heap.size w (w6.setCell ⟨w.heap.size + 1 + 1, 0, none⟩ (.slice (some ⟨g, 0, none⟩) (k + 1) c6)) :=
        gset ((G.trans (G2.mono G.size)).alloc (by omega) _ |>.grown hgrow6 (by simp; omega) (fun r e => by have := (C1.lt _ e).1; omega)) (by show w.heap.size ≤ w.heap.size + 1 + 1; omega) _
      have s8 : V.heap.size ≤ (w6.setCell ⟨w.heap.size + 1 + 1, 0, none⟩ (.slice (some ⟨g, 0, none⟩) (k + 1) c6)).heap.size := by
        have := hgrow6.size
        simp at this ⊢
        omega
      clear far hown6 hgrow6 hat6 hlt6 C1 C2 R U
      go_wp2
      go_roundw
      case rel => exact ⟨k + 1, _, by omega, by go_num, P18, P28, P38, T8, G8, s8⟩
      case measure => simp [intOf]; omega
    · obtain rfl : k = n := by omega
      rw [List.take_of_length_le (by omega)] at T
      obtain ⟨a2, c2, rfl, _⟩ := T.types
      have p2 := P2.at0
      have p3 := P3.at0
      have p4 := P2.free
      go_wp2
      refine bodyPost_ret (v := .agg #[.slice a2 k c2]) (by simp [results, Tryd.results7, go_sem, p2, p4]) rfl ⟨_, rfl, (T.other (by show w.heap.size + 1 < _; omega) _).mono (by omega), gset G (by show w.heap.size ≤ w.heap.size + 1; omega) _⟩

end Go.Proofs.YtnmppmmanigpcaaDoor
