/- A copy of spots. -/
import Derived.Test.YtbedpgamjaemoaaCpa
import Derived.Laws.OwnMore
import Derived.Deep.Onto
namespace Go.Proofs.Ytbedpgamjaemoaa
open Go.RowKit Go.BigFrame
set_option linter.unusedVariables false
set_option linter.unusedSimpArgs false

theorem nf_info {P : Program} {e : TypeId} {z : Value} {s b : Nat} (h : (P.info? e).map (fun i => (i.zero, i.size, i.bytes)) = some (some z, s, b)) : ∃ i, P.info? e = some i ∧ i.zero = some z ∧ i.size = s ∧ i.bytes = b := by
  cases hi : P.info? e with
  | none => rw [hi] at h; cases h
  | some i => rw [hi] at h; simp at h; exact ⟨i, rfl, h.1, h.2.1, h.2.2⟩
theorem nf_int : (Try.prog.info? 3).map (fun i => (i.zero, i.size, i.bytes)) = some (some (.int .i64 0), 1, 8) := by kernel_rfl
theorem ints_at (zs : List Int) (j : Nat) (u : Value) (h : (intsV zs)[j]? = some u) : j < zs.length ∧ u = .int .i64 (zs.getD j 0) := by
  have hj := (List.getElem?_eq_some_iff.1 h).1
  rw [show (intsV zs).length = zs.length by simp [intsV]] at hj
  refine ⟨hj, ?_⟩
  unfold intsV at h
  rw [List.getElem?_map, List.getElem?_eq_getElem hj] at h
  simp only [Option.map_some, Option.some.injEq] at h
  rw [← h, List.getD_eq_getElem?_getD, List.getElem?_eq_getElem hj]
  rfl
/-- append of a whole row of numbers onto a row of one's own. -/
theorem wpList_append_ints {w : World} {ops : Array Oper} {rest : List Oper} {o : Oper} {a : Act} {Q : Exit → Act → World → Prop} (hgd : o.guard = none) (s x : Operand)
    (ho : o.op = .call { callee := .builtin .append, args := #[s, x], argTypes := #[22, 22] }) (v : Value) (base n : Nat) (xs : List Value) (hs : a.eval s = v) (O : w.ownsRow base 3 1 v n xs) (hb : base ≤ w.heap.size)
    (ao : Option Addr) (cap : Nat) (ts : List Int) (hx : a.eval x = .slice ao ts.length cap) (hsl : Sl ao ts.length cap) (A : IsInts w ao ts) (hl : (n + ts.length) * 8 ≤ 140737488351232)
    (h : ∀ v' w', w'.ownsRow base 3 1 v' (n + ts.length) (xs ++ intsV ts) → w.grownBy w' v.ownBlock → wpList Try.prog ops Q rest (a.put o.dst v') w') : wpList Try.prog ops Q (o :: rest) a w := by
  obtain ⟨i3, ti, tz0, tz1, tz2⟩ := nf_info nf_int
  have hlen : (intsV ts).length = ts.length := by simp [intsV]
  cases ao with
  | none =>
    obtain ⟨h0, rfl⟩ := hsl.2 rfl
    refine wpList_plain hgd fun K hK' => ?_
    have hrun := run_append_owned_none (P := Try.prog) w base 22 o.type 3 i3 1 Try.underlying22 ti v n xs O
    have hts : ts = [] := List.length_eq_zero_iff.1 h0
    subst hts
    replace hx : a.eval x = .slice none 0 0 := hx
    unfold Oper.wp
    simp [execOp, ho, resolve, invoke, builtin, hs, hx, hrun, Result.andThen]
    refine hK' _ _ (h _ _ ?_ (World.grownBy.refl _ _))
    rw [show intsV [] = [] from rfl, List.append_nil]
    exact O
  | some ad =>
    refine wpList_append_own (w := w) hgd s x 22 ho base 3 i3 (.int .i64 0) 1 8 Try.underlying22 ti tz0 tz1 tz2 rfl (by decide) v n xs hs O ad ts.length cap (intsV ts) hx (by rw [hlen, Nat.mul_one]) (fun j u hj => ?_) (fun u hu => ?_) (by unfold maxLen; omega) (by omega) hb (fun v' w' h1 h2 _ => h v' w' h1 h2)
    · obtain ⟨hj2, rfl⟩ := ints_at ts j u hj
      obtain ⟨g, off, e, c0⟩ := A j hj2
      cases e
      rw [Go.WideShapes.add_plain]
      exact c0
    · unfold intsV at hu
      obtain ⟨z, _, rfl⟩ := List.mem_map.1 hu
      rfl
set_option maxRecDepth 100000 in
set_option maxHeartbeats 4000000 in
theorem twinI_any (zs : List Int) (ao : Option Addr) (cap : Nat) (w : World) (hsl : Sl ao zs.length cap) (A : IsInts w ao zs) (hr : zs.length * 8 ≤ 140737488351232) :
    Calls Try.prog 18 #[.slice ao zs.length cap] w fun e w' => ∃ v, e = .returned v ∧ w'.ownsRow w.heap.size 3 1 v zs.length (intsV zs) ∧ Below w.heap.size w w' := by
  go_enter Try.func18, Try.ntmps18
  go_wp2_with (at_builtin; refine wpList_append_ints rfl _ _ rfl _ w.heap.size 0 [] rfl (World.ownsRow_nil _ _ _ _) (Nat.le_refl _) ao cap zs rfl hsl A (by omega) ?_; intro v' w1 O1 g1)
  rw [Nat.zero_add, List.nil_append] at O1
  go_wp2
  go_ret
  exact ⟨_, rfl, O1, (Below.refl _ _).grown g1 (Nat.le_refl _) (fun k e => by cases e)⟩
/-- Rows of another type are not met. -/
theorem ty_far {w u : World} {b1 b2 : Nat} {e1 e2 : TypeId} {s1 s2 : Nat} {v1 v2 : Value} {n1 n2 : Nat} {x1 x2 : List Value} (h1 : w.ownsRow b1 e1 s1 v1 n1 x1) (h2 : w.ownsRow b2 e2 s2 v2 n2 x2) (hT : e1 ≠ e2) (G : w.grownBy u v1.ownBlock) : u.ownsRow b2 e2 s2 v2 n2 x2 := by
  refine own_of_block h2 fun g cur hb hh => G.block g (lt_of_block hh) fun e => ?_
  rcases h1.2 with ⟨rfl, _⟩ | ⟨g1, c1, cur1, rfl, _, hh1, _⟩
  · cases e
  · cases e
    rw [hh1] at hh
    simp only [Option.some.injEq, Obj.cells.injEq] at hh
    exact hT hh.2.1
theorem ty_set {w : World} {b2 : Nat} {e2 : TypeId} {s2 : Nat} {v2 : Value} {n2 : Nat} {x2 : List Value} (h2 : w.ownsRow b2 e2 s2 v2 n2 x2) {b : Nat} {c : Array Value} {t : TypeId} {f : Nat × Nat} (hb : w.heap[b]? = some (.cells c t f)) (hT : t ≠ e2) (o : Nat) (u : Value) : (w.setCell ⟨b, o, none⟩ u).ownsRow b2 e2 s2 v2 n2 x2 := by
  refine own_of_block h2 fun g cur _ hh => ?_
  have hne : b ≠ g := fun e => by
    subst e
    rw [hb] at hh
    simp only [Option.some.injEq, Obj.cells.injEq] at hh
    exact hT hh.2.1
  show (w.heap.modify b _)[g]? = _
  rw [Array.getElem?_modify, if_neg hne]
/-- A local of five cells. -/
def Fv (w : World) (b : Nat) (c0 c1 c2 c3 c4 : Value) (t : TypeId) : Prop := w.heap[b]? = some (.cells #[c0, c1, c2, c3, c4] t (0, 0))
section
variable {w u : World} {b : Nat} {c0 c1 c2 c3 c4 : Value} {t : TypeId}
theorem Fv.lt (h : Fv w b c0 c1 c2 c3 c4 t) : b < w.heap.size := lt_of_block h
theorem Fv.at (h : Fv w b c0 c1 c2 c3 c4 t) : w.cell? ⟨b, 0, none⟩ = some c0 ∧ w.cell? ⟨b, 1, none⟩ = some c1 ∧ w.cell? ⟨b, 2, none⟩ = some c2 ∧ w.cell? ⟨b, 3, none⟩ = some c3 ∧ w.cell? ⟨b, 4, none⟩ = some c4 := ⟨cell_of_row w b 0 _ _ _ h, cell_of_row w b 1 _ _ _ h, cell_of_row w b 2 _ _ _ h, cell_of_row w b 3 _ _ _ h, cell_of_row w b 4 _ _ _ h⟩
theorem Fv.free (h : Fv w b c0 c1 c2 c3 c4 t) (o : Nat) : w.frozen? ⟨b, o, none⟩ = false := by unfold Fv at h; simp [World.frozen?, h]
theorem Fv.new (w : World) (c0 c1 c2 c3 c4 : Value) (t : TypeId) : Fv (w.alloc (.cells #[c0, c1, c2, c3, c4] t)) w.heap.size c0 c1 c2 c3 c4 t := by
  show (w.heap.push _)[w.heap.size]? = _
  simp
theorem Fv.keep (h : Fv w b c0 c1 c2 c3 c4 t) (G : Below w.heap.size w u) : Fv u b c0 c1 c2 c3 c4 t := (G.block b h.lt).trans h
theorem Fv.alloc (h : Fv w b c0 c1 c2 c3 c4 t) (o : Obj) : Fv (w.alloc o) b c0 c1 c2 c3 c4 t := (Below.heap_alloc w o b h.lt).trans h
theorem Fv.other (h : Fv w b c0 c1 c2 c3 c4 t) {b' : Nat} (hne : b' ≠ b) (o : Nat) (v : Value) : Fv (w.setCell ⟨b', o, none⟩ v) b c0 c1 c2 c3 c4 t := by
  unfold Fv at h ⊢
  rw [← h]
  show (w.heap.modify b' _)[b]? = _
  rw [Array.getElem?_modify, if_neg hne]
theorem Fv.go (w : World) (cs : Array Value) (o : Nat) (a : Value) (h : w.heap[b]? = some (.cells cs t (0, 0))) : (w.setCell ⟨b, o, none⟩ a).heap[b]? = some (.cells (cs.setIfInBounds o a) t (0, 0)) := by
  have hlt := lt_of_block h
  have h' : w.heap[b] = .cells cs t (0, 0) := by simpa [Array.getElem?_eq_getElem hlt] using h
  show (w.heap.modify b _)[b]? = _
  rw [Array.getElem?_eq_getElem (by simpa using hlt), Array.getElem_modify_self, h']
  rfl
theorem Fv.set0 (h : Fv w b c0 c1 c2 c3 c4 t) (v : Value) : Fv (w.setCell ⟨b, 0, none⟩ v) b v c1 c2 c3 c4 t := Fv.go w _ 0 v h
theorem Fv.set1 (h : Fv w b c0 c1 c2 c3 c4 t) (v : Value) : Fv (w.setCell ⟨b, 1, none⟩ v) b c0 v c2 c3 c4 t := Fv.go w _ 1 v h
theorem Fv.set2 (h : Fv w b c0 c1 c2 c3 c4 t) (v : Value) : Fv (w.setCell ⟨b, 2, none⟩ v) b c0 c1 v c3 c4 t := Fv.go w _ 2 v h
theorem Fv.set3 (h : Fv w b c0 c1 c2 c3 c4 t) (v : Value) : Fv (w.setCell ⟨b, 3, none⟩ v) b c0 c1 c2 v c4 t := Fv.go w _ 3 v h
theorem Fv.set4 (h : Fv w b c0 c1 c2 c3 c4 t) (v : Value) : Fv (w.setCell ⟨b, 4, none⟩ v) b c0 c1 c2 c3 v t := Fv.go w _ 4 v h
end
/-- Only the block b may have turned. -/
def But (b : Nat) (w u : World) : Prop := ∀ k, k ≠ b → u.heap[k]? = w.heap[k]?
theorem But.refl (b : Nat) (w : World) : But b w w := fun _ _ => rfl
theorem But.set {b : Nat} {w u : World} (h : But b w u) (o : Nat) (v : Value) : But b w (u.setCell ⟨b, o, none⟩ v) := fun k hk => by
  rw [← h k hk]
  show (u.heap.modify b _)[k]? = _
  rw [Array.getElem?_modify, if_neg (fun e => hk e.symm)]
theorem own_but {w u : World} {b2 : Nat} {e2 : TypeId} {s2 : Nat} {v2 : Value} {n2 : Nat} {x2 : List Value} (h2 : w.ownsRow b2 e2 s2 v2 n2 x2) {b : Nat} {c : Array Value} {t : TypeId} {f : Nat × Nat} (hb : w.heap[b]? = some (.cells c t f)) (hT : t ≠ e2) (B : But b w u) : u.ownsRow b2 e2 s2 v2 n2 x2 :=
  own_of_block h2 fun g cur _ hh => B g fun e => by
    subst e
    rw [hb] at hh
    simp only [Option.some.injEq, Obj.cells.injEq] at hh
    exact hT hh.2.1
/-- A row of one's own as it is read. -/
theorem own_sl {w : World} {b : Nat} {e : TypeId} {s : Nat} {ao : Option Addr} {n c : Nat} {xs : List Value} (h : w.ownsRow b e s (.slice ao n c) n xs) : Sl ao n c := by
  rcases h.2 with ⟨h1, h2⟩ | ⟨g, c', cur, h1, _, _, h2, _⟩
  · cases h1; exact ⟨Nat.le_refl _, fun _ => ⟨rfl, rfl⟩⟩
  · cases h1; exact ⟨h2, fun e => by cases e⟩
theorem own_ints {w : World} {b : Nat} {ao : Option Addr} {c : Nat} {zs : List Int} (h : w.ownsRow b 3 1 (.slice ao zs.length c) zs.length (intsV zs)) : IsInts w ao zs := fun i hi => by
  rcases h.2 with ⟨h1, h2⟩ | ⟨g, c', cur, h1, _, _, _, _⟩
  · omega
  · cases h1
    refine ⟨g, 0, rfl, ?_⟩
    rw [Nat.zero_add, World.ownsRow.cellAt h i (by omega)]
    simp [intsV, List.getD, List.getElem?_eq_getElem hi]
/-- A row of rows of numbers of one's own. -/
theorem own_iss {w : World} {b b' : Nat} {ao : Option Addr} {c : Nat} {l : List (List Int)} {vs : List Value} (hl : vs.length = l.length) (h : w.ownsRow b 22 1 (.slice ao l.length c) l.length vs) (hin : ∀ j, j < l.length → ∃ a c', vs[j]? = some (.slice a (l.getD j []).length c') ∧ w.ownsRow b' 3 1 (.slice a (l.getD j []).length c') (l.getD j []).length (intsV (l.getD j []))) : IsIss w ao l := fun i hi => by
  obtain ⟨a, c', e, O⟩ := hin i hi
  rcases h.2 with ⟨h1, h2⟩ | ⟨g, c2, cur, h1, _, _, _, _⟩
  · omega
  · cases h1
    refine ⟨g, 0, a, c', rfl, ?_, own_ints O, own_sl O⟩
    rw [Nat.zero_add, World.ownsRow.cellAt h i (by omega)]
    exact e
theorem nf_ints : (Try.prog.info? 22).map (fun i => (i.zero, i.size, i.bytes)) = some (some (.slice none 0 0), 1, 24) := by kernel_rfl
structure SpLoop (s : Sps) (w : World) (zz : Nat) (ai : Option Addr) (ci : Nat) (aw : Option Addr) (cw : Nat) (ar : Option Addr) (cr : Nat) (a1 : Option Addr) (k1 : Nat) (a2 : Option Addr) (k2 n : Nat) (x : Value) (wr : World) : Prop where
  ex : ∃ (k : Nat) (vs : List Value) (o : Option Addr) (oc : Nat), k ≤ n ∧ x = .int .i64 k ∧ Fv wr w.heap.size (.slice ai s.items.length ci) (.slice aw s.wh.length cw) (.int .i64 s.within) (.int .i64 s.by_) (.slice ar n cr) 25 ∧ Fv wr (w.heap.size + 1) (.slice none 0 0) (.slice none 0 0) (.int .i64 0) (.int .i64 0) (.slice none 0 0) 25 ∧ Fv wr (w.heap.size + 1 + 1) (.slice a1 s.items.length k1) (.slice a2 s.wh.length k2) (.int .i64 s.within) (.int .i64 s.by_) (.slice o k oc) 25 ∧
      wr.ownsRow w.heap.size 3 1 (.slice a1 s.items.length k1) s.items.length (intsV s.items) ∧ wr.ownsRow w.heap.size 3 1 (.slice a2 s.wh.length k2) s.wh.length (intsV s.wh) ∧ vs.length = k ∧ wr.ownsRow zz 22 1 (.slice o k oc) k vs ∧ (∀ j, j < k → ∃ a c', vs[j]? = some (.slice a (s.ret.getD j []).length c') ∧ wr.ownsRow w.heap.size 3 1 (.slice a (s.ret.getD j []).length c') (s.ret.getD j []).length (intsV (s.ret.getD j []))) ∧ zz ≤ wr.heap.size ∧ Below w.heap.size w wr
set_option maxRecDepth 100000 in
set_option maxHeartbeats 8000000 in
theorem twinSp_any (s : Sps) (hs : s.fit) (cs : Array Value) (ai : Option Addr) (ci : Nat) (aw : Option Addr) (cw : Nat) (ar : Option Addr) (cr : Nat) (w : World) (A : IsSp w s cs ai ci aw cw ar cr) :
    Calls Try.prog 5 #[.agg cs] w fun e w' => ∃ cs' ai' ci' aw' cw' ar' cr', e = .returned (.agg cs') ∧ IsSp w' s cs' ai' ci' aw' cw' ar' cr' ∧ Below w.heap.size w w' := by
  obtain ⟨he, Ai, Aw, Ar, si, sw, sr⟩ := A
  subst he
  obtain ⟨i0, hi, hz0, hz1, hz2⟩ := nf_info nf_ints
  have c1 := fun (u : World) (g : Below w.heap.size w u) => twinI_any s.items ai ci u si (Ai.keep g) hs.n
  have c2 := fun (u : World) (g : Below w.heap.size w u) => twinI_any s.wh aw cw u sw (Aw.keep g) hs.w
  have B0 := galloc (galloc (galloc (Below.refl w.heap.size w) (.cells #[.slice ai s.items.length ci, .slice aw s.wh.length cw, .int .i64 s.within, .int .i64 s.by_, .slice ar s.ret.length cr] 25)) (.cells #[.slice none 0 0, .slice none 0 0, .int .i64 0, .int .i64 0, .slice none 0 0] 25)) (.cells #[.slice ai s.items.length ci, .slice aw s.wh.length cw, .int .i64 s.within, .int .i64 s.by_, .slice ar s.ret.length cr] 25)
  have S0 := ((Fv.new w (.slice ai s.items.length ci) (.slice aw s.wh.length cw) (.int .i64 s.within) (.int .i64 s.by_) (.slice ar s.ret.length cr) 25).alloc (.cells #[.slice none 0 0, .slice none 0 0, .int .i64 0, .int .i64 0, .slice none 0 0] 25)).alloc (.cells #[.slice ai s.items.length ci, .slice aw s.wh.length cw, .int .i64 s.within, .int .i64 s.by_, .slice ar s.ret.length cr] 25)
  have R0 := (Fv.new (w.alloc (.cells #[.slice ai s.items.length ci, .slice aw s.wh.length cw, .int .i64 s.within, .int .i64 s.by_, .slice ar s.ret.length cr] 25)) (.slice none 0 0) (.slice none 0 0) (.int .i64 0) (.int .i64 0) (.slice none 0 0) 25).alloc (.cells #[.slice ai s.items.length ci, .slice aw s.wh.length cw, .int .i64 s.within, .int .i64 s.by_, .slice ar s.ret.length cr] 25)
  have T0 := Fv.new ((w.alloc (.cells #[.slice ai s.items.length ci, .slice aw s.wh.length cw, .int .i64 s.within, .int .i64 s.by_, .slice ar s.ret.length cr] 25)).alloc (.cells #[.slice none 0 0, .slice none 0 0, .int .i64 0, .int .i64 0, .slice none 0 0] 25)) (.slice ai s.items.length ci) (.slice aw s.wh.length cw) (.int .i64 s.within) (.int .i64 s.by_) (.slice ar s.ret.length cr) 25
  rw [show (w.alloc (.cells #[.slice ai s.items.length ci, .slice aw s.wh.length cw, .int .i64 s.within, .int .i64 s.by_, .slice ar s.ret.length cr] 25)).heap.size = w.heap.size + 1 by simp] at R0
  rw [show ((w.alloc (.cells #[.slice ai s.items.length ci, .slice aw s.wh.length cw, .int .i64 s.within, .int .i64 s.by_, .slice ar s.ret.length cr] 25)).alloc (.cells #[.slice none 0 0, .slice none 0 0, .int .i64 0, .int .i64 0, .slice none 0 0] 25)).heap.size = w.heap.size + 1 + 1 by simp] at T0
  have zB := B0.size
  go_enter Try.func5, Try.ntmps5
  go_wp2_with (first
    | (go_at_call 18; (with_reducible refine (c1 _ B0).mono ?_); rintro e u1 ⟨v1, rfl, O1, g1⟩; obtain ⟨a1, k1, rfl, _, _, _⟩ := own_form O1; have S1 := S0.keep g1; have R1 := R0.keep g1; have T1 := T0.keep g1; have G1 := gtrans B0 g1; obtain ⟨_, s1, _, _, s4⟩ := S1.at; obtain ⟨t0, t1, _, _, t4⟩ := T1.at; have f0 := T1.free 0; have f1 := T1.free 1; have f4 := T1.free 4; have G1' := gset G1 (p := ⟨w.heap.size + 1 + 1, 0, none⟩) (by dsimp only; omega) (.slice a1 s.items.length k1); have S1' := S1.other (b' := w.heap.size + 1 + 1) (by omega) 0 (.slice a1 s.items.length k1); have R1' := R1.other (b' := w.heap.size + 1 + 1) (by omega) 0 (.slice a1 s.items.length k1); have T1' := T1.set0 (.slice a1 s.items.length k1); have O1' := ty_set O1 T1 (by decide) 0 (.slice a1 s.items.length k1))
    | (go_at_call 18; (with_reducible refine (c2 _ G1').mono ?_); rintro e u2 ⟨v2, rfl, O2, g2⟩; obtain ⟨a2, k2, rfl, _, _, _⟩ := own_form O2; have S2 := S1'.keep g2; have R2 := R1'.keep g2; have T2 := T1'.keep g2; have G2 := gtrans G1' g2; have O12 := own_keep O1' g2; obtain ⟨h0, h1, _, _, h4⟩ := T2.at; have j1 := T2.free 1; have j4 := T2.free 4))
  have SZ := (S2.other (b' := w.heap.size + 1 + 1) (by omega) 1 (.slice a2 s.wh.length k2)).other (b' := w.heap.size + 1 + 1) (by omega) 4 (.slice none 0 0)
  have RZ := (R2.other (b' := w.heap.size + 1 + 1) (by omega) 1 (.slice a2 s.wh.length k2)).other (b' := w.heap.size + 1 + 1) (by omega) 4 (.slice none 0 0)
  have TZ := (T2.set1 (.slice a2 s.wh.length k2)).set4 (.slice none 0 0)
  have BZ := ((But.refl (w.heap.size + 1 + 1) u2).set 1 (.slice a2 s.wh.length k2)).set 4 (.slice none 0 0)
  have OA := own_but O12 T2 (by decide) BZ
  have OB := own_but O2 T2 (by decide) BZ
  have GZ := gset (gset G2 (p := ⟨w.heap.size + 1 + 1, 1, none⟩) (by dsimp only; omega) (.slice a2 s.wh.length k2)) (p := ⟨w.heap.size + 1 + 1, 4, none⟩) (by dsimp only; omega) (.slice none 0 0)
  have zA : w.heap.size ≤ u1.heap.size := G1.size
  have z2 : w.heap.size ≤ u2.heap.size := G2.size
  clear c1 c2 B0 S0 R0 T0 S1 R1 T1 G1 s1 s4 t0 t1 t4 f0 f1 f4 G1' S1' R1' T1' O1' S2 R2 T2 G2 O12 O2 O1 h0 h1 h4 j1 j4 BZ g1 g2
  generalize ((u2.setCell ⟨w.heap.size + 1 + 1, 1, none⟩ (.slice a2 s.wh.length k2)).setCell ⟨w.heap.size + 1 + 1, 4, none⟩ (.slice none 0 0)) = Z at *
  have OA := World.ownsRow.mono OA (show w.heap.size ≤ _ by first | exact Nat.le_trans (Nat.le_of_lt (Nat.lt_of_lt_of_le (Nat.lt_succ_self _) (Nat.le_refl _))) zB | (simp; omega))
  have OB := World.ownsRow.mono OB (show w.heap.size ≤ _ by first | exact zA | (simp; omega))
  have lT := TZ.lt
  have hnr := hs.r
  go_loopw [4, 5] (fun x _ wr => SpLoop s w Z.heap.size ai ci aw cw ar cr a1 k1 a2 k2 s.ret.length x wr) (fun x _ _ => s.ret.length - (intOf x).toNat)
  case atStart => exact ⟨⟨0, [], none, 0, Nat.zero_le _, rfl, SZ, RZ, TZ, OA, OB, rfl, World.ownsRow_nil _ _ _ _, fun j hj => absurd hj (Nat.not_lt_zero _), Nat.le_refl _, GZ⟩⟩
  case round =>
    obtain ⟨⟨k, vs, o, oc, hk, rfl, S, R, T, PA, PB, hvl, OO, hin, zZ, G⟩⟩ := hrel
    have zG := G.size
    obtain ⟨_, _, _, _, s4⟩ := S.at
    by_cases hlt : k < s.ret.length
    · obtain ⟨g, og, a, c, rfl, x0, I, sl⟩ := (Ar.keep G) k (by omega)
      have c3 := twinI_any (s.ret.getD k []) a c wr sl I (hs.ret k)
      have hki : (k : Int) < (s.ret.length : Int) := by omega
      generalize hrk : s.ret.getD k [] = rk at *
      go_wp2_with (first
        | (go_at_call 18; (with_reducible refine c3.mono ?_); rintro e u ⟨v3, rfl, O3, g3⟩; obtain ⟨a3, k3, rfl, _, _, _⟩ := own_form O3; have Su := S.keep g3; have Ru := R.keep g3; have Tu := T.keep g3; have OOu := own_keep OO g3; have PAu := own_keep PA g3; have PBu := own_keep PB g3; have Gu := gtrans G g3; have zu := g3.size; obtain ⟨_, _, _, _, t4⟩ := Tu.at)
        | (at_builtin; refine wpList_append_own _ rfl (.tmp 30) (.tmp 32) 23 rfl Z.heap.size 22 i0 (.slice none 0 0) 1 24 Try.underlying23 hi hz0 hz1 hz2 rfl (by decide) _ _ _ rfl (OOu.alloc _) ⟨u.heap.size, 0, none⟩ 1 1 [_] rfl rfl (cell_one_new _ _ _) (fun u hu => by simp at hu; subst hu; rfl) ?c3 ?c4 ?c5 ?_))
      case c3 => unfold maxLen; omega
      case c4 => omega
      case c5 => first | omega | (simp; omega)
      intro v' w1 hown' hgrow _
      obtain ⟨o', oc', rfl, _, _, _⟩ := own_form hown'
      have q := fun (b : Nat) (hb : b < Z.heap.size) => hgrow.block b (by simp; omega) (fun e => by have := (OOu.lt _ e.symm).1; omega)
      have Sw : Fv w1 w.heap.size _ _ _ _ _ _ := (q _ (by omega)).trans (Su.alloc _)
      have Rw : Fv w1 (w.heap.size + 1) _ _ _ _ _ _ := (q _ (by omega)).trans (Ru.alloc _)
      have Tw : Fv w1 (w.heap.size + 1 + 1) _ _ _ _ _ _ := (q _ (by omega)).trans (Tu.alloc _)
      have fr := fun (b : Nat) (v : Value) (m : Nat) (xs : List Value) (h : u.ownsRow b 3 1 v m xs) => ty_far (OOu.alloc _) (h.alloc (.cells #[.slice a3 rk.length k3] 22)) (by decide) hgrow
      have PAw := fr _ _ _ _ PAu
      have PBw := fr _ _ _ _ PBu
      have O3w := fr _ _ _ _ O3
      have hinw := fun j (hj : j < k) => (hin j hj)
      have Gw : Below w.heap.size w w1 := (galloc Gu _).grown hgrow (by simp; omega) (fun r e => by have := (OOu.lt _ e).1; omega)
      have zw : u.heap.size + 1 ≤ w1.heap.size := by have := hgrow.size; simpa using this
      have BE := (But.refl (w.heap.size + 1 + 1) w1).set 4 (.slice o' (k + 1) oc')
      have be := fun (e : TypeId) (hT : 25 ≠ e) (b s' : Nat) (v : Value) (m : Nat) (xs : List Value) (h : w1.ownsRow b e s' v m xs) => own_but h Tw hT BE
      have S9 := Sw.other (b' := w.heap.size + 1 + 1) (by omega) 4 (.slice o' (k + 1) oc')
      have R9 := Rw.other (b' := w.heap.size + 1 + 1) (by omega) 4 (.slice o' (k + 1) oc')
      have T9 := Tw.set4 (.slice o' (k + 1) oc')
      have G9 := gset Gw (p := ⟨w.heap.size + 1 + 1, 4, none⟩) (by dsimp only; omega) (.slice o' (k + 1) oc')
      have i9 : ∀ j, j < k + 1 → ∃ a c', (vs ++ [.slice a3 rk.length k3])[j]? = some (.slice a (s.ret.getD j []).length c') ∧ (w1.setCell ⟨w.heap.size + 1 + 1, 4, none⟩ (.slice o' (k + 1) oc')).ownsRow w.heap.size 3 1 (.slice a (s.ret.getD j []).length c') (s.ret.getD j []).length (intsV (s.ret.getD j [])) := fun j hj => by
        by_cases hjk : j < k
        · obtain ⟨aj, cj, e1, e2⟩ := hin j hjk
          exact ⟨aj, cj, by rw [List.getElem?_append_left (by omega)]; exact e1, be _ (by decide) _ _ _ _ _ (fr _ _ _ _ (own_keep e2 g3))⟩
        · obtain rfl : j = k := by omega
          rw [hrk]
          exact ⟨a3, k3, by rw [List.getElem?_append_right (by omega), hvl, Nat.sub_self]; rfl, be _ (by decide) _ _ _ _ _ (World.ownsRow.mono O3w zG)⟩
      have O9 := be _ (by decide) _ _ _ _ _ hown'
      have A9 := be _ (by decide) _ _ _ _ _ PAw
      have B9 := be _ (by decide) _ _ _ _ _ PBw
      have t4 := Tw.at.2.2.2.2
      have ft := Tw.free 4
      clear hgrow hin hinw be fr q OOu PAu PBu Su Ru Tu S R T PA PB OO O3 O3w PAw PBw hown' c3
      go_wp2
      go_roundw
      case rel =>
        exact ⟨⟨k + 1, vs ++ [.slice a3 rk.length k3], o', oc', by omega, by go_num, S9, R9, T9, A9, B9, by simp [hvl], O9, i9, by simp; omega, G9⟩⟩
      case measure => simp [intOf]; omega
    · have hkn : k = s.ret.length := by omega
      subst hkn
      obtain ⟨t0, t1, t2, t3, t4⟩ := T.at
      obtain ⟨r0, r1, r2, r3, r4⟩ := R.at
      have q0 := R.free 0
      have q1 := R.free 1
      have q2 := R.free 2
      have q3 := R.free 3
      have q4 := R.free 4
      have RE := ((((R.set0 (.slice a1 s.items.length k1)).set1 (.slice a2 s.wh.length k2)).set2 (.int .i64 s.within)).set3 (.int .i64 s.by_)).set4 (.slice o s.ret.length oc)
      have BE := (((((But.refl (w.heap.size + 1) wr).set 0 (.slice a1 s.items.length k1)).set 1 (.slice a2 s.wh.length k2)).set 2 (.int .i64 s.within)).set 3 (.int .i64 s.by_)).set 4 (.slice o s.ret.length oc)
      have be := fun (e : TypeId) (hT : 25 ≠ e) (b s' : Nat) (v : Value) (m : Nat) (xs : List Value) (h : wr.ownsRow b e s' v m xs) => own_but h R hT BE
      have GE := gset (gset (gset (gset (gset G (p := ⟨w.heap.size + 1, 0, none⟩) (by dsimp only; omega) (.slice a1 s.items.length k1)) (p := ⟨w.heap.size + 1, 1, none⟩) (by dsimp only; omega) (.slice a2 s.wh.length k2)) (p := ⟨w.heap.size + 1, 2, none⟩) (by dsimp only; omega) (.int .i64 s.within)) (p := ⟨w.heap.size + 1, 3, none⟩) (by dsimp only; omega) (.int .i64 s.by_)) (p := ⟨w.heap.size + 1, 4, none⟩) (by dsimp only; omega) (.slice o s.ret.length oc)
      obtain ⟨e0, e1, e2, e3, e4⟩ := RE.at
      have A9 := be _ (by decide) _ _ _ _ _ PA
      have B9 := be _ (by decide) _ _ _ _ _ PB
      have O9 := be _ (by decide) _ _ _ _ _ OO
      have i9 := fun j (hj : j < s.ret.length) => show ∃ a c', vs[j]? = some (.slice a (s.ret.getD j []).length c') ∧ World.ownsRow _ w.heap.size 3 1 (.slice a (s.ret.getD j []).length c') (s.ret.getD j []).length (intsV (s.ret.getD j [])) from by
        obtain ⟨a, c, h1, h2⟩ := hin j hj
        exact ⟨a, c, h1, be _ (by decide) _ _ _ _ _ h2⟩
      have fin : IsSp _ s #[.slice a1 s.items.length k1, .slice a2 s.wh.length k2, .int .i64 s.within, .int .i64 s.by_, .slice o s.ret.length oc] a1 k1 a2 k2 o oc := ⟨rfl, own_ints A9, own_ints B9, own_iss hvl O9 i9, own_sl A9, own_sl B9, own_sl O9⟩
      clear be BE hin S T PA PB OO A9 B9 O9 i9
      go_wp2
      exact bodyPost_ret (v := .agg #[.slice a1 s.items.length k1, .slice a2 s.wh.length k2, .int .i64 s.within, .int .i64 s.by_, .slice o s.ret.length oc]) (by simp [results, Try.results5, go_sem, e0, e1, e2, e3, e4]) rfl ⟨_, _, _, _, _, _, _, rfl, fin, GE⟩

end Go.Proofs.Ytbedpgamjaemoaa
