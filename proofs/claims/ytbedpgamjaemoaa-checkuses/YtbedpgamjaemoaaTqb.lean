/- Copies of strings, of items, of trees: a query's copy. -/
import Derived.Test.YtbedpgamjaemoaaTqa
import Derived.Test.YtbedpgamjaemoaaCtc0
namespace Go.Proofs.Ytbedpgamjaemoaa
open Go.RowKit Go.BigFrame
set_option linter.unusedVariables false
set_option linter.unusedSimpArgs false

def ssV (l : List ByteArray) : List Value := l.map Value.string
theorem nf_str : (Try.prog.info? 9).map (fun i => (i.zero, i.size, i.bytes)) = some (some (.string ⟨#[]⟩), 1, 16) := by kernel_rfl
theorem ss_at (zs : List ByteArray) (j : Nat) (u : Value) (h : (ssV zs)[j]? = some u) : j < zs.length ∧ u = .string (zs.getD j eS) := by
  have hj := (List.getElem?_eq_some_iff.1 h).1
  rw [show (ssV zs).length = zs.length by simp [ssV]] at hj
  refine ⟨hj, ?_⟩
  unfold ssV at h
  rw [List.getElem?_map, List.getElem?_eq_getElem hj] at h
  simp only [Option.map_some, Option.some.injEq] at h
  rw [← h, List.getD_eq_getElem?_getD, List.getElem?_eq_getElem hj]
  rfl
/-- append of a whole row of strings onto a row of one's own. -/
theorem wpList_append_ss {w : World} {ops : Array Oper} {rest : List Oper} {o : Oper} {a : Act} {Q : Exit → Act → World → Prop} (hgd : o.guard = none) (s x : Operand)
    (ho : o.op = .call { callee := .builtin .append, args := #[s, x], argTypes := #[59, 59] }) (v : Value) (base n : Nat) (xs : List Value) (hs : a.eval s = v) (O : w.ownsRow base 9 1 v n xs) (hb : base ≤ w.heap.size)
    (ao : Option Addr) (cap : Nat) (ts : List ByteArray) (hx : a.eval x = .slice ao ts.length cap) (hsl : Sl ao ts.length cap) (A : IsSs w ao ts) (hl : (n + ts.length) * 16 ≤ 140737488351232)
    (h : ∀ v' w', w'.ownsRow base 9 1 v' (n + ts.length) (xs ++ ssV ts) → w.grownBy w' v.ownBlock → wpList Try.prog ops Q rest (a.put o.dst v') w') : wpList Try.prog ops Q (o :: rest) a w := by
  obtain ⟨i3, ti, tz0, tz1, tz2⟩ := nf_info nf_str
  have hlen : (ssV ts).length = ts.length := by simp [ssV]
  cases ao with
  | none =>
    obtain ⟨h0, rfl⟩ := hsl.2 rfl
    refine wpList_plain hgd fun K hK' => ?_
    have hrun := run_append_owned_none (P := Try.prog) w base 59 o.type 9 i3 1 Try.underlying59 ti v n xs O
    have hts : ts = [] := List.length_eq_zero_iff.1 h0
    subst hts
    replace hx : a.eval x = .slice none 0 0 := hx
    unfold Oper.wp
    simp [execOp, ho, resolve, invoke, builtin, hs, hx, hrun, Result.andThen]
    refine hK' _ _ (h _ _ ?_ (World.grownBy.refl _ _))
    rw [show ssV [] = [] from rfl, List.append_nil]
    exact O
  | some ad =>
    refine wpList_append_own (w := w) hgd s x 59 ho base 9 i3 (.string ⟨#[]⟩) 1 16 Try.underlying59 ti tz0 tz1 tz2 rfl (by decide) v n xs hs O ad ts.length cap (ssV ts) hx (by rw [hlen, Nat.mul_one]) (fun j u hj => ?_) (fun u hu => ?_) (by unfold maxLen; omega) (by omega) hb (fun v' w' h1 h2 _ => h v' w' h1 h2)
    · obtain ⟨hj2, rfl⟩ := ss_at ts j u hj
      obtain ⟨g, off, e, c0⟩ := A j hj2
      cases e
      rw [Go.WideShapes.add_plain]
      exact c0
    · unfold ssV at hu
      obtain ⟨z, _, rfl⟩ := List.mem_map.1 hu
      rfl
set_option maxRecDepth 100000 in
set_option maxHeartbeats 4000000 in
theorem twinSs_any (zs : List ByteArray) (ao : Option Addr) (cap : Nat) (w : World) (hsl : Sl ao zs.length cap) (A : IsSs w ao zs) (hr : zs.length * 16 ≤ 140737488351232) :
    Calls Try.prog 23 #[.slice ao zs.length cap] w fun e w' => ∃ v, e = .returned v ∧ w'.ownsRow w.heap.size 9 1 v zs.length (ssV zs) ∧ Below w.heap.size w w' := by
  go_enter Try.func23, Try.ntmps23
  go_wp2_with (at_builtin; refine wpList_append_ss rfl _ _ rfl _ w.heap.size 0 [] rfl (World.ownsRow_nil _ _ _ _) (Nat.le_refl _) ao cap zs rfl hsl A (by omega) ?_; intro v' w1 O1 g1)
  rw [Nat.zero_add, List.nil_append] at O1
  go_wp2
  go_ret
  exact ⟨_, rfl, O1, (Below.refl _ _).grown g1 (Nat.le_refl _) (fun k e => by cases e)⟩
theorem own_ss {w : World} {b : Nat} {ao : Option Addr} {c : Nat} {zs : List ByteArray} (h : w.ownsRow b 9 1 (.slice ao zs.length c) zs.length (ssV zs)) : IsSs w ao zs := fun i hi => by
  rcases h.2 with ⟨h1, h2⟩ | ⟨g, c', cur, h1, _, _, _, _⟩
  · omega
  · cases h1
    refine ⟨g, 0, rfl, ?_⟩
    rw [Nat.zero_add, World.ownsRow.cellAt h i (by omega)]
    simp [ssV, List.getD, List.getElem?_eq_getElem hi]
theorem Bk.at5 {w : World} {b : Nat} {c0 c1 c2 c3 c4 : Value} {t : TypeId} (h : Bk w b #[c0, c1, c2, c3, c4] t) : w.cell? ⟨b, 0, none⟩ = some c0 ∧ w.cell? ⟨b, 1, none⟩ = some c1 ∧ w.cell? ⟨b, 2, none⟩ = some c2 ∧ w.cell? ⟨b, 3, none⟩ = some c3 ∧ w.cell? ⟨b, 4, none⟩ = some c4 := ⟨cell_of_row w b 0 _ _ _ h, cell_of_row w b 1 _ _ _ h, cell_of_row w b 2 _ _ _ h, cell_of_row w b 3 _ _ _ h, cell_of_row w b 4 _ _ _ h⟩
theorem nf_it : (Try.prog.info? 61).map (fun i => (i.zero, i.size, i.bytes)) = some (some (.agg #[.bool false, .slice none 0 0, .string ⟨#[]⟩, .int .i64 0, .int .i64 0]), 5, 64) := by kernel_rfl
theorem nf_nds : (Try.prog.info? 37).map (fun i => (i.zero, i.size, i.bytes)) = some (some (.slice none 0 0), 1, 24) := by kernel_rfl
/-- The cells of an item whose types lie at a. -/
def itC (i : It) (a : Option Addr) (c : Nat) : Array Value := #[.bool i.neg, .slice a i.ty.length c, .string i.v, .int .i64 i.lo, .int .i64 i.hi]
theorem it_newE {w : World} {g : Nat} (hg : g = w.heap.size) (i : It) (a : Option Addr) (c : Nat) (j : Nat) (u : Value) (h : (itC i a c).toList[j]? = some u) : (w.alloc (.cells (itC i a c) 61)).cell? ((⟨g, 0, none⟩ : Addr).add j) = some u := by
  subst hg
  rw [Go.WideShapes.add_plain, Nat.zero_add, World.cell?_alloc_new]
  simpa using h
theorem it_one (i : It) (a : Option Addr) (c : Nat) : ∀ u ∈ (itC i a c).toList, u.oneCell' = true := by
  intro u hu
  simp [itC] at hu
  rcases hu with rfl | rfl | rfl | rfl | rfl <;> rfl
/-- A row of items of one's own as it is read. -/
theorem own_its {w : World} {b b' : Nat} {ao : Option Addr} {c : Nat} {l : List It} {vs : List Value} (h : w.ownsRow b 61 5 (.slice ao l.length c) l.length vs) (hin : ∀ j, j < l.length → ∃ a c', (∀ r, r < 5 → vs[j * 5 + r]? = (itC (l.getD j noIt) a c').toList[r]?) ∧ w.ownsRow b' 9 1 (.slice a (l.getD j noIt).ty.length c') (l.getD j noIt).ty.length (ssV (l.getD j noIt).ty)) : IsIts w ao l := fun i hi => by
  obtain ⟨a, c', e, O⟩ := hin i hi
  rcases h.2 with ⟨h1, h2⟩ | ⟨g, c2, cur, h1, _, _, _, _⟩
  · omega
  · cases h1
    have hc : ∀ r, r < 5 → w.cell? ⟨g, i * 5 + r, none⟩ = (itC (l.getD i noIt) a c').toList[r]? := fun r hr => by rw [World.ownsRow.cellAt h (i * 5 + r) (by omega), e r hr]
    refine ⟨g, 0, rfl, a, c', ?_⟩
    rw [Nat.zero_add]
    exact ⟨hc 0 (by omega), hc 1 (by omega), hc 2 (by omega), hc 3 (by omega), hc 4 (by omega), own_ss O, own_sl O⟩
theorem own_nss {w : World} {b b' : Nat} {ao : Option Addr} {c : Nat} {l : List (List Nd)} {vs : List Value} (h : w.ownsRow b 37 1 (.slice ao l.length c) l.length vs) (hin : ∀ j, j < l.length → ∃ a c', vs[j]? = some (.slice a (l.getD j []).length c') ∧ w.ownsRow b' 58 6 (.slice a (l.getD j []).length c') (l.getD j []).length (ndsV (l.getD j []))) : IsNss w ao l := fun i hi => by
  obtain ⟨a, c', e, O⟩ := hin i hi
  rcases h.2 with ⟨h1, h2⟩ | ⟨g, c2, cur, h1, _, _, _, _⟩
  · omega
  · cases h1
    refine ⟨g, 0, a, c', rfl, ?_, nds_of_own O, own_sl O⟩
    rw [Nat.zero_add, World.ownsRow.cellAt h i (by omega)]
    exact e
structure QLoop1 (q : Qy) (w : World) (zz : Nat) (ai : Option Addr) (ci : Nat) (aw : Option Addr) (cw : Nat) (ar : Option Addr) (cr : Nat) (x : Value) (wr : World) : Prop where
  ex : ∃ (k : Nat) (vs : List Value) (o : Option Addr) (oc : Nat), k ≤ q.items.length ∧ x = .int .i64 k ∧ Bk wr w.heap.size #[.slice ai q.items.length ci, .int .i64 q.mode, .int .i64 q.after, .slice aw q.wh.length cw, .int .i64 q.within, .string q.by_, .slice ar q.ret.length cr] 40 ∧ Bk wr (w.heap.size + 1) #[.slice none 0 0, .int .i64 0, .int .i64 0, .slice none 0 0, .int .i64 0, .string ⟨#[]⟩, .slice none 0 0] 40 ∧ Bk wr (w.heap.size + 1 + 1) #[.slice o k oc, .int .i64 q.mode, .int .i64 q.after, .slice aw q.wh.length cw, .int .i64 q.within, .string q.by_, .slice ar q.ret.length cr] 40 ∧
    vs.length = k * 5 ∧ wr.ownsRow zz 61 5 (.slice o k oc) k vs ∧ (∀ j, j < k → ∃ a c', (∀ r, r < 5 → vs[j * 5 + r]? = (itC (q.items.getD j noIt) a c').toList[r]?) ∧ wr.ownsRow w.heap.size 9 1 (.slice a (q.items.getD j noIt).ty.length c') (q.items.getD j noIt).ty.length (ssV (q.items.getD j noIt).ty)) ∧ zz ≤ wr.heap.size ∧ Below w.heap.size w wr
/-- The items' copy. -/
structure ItsO (q : Qy) (w : World) (zz : Nat) (oi : Option Addr) (ic : Nat) (vi : List Value) (wr : World) : Prop where
  own : wr.ownsRow zz 61 5 (.slice oi q.items.length ic) q.items.length vi
  inn : ∀ j, j < q.items.length → ∃ a c', (∀ r, r < 5 → vi[j * 5 + r]? = (itC (q.items.getD j noIt) a c').toList[r]?) ∧ wr.ownsRow w.heap.size 9 1 (.slice a (q.items.getD j noIt).ty.length c') (q.items.getD j noIt).ty.length (ssV (q.items.getD j noIt).ty)
theorem ItsO.map {q : Qy} {w : World} {zz : Nat} {oi : Option Addr} {ic : Nat} {vi : List Value} {wr wr' : World} (h : ItsO q w zz oi ic vi wr) (f : ∀ (e : TypeId) (b s : Nat) (v : Value) (n : Nat) (xs : List Value), (e = 61 ∨ e = 9) → wr.ownsRow b e s v n xs → wr'.ownsRow b e s v n xs) : ItsO q w zz oi ic vi wr' :=
  ⟨f _ _ _ _ _ _ (.inl rfl) h.own, fun j hj => by
    obtain ⟨a, c, h1, h2⟩ := h.inn j hj
    exact ⟨a, c, h1, f _ _ _ _ _ _ (.inr rfl) h2⟩⟩
structure QLoop2 (q : Qy) (w : World) (zz z2 : Nat) (oi : Option Addr) (ic : Nat) (vi : List Value) (a2 : Option Addr) (k2 : Nat) (ai : Option Addr) (ci : Nat) (aw : Option Addr) (cw : Nat) (ar : Option Addr) (cr : Nat) (x : Value) (wr : World) : Prop where
  ex : ∃ (k : Nat) (vs : List Value) (o : Option Addr) (oc : Nat), k ≤ q.ret.length ∧ x = .int .i64 k ∧ Bk wr w.heap.size #[.slice ai q.items.length ci, .int .i64 q.mode, .int .i64 q.after, .slice aw q.wh.length cw, .int .i64 q.within, .string q.by_, .slice ar q.ret.length cr] 40 ∧ Bk wr (w.heap.size + 1) #[.slice none 0 0, .int .i64 0, .int .i64 0, .slice none 0 0, .int .i64 0, .string ⟨#[]⟩, .slice none 0 0] 40 ∧ Bk wr (w.heap.size + 1 + 1) #[.slice oi q.items.length ic, .int .i64 q.mode, .int .i64 q.after, .slice a2 q.wh.length k2, .int .i64 q.within, .string q.by_, .slice o k oc] 40 ∧ ItsO q w zz oi ic vi wr ∧ wr.ownsRow w.heap.size 58 6 (.slice a2 q.wh.length k2) q.wh.length (ndsV q.wh) ∧
    vs.length = k ∧ wr.ownsRow z2 37 1 (.slice o k oc) k vs ∧ (∀ j, j < k → ∃ a c', vs[j]? = some (.slice a (q.ret.getD j []).length c') ∧ wr.ownsRow w.heap.size 58 6 (.slice a (q.ret.getD j []).length c') (q.ret.getD j []).length (ndsV (q.ret.getD j []))) ∧ z2 ≤ wr.heap.size ∧ Below w.heap.size w wr
set_option maxRecDepth 100000 in
set_option maxHeartbeats 8000000 in
theorem twinQ_any (q : Qy) (hq : q.fit) (cs : Array Value) (ai : Option Addr) (ci : Nat) (aw : Option Addr) (cw : Nat) (ar : Option Addr) (cr : Nat) (w : World) (A : IsQ w q cs ai ci aw cw ar cr) :
    Calls Try.prog 11 #[.agg cs] w fun e w' => ∃ cs' ai' ci' aw' cw' ar' cr', e = .returned (.agg cs') ∧ IsQ w' q cs' ai' ci' aw' cw' ar' cr' ∧ Below w.heap.size w w' := by
  obtain ⟨he, Ai, Aw, Ar, si, sw, sr⟩ := A
  subst he
  obtain ⟨i0, hi, hz0, hz1, hz2⟩ := nf_info nf_it
  obtain ⟨i1, hj, hy0, hy1, hy2⟩ := nf_info nf_nds
  have hnn := hq.n
  have hnr := hq.r
  have B0 := galloc (galloc (galloc (Below.refl w.heap.size w) (.cells #[.slice ai q.items.length ci, .int .i64 q.mode, .int .i64 q.after, .slice aw q.wh.length cw, .int .i64 q.within, .string q.by_, .slice ar q.ret.length cr] 40)) (.cells #[.slice none 0 0, .int .i64 0, .int .i64 0, .slice none 0 0, .int .i64 0, .string ⟨#[]⟩, .slice none 0 0] 40)) (.cells #[.slice none 0 0, .int .i64 q.mode, .int .i64 q.after, .slice aw q.wh.length cw, .int .i64 q.within, .string q.by_, .slice ar q.ret.length cr] 40)
  have S0 := ((Bk.new w #[.slice ai q.items.length ci, .int .i64 q.mode, .int .i64 q.after, .slice aw q.wh.length cw, .int .i64 q.within, .string q.by_, .slice ar q.ret.length cr] 40).alloc (.cells #[.slice none 0 0, .int .i64 0, .int .i64 0, .slice none 0 0, .int .i64 0, .string ⟨#[]⟩, .slice none 0 0] 40)).alloc (.cells #[.slice none 0 0, .int .i64 q.mode, .int .i64 q.after, .slice aw q.wh.length cw, .int .i64 q.within, .string q.by_, .slice ar q.ret.length cr] 40)
  have R0 := (Bk.newE (w := w.alloc (.cells #[.slice ai q.items.length ci, .int .i64 q.mode, .int .i64 q.after, .slice aw q.wh.length cw, .int .i64 q.within, .string q.by_, .slice ar q.ret.length cr] 40)) (g := w.heap.size + 1) (by simp) #[.slice none 0 0, .int .i64 0, .int .i64 0, .slice none 0 0, .int .i64 0, .string ⟨#[]⟩, .slice none 0 0] 40).alloc (.cells #[.slice none 0 0, .int .i64 q.mode, .int .i64 q.after, .slice aw q.wh.length cw, .int .i64 q.within, .string q.by_, .slice ar q.ret.length cr] 40)
  have T0 := Bk.newE (w := (w.alloc (.cells #[.slice ai q.items.length ci, .int .i64 q.mode, .int .i64 q.after, .slice aw q.wh.length cw, .int .i64 q.within, .string q.by_, .slice ar q.ret.length cr] 40)).alloc (.cells #[.slice none 0 0, .int .i64 0, .int .i64 0, .slice none 0 0, .int .i64 0, .string ⟨#[]⟩, .slice none 0 0] 40)) (g := w.heap.size + 1 + 1) (by simp) #[.slice none 0 0, .int .i64 q.mode, .int .i64 q.after, .slice aw q.wh.length cw, .int .i64 q.within, .string q.by_, .slice ar q.ret.length cr] 40
  go_enter Try.func11, Try.ntmps11
  go_wp2
  generalize ((w.alloc (.cells #[.slice ai q.items.length ci, .int .i64 q.mode, .int .i64 q.after, .slice aw q.wh.length cw, .int .i64 q.within, .string q.by_, .slice ar q.ret.length cr] 40)).alloc (.cells #[.slice none 0 0, .int .i64 0, .int .i64 0, .slice none 0 0, .int .i64 0, .string ⟨#[]⟩, .slice none 0 0] 40)).alloc (.cells #[.slice none 0 0, .int .i64 q.mode, .int .i64 q.after, .slice aw q.wh.length cw, .int .i64 q.within, .string q.by_, .slice ar q.ret.length cr] 40) = Z at *
  have lT := T0.lt
  go_loopw [4, 5] (fun x _ wr => QLoop1 q w Z.heap.size ai ci aw cw ar cr x wr) (fun x _ _ => q.items.length - (intOf x).toNat)
  case atStart => exact ⟨⟨0, [], none, 0, Nat.zero_le _, rfl, S0, R0, T0, rfl, World.ownsRow_nil _ _ _ _, fun j hj => absurd hj (Nat.not_lt_zero _), Nat.le_refl _, B0⟩⟩
  case round =>
    obtain ⟨⟨k, vs, o, oc, hk, rfl, S, R, T, hvl, OO, hin, zZ, G⟩⟩ := hrel
    have zG := G.size
    obtain ⟨s0, _, _, s3, _, _, s6⟩ := S.at7
    by_cases hlt : k < q.items.length
    · obtain ⟨g, og, rfl, a, c, x0, x1, x2, x3, x4, I, sl⟩ := (Ai.keep G) k hlt
      have hki : (k : Int) < (q.items.length : Int) := by omega
      have hft := (hq.its k).n
      obtain ⟨it, hit⟩ : ∃ it, q.items.getD k noIt = it := ⟨_, rfl⟩
      rw [hit] at x0 x1 x2 x3 x4 I sl hft
      have HIT := show Hid (_ = _) from hit
      clear hit
      obtain ⟨iN, iT, iV, iL, iH⟩ := it
      dsimp only at x0 x1 x2 x3 x4 I sl hft
      have GN := galloc (Below.refl wr.heap.size wr) (.cells #[.bool iN, .slice a iT.length c, .string iV, .int .i64 iL, .int .i64 iH] 61)
      have c3 := twinSs_any iT a c _ sl (I.keep GN) hft
      have NB := Bk.new wr #[.bool iN, .slice a iT.length c, .string iV, .int .i64 iL, .int .i64 iH] 61
      go_upto_region 8 with (go_at_call 23; (with_reducible refine c3.mono ?_); rintro e u ⟨v3, rfl, O3, g3⟩; obtain ⟨a3, k3, rfl, _, _, _⟩ := own_form O3; have NBu := NB.keep g3; have nfr := NBu.free 1; obtain ⟨m0, m1, m2, m3, m4⟩ := Bk.at5 NBu)
      have GY := gset (gtrans GN g3) (p := ⟨wr.heap.size, 1, none⟩) (Nat.le_refl _) (.slice a3 iT.length k3)
      have NY : Bk (u.setCell ⟨wr.heap.size, 1, none⟩ (.slice a3 iT.length k3)) wr.heap.size #[.bool iN, .slice a3 iT.length k3, .string iV, .int .i64 iL, .int .i64 iH] 61 := NBu.set 1 (.slice a3 iT.length k3)
      have O3' := World.ownsRow.mono (ty_set O3 NBu (by decide) 1 (.slice a3 iT.length k3)) (show w.heap.size ≤ _ by simp; omega)
      clear NBu nfr m0 m1 m2 m3 m4 c3 NB GN O3 g3
      generalize u.setCell ⟨wr.heap.size, 1, none⟩ (.slice a3 iT.length k3) = Y at *
      have SY := S.keep GY
      have RY := R.keep GY
      have TY := T.keep GY
      have OY := own_keep OO GY
      have iY := fun j (hj : j < k) => show ∃ a c', (∀ r, r < 5 → vs[j * 5 + r]? = (itC (q.items.getD j noIt) a c').toList[r]?) ∧ Y.ownsRow w.heap.size 9 1 (.slice a (q.items.getD j noIt).ty.length c') (q.items.getD j noIt).ty.length (ssV (q.items.getD j noIt).ty) from by
        obtain ⟨aj, cj, e1, e2⟩ := hin j hj
        exact ⟨aj, cj, e1, own_keep e2 GY⟩
      have GG := gtrans G GY
      have zY := GY.size
      obtain ⟨m0, m1, m2, m3, m4⟩ := NY.at5
      obtain ⟨t0, _⟩ := TY.at7
      clear S R T OO hin x0 x1 x2 x3 x4 I sl s0 s3 s6
      go_wp2_with (at_builtin; refine wpList_append_own _ rfl (.tmp 27) (.tmp 29) 34 rfl Z.heap.size 61 i0 (.agg #[.bool false, .slice none 0 0, .string ⟨#[]⟩, .int .i64 0, .int .i64 0]) 5 64 Try.underlying34 hi hz0 hz1 hz2 rfl (by decide) _ _ _ rfl (OY.alloc _) ⟨Y.heap.size, 0, none⟩ 1 1 (itC ⟨iN, iT, iV, iL, iH⟩ a3 k3).toList rfl rfl (it_newE rfl ⟨iN, iT, iV, iL, iH⟩ a3 k3) (it_one _ _ _) ?c3 ?c4 ?c5 ?_)
      case c3 => unfold maxLen; omega
      case c4 => omega
      case c5 => first | omega | (simp; omega)
      intro v' w1 hown' hgrow _
      obtain ⟨o', oc', rfl, _, _, _⟩ := own_form hown'
      have ge := galloc (Below.refl Y.heap.size Y) (.cells (itC ⟨iN, iT, iV, iL, iH⟩ a3 k3) 61)
      have OE := own_keep OY ge
      have Sw := bk_far (SY.keep ge) OE (by decide) hgrow
      have Rw := bk_far (RY.keep ge) OE (by decide) hgrow
      have Tw := bk_far (TY.keep ge) OE (by decide) hgrow
      have fr := fun (b : Nat) (v : Value) (m : Nat) (xs : List Value) (h : Y.ownsRow b 9 1 v m xs) => ty_far OE (own_keep h ge) (by decide) hgrow
      have Gw : Below w.heap.size w w1 := (gtrans GG ge).grown hgrow (by have := GG.size; simp; omega) (fun r e => by have := (OE.lt _ e).1; omega)
      have zw : Y.heap.size + 1 ≤ w1.heap.size := by have := hgrow.size; simpa using this
      have BE := (But.refl (w.heap.size + 1 + 1) w1).set 0 (.slice o' (k + 1) oc')
      have be := fun (e : TypeId) (hT : 40 ≠ e) (b s' : Nat) (v : Value) (m : Nat) (xs : List Value) (h : w1.ownsRow b e s' v m xs) => own_but h Tw hT BE
      have S9 := Sw.other (b' := w.heap.size + 1 + 1) (by omega) 0 (.slice o' (k + 1) oc')
      have R9 := Rw.other (b' := w.heap.size + 1 + 1) (by omega) 0 (.slice o' (k + 1) oc')
      have T9 : Bk (w1.setCell ⟨w.heap.size + 1 + 1, 0, none⟩ (.slice o' (k + 1) oc')) (w.heap.size + 1 + 1) #[.slice o' (k + 1) oc', .int .i64 q.mode, .int .i64 q.after, .slice aw q.wh.length cw, .int .i64 q.within, .string q.by_, .slice ar q.ret.length cr] 40 := Tw.set 0 (.slice o' (k + 1) oc')
      have G9 := gset Gw (p := ⟨w.heap.size + 1 + 1, 0, none⟩) (by dsimp only; omega) (.slice o' (k + 1) oc')
      have hl5 : (itC ⟨iN, iT, iV, iL, iH⟩ a3 k3).toList.length = 5 := rfl
      have i9 : ∀ j, j < k + 1 → ∃ a c', (∀ r, r < 5 → (vs ++ (itC ⟨iN, iT, iV, iL, iH⟩ a3 k3).toList)[j * 5 + r]? = (itC (q.items.getD j noIt) a c').toList[r]?) ∧ (w1.setCell ⟨w.heap.size + 1 + 1, 0, none⟩ (.slice o' (k + 1) oc')).ownsRow w.heap.size 9 1 (.slice a (q.items.getD j noIt).ty.length c') (q.items.getD j noIt).ty.length (ssV (q.items.getD j noIt).ty) := fun j hj => by
        by_cases hjk : j < k
        · obtain ⟨aj, cj, e1, e2⟩ := iY j hjk
          exact ⟨aj, cj, fun r hr => by rw [List.getElem?_append_left (by omega)]; exact e1 r hr, be _ (by decide) _ _ _ _ _ (fr _ _ _ _ e2)⟩
        · obtain rfl : j = k := by omega
          rw [HIT.out]
          exact ⟨a3, k3, fun r hr => by rw [List.getElem?_append_right (by omega), hvl, Nat.add_sub_cancel_left], be _ (by decide) _ _ _ _ _ (fr _ _ _ _ O3')⟩
      have O9 := be _ (by decide) _ _ _ _ _ hown'
      have tt := Tw.at7.1
      have ft := Tw.free 0
      have fin : QLoop1 q w Z.heap.size (some ⟨g, og, none⟩) ci aw cw ar cr (.int .i64 ((k : Int) + 1)) (w1.setCell ⟨w.heap.size + 1 + 1, 0, none⟩ (.slice o' (k + 1) oc')) := ⟨⟨k + 1, vs ++ (itC ⟨iN, iT, iV, iL, iH⟩ a3 k3).toList, o', oc', by omega, by go_num, S9, R9, T9, by rw [List.length_append, hvl, hl5]; omega, O9, i9, by simp; omega, G9⟩⟩
      clear hgrow iY be fr OY SY RY TY OE O3' hown' S9 R9 T9 G9 i9 O9
      go_wp2
      go_roundw
      case rel => exact fin
      case measure => simp [intOf]; omega
    · have hkn : k = q.items.length := by omega
      subst hkn
      have II : ItsO q w Z.heap.size o oc vs wr := ⟨OO, hin⟩
      have c4 := fun (u : World) (g : Below w.heap.size w u) => twinT_any q.wh aw cw u sw.2 (Aw.keep g) hq.wh.1
      obtain ⟨oi, hoi⟩ : ∃ oi, o = oi := ⟨_, rfl⟩
      obtain ⟨ic, hic⟩ : ∃ ic, oc = ic := ⟨_, rfl⟩
      obtain ⟨vi, hvi⟩ : ∃ vi, vs = vi := ⟨_, rfl⟩
      subst hoi hic hvi
      clear hin OO
      go_wp2_with (go_at_call 12; (with_reducible refine (c4 _ G).mono ?_); rintro e u ⟨v2, rfl, O2, g2⟩; obtain ⟨a2, k2, rfl, _, _, _⟩ := own_form O2; have Su := S.keep g2; have Ru := R.keep g2; have Tu := T.keep g2; have Iu := II.map (fun e b s v n xs _ h => own_keep h g2); have Gu := gtrans G g2; obtain ⟨_, _, _, t3, _, _, t6⟩ := Tu.at7; have f3 := Tu.free 3; have f6 := Tu.free 6)
      have BZ := ((But.refl (w.heap.size + 1 + 1) u).set 3 (.slice a2 q.wh.length k2)).set 6 (.slice none 0 0)
      have SZ := (Su.other (b' := w.heap.size + 1 + 1) (by omega) 3 (.slice a2 q.wh.length k2)).other (b' := w.heap.size + 1 + 1) (by omega) 6 (.slice none 0 0)
      have RZ := (Ru.other (b' := w.heap.size + 1 + 1) (by omega) 3 (.slice a2 q.wh.length k2)).other (b' := w.heap.size + 1 + 1) (by omega) 6 (.slice none 0 0)
      have TZ : Bk ((u.setCell ⟨w.heap.size + 1 + 1, 3, none⟩ (.slice a2 q.wh.length k2)).setCell ⟨w.heap.size + 1 + 1, 6, none⟩ (.slice none 0 0)) (w.heap.size + 1 + 1) #[.slice o q.items.length oc, .int .i64 q.mode, .int .i64 q.after, .slice a2 q.wh.length k2, .int .i64 q.within, .string q.by_, .slice none 0 0] 40 := (Tu.set 3 (.slice a2 q.wh.length k2)).set 6 (.slice none 0 0)
      have IZ := Iu.map (fun e b s v n xs he h => own_but h Tu (by rcases he with rfl | rfl <;> decide) BZ)
      have OZ := World.ownsRow.mono (own_but O2 Tu (by decide) BZ) (show w.heap.size ≤ _ from zG)
      have GZ := gset (gset Gu (p := ⟨w.heap.size + 1 + 1, 3, none⟩) (by dsimp only; omega) (.slice a2 q.wh.length k2)) (p := ⟨w.heap.size + 1 + 1, 6, none⟩) (by dsimp only; omega) (.slice none 0 0)
      have zu := g2.size
      have zZ2 : Z.heap.size ≤ ((u.setCell ⟨w.heap.size + 1 + 1, 3, none⟩ (.slice a2 q.wh.length k2)).setCell ⟨w.heap.size + 1 + 1, 6, none⟩ (.slice none 0 0)).heap.size := by simp; omega
      clear S R T II Su Ru Tu Iu O2 BZ t3 t6 f3 f6 c4 Gu g2 G s0 s3 s6
      generalize (u.setCell ⟨w.heap.size + 1 + 1, 3, none⟩ (.slice a2 q.wh.length k2)).setCell ⟨w.heap.size + 1 + 1, 6, none⟩ (.slice none 0 0) = Y at *
      go_loopw [6, 7] (fun x _ wr => QLoop2 q w Z.heap.size Y.heap.size o oc vs a2 k2 ai ci aw cw ar cr x wr) (fun x _ _ => q.ret.length - (intOf x).toNat)
      case atStart => exact ⟨⟨0, [], none, 0, Nat.zero_le _, rfl, SZ, RZ, TZ, IZ, OZ, rfl, World.ownsRow_nil _ _ _ _, fun j hj => absurd hj (Nat.not_lt_zero _), Nat.le_refl _, GZ⟩⟩
      case round =>
        clear SZ RZ TZ IZ OZ GZ
        obtain ⟨⟨k, ws, p, pc, hk2, rfl, S, R, T, II, OW, hvl2, OO, hin, zY, G⟩⟩ := hrel
        have zG2 := G.size
        obtain ⟨_, _, _, _, _, _, s6⟩ := S.at7
        by_cases hlt2 : k < q.ret.length
        · obtain ⟨g, og, a, c, rfl, x0, I, sl⟩ := (Ar.keep G) k hlt2
          have c3 := twinT_any (q.ret.getD k []) a c _ sl.2 I (hq.ret k).1
          have hki : (k : Int) < (q.ret.length : Int) := by omega
          obtain ⟨rk, hrk⟩ : ∃ rk, q.ret.getD k [] = rk := ⟨_, rfl⟩
          rw [hrk] at x0 c3
          have HRK := show Hid (_ = _) from hrk
          clear hrk I sl
          go_wp2_with (first
            | (go_at_call 12; (with_reducible refine c3.mono ?_); rintro e u4 ⟨v3, rfl, O3, g3⟩; obtain ⟨a3, k3, rfl, _, _, _⟩ := own_form O3; have Su := S.keep g3; have Ru := R.keep g3; have Tu := T.keep g3; have OOu := own_keep OO g3; have OWu := own_keep OW g3; have Iu := II.map (fun e b s v n xs _ h => own_keep h g3); have Gu := gtrans G g3; have zu4 := g3.size; obtain ⟨_, _, _, _, _, _, t6⟩ := Tu.at7)
            | (at_builtin; refine wpList_append_own _ rfl (.tmp 51) (.tmp 53) 38 rfl Y.heap.size 37 i1 (.slice none 0 0) 1 24 Try.underlying38 hj hy0 hy1 hy2 rfl (by decide) _ _ _ rfl (OOu.alloc _) ⟨u4.heap.size, 0, none⟩ 1 1 [_] rfl rfl (cell_one_new _ _ _) (fun u hu => by simp at hu; subst hu; rfl) ?c3 ?c4 ?c5 ?_))
          case c3 => unfold maxLen; omega
          case c4 => omega
          case c5 => first | omega | (simp; omega)
          intro v' w1 hown' hgrow _
          obtain ⟨o', oc', rfl, _, _, _⟩ := own_form hown'
          have ge := galloc (Below.refl u4.heap.size u4) (.cells #[.slice a3 rk.length k3] 37)
          have OE := own_keep OOu ge
          have Sw := bk_far (Su.keep ge) OE (by decide) hgrow
          have Rw := bk_far (Ru.keep ge) OE (by decide) hgrow
          have Tw := bk_far (Tu.keep ge) OE (by decide) hgrow
          have fr := fun (e : TypeId) (hT : 37 ≠ e) (b s' : Nat) (v : Value) (m : Nat) (xs : List Value) (h : u4.ownsRow b e s' v m xs) => ty_far OE (own_keep h ge) hT hgrow
          have Gw : Below w.heap.size w w1 := (gtrans Gu ge).grown hgrow (by have := Gu.size; simp; omega) (fun r e => by have := (OE.lt _ e).1; omega)
          have zw : u4.heap.size + 1 ≤ w1.heap.size := by have := hgrow.size; simpa using this
          have BE := (But.refl (w.heap.size + 1 + 1) w1).set 6 (.slice o' (k + 1) oc')
          have be := fun (e : TypeId) (hT : 40 ≠ e) (b s' : Nat) (v : Value) (m : Nat) (xs : List Value) (h : w1.ownsRow b e s' v m xs) => own_but h Tw hT BE
          have S9 := Sw.other (b' := w.heap.size + 1 + 1) (by omega) 6 (.slice o' (k + 1) oc')
          have R9 := Rw.other (b' := w.heap.size + 1 + 1) (by omega) 6 (.slice o' (k + 1) oc')
          have T9 : Bk (w1.setCell ⟨w.heap.size + 1 + 1, 6, none⟩ (.slice o' (k + 1) oc')) (w.heap.size + 1 + 1) #[.slice o q.items.length oc, .int .i64 q.mode, .int .i64 q.after, .slice a2 q.wh.length k2, .int .i64 q.within, .string q.by_, .slice o' (k + 1) oc'] 40 := Tw.set 6 (.slice o' (k + 1) oc')
          have I9 := Iu.map (fun e b s v n xs he h => be e (by rcases he with rfl | rfl <;> decide) _ _ _ _ _ (fr e (by rcases he with rfl | rfl <;> decide) _ _ _ _ _ h))
          have W9 := be _ (by decide) _ _ _ _ _ (fr _ (by decide) _ _ _ _ _ OWu)
          have G9 := gset Gw (p := ⟨w.heap.size + 1 + 1, 6, none⟩) (by dsimp only; omega) (.slice o' (k + 1) oc')
          have i9 : ∀ j, j < k + 1 → ∃ a c', (ws ++ [.slice a3 rk.length k3])[j]? = some (.slice a (q.ret.getD j []).length c') ∧ (w1.setCell ⟨w.heap.size + 1 + 1, 6, none⟩ (.slice o' (k + 1) oc')).ownsRow w.heap.size 58 6 (.slice a (q.ret.getD j []).length c') (q.ret.getD j []).length (ndsV (q.ret.getD j [])) := fun j hj => by
            by_cases hjk : j < k
            · obtain ⟨aj, cj, e1, e2⟩ := hin j hjk
              exact ⟨aj, cj, by rw [List.getElem?_append_left (by omega)]; exact e1, be _ (by decide) _ _ _ _ _ (fr _ (by decide) _ _ _ _ _ (own_keep e2 g3))⟩
            · obtain rfl : j = k := by omega
              rw [HRK.out]
              exact ⟨a3, k3, by rw [List.getElem?_append_right (by omega), hvl2, Nat.sub_self]; rfl, be _ (by decide) _ _ _ _ _ (World.ownsRow.mono (fr _ (by decide) _ _ _ _ _ O3) zG2)⟩
          have O9 := be _ (by decide) _ _ _ _ _ hown'
          have tt := Tw.at7.2.2.2.2.2.2
          have ft := Tw.free 6
          have fin : QLoop2 q w Z.heap.size Y.heap.size o oc vs a2 k2 ai ci aw cw (some ⟨g, og, none⟩) cr (.int .i64 ((k : Int) + 1)) (w1.setCell ⟨w.heap.size + 1 + 1, 6, none⟩ (.slice o' (k + 1) oc')) := ⟨⟨k + 1, ws ++ [.slice a3 rk.length k3], o', oc', by omega, by go_num, S9, R9, T9, I9, W9, by simp [hvl2], O9, i9, by simp; omega, G9⟩⟩
          clear hgrow hin be fr OOu Su Ru Tu OE O3 hown' S9 R9 T9 G9 i9 O9 I9 W9 Iu OWu S R T II OW OO c3
          go_wp2
          go_roundw
          case rel => exact fin
          case measure => simp [intOf]; omega
        · have hkn2 : k = q.ret.length := by omega
          subst hkn2
          obtain ⟨t0, t1, t2, t3, t4, t5, t6⟩ := T.at7
          obtain ⟨r0, r1, r2, r3, r4, r5, r6⟩ := R.at7
          have q0 := R.free 0
          have q1 := R.free 1
          have q2 := R.free 2
          have q3 := R.free 3
          have q4 := R.free 4
          have q5 := R.free 5
          have q6 := R.free 6
          have BE := (((((((But.refl (w.heap.size + 1) wr).set 0 (.slice o q.items.length oc)).set 1 (.int .i64 q.mode)).set 2 (.int .i64 q.after)).set 3 (.slice a2 q.wh.length k2)).set 4 (.int .i64 q.within)).set 5 (.string q.by_)).set 6 (.slice p q.ret.length pc)
          have RE := ((((((R.set 0 (.slice o q.items.length oc)).set 1 (.int .i64 q.mode)).set 2 (.int .i64 q.after)).set 3 (.slice a2 q.wh.length k2)).set 4 (.int .i64 q.within)).set 5 (.string q.by_)).set 6 (.slice p q.ret.length pc)
          have be := fun (e : TypeId) (hT : 40 ≠ e) (b s' : Nat) (v : Value) (m : Nat) (xs : List Value) (h : wr.ownsRow b e s' v m xs) => own_but h R hT BE
          have GE := gset (gset (gset (gset (gset (gset (gset G (p := ⟨w.heap.size + 1, 0, none⟩) (by dsimp only; omega) (.slice o q.items.length oc)) (p := ⟨w.heap.size + 1, 1, none⟩) (by dsimp only; omega) (.int .i64 q.mode)) (p := ⟨w.heap.size + 1, 2, none⟩) (by dsimp only; omega) (.int .i64 q.after)) (p := ⟨w.heap.size + 1, 3, none⟩) (by dsimp only; omega) (.slice a2 q.wh.length k2)) (p := ⟨w.heap.size + 1, 4, none⟩) (by dsimp only; omega) (.int .i64 q.within)) (p := ⟨w.heap.size + 1, 5, none⟩) (by dsimp only; omega) (.string q.by_)) (p := ⟨w.heap.size + 1, 6, none⟩) (by dsimp only; omega) (.slice p q.ret.length pc)
          have RE' : Bk (((((((wr.setCell ⟨w.heap.size + 1, 0, none⟩ (.slice o q.items.length oc)).setCell ⟨w.heap.size + 1, 1, none⟩ (.int .i64 q.mode)).setCell ⟨w.heap.size + 1, 2, none⟩ (.int .i64 q.after)).setCell ⟨w.heap.size + 1, 3, none⟩ (.slice a2 q.wh.length k2)).setCell ⟨w.heap.size + 1, 4, none⟩ (.int .i64 q.within)).setCell ⟨w.heap.size + 1, 5, none⟩ (.string q.by_)).setCell ⟨w.heap.size + 1, 6, none⟩ (.slice p q.ret.length pc)) (w.heap.size + 1) #[.slice o q.items.length oc, .int .i64 q.mode, .int .i64 q.after, .slice a2 q.wh.length k2, .int .i64 q.within, .string q.by_, .slice p q.ret.length pc] 40 := RE
          obtain ⟨e0, e1, e2, e3, e4, e5, e6⟩ := RE'.at7
          have I9 := II.map (fun e b s v n xs he h => be e (by rcases he with rfl | rfl <;> decide) _ _ _ _ _ h)
          have W9 := be _ (by decide) _ _ _ _ _ OW
          have O9 := be _ (by decide) _ _ _ _ _ OO
          have i9 := fun j (hj : j < q.ret.length) => show ∃ a c', ws[j]? = some (.slice a (q.ret.getD j []).length c') ∧ World.ownsRow _ w.heap.size 58 6 (.slice a (q.ret.getD j []).length c') (q.ret.getD j []).length (ndsV (q.ret.getD j [])) from by
            obtain ⟨a, c, h1, h2⟩ := hin j hj
            exact ⟨a, c, h1, be _ (by decide) _ _ _ _ _ h2⟩
          have fin : IsQ _ q #[.slice o q.items.length oc, .int .i64 q.mode, .int .i64 q.after, .slice a2 q.wh.length k2, .int .i64 q.within, .string q.by_, .slice p q.ret.length pc] o oc a2 k2 p pc := ⟨rfl, own_its I9.own I9.inn, nds_of_own W9, own_nss O9 i9, own_sl I9.own, own_sl W9, own_sl O9⟩
          clear be BE hin S T II OW OO I9 W9 O9 i9 RE
          go_wp2
          exact bodyPost_ret (v := .agg #[.slice o q.items.length oc, .int .i64 q.mode, .int .i64 q.after, .slice a2 q.wh.length k2, .int .i64 q.within, .string q.by_, .slice p q.ret.length pc]) (by simp [results, Try.results11, go_sem, e0, e1, e2, e3, e4, e5, e6]) rfl ⟨_, _, _, _, _, _, _, rfl, fin, GE⟩

end Go.Proofs.Ytbedpgamjaemoaa
