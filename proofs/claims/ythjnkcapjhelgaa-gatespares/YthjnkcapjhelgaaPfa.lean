/- Rows that are written over, rows that are full and grown: what PileFresh asks. -/
import Derived.Test.YthjnkcapjhelgaaHlc
import Derived.Test.YthjnkcapjhelgaaHlg
import Derived.Test.YthjnkcapjhelgaaOpenH
namespace Go.Proofs.Ythjnkcapjhelgaa
open Go.RowKit Go.BigFrame
set_option linter.unusedVariables false
set_option linter.unusedSimpArgs false

/-- An event with a timestamp and a type. -/
def mkT (t : Int) (i : Nat) : Ev := ⟨(i : Int), 0, t, 0, 0, 0, 0, 0, 0, 0, 0⟩
/-- An event with an id. -/
def mkI (k : Int) : Ev := ⟨0, k, 0, 0, 0, 0, 0, 0, 0, 0, 0⟩
theorem bldT (t : Int) (i : Nat) (w : World) : (Instr.build 47 #[(2, .int .i64 t), (0, .int .i64 (i : Int))]).run Try.prog w = .ok (.agg (evC (mkT t i))) w := by kernel_rfl
theorem bldI (k : Int) (w : World) : (Instr.build 47 #[(1, .int .u64 k)]).run Try.prog w = .ok (.agg (evC (mkI k))) w := by kernel_rfl
theorem getD_set {l : List Ev} {i j : Nat} {y z : Ev} (hj : j < l.length) : (l.set i y).getD j z = if i = j then y else l.getD j z := by
  rw [List.getD_eq_getElem?_getD, List.getElem?_set, List.getD_eq_getElem?_getD]
  by_cases h : i = j
  · subst h; rw [if_pos rfl, if_pos rfl, if_pos hj]; rfl
  · rw [if_neg h, if_neg h]
/-- The first i are written over. -/
def ovw (t : Int) (S : List Ev) : Nat → List Ev
  | 0 => S
  | i + 1 => (ovw t S i).set i (mkT t i)
theorem ovw_len (t : Int) (S : List Ev) : ∀ i, (ovw t S i).length = S.length
  | 0 => rfl
  | i + 1 => by unfold ovw; rw [List.length_set, ovw_len t S i]
theorem ovw_at (t : Int) (S : List Ev) (z : Ev) : ∀ {i j : Nat}, j < i → j < S.length → (ovw t S i).getD j z = mkT t j
  | i + 1, j, h, hl => by
    unfold ovw
    rw [getD_set (by rw [ovw_len]; exact hl)]
    by_cases e : i = j
    · rw [if_pos e, e]
    · rw [if_neg e]; exact ovw_at t S z (by omega) hl
/-- The first i are those of the end, numbered. -/
def rvw (M : List Ev) : Nat → List Ev
  | 0 => M
  | i + 1 => (rvw M i).set i { M.getD (M.length - 1 - i) zeroE with typ := (i : Int) }
theorem rvw_len (M : List Ev) : ∀ i, (rvw M i).length = M.length
  | 0 => rfl
  | i + 1 => by unfold rvw; rw [List.length_set, rvw_len M i]
theorem rvw_at (M : List Ev) (z : Ev) : ∀ {i j : Nat}, j < i → j < M.length → (rvw M i).getD j z = { M.getD (M.length - 1 - j) zeroE with typ := (j : Int) }
  | i + 1, j, h, hl => by
    unfold rvw
    rw [getD_set (by rw [rvw_len]; exact hl)]
    by_cases e : i = j
    · rw [if_pos e, e]
    · rw [if_neg e]; exact rvw_at M z (by omega) hl
theorem rvw_end (M : List Ev) : rvw M M.length = mkd M.reverse := by
  refine List.ext_getElem (by rw [rvw_len, mkd_len, List.length_reverse]) fun j h1 h2 => ?_
  rw [rvw_len] at h1
  have h3 := rvw_at M zeroE h1 h1
  rw [getD_of_lt _ j (by rw [rvw_len]; exact h1), getD_of_lt M _ (by omega)] at h3
  rw [h3]
  simp only [mkd, List.getElem_mapIdx, List.getElem_reverse]
section
variable {P : Program} {w : World} {ops : Array Oper} {rest : List Oper} {o : Oper} {a : Act} {Q : Exit → Act → World → Prop}
theorem wpL_b1 (hgd : o.guard = none) {T : TypeId} (x0 : Operand) {v0 v : Value} {f0 : Nat} (ho : o.op = .build T #[(f0, x0)]) (h0 : a.eval x0 = v0) (hr : (Instr.build T #[(f0, v0)]).run P w = .ok v w) (h : wpList P ops Q rest (a.put o.dst v) w) : wpList P ops Q (o :: rest) a w := by
  refine wpList_plain hgd fun K hK => ?_
  unfold Oper.wp execOp
  simp only [ho, List.map_toArray, List.map_cons, List.map_nil, h0, Sem.run_bind, hr, Result.andThen_ok, Sem.run_pure]
  exact hK _ _ h
theorem wpL_mv (hgd : o.guard = none) (x : Operand) {v : Value} (ho : o.op = .move x) (h0 : a.eval x = v) (h : wpList P ops Q rest (a.put o.dst v) w) : wpList P ops Q (o :: rest) a w := by
  refine wpList_plain hgd fun K hK => ?_
  unfold Oper.wp execOp
  simp only [ho, h0, Sem.run_bind, Result.andThen_ok, Sem.run_pure]
  exact hK _ _ h
theorem wpL_ix (hgd : o.guard = none) {T : TypeId} (x y : Operand) {v0 v1 v : Value} (ho : o.op = .indexAddr T x y) (h0 : a.eval x = v0) (h1 : a.eval y = v1) (hr : (Instr.indexAt T v0 v1).run P w = .ok v w) (h : wpList P ops Q rest (a.put o.dst v) w) : wpList P ops Q (o :: rest) a w := by
  refine wpList_plain hgd fun K hK => ?_
  unfold Oper.wp execOp
  simp only [ho, h0, h1, Sem.run_bind, hr, Result.andThen_ok, Sem.run_pure]
  exact hK _ _ h
theorem wpL_b2 (hgd : o.guard = none) {T : TypeId} (x0 x1 : Operand) {v0 v1 v : Value} {f0 f1 : Nat} (ho : o.op = .build T #[(f0, x0), (f1, x1)]) (h0 : a.eval x0 = v0) (h1 : a.eval x1 = v1) (hr : (Instr.build T #[(f0, v0), (f1, v1)]).run P w = .ok v w) (h : wpList P ops Q rest (a.put o.dst v) w) : wpList P ops Q (o :: rest) a w := by
  refine wpList_plain hgd fun K hK => ?_
  unfold Oper.wp execOp
  simp only [ho, List.map_toArray, List.map_cons, List.map_nil, h0, h1, Sem.run_bind, hr, Result.andThen_ok, Sem.run_pure]
  exact hK _ _ h
theorem wpL_s2 {w' : World} (hgd : o.guard = none) {T : TypeId} (x0 x1 : Operand) {v0 v1 v : Value} (ho : o.op = .buildSlice T 2 #[(0, x0), (1, x1)]) (h0 : a.eval x0 = v0) (h1 : a.eval x1 = v1) (hr : (Instr.buildSlice T 2 #[(0, v0), (1, v1)]).run P w = .ok v w') (h : wpList P ops Q rest (a.put o.dst v) w') : wpList P ops Q (o :: rest) a w := by
  refine wpList_plain hgd fun K hK => ?_
  unfold Oper.wp execOp
  simp only [ho, List.map_toArray, List.map_cons, List.map_nil, h0, h1, Sem.run_bind, hr, Result.andThen_ok, Sem.run_pure]
  exact hK _ _ h
/-- append onto a row that is full: new memory. -/
theorem wpL_full (hgd : o.guard = none) (s x : Operand) {TS T : TypeId} {z : Value} {sz by_ : Nat} (ho : o.op = .call { callee := .builtin .append, args := #[s, x], argTypes := #[TS, TS] }) (hu : P.underlying TS = some (.slice T)) (nf : (P.info? T).map (fun i => (i.zero, i.size, i.bytes)) = some (some z, sz, by_)) (hzs : z.cells.size = sz) (hsz : 0 < sz)
    (g base n : Nat) (xs : List Value) (hs : a.eval s = .slice (some ⟨g, 0, none⟩) n n) (O : w.ownsRow base T sz (.slice (some ⟨g, 0, none⟩) n n) n xs) (hb : base ≤ w.heap.size)
    (ad : Addr) (m c : Nat) (ys : List Value) (hx : a.eval x = .slice (some ad) m c) (hm : 0 < m) (hy : ys.length = m * sz) (A : ∀ j u, ys[j]? = some u → w.cell? (ad.add j) = some u) (h1 : ∀ u ∈ ys, u.oneCell' = true) (h63 : n + m ≤ 9223372036854775807) (hl : ((n + m) + (n + m) / 4 + 192) * by_ ≤ 281474976710656)
    (h : ∀ g' cap w', w'.ownsRow w.heap.size T sz (.slice (some ⟨g', 0, none⟩) (n + m) cap) (n + m) (xs ++ ys) → Below w.heap.size w w' → wpList P ops Q rest (a.put o.dst (.slice (some ⟨g', 0, none⟩) (n + m) cap)) w') : wpList P ops Q (o :: rest) a w := by
  refine wpList_plain hgd fun K hK => ?_
  obtain ⟨i, ti, tz0, tz1, tz2⟩ := nf_info nf
  have hmx : n + m ≤ maxLen := by unfold maxLen; omega
  obtain ⟨v', w', hr, h2, h3, h4⟩ := run_append_own_wide (P := P) w base TS o.type T i z sz by_ hu ti tz0 tz1 tz2 hzs hsz _ n xs O ad m c ys hy A h1 hmx hl hb
  have hx2 := O.1
  subst tz1
  have hr2 := run_append_grow (P := P) w TS o.type T i z hu ti tz0 ⟨g, 0, none⟩ n n xs hx2 (World.ownsRow.cells O (g := g) rfl) ad m c ys hy A (by omega) (by omega) (growslice_fits_wide (by omega) (by rw [tz2]; exact hl))
  have hr3 := hr
  rw [hr2] at hr3
  have hv : v' = .slice (some ⟨w.heap.size, 0, none⟩) (n + m) (grownCap w (n + m) n T) := by cases hr3; rfl
  have B : Below w.heap.size w w' := by
    cases hr3
    exact galloc (Below.refl w.heap.size w).drew _
  clear hr2 hr3 h3 h4
  subst hv
  generalize grownCap w (n + m) n T = gc at *
  unfold Oper.wp
  simp [execOp, ho, resolve, invoke, builtin, hs, hx, hr, Result.andThen]
  refine hK _ _ (h _ _ _ ?_ B)
  obtain ⟨k1, k2⟩ := h2
  refine ⟨k1, ?_⟩
  rcases k2 with ⟨k2, _⟩ | ⟨g2, c2, cur2, k3, _, k4⟩
  · cases k2
  · cases k3
    exact .inr ⟨_, _, cur2, rfl, Nat.le_refl _, k4⟩
end
theorem ix_run {g n c i : Nat} (h : i < n) (w : World) : (Instr.indexAt 39 (.slice (some ⟨g, 0, none⟩) n c) (.int .i64 (i : Int))).run Try.prog w = .ok (.pointer (some ⟨g, i * 11, none⟩)) w := by
  have hu : Try.prog.underlying 39 = some (.slice (Try.prog.elem 39)) := by kernel_rfl
  have hs : (sizeOf (Try.prog.elem 39)).run Try.prog w = .ok 11 w := by kernel_rfl
  rw [run_indexAt_slice (h := hu), if_pos ⟨by omega, by omega⟩, hs, Result.andThen_ok, Int.toNat_natCast, Go.WideShapes.add_plain, Nat.zero_add]
theorem bldS2 (x y : Ev) (w : World) : (Instr.buildSlice 39 2 #[(0, .agg (evC x)), (1, .agg (evC y))]).run Try.prog w = .ok (.slice (some ⟨w.heap.size, 0, none⟩) 2 2) (w.alloc (.cells (evC x ++ evC y) 47)) := by kernel_rfl
theorem two_fl (x y : Ev) : (evC x ++ evC y).toList = fl evC [x, y] := by simp [fl]
/-- The rows of PileFresh. -/
structure Frs (w : World) (b0 zA zA2 zB zC zG n : Nat) (vL vK : Value) (gA gA2 gB gC gX gY gZ cX cY cZ : Nat) (LL M LA SL LB X Y Z : List Ev) : Prop where
  L : w.ownsRow b0 47 11 vL n (fl evC LL)
  K : w.ownsRow b0 47 11 vK n (fl evC M)
  A : w.ownsRow zA 47 11 (.slice (some ⟨gA, 0, none⟩) n n) n (fl evC LA)
  A2 : w.ownsRow zA2 47 11 (.slice (some ⟨gA2, 0, none⟩) n n) n (fl evC SL)
  B : w.ownsRow zB 47 11 (.slice (some ⟨gB, 0, none⟩) n n) n (fl evC LB)
  C : w.ownsRow zC 47 11 (.slice (some ⟨gC, 0, none⟩) n n) n (fl evC SL)
  X : w.ownsRow zG 47 11 (.slice (some ⟨gX, 0, none⟩) (n + 2) cX) (n + 2) (fl evC X)
  Y : w.ownsRow zG 47 11 (.slice (some ⟨gY, 0, none⟩) (n + 2) cY) (n + 2) (fl evC Y)
  Z : w.ownsRow zG 47 11 (.slice (some ⟨gZ, 0, none⟩) (n + 1) cZ) (n + 1) (fl evC Z)
  lL : ∀ q, vL.ownBlock = some q → q < zA
  lK : ∀ q, vK.ownBlock = some q → q < zA
  LK : ∀ q, vL.ownBlock = some q → vK.ownBlock ≠ some q
  zo : zA ≤ zA2 ∧ zA2 ≤ zB ∧ zB ≤ zC ∧ zC ≤ zG ∧ gA < zA2 ∧ gA2 < zB ∧ gB < zC ∧ gC < zG
section
variable {w u : World} {b0 zA zA2 zB zC zG n : Nat} {vL vK : Value} {gA gA2 gB gC gX gY gZ cX cY cZ : Nat} {LL M LA SL LB X Y Z : List Ev}
theorem Frs.keep (F : Frs w b0 zA zA2 zB zC zG n vL vK gA gA2 gB gC gX gY gZ cX cY cZ LL M LA SL LB X Y Z) (G : Below w.heap.size w u) : Frs u b0 zA zA2 zB zC zG n vL vK gA gA2 gB gC gX gY gZ cX cY cZ LL M LA SL LB X Y Z :=
  ⟨own_keep F.L G, own_keep F.K G, own_keep F.A G, own_keep F.A2 G, own_keep F.B G, own_keep F.C G, own_keep F.X G, own_keep F.Y G, own_keep F.Z G, F.lL, F.lK, F.LK, F.zo⟩
/-- Rows are kept where only the block g has turned. -/
theorem own_else {g base : Nat} {e : TypeId} {size : Nat} {v : Value} {k : Nat} {xs : List Value} (O : w.ownsRow base e size v k xs) (h : ∀ q, q ≠ g → u.heap[q]? = w.heap[q]?) (hn : ∀ q, v.ownBlock = some q → q ≠ g) : u.ownsRow base e size v k xs := own_same O fun q e => h q (hn q e)
theorem sl_ne {g g' : Nat} {k c : Nat} (h : g' ≠ g) : ∀ q, (Value.slice (some ⟨g', 0, none⟩) k c).ownBlock = some q → q ≠ g := fun q e => by
  have : g' = q := by simpa [Value.ownBlock] using e
  omega
theorem own_lo {base g k c : Nat} {e : TypeId} {size : Nat} {xs : List Value} (O : w.ownsRow base e size (.slice (some ⟨g, 0, none⟩) k c) k xs) : base ≤ g := (World.ownsRow.lt O g rfl).1
theorem own_n {base g k c : Nat} {l : List Ev} (O : w.ownsRow base 47 11 (.slice (some ⟨g, 0, none⟩) k c) k (fl evC l)) : l.length = k := by
  have := O.1
  rw [fl_len ev_size] at this
  omega
theorem Frs.setA (F : Frs w b0 zA zA2 zB zC zG n vL vK gA gA2 gB gC gX gY gZ cX cY cZ LL M LA SL LB X Y Z) {LA' : List Ev} (O : u.ownsRow zA 47 11 (.slice (some ⟨gA, 0, none⟩) n n) n (fl evC LA')) (h : ∀ q, q ≠ gA → u.heap[q]? = w.heap[q]?) : Frs u b0 zA zA2 zB zC zG n vL vK gA gA2 gB gC gX gY gZ cX cY cZ LL M LA' SL LB X Y Z := by
  obtain ⟨z1, z2, z3, z4, z5, z6, z7, z8⟩ := F.zo
  have a0 := own_lo F.A
  have a1 := own_lo F.A2
  have a2 := own_lo F.B
  have a3 := own_lo F.C
  have a4 := own_lo F.X
  have a5 := own_lo F.Y
  have a6 := own_lo F.Z
  exact ⟨own_else F.L h fun q e => by have := F.lL q e; omega, own_else F.K h fun q e => by have := F.lK q e; omega, O, own_else F.A2 h (sl_ne (by omega)), own_else F.B h (sl_ne (by omega)), own_else F.C h (sl_ne (by omega)), own_else F.X h (sl_ne (by omega)), own_else F.Y h (sl_ne (by omega)), own_else F.Z h (sl_ne (by omega)), F.lL, F.lK, F.LK, F.zo⟩
theorem Frs.setB (F : Frs w b0 zA zA2 zB zC zG n vL vK gA gA2 gB gC gX gY gZ cX cY cZ LL M LA SL LB X Y Z) {LB' : List Ev} (O : u.ownsRow zB 47 11 (.slice (some ⟨gB, 0, none⟩) n n) n (fl evC LB')) (h : ∀ q, q ≠ gB → u.heap[q]? = w.heap[q]?) : Frs u b0 zA zA2 zB zC zG n vL vK gA gA2 gB gC gX gY gZ cX cY cZ LL M LA SL LB' X Y Z := by
  obtain ⟨z1, z2, z3, z4, z5, z6, z7, z8⟩ := F.zo
  have a0 := own_lo F.A
  have a1 := own_lo F.A2
  have a2 := own_lo F.B
  have a3 := own_lo F.C
  have a4 := own_lo F.X
  have a5 := own_lo F.Y
  have a6 := own_lo F.Z
  exact ⟨own_else F.L h fun q e => by have := F.lL q e; omega, own_else F.K h fun q e => by have := F.lK q e; omega, own_else F.A h (sl_ne (by omega)), own_else F.A2 h (sl_ne (by omega)), O, own_else F.C h (sl_ne (by omega)), own_else F.X h (sl_ne (by omega)), own_else F.Y h (sl_ne (by omega)), own_else F.Z h (sl_ne (by omega)), F.lL, F.lK, F.LK, F.zo⟩
theorem Frs.setL (F : Frs w b0 zA zA2 zB zC zG n vL vK gA gA2 gB gC gX gY gZ cX cY cZ LL M LA SL LB X Y Z) {LL' : List Ev} {gL : Nat} (e : vL.ownBlock = some gL) (O : u.ownsRow b0 47 11 vL n (fl evC LL')) (h : ∀ q, q ≠ gL → u.heap[q]? = w.heap[q]?) : Frs u b0 zA zA2 zB zC zG n vL vK gA gA2 gB gC gX gY gZ cX cY cZ LL' M LA SL LB X Y Z := by
  obtain ⟨z1, z2, z3, z4, z5, z6, z7, z8⟩ := F.zo
  have a0 := own_lo F.A
  have a1 := own_lo F.A2
  have a2 := own_lo F.B
  have a3 := own_lo F.C
  have a4 := own_lo F.X
  have a5 := own_lo F.Y
  have a6 := own_lo F.Z
  have hg := F.lL gL e
  exact ⟨O, own_else F.K h fun q e2 e3 => F.LK gL e (by rw [e2, e3]), own_else F.A h (sl_ne (by omega)), own_else F.A2 h (sl_ne (by omega)), own_else F.B h (sl_ne (by omega)), own_else F.C h (sl_ne (by omega)), own_else F.X h (sl_ne (by omega)), own_else F.Y h (sl_ne (by omega)), own_else F.Z h (sl_ne (by omega)), F.lL, F.lK, F.LK, F.zo⟩
end
/-- A pile stays where only a block of events has turned. -/
theorem pa_else {w u : World} {p base : Nat} {v : Value} {L : List (Ev × Nat)} {t g : Nat} {cs : Array Value} {fr : Nat × Nat} (P : evPa w p base v L t) (hg : w.heap[g]? = some (.cells cs 47 fr)) (h : ∀ q, q ≠ g → u.heap[q]? = w.heap[q]?) : evPa u p base v L t := by
  refine P.same (h p fun e => ?_) (fun q e1 => h q fun e => ?_)
  · have hb := P.blk
    unfold Bk at hb
    rw [e, hg] at hb
    simp only [Option.some.injEq, Obj.cells.injEq] at hb
    exact absurd hb.2.1 (by decide)
  · obtain ⟨xs, R⟩ := P.row
    rcases R.2 with ⟨rfl, _⟩ | ⟨g1, c1, cur1, rfl, _, hh1, _⟩
    · simp [Value.ownBlock] at e1
    · have : g1 = q := by simpa [Value.ownBlock] using e1
      rw [this, e, hg] at hh1
      simp only [Option.some.injEq, Obj.cells.injEq] at hh1
      exact absurd hh1.2.1 (by decide)
theorem own_blkE {w : World} {base g k c : Nat} {e : TypeId} {size : Nat} {xs : List Value} (O : w.ownsRow base e size (.slice (some ⟨g, 0, none⟩) k c) k xs) : ∃ cs, w.heap[g]? = some (.cells cs e (0, 0)) := by
  rcases O.2 with ⟨h, _⟩ | ⟨g1, c1, cur1, h, _, hh1, _⟩
  · cases h
  · cases h; exact ⟨_, hh1⟩

theorem own_putN {w : World} {base g k c : Nat} {l : List Ev} (O : w.ownsRow base 47 11 (.slice (some ⟨g, 0, none⟩) k c) k (fl evC l)) {i : Nat} (hi : i < k) (y : Ev) : (w.setCells g (i * 11) (evC y).toList).ownsRow base 47 11 (.slice (some ⟨g, 0, none⟩) k c) k (fl evC (l.set i y)) := by
  have hn := own_n O
  have O2 : w.ownsRow base 47 11 (.slice (some ⟨g, 0, none⟩) l.length c) l.length (fl evC l) := by rw [hn]; exact O
  have := own_put ev_size O2 i (by omega) y
  rw [List.length_set, hn] at this
  exact this
theorem own_cells {w : World} {base g k c : Nat} {l : List Ev} (O : w.ownsRow base 47 11 (.slice (some ⟨g, 0, none⟩) k c) k (fl evC l)) {i : Nat} (hi : i < k) (z : Ev) : w.rangeAt g (i * 11) (evC (l.getD i z)).toList := by
  have hn := own_n O
  have := flat_range ev_size z (own_flat O) i (by omega)
  rwa [Nat.zero_add] at this
theorem own_typ {w : World} {base g k c : Nat} {l : List Ev} (O : w.ownsRow base 47 11 (.slice (some ⟨g, 0, none⟩) k c) k (fl evC l)) {i : Nat} (hi : i < k) (x : Int) : (w.setCell ⟨g, i * 11 + 2, none⟩ (.int .i64 x)).ownsRow base 47 11 (.slice (some ⟨g, 0, none⟩) k c) k (fl evC (l.set i { l.getD i zeroE with typ := x })) := by
  have hn := own_n O
  have h := (O.stored (i * 11 + 2) (.int .i64 x)).1
  rw [fl_set ev_size zeroE l i 2 (.int .i64 x) { l.getD i zeroE with typ := x } (by omega) (by omega) rfl] at h
  exact h
section
variable {w u : World} {b0 zA zA2 zB zC zG n : Nat} {vL vK : Value} {gA gA2 gB gC gX gY gZ cX cY cZ : Nat} {LL M LA SL LB X Y Z : List Ev}
theorem Frs.putA (F : Frs w b0 zA zA2 zB zC zG n vL vK gA gA2 gB gC gX gY gZ cX cY cZ LL M LA SL LB X Y Z) {i : Nat} (hi : i < n) (y : Ev) : Frs (w.setCells gA (i * 11) (evC y).toList) b0 zA zA2 zB zC zG n vL vK gA gA2 gB gC gX gY gZ cX cY cZ LL M (LA.set i y) SL LB X Y Z :=
  F.setA (own_putN F.A hi y) fun q hq => setCells_blk gA _ _ w q hq
theorem Frs.putB (F : Frs w b0 zA zA2 zB zC zG n vL vK gA gA2 gB gC gX gY gZ cX cY cZ LL M LA SL LB X Y Z) {i : Nat} (hi : i < n) (y : Ev) : Frs (w.setCells gB (i * 11) (evC y).toList) b0 zA zA2 zB zC zG n vL vK gA gA2 gB gC gX gY gZ cX cY cZ LL M LA SL (LB.set i y) X Y Z :=
  F.setB (own_putN F.B hi y) fun q hq => setCells_blk gB _ _ w q hq
end
theorem pa_put {w : World} {p base : Nat} {v : Value} {L : List (Ev × Nat)} {t : Nat} (P : evPa w p base v L t) {b1 g k c : Nat} {xs : List Value} (O : w.ownsRow b1 47 11 (.slice (some ⟨g, 0, none⟩) k c) k xs) (o : Nat) (vs : List Value) : evPa (w.setCells g o vs) p base v L t := by
  obtain ⟨cs, h⟩ := own_blkE O
  exact pa_else P h fun q hq => setCells_blk g _ _ w q hq

end Go.Proofs.Ythjnkcapjhelgaa
