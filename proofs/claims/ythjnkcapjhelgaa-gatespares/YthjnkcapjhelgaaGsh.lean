/- The gate's lists, side by side: what GateSpares keeps at each step. -/
import Derived.Test.YthjnkcapjhelgaaGsg
namespace Go.Proofs.Ythjnkcapjhelgaa
open Go.RowKit Go.BigFrame Go.Maps
set_option linter.unusedVariables false
set_option linter.unusedSimpArgs false

/-- Blocks of the type T stay. -/
def TyK (T : TypeId) (w u : World) : Prop := ∀ (g : Nat) (cs : Array Value) (fr : Nat × Nat), w.heap[g]? = some (Obj.cells cs T fr) → u.heap[g]? = w.heap[g]?
section
variable {T : TypeId} {w u x : World}
theorem TyK.below (B : Below w.heap.size w u) : TyK T w u := fun g cs fr h => B.block g (lt_of_block h)
theorem TyK.trans (h : TyK T w u) (k : TyK T u x) : TyK T w x := fun g cs fr e => (k g cs fr ((h g cs fr e).trans e)).trans (h g cs fr e)
theorem TyK.own (h : TyK T w u) {b : Nat} {v : Value} {n s : Nat} {xs : List Value} (O : w.ownsRow b T s v n xs) : u.ownsRow b T s v n xs := own_of_block O fun g cur _ hh => h g cur _ hh
theorem TyK.grown {base : Nat} {e : TypeId} {size : Nat} {v : Value} {n : Nat} {xs : List Value} (O : w.ownsRow base e size v n xs) (he : e ≠ T) (G : w.grownBy u v.ownBlock) : TyK T w u := fun g cs fr h => G.block g (lt_of_block h) fun e1 => by
  obtain ⟨c2, h2⟩ := own_blkT O e1.symm
  rw [h] at h2
  simp only [Option.some.injEq, Obj.cells.injEq] at h2
  exact he h2.2.1.symm
theorem TyK.frm {S : Nat → Prop} {g : Nat} {s : Gs} {t : Nat} (F : Frm S w u) (G : Gat w g S s t) (h1 : T ≠ 76) (h2 : T ≠ 97) (h3 : T ≠ 101) : TyK T w u := fun k cs fr hh => F.blk k (lt_of_block hh) (G.far hh h1 h2 h3)
theorem TyK.row {base : Nat} {e : TypeId} {size : Nat} {v : Value} {n : Nat} {xs : List Value} (O : w.ownsRow base e size v n xs) (he : e ≠ T) (F : Frm (fun q => v.ownBlock = some q) w u) : TyK T w u := fun g cs fr h => F.blk g (lt_of_block h) fun e1 => by
  obtain ⟨c2, h2⟩ := own_blkT O e1
  rw [h] at h2
  simp only [Option.some.injEq, Obj.cells.injEq] at h2
  exact he h2.2.1.symm
/-- Events' blocks stay but for those of a row that lies above. -/
theorem TyK.above {w0 : World} {v : Value} (h : TyK T w0 w) (F : Frm (fun q => v.ownBlock = some q) w u) (hv : ∀ q, v.ownBlock = some q → w0.heap.size ≤ q) : TyK T w0 u := fun g cs fr e => (F.blk g (lt_of_block ((h g cs fr e).trans e)) fun e1 => by
  have := hv g e1
  have := lt_of_block e
  omega).trans (h g cs fr e)
theorem TyK.re (h : TyK 47 w u) {a : Option Addr} {xs : List Value} (O : RE w a xs) : RE u a xs := O.keep fun g cs _ hh => h g cs _ hh
/-- A gate stays while events' rows turn. -/
theorem Gat.row {g : Nat} {S : Nat → Prop} {s : Gs} {t : Nat} (G : Gat w g S s t) {base : Nat} {e : TypeId} {size : Nat} {v : Value} {n : Nat} {xs : List Value} (O : w.ownsRow base e size v n xs) (h1 : e ≠ 76) (h2 : e ≠ 97) (h3 : e ≠ 101) (F : Frm (fun q => v.ownBlock = some q) w u) : Gat u g S s t :=
  G.same F.size fun k e1 => F.blk k (G.lt k e1) fun e2 => by
    obtain ⟨c2, hh⟩ := own_blkT O e2
    exact G.far hh h1 h2 h3 e1
theorem Gt2.row {N : Nat} {g h : Nat} {S R : Nat → Prop} {s r : Gs} {t : Nat} (T : Gt2 N w g h S R s r t) {base : Nat} {e : TypeId} {size : Nat} {v : Value} {n : Nat} {xs : List Value} (O : w.ownsRow base e size v n xs) (h1 : e ≠ 76) (h2 : e ≠ 97) (h3 : e ≠ 101) (F : Frm (fun q => v.ownBlock = some q) w u) : Gt2 N u g h S R s r t :=
  ⟨T.G.row O h1 h2 h3 F, T.H.row O h1 h2 h3 F, T.d, T.lo, T.lo'⟩
end
theorem RE.of_flat {w : World} {a : Option Addr} {k : Nat} {xs : List Value} (F : Flat w a xs) (I : InEv w a k) (h0 : k = 0 → xs = []) : RE w a xs := by
  rcases I with h | ⟨g, cs, e, hh⟩
  · exact .inl (h0 h)
  · refine .inr ⟨g, cs, e, hh, ?_⟩
    refine List.ext_getElem? fun j => ?_
    rcases Nat.lt_or_ge j xs.length with hj | hj
    · rw [List.getElem?_take_of_lt hj]
      have hu := List.getElem?_eq_getElem hj
      obtain ⟨g', o, e1, c0⟩ := F j _ hu
      rw [e] at e1
      cases e1
      rw [Nat.zero_add, cell_of_row w g j _ _ _ hh] at c0
      rw [hu]
      simpa using c0
    · rw [List.getElem?_eq_none hj, List.getElem?_eq_none (by rw [List.length_take]; omega)]
/-- What marked has answered. -/
structure Kp where
  a : Option Addr
  k : Nat
  c : Nat
  b : Option Addr
  d : Nat
def kpC (x : Kp) : Array Value := #[.slice x.a x.k x.c, .slice x.b (x.k + 1) x.d]
theorem kp_size (x : Kp) : (kpC x).size = 2 := rfl
def zeroKp : Kp := ⟨none, 0, 0, none, 0⟩
theorem nfKp : (Try.prog.info? 58).map (fun i => (i.zero, i.size, i.bytes)) = some (some (.agg #[.slice none 0 0, .slice none 0 0]), 2, 48) := by kernel_rfl
theorem bldKp (x : Kp) (w : World) : (Instr.buildSlice 52 1 #[(0, .agg (kpC x))]).run Try.prog w = .ok (.slice (some ⟨w.heap.size, 0, none⟩) 1 1) (w.alloc (.cells (kpC x) 58)) := by kernel_rfl
theorem kp_ones (x : Kp) : ∀ u ∈ (kpC x).toList, u.oneCell' = true := fun u hu => by
  simp [kpC] at hu
  rcases hu with rfl | rfl <;> rfl
/-- One entry of the book stands. -/
structure KpI (w : World) (x : Kp) (m : Nat) : Prop where
  n : x.k ≤ 4096
  a : RE w x.a (fl evC (mkL (m : Int) x.k))
  b : RE w x.b (fl evC (mkL (m : Int) (x.k + 1)))
theorem KpI.keep {w u : World} {x : Kp} {m : Nat} (h : KpI w x m) (k : TyK 47 w u) : KpI u x m := ⟨h.n, k.re h.a, k.re h.b⟩
theorem Rws.ty {w u : World} {b : Nat} {H : List Hd} {C : Nat → List Ev} (R : Rws w b H C) (k : TyK 47 w u) : Rws u b H C := ⟨fun j hj => k.own (R.row j hj), R.ap⟩
theorem getD_snoc_lt {γ : Type} {l : List γ} {x z : γ} {j : Nat} (h : j < l.length) : (l ++ [x]).getD j z = l.getD j z := by
  rw [List.getD_eq_getElem?_getD, List.getElem?_append_left h, ← List.getD_eq_getElem?_getD]
theorem getD_snoc_eq {γ : Type} {l : List γ} {x z : γ} : (l ++ [x]).getD l.length z = x := by
  rw [List.getD_eq_getElem?_getD, List.getElem?_append_right (Nat.le_refl _), Nat.sub_self]; rfl
/-- One row more, that lies above. -/
theorem Rws.snoc {w : World} {b M : Nat} {H : List Hd} {C : Nat → List Ev} (R : Rws w b H C) (hM : ∀ j q, j < H.length → (hdV (H.getD j zeroHd)).ownBlock = some q → q < M) (hb : b ≤ M) (x : Hd) (L : List Ev) (O : w.ownsRow M 47 11 (hdV x) x.n (fl evC L)) : Rws w b (H ++ [x]) (fun j => if j < H.length then C j else L) := by
  refine ⟨fun j hj => ?_, fun i j q hi hj e1 e2 => ?_⟩
  · rw [List.length_append, List.length_singleton] at hj
    by_cases h : j < H.length
    · rw [getD_snoc_lt h, if_pos h]; exact R.row j h
    · obtain rfl : j = H.length := by omega
      rw [getD_snoc_eq, if_neg h]
      exact World.ownsRow.mono O hb
  · rw [List.length_append, List.length_singleton] at hi hj
    by_cases h1 : i < H.length
    · rw [getD_snoc_lt h1] at e1
      by_cases h2 : j < H.length
      · rw [getD_snoc_lt h2] at e2
        exact R.ap i j q h1 h2 e1 e2
      · obtain rfl : j = H.length := by omega
        rw [getD_snoc_eq] at e2
        have := hM i q h1 e1
        have := (World.ownsRow.lt O q e2).1
        omega
    · obtain rfl : i = H.length := by omega
      rw [getD_snoc_eq] at e1
      have h3 := (World.ownsRow.lt O q e1).1
      by_cases h2 : j < H.length
      · rw [getD_snoc_lt h2] at e2
        have := hM j q h2 e2
        omega
      · omega
/-- At the head of the loop over the script. -/
structure GsI (N : Nat) (w0 : World) (g h n : Nat) (vb vo vt vi : Value) (wr : World) : Prop where
  ex : ∃ (i t : Nat) (S R : Nat → Prop) (s : Gs) (K : List Kp) (O T : List Hd) (C : Nat → List Ev), i ≤ n ∧ vi = .int .i64 (i : Int) ∧ t ≤ 2 * i + 2 ∧ K.length = i ∧ O.length = i ∧ T.length = i ∧ Gt2 N wr g h S R s s t ∧
    wr.ownsRow N 58 2 vb i (fl kpC K) ∧ wr.ownsRow N 39 1 vo i (fl hdC O) ∧ wr.ownsRow N 39 1 vt i (fl hdC T) ∧ (∀ q, vo.ownBlock = some q → vt.ownBlock ≠ some q) ∧
    (∀ j, j < i → KpI wr (K.getD j zeroKp) j) ∧ Rws wr N O C ∧ (∀ j, j < i → (O.getD j zeroHd).n ≤ 4096) ∧ (∀ j, j < i → RE wr (T.getD j zeroHd).a (fl evC (C j)) ∧ (T.getD j zeroHd).n = (C j).length) ∧ Below N w0 wr
/-- What Restore makes, by its code. -/
structure RsH (wo u : World) (cap mark : Int) (cl : Bool) (held : List Ev) (bn : Bool) (pg : Option Addr) : Prop where
  isn : ∀ W, (binOp .neq 40 (.pointer pg) (.pointer none)).run Try.prog W = .ok (.bool bn) W
  yes : bn = true → ∃ g S, pg = some ⟨g, 0, none⟩ ∧ Gat u g S ⟨cap, mark, cl, held⟩ held.length ∧ ∀ k, S k → wo.heap.size ≤ k
  below : Below wo.heap.size wo u
theorem rsH_of {wo u : World} {cap mark : Int} {cl : Bool} {held : List Ev} {e : Ending} (h : RstP wo cap mark cl held e u) : ∃ pg c bn, e = .returned (.tuple #[.pointer pg, .int .i64 c]) ∧ RsH wo u cap mark cl held bn pg := by
  by_cases h0 : rstC cap mark cl held = 0
  · obtain ⟨g, S, e1, G, _, lo⟩ := h.yes h0
    exact ⟨some ⟨g, 0, none⟩, 0, true, e1, fun W => by kernel_rfl, fun _ => ⟨g, S, rfl, G, lo⟩, h.below⟩
  · exact ⟨none, _, false, h.no h0, fun W => by kernel_rfl, fun e => absurd e (by decide), h.below⟩
/-- At the round i of what was handed in, written over. -/
structure GvI (W : World) (b : Nat) (v : Value) (n : Nat) (vi : Value) (wr : World) : Prop where
  ex : ∃ (i : Nat) (L : List Ev), i ≤ n ∧ vi = .int .i64 (i : Int) ∧ wr.ownsRow b 47 11 v n (fl evC L) ∧ Frm (fun q => v.ownBlock = some q) W wr

theorem Gat.grown2 {w u : World} {g : Nat} {S : Nat → Prop} {s : Gs} {t : Nat} (G : Gat w g S s t) {base : Nat} {e : TypeId} {size : Nat} {v : Value} {n : Nat} {xs : List Value} (O : w.ownsRow base e size v n xs) (h1 : e ≠ 76) (h2 : e ≠ 97) (h3 : e ≠ 101) (Q : w.grownBy u v.ownBlock) : Gat u g S s t := G.row O h1 h2 h3 (Frm.grown Q)
theorem Gt2.grown2 {w u : World} {N : Nat} {g h : Nat} {S R : Nat → Prop} {s r : Gs} {t : Nat} (T : Gt2 N w g h S R s r t) {base : Nat} {e : TypeId} {size : Nat} {v : Value} {n : Nat} {xs : List Value} (O : w.ownsRow base e size v n xs) (h1 : e ≠ 76) (h2 : e ≠ 97) (h3 : e ≠ 101) (Q : w.grownBy u v.ownBlock) : Gt2 N u g h S R s r t := T.row O h1 h2 h3 (Frm.grown Q)
theorem own_side {w u : World} {b1 : Nat} {e1 : TypeId} {s1 : Nat} {v1 : Value} {n1 : Nat} {x1 : List Value} (O1 : w.ownsRow b1 e1 s1 v1 n1 x1) {v2 : Option Nat} (Q : w.grownBy u v2) (h : ∀ q, v1.ownBlock = some q → v2 ≠ some q) : u.ownsRow b1 e1 s1 v1 n1 x1 := own_same O1 fun q e => Q.block q (World.ownsRow.lt O1 q e).2 fun e2 => h q e e2.symm
/-- One step of the script more. -/
theorem GsI.more {N : Nat} {w0 wr u : World} {g h n i t M : Nat} {S R : Nat → Prop} {s : Gs} {K : List Kp} {O T : List Hd} {C : Nat → List Ev} {vb vo vt : Value} {x : Kp} {kd td : Hd} {L : List Ev} (hi : i < n) (ht : t ≤ 2 * (i + 1) + 2) (hK : K.length = i) (hO : O.length = i) (hT : T.length = i) (hN : N ≤ wr.heap.size)
    (G : Gt2 N u g h S R s s t) (OB : u.ownsRow N 58 2 vb (i + 1) (fl kpC K ++ (kpC x).toList)) (OO : u.ownsRow N 39 1 vo (i + 1) (fl hdC O ++ (hdC kd).toList)) (OT : u.ownsRow N 39 1 vt (i + 1) (fl hdC T ++ (hdC td).toList)) (sep : ∀ q, vo.ownBlock = some q → vt.ownBlock ≠ some q)
    (y : TyK 47 wr u) (KP : ∀ j, j < i → KpI wr (K.getD j zeroKp) j) (RW : Rws wr N O C) (hn : ∀ j, j < i → (O.getD j zeroHd).n ≤ 4096) (RT : ∀ j, j < i → RE wr (T.getD j zeroHd).a (fl evC (C j)) ∧ (T.getD j zeroHd).n = (C j).length)
    (kx : KpI u x i) (hM : wr.heap.size ≤ M) (Ok : u.ownsRow M 47 11 (hdV kd) kd.n (fl evC L)) (hkd : kd.n ≤ 4096) (Rt : RE u td.a (fl evC L)) (htd : td.n = L.length) (B : Below N w0 u) : GsI N w0 g h n vb vo vt (.int .i64 ((i : Int) + 1)) u := by
  have e1 : fl kpC K ++ (kpC x).toList = fl kpC (K ++ [x]) := by rw [fl_app]; simp [fl]
  have e2 : fl hdC O ++ (hdC kd).toList = fl hdC (O ++ [kd]) := by rw [fl_app]; simp [fl]
  have e3 : fl hdC T ++ (hdC td).toList = fl hdC (T ++ [td]) := by rw [fl_app]; simp [fl]
  rw [e1] at OB
  rw [e2] at OO
  rw [e3] at OT
  refine ⟨i + 1, t, S, R, s, K ++ [x], O ++ [kd], T ++ [td], fun j => if j < O.length then C j else L, hi, rfl, ht, by rw [List.length_append, hK]; rfl, by rw [List.length_append, hO]; rfl, by rw [List.length_append, hT]; rfl, G, OB, OO, OT, sep, fun j hj => ?_, ?_, fun j hj => ?_, fun j hj => ?_, B⟩
  · by_cases h1 : j < i
    · rw [getD_snoc_lt (by omega)]; exact (KP j h1).keep y
    · obtain rfl : j = i := by omega
      have := getD_snoc_eq (l := K) (x := x) (z := zeroKp)
      rw [hK] at this
      rw [this]; exact kx
  · refine (RW.ty y).snoc (M := M) (fun j q hj e => ?_) (Nat.le_trans hN hM) kd L Ok
    have := (World.ownsRow.lt (RW.row j hj) q e).2
    omega
  · by_cases h1 : j < i
    · rw [getD_snoc_lt (by omega)]; exact hn j h1
    · obtain rfl : j = i := by omega
      have := getD_snoc_eq (l := O) (x := kd) (z := zeroHd)
      rw [hO] at this
      rw [this]; exact hkd
  · dsimp only
    by_cases h1 : j < i
    · rw [getD_snoc_lt (by omega), if_pos (by omega)]
      exact ⟨y.re (RT j h1).1, (RT j h1).2⟩
    · obtain rfl : j = i := by omega
      have := getD_snoc_eq (l := T) (x := td) (z := zeroHd)
      rw [hT] at this
      rw [this, if_neg (by omega)]
      exact ⟨Rt, htd⟩
theorem GsI.keep {N : Nat} {w0 wr u : World} {g h n : Nat} {vb vo vt vi : Value} (I : GsI N w0 g h n vb vo vt vi wr) (hN : N ≤ w0.heap.size) (B : Below wr.heap.size wr u) : GsI N w0 g h n vb vo vt vi u := by
  obtain ⟨i, t, S, R, s, K, O, T, C, h1, h2, h3, h4, h5, h6, G, OB, OO, OT, sep, KP, RW, hn, RT, B0⟩ := I
  exact ⟨i, t, S, R, s, K, O, T, C, h1, h2, h3, h4, h5, h6, G.keep B, own_keep OB B, own_keep OO B, own_keep OT B, sep, fun j hj => (KP j hj).keep (TyK.below B), RW.keep B, hn, fun j hj => ⟨(TyK.below B).re (RT j hj).1, (RT j hj).2⟩, B0.trans (B.mono (Nat.le_trans hN B0.size))⟩
theorem roomKp {n : Nat} (h : n * 112 ≤ 140737488351232) : ((n + 1) + (n + 1) / 4 + 192) * 48 ≤ 281474976710656 := by omega
theorem roomL {n : Nat} (h : n ≤ 4096) : ((0 + n) + (0 + n) / 4 + 192) * 88 ≤ 281474976710656 := by omega
theorem roomHd {n : Nat} (h : n * 112 ≤ 140737488351232) : ((n + 1) + (n + 1) / 4 + 192) * 24 ≤ 281474976710656 := by omega

theorem wpL_s0 {P : Program} {w w' : World} {ops : Array Oper} {rest : List Oper} {o : Oper} {a : Act} {Q : Exit → Act → World → Prop} (hgd : o.guard = none) {T : TypeId} {v : Value} (ho : o.op = .buildSlice T 0 #[]) (hr : (Instr.buildSlice T 0 #[]).run P w = .ok v w') (h : wpList P ops Q rest (a.put o.dst v) w') : wpList P ops Q (o :: rest) a w := by
  refine wpList_plain hgd fun K hK => ?_
  unfold Oper.wp execOp
  simp only [ho, List.map_toArray, List.map_nil, Sem.run_bind, hr, Result.andThen_ok, Sem.run_pure]
  exact hK _ _ h
theorem bldS0 (w : World) : (Instr.buildSlice 39 0 #[]).run Try.prog w = .ok (.slice (some ⟨w.heap.size, 0, none⟩) 0 0) (w.alloc (.cells #[] 47)) := by kernel_rfl
/-- What append makes of a row of its own that was empty. -/
theorem twin_below {X9 X10 : World} (Q : (X9.alloc (.cells #[] 47)).grownBy X10 (Value.slice (some ⟨X9.heap.size, 0, none⟩) 0 0).ownBlock) : Below X9.heap.size X9 X10 := (galloc (Below.refl X9.heap.size X9) _).grown Q (galloc (Below.refl X9.heap.size X9) (.cells #[] 47)).size (fun k e => by
    have : X9.heap.size = k := by simpa [Value.ownBlock] using e
    omega)

section
variable {P : Program} {w w' : World} {ops : Array Oper} {rest : List Oper} {o : Oper} {a : Act} {Q : Exit → Act → World → Prop}
/-- A call by its contract. -/
theorem wpL_call (hg : o.guard = none) (f : FuncId) (args : Array Value) (hrun : (execOp a.eval o).run P w = .ok (.enter f args) w) (R : Ending → World → Prop) (hc : Calls P f args w R) (h : ∀ e w', R e w' → ∃ v, e = .returned v ∧ wpList P ops Q rest (a.put o.dst v) w') : wpList P ops Q (o :: rest) a w := by
  refine wpList_plain hg fun K hK => ?_
  unfold Oper.wp
  rw [hrun, Oper.upon_enter]
  refine hc.mono fun e w' hR => ?_
  obtain ⟨v, rfl, hh⟩ := h e w' hR
  exact hK _ _ hh
theorem wpL_val (hg : o.guard = none) (v : Value) (hrun : (execOp a.eval o).run P w = .ok (.value v) w') (h : wpList P ops Q rest (a.put o.dst v) w') : wpList P ops Q (o :: rest) a w := by
  refine wpList_plain hg fun K hK => ?_
  unfold Oper.wp
  rw [hrun, Oper.upon_value]
  exact hK _ _ h
end

section
variable {P : Program} {w w' : World} {ops : Array Oper} {rest : List Oper} {o : Oper} {a : Act} {Q : Exit → Act → World → Prop}
theorem wpL_s2G (hw : Region.wanted o (yielded ops a.tmps) = true) {T : TypeId} (x0 x1 : Operand) {v0 v1 v : Value} (ho : o.op = .buildSlice T 2 #[(0, x0), (1, x1)]) (h0 : a.eval x0 = v0) (h1 : a.eval x1 = v1) (hr : (Instr.buildSlice T 2 #[(0, v0), (1, v1)]).run P w = .ok v w') (h : wpList P ops Q rest (a.put o.dst v) w') : wpList P ops Q (o :: rest) a w := by
  refine wpList_want hw fun K hK => ?_
  unfold Oper.wp execOp
  simp only [ho, List.map_toArray, List.map_cons, List.map_nil, h0, h1, Sem.run_bind, hr, Result.andThen_ok, Sem.run_pure]
  exact hK _ _ h
theorem wpL_appG (hw : Region.wanted o (yielded ops a.tmps) = true) (s x : Operand) {TS T : TypeId} {z : Value} {sz by_ : Nat} (ho : o.op = .call { callee := .builtin .append, args := #[s, x], argTypes := #[TS, TS] }) (hu : P.underlying TS = some (.slice T)) (nf : (P.info? T).map (fun i => (i.zero, i.size, i.bytes)) = some (some z, sz, by_)) (hzs : z.cells.size = sz) (hsz : 0 < sz)
    (v : Value) (base n : Nat) (xs : List Value) (hs : a.eval s = v) (O : w.ownsRow base T sz v n xs) (hb : base ≤ w.heap.size)
    (ad : Addr) (m c : Nat) (ys : List Value) (hx : a.eval x = .slice (some ad) m c) (hy : ys.length = m * sz) (A : ∀ j u, ys[j]? = some u → w.cell? (ad.add j) = some u) (h1 : ∀ u ∈ ys, u.oneCell' = true) (hm : n + m ≤ 9223372036854775807) (hl : ((n + m) + (n + m) / 4 + 192) * by_ ≤ 281474976710656)
    (h : ∀ v' w', w'.ownsRow base T sz v' (n + m) (xs ++ ys) → w.grownBy w' v.ownBlock → wpList P ops Q rest (a.put o.dst v') w') : wpList P ops Q (o :: rest) a w := by
  obtain ⟨i3, ti, tz0, tz1, tz2⟩ := nf_info nf
  obtain ⟨v', w', hr, h2, h3, h4⟩ := run_append_own_wide (P := P) w base TS o.type T i3 z sz by_ hu ti tz0 tz1 tz2 hzs hsz v n xs O ad m c ys hy A h1 (by unfold maxLen; omega) hl hb
  refine wpList_want hw fun K hK => ?_
  unfold Oper.wp execOp
  simp only [ho, resolve, invoke, builtin, Sem.run_bind, Sem.run_pure, Result.andThen_ok, List.map_toArray, List.map_cons, List.map_nil, hs, hx, hr]
  exact hK _ _ (h v' w' h2 h3)
end
theorem bldH2 (x y : Hd) (w : World) : (Instr.buildSlice 53 2 #[(0, hdV x), (1, hdV y)]).run Try.prog w = .ok (.slice (some ⟨w.heap.size, 0, none⟩) 2 2) (w.alloc (.cells (hdC x ++ hdC y) 39)) := by kernel_rfl
theorem hd_ones2 (x y : Hd) : ∀ u ∈ (hdC x ++ hdC y).toList, u.oneCell' = true := fun u hu => by
  simp [hdC, hdV] at hu
  rcases hu with rfl | rfl <;> rfl
theorem hd_fl2 (O : List Hd) (x y : Hd) : fl hdC O ++ (hdC x ++ hdC y).toList = fl hdC ((O ++ [x]) ++ [y]) := by rw [fl_app, fl_app]; simp [fl]
theorem roomH2 {n : Nat} (h : n * 112 ≤ 140737488351232) : ((n + 2) + (n + 2) / 4 + 192) * 24 ≤ 281474976710656 := by omega
/-- Rows of events that turn leave other blocks alone. -/
theorem Rws.far {w : World} {b : Nat} {H : List Hd} {C : Nat → List Ev} (R : Rws w b H C) {g : Nat} {cs : Array Value} {T : TypeId} {fr : Nat × Nat} (h : w.heap[g]? = some (Obj.cells cs T fr)) (hT : T ≠ 47) : ¬ rBlk H g := by
  rintro ⟨j, hj, e⟩
  obtain ⟨c2, h2⟩ := own_blkT (R.row j hj) e
  rw [h] at h2
  simp only [Option.some.injEq, Obj.cells.injEq] at h2
  exact hT h2.2.1
theorem Gat.rws {w u : World} {g : Nat} {S : Nat → Prop} {s : Gs} {t : Nat} (G : Gat w g S s t) {b : Nat} {H : List Hd} {C : Nat → List Ev} (R : Rws w b H C) (F : Frm (rBlk H) w u) : Gat u g S s t :=
  G.same F.size fun k e1 => F.blk k (G.lt k e1) (by
    rintro ⟨j, hj, e⟩
    obtain ⟨c2, h2⟩ := own_blkT (R.row j hj) e
    exact G.far h2 (by decide) (by decide) (by decide) e1)
theorem zeroHd_n : zeroHd.n = 0 := rfl
theorem getD_hd {O : List Hd} (h : ∀ j, j < O.length → (O.getD j zeroHd).n ≤ 4096) (j : Nat) : (O.getD j zeroHd).n ≤ 4096 := by
  by_cases hj : j < O.length
  · exact h j hj
  · rw [List.getD_eq_getElem?_getD, List.getElem?_eq_none (by omega)]
    exact Nat.zero_le _

section
variable {P : Program} {w w' : World} {ops : Array Oper} {rest : List Oper} {o : Oper} {a : Act} {Q : Exit → Act → World → Prop}
theorem wpL_callG (hw : Region.wanted o (yielded ops a.tmps) = true) (f : FuncId) (args : Array Value) (hrun : (execOp a.eval o).run P w = .ok (.enter f args) w) (R : Ending → World → Prop) (hc : Calls P f args w R) (h : ∀ e w', R e w' → ∃ v, e = .returned v ∧ wpList P ops Q rest (a.put o.dst v) w') : wpList P ops Q (o :: rest) a w := by
  refine wpList_want hw fun K hK => ?_
  unfold Oper.wp
  rw [hrun, Oper.upon_enter]
  refine hc.mono fun e w' hR => ?_
  obtain ⟨v, rfl, hh⟩ := h e w' hR
  exact hK _ _ hh
theorem wpL_valG (hw : Region.wanted o (yielded ops a.tmps) = true) (v : Value) (hrun : (execOp a.eval o).run P w = .ok (.value v) w') (h : wpList P ops Q rest (a.put o.dst v) w') : wpList P ops Q (o :: rest) a w := by
  refine wpList_want hw fun K hK => ?_
  unfold Oper.wp
  rw [hrun, Oper.upon_value]
  exact hK _ _ h
end

end Go.Proofs.Ythjnkcapjhelgaa
