/- Rows in memory as flat lists of cells; rows of rows; append of a whole row onto a row of one's own. -/
import Derived.Test.YthjnkcapjhelgaaOwn0
import Derived.WideShapes
namespace Go.Proofs.Ythjnkcapjhelgaa
open Go.RowKit Go.BigFrame
set_option linter.unusedVariables false
set_option linter.unusedSimpArgs false

/-- The cells xs lie from ao on. -/
def Flat (w : World) (ao : Option Addr) (xs : List Value) : Prop := ∀ j u, xs[j]? = some u → ∃ g o, ao = some ⟨g, o, none⟩ ∧ w.cell? ⟨g, o + j, none⟩ = some u
theorem Flat.keep {w u : World} {ao : Option Addr} {xs : List Value} (h : Flat w ao xs) (G : Below w.heap.size w u) : Flat u ao xs := fun j v hv => by
  obtain ⟨g, o, e, a0⟩ := h j v hv
  exact ⟨g, o, e, (G.cell (p := ⟨_, _, none⟩) (lt_of_cell a0)).trans a0⟩
theorem Flat.nil (w : World) (ao : Option Addr) : Flat w ao [] := fun j u h => by simp at h
theorem Flat.form {w : World} {ao : Option Addr} {xs : List Value} (h : Flat w ao xs) (h0 : 0 < xs.length) : ∃ g o, ao = some ⟨g, o, none⟩ ∧ g < w.heap.size ∧ ∀ j u, xs[j]? = some u → w.cell? ⟨g, o + j, none⟩ = some u := by
  obtain ⟨g, o, e, a0⟩ := h 0 xs[0] (List.getElem?_eq_getElem h0)
  refine ⟨g, o, e, lt_of_cell a0, fun j u hu => ?_⟩
  obtain ⟨g', o', e', a⟩ := h j u hu
  rw [e] at e'
  cases e'
  exact a
section
variable {β : Type}
/-- The cells of a list of elements. -/
def fl (cv : β → Array Value) (l : List β) : List Value := l.flatMap fun x => (cv x).toList
theorem fl_nil (cv : β → Array Value) : fl cv [] = [] := rfl
theorem fl_cons (cv : β → Array Value) (x : β) (l : List β) : fl cv (x :: l) = (cv x).toList ++ fl cv l := rfl
theorem fl_app (cv : β → Array Value) (a b : List β) : fl cv (a ++ b) = fl cv a ++ fl cv b := by simp [fl]
theorem fl_len {cv : β → Array Value} {sz : Nat} (hc : ∀ x, (cv x).size = sz) (l : List β) : (fl cv l).length = l.length * sz := by
  induction l with
  | nil => simp [fl]
  | cons x l ih => rw [fl_cons, List.length_append, ih, Array.length_toList, hc, List.length_cons, Nat.add_mul]; omega
theorem fl_at {cv : β → Array Value} {sz : Nat} (hc : ∀ x, (cv x).size = sz) (z : β) : ∀ (l : List β) (i j : Nat), i < l.length → j < sz → (fl cv l)[i * sz + j]? = (cv (l.getD i z)).toList[j]? := by
  intro l
  induction l with
  | nil => intro i j hi; simp at hi
  | cons x l ih =>
    intro i j hi hj
    rw [fl_cons]
    have hx : (cv x).toList.length = sz := by rw [Array.length_toList, hc]
    cases i with
    | zero => rw [List.getElem?_append_left (by omega)]; simp
    | succ i =>
      rw [List.getElem?_append_right (by rw [hx, Nat.add_mul]; omega), hx]
      have e : (i + 1) * sz + j - sz = i * sz + j := by rw [Nat.add_mul]; omega
      rw [e, ih i j (by simpa using hi) hj]
      simp
theorem fl_set {cv : β → Array Value} {sz : Nat} (hc : ∀ x, (cv x).size = sz) (z : β) : ∀ (l : List β) (i j : Nat) (v : Value) (y : β), i < l.length → j < sz → (cv y).toList = (cv (l.getD i z)).toList.set j v → (fl cv l).set (i * sz + j) v = fl cv (l.set i y) := by
  intro l
  induction l with
  | nil => intro i j v y hi; simp at hi
  | cons x l ih =>
    intro i j v y hi hj he
    have hx : (cv x).toList.length = sz := by rw [Array.length_toList, hc]
    cases i with
    | zero =>
      simp only [List.getD_cons_zero] at he
      rw [fl_cons, List.set_cons_zero, fl_cons, he, Nat.zero_mul, Nat.zero_add, List.set_append_left _ _ (by omega)]
    | succ i =>
      simp only [List.getD_cons_succ] at he
      have e : (i + 1) * sz + j - sz = i * sz + j := by rw [Nat.add_mul]; omega
      rw [fl_cons, List.set_cons_succ, fl_cons, List.set_append_right _ _ (by rw [hx, Nat.add_mul]; omega), hx, e, ih i j v y (by simpa using hi) hj he]
/-- A row of rows. -/
def Nst (w : World) (ao : Option Addr) (cv : β → Array Value) (l : List (List β)) : Prop := ∀ i, i < l.length → ∃ g o a c, ao = some ⟨g, o, none⟩ ∧ w.cell? ⟨g, o + i, none⟩ = some (.slice a (l.getD i []).length c) ∧ Flat w a (fl cv (l.getD i [])) ∧ Sl a (l.getD i []).length c
theorem Nst.keep {w u : World} {ao : Option Addr} {cv : β → Array Value} {l : List (List β)} (h : Nst w ao cv l) (G : Below w.heap.size w u) : Nst u ao cv l := fun i hi => by
  obtain ⟨g, o, a, c, e, a0, hs, hl⟩ := h i hi
  exact ⟨g, o, a, c, e, (G.cell (p := ⟨_, _, none⟩) (lt_of_cell a0)).trans a0, hs.keep G, hl⟩
theorem own_flat {w : World} {b : Nat} {e : TypeId} {s : Nat} {ao : Option Addr} {n c : Nat} {xs : List Value} (h : w.ownsRow b e s (.slice ao n c) n xs) : Flat w ao xs := fun j u hu => by
  have hj := (List.getElem?_eq_some_iff.1 hu).1
  have hl := h.1
  rcases h.2 with ⟨h1, h2⟩ | ⟨g, c', cur, h1, _, _, _, _⟩
  · rw [h2, Nat.zero_mul] at hl; omega
  · cases h1
    refine ⟨g, 0, rfl, ?_⟩
    rw [Nat.zero_add, World.ownsRow.cellAt h j (by omega), hu]
/-- A row of rows of one's own: no two rows lie in one block. -/
structure ONst (w : World) (b : Nat) (TS T : TypeId) (sz : Nat) (cv : β → Array Value) (v : Value) (l : List (List β)) (ws : List Value) : Prop where
  len : ws.length = l.length
  own : w.ownsRow b TS 1 v l.length ws
  inn : ∀ j, j < l.length → ∃ a c, ws[j]? = some (.slice a (l.getD j []).length c) ∧ w.ownsRow b T sz (.slice a (l.getD j []).length c) (l.getD j []).length (fl cv (l.getD j []))
  apart : ∀ (i j : Nat) (x y : Value) (g : Nat), ws[i]? = some x → ws[j]? = some y → x.ownBlock = some g → y.ownBlock = some g → i = j
theorem ONst.map {w u : World} {b : Nat} {TS T : TypeId} {sz : Nat} {cv : β → Array Value} {v : Value} {l : List (List β)} {ws : List Value} (h : ONst w b TS T sz cv v l ws) (f : ∀ (e : TypeId) (s : Nat) (v : Value) (n : Nat) (xs : List Value), (e = TS ∨ e = T) → w.ownsRow b e s v n xs → u.ownsRow b e s v n xs) : ONst u b TS T sz cv v l ws :=
  ⟨h.len, f _ _ _ _ _ (.inl rfl) h.own, fun j hj => by
    obtain ⟨a, c, h1, h2⟩ := h.inn j hj
    exact ⟨a, c, h1, f _ _ _ _ _ (.inr rfl) h2⟩, h.apart⟩
theorem ONst.keep {w u : World} {b : Nat} {TS T : TypeId} {sz : Nat} {cv : β → Array Value} {v : Value} {l : List (List β)} {ws : List Value} (h : ONst w b TS T sz cv v l ws) (G : Below w.heap.size w u) : ONst u b TS T sz cv v l ws := h.map fun _ _ _ _ _ _ o => own_keep o G
theorem ONst.mono {w : World} {b b' : Nat} {TS T : TypeId} {sz : Nat} {cv : β → Array Value} {v : Value} {l : List (List β)} {ws : List Value} (h : ONst w b TS T sz cv v l ws) (hb : b' ≤ b) : ONst w b' TS T sz cv v l ws :=
  ⟨h.len, World.ownsRow.mono h.own hb, fun j hj => by
    obtain ⟨a, c, h1, h2⟩ := h.inn j hj
    exact ⟨a, c, h1, World.ownsRow.mono h2 hb⟩, h.apart⟩
theorem ONst.nst {w : World} {b : Nat} {TS T : TypeId} {sz : Nat} {cv : β → Array Value} {ao : Option Addr} {c : Nat} {l : List (List β)} {ws : List Value} (h : ONst w b TS T sz cv (.slice ao l.length c) l ws) : Nst w ao cv l := fun i hi => by
  obtain ⟨a, c', e, O⟩ := h.inn i hi
  obtain ⟨g, o, e1, c0⟩ := own_flat h.own i _ e
  exact ⟨g, o, a, c', e1, c0, own_flat O, own_sl O⟩
end
/-- append of a whole row onto a row of one's own. -/
theorem wpList_append_flat {P : Program} {w : World} {ops : Array Oper} {rest : List Oper} {o : Oper} {a : Act} {Q : Exit → Act → World → Prop} (hgd : o.guard = none) (s x : Operand) {TS T : TypeId} {z : Value} {sz by_ : Nat}
    (ho : o.op = .call { callee := .builtin .append, args := #[s, x], argTypes := #[TS, TS] }) (hu : P.underlying TS = some (.slice T)) (nf : (P.info? T).map (fun i => (i.zero, i.size, i.bytes)) = some (some z, sz, by_)) (hzs : z.cells.size = sz) (hsz : 0 < sz)
    (v : Value) (base n : Nat) (xs : List Value) (hs : a.eval s = v) (O : w.ownsRow base T sz v n xs) (hb : base ≤ w.heap.size)
    (ao : Option Addr) (m cap : Nat) (ys : List Value) (hx : a.eval x = .slice ao m cap) (hsl : Sl ao m cap) (A : Flat w ao ys) (hy : ys.length = m * sz) (h1 : ∀ u ∈ ys, u.oneCell' = true) (hl : (n + m) * by_ ≤ 140737488351232) (hl2 : n + m ≤ 140737488351232)
    (h : ∀ v' w', w'.ownsRow base T sz v' (n + m) (xs ++ ys) → w.grownBy w' v.ownBlock → wpList P ops Q rest (a.put o.dst v') w') : wpList P ops Q (o :: rest) a w := by
  obtain ⟨i3, ti, tz0, tz1, tz2⟩ := nf_info nf
  cases ao with
  | none =>
    obtain ⟨h0, rfl⟩ := hsl.2 rfl
    subst h0
    have hys : ys = [] := List.length_eq_zero_iff.1 (by omega)
    subst hys
    refine wpList_plain hgd fun K hK' => ?_
    have hrun := run_append_owned_none (P := P) w base TS o.type T i3 sz hu ti v n xs O
    unfold Oper.wp
    simp [execOp, ho, resolve, invoke, builtin, hs, hx, hrun, Result.andThen]
    refine hK' _ _ (h _ _ ?_ (World.grownBy.refl _ _))
    rw [List.append_nil]
    exact O
  | some ad =>
    refine wpList_append_own (w := w) hgd s x TS ho base T i3 z sz by_ hu ti tz0 tz1 tz2 hzs hsz v n xs hs O ad m cap ys hx hy (fun j u hj => ?_) h1 (by unfold maxLen; omega) (by omega) hb (fun v' w' h1 h2 _ => h v' w' h1 h2)
    obtain ⟨g, off, e, c0⟩ := A j u hj
    cases e
    rw [Go.WideShapes.add_plain]
    exact c0
theorem fl_one {β : Type} {cv : β → Array Value} (h : ∀ x, ∀ u ∈ (cv x).toList, u.oneCell' = true) (l : List β) : ∀ u ∈ fl cv l, u.oneCell' = true := fun u hu => by
  unfold fl at hu
  obtain ⟨x, _, hx⟩ := List.mem_flatMap.1 hu
  exact h x u hx

end Go.Proofs.Ythjnkcapjhelgaa
