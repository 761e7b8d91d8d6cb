/- Rows in memory as flat lists of cells; rows of rows; append of a whole row onto a row of one's own. And what goes with it: 5 texts in one. -/
import Derived.Test.YtnolbpekdikamaaGreatDoorJa03
import Derived.WideShapes
import Derived.Deep.OwnRows
namespace Go.Proofs.YtnolbpekdikamaaGreatDoor
open Go.RowKit Go.BigFrame
set_option linter.unusedVariables false
set_option linter.unusedSimpArgs false

/-- The cells xs lie from ao on. -/
def Flat (w : World) (ao : Option Addr) (xs : List Value) : Prop := ∀ j u, xs[j]? = some u → ∃ g o, ao = some ⟨g, o, none⟩ ∧ w.cell? ⟨g, o + j, none⟩ = some u
theorem Flat.keep {w u : World} {ao : Option Addr} {xs : List Value} (h : Flat w ao xs) (G : Below w.heap.size w u) : Flat u ao xs := fun j v hv => by
  obtain ⟨g, o, e, a0⟩ := h j v hv
  exact ⟨g, o, e, (G.cell (p := ⟨_, _, none⟩) (lt_of_cell a0)).trans a0⟩
theorem Flat.nil (w : World) (ao : Option Addr) : Flat w ao [] := fun j u h => by simp at h
theorem Flat.form {w : World} {ao : Option Addr} {xs : List Value} (h : Flat w ao xs) (h0 : 0 < xs.length) : ∃ g o, ao = some ⟨g, o, none⟩ ∧ g < w.heap.size ∧ ∀ j u, xs[j]? = some u → w.cell? ⟨g, o + j, none⟩ = some u := by
  obtain ⟨g, o, e, a0⟩ := h 0 xs[0] (List.getElem?_eq_getElem h0)
  refine ⟨g, o, e, lt_of_cell a0, fun j u hu => ?_⟩
  obtain ⟨g', o', e', a⟩ := h j u hu
  rw [e] at e'
  cases e'
  exact a
section
variable {β : Type}
/-- The cells of a list of elements. -/
def fl (cv : β → Array Value) (l : List β) : List Value := l.flatMap fun x => (cv x).toList
theorem fl_nil (cv : β → Array Value) : fl cv [] = [] := rfl
theorem fl_cons (cv : β → Array Value) (x : β) (l : List β) : fl cv (x :: l) = (cv x).toList ++ fl cv l := rfl
theorem fl_app (cv : β → Array Value) (a b : List β) : fl cv (a ++ b) = fl cv a ++ fl cv b := by simp [fl]
theorem fl_len {cv : β → Array Value} {sz : Nat} (hc : ∀ x, (cv x).size = sz) (l : List β) : (fl cv l).length = l.length * sz := by
  induction l with
  | nil => simp [fl]
  | cons x l ih => rw [fl_cons, List.length_append, ih, Array.length_toList, hc, List.length_cons, Nat.add_mul]; omega
theorem fl_at {cv : β → Array Value} {sz : Nat} (hc : ∀ x, (cv x).size = sz) (z : β) : ∀ (l : List β) (i j : Nat), i < l.length → j < sz → (fl cv l)[i * sz + j]? = (cv (l.getD i z)).toList[j]? := by
  intro l
  induction l with
  | nil => intro i j hi; simp at hi
  | cons x l ih =>
    intro i j hi hj
    rw [fl_cons]
    have hx : (cv x).toList.length = sz := by rw [Array.length_toList, hc]
    cases i with
    | zero => rw [List.getElem?_append_left (by omega)]; simp
    | succ i =>
      rw [List.getElem?_append_right (by rw [hx, Nat.add_mul]; omega), hx]
      have e : (i + 1) * sz + j - sz = i * sz + j := by rw [Nat.add_mul]; omega
      rw [e, ih i j (by simpa using hi) hj]
      simp
theorem fl_set {cv : β → Array Value} {sz : Nat} (hc : ∀ x, (cv x).size = sz) (z : β) : ∀ (l : List β) (i j : Nat) (v : Value) (y : β), i < l.length → j < sz → (cv y).toList = (cv (l.getD i z)).toList.set j v → (fl cv l).set (i * sz + j) v = fl cv (l.set i y) := by
  intro l
  induction l with
  | nil => intro i j v y hi; simp at hi
  | cons x l ih =>
    intro i j v y hi hj he
    have hx : (cv x).toList.length = sz := by rw [Array.length_toList, hc]
    cases i with
    | zero =>
      simp only [List.getD_cons_zero] at he
      rw [fl_cons, List.set_cons_zero, fl_cons, he, Nat.zero_mul, Nat.zero_add, List.set_append_left _ _ (by omega)]
    | succ i =>
      simp only [List.getD_cons_succ] at he
      have e : (i + 1) * sz + j - sz = i * sz + j := by rw [Nat.add_mul]; omega
      rw [fl_cons, List.set_cons_succ, fl_cons, List.set_append_right _ _ (by rw [hx, Nat.add_mul]; omega), hx, e, ih i j v y (by simpa using hi) hj he]
/-- A row of rows. -/
def Nst (w : World) (ao : Option Addr) (cv : β → Array Value) (l : List (List β)) : Prop := ∀ i, i < l.length → ∃ g o a c, ao = some ⟨g, o, none⟩ ∧ w.cell? ⟨g, o + i, none⟩ = some (.slice a (l.getD i []).length c) ∧ Flat w a (fl cv (l.getD i [])) ∧ Sl a (l.getD i []).length c
theorem Nst.keep {w u : World} {ao : Option Addr} {cv : β → Array Value} {l : List (List β)} (h : Nst w ao cv l) (G : Below w.heap.size w u) : Nst u ao cv l := fun i hi => by
  obtain ⟨g, o, a, c, e, a0, hs, hl⟩ := h i hi
  exact ⟨g, o, a, c, e, (G.cell (p := ⟨_, _, none⟩) (lt_of_cell a0)).trans a0, hs.keep G, hl⟩
theorem own_flat {w : World} {b : Nat} {e : TypeId} {s : Nat} {ao : Option Addr} {n c : Nat} {xs : List Value} (h : w.ownsRow b e s (.slice ao n c) n xs) : Flat w ao xs := fun j u hu => by
  have hj := (List.getElem?_eq_some_iff.1 hu).1
  have hl := h.1
  rcases h.2 with ⟨h1, h2⟩ | ⟨g, c', cur, h1, _, _, _, _⟩
  · rw [h2, Nat.zero_mul] at hl; omega
  · cases h1
    refine ⟨g, 0, rfl, ?_⟩
    rw [Nat.zero_add, World.ownsRow.cellAt h j (by omega), hu]
/-- A row of rows of one's own: no two rows lie in one block. -/
structure ONst (w : World) (b : Nat) (TS T : TypeId) (sz : Nat) (cv : β → Array Value) (v : Value) (l : List (List β)) (ws : List Value) : Prop where
  len : ws.length = l.length
  own : w.ownsRow b TS 1 v l.length ws
  inn : ∀ j, j < l.length → ∃ a c, ws[j]? = some (.slice a (l.getD j []).length c) ∧ w.ownsRow b T sz (.slice a (l.getD j []).length c) (l.getD j []).length (fl cv (l.getD j []))
  apart : ∀ (i j : Nat) (x y : Value) (g : Nat), ws[i]? = some x → ws[j]? = some y → x.ownBlock = some g → y.ownBlock = some g → i = j
theorem ONst.map {w u : World} {b : Nat} {TS T : TypeId} {sz : Nat} {cv : β → Array Value} {v : Value} {l : List (List β)} {ws : List Value} (h : ONst w b TS T sz cv v l ws) (f : ∀ (e : TypeId) (s : Nat) (v : Value) (n : Nat) (xs : List Value), (e = TS ∨ e = T) → w.ownsRow b e s v n xs → u.ownsRow b e s v n xs) : ONst u b TS T sz cv v l ws :=
  ⟨h.len, f _ _ _ _ _ (.inl rfl) h.own, fun j hj => by
    obtain ⟨a, c, h1, h2⟩ := h.inn j hj
    exact ⟨a, c, h1, f _ _ _ _ _ (.inr rfl) h2⟩, h.apart⟩
theorem ONst.keep {w u : World} {b : Nat} {TS T : TypeId} {sz : Nat} {cv : β → Array Value} {v : Value} {l : List (List β)} {ws : List Value} (h : ONst w b TS T sz cv v l ws) (G : Below w.heap.size w u) : ONst u b TS T sz cv v l ws := h.map fun _ _ _ _ _ _ o => own_keep o G
theorem ONst.mono {w : World} {b b' : Nat} {TS T : TypeId} {sz : Nat} {cv : β → Array Value} {v : Value} {l : List (List β)} {ws : List Value} (h : ONst w b TS T sz cv v l ws) (hb : b' ≤ b) : ONst w b' TS T sz cv v l ws :=
  ⟨h.len, World.ownsRow.mono h.own hb, fun j hj => by
    obtain ⟨a, c, h1, h2⟩ := h.inn j hj
    exact ⟨a, c, h1, World.ownsRow.mono h2 hb⟩, h.apart⟩
theorem ONst.nst {w : World} {b : Nat} {TS T : TypeId} {sz : Nat} {cv : β → Array Value} {ao : Option Addr} {c : Nat} {l : List (List β)} {ws : List Value} (h : ONst w b TS T sz cv (.slice ao l.length c) l ws) : Nst w ao cv l := fun i hi => by
  obtain ⟨a, c', e, O⟩ := h.inn i hi
  obtain ⟨g, o, e1, c0⟩ := own_flat h.own i _ e
  exact ⟨g, o, a, c', e1, c0, own_flat O, own_sl O⟩
end
/-- append of a whole row onto a row of one's own. -/
theorem wpList_append_flat {P : Program} {w : World} {ops : Array Oper} {rest : List Oper} {o : Oper} {a : Act} {Q : Exit → Act → World → Prop} (hgd : o.guard = none) (s x : Operand) {TS T : TypeId} {z : Value} {sz by_ : Nat}
    (ho : o.op = .call { callee := .builtin .append, args := #[s, x], argTypes := #[TS, TS] }) (hu : P.underlying TS = some (.slice T)) (nf : (P.info? T).map (fun i => (i.zero, i.size, i.bytes)) = some (some z, sz, by_)) (hzs : z.cells.size = sz) (hsz : 0 < sz)
    (v : Value) (base n : Nat) (xs : List Value) (hs : a.eval s = v) (O : w.ownsRow base T sz v n xs) (hb : base ≤ w.heap.size)
    (ao : Option Addr) (m cap : Nat) (ys : List Value) (hx : a.eval x = .slice ao m cap) (hsl : Sl ao m cap) (A : Flat w ao ys) (hy : ys.length = m * sz) (h1 : ∀ u ∈ ys, u.oneCell' = true) (hl : (n + m) * by_ ≤ 140737488351232) (hl2 : n + m ≤ 140737488351232)
    (h : ∀ v' w', w'.ownsRow base T sz v' (n + m) (xs ++ ys) → w.grownBy w' v.ownBlock → wpList P ops Q rest (a.put o.dst v') w') : wpList P ops Q (o :: rest) a w := by
  obtain ⟨i3, ti, tz0, tz1, tz2⟩ := nf_info nf
  cases ao with
  | none =>
    obtain ⟨h0, rfl⟩ := hsl.2 rfl
    subst h0
    have hys : ys = [] := List.length_eq_zero_iff.1 (by omega)
    subst hys
    refine wpList_plain hgd fun K hK' => ?_
    have hrun := run_append_owned_none (P := P) w base TS o.type T i3 sz hu ti v n xs O
    unfold Oper.wp
    simp [execOp, ho, resolve, invoke, builtin, hs, hx, hrun, Result.andThen]
    refine hK' _ _ (h _ _ ?_ (World.grownBy.refl _ _))
    rw [List.append_nil]
    exact O
  | some ad =>
    refine wpList_append_own (w := w) hgd s x TS ho base T i3 z sz by_ hu ti tz0 tz1 tz2 hzs hsz v n xs hs O ad m cap ys hx hy (fun j u hj => ?_) h1 (by unfold maxLen; omega) (by omega) hb (fun v' w' h1 h2 _ => h v' w' h1 h2)
    obtain ⟨g, off, e, c0⟩ := A j u hj
    cases e
    rw [Go.WideShapes.add_plain]
    exact c0
theorem fl_one {β : Type} {cv : β → Array Value} (h : ∀ x, ∀ u ∈ (cv x).toList, u.oneCell' = true) (l : List β) : ∀ u ∈ fl cv l, u.oneCell' = true := fun u hu => by
  unfold fl at hu
  obtain ⟨x, _, hx⟩ := List.mem_flatMap.1 hu
  exact h x u hx

end Go.Proofs.YtnolbpekdikamaaGreatDoor
namespace Go.Proofs.YtnolbpekdikamaaGreatDoor
open Go.RowKit Go.BigFrame
set_option linter.unusedVariables false
set_option linter.unusedSimpArgs false

structure Ins where
  code : Int
  item : Int
  col : Int
  n : Int
  jt : Int
def insC (i : Ins) : Array Value := #[.int .i64 i.code, .int .i64 i.item, .int .i64 i.col, .int .i64 i.n, .int .i64 i.jt]
def noIn : Ins := ⟨0, 0, 0, 0, 0⟩
structure Ins.ok (i : Ins) : Prop where
  n : fitsB i.n = true
  jt : fitsB i.jt = true
def valC (x : V2) : Array Value := #[.bool x.1, .int .i64 x.2]
def intC (z : Int) : Array Value := #[.int .i64 z]
abbrev noV2 : V2 := (false, 0)
structure Envr where
  lists : List (List Ev)
  each : Int
  at_ : Int

def plcO (col : List Int) (typ : Int) : Int := if typ < 0 ∨ (col.length : Int) ≤ typ then -1 else col.getD typ.toNat 0
def rdP (pl : Int) (e : Ev) : V2 := if pl = -2 then (true, e.ts) else if 0 ≤ pl ∧ pl < 8 then (true, e.at pl.toNat) else noV2
def sayV (f : Int → Int) (l : List Ev) (a : Int) : V2 := if a < 0 ∨ (l.length : Int) ≤ a then noV2 else rdP (f (l.getD a.toNat zeroE).typ) (l.getD a.toNat zeroE)
def fdV (op : Int) (zs : List Int) : V2 := (foldK op zs, foldN op zs)
def rdE (f : Int → Int) (e : Ev) : V2 := rdP (f e.typ) e
def gatV (f : Int → Int) (op : Int) (l : List Ev) : V2 := if l.all (fun e => (rdE f e).1) = true then fdV op (l.map fun e => (rdE f e).2) else noV2
def lstO (E : Envr) (item : Int) : List Ev := if item < 0 ∨ (E.lists.length : Int) ≤ item then [] else E.lists.getD item.toNat []
def menV (f : Int → Int) (op : Int) (E : Envr) (item : Int) : V2 :=
  if op = 4 then sayV f (lstO E item) (if item = E.each then E.at_ else 0)
  else if op = 11 then (if item = E.each then sayV f (lstO E item) (IntKind.i64.wrap (E.at_ - 1)) else noV2)
  else gatV f op (lstO E item)
def opI (c : Int) : Int := if c = 2 then 4 else if c = 3 then 11 else if c ≤ 9 then c + 1 else c + 2
def ndsI (c : Int) : Nat := if c < 10 then 0 else if c = 10 ∨ c = 11 ∨ 25 ≤ c then 1 else 2
def negW (x : V2) : V2 := (opK true x.1 (0 - x.2), opN true x.1 (0 - x.2))
def notW (x : V2) : V2 := (vK (2 - rd x.1 x.2), vN (2 - rd x.1 x.2))
def jmpB (c : Int) (x : V2) : Bool := x.1 && ((rd x.1 x.2 == 2) == (c == 26))
def topV (st : List V2) : V2 := st.getD (st.length - 1) noV2
def sndV (st : List V2) : V2 := st.getD (st.length - 2) noV2
/-- One instruction: the next place and the stack, or a refusal. -/
def stepP (code : List Ins) (cols : List (List Int)) (E : Envr) (p : Nat) (st : List V2) : Option (Nat × List V2) :=
  let i := code.getD p noIn
  if ¬ (0 < i.code ∧ i.code < 27 ∧ ndsI i.code ≤ st.length) then none
  else if i.code = 1 then some (p + 1, st ++ [(true, i.n)])
  else if i.code = 4 then some (p + 1, st ++ [(true, ((lstO E i.item).length : Int))])
  else if i.code < 10 then (if 0 ≤ i.col ∧ i.col < (cols.length : Int) then some (p + 1, st ++ [menV (plcO (cols.getD i.col.toNat [])) (opI i.code) E i.item]) else none)
  else if i.code = 10 then some (p + 1, st.set (st.length - 1) (negW (topV st)))
  else if i.code = 11 then some (p + 1, st.set (st.length - 1) (notW (topV st)))
  else if 25 ≤ i.code then (if (p : Int) < i.jt ∧ i.jt ≤ (code.length : Int) then (if jmpB i.code (topV st) = true then some (i.jt.toNat, st) else some (p + 1, st)) else none)
  else some (p + 1, (st.set (st.length - 2) (applyV (i.code + 2) (sndV st) (topV st))).take (st.length - 1))
def endV (st : List V2) : V2 × Int := if st.length = 1 then (st.getD 0 noV2, 0) else (noV2, 70)
def runW (code : List Ins) (cols : List (List Int)) (E : Envr) (p : Nat) (st : List V2) : V2 × Int :=
  if h : p < code.length then
    match stepP code cols E p st with
    | none => (noV2, 70)
    | some (q, st') => if h2 : p < q then runW code cols E q st' else (noV2, 70)
  else endV st
termination_by code.length - p
theorem runW_end {code : List Ins} {cols : List (List Int)} {E : Envr} {p : Nat} {st : List V2} (h : ¬ p < code.length) : runW code cols E p st = endV st := by
  rw [runW, dif_neg h]
theorem runW_bad {code : List Ins} {cols : List (List Int)} {E : Envr} {p : Nat} {st : List V2} (h : p < code.length) (hs : stepP code cols E p st = none) : runW code cols E p st = (noV2, 70) := by
  rw [runW, dif_pos h, hs]
theorem runW_go {code : List Ins} {cols : List (List Int)} {E : Envr} {p q : Nat} {st st' : List V2} (h : p < code.length) (hs : stepP code cols E p st = some (q, st')) (hq : p < q) : runW code cols E p st = runW code cols E q st' := by
  rw [runW, dif_pos h, hs]
  exact dif_pos hq
/-- All values of a stack are numbers of their type. -/
def fitS (st : List V2) : Prop := ∀ k, fitsB (st.getD k noV2).2 = true
theorem fitS_nil : fitS [] := fun k => by simp; decide
theorem fitS_snoc {st : List V2} (h : fitS st) {x : V2} (hx : fitsB x.2 = true) : fitS (st ++ [x]) := fun k => by
  rcases Nat.lt_or_ge k st.length with e | e
  · have := h k
    rwa [List.getD_eq_getElem?_getD, List.getElem?_append_left e, ← List.getD_eq_getElem?_getD]
  · rw [List.getD_eq_getElem?_getD, List.getElem?_append_right e]
    rcases Nat.eq_zero_or_pos (k - st.length) with e2 | e2
    · rw [e2]; exact hx
    · rw [List.getElem?_eq_none (by simp; omega)]; decide
theorem fitS_set {st : List V2} (h : fitS st) (j : Nat) {x : V2} (hx : fitsB x.2 = true) : fitS (st.set j x) := fun k => by
  rw [List.getD_eq_getElem?_getD, List.getElem?_set]
  have hk := h k
  rw [List.getD_eq_getElem?_getD] at hk
  split
  · split
    · exact hx
    · decide
  · exact hk
theorem fitS_take {st : List V2} (h : fitS st) (n : Nat) : fitS (st.take n) := fun k => by
  rw [List.getD_eq_getElem?_getD, List.getElem?_take]
  have hk := h k
  rw [List.getD_eq_getElem?_getD] at hk
  split
  · exact hk
  · decide
theorem ev_fits {e : Ev} (h : e.ok) (j : Nat) : fitsB (e.at j) = true := by
  by_cases hj : j < 8
  · exact (fits_iff _).2 ⟨h.at0 j hj, h.at1 j hj⟩
  · have : e.at j = 0 := by unfold Ev.at; rw [List.getD_eq_getElem?_getD, List.getElem?_eq_none (by simp; omega)]; rfl
    rw [this]; decide
theorem rdP_fits {e : Ev} (h : e.ok) (pl : Int) : fitsB (rdP pl e).2 = true := by
  unfold rdP
  split
  · exact (fits_iff _).2 ⟨h.t0, h.t1⟩
  split
  · exact ev_fits h _
  · decide
def evsOk (l : List Ev) : Prop := ∀ k, (l.getD k zeroE).ok
theorem sayV_fits {l : List Ev} (h : evsOk l) (f : Int → Int) (a : Int) : fitsB (sayV f l a).2 = true := by
  unfold sayV
  split
  · decide
  · exact rdP_fits (h _) _
theorem fdV_fits (op : Int) (zs : List Int) (h : ∀ j, fitsB (zs.getD j 0) = true) (hl : zs.length ≤ 9223372036854775807) : fitsB (fdV op zs).2 = true := by
  show fitsB (foldN op zs) = true
  unfold foldN
  repeat' split
  all_goals first | exact fitN_fits _ | exact extU_fits _ _ h _ | exact h _ | (rw [fits_iff]; omega)
theorem map_fits {l : List Ev} (h : evsOk l) (f : Int → Int) (j : Nat) : fitsB ((l.map fun e => (rdE f e).2).getD j 0) = true := by
  rw [List.getD_eq_getElem?_getD, List.getElem?_map]
  have := h j
  rw [List.getD_eq_getElem?_getD] at this
  cases e : l[j]? with
  | none => exact (by decide : fitsB 0 = true)
  | some x => rw [e] at this; exact rdP_fits this _
theorem gatV_fits {l : List Ev} (h : evsOk l) (f : Int → Int) (op : Int) (hl : l.length ≤ 9223372036854775807) : fitsB (gatV f op l).2 = true := by
  unfold gatV
  split
  · exact fdV_fits _ _ (map_fits h f) (by simpa using hl)
  · decide
/-- What may stand in an environment. -/
structure Envr.ok (E : Envr) : Prop where
  n : E.lists.length * 24 ≤ 140737488351232
  l : ∀ k, (E.lists.getD k []).length * 88 ≤ 140737488351232
  e : ∀ k, evsOk (E.lists.getD k [])
  f0 : fitsB E.each = true
  f1 : fitsB E.at_ = true
  b : ∀ k, (E.lists.getD k []).length ≤ 2147483647
theorem lstO_ok {E : Envr} (h : E.ok) (i : Int) : evsOk (lstO E i) ∧ (lstO E i).length * 88 ≤ 140737488351232 ∧ (lstO E i).length ≤ 2147483647 := by
  unfold lstO
  split
  · exact ⟨fun k => by simp; exact zeroE_ok, by simp, by simp⟩
  · exact ⟨h.e _, h.l _, h.b _⟩
theorem menV_fits {E : Envr} (h : E.ok) (f : Int → Int) (op i : Int) : fitsB (menV f op E i).2 = true := by
  obtain ⟨h1, h2, _⟩ := lstO_ok h i
  unfold menV
  split
  · exact sayV_fits h1 _ _
  split
  · split
    · exact sayV_fits h1 _ _
    · decide
  · exact gatV_fits h1 _ _ (by omega)
theorem stepP_fits {code : List Ins} {cols : List (List Int)} {E : Envr} (hE : E.ok) (hc : ∀ k, (code.getD k noIn).ok) {p q : Nat} {st st' : List V2} (hs : fitS st) (h : stepP code cols E p st = some (q, st')) : fitS st' := by
  unfold stepP at h
  dsimp only at h
  repeat' split at h
  all_goals first
    | (cases h; done)
    | (simp only [Option.some.injEq, Prod.mk.injEq] at h; obtain ⟨_, rfl⟩ := h)
  · exact fitS_snoc hs (hc _).n
  · exact fitS_snoc hs ((fits_iff _).2 (by have := (lstO_ok hE (code.getD p noIn).item).2.1; omega))
  · exact fitS_snoc hs (menV_fits hE _ _ _)
  · exact fitS_set hs _ (opN_fits _ _ _)
  · exact fitS_set hs _ (vN_fits _)
  · exact hs
  · exact hs
  · exact fitS_take (fitS_set hs _ (applyV_fits _ _ _)) _
theorem stepP_len {code : List Ins} {cols : List (List Int)} {E : Envr} {p q : Nat} {st st' : List V2} (h : stepP code cols E p st = some (q, st')) : p < q ∧ st'.length ≤ st.length + 1 ∧ (q = p + 1 ∨ q ≤ code.length) := by
  unfold stepP at h
  dsimp only at h
  repeat' split at h
  all_goals first
    | (cases h; done)
    | (simp only [Option.some.injEq, Prod.mk.injEq] at h; obtain ⟨rfl, rfl⟩ := h)
  all_goals refine ⟨?_, ?_, ?_⟩
  all_goals first | omega | (simp only [List.length_append, List.length_set, List.length_take, List.length_cons, List.length_nil]; omega)

end Go.Proofs.YtnolbpekdikamaaGreatDoor
namespace Go.Proofs.YtnolbpekdikamaaGreatDoor
open Go.RowKit Go.BigFrame
set_option linter.unusedVariables false
set_option linter.unusedSimpArgs false

theorem evC_sz (e : Ev) : (evC e).size = 11 := rfl
theorem insC_sz (i : Ins) : (insC i).size = 5 := rfl
theorem intC_sz (z : Int) : (intC z).size = 1 := rfl
theorem valC_sz (x : V2) : (valC x).size = 2 := rfl
abbrev envA (al : Option Addr) (cl : Nat) (E : Envr) : Value := .agg #[.slice al E.lists.length cl, .int .i64 E.each, .int .i64 E.at_]

set_option maxHeartbeats 400000 in
theorem cknown_any (n : Int) (w : World) :
    Calls Tryz.prog 26 #[.int .i64 n] w fun e w' => e = .returned (.agg #[.bool true, .int .i64 n]) ∧ Below w.heap.size w w' := by
  go_enter Tryz.func26, Tryz.ntmps26
  go_wp2
  exact bodyPost_ret (v := .agg #[.bool true, .int .i64 n]) (by simp [results, Tryz.results26, go_sem]) rfl ⟨rfl, galloc (Below.refl _ _) _⟩

/-- The slice that listOf answers. -/
structure Lsl (w : World) (E : Envr) (item : Int) (a : Option Addr) (c : Nat) : Prop where
  sl : Sl a (lstO E item).length c
  fl : Flat w a (fl evC (lstO E item))
theorem Lsl.keep {w u : World} {E : Envr} {item : Int} {a : Option Addr} {c : Nat} (h : Lsl w E item a c) (G : Below w.heap.size w u) : Lsl u E item a c := ⟨h.sl, h.fl.keep G⟩

set_option maxHeartbeats 1000000 in
theorem listOf_any (E : Envr) (al : Option Addr) (cl : Nat) (item : Int) (w : World) (N : Nst w al evC E.lists) :
    ∃ a c, Lsl w E item a c ∧ ∀ u, Below w.heap.size w u → Calls Tryz.prog 49 #[envA al cl E, .int .i64 item] u fun e w' => e = .returned (.slice a (lstO E item).length c) ∧ Below u.heap.size u w' := by
  by_cases h0 : item < 0 ∨ (E.lists.length : Int) ≤ item
  · have hl : lstO E item = [] := if_pos h0
    rw [hl]
    refine ⟨none, 0, ⟨by rw [hl]; exact ⟨Nat.le_refl _, fun _ => ⟨rfl, rfl⟩⟩, by rw [hl]; exact Flat.nil _ _⟩, fun u G => ?_⟩
    by_cases h1 : item < 0
    · go_enter Tryz.func49, Tryz.ntmps49
      go_wp2
      go_ret
      exact ⟨rfl, galloc (Below.refl _ _) _⟩
    · have h2 : (E.lists.length : Int) ≤ item := by omega
      go_enter Tryz.func49, Tryz.ntmps49
      go_wp2
      go_ret
      exact ⟨rfl, galloc (Below.refl _ _) _⟩
  · obtain ⟨k, rfl⟩ : ∃ k : Nat, item = k := ⟨item.toNat, by omega⟩
    have hk : k < E.lists.length := by omega
    have hl : lstO E (k : Int) = E.lists.getD k [] := if_neg h0
    obtain ⟨g, o, a, c, rfl, a0, hf, hs⟩ := N k hk
    rw [hl]
    refine ⟨a, c, ⟨by rw [hl]; exact hs, by rw [hl]; exact hf⟩, fun u G => ?_⟩
    have a1 := (G.cell (p := ⟨_, _, none⟩) (lt_of_cell a0)).trans a0
    have hg : g < u.heap.size := lt_of_cell a1
    have h1 : ¬ (k : Int) < 0 := by omega
    have h2 : (k : Int) < (E.lists.length : Int) := by omega
    clear h0 a0 G N
    go_enter Tryz.func49, Tryz.ntmps49
    go_wp2
    go_ret
    exact ⟨rfl, galloc (Below.refl _ _) _⟩

set_option maxHeartbeats 1000000 in
theorem count_any (E : Envr) (al : Option Addr) (cl : Nat) (item : Int) (w : World) (N : Nst w al evC E.lists) (hl : (lstO E item).length ≤ 140737488351232) :
    Calls Tryz.prog 27 #[envA al cl E, .int .i64 item] w fun e w' => e = .returned (.agg #[.bool true, .int .i64 ((lstO E item).length : Int)]) ∧ Below w.heap.size w w' := by
  obtain ⟨a, c, L, hc⟩ := listOf_any E al cl item w N
  generalize (lstO E item).length = n at hc hl ⊢
  go_enter Tryz.func27, Tryz.ntmps27
  have B := galloc (galloc (Below.refl w.heap.size w) (.cells #[.slice al E.lists.length cl, .int .i64 E.each, .int .i64 E.at_] 34)) (.cells #[.bool false, .int .i64 0] 51)
  go_wp2_with (first
    | (go_at_call 49; (with_reducible refine (hc _ B).mono ?_); rintro e u ⟨rfl, g0⟩; have B1 := gtrans B g0)
    | (go_at_call 26; (with_reducible refine (cknown_any _ _).mono ?_); rintro e w1 ⟨rfl, g1⟩; have B2 := gtrans B1 g1; have g01 := gtrans g0 g1; obtain ⟨hc0, hf0⟩ := bcell g01))
  refine bodyPost_ret (v := .agg #[.bool true, .int .i64 (n : Int)]) (by simp [results, Tryz.results27, go_sem, hc0]) rfl ⟨rfl, ?_⟩
  exact gset (gset B2 (by simp) _) (by simp) _

set_option maxHeartbeats 1000000 in
theorem place_any (ac : Option Addr) (cc : Nat) (col : List Int) (typ : Int) (w : World) (hf : Flat w ac (fl intC col)) (hl : col.length ≤ 140737488351232) :
    Calls Tryz.prog 30 #[.slice ac col.length cc, .int .i64 typ] w fun e w' => e = .returned (.int .i64 (plcO col typ)) ∧ w = w' := by
  by_cases h0 : typ < 0
  · have : plcO col typ = -1 := if_pos (.inl h0)
    rw [this]
    go_enter Tryz.func30, Tryz.ntmps30
    go_wp2
    go_ret
    exact ⟨rfl, rfl⟩
  by_cases h1 : (col.length : Int) ≤ typ
  · have : plcO col typ = -1 := if_pos (.inr h1)
    rw [this]
    go_enter Tryz.func30, Tryz.ntmps30
    go_wp2
    go_ret
    exact ⟨rfl, rfl⟩
  · obtain ⟨k, rfl⟩ : ∃ k : Nat, typ = k := ⟨typ.toNat, by omega⟩
    have hk : k < col.length := by omega
    have : plcO col (k : Int) = col.getD k 0 := if_neg (by omega)
    rw [this]
    have e1 := fl_at intC_sz 0 col k 0 hk (by omega)
    obtain ⟨g, o, rfl, hg, hc⟩ := hf.form (by rw [fl_len intC_sz]; omega)
    rw [Nat.mul_one, Nat.add_zero] at e1
    have a0 := hc k (.int .i64 (col.getD k 0)) e1
    have h2 : (k : Int) < (col.length : Int) := by omega
    generalize col.getD k 0 = z at a0 ⊢
    clear e1 hc hf this
    go_enter Tryz.func30, Tryz.ntmps30
    go_wp2
    go_ret
    exact ⟨rfl, rfl⟩

set_option maxHeartbeats 1000000 in
theorem opOf_any (c : Int) (w : World) (h0 : 0 < c) (h1 : c < 27) :
    Calls Tryz.prog 29 #[.int .i64 c] w fun e w' => e = .returned (.int .i64 (opI c)) ∧ w = w' := by
  by_cases h2 : c = 2
  · subst h2
    go_enter Tryz.func29, Tryz.ntmps29
    go_wp2
    go_ret
    exact ⟨rfl, rfl⟩
  by_cases h3 : c = 3
  · subst h3
    go_enter Tryz.func29, Tryz.ntmps29
    go_wp2
    go_ret
    exact ⟨rfl, rfl⟩
  have e2 : (c == 2) = false := beq_eq_false_iff_ne.2 h2
  have e3 : (c == 3) = false := beq_eq_false_iff_ne.2 h3
  by_cases h9 : c ≤ 9
  · have : opI c = 6 + (c - 5) := by unfold opI; rw [if_neg h2, if_neg h3, if_pos h9]; omega
    rw [this]
    go_enter Tryz.func29, Tryz.ntmps29
    go_wp2
    go_ret
    exact ⟨rfl, rfl⟩
  · have : opI c = 14 + (c - 12) := by unfold opI; rw [if_neg h2, if_neg h3, if_neg h9]; omega
    rw [this]
    go_enter Tryz.func29, Tryz.ntmps29
    go_wp2
    go_ret
    exact ⟨rfl, rfl⟩

set_option maxHeartbeats 1000000 in
theorem jumps_any (c : Int) (x : V2) (w : World) :
    Calls Tryz.prog 33 #[.int .i64 c, VA x] w fun e w' => e = .returned (.bool (jmpB c x)) ∧ Below w.heap.size w w' := by
  obtain ⟨k, n⟩ := x
  cases k
  · show Calls _ _ _ _ fun e w' => e = .returned (.bool false) ∧ _
    go_enter Tryz.func33, Tryz.ntmps33
    go_wp2
    go_ret
    exact ⟨rfl, galloc (Below.refl _ _) _⟩
  · show Calls _ _ _ _ fun e w' => e = .returned (.bool ((rd true n == 2) == (c == 26))) ∧ _
    generalize hr : (rd true n == 2) = r
    go_enter Tryz.func33, Tryz.ntmps33
    go_wp2_with (go_at_call 40; (with_reducible refine (true_any true n _).mono ?_); rintro e w0 ⟨rfl, g0⟩; rw [hr])
    go_ret
    exact ⟨rfl, gtrans (galloc (Below.refl _ _) _) g0⟩

/-- The operands' table as the text lays it. -/
structure OpAt (w : World) : Prop where
  sz : 0 < w.heap.size
  at_ : ∀ i : Nat, 0 < i → i < 27 → w.cell? ⟨0, i, none⟩ = some (.int .i64 (ndsI i : Int))
theorem OpAt.keep {w u : World} (h : OpAt w) (G : Below w.heap.size w u) : OpAt u := ⟨Nat.lt_of_lt_of_le h.sz G.size, fun i h0 h1 => (G.cell (p := ⟨_, _, none⟩) h.sz).trans (h.at_ i h0 h1)⟩

set_option maxHeartbeats 1000000 in
theorem isReady_any (c : Int) (n : Nat) (w : World) (hO : OpAt w) :
    Calls Tryz.prog 25 #[.int .i64 c, .int .i64 (n : Int)] w fun e w' => e = .returned (.bool (decide (0 < c ∧ c < 27 ∧ ndsI c ≤ n))) ∧ w = w' := by
  by_cases h0 : 0 < c
  · by_cases h1 : c < 27
    · obtain ⟨k, rfl⟩ : ∃ k : Nat, c = k := ⟨c.toNat, by omega⟩
      have a0 := hO.at_ k (by omega) (by omega)
      have hz := hO.sz
      generalize ndsI (k : Int) = m at a0 ⊢
      by_cases h2 : m ≤ n
      · have h3 : (m : Int) ≤ (n : Int) := by omega
        rw [decide_eq_true (show 0 < (k : Int) ∧ (k : Int) < 27 ∧ m ≤ n from ⟨h0, h1, h2⟩)]
        clear h2
        go_enter Tryz.func25, Tryz.ntmps25
        go_wp2
        go_ret
        exact ⟨rfl, rfl⟩
      · have h3 : ¬ (m : Int) ≤ (n : Int) := by omega
        rw [decide_eq_false (show ¬ (0 < (k : Int) ∧ (k : Int) < 27 ∧ m ≤ n) from fun h => h2 h.2.2)]
        clear h2
        go_enter Tryz.func25, Tryz.ntmps25
        go_wp2
        go_ret
        exact ⟨rfl, rfl⟩
    · rw [decide_eq_false (show ¬ (0 < c ∧ c < 27 ∧ ndsI c ≤ n) from fun h => h1 h.2.1)]
      go_enter Tryz.func25, Tryz.ntmps25
      go_wp2
      go_ret
      exact ⟨rfl, rfl⟩
  · rw [decide_eq_false (show ¬ (0 < c ∧ c < 27 ∧ ndsI c ≤ n) from fun h => h0 h.1)]
    go_enter Tryz.func25, Tryz.ntmps25
    go_wp2
    go_ret
    exact ⟨rfl, rfl⟩

end Go.Proofs.YtnolbpekdikamaaGreatDoor
namespace Go.Proofs.YtnolbpekdikamaaGreatDoor
open Go.RowKit Go.BigFrame
set_option linter.unusedVariables false
set_option linter.unusedSimpArgs false

/-- A column's place, bound. -/
abbrev plcF (ac : Option Addr) (n c : Nat) : Value := .func (.func 30) #[.slice ac n c] #[]
theorem ev_ats (e : Ev) (j : Nat) (hj : j < 8) (w : World) (T : TypeId) : (w.alloc (.cells (evC e) T)).cell? ⟨w.heap.size, 3 + j, none⟩ = some (.int .i64 (e.at j)) := by
  rw [World.cell?_alloc_new]
  have := evC_at e j hj
  simpa using this

set_option maxRecDepth 100000 in
set_option maxHeartbeats 2000000 in
theorem read_any' (ac : Option Addr) (cc : Nat) (col : List Int) (e : Ev) (w : World) (hf : Flat w ac (fl intC col)) (hl : col.length ≤ 140737488351232) :
    Calls Tryz.prog 75 #[plcF ac col.length cc, .agg (evC e)] w fun r w' => r = .returned (VA (rdE (plcO col) e)) ∧ Below w.heap.size w w' := by
  have B := galloc (galloc (Below.refl w.heap.size w) (.cells (evC e) 75)) (.cells #[.bool false, .int .i64 0] 51)
  have hp := place_any ac cc col e.typ _ (hf.keep B) hl
  unfold rdE
  generalize plcO col e.typ = pl at hp ⊢
  by_cases h2 : pl = -2
  · subst h2
    rw [show rdP (-2) e = (true, e.ts) from rfl]
    go_enter Tryz.func75, Tryz.ntmps75
    unfold evC at B hp ⊢
    go_wp2_with (first
      | (go_at_call 30; (with_reducible refine hp.mono ?_); rintro _ _ ⟨rfl, rfl⟩)
      | (go_at_call 26; (with_reducible refine (cknown_any _ _).mono ?_); rintro _ w1 ⟨rfl, g1⟩; have B2 := gtrans B g1; obtain ⟨hc0, hf0⟩ := bcell g1))
    refine bodyPost_ret (v := .agg #[.bool true, .int .i64 e.ts]) (by simp [results, Tryz.results75, go_sem, hc0]) rfl ⟨rfl, ?_⟩
    exact gset (gset B2 (by simp) _) (by simp) _
  have q2 : (pl == -2) = false := beq_eq_false_iff_ne.2 h2
  by_cases h3 : 0 ≤ pl ∧ pl < 8
  · obtain ⟨j, rfl⟩ : ∃ j : Nat, pl = j := ⟨pl.toNat, by omega⟩
    have hj : j < 8 := by omega
    obtain ⟨h30, h31⟩ := h3
    have e1 : rdP (j : Int) e = (true, e.at j) := by unfold rdP; rw [if_neg h2, if_pos ⟨h30, h31⟩]; rfl
    rw [e1]
    clear h2 e1 h30 h31
    rcases (show j = 0 ∨ j = 1 ∨ j = 2 ∨ j = 3 ∨ j = 4 ∨ j = 5 ∨ j = 6 ∨ j = 7 from by omega) with rfl | rfl | rfl | rfl | rfl | rfl | rfl | rfl
    all_goals
      go_enter Tryz.func75, Tryz.ntmps75
      unfold evC at B hp ⊢
      go_wp2_with (first
        | (go_at_call 30; (with_reducible refine hp.mono ?_); rintro _ _ ⟨rfl, rfl⟩)
        | (go_at_call 26; (with_reducible refine (cknown_any _ _).mono ?_); rintro _ w1 ⟨rfl, g1⟩; have B2 := gtrans B g1; obtain ⟨hc0, hf0⟩ := bcell g1))
      refine bodyPost_ret (v := .agg #[.bool true, .int .i64 _]) (by simp [results, Tryz.results75, go_sem, hc0]; first | rfl | done) rfl ⟨rfl, ?_⟩
      exact gset (gset B2 (by simp) _) (by simp) _
  · have e1 : rdP pl e = noV2 := by unfold rdP; rw [if_neg h2, if_neg h3]
    rw [e1]
    by_cases h4 : 0 ≤ pl
    · have h5 : ¬ pl < 8 := fun h => h3 ⟨h4, h⟩
      go_enter Tryz.func75, Tryz.ntmps75
      unfold evC at B hp ⊢
      clear h2 e1 h3
      go_wp2_with (first
        | (go_at_call 30; (with_reducible refine hp.mono ?_); rintro _ _ ⟨rfl, rfl⟩))
      refine bodyPost_ret (v := .agg #[.bool false, .int .i64 0]) (by simp [results, Tryz.results75, go_sem]) rfl ⟨rfl, ?_⟩
      first | exact B | exact gset (gset B (by simp) _) (by simp) _
    · go_enter Tryz.func75, Tryz.ntmps75
      unfold evC at B hp ⊢
      clear h2 e1 h3
      go_wp2_with (first
        | (go_at_call 30; (with_reducible refine hp.mono ?_); rintro _ _ ⟨rfl, rfl⟩))
      refine bodyPost_ret (v := .agg #[.bool false, .int .i64 0]) (by simp [results, Tryz.results75, go_sem]) rfl ⟨rfl, ?_⟩
      first | exact B | exact gset (gset B (by simp) _) (by simp) _

/-- The cells of an event of a row. -/
structure EvAt (w : World) (g o : Nat) (e : Ev) : Prop where
  c0 : w.cell? ⟨g, o, none⟩ = some (.int .i64 e.ts)
  c1 : w.cell? ⟨g, o + 1, none⟩ = some (.int .u64 e.id)
  c2 : w.cell? ⟨g, o + 2, none⟩ = some (.int .i64 e.typ)
  c3 : w.cell? ⟨g, o + 3, none⟩ = some (.int .i64 e.a0)
  c4 : w.cell? ⟨g, o + 4, none⟩ = some (.int .i64 e.a1)
  c5 : w.cell? ⟨g, o + 5, none⟩ = some (.int .i64 e.a2)
  c6 : w.cell? ⟨g, o + 6, none⟩ = some (.int .i64 e.a3)
  c7 : w.cell? ⟨g, o + 7, none⟩ = some (.int .i64 e.a4)
  c8 : w.cell? ⟨g, o + 8, none⟩ = some (.int .i64 e.a5)
  c9 : w.cell? ⟨g, o + 9, none⟩ = some (.int .i64 e.a6)
  c10 : w.cell? ⟨g, o + 10, none⟩ = some (.int .i64 e.a7)
theorem ev_at {w : World} {g o : Nat} {l : List Ev} (h : ∀ j u, (fl evC l)[j]? = some u → w.cell? ⟨g, o + j, none⟩ = some u) (k : Nat) (hk : k < l.length) : EvAt w g (o + k * 11) (l.getD k zeroE) := by
  have key : ∀ j u, j < 11 → (evC (l.getD k zeroE)).toList[j]? = some u → w.cell? ⟨g, o + k * 11 + j, none⟩ = some u := fun j u hj hu => by
    rw [Nat.add_assoc]
    exact h _ _ ((fl_at evC_sz zeroE l k j hk hj).trans hu)
  exact ⟨key 0 _ (by omega) rfl, key 1 _ (by omega) rfl, key 2 _ (by omega) rfl, key 3 _ (by omega) rfl, key 4 _ (by omega) rfl, key 5 _ (by omega) rfl, key 6 _ (by omega) rfl, key 7 _ (by omega) rfl, key 8 _ (by omega) rfl, key 9 _ (by omega) rfl, key 10 _ (by omega) rfl⟩

set_option maxRecDepth 100000 in
set_option maxHeartbeats 2000000 in
theorem readAt_any (ac : Option Addr) (cc : Nat) (col : List Int) (a : Option Addr) (c : Nat) (l : List Ev) (p : Int) (w : World) (hf : Flat w ac (fl intC col)) (hl : col.length ≤ 140737488351232) (hA : Flat w a (fl evC l)) (hn : l.length * 88 ≤ 140737488351232) :
    Calls Tryz.prog 50 #[plcF ac col.length cc, .slice a l.length c, .int .i64 p] w fun r w' => r = .returned (VA (sayV (plcO col) l p)) ∧ Below w.heap.size w w' := by
  have B := galloc (Below.refl w.heap.size w) (.cells #[.bool false, .int .i64 0] 51)
  by_cases h0 : p < 0
  · rw [show sayV (plcO col) l p = noV2 from if_pos (.inl h0)]
    go_enter Tryz.func50, Tryz.ntmps50
    go_wp2
    exact bodyPost_ret (v := .agg #[.bool false, .int .i64 0]) (by simp [results, Tryz.results50, go_sem]) rfl ⟨rfl, by first | exact B | exact gset (gset B (by simp) _) (by simp) _⟩
  by_cases h1 : (l.length : Int) ≤ p
  · rw [show sayV (plcO col) l p = noV2 from if_pos (.inr h1)]
    go_enter Tryz.func50, Tryz.ntmps50
    go_wp2
    exact bodyPost_ret (v := .agg #[.bool false, .int .i64 0]) (by simp [results, Tryz.results50, go_sem]) rfl ⟨rfl, by first | exact B | exact gset (gset B (by simp) _) (by simp) _⟩
  obtain ⟨k, rfl⟩ : ∃ k : Nat, p = k := ⟨p.toNat, by omega⟩
  have hk : k < l.length := by omega
  have hki : (k : Int) < (l.length : Int) := by omega
  have e1 : sayV (plcO col) l (k : Int) = rdE (plcO col) (l.getD k zeroE) := if_neg (by omega)
  rw [e1]
  obtain ⟨g, o, rfl, hg, hcc⟩ := hA.form (by rw [fl_len evC_sz]; omega)
  have A := ev_at hcc k hk
  generalize l.getD k zeroE = ev at A ⊢
  have hr := read_any' ac cc col ev _ (hf.keep B) hl
  obtain ⟨c0, c1, c2, c3, c4, c5, c6, c7, c8, c9, c10⟩ := A
  generalize rdE (plcO col) ev = x at hr ⊢
  unfold evC at hr
  clear hcc hA e1
  go_enter Tryz.func50, Tryz.ntmps50
  go_wp2_with (first
    | (go_at_call 75; (with_reducible refine hr.mono ?_); rintro _ w1 ⟨rfl, g1⟩; have B2 := gtrans B g1; obtain ⟨hc0, hf0⟩ := bcell g1))
  refine bodyPost_ret (v := VA x) (by simp [results, Tryz.results50, go_sem, hc0]) rfl ⟨rfl, ?_⟩
  exact gset (gset B2 (by simp) _) (by simp) _

end Go.Proofs.YtnolbpekdikamaaGreatDoor
namespace Go.Proofs.YtnolbpekdikamaaGreatDoor
open Go.RowKit Go.BigFrame
set_option linter.unusedVariables false
set_option linter.unusedSimpArgs false

theorem run_make_cap {P : Program} (t e : TypeId) {z : Value} {sz by_ : Nat} (ht : P.underlying t = some (.slice e)) (nf : (P.info? e).map (fun i => (i.zero, i.size, i.bytes)) = some (some z, sz, by_)) (n : Nat) (hb : by_ * n ≤ 281474976710656) (h63 : n ≤ 9223372036854775807) :
    ∃ M : Array Value, M.size = n * sz ∧ ∀ w : World, (Instr.makeSlice t (.int .i64 0) (.int .i64 (n : Int))).run P w = .ok (.slice (some ⟨w.heap.size, 0, none⟩) 0 n) (w.alloc (.cells M e)) := by
  obtain ⟨i, hi, hz, hs, hby⟩ := nf_info nf
  subst hs hby
  have hb' : (i.bytes : Int) * (n : Int) ≤ 281474976710656 := by
    have h : ((i.bytes * n : Nat) : Int) ≤ 281474976710656 := by omega
    rwa [Int.natCast_mul] at h
  refine ⟨madeCells z.cells (n * i.size), size_madeCells _ _, fun w => ?_⟩
  have hr := run_make (P := P) w t e i z ht hi hz .i64 .i64 0 n (by omega) (by omega) hb' (by omega)
  simpa using hr

end Go.Proofs.YtnolbpekdikamaaGreatDoor
