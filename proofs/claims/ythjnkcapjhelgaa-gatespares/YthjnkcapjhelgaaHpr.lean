/- Rows of one's own: an element read, an element written over, one more appended up to what growing bears. -/
import Derived.Test.YthjnkcapjhelgaaRw0
import Derived.Deep.MidRow
import Derived.Deep.DeepAppendWide
import Derived.Deep.DeepAppendRoom
namespace Go.Proofs.Ythjnkcapjhelgaa
open Go.RowKit Go.BigFrame
set_option linter.unusedVariables false
set_option linter.unusedSimpArgs false

def setL (xs : List Value) (o : Nat) : List Value → List Value
  | [] => xs
  | v :: vs => setL (xs.set o v) (o + 1) vs
theorem own_setCells {base g cap n : Nat} {e : TypeId} {size : Nat} : ∀ (vs : List Value) (o : Nat) (w : World) (xs : List Value), w.ownsRow base e size (.slice (some ⟨g, 0, none⟩) n cap) n xs → (w.setCells g o vs).ownsRow base e size (.slice (some ⟨g, 0, none⟩) n cap) n (setL xs o vs)
  | [], _, _, _, h => h
  | v :: vs, o, w, xs, h => own_setCells vs (o + 1) _ _ (h.stored o v).1
theorem setCells_blk (g : Nat) : ∀ (vs : List Value) (o : Nat) (w : World) (k : Nat), k ≠ g → (w.setCells g o vs).heap[k]? = w.heap[k]?
  | [], _, _, _, _ => rfl
  | v :: vs, o, w, k, h => (setCells_blk g vs (o + 1) _ k h).trans (Below.heap_setCell w _ _ k h)
theorem setCells_size (g : Nat) : ∀ (vs : List Value) (o : Nat) (w : World), (w.setCells g o vs).heap.size = w.heap.size
  | [], _, _ => rfl
  | v :: vs, o, w => (setCells_size g vs (o + 1) _).trans (by simp)
theorem setCells_os (g : Nat) : ∀ (vs : List Value) (o : Nat) (w : World), (w.setCells g o vs).os = w.os ∧ (w.setCells g o vs).tape = w.tape ∧ (w.setCells g o vs).output = w.output
  | [], _, _ => ⟨rfl, rfl, rfl⟩
  | v :: vs, o, w => setCells_os g vs (o + 1) (w.setCell ⟨g, o, none⟩ v)
theorem setL_mid : ∀ (vs P A B : List Value), A.length = vs.length → setL (P ++ (A ++ B)) P.length vs = P ++ (vs ++ B)
  | [], P, A, B, h => by
    have : A = [] := List.length_eq_zero_iff.1 h
    subst this
    rfl
  | v :: vs, P, A, B, h => by
    cases A with
    | nil => simp at h
    | cons a A =>
      show setL ((P ++ (a :: A ++ B)).set P.length v) (P.length + 1) vs = _
      have e : (P ++ (a :: A ++ B)).set P.length v = (P ++ [v]) ++ (A ++ B) := by
        rw [List.set_append_right _ _ (Nat.le_refl _), Nat.sub_self]
        simp
      have e2 : P.length + 1 = (P ++ [v]).length := by simp
      rw [e, e2, setL_mid vs (P ++ [v]) A B (by simpa using h)]
      simp
theorem setL_fl {β : Type} {cv : β → Array Value} {sz : Nat} (hc : ∀ x, (cv x).size = sz) (l : List β) (i : Nat) (y : β) (hi : i < l.length) : setL (fl cv l) (i * sz) (cv y).toList = fl cv (l.set i y) := by
  have e1 : l = l.take i ++ (l[i] :: l.drop (i + 1)) := by simp
  have e2 : fl cv l = fl cv (l.take i) ++ ((cv l[i]).toList ++ fl cv (l.drop (i + 1))) := by
    conv => lhs; rw [e1]
    rw [fl_app, fl_cons]
  have e3 : i * sz = (fl cv (l.take i)).length := by
    rw [fl_len hc, List.length_take, Nat.min_eq_left (by omega)]
  have e4 : l.set i y = l.take i ++ (y :: l.drop (i + 1)) := by
    rw [List.set_eq_take_append_cons_drop, if_pos hi]
  rw [e2, e3, setL_mid _ _ _ _ (by simp [hc]), e4, fl_app, fl_cons]
section
variable {β : Type} {cv : β → Array Value} {sz : Nat} {w : World} {base g cap : Nat} {e : TypeId}
theorem own_range (hc : ∀ x, (cv x).size = sz) (z : β) {l : List β} (h : w.ownsRow base e sz (.slice (some ⟨g, 0, none⟩) l.length cap) l.length (fl cv l)) (i : Nat) (hi : i < l.length) : w.rangeAt g (i * sz) (cv (l.getD i z)).toList := fun j v hv => by
  have hj := (List.getElem?_eq_some_iff.1 hv).1
  rw [Array.length_toList, hc] at hj
  have h2 : i * sz + j < l.length * sz := by
    have := Nat.mul_le_mul_right sz (show i + 1 ≤ l.length from hi)
    rw [Nat.add_mul] at this
    omega
  rw [World.ownsRow.cellAt h _ h2, fl_at hc z l i j hi hj, hv]
theorem own_there {n : Nat} {xs : List Value} (h : w.ownsRow base e sz (.slice (some ⟨g, 0, none⟩) n cap) n xs) (i : Nat) (hi : i < n) : w.there g (i * sz) sz := fun j hj => by
  have h2 : i * sz + j < n * sz := by
    have := Nat.mul_le_mul_right sz (show i + 1 ≤ n from hi)
    rw [Nat.add_mul] at this
    omega
  have hx := h.1
  exact ⟨by rw [World.ownsRow.cellAt h _ h2, List.getElem?_eq_getElem (by omega)]; rfl, World.ownsRow.frozenAt h _⟩
theorem own_put (hc : ∀ x, (cv x).size = sz) {l : List β} (h : w.ownsRow base e sz (.slice (some ⟨g, 0, none⟩) l.length cap) l.length (fl cv l)) (i : Nat) (hi : i < l.length) (y : β) : (w.setCells g (i * sz) (cv y).toList).ownsRow base e sz (.slice (some ⟨g, 0, none⟩) (l.set i y).length cap) (l.set i y).length (fl cv (l.set i y)) := by
  have := own_setCells (cv y).toList (i * sz) w _ h
  rw [setL_fl hc l i y hi] at this
  rw [List.length_set]
  exact this
end
theorem Bk.setL {b : Nat} {t : TypeId} : ∀ (vs : List Value) (o : Nat) (w : World) (cs : List Value), Bk w b cs.toArray t → Bk (w.setCells b o vs) b (Go.Proofs.Ythjnkcapjhelgaa.setL cs o vs).toArray t
  | [], _, _, _, h => h
  | v :: vs, o, w, cs, h => Bk.setL vs (o + 1) _ (cs.set o v) (by have := h.set o v; simpa using this)
theorem Bk.setCells {w : World} {b : Nat} {cs cs' : Array Value} {t : TypeId} (h : Bk w b cs t) (hz : cs.size = cs'.size) : Bk (w.setCells b 0 cs'.toList) b cs' t := by
  have h1 := Bk.setL (b := b) (t := t) cs'.toList 0 w cs.toList (by simpa using h)
  have h2 := setL_mid cs'.toList [] cs.toList [] (by simpa using hz)
  simp only [List.nil_append, List.append_nil, List.length_nil] at h2
  rw [h2] at h1
  simpa using h1
theorem Bk.there {w : World} {b : Nat} {cs : Array Value} {t : TypeId} (h : Bk w b cs t) : w.there b 0 cs.size := fun j hj => by
  rw [Nat.zero_add, cell_of_row w b j _ _ _ h]
  exact ⟨by simp [hj], h.free j⟩
theorem gsetCells {a w : World} (h : Below a.heap.size a w) {b : Nat} (hb : a.heap.size ≤ b) : ∀ (vs : List Value) (o : Nat), Below a.heap.size a (w.setCells b o vs)
  | vs, o => by
    have e := setCells_os b vs o w
    exact ⟨e.1.trans h.os, e.2.1.trans h.tape, e.2.2.trans h.output, by rw [setCells_size]; exact h.size, fun k hk => (setCells_blk b vs o w k (by omega)).trans (h.block k hk)⟩
/-- One more element: where the new slice lies. -/
theorem run_append_one {P : Program} {w : World} {TS T : TypeId} {ty : TypeId} {z : Value} {sz by_ : Nat} (hu : P.underlying TS = some (.slice T)) (nf : (P.info? T).map (fun i => (i.zero, i.size, i.bytes)) = some (some z, sz, by_)) (hzs : z.cells.size = sz) (hsz : 0 < sz)
    {v : Value} {base n : Nat} {xs : List Value} (O : w.ownsRow base T sz v n xs) (hb : base ≤ w.heap.size)
    (ad : Addr) (c : Nat) (ys : List Value) (hy : ys.length = sz) (A : ∀ j u, ys[j]? = some u → w.cell? (ad.add j) = some u) (h1 : ∀ u ∈ ys, u.oneCell' = true) (h63 : n + 1 ≤ 9223372036854775807) (hl : ((n + 1) + (n + 1) / 4 + 192) * by_ ≤ 281474976710656) :
    ∃ g cap w', (Builtin.append_ #[TS, TS] ty #[v, .slice (some ad) 1 c]).run P w = .ok (.slice (some ⟨g, 0, none⟩) (n + 1) cap) w' ∧ w'.ownsRow base T sz (.slice (some ⟨g, 0, none⟩) (n + 1) cap) (n + 1) (xs ++ ys) ∧ w.grownBy w' v.ownBlock ∧ (v.ownBlock = some g ∨ g = w.heap.size) := by
  obtain ⟨i, ti, tz0, tz1, tz2⟩ := nf_info nf
  have hm : n + 1 ≤ maxLen := by unfold maxLen; omega
  have hy1 : ys.length = 1 * sz := by omega
  obtain ⟨v', w', hr, h2, h3, h4⟩ := run_append_own_wide (P := P) w base TS ty T i z sz by_ hu ti tz0 tz1 tz2 hzs hsz v n xs O ad 1 c ys hy1 A h1 hm hl hb
  obtain ⟨g, cap, rfl, hbg, hlt⟩ := h2.form (by omega)
  refine ⟨g, cap, w', hr, h2, h3, ?_⟩
  rcases id O.2 with ⟨rfl, rfl⟩ | ⟨g0, cap0, cur, rfl, hbg0, hg0, hnc, hcm, hcs, htake⟩
  · right
    subst tz1
    have hr2 := run_append_nil (P := P) w TS ty T i z hu ti tz0 ad 1 c ys hy1 A (by omega) (by omega) (by subst tz2; omega)
    rw [hr2] at hr
    cases hr
    rfl
  · by_cases hroom : n + 1 ≤ cap0
    · left
      obtain ⟨w2, hr2, _, _⟩ := run_append_own_spare (P := P) w base TS ty T i sz hu ti tz1 g0 n cap0 xs O ad 1 c ys hy1 A h1 hroom
      rw [hr2] at hr
      cases hr
      rfl
    · right
      have hx := O.1
      subst tz1
      have hr2 := run_append_grow (P := P) w TS ty T i z hu ti tz0 ⟨g0, 0, none⟩ n cap0 xs hx (World.ownsRow.cells O (g := g0) rfl) ad 1 c ys hy1 A (by omega) (by omega) (growslice_fits_wide (by omega) (by rw [tz2]; exact hl))
      rw [hr2] at hr
      cases hr
      rfl
/-- A row of one element is made. -/
theorem wpList_build1 {P : Program} {w w' : World} {ops : Array Oper} {rest : List Oper} {o : Oper} {a : Act} {Q : Exit → Act → World → Prop} (hgd : o.guard = none) {T : TypeId} (x : Operand) {vx v : Value} (ho : o.op = .buildSlice T 1 #[(0, x)]) (hx : a.eval x = vx) (hr : (Instr.buildSlice T 1 #[(0, vx)]).run P w = .ok v w')
    (h : wpList P ops Q rest (a.put o.dst v) w') : wpList P ops Q (o :: rest) a w := by
  refine wpList_plain hgd fun K hK => ?_
  unfold Oper.wp execOp
  simp only [ho, List.map_toArray, List.map_cons, List.map_nil, hx, Sem.run_bind, hr, Result.andThen_ok, Sem.run_pure]
  exact hK _ _ h
/-- The same at a list of operations. -/
theorem wpList_append_one {P : Program} {w : World} {ops : Array Oper} {rest : List Oper} {o : Oper} {a : Act} {Q : Exit → Act → World → Prop} (hgd : o.guard = none) (s x : Operand) {TS T : TypeId} {z : Value} {sz by_ : Nat}
    (ho : o.op = .call { callee := .builtin .append, args := #[s, x], argTypes := #[TS, TS] }) (hu : P.underlying TS = some (.slice T)) (nf : (P.info? T).map (fun i => (i.zero, i.size, i.bytes)) = some (some z, sz, by_)) (hzs : z.cells.size = sz) (hsz : 0 < sz)
    (v : Value) (base n : Nat) (xs : List Value) (hs : a.eval s = v) (O : w.ownsRow base T sz v n xs) (hb : base ≤ w.heap.size)
    (ad : Addr) (c : Nat) (ys : List Value) (hx : a.eval x = .slice (some ad) 1 c) (hy : ys.length = sz) (A : ∀ j u, ys[j]? = some u → w.cell? (ad.add j) = some u) (h1 : ∀ u ∈ ys, u.oneCell' = true) (h63 : n + 1 ≤ 9223372036854775807) (hl : ((n + 1) + (n + 1) / 4 + 192) * by_ ≤ 281474976710656)
    (h : ∀ g cap w', w'.ownsRow base T sz (.slice (some ⟨g, 0, none⟩) (n + 1) cap) (n + 1) (xs ++ ys) → w.grownBy w' v.ownBlock → (v.ownBlock = some g ∨ g = w.heap.size) → wpList P ops Q rest (a.put o.dst (.slice (some ⟨g, 0, none⟩) (n + 1) cap)) w') : wpList P ops Q (o :: rest) a w := by
  refine wpList_plain hgd fun K hK => ?_
  obtain ⟨g, cap, w', hr, h2, h3, h4⟩ := run_append_one (P := P) (ty := o.type) hu nf hzs hsz O hb ad c ys hy A h1 h63 hl
  unfold Oper.wp execOp
  simp only [ho, resolve, invoke, builtin, Sem.run_bind, Sem.run_pure, Result.andThen_ok, List.map_toArray, List.map_cons, List.map_nil, hs, hx, hr]
  exact hK _ _ (h g cap w' h2 h3 h4)
/-- append of a whole row onto a row of one's own, up to what growing bears. -/
theorem wpList_append_flatw {P : Program} {w : World} {ops : Array Oper} {rest : List Oper} {o : Oper} {a : Act} {Q : Exit → Act → World → Prop} (hgd : o.guard = none) (s x : Operand) {TS T : TypeId} {z : Value} {sz by_ : Nat}
    (ho : o.op = .call { callee := .builtin .append, args := #[s, x], argTypes := #[TS, TS] }) (hu : P.underlying TS = some (.slice T)) (nf : (P.info? T).map (fun i => (i.zero, i.size, i.bytes)) = some (some z, sz, by_)) (hzs : z.cells.size = sz) (hsz : 0 < sz)
    (v : Value) (base n : Nat) (xs : List Value) (hs : a.eval s = v) (O : w.ownsRow base T sz v n xs) (hb : base ≤ w.heap.size)
    (ao : Option Addr) (m cap : Nat) (ys : List Value) (hx : a.eval x = .slice ao m cap) (hsl : Sl ao m cap) (A : Flat w ao ys) (hy : ys.length = m * sz) (h1 : ∀ u ∈ ys, u.oneCell' = true) (hl : ((n + m) + (n + m) / 4 + 192) * by_ ≤ 281474976710656) (hl2 : n + m ≤ 9223372036854775807)
    (h : ∀ v' w', w'.ownsRow base T sz v' (n + m) (xs ++ ys) → w.grownBy w' v.ownBlock → wpList P ops Q rest (a.put o.dst v') w') : wpList P ops Q (o :: rest) a w := by
  obtain ⟨i3, ti, tz0, tz1, tz2⟩ := nf_info nf
  cases ao with
  | none =>
    obtain ⟨h0, rfl⟩ := hsl.2 rfl
    subst h0
    have hys : ys = [] := List.length_eq_zero_iff.1 (by omega)
    subst hys
    refine wpList_plain hgd fun K hK' => ?_
    have hrun := run_append_owned_none (P := P) w base TS o.type T i3 sz hu ti v n xs O
    unfold Oper.wp
    simp [execOp, ho, resolve, invoke, builtin, hs, hx, hrun, Result.andThen]
    refine hK' _ _ (h _ _ ?_ (World.grownBy.refl _ _))
    rw [List.append_nil]
    exact O
  | some ad =>
    refine wpList_append_own_wide (w := w) hgd s x TS ho base T i3 z sz by_ hu ti tz0 tz1 tz2 hzs hsz v n xs hs O ad m cap ys hx hy (fun j u hj => ?_) h1 (by unfold maxLen; omega) hl hb (fun v' w' h1 h2 _ => h v' w' h1 h2)
    obtain ⟨g, off, e, c0⟩ := A j u hj
    cases e
    rw [Go.WideShapes.add_plain]
    exact c0

end Go.Proofs.Ythjnkcapjhelgaa
