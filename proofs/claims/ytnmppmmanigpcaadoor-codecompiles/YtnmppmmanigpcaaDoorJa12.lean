/- Rows of one's own: an element read, an element written over, one more appended up to what growing bears. And what goes with it: 3 texts in one. -/
import Derived.Test.YtnmppmmanigpcaaDoorJa11
import Derived.Deep.MidRow
import Derived.Deep.DeepAppendWide
import Derived.Deep.DeepAppendRoom
import Derived.OrdersHeld
namespace Go.Proofs.YtnmppmmanigpcaaDoor
open Go.RowKit Go.BigFrame
set_option linter.unusedVariables false
set_option linter.unusedSimpArgs false

def setL (xs : List Value) (o : Nat) : List Value → List Value
  | [] => xs
  | v :: vs => setL (xs.set o v) (o + 1) vs
theorem own_setCells {base g cap n : Nat} {e : TypeId} {size : Nat} : ∀ (vs : List Value) (o : Nat) (w : World) (xs : List Value), w.ownsRow base e size (.slice (some ⟨g, 0, none⟩) n cap) n xs → (w.setCells g o vs).ownsRow base e size (.slice (some ⟨g, 0, none⟩) n cap) n (setL xs o vs)
  | [], _, _, _, h => h
  | v :: vs, o, w, xs, h => own_setCells vs (o + 1) _ _ (h.stored o v).1
theorem setCells_blk (g : Nat) : ∀ (vs : List Value) (o : Nat) (w : World) (k : Nat), k ≠ g → (w.setCells g o vs).heap[k]? = w.heap[k]?
  | [], _, _, _, _ => rfl
  | v :: vs, o, w, k, h => (setCells_blk g vs (o + 1) _ k h).trans (Below.heap_setCell w _ _ k h)
theorem setCells_size (g : Nat) : ∀ (vs : List Value) (o : Nat) (w : World), (w.setCells g o vs).heap.size = w.heap.size
  | [], _, _ => rfl
  | v :: vs, o, w => (setCells_size g vs (o + 1) _).trans (by simp)
theorem setCells_os (g : Nat) : ∀ (vs : List Value) (o : Nat) (w : World), (w.setCells g o vs).os = w.os ∧ (w.setCells g o vs).tape = w.tape ∧ (w.setCells g o vs).output = w.output
  | [], _, _ => ⟨rfl, rfl, rfl⟩
  | v :: vs, o, w => setCells_os g vs (o + 1) (w.setCell ⟨g, o, none⟩ v)
theorem setL_mid : ∀ (vs P A B : List Value), A.length = vs.length → setL (P ++ (A ++ B)) P.length vs = P ++ (vs ++ B)
  | [], P, A, B, h => by
    have : A = [] := List.length_eq_zero_iff.1 h
    subst this
    rfl
  | v :: vs, P, A, B, h => by
    cases A with
    | nil => simp at h
    | cons a A =>
      show setL ((P ++ (a :: A ++ B)).set P.length v) (P.length + 1) vs = _
      have e : (P ++ (a :: A ++ B)).set P.length v = (P ++ [v]) ++ (A ++ B) := by
        rw [List.set_append_right _ _ (Nat.le_refl _), Nat.sub_self]
        simp
      have e2 : P.length + 1 = (P ++ [v]).length := by simp
      rw [e, e2, setL_mid vs (P ++ [v]) A B (by simpa using h)]
      simp
theorem setL_fl {β : Type} {cv : β → Array Value} {sz : Nat} (hc : ∀ x, (cv x).size = sz) (l : List β) (i : Nat) (y : β) (hi : i < l.length) : setL (fl cv l) (i * sz) (cv y).toList = fl cv (l.set i y) := by
  have e1 : l = l.take i ++ (l[i] :: l.drop (i + 1)) := by simp
  have e2 : fl cv l = fl cv (l.take i) ++ ((cv l[i]).toList ++ fl cv (l.drop (i + 1))) := by
    conv => lhs; rw [e1]
    rw [fl_app, fl_cons]
  have e3 : i * sz = (fl cv (l.take i)).length := by
    rw [fl_len hc, List.length_take, Nat.min_eq_left (by omega)]
  have e4 : l.set i y = l.take i ++ (y :: l.drop (i + 1)) := by
    rw [List.set_eq_take_append_cons_drop, if_pos hi]
  rw [e2, e3, setL_mid _ _ _ _ (by simp [hc]), e4, fl_app, fl_cons]
section
variable {β : Type} {cv : β → Array Value} {sz : Nat} {w : World} {base g cap : Nat} {e : TypeId}
theorem own_range (hc : ∀ x, (cv x).size = sz) (z : β) {l : List β} (h : w.ownsRow base e sz (.slice (some ⟨g, 0, none⟩) l.length cap) l.length (fl cv l)) (i : Nat) (hi : i < l.length) : w.rangeAt g (i * sz) (cv (l.getD i z)).toList := fun j v hv => by
  have hj := (List.getElem?_eq_some_iff.1 hv).1
  rw [Array.length_toList, hc] at hj
  have h2 : i * sz + j < l.length * sz := by
    have := Nat.mul_le_mul_right sz (show i + 1 ≤ l.length from hi)
    rw [Nat.add_mul] at this
    omega
  rw [World.ownsRow.cellAt h _ h2, fl_at hc z l i j hi hj, hv]
theorem own_there {n : Nat} {xs : List Value} (h : w.ownsRow base e sz (.slice (some ⟨g, 0, none⟩) n cap) n xs) (i : Nat) (hi : i < n) : w.there g (i * sz) sz := fun j hj => by
  have h2 : i * sz + j < n * sz := by
    have := Nat.mul_le_mul_right sz (show i + 1 ≤ n from hi)
    rw [Nat.add_mul] at this
    omega
  have hx := h.1
  exact ⟨by rw [World.ownsRow.cellAt h _ h2, List.getElem?_eq_getElem (by omega)]; rfl, World.ownsRow.frozenAt h _⟩
theorem own_put (hc : ∀ x, (cv x).size = sz) {l : List β} (h : w.ownsRow base e sz (.slice (some ⟨g, 0, none⟩) l.length cap) l.length (fl cv l)) (i : Nat) (hi : i < l.length) (y : β) : (w.setCells g (i * sz) (cv y).toList).ownsRow base e sz (.slice (some ⟨g, 0, none⟩) (l.set i y).length cap) (l.set i y).length (fl cv (l.set i y)) := by
  have := own_setCells (cv y).toList (i * sz) w _ h
  rw [setL_fl hc l i y hi] at this
  rw [List.length_set]
  exact this
end
theorem Bk.setL {b : Nat} {t : TypeId} : ∀ (vs : List Value) (o : Nat) (w : World) (cs : List Value), Bk w b cs.toArray t → Bk (w.setCells b o vs) b (Go.Proofs.YtnmppmmanigpcaaDoor.setL cs o vs).toArray t
  | [], _, _, _, h => h
  | v :: vs, o, w, cs, h => Bk.setL vs (o + 1) _ (cs.set o v) (by have := h.set o v; simpa using this)
theorem Bk.setCells {w : World} {b : Nat} {cs cs' : Array Value} {t : TypeId} (h : Bk w b cs t) (hz : cs.size = cs'.size) : Bk (w.setCells b 0 cs'.toList) b cs' t := by
  have h1 := Bk.setL (b := b) (t := t) cs'.toList 0 w cs.toList (by simpa using h)
  have h2 := setL_mid cs'.toList [] cs.toList [] (by simpa using hz)
  simp only [List.nil_append, List.append_nil, List.length_nil] at h2
  rw [h2] at h1
  simpa using h1
theorem Bk.there {w : World} {b : Nat} {cs : Array Value} {t : TypeId} (h : Bk w b cs t) : w.there b 0 cs.size := fun j hj => by
  rw [Nat.zero_add, cell_of_row w b j _ _ _ h]
  exact ⟨by simp [hj], h.free j⟩
theorem gsetCells {a w : World} (h : Below a.heap.size a w) {b : Nat} (hb : a.heap.size ≤ b) : ∀ (vs : List Value) (o : Nat), Below a.heap.size a (w.setCells b o vs)
  | vs, o => by
    have e := setCells_os b vs o w
    exact ⟨e.1.trans h.os, e.2.1.trans h.tape, e.2.2.trans h.output, by rw [setCells_size]; exact h.size, fun k hk => (setCells_blk b vs o w k (by omega)).trans (h.block k hk)⟩
/-- One more element: where the new slice lies. -/
theorem run_append_one {P : Program} {w : World} {TS T : TypeId} {ty : TypeId} {z : Value} {sz by_ : Nat} (hu : P.underlying TS = some (.slice T)) (nf : (P.info? T).map (fun i => (i.zero, i.size, i.bytes)) = some (some z, sz, by_)) (hzs : z.cells.size = sz) (hsz : 0 < sz)
    {v : Value} {base n : Nat} {xs : List Value} (O : w.ownsRow base T sz v n xs) (hb : base ≤ w.heap.size)
    (ad : Addr) (c : Nat) (ys : List Value) (hy : ys.length = sz) (A : ∀ j u, ys[j]? = some u → w.cell? (ad.add j) = some u) (h1 : ∀ u ∈ ys, u.oneCell' = true) (h63 : n + 1 ≤ 9223372036854775807) (hl : ((n + 1) + (n + 1) / 4 + 192) * by_ ≤ 281474976710656) :
    ∃ g cap w', (Builtin.append_ #[TS, TS] ty #[v, .slice (some ad) 1 c]).run P w = .ok (.slice (some ⟨g, 0, none⟩) (n + 1) cap) w' ∧ w'.ownsRow base T sz (.slice (some ⟨g, 0, none⟩) (n + 1) cap) (n + 1) (xs ++ ys) ∧ w.grownBy w' v.ownBlock ∧ (v.ownBlock = some g ∨ g = w.heap.size) := by
  obtain ⟨i, ti, tz0, tz1, tz2⟩ := nf_info nf
  have hm : n + 1 ≤ maxLen := by unfold maxLen; omega
  have hy1 : ys.length = 1 * sz := by omega
  obtain ⟨v', w', hr, h2, h3, h4⟩ := run_append_own_wide (P := P) w base TS ty T i z sz by_ hu ti tz0 tz1 tz2 hzs hsz v n xs O ad 1 c ys hy1 A h1 hm hl hb
  obtain ⟨g, cap, rfl, hbg, hlt⟩ := h2.form (by omega)
  refine ⟨g, cap, w', hr, h2, h3, ?_⟩
  rcases id O.2 with ⟨rfl, rfl⟩ | ⟨g0, cap0, cur, rfl, hbg0, hg0, hnc, hcm, hcs, htake⟩
  · right
    subst tz1
    have hr2 := run_append_nil (P := P) w TS ty T i z hu ti tz0 ad 1 c ys hy1 A (by omega) (by omega) (by subst tz2; omega)
    rw [hr2] at hr
    cases hr
    rfl
  · by_cases hroom : n + 1 ≤ cap0
    · left
      obtain ⟨w2, hr2, _, _⟩ := run_append_own_spare (P := P) w base TS ty T i sz hu ti tz1 g0 n cap0 xs O ad 1 c ys hy1 A h1 hroom
      rw [hr2] at hr
      cases hr
      rfl
    · right
      have hx := O.1
      subst tz1
      have hr2 := run_append_grow (P := P) w TS ty T i z hu ti tz0 ⟨g0, 0, none⟩ n cap0 xs hx (World.ownsRow.cells O (g := g0) rfl) ad 1 c ys hy1 A (by omega) (by omega) (growslice_fits_wide (by omega) (by rw [tz2]; exact hl))
      rw [hr2] at hr
      cases hr
      rfl
/-- A row of one element is made. -/
theorem wpList_build1 {P : Program} {w w' : World} {ops : Array Oper} {rest : List Oper} {o : Oper} {a : Act} {Q : Exit → Act → World → Prop} (hgd : o.guard = none) {T : TypeId} (x : Operand) {vx v : Value} (ho : o.op = .buildSlice T 1 #[(0, x)]) (hx : a.eval x = vx) (hr : (Instr.buildSlice T 1 #[(0, vx)]).run P w = .ok v w')
    (h : wpList P ops Q rest (a.put o.dst v) w') : wpList P ops Q (o :: rest) a w := by
  refine wpList_plain hgd fun K hK => ?_
  unfold Oper.wp execOp
  simp only [ho, List.map_toArray, List.map_cons, List.map_nil, hx, Sem.run_bind, hr, Result.andThen_ok, Sem.run_pure]
  exact hK _ _ h
/-- The same at a list of operations. -/
theorem wpList_append_one {P : Program} {w : World} {ops : Array Oper} {rest : List Oper} {o : Oper} {a : Act} {Q : Exit → Act → World → Prop} (hgd : o.guard = none) (s x : Operand) {TS T : TypeId} {z : Value} {sz by_ : Nat}
    (ho : o.op = .call { callee := .builtin .append, args := #[s, x], argTypes := #[TS, TS] }) (hu : P.underlying TS = some (.slice T)) (nf : (P.info? T).map (fun i => (i.zero, i.size, i.bytes)) = some (some z, sz, by_)) (hzs : z.cells.size = sz) (hsz : 0 < sz)
    (v : Value) (base n : Nat) (xs : List Value) (hs : a.eval s = v) (O : w.ownsRow base T sz v n xs) (hb : base ≤ w.heap.size)
    (ad : Addr) (c : Nat) (ys : List Value) (hx : a.eval x = .slice (some ad) 1 c) (hy : ys.length = sz) (A : ∀ j u, ys[j]? = some u → w.cell? (ad.add j) = some u) (h1 : ∀ u ∈ ys, u.oneCell' = true) (h63 : n + 1 ≤ 9223372036854775807) (hl : ((n + 1) + (n + 1) / 4 + 192) * by_ ≤ 281474976710656)
    (h : ∀ g cap w', w'.ownsRow base T sz (.slice (some ⟨g, 0, none⟩) (n + 1) cap) (n + 1) (xs ++ ys) → w.grownBy w' v.ownBlock → (v.ownBlock = some g ∨ g = w.heap.size) → wpList P ops Q rest (a.put o.dst (.slice (some ⟨g, 0, none⟩) (n + 1) cap)) w') : wpList P ops Q (o :: rest) a w := by
  refine wpList_plain hgd fun K hK => ?_
  obtain ⟨g, cap, w', hr, h2, h3, h4⟩ := run_append_one (P := P) (ty := o.type) hu nf hzs hsz O hb ad c ys hy A h1 h63 hl
  unfold Oper.wp execOp
  simp only [ho, resolve, invoke, builtin, Sem.run_bind, Sem.run_pure, Result.andThen_ok, List.map_toArray, List.map_cons, List.map_nil, hs, hx, hr]
  exact hK _ _ (h g cap w' h2 h3 h4)
/-- append of a whole row onto a row of one's own, up to what growing bears. -/
theorem wpList_append_flatw {P : Program} {w : World} {ops : Array Oper} {rest : List Oper} {o : Oper} {a : Act} {Q : Exit → Act → World → Prop} (hgd : o.guard = none) (s x : Operand) {TS T : TypeId} {z : Value} {sz by_ : Nat}
    (ho : o.op = .call { callee := .builtin .append, args := #[s, x], argTypes := #[TS, TS] }) (hu : P.underlying TS = some (.slice T)) (nf : (P.info? T).map (fun i => (i.zero, i.size, i.bytes)) = some (some z, sz, by_)) (hzs : z.cells.size = sz) (hsz : 0 < sz)
    (v : Value) (base n : Nat) (xs : List Value) (hs : a.eval s = v) (O : w.ownsRow base T sz v n xs) (hb : base ≤ w.heap.size)
    (ao : Option Addr) (m cap : Nat) (ys : List Value) (hx : a.eval x = .slice ao m cap) (hsl : Sl ao m cap) (A : Flat w ao ys) (hy : ys.length = m * sz) (h1 : ∀ u ∈ ys, u.oneCell' = true) (hl : ((n + m) + (n + m) / 4 + 192) * by_ ≤ 281474976710656) (hl2 : n + m ≤ 9223372036854775807)
    (h : ∀ v' w', w'.ownsRow base T sz v' (n + m) (xs ++ ys) → w.grownBy w' v.ownBlock → wpList P ops Q rest (a.put o.dst v') w') : wpList P ops Q (o :: rest) a w := by
  obtain ⟨i3, ti, tz0, tz1, tz2⟩ := nf_info nf
  cases ao with
  | none =>
    obtain ⟨h0, rfl⟩ := hsl.2 rfl
    subst h0
    have hys : ys = [] := List.length_eq_zero_iff.1 (by omega)
    subst hys
    refine wpList_plain hgd fun K hK' => ?_
    have hrun := run_append_owned_none (P := P) w base TS o.type T i3 sz hu ti v n xs O
    unfold Oper.wp
    simp [execOp, ho, resolve, invoke, builtin, hs, hx, hrun, Result.andThen]
    refine hK' _ _ (h _ _ ?_ (World.grownBy.refl _ _))
    rw [List.append_nil]
    exact O
  | some ad =>
    refine wpList_append_own_wide (w := w) hgd s x TS ho base T i3 z sz by_ hu ti tz0 tz1 tz2 hzs hsz v n xs hs O ad m cap ys hx hy (fun j u hj => ?_) h1 (by unfold maxLen; omega) hl hb (fun v' w' h1 h2 _ => h v' w' h1 h2)
    obtain ⟨g, off, e, c0⟩ := A j u hj
    cases e
    rw [Go.WideShapes.add_plain]
    exact c0

end Go.Proofs.YtnmppmmanigpcaaDoor
namespace Go.Proofs.YtnmppmmanigpcaaDoor
open Go.RowKit
set_option linter.unusedVariables false
set_option linter.unusedSimpArgs false

section
variable {P : Program} {ops : Array Oper} {md : Region.Mode} {C : World → Prop}

/-- Each of the first n operations but f is waited for. -/
def sinkF (md : Region.Mode) (ops : Array Oper) (n f : Nat) : Bool :=
  (List.range n).all fun i => i == f || (List.range (n + 1)).any fun j => decide (i < j) && Region.waitsFor md ops j i
theorem tail_waitsF {n f : Nat} {listed : Array Bool} (hs : sinkF md ops n f = true) (hc : Region.chainB md ops n = true) (hn : n < ops.size) (inv : HeadInv md ops n listed) (hfl : listed.getD f false = true) (t : Nat) (ht : n ≤ t) (hr : t ∈ Region.ready md ops listed) :
    ∀ (d i : Nat), n - i = d → i < n → listed.getD i true = false → False := by
  obtain ⟨_, ot, hot, hall⟩ := mem_ready.1 hr
  have htlt : t < ops.size := (Array.getElem?_eq_some_iff.1 hot).1
  intro d
  induction d using Nat.strongRecOn with
  | _ d ih =>
    intro i hd hi hun
    rcases Nat.lt_or_ge n t with htn | htn
    · have h1 := List.all_eq_true.1 hc t (List.mem_range.2 htlt)
      simp only [Bool.or_eq_true, decide_eq_true_eq] at h1
      rcases h1 with h1 | h1
      · omega
      · obtain ⟨o', ho', e, he, hb, hon⟩ := Region.waitsFor_spec h1
        obtain rfl : o' = ot := Option.some.inj (ho'.symm.trans hot)
        have h2 := hall e he hb
        rw [hon, getD_both (inv.tail (t - 1) (by omega) (by omega))] at h2
        cases h2
    · obtain rfl : t = n := by omega
      have hif : i ≠ f := fun e => by rw [e] at hun; rw [getD_both hun] at hfl; cases hfl
      have h1 := List.all_eq_true.1 hs i (List.mem_range.2 hi)
      simp only [Bool.or_eq_true, beq_iff_eq] at h1
      rcases h1 with h1 | h1
      · exact hif h1
      obtain ⟨j, hj, hj2⟩ := List.any_eq_true.1 h1
      simp only [Bool.and_eq_true, decide_eq_true_eq] at hj2
      obtain ⟨oj, hoj, e, he, hb, hon⟩ := Region.waitsFor_spec hj2.2
      have hjle : j ≤ t := by have := List.mem_range.1 hj; omega
      by_cases hjt : j = t
      · subst hjt
        obtain rfl : oj = ot := Option.some.inj (hoj.symm.trans hot)
        have h2 := hall e he hb
        rw [hon, getD_both hun] at h2
        cases h2
      · cases hl : listed.getD j false with
        | true =>
          have h2 := inv.closed j oj hoj hl e he hb
          rw [hon, getD_both hun] at h2
          cases h2
        | false => exact ih (t - j) (by omega) j rfl (by omega) (getD_in (by rw [inv.size]; omega) hl)
theorem headF_first {n f i : Nat} {oi : Oper} {v : Value} {L : Array Bool → Act → Prop} (hi : ops[i]? = some oi) (hsel : ∀ (j : Nat) (o : Oper) cs b, ops[j]? = some o → o.op ≠ .select cs b)
    (hs : sinkF md ops n f = true) (hc : Region.chainB md ops n = true) (hn : n < ops.size) (hin : i < n)
    (hdone : ∀ listed a, L listed a → ∀ j ∈ Region.ready md ops listed, n ≤ j) (k : Nat) :
    ∀ (listed : Array Bool) (a : Act), HeadInv md ops n listed → listed.getD f false = true →
      (∀ j oj, ops[j]? = some oj → j ≠ i → listed.getD j true = false → (∀ e ∈ oj.after, Region.binds md e = true → e.on ≠ i) → oi.apart ops oj = true) →
      i ∈ Region.ready md ops listed → YieldsIn P ops C oi v a →
      headQ P md ops C n L k (listed.setIfInBounds i true) (a.put oi.dst v) → headQ P md ops C n L (k + 1) listed a := by
  induction k with
  | zero =>
    intro listed a inv hfl _ hr hy H
    refine ⟨fun h => (by rw [h] at hr; cases hr), fun j hj => ?_⟩
    have hjn : j < n := Nat.lt_of_not_le fun h => tail_waitsF hs hc hn inv hfl j h hj _ i rfl hin (mem_ready.1 hr).1
    refine ⟨hjn, ?_⟩
    by_cases hji : j = i
    · subst hji; exact hy.qOp hi H
    · have := hdone _ _ H j (ready_mono hj hji); omega
  | succ k ih =>
    intro listed a inv hfl hfree hr hy H
    have hun := (mem_ready.1 hr).1
    refine ⟨fun h => (by rw [h] at hr; cases hr), fun j hj => ?_⟩
    have hjn : j < n := Nat.lt_of_not_le fun h => tail_waitsF hs hc hn inv hfl j h hj _ i rfl hin hun
    refine ⟨hjn, ?_⟩
    by_cases hji : j = i
    · subst hji; exact hy.qOp hi H
    obtain ⟨hjun, oj, hoj, hall⟩ := mem_ready.1 hj
    have hnot : ∀ e ∈ oj.after, Region.binds md e = true → e.on ≠ i := fun e he hb heq => by
      have h1 := hall e he hb
      rw [heq, getD_both hun] at h1
      cases h1
    have h2 := qOp_put hoj (hfree j oj hoj hji hjun hnot) (fun cs b => hsel i oi cs b hi) (fun cs b => hsel j oj cs b hoj) hy (H.2 j (ready_mono hj hji)).2
    refine qOp_mono (fun a' h3 => ih (listed.setIfInBounds j true) a' (inv.set hj hjn) (getD_set_true hfl) (fun k ok hk hki hu hno => hfree k ok hk hki ?_ hno) (ready_mono hr (Ne.symm hji)) h3.1 ?_) h2
    · by_cases hjk : j = k
      · subst hjk; exact hjun
      · rwa [getD_set_ne true hjk] at hu
    · rw [Array.setIfInBounds_comm _ _ hji]
      exact h3.2
def lexK (md : Region.Mode) (ops : Array Oper) (g n : Nat) : List Nat → Array Bool → Bool
  | [], listed => Region.seqB md ops g n listed
  | k :: ks, listed => decide (k < n) && (Region.ready md ops listed).contains k && Region.free md ops listed k && lexK md ops g n ks (listed.setIfInBounds k true)
theorem headF_lex {n f g : Nat} {Lq : Act → Prop} (hsel : Region.noSelect ops = true) (hs : sinkF md ops n f = true) (hc : Region.chainB md ops n = true) (hn : n < ops.size) :
    ∀ (ks : List Nat) (l : List Oper) (listed : Array Bool) (a : Act), l.map some = ks.map (fun k => ops[k]?) → HeadInv md ops n listed → listed.getD f false = true →
    lexK md ops g n ks listed = true → wpQuiet P ops C Lq l a →
    headQ P md ops C n (fun listed' a' => Region.seqB md ops g n listed' = true ∧ Lq a') ks.length listed a
  | [], l, listed, a, hl, inv, hfl, hB, h => by
    have : l = [] := by simpa using hl
    subst this
    exact ⟨by simpa [lexK] using hB, h⟩
  | k :: ks, [], listed, a, hl, inv, hfl, hB, h => by simp at hl
  | k :: ks, o :: l, listed, a, hl, inv, hfl, hB, h => by
    simp only [List.map_cons, List.cons.injEq] at hl
    have h0 : ops[k]? = some o := hl.1.symm
    simp only [lexK, Bool.and_eq_true, decide_eq_true_eq] at hB
    obtain ⟨⟨⟨hkn, hr⟩, hf⟩, hB'⟩ := hB
    have hr' : k ∈ Region.ready md ops listed := by simpa using hr
    have hst : qOp P ops C k (wpQuiet P ops C Lq l) a := by unfold qOp; simp only [h0]; exact h
    obtain ⟨v, hy, hK⟩ := yieldsIn_of_qOp h0 hst
    exact headF_first h0 (Region.noSelect_spec hsel) hs hc hn hkn (fun listed' a' hL => seqB_ready hL.1) ks.length listed a inv hfl (Region.free_spec h0 hf) hr' hy
      (headF_lex hsel hs hc hn ks l _ _ hl.2 (inv.set hr' hkn) (getD_set_true hfl) hB' hK)
def floatB (md : Region.Mode) (ops : Array Oper) (n f : Nat) : Bool :=
  Region.noSelect ops && decide (n < ops.size) && decide (f < n) && sinkF md ops n f && Region.chainB md ops n && (Region.ready md ops (Array.replicate ops.size false)).contains f && Region.free md ops (Array.replicate ops.size false) f && lexK md ops (ops.size - n) n ((List.range n).eraseIdx f) ((Array.replicate ops.size false).setIfInBounds f true)
theorem wp_region_quiet_float {id : Nat} {Q : Exit → Act → World → Prop} {a : Act} {w : World} {l : List Oper} (n f : Nat) (o : Oper) (x : Operand) (ho : l[f]? = some o) (hop : o.op = .move x) (hgd : o.guard = none) (hm : P.follows .mixedOrders = true) (hB : floatB .any l.toArray n f = true) (hQ : ∀ c (a : Act) (w : World), Q (.panic c) (a.put o.dst (a.eval x)) w → Q (.panic c) a w) (hQ' : ∀ c (a : Act) (v : Value) (w : World), Q (.panic c) (a.put o.dst v) w → Q (.panic c) a w) (hC : C { w with drawn := w.drawn + 1 })
    (h : wpQuiet P l.toArray C (fun a' => ∀ X, C X → wpList P l.toArray Q (l.drop n) a' X) ((l.take n).eraseIdx f) (a.put o.dst (a.eval x))) : (Code.region id l.toArray true).wp P Q a w := by
  simp only [floatB, Bool.and_eq_true, decide_eq_true_eq] at hB
  obtain ⟨⟨⟨⟨⟨⟨⟨hsel, hn⟩, hfn⟩, hs⟩, hc⟩, hr0⟩, hf0⟩, hlex⟩ := hB
  have hn' : n < l.length := by simpa using hn
  have hdl : (l.drop n).length = l.toArray.size - n := by simp
  have inv0 : HeadInv .any l.toArray n (Array.replicate l.toArray.size false) :=
    ⟨by simp, fun j oj _ hl => (by rw [getD_replicate_false] at hl; cases hl), fun t _ ht => getD_in (by simpa using ht) (getD_replicate_false _ _)⟩
  have ho' : l.toArray[f]? = some o := by simpa using ho
  have hr' : f ∈ Region.ready .any l.toArray (Array.replicate l.toArray.size false) := by simpa using hr0
  have inv1 := inv0.set hr' hfn
  have hfl : ((Array.replicate l.toArray.size false).setIfInBounds f true).getD f false = true := by
    have : f < l.length := by omega
    simp [this]
  have hks : ((List.range n).eraseIdx f).length = n - 1 := by rw [List.length_eraseIdx_of_lt (by simpa using hfn)]; simp
  have H := headF_lex (P := P) (C := C) (md := .any) (f := f) (g := l.toArray.size - n) (Lq := fun a' => ∀ X, C X → wpList P l.toArray Q (l.drop n) a' X) hsel hs hc hn ((List.range n).eraseIdx f) ((l.take n).eraseIdx f) _ (a.put o.dst (a.eval x)) (by
    have em : ∀ {α γ : Type} (g : α → γ) (m : List α) (k : Nat), (m.eraseIdx k).map g = (m.map g).eraseIdx k := fun g m k => by simp [List.eraseIdx_eq_take_drop_succ]
    rw [em, em]
    congr 1
    apply List.ext_getElem?
    intro j
    by_cases hj : j < n
    · have hjl : j < l.length := by omega
      simp [hj, hjl]
    · have : ¬ j < min n l.length := by omega
      simp [hj, List.getElem?_take]) inv1 hfl hlex h
  refine wp_region_any hm ?_
  have h2 := any_of_headQ (Q' := Q) (g := l.toArray.size - n) (fun listed a' w' hw' hL => by
    have := wpAny_of_seq (md := .any) (Q' := Q) (l.drop n) n listed a' w' (fun j => by simp [List.getElem?_drop]) (by rw [hdl]; exact hL.1) (hL.2 w' hw')
    rwa [hdl] at this) _ _ _ _ hC H
  rw [hks] at h2
  have e : n - 1 + (l.toArray.size - n) + 1 = l.toArray.size := by omega
  suffices hh : wpAny P .any l.toArray Q (n - 1 + (l.toArray.size - n) + 1) (Array.replicate l.toArray.size false) a { w with drawn := w.drawn + 1 } by rw [e] at hh; exact hh
  refine wpAny_take ho' hsel hf0 hr0 (fun c a w h => hQ' c a _ w h) ?_ h2
  refine .inl ⟨by simp [Region.wanted, hgd], fun w => ?_⟩
  simp [execOp, hop]
end
theorem wp_region_ext_float {P : Program} {id : Nat} {Q : Exit → Act → World → Prop} {a : Act} {w : World} {l : List Oper} (n f : Nat) (v : Value) (o : Oper) (x : Operand) (ho : l[f]? = some o) (hop : o.op = .move x) (hv : a.eval x = v) (hgd : o.guard = none) (hm : P.follows .mixedOrders = true) (hB : floatB .any l.toArray n f = true) (hQ : ∀ c (a : Act) (v : Value) (w : World), Q (.panic c) (a.put o.dst v) w → Q (.panic c) a w)
    (h : wpQuiet P l.toArray (fun X => ∃ n : Ext w, X = n.X) (fun a' => ∀ X, (∃ n : Ext w, X = n.X) → wpList P l.toArray Q (l.drop n) a' X) ((l.take n).eraseIdx f) (a.put o.dst v)) : (Code.region id l.toArray true).wp P Q a w :=
  wp_region_quiet_float (C := fun X => ∃ n : Ext w, X = n.X) n f o x ho hop hgd hm hB (fun c a w h => hQ c a _ w h) hQ ⟨⟨_, (Below.refl _ w).drew⟩, rfl⟩ (by rw [hv]; exact h)

end Go.Proofs.YtnmppmmanigpcaaDoor
namespace Go.Proofs.YtnmppmmanigpcaaDoor
open Go.RowKit
set_option linter.unusedVariables false
set_option linter.unusedSimpArgs false

/-- Operations that yield a value and call nothing. -/
def plainB : Op → Bool
  | .move _ | .nilCheck _ | .fieldAddr .. | .load .. | .build .. | .indexAddr .. => true
  | .call { callee := .builtin .len, .. } => true
  | _ => false
theorem run_bind_ok {P : Program} {α γ : Type} {m : Sem α} {f : α → Sem γ} {w w' : World} {r : γ} (h : (m >>= f).run P w = .ok r w') : ∃ x u, m.run P w = .ok x u ∧ (f x).run P u = .ok r w' := by
  rw [Sem.run_bind] at h
  cases hs : m.run P w with
  | ok x u => rw [hs] at h; exact ⟨x, u, rfl, h⟩
  | halt x u => rw [hs] at h; cases h
theorem plain_value {P : Program} {o : Oper} {ρ : Operand → Value} {w w' : World} {r : Next} (h : plainB o.op = true) (hr : (execOp ρ o).run P w = .ok r w') : ∃ v, r = .value v := by
  have key : ∀ s : Sem Value, (do let x ← s; pure (Next.value x) : Sem Next).run P w = .ok r w' → ∃ v, r = .value v := fun s h => by
    rw [Sem.run_bind] at h
    cases hs : s.run P w with
    | ok x u => rw [hs] at h; simp at h; exact ⟨x, h.1.symm⟩
    | halt x u => rw [hs] at h; simp at h
  unfold plainB at h
  unfold execOp at hr
  split at h <;> simp_all
  all_goals first | exact ⟨_, hr.1.symm⟩ | exact key _ hr | (simp [resolve, invoke, builtin] at hr; exact key _ hr) | skip
  repeat' split at hr
  all_goals first
    | (simp at hr; exact ⟨_, hr.1.symm⟩)
    | (simp [runtimePanic, Sem.run, Result.andThen] at hr; done)
    | (obtain ⟨x1, u1, _, h1⟩ := run_bind_ok hr
       obtain ⟨x2, u2, _, h2⟩ := run_bind_ok h1
       split at h2
       · simp at h2; exact ⟨_, h2.1.symm⟩
       · rw [map_eq_pure_bind] at h2
         obtain ⟨x3, u3, h3, _⟩ := run_bind_ok h2
         cases h3)
section
variable {P : Program} {ops : Array Oper} {md : Region.Mode} {S : World → Prop} {Q : Exit → Act → World → Prop}
theorem yieldsIf_of {o : Oper} {v : Value} {a : Act} (h : plainB o.op = true) (hy : YieldsIn P ops S o v a) : YieldsIf P ops S o v a := by
  rcases hy with ⟨hw, hv⟩ | ⟨hw, rfl⟩
  · refine .inl ⟨hw, fun w hS => ?_⟩
    have h1 := hv w hS
    unfold Oper.quietAt at h1
    cases hr : (execOp a.eval o).run P w with
    | ok r w' =>
      obtain ⟨u, rfl⟩ := plain_value h hr
      rw [hr] at h1
      obtain ⟨rfl, rfl⟩ := h1
      rfl
    | halt x w' => rw [hr] at h1; exact h1.elim
  · exact .inr ⟨hw, rfl⟩
/-- Whatever is picked of the first n operations, f of them; then L. -/
def headS (P : Program) (md : Region.Mode) (ops : Array Oper) (Q : Exit → Act → World → Prop) (S : World → Prop) (n : Nat) (L : Array Bool → Act → World → Prop) : Nat → Array Bool → Act → World → Prop
  | 0, listed, a, w => L listed a w
  | f + 1, listed, a, w => Region.ready md ops listed ≠ [] ∧ ∀ i ∈ Region.ready md ops listed, i < n ∧ wpOp P ops Q i (fun a' w' => S w' ∧ headS P md ops Q S n L f (listed.setIfInBounds i true) a' w') a w
theorem any_of_headS {n g : Nat} {L : Array Bool → Act → World → Prop} (hL : ∀ listed a w, L listed a w → wpAny P md ops Q g listed a w) :
    ∀ (f : Nat) (listed : Array Bool) (a : Act) (w : World), headS P md ops Q S n L f listed a w → wpAny P md ops Q (f + g) listed a w
  | 0, listed, a, w, h => by rw [Nat.zero_add]; exact hL _ _ _ h
  | f + 1, listed, a, w, h => by
    rw [show f + 1 + g = (f + g) + 1 by omega]
    exact ⟨fun h0 => absurd h0 h.1, fun i hi => wpOp_mono (fun a' w' h' => any_of_headS hL f _ a' w' h'.2) (h.2 i hi).2⟩
theorem headS_first {n f i : Nat} {oi : Oper} {v : Value} {L : Array Bool → Act → World → Prop} (hi : ops[i]? = some oi) (hsel : ∀ (j : Nat) (o : Oper) cs b, ops[j]? = some o → o.op ≠ .select cs b)
    (hQ : ∀ c a w, Q (.panic c) (a.put oi.dst v) w → Q (.panic c) a w)
    (hs : sinkF md ops n f = true) (hc : Region.chainB md ops n = true) (hn : n < ops.size) (hin : i < n)
    (hdone : ∀ listed a w, L listed a w → ∀ j ∈ Region.ready md ops listed, n ≤ j) (k : Nat) :
    ∀ (listed : Array Bool) (a : Act) (w : World), HeadInv md ops n listed → listed.getD f false = true →
      (∀ j oj, ops[j]? = some oj → j ≠ i → listed.getD j true = false → (∀ e ∈ oj.after, Region.binds md e = true → e.on ≠ i) → oi.apart ops oj = true) →
      i ∈ Region.ready md ops listed → YieldsIf P ops S oi v a → S w →
      headS P md ops Q S n L k (listed.setIfInBounds i true) (a.put oi.dst v) w → headS P md ops Q S n L (k + 1) listed a w := by
  induction k with
  | zero =>
    intro listed a w inv hfl _ hr hy hS H
    refine ⟨fun h => (by rw [h] at hr; cases hr), fun j hj => ?_⟩
    have hjn : j < n := Nat.lt_of_not_le fun h => tail_waitsF hs hc hn inv hfl j h hj _ i rfl hin (mem_ready.1 hr).1
    refine ⟨hjn, ?_⟩
    by_cases hji : j = i
    · subst hji; exact hy.wpOp hi hS ⟨hS, H⟩
    · have := hdone _ _ _ H j (ready_mono hj hji); omega
  | succ k ih =>
    intro listed a w inv hfl hfree hr hy hS H
    have hun := (mem_ready.1 hr).1
    refine ⟨fun h => (by rw [h] at hr; cases hr), fun j hj => ?_⟩
    have hjn : j < n := Nat.lt_of_not_le fun h => tail_waitsF hs hc hn inv hfl j h hj _ i rfl hin hun
    refine ⟨hjn, ?_⟩
    by_cases hji : j = i
    · subst hji; exact hy.wpOp hi hS ⟨hS, H⟩
    obtain ⟨hjun, oj, hoj, hall⟩ := mem_ready.1 hj
    have hnot : ∀ e ∈ oj.after, Region.binds md e = true → e.on ≠ i := fun e he hb heq => by
      have h1 := hall e he hb
      rw [heq, getD_both hun] at h1
      cases h1
    have h2 := wpOp_putIf hoj (hfree j oj hoj hji hjun hnot) (fun cs b => hsel i oi cs b hi) (fun cs b => hsel j oj cs b hoj) hQ hy (H.2 j (ready_mono hj hji)).2
    refine wpOp_mono (fun a' w' h3 => ⟨h3.2.1, ih (listed.setIfInBounds j true) a' w' (inv.set hj hjn) (getD_set_true hfl) (fun k ok hk hki hu hno => hfree k ok hk hki ?_ hno) (ready_mono hr (Ne.symm hji)) h3.1 h3.2.1 ?_⟩) h2
    · by_cases hjk : j = k
      · subst hjk; exact hjun
      · rwa [getD_set_ne true hjk] at hu
    · rw [Array.setIfInBounds_comm _ _ hji]
      exact h3.2.2
def lexS (md : Region.Mode) (ops : Array Oper) (g n b : Nat) : List Nat → Array Bool → Bool
  | [], listed => decide (Region.ready md ops listed = [b]) && Region.seqB md ops g n (listed.setIfInBounds b true)
  | k :: ks, listed => decide (k < n) && (Region.ready md ops listed).contains k && Region.free md ops listed k && (match ops[k]? with | some o => plainB o.op | none => false) && lexS md ops g n b ks (listed.setIfInBounds k true)
theorem headS_lex {n f g b : Nat} {ob : Oper} {tl : List Oper} (hb : ops[b]? = some ob) (hbn : b < n) (hgd : ob.guard = none) (hQ : ∀ c (a : Act) (d : Option Tmp) (v : Value) (w : World), Q (.panic c) (a.put d v) w → Q (.panic c) a w) (hsel : Region.noSelect ops = true) (hs : sinkF md ops n f = true) (hc : Region.chainB md ops n = true) (hn : n < ops.size) :
    ∀ (ks : List Nat) (l : List Oper) (listed : Array Bool) (a : Act) (w : World), S w → l.map some = ks.map (fun k => ops[k]?) → HeadInv md ops n listed → listed.getD f false = true →
    lexS md ops g n b ks listed = true → wpQuiet P ops S (fun a' => ∀ X, S X → ∃ v X', (execOp a'.eval ob).run P X = .ok (.value v) X' ∧ S X' ∧ wpList P ops Q tl (a'.put ob.dst v) X') l a →
    headS P md ops Q S n (fun listed' a' w' => Region.seqB md ops g n listed' = true ∧ wpList P ops Q tl a' w') (ks.length + 1) listed a w
  | [], l, listed, a, w, hS, hl, inv, hfl, hB, h => by
    have : l = [] := by simpa using hl
    subst this
    simp only [lexS, Bool.and_eq_true, decide_eq_true_eq] at hB
    obtain ⟨v, X', hr, hS', hw⟩ := h w hS
    refine ⟨by rw [hB.1]; simp, fun i hi => ?_⟩
    rw [hB.1] at hi
    obtain rfl : i = b := by simpa using hi
    refine ⟨hbn, ?_⟩
    unfold wpOp
    have hwd : Region.wanted ob (yielded ops a.tmps) = true := by simp [Region.wanted, hgd]
    simp only [hb, hwd, if_true, Oper.wp, hr, Oper.upon]
    exact .inl ⟨hS', hB.2, hw⟩
  | k :: ks, [], listed, a, w, hS, hl, inv, hfl, hB, h => by simp at hl
  | k :: ks, o :: l, listed, a, w, hS, hl, inv, hfl, hB, h => by
    simp only [List.map_cons, List.cons.injEq] at hl
    have h0 : ops[k]? = some o := hl.1.symm
    simp only [lexS, Bool.and_eq_true, decide_eq_true_eq, h0] at hB
    obtain ⟨⟨⟨⟨hkn, hr⟩, hf⟩, hp⟩, hB'⟩ := hB
    have hr' : k ∈ Region.ready md ops listed := by simpa using hr
    have hst : qOp P ops S k (wpQuiet P ops S (fun a' => ∀ X, S X → ∃ v X', (execOp a'.eval ob).run P X = .ok (.value v) X' ∧ S X' ∧ wpList P ops Q tl (a'.put ob.dst v) X') l) a := by unfold qOp; simp only [h0]; exact h
    obtain ⟨v, hy, hK⟩ := yieldsIn_of_qOp h0 hst
    exact headS_first h0 (Region.noSelect_spec hsel) (fun c a w h => hQ c a _ _ w h) hs hc hn hkn (fun listed' a' w' hL => seqB_ready hL.1) (ks.length + 1) listed a w inv hfl (Region.free_spec h0 hf) hr' (yieldsIf_of hp hy) hS
      (headS_lex hb hbn hgd hQ hsel hs hc hn ks l _ _ w hS hl.2 (inv.set hr' hkn) (getD_set_true hfl) hB' hK)
def floatS (md : Region.Mode) (ops : Array Oper) (n f b : Nat) : Bool :=
  Region.noSelect ops && decide (n < ops.size) && decide (f < n) && sinkF md ops n f && Region.chainB md ops n && (Region.ready md ops (Array.replicate ops.size false)).contains f && Region.free md ops (Array.replicate ops.size false) f && lexS md ops (ops.size - n) n b (((List.range n).eraseIdx b).eraseIdx f) ((Array.replicate ops.size false).setIfInBounds f true)
theorem wp_region_held_new {id : Nat} {a : Act} {w : World} {l : List Oper} (n f b : Nat) (hfb : f < b) (hbn : b < n) (vf : Value) (o ob : Oper) (x : Operand) (ho : l[f]? = some o) (hop : o.op = .move x) (hv : a.eval x = vf) (hgf : o.guard = none) (hob : l[b]? = some ob) (hgd : ob.guard = none) (hm : P.follows .mixedOrders = true) (hB : floatS .any l.toArray n f b = true) (hQ : ∀ c (a : Act) (d : Option Tmp) (v : Value) (w : World), Q (.panic c) (a.put d v) w → Q (.panic c) a w) (hS : S { w with drawn := w.drawn + 1 })
    (h : wpQuiet P l.toArray S (fun a' => ∀ X, S X → ∃ v X', (execOp a'.eval ob).run P X = .ok (.value v) X' ∧ S X' ∧ wpList P l.toArray Q (l.drop n) (a'.put ob.dst v) X') (((l.take n).eraseIdx b).eraseIdx f) (a.put o.dst vf)) : (Code.region id l.toArray true).wp P Q a w := by
  subst hv
  simp only [floatS, Bool.and_eq_true, decide_eq_true_eq] at hB
  obtain ⟨⟨⟨⟨⟨⟨⟨hsel, hn⟩, hfn⟩, hs⟩, hc⟩, hr0⟩, hf0⟩, hlex⟩ := hB
  have hn' : n < l.length := by simpa using hn
  have hdl : (l.drop n).length = l.toArray.size - n := by simp
  have inv0 : HeadInv .any l.toArray n (Array.replicate l.toArray.size false) :=
    ⟨by simp, fun j oj _ hl => (by rw [getD_replicate_false] at hl; cases hl), fun t _ ht => getD_in (by simpa using ht) (getD_replicate_false _ _)⟩
  have ho' : l.toArray[f]? = some o := by simpa using ho
  have hob' : l.toArray[b]? = some ob := by simpa using hob
  have hr' : f ∈ Region.ready .any l.toArray (Array.replicate l.toArray.size false) := by simpa using hr0
  have inv1 := inv0.set hr' hfn
  have hfl : ((Array.replicate l.toArray.size false).setIfInBounds f true).getD f false = true := by
    have : f < l.length := by omega
    simp [this]
  have hks : (((List.range n).eraseIdx b).eraseIdx f).length = n - 2 := by
    have e1 : ((List.range n).eraseIdx b).length = n - 1 := by rw [List.length_eraseIdx_of_lt (by simpa using hbn)]; simp
    rw [List.length_eraseIdx_of_lt (by omega), e1]
    omega
  have H := headS_lex (P := P) (S := S) (Q := Q) (md := .any) (f := f) (g := l.toArray.size - n) (tl := l.drop n) hob' hbn hgd hQ hsel hs hc hn (((List.range n).eraseIdx b).eraseIdx f) (((l.take n).eraseIdx b).eraseIdx f) _ (a.put o.dst (a.eval x)) _ hS (by
    have em : ∀ {α γ : Type} (g : α → γ) (m : List α) (k : Nat), (m.eraseIdx k).map g = (m.map g).eraseIdx k := fun g m k => by simp [List.eraseIdx_eq_take_drop_succ]
    rw [em, em, em, em]
    congr 2
    apply List.ext_getElem?
    intro j
    by_cases hj : j < n
    · have hjl : j < l.length := by omega
      simp [hj, hjl]
    · have : ¬ j < min n l.length := by omega
      simp [hj, List.getElem?_take]) inv1 hfl hlex h
  refine wp_region_any hm ?_
  have h2 := any_of_headS (g := l.toArray.size - n) (fun listed a' w' hL => by
    have := wpAny_of_seq (md := .any) (Q' := Q) (l.drop n) n listed a' w' (fun j => by simp [List.getElem?_drop]) (by rw [hdl]; exact hL.1) hL.2
    rwa [hdl] at this) _ _ _ _ H
  rw [hks] at h2
  have e : n - 2 + 1 + (l.toArray.size - n) + 1 = l.toArray.size := by omega
  suffices hh : wpAny P .any l.toArray Q (n - 2 + 1 + (l.toArray.size - n) + 1) (Array.replicate l.toArray.size false) a { w with drawn := w.drawn + 1 } by rw [e] at hh; exact hh
  refine wpAny_take ho' hsel hf0 hr0 (fun c a w h => hQ c a _ _ w h) ?_ h2
  refine .inl ⟨by simp [Region.wanted, hgf], fun w => ?_⟩
  simp [execOp, hop]
end
theorem wp_region_ext_new {P : Program} {Q : Exit → Act → World → Prop} {id : Nat} {a : Act} {w : World} {l : List Oper} (n f b : Nat) (hfb : f < b) (hbn : b < n) (vf : Value) (o ob : Oper) (x : Operand) (ho : l[f]? = some o) (hop : o.op = .move x) (hv : a.eval x = vf) (hgf : o.guard = none) (hob : l[b]? = some ob) (hgd : ob.guard = none) (hm : P.follows .mixedOrders = true) (hB : floatS .any l.toArray n f b = true) (hQ : ∀ c (a : Act) (d : Option Tmp) (v : Value) (w : World), Q (.panic c) (a.put d v) w → Q (.panic c) a w)
    (h : wpQuiet P l.toArray (fun X => ∃ n : Ext w, X = n.X) (fun a' => ∀ X, (∃ n : Ext w, X = n.X) → ∃ v X', (execOp a'.eval ob).run P X = .ok (.value v) X' ∧ (∃ n : Ext w, X' = n.X) ∧ wpList P l.toArray Q (l.drop n) (a'.put ob.dst v) X') (((l.take n).eraseIdx b).eraseIdx f) (a.put o.dst vf)) : (Code.region id l.toArray true).wp P Q a w :=
  wp_region_held_new (S := fun X => ∃ n : Ext w, X = n.X) n f b hfb hbn vf o ob x ho hop hv hgf hob hgd hm hB hQ ⟨⟨_, (Below.refl _ w).drew⟩, rfl⟩ h

end Go.Proofs.YtnmppmmanigpcaaDoor
