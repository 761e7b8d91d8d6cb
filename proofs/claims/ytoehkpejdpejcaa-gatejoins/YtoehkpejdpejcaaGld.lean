/- A step of a script on a gate, with what it comes to (Told.step). -/
import Derived.Test.YtoehkpejdpejcaaGlc
import Derived.Test.YtoehkpejdpejcaaFr
import Derived.Test.YtoehkpejdpejcaaHph
import Derived.Maps.AppendAt
namespace Go.Proofs.Ytoehkpejdpejcaa
open Go.RowKit Go.BigFrame Go.Maps
set_option linter.unusedVariables false
set_option linter.unusedSimpArgs false

/-- append of a whole row onto a row of one's own: where the new one lies. -/
theorem wpList_append_flat_at {P : Program} {w : World} {ops : Array Oper} {rest : List Oper} {o : Oper} {a : Act} {Q : Exit → Act → World → Prop} (hgd : o.guard = none) (s x : Operand) {TS T : TypeId} {z : Value} {sz by_ : Nat}
    (ho : o.op = .call { callee := .builtin .append, args := #[s, x], argTypes := #[TS, TS] }) (hu : P.underlying TS = some (.slice T)) (nf : (P.info? T).map (fun i => (i.zero, i.size, i.bytes)) = some (some z, sz, by_)) (hzs : z.cells.size = sz) (hsz : 0 < sz)
    (v : Value) (base n : Nat) (xs : List Value) (hs : a.eval s = v) (O : w.ownsRow base T sz v n xs) (hb : base ≤ w.heap.size)
    (ao : Option Addr) (m cap : Nat) (ys : List Value) (hx : a.eval x = .slice ao m cap) (hsl : Sl ao m cap) (A : Flat w ao ys) (hy : ys.length = m * sz) (h1 : ∀ u ∈ ys, u.oneCell' = true) (hl : (n + m) * by_ ≤ 140737488355328) (hl2 : n + m ≤ 140737488351232)
    (h : ∀ ao' cap' w', w'.ownsRow base T sz (.slice ao' (n + m) cap') (n + m) (xs ++ ys) → w.grownBy w' v.ownBlock → ((Value.slice ao' (n + m) cap').ownBlock = v.ownBlock ∨ (Value.slice ao' (n + m) cap').ownBlock = some w.heap.size) → wpList P ops Q rest (a.put o.dst (.slice ao' (n + m) cap')) w') : wpList P ops Q (o :: rest) a w := by
  obtain ⟨i3, ti, tz0, tz1, tz2⟩ := nf_info nf
  cases ao with
  | none =>
    obtain ⟨h0, rfl⟩ := hsl.2 rfl
    subst h0
    have hys : ys = [] := List.length_eq_zero_iff.1 (by omega)
    subst hys
    obtain ⟨ao', cap', rfl, _⟩ := own_form O
    refine wpList_plain hgd fun K hK' => ?_
    have hrun := run_append_owned_none (P := P) w base TS o.type T i3 sz hu ti _ n xs O
    unfold Oper.wp
    simp [execOp, ho, resolve, invoke, builtin, hs, hx, hrun, Result.andThen]
    refine hK' _ _ (h ao' cap' _ ?_ (World.grownBy.refl _ _) (.inl rfl))
    rw [List.append_nil]
    exact O
  | some ad =>
    refine wpList_append_own_at (w := w) hgd s x TS ho base T i3 z sz by_ hu ti tz0 tz1 tz2 hzs hsz v n xs hs O ad m cap ys hx hy (fun j u hj => ?_) h1 (by unfold maxLen; omega) hl hb (fun v' w' h1 h2 _ h4 => ?_)
    · obtain ⟨g, off, e, c0⟩ := A j u hj
      cases e
      rw [Go.WideShapes.add_plain]
      exact c0
    · obtain ⟨ao', cap', rfl, _⟩ := own_form h1
      exact h ao' cap' w' h1 h2 h4
theorem Gat.grown {w u : World} {g : Nat} {S : Nat → Prop} {s : Gs} {t : Nat} (G : Gat w g S s t) {b1 : Nat} {e1 : TypeId} {s1 : Nat} {v1 : Value} {n1 : Nat} {x1 : List Value} (O : w.ownsRow b1 e1 s1 v1 n1 x1) (h1 : e1 ≠ 35) (h2 : e1 ≠ 80) (h3 : e1 ≠ 94) (Q : w.grownBy u v1.ownBlock) : Gat u g S s t :=
  G.same Q.size fun k e => Q.block k (G.lt k e) fun e' => by
    obtain ⟨cs, hc⟩ := own_type O e'.symm
    exact G.far hc h1 h2 h3 e
theorem Gat.setB {w : World} {g : Nat} {S : Nat → Prop} {s : Gs} {t : Nat} (G : Gat w g S s t) {b : Nat} {cs : Array Value} {T : TypeId} (B : Bk w b cs T) (h1 : T ≠ 35) (h2 : T ≠ 80) (h3 : T ≠ 94) (o : Nat) (v : Value) : Gat (w.setCell ⟨b, o, none⟩ v) g S s t :=
  G.same (by simp) fun k e => Below.heap_setCell _ _ _ k (by
    show k ≠ b
    intro e'
    subst e'
    exact G.far B h1 h2 h3 e)
/-- The first list has grown. -/
theorem Tl.growA {w Y w8 : World} {tb N : Nat} {A T : List Ev} {M : Int} {C : Bool} {aA aT : Option Addr} {cA cT g8 cap8 : Nat} {x : Ev} (t : Tl Y tb N A T M C aA aT cA cT) (O8 : w8.ownsRow N 30 11 (.slice (some ⟨g8, 0, none⟩) (A.length + 1) cap8) (A.length + 1) (fl evC A ++ (evC x).toList)) (Q8 : Y.grownBy w8 (Value.slice aA A.length cA).ownBlock) (L8 : (Value.slice aA A.length cA).ownBlock = some g8 ∨ g8 = Y.heap.size) :
    Tl (w8.setCell ⟨tb, 0, none⟩ (.slice (some ⟨g8, 0, none⟩) (A.length + 1) cap8)) tb N (A ++ [x]) T M C (some ⟨g8, 0, none⟩) aT cap8 cT ∧ Bk w8 tb #[.slice aA A.length cA, .slice aT T.length cT, .int .i64 M, .bool C] 59 := by
  have b8 := bk_far t.blk t.oA (by decide) Q8
  have hz : (A ++ [x]).length = A.length + 1 := by simp
  refine ⟨⟨?_, ?_, ?_, fun k e => ?_, t.lo⟩, b8⟩
  · have := b8.set 0 (.slice (some ⟨g8, 0, none⟩) (A.length + 1) cap8)
    rw [hz]
    exact this
  · rw [hz, fl_app]
    exact ty_set (by simpa [fl] using O8) b8 (by decide) 0 _
  · exact ty_set (own_same t.oT fun k e => Q8.block k (World.ownsRow.lt t.oT k e).2 fun e' => t.ap k e'.symm e) b8 (by decide) 0 _
  · have : g8 = k := by simpa [Value.ownBlock] using e
    subst this
    rcases L8 with h | h
    · exact t.ap _ h
    · intro e2
      have := (World.ownsRow.lt t.oT g8 e2).2
      omega
/-- The second list has grown. -/
theorem Tl.growT {Y w8 : World} {tb N : Nat} {A T l : List Ev} {M M' : Int} {C C' : Bool} {aA aT ao' : Option Addr} {cA cT cap8 : Nat} (t : Tl Y tb N A T M C aA aT cA cT) (O8 : w8.ownsRow N 30 11 (.slice ao' (T.length + l.length) cap8) (T.length + l.length) (fl evC T ++ fl evC l)) (Q8 : Y.grownBy w8 (Value.slice aT T.length cT).ownBlock) (L8 : (Value.slice ao' (T.length + l.length) cap8).ownBlock = (Value.slice aT T.length cT).ownBlock ∨ (Value.slice ao' (T.length + l.length) cap8).ownBlock = some Y.heap.size) :
    Tl (w8.setCell ⟨tb, 1, none⟩ (.slice ao' (T.length + l.length) cap8)) tb N A (T ++ l) M C aA ao' cA cap8 ∧ Bk w8 tb #[.slice aA A.length cA, .slice aT T.length cT, .int .i64 M, .bool C] 59 := by
  have b8 := bk_far t.blk t.oT (by decide) Q8
  have hz : (T ++ l).length = T.length + l.length := List.length_append
  refine ⟨⟨?_, ?_, ?_, fun k e => ?_, t.lo⟩, b8⟩
  · have := b8.set 1 (.slice ao' (T.length + l.length) cap8)
    rw [hz]
    exact this
  · exact ty_set (own_same t.oA fun k e => Q8.block k (World.ownsRow.lt t.oA k e).2 fun e' => t.ap k e e'.symm) b8 (by decide) 1 _
  · rw [hz, fl_app]
    exact ty_set O8 b8 (by decide) 1 _
  · rw [hz]
    intro e2
    rcases L8 with h | h
    · rw [h] at e2; exact t.ap k e e2
    · rw [h] at e2
      have := (World.ownsRow.lt t.oA k e).2
      cases e2
      omega
theorem Tl.setM {w : World} {tb N : Nat} {A T : List Ev} {M : Int} {C : Bool} {aA aT : Option Addr} {cA cT : Nat} (t : Tl w tb N A T M C aA aT cA cT) (m : Int) : Tl (w.setCell ⟨tb, 2, none⟩ (.int .i64 m)) tb N A T m C aA aT cA cT :=
  ⟨t.blk.set 2 _, ty_set t.oA t.blk (by decide) 2 _, ty_set t.oT t.blk (by decide) 2 _, t.ap, t.lo⟩
theorem Tl.setC {w : World} {tb N : Nat} {A T : List Ev} {M : Int} {C : Bool} {aA aT : Option Addr} {cA cT : Nat} (t : Tl w tb N A T M C aA aT cA cT) (c : Bool) : Tl (w.setCell ⟨tb, 3, none⟩ (.bool c)) tb N A T M c aA aT cA cT :=
  ⟨t.blk.set 3 _, ty_set t.oA t.blk (by decide) 3 _, ty_set t.oT t.blk (by decide) 3 _, t.ap, t.lo⟩
theorem Gs.push_cap (s : Gs) (e : Ev) : (s.push e).cap = s.cap := by unfold Gs.push; split <;> rfl
theorem Gs.adv_cap (s : Gs) (m : Int) : (s.adv m).cap = s.cap := by unfold Gs.adv; split <;> rfl
theorem Gs.flu_cap (s : Gs) : s.flu.cap = s.cap := by unfold Gs.flu; split <;> rfl
/-- What a step leaves. -/
structure StpP (N tb g n t : Nat) (cap : Int) (w w' : World) : Prop where
  ex : ∃ (A T : List Ev) (M : Int) (C : Bool) (aA aT : Option Addr) (cA cT : Nat) (S : Nat → Prop) (s : Gs), Tl w' tb N A T M C aA aT cA cT ∧ Gat w' g S s t ∧ TInv A T M C s ∧ s.cap = cap ∧ A.length ≤ n ∧ Below N w w' ∧ ∀ k, S k → N ≤ k

end Go.Proofs.Ytoehkpejdpejcaa
