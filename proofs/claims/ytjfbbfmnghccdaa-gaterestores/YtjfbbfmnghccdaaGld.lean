/- A step of a script on a gate, with what it comes to (Told.step). -/
import Derived.Test.YtjfbbfmnghccdaaGlc
import Derived.Test.YtjfbbfmnghccdaaFr
import Derived.Test.YtjfbbfmnghccdaaHph
import Derived.Maps.AppendAt
namespace Go.Proofs.Ytjfbbfmnghccdaa
open Go.RowKit Go.BigFrame Go.Maps
set_option linter.unusedVariables false
set_option linter.unusedSimpArgs false

/-- append of a whole row onto a row of one's own: where the new one lies. -/
theorem wpList_append_flat_at {P : Program} {w : World} {ops : Array Oper} {rest : List Oper} {o : Oper} {a : Act} {Q : Exit → Act → World → Prop} (hgd : o.guard = none) (s x : Operand) {TS T : TypeId} {z : Value} {sz by_ : Nat}
    (ho : o.op = .call { callee := .builtin .append, args := #[s, x], argTypes := #[TS, TS] }) (hu : P.underlying TS = some (.slice T)) (nf : (P.info? T).map (fun i => (i.zero, i.size, i.bytes)) = some (some z, sz, by_)) (hzs : z.cells.size = sz) (hsz : 0 < sz)
    (v : Value) (base n : Nat) (xs : List Value) (hs : a.eval s = v) (O : w.ownsRow base T sz v n xs) (hb : base ≤ w.heap.size)
    (ao : Option Addr) (m cap : Nat) (ys : List Value) (hx : a.eval x = .slice ao m cap) (hsl : Sl ao m cap) (A : Flat w ao ys) (hy : ys.length = m * sz) (h1 : ∀ u ∈ ys, u.oneCell' = true) (hl : (n + m) * by_ ≤ 140737488355328) (hl2 : n + m ≤ 140737488351232)
    (h : ∀ ao' cap' w', w'.ownsRow base T sz (.slice ao' (n + m) cap') (n + m) (xs ++ ys) → w.grownBy w' v.ownBlock → ((Value.slice ao' (n + m) cap').ownBlock = v.ownBlock ∨ (Value.slice ao' (n + m) cap').ownBlock = some w.heap.size) → wpList P ops Q rest (a.put o.dst (.slice ao' (n + m) cap')) w') : wpList P ops Q (o :: rest) a w := by
  obtain ⟨i3, ti, tz0, tz1, tz2⟩ := nf_info nf
  cases ao with
  | none =>
    obtain ⟨h0, rfl⟩ := hsl.2 rfl
    subst h0
    have hys : ys = [] := List.length_eq_zero_iff.1 (by omega)
    subst hys
    obtain ⟨ao', cap', rfl, _⟩ := own_form O
    refine wpList_plain hgd fun K hK' => ?_
    have hrun := run_append_owned_none (P := P) w base TS o.type T i3 sz hu ti _ n xs O
    unfold Oper.wp
    simp [execOp, ho, resolve, invoke, builtin, hs, hx, hrun, Result.andThen]
    refine hK' _ _ (h ao' cap' _ ?_ (World.grownBy.refl _ _) (.inl rfl))
    rw [List.append_nil]
    exact O
  | some ad =>
    refine wpList_append_own_at (w := w) hgd s x TS ho base T i3 z sz by_ hu ti tz0 tz1 tz2 hzs hsz v n xs hs O ad m cap ys hx hy (fun j u hj => ?_) h1 (by unfold maxLen; omega) hl hb (fun v' w' h1 h2 _ h4 => ?_)
    · obtain ⟨g, off, e, c0⟩ := A j u hj
      cases e
      rw [Go.WideShapes.add_plain]
      exact c0
    · obtain ⟨ao', cap', rfl, _⟩ := own_form h1
      exact h ao' cap' w' h1 h2 h4
theorem Gat.grown {w u : World} {g : Nat} {S : Nat → Prop} {s : Gs} {t : Nat} (G : Gat w g S s t) {b1 : Nat} {e1 : TypeId} {s1 : Nat} {v1 : Value} {n1 : Nat} {x1 : List Value} (O : w.ownsRow b1 e1 s1 v1 n1 x1) (h1 : e1 ≠ 66) (h2 : e1 ≠ 92) (h3 : e1 ≠ 94) (Q : w.grownBy u v1.ownBlock) : Gat u g S s t :=
  G.same Q.size fun k e => Q.block k (G.lt k e) fun e' => by
    obtain ⟨cs, hc⟩ := own_type O e'.symm
    exact G.far hc h1 h2 h3 e
theorem Gat.setB {w : World} {g : Nat} {S : Nat → Prop} {s : Gs} {t : Nat} (G : Gat w g S s t) {b : Nat} {cs : Array Value} {T : TypeId} (B : Bk w b cs T) (h1 : T ≠ 66) (h2 : T ≠ 92) (h3 : T ≠ 94) (o : Nat) (v : Value) : Gat (w.setCell ⟨b, o, none⟩ v) g S s t :=
  G.same (by simp) fun k e => Below.heap_setCell _ _ _ k (by
    show k ≠ b
    intro e'
    subst e'
    exact G.far B h1 h2 h3 e)
theorem Gs.push_cap (s : Gs) (e : Ev) : (s.push e).cap = s.cap := by unfold Gs.push; split <;> rfl
theorem Gs.adv_cap (s : Gs) (m : Int) : (s.adv m).cap = s.cap := by unfold Gs.adv; split <;> rfl
theorem Gs.flu_cap (s : Gs) : s.flu.cap = s.cap := by unfold Gs.flu; split <;> rfl

end Go.Proofs.Ytjfbbfmnghccdaa
