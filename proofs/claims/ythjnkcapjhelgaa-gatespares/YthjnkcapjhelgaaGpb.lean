/- A set of names in memory. -/
import Derived.Test.YthjnkcapjhelgaaGpa
import Derived.Maps.Own
import Derived.Maps.OwnSet
import Derived.Maps.OwnOps
import Derived.Maps.Views
import Derived.DeepKeys4
namespace Go.Proofs.Ythjnkcapjhelgaa
open Go.RowKit Go.BigFrame Go.Maps
set_option linter.unusedVariables false
set_option linter.unusedSimpArgs false

set_option maxRecDepth 100000

theorem laidOutP : laidOutB Try.prog = true := by kernel_rfl
theorem rowNmP : (80 : TypeId) < Try.prog.types.size := of_decide_eq_true (by kernel_rfl)
theorem wideNmP : (match Try.prog.underlying 80 with | some (.array _ _) | some (.struct _) => true | _ => false) = true := by kernel_rfl
theorem lawNm : Keyed Try.prog 80 := Keyed.of_law (deep_law_laid laidOutP (m := 2) (by omega) rowNmP (by kernel_rfl) wideNmP)
theorem keyNmT : Try.prog.keyType 80 = true := by kernel_rfl
theorem cellsNmP : Try.prog.cellsOf 80 = 2 := by kernel_rfl
theorem cellsI64P : Try.prog.cellsOf 2 = 1 := by kernel_rfl
theorem cellsU64P : Try.prog.cellsOf 44 = 1 := by kernel_rfl
theorem wf_i64 {n : Int} (h0 : -9223372036854775808 ≤ n) (h1 : n ≤ 9223372036854775807) : (Lit.int .i64 n).wf = true := by
  have e1 : IntKind.min .i64 = -9223372036854775808 := by decide +kernel
  have e2 : IntKind.max .i64 = 9223372036854775807 := by decide +kernel
  show (decide (IntKind.min .i64 ≤ n) && decide (n ≤ IntKind.max .i64)) = true
  rw [e1, e2, Bool.and_eq_true, decide_eq_true_eq, decide_eq_true_eq]
  exact ⟨h0, h1⟩
theorem wf_u64 {n : Int} (h0 : 0 ≤ n) (h1 : n < 18446744073709551616) : (Lit.int .u64 n).wf = true := by
  have e1 : IntKind.min .u64 = 0 := by decide +kernel
  have e2 : IntKind.max .u64 = 18446744073709551615 := by decide +kernel
  show (decide (IntKind.min .u64 ≤ n) && decide (n ≤ IntKind.max .u64)) = true
  rw [e1, e2, Bool.and_eq_true, decide_eq_true_eq, decide_eq_true_eq]
  omega
/-- A name whose numbers are of their types. -/
def okN (ts id : Int) : Prop := -9223372036854775808 ≤ ts ∧ ts ≤ 9223372036854775807 ∧ 0 ≤ id ∧ id < 18446744073709551616
theorem Ev.ok.nm {e : Ev} (h : e.ok) : okN e.ts e.id := ⟨h.t0, h.t1, h.i0, h.i1⟩
abbrev nmV (ts id : Int) : Value := .agg #[.int .i64 ts, .int .u64 id]
theorem key_nm {ts id : Int} (h : okN ts id) : ∃ l, keyOf Try.prog 80 (nmV ts id) = some l := by
  obtain ⟨d, hd⟩ : ∃ d, Try.prog.types.size = d + 1 := ⟨Try.prog.types.size - 1, (Nat.succ_pred_eq_of_pos (Nat.lt_of_le_of_lt (Nat.zero_le _) rowNmP)).symm⟩
  have w1 := wf_i64 h.1 h.2.1
  have w2 := wf_u64 h.2.2.1 h.2.2.2
  have k1 : Try.prog.keyLits (d + 1) 2 [.int .i64 ts] = some [.int .i64 ts] := by
    unfold Program.keyLits
    simp [Try.underlying2, w1]
  have k2 : Try.prog.keyLits (d + 1) 44 [.int .u64 id] = some [.int .u64 id] := by
    unfold Program.keyLits
    simp [Try.underlying44, w2]
  have k3 : ∃ ls, Try.prog.keyLits (d + 2) 80 [.int .i64 ts, .int .u64 id] = some ls := by
    rw [show d + 2 = (d + 1) + 1 from rfl]
    generalize d + 1 = d1 at *
    unfold Program.keyLits
    simp [Try.underlying80, cellsNmP, cellsI64P, cellsU64P, k1, k2]
  obtain ⟨ls, k3⟩ := k3
  refine ⟨.string (keyBytes ls), ?_⟩
  have hf : (nmV ts id).formed Try.prog 80 = true := by simp [nmV, Value.formed, Try.underlying80, cellsNmP]
  unfold keyOf
  rw [Try.underlying80]
  simp only [keyNmT, hf, Bool.and_self, if_true, hd]
  have : (nmV ts id).cells.toList = [.int .i64 ts, .int .u64 id] := rfl
  rw [this, k3]
  rfl
/-- The block b is a set of at most n names: just those of l. -/
structure MpN (w : World) (b n : Nat) (l : List Ev) : Prop where
  ex : ∃ D : DataW Unit, w.ownsMap Try.prog 80 unitElem b n D ∧ ∀ ts id : Int, ∀ k, keyOf Try.prog 80 (nmV ts id) = some k → Maps.has D k = hasN l ts id
theorem MpN.lt {w : World} {b n : Nat} {l : List Ev} (h : MpN w b n l) : b < w.heap.size := by
  obtain ⟨D, h1, _⟩ := h.ex
  exact h1.lt
theorem MpN.of_block {w u : World} {b n : Nat} {l : List Ev} (h : MpN w b n l) (e : u.heap[b]? = w.heap[b]?) : MpN u b n l := by
  obtain ⟨D, ⟨es, clock, hb, r⟩, h2⟩ := h.ex
  exact ⟨D, ⟨es, clock, e.trans hb, r⟩, h2⟩
theorem MpN.keep {w u : World} {b n : Nat} {l : List Ev} (h : MpN w b n l) (G : Below w.heap.size w u) : MpN u b n l := h.of_block (G.block b h.lt)
theorem MpN.new (w : World) : MpN (w.alloc (.map #[] 0)) w.heap.size 0 [] :=
  ⟨.map [], World.ownsMap_made w _ _ _, fun ts id k hk => rfl⟩
theorem MpN.notCells {w : World} {b n : Nat} {l : List Ev} (h : MpN w b n l) {cs : Array Value} {t : TypeId} {fr : Nat × Nat} : w.heap[b]? ≠ some (.cells cs t fr) := fun e => by
  obtain ⟨D, ⟨es, clock, hb, r⟩, h2⟩ := h.ex
  rw [e] at hb
  cases hb
theorem zeroU (w : World) : (zeroValue 93).run Try.prog w = .ok (.agg #[]) w := by kernel_rfl
theorem MpN.look {w : World} {b n : Nat} {l : List Ev} (h : MpN w b n l) {ts id : Int} (hs : okN ts id) : (Instr.lookup 74 (.map (some b)) (nmV ts id) true).run Try.prog w = .ok (.tuple #[.agg #[], .bool (hasN l ts id)]) w := by
  obtain ⟨D, h1, h2⟩ := h.ex
  obtain ⟨k, hk⟩ := key_nm hs
  obtain ⟨v, ps, hr, hv⟩ := h1.look_ok lawNm Try.underlying74 (zeroU w) unitElem_mk hk
  obtain ⟨rfl, _⟩ := unitElem_inv hv
  rw [hr, h2 ts id k hk]
theorem key_ne {ts id ts' id' : Int} {k k' : Lit} (h : keyOf Try.prog 80 (nmV ts id) = some k) (h' : keyOf Try.prog 80 (nmV ts' id') = some k') (hne : ¬ (ts = ts' ∧ id = id')) : k ≠ k' := fun e => by
  subst e
  have := lawNm.inj h h'
  simp only [nmV, Value.agg.injEq, Array.mk.injEq, List.cons.injEq, Value.int.injEq, true_and, and_true] at this
  exact hne this
theorem hasN_cons (x : Ev) (l : List Ev) (ts id : Int) : hasN (x :: l) ts id = (decide (x.ts = ts ∧ x.id = id) || hasN l ts id) := rfl
theorem MpN.congr {w : World} {b n n' : Nat} {l l' : List Ev} (h : MpN w b n l) (hn : n ≤ n') (e : ∀ ts id, hasN l ts id = hasN l' ts id) : MpN w b n' l' := by
  obtain ⟨D, h1, h2⟩ := h.ex
  exact ⟨D, h1.mono hn, fun ts id k hk => by rw [← e]; exact h2 ts id k hk⟩
/-- Behind a store. -/
theorem MpN.put {w w' : World} {b n : Nat} {l : List Ev} {D : DataW Unit} (h0 : w.ownsMap Try.prog 80 unitElem b n D) (h2 : ∀ ts id : Int, ∀ k, keyOf Try.prog 80 (nmV ts id) = some k → Maps.has D k = hasN l ts id) (x : Ev) (k : Lit) (hk : keyOf Try.prog 80 (nmV x.ts x.id) = some k)
    (h : w'.ownsMap Try.prog 80 unitElem b (n + 1) (D.put k (.agg []))) : MpN w' b (n + 1) (x :: l) := by
  refine ⟨_, h, fun ts id k' hk' => ?_⟩
  rw [hasN_cons]
  by_cases e : x.ts = ts ∧ x.id = id
  · rw [decide_eq_true e, Bool.true_or]
    obtain ⟨e1, e2⟩ := e
    subst e1 e2
    rw [hk] at hk'
    cases hk'
    exact Maps.has_put_same h0.isMap (lawNm.key hk) _
  · rw [decide_eq_false e, Bool.false_or, Maps.has_put_other (key_ne hk' hk (fun e' => e ⟨e'.1.symm, e'.2.symm⟩))]
    exact h2 ts id k' hk'
/-- Behind a delete. -/
theorem MpN.del {w' : World} {b n : Nat} {l : List Ev} {x : Ev} {D : DataW Unit} (h2 : ∀ ts id : Int, ∀ k, keyOf Try.prog 80 (nmV ts id) = some k → Maps.has D k = hasN (x :: l) ts id) (k : Lit) (hk : keyOf Try.prog 80 (nmV x.ts x.id) = some k) (hl : hasN l x.ts x.id = false)
    (h : w'.ownsMap Try.prog 80 unitElem b n (D.del k)) : MpN w' b n l := by
  refine ⟨_, h, fun ts id k' hk' => ?_⟩
  by_cases e : x.ts = ts ∧ x.id = id
  · obtain ⟨e1, e2⟩ := e
    subst e1 e2
    rw [hk] at hk'
    cases hk'
    rw [Maps.has_del_same, hl]
  · rw [Maps.has_del_other (key_ne hk' hk (fun e' => e ⟨e'.1.symm, e'.2.symm⟩)), h2 ts id k' hk', hasN_cons, decide_eq_false e, Bool.false_or]

end Go.Proofs.Ythjnkcapjhelgaa
