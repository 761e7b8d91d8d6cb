/- A map from strings to numbers that the call has made. -/
import Derived.Test.YtlejhococjlijaaGreatDoorOpenQ2
import Derived.Maps.Own
import Derived.Maps.OwnSet
import Derived.Maps.Views
import Derived.StringKeys
namespace Go.Proofs.YtlejhococjlijaaGreatDoor
open Go.RowKit Go.BigFrame
set_option linter.unusedVariables false
set_option linter.unusedSimpArgs false

/-- The block b is a map of at most n entries that holds what M tells. -/
structure MpAt (w : World) (b n : Nat) (M : ByteArray → Option Int) : Prop where
  ex : ∃ D : DataW Unit, w.ownsMap Tryz.prog 9 (plainElem Tryz.prog 3) b n D ∧ ∀ s : ByteArray, s.size ≤ 140737488351232 → Maps.has D (.string s.data.toList) = (M s).isSome ∧ D.atKey (.string s.data.toList) (.lit (.int .i64 0)) = .lit (.int .i64 ((M s).getD 0))
theorem MpAt.lt {w : World} {b n : Nat} {M : ByteArray → Option Int} (h : MpAt w b n M) : b < w.heap.size := by
  obtain ⟨D, h1, _⟩ := h.ex
  exact h1.lt
theorem MpAt.of_block {w u : World} {b n : Nat} {M : ByteArray → Option Int} (h : MpAt w b n M) (e : u.heap[b]? = w.heap[b]?) : MpAt u b n M := by
  obtain ⟨D, ⟨es, clock, hb, r⟩, h2⟩ := h.ex
  exact ⟨D, ⟨es, clock, e.trans hb, r⟩, h2⟩
theorem MpAt.keep {w u : World} {b n : Nat} {M : ByteArray → Option Int} (h : MpAt w b n M) (G : Below w.heap.size w u) : MpAt u b n M := h.of_block (G.block b h.lt)
theorem MpAt.new (w : World) : MpAt (w.alloc (.map #[] 0)) w.heap.size 0 (fun _ => none) :=
  ⟨.map [], World.ownsMap_made w _ _ _, fun s hs => ⟨rfl, rfl⟩⟩
theorem str_key {s : ByteArray} (hs : s.size ≤ 140737488351232) : keyOf Tryz.prog 9 (.string s) = some (.string s.data.toList) := WideMaps.keyOf_string_mk Tryz.underlying9 (by unfold maxLen; omega)
theorem MpAt.look {w : World} {b n : Nat} {M : ByteArray → Option Int} (h : MpAt w b n M) (s : ByteArray) (hs : s.size ≤ 140737488351232) : (Instr.lookup 68 (.map (some b)) (.string s) true).run Tryz.prog w = .ok (.tuple #[.int .i64 ((M s).getD 0), .bool (M s).isSome]) w := by
  obtain ⟨D, h1, h2⟩ := h.ex
  obtain ⟨v, ps, hr, hv⟩ := h1.look_ok (Maps.string_keyed Tryz.underlying9) Tryz.underlying68 (z := .int .i64 0) (by kernel_rfl) (plainElem_int Tryz.underlying3 (by decide)) (str_key hs)
  obtain ⟨e1, e2⟩ := h2 s hs
  obtain ⟨a, rfl, ha, _⟩ := plainElem_int_inv Tryz.underlying3 hv
  rw [e2] at ha
  simp only [Prod.mk.injEq, DataW.lit.injEq, Lit.int.injEq, true_and] at ha
  rw [hr, e1, ha.1]
theorem nd_fw {n : Int} (h : fI n) : (Lit.int .i64 n).wf = true := by
  have e1 : IntKind.min .i64 = -9223372036854775808 := by decide +kernel
  have e2 : IntKind.max .i64 = 9223372036854775807 := by decide +kernel
  show (decide (IntKind.min .i64 ≤ n) && decide (n ≤ IntKind.max .i64)) = true
  rw [e1, e2, Bool.and_eq_true, decide_eq_true_eq, decide_eq_true_eq]
  exact h
/-- Behind a store. -/
theorem MpAt.put {w' : World} {b n : Nat} {M : ByteArray → Option Int} {D : DataW Unit} {w : World} (h0 : w.ownsMap Tryz.prog 9 (plainElem Tryz.prog 3) b n D) (h2 : ∀ s : ByteArray, s.size ≤ 140737488351232 → Maps.has D (.string s.data.toList) = (M s).isSome ∧ D.atKey (.string s.data.toList) (.lit (.int .i64 0)) = .lit (.int .i64 ((M s).getD 0)))
    (s : ByteArray) (i : Int) (h : w'.ownsMap Tryz.prog 9 (plainElem Tryz.prog 3) b (n + 1) (D.put (.string s.data.toList) (.lit (.int .i64 i)))) : MpAt w' b (n + 1) (fun x => if x = s then some i else M x) := by
  refine ⟨_, h, fun x hx => ?_⟩
  have hm := h0.isMap
  by_cases e : x = s
  · subst e
    rw [if_pos rfl]
    exact ⟨Maps.has_put_same hm (show WideAt.IsKeyLit (.string _) from trivial) _, Maps.atKey_put_same hm (show WideAt.IsKeyLit (.string _) from trivial) _ _⟩
  · have hne : (Lit.string x.data.toList) ≠ (Lit.string s.data.toList) := fun h => e (by
      cases x; cases s
      simp only [Lit.string.injEq] at h
      congr 1
      exact Array.toList_inj.1 h)
    rw [if_neg e]
    obtain ⟨q1, q2⟩ := h2 x hx
    exact ⟨by rw [Maps.has_put_other hne]; exact q1, by rw [Maps.atKey_put_other hne]; exact q2⟩
theorem MpAt.congr {w : World} {b n n' : Nat} {M M' : ByteArray → Option Int} (h : MpAt w b n M) (hn : n ≤ n') (e : ∀ s, M s = M' s) : MpAt w b n' M' := by
  obtain ⟨D, h1, h2⟩ := h.ex
  exact ⟨D, h1.mono hn, fun s hs => by rw [← e s]; exact h2 s hs⟩
theorem run_makeMap_hint {P : Program} (t k e : TypeId) (ht : P.underlying t = some (.map k e)) (n : Nat) (w : World) : (Instr.makeMap t (some (.int .i64 (n : Int)))).run P w = .ok (.map (some w.heap.size)) (w.alloc (.map #[] 0)) := by
  simp [Instr.makeMap, asInt, asIntOf, run_underlying ht]
/-- The number of the first of k items that has the variable. -/
def itemF (l : List It) : Nat → ByteArray → Option Int
  | 0, _ => none
  | k + 1, s => match itemF l k s with
    | some i => some i
    | none => if s = (l.getD k noIt).v then some (k : Int) else none
set_option maxRecDepth 100000 in
set_option maxHeartbeats 8000000 in
theorem itemsOf_any (q : Qy) (hq : q.fit) (cs : Array Value) (ai : Option Addr) (ci : Nat) (aw : Option Addr) (cw : Nat) (ar : Option Addr) (cr : Nat) (w : World) (A : IsQ w q cs ai ci aw cw ar cr) :
    Calls Tryz.prog 27 #[.agg cs] w fun e w' => ∃ b, e = .returned (.map (some b)) ∧ w.heap.size ≤ b ∧ MpAt w' b q.items.length (itemF q.items q.items.length) ∧ Below w.heap.size w w' := by
  obtain ⟨he, Ai, _, _, si, _, _⟩ := A
  subst he
  have hnn := hq.n
  have hmk := run_makeMap_hint (P := Tryz.prog) 68 _ _ Tryz.underlying68 q.items.length
  go_enter Tryz.func27, Tryz.ntmps27
  go_wp2
  clear hmk
  have B0 := galloc (galloc (Below.refl w.heap.size w) (.cells #[.slice ai q.items.length ci, .int .i64 q.mode, .int .i64 q.after, .slice aw q.wh.length cw, .int .i64 q.within, .string q.by_, .slice ar q.ret.length cr] 40)) (.map #[] 0)
  have M0 := MpAt.new (w.alloc (.cells #[.slice ai q.items.length ci, .int .i64 q.mode, .int .i64 q.after, .slice aw q.wh.length cw, .int .i64 q.within, .string q.by_, .slice ar q.ret.length cr] 40))
  rw [show (w.alloc (.cells #[.slice ai q.items.length ci, .int .i64 q.mode, .int .i64 q.after, .slice aw q.wh.length cw, .int .i64 q.within, .string q.by_, .slice ar q.ret.length cr] 40)).heap.size = w.heap.size + 1 by simp] at M0
  generalize (w.alloc (.cells #[.slice ai q.items.length ci, .int .i64 q.mode, .int .i64 q.after, .slice aw q.wh.length cw, .int .i64 q.within, .string q.by_, .slice ar q.ret.length cr] 40)).alloc (.map #[] 0) = V at *
  go_loopw [4, 5, 6, 7, 15] (fun _ _ _ _ x wr => ∃ k : Nat, k ≤ q.items.length ∧ x = .int .i64 k ∧ MpAt wr (w.heap.size + 1) k (itemF q.items k) ∧ Below w.heap.size w wr) (fun _ _ _ _ x _ => q.items.length - (intOf x).toNat)
  case atStart => exact ⟨0, Nat.zero_le _, rfl, M0.congr (Nat.le_refl _) (fun s => rfl), B0⟩
  case round =>
    obtain ⟨k, hk, rfl, MP, G⟩ := hrel
    by_cases hlt : k < q.items.length
    · obtain ⟨g, o, rfl, a, c, y0, y1, y2, y3, y4, _, _⟩ := (Ai.keep G) k hlt
      have hki : (k : Int) < (q.items.length : Int) := by omega
      have hv := (hq.its k).v
      have hstep : ∀ s, itemF q.items (k + 1) s = match itemF q.items k s with | some i => some i | none => if s = (q.items.getD k noIt).v then some (k : Int) else none := fun s => rfl
      generalize q.items.getD k noIt = it at *
      obtain ⟨iN, iT, iV, iL, iH⟩ := it
      dsimp only at y0 y1 y2 y3 y4 hv hstep
      have MA := fun o : Obj => MP.keep (galloc (Below.refl _ _) o)
      have lk := fun o : Obj => (MA o).look iV hv
      cases hF : itemF q.items k iV with
      | some i =>
        rw [hF] at lk
        have MN : MpAt wr (w.heap.size + 1) (k + 1) (itemF q.items (k + 1)) := MP.congr (by omega) (fun s => by
          rw [hstep s]
          cases hs : itemF q.items k s with
          | some j => rfl
          | none =>
            by_cases e : s = iV
            · subst e; rw [hF] at hs; cases hs
            · simp only; rw [if_neg e])
        replace MN := fun o : Obj => MN.keep (galloc (Below.refl _ _) o)
        clear hF hstep MP MA
        go_wp2
        go_roundw
        case rel => exact ⟨k + 1, by omega, by go_num, MN _, galloc G _⟩
        case measure => simp [intOf]; omega
      | none =>
        rw [hF] at lk
        obtain ⟨D, hD1, hD2⟩ := (MA (.cells #[.bool iN, .slice a iT.length c, .string iV, .int .i64 iL, .int .i64 iH] 61)).ex
        have hHF := show Hid (itemF q.items k iV = none) from hF
        have hHS := show Hid (∀ s, itemF q.items (k + 1) s = match itemF q.items k s with | some i => some i | none => if s = iV then some (k : Int) else none) from hstep
        have hHD := show Hid (∀ s : ByteArray, s.size ≤ 140737488351232 → Maps.has D (.string s.data.toList) = (itemF q.items k s).isSome ∧ D.atKey (.string s.data.toList) (.lit (.int .i64 0)) = .lit (.int .i64 ((itemF q.items k s).getD 0))) from hD2
        clear hF hstep MP MA hD2
        go_wp2_with (at_mapUpdate; refine wpList_mapUpdate_own _ rfl _ _ _ 68 rfl 9 3 (Maps.string_keyed Tryz.underlying9) Tryz.underlying68 (plainElem Tryz.prog 3) (w.heap.size + 1) k D rfl hD1 (by unfold maxLen; omega) _ _ (.string iV.data.toList) rfl rfl (str_key hv) (.lit (.int .i64 (k : Int))) [] (plainElem_int Tryz.underlying3 (nd_fw ⟨by omega, by omega⟩)) ?_; intro w1 hown1 hgrow1)
        have MN : MpAt w1 (w.heap.size + 1) (k + 1) (itemF q.items (k + 1)) := (MpAt.put hD1 hHD.out iV (k : Int) hown1).congr (Nat.le_refl _) (fun s => by
          rw [hHS.out s]
          by_cases e : s = iV
          · rw [if_pos e, e, hHF.out]; simp
          · rw [if_neg e]
            cases hs : itemF q.items k s with
            | some j => rfl
            | none => simp only; rw [if_neg e])
        have GN : Below w.heap.size w w1 := (galloc G _).grown hgrow1 (by have := G.size; simp; omega) (fun r e => by cases e; omega)
        clear hgrow1 hown1 hHD hHS hHF
        go_wp2
        go_roundw
        case rel => exact ⟨k + 1, by omega, by go_num, MN, GN⟩
        case measure => simp [intOf]; omega
    · have hkn : k = q.items.length := by omega
      subst hkn
      go_wp2
      go_ret
      exact ⟨_, rfl, by omega, MP, G⟩

end Go.Proofs.YtlejhococjlijaaGreatDoor
