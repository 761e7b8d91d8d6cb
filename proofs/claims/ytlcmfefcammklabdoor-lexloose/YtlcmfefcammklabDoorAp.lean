/- append of a whole list of tokens onto nothing; two long lists that are the same. -/
import Derived.Test.YtlcmfefcammklabDoorSm
import Derived.Test.YtlcmfefcammklabDoorTo
import Derived.Test.YtlcmfefcammklabDoorOpenT
import Derived.Carry
import Derived.ChangeMaps5
import Derived.Deep.DeepHandedRow
namespace Go.Proofs.YtlcmfefcammklabDoor
open Go.ChangeShapes Go.WideShapes Go.ChangeAt Go.RowKit Go.BigFrame
set_option linter.unusedVariables false
set_option linter.unusedSimpArgs false

/-- append of a whole list that came in onto nothing. -/
theorem wpList_append_toks {w : World} {ops : Array Oper} {rest : List Oper} {o : Oper} {a : Act} {Q : Exit → Act → World → Prop} (hgd : o.guard = none) (s x : Operand)
    (ho : o.op = .call { callee := .builtin .append, args := #[s, x], argTypes := #[23, 23] }) (hs : a.eval s = .slice none 0 0)
    (ao : Option Addr) (cap : Nat) (ts : List Tok) (hx : a.eval x = .slice ao ts.length cap) (hnone : ao = none → ts.length = 0 ∧ cap = 0) (A : IsToks w ao ts) (hspot : ts.length ≠ 0 ∨ True) (hl : ts.length ≤ 200000000)
    (h : ∀ v' w', w'.ownsRow w.heap.size 29 4 v' ts.length (toksV ts) → w.grownBy w' none → wpList Tryd.prog ops Q rest (a.put o.dst v') w') : wpList Tryd.prog ops Q (o :: rest) a w := by
  obtain ⟨i3, ti, tz0, tz1, tz2⟩ := info_partsTk
  have hlen : (toksV ts).length = ts.length * 4 := by
    clear A hx h hl hspot hnone
    induction ts with
    | nil => rfl
    | cons y r ih =>
      have e : toksV (y :: r) = (tokA y).toList ++ toksV r := rfl
      rw [e, List.length_append, ih, List.length_cons]
      show 4 + _ = _
      omega
  cases ao with
  | none =>
    obtain ⟨h0, rfl⟩ := hnone rfl
    refine wpList_plain hgd fun K hK' => ?_
    have hrun := run_append_owned_none (P := Tryd.prog) w w.heap.size 23 o.type 29 i3 4 Tryd.underlying23 ti (.slice none 0 0) 0 [] (World.ownsRow_nil _ _ _ _)
    have hts : ts = [] := List.length_eq_zero_iff.1 h0
    subst hts
    replace hx : a.eval x = .slice none 0 0 := hx
    unfold Oper.wp
    simp [execOp, ho, resolve, invoke, builtin, hs, hx, hrun, Result.andThen]
    exact hK' _ _ (h _ _ (World.ownsRow_nil _ _ _ _) (World.grownBy.refl _ _))
  | some ad =>
    refine wpList_append_own (w := w) hgd s x 23 ho w.heap.size 29 i3 (.agg (tokA noTok)) 4 40 Tryd.underlying23 ti tz0 tz1 tz2 rfl (by decide) (.slice none 0 0) 0 [] hs (World.ownsRow_nil _ _ _ _) ad ts.length cap (toksV ts) hx hlen (fun j u hj => ?_) ?_ ?_ ?_ (Nat.le_refl _) (fun v' w' h1 h2 _ => ?_)
    · have hjl := (List.getElem?_eq_some_iff.1 hj).1
      rw [hlen] at hjl
      obtain ⟨q, r, rfl, hr⟩ : ∃ q r, j = q * 4 + r ∧ r < 4 := ⟨j / 4, j % 4, by omega, by omega⟩
      rw [toksV_at ts q (by omega) r hr] at hj
      obtain ⟨g, off, e, c0, c1, c2, c3⟩ := A q (by omega)
      cases e
      rw [Go.WideShapes.add_plain]
      rcases (show r = 0 ∨ r = 1 ∨ r = 2 ∨ r = 3 from by omega) with rfl | rfl | rfl | rfl
      · rw [← Nat.add_assoc, Nat.add_zero, c0, ← hj]; rfl
      · rw [← Nat.add_assoc, c1, ← hj]; rfl
      · rw [← Nat.add_assoc, c2, ← hj]; rfl
      · rw [← Nat.add_assoc, c3, ← hj]; rfl
    · intro u hu
      unfold toksV at hu
      obtain ⟨y, _, hy⟩ := List.mem_flatMap.1 hu
      simp [tokA] at hy
      rcases hy with rfl | rfl | rfl | rfl <;> rfl
    · unfold maxLen; omega
    · omega
    · rw [Nat.zero_add] at h1
      exact h v' w' h1 h2
set_option maxRecDepth 100000 in
set_option maxHeartbeats 4000000 in
theorem same_big (ts : List Tok) (hl : ts.length ≤ 10000000000) (ao bo : Option Addr) (c1 c2 : Nat) (w : World) (A : IsToks w ao ts) (B : IsToks w bo ts) :
    Calls Tryd.prog 15 #[.slice ao ts.length c1, .slice bo ts.length c2] w fun e w' => e = .returned (.bool true) ∧ Below w.heap.size w w' := by
  obtain ⟨n, hn⟩ : ∃ n, ts.length = n := ⟨_, rfl⟩
  rw [hn]
  go_enter Tryd.func15, Tryd.ntmps15
  go_wp2
  go_loopw [5] (fun x wr => ∃ k : Nat, k ≤ n ∧ x = .int .i64 k ∧ Below w.heap.size w wr) (fun x _ => n - (intOf x).toNat)
  case atStart => exact ⟨0, Nat.zero_le _, rfl, Below.refl _ _⟩
  case round =>
    obtain ⟨k, hk, rfl, G⟩ := hrel
    by_cases hlt : k < n
    · obtain ⟨g1, o1, rfl, x0, x1, x2, x3⟩ := A k (by omega)
      obtain ⟨g2, o2, rfl, y0, y1, y2, y3⟩ := B k (by omega)
      replace x0 := (G.cell (p := ⟨_, _, none⟩) (lt_of_cell x0)).trans x0
      replace x1 := (G.cell (p := ⟨_, _, none⟩) (lt_of_cell x1)).trans x1
      replace x2 := (G.cell (p := ⟨_, _, none⟩) (lt_of_cell x2)).trans x2
      replace x3 := (G.cell (p := ⟨_, _, none⟩) (lt_of_cell x3)).trans x3
      replace y0 := (G.cell (p := ⟨_, _, none⟩) (lt_of_cell y0)).trans y0
      replace y1 := (G.cell (p := ⟨_, _, none⟩) (lt_of_cell y1)).trans y1
      replace y2 := (G.cell (p := ⟨_, _, none⟩) (lt_of_cell y2)).trans y2
      replace y3 := (G.cell (p := ⟨_, _, none⟩) (lt_of_cell y3)).trans y3
      generalize ts.getD k noTok = t at *
      clear A B
      go_wp2
      go_region_with fail
      all_goals
        go_wp2
        go_roundw
        case rel => exact ⟨k + 1, by omega, by go_num, by first | exact G.drew | exact G⟩
        case measure => simp [intOf]; omega
    · obtain rfl : k = n := by omega
      go_wp2
      go_ret
      exact ⟨rfl, G⟩

end Go.Proofs.YtlcmfefcammklabDoor
