/- Rows of nodes: appended, cut, copied. -/
import Derived.Test.YtlejhococjlijaaGreatDoorSha
namespace Go.Proofs.YtlejhococjlijaaGreatDoor
open Go.RowKit Go.BigFrame
set_option linter.unusedVariables false
set_option linter.unusedSimpArgs false

theorem nds_len : ∀ ns : List Nd, (ndsV ns).length = ns.length * 6
  | [] => rfl
  | n :: t => by
    show ((ndA n).toList ++ ndsV t).length = _
    rw [List.length_append, nds_len t, List.length_cons, show (ndA n).toList.length = 6 from rfl]
    omega
theorem nds_cells {w : World} {ad : Addr} {ns : List Nd} (A : IsNds w (some ad) ns) (j : Nat) (u : Value) (hj : (ndsV ns)[j]? = some u) : w.cell? (ad.add j) = some u := by
  have hjl := (List.getElem?_eq_some_iff.1 hj).1
  rw [nds_len] at hjl
  obtain ⟨q, r, rfl, hr⟩ : ∃ q r, j = q * 6 + r ∧ r < 6 := ⟨j / 6, j % 6, by omega, by omega⟩
  rw [nds_at ns q (by omega) r hr] at hj
  obtain ⟨g, off, e, c0, c1, c2, c3, c4, c5⟩ := A q (by omega)
  cases e
  rw [Go.WideShapes.add_plain]
  rcases (show r = 0 ∨ r = 1 ∨ r = 2 ∨ r = 3 ∨ r = 4 ∨ r = 5 from by omega) with rfl | rfl | rfl | rfl | rfl | rfl
  · rw [← Nat.add_assoc, Nat.add_zero, c0, ← hj]; rfl
  · rw [← Nat.add_assoc, c1, ← hj]; rfl
  · rw [← Nat.add_assoc, c2, ← hj]; rfl
  · rw [← Nat.add_assoc, c3, ← hj]; rfl
  · rw [← Nat.add_assoc, c4, ← hj]; rfl
  · rw [← Nat.add_assoc, c5, ← hj]; rfl
theorem nds_ones (ns : List Nd) : ∀ u ∈ ndsV ns, u.oneCell' = true := by
  intro u hu
  unfold ndsV at hu
  obtain ⟨y, _, hy⟩ := List.mem_flatMap.1 hu
  exact nd_one y u hy
theorem nds_set : ∀ (ns : List Nd) (k j : Nat), k < ns.length → j < 6 → ∀ (u : Value) (n' : Nd), (ndA (ns.getD k noNd)).toList.set j u = (ndA n').toList → (ndsV ns).set (k * 6 + j) u = ndsV (ns.set k n')
  | [], k, j, hk, _, _, _, _ => by simp at hk
  | n :: t, 0, j, _, hj, u, n', h => by
    show ((ndA n).toList ++ ndsV t).set (0 * 6 + j) u = (ndA n').toList ++ ndsV t
    rw [Nat.zero_mul, Nat.zero_add, List.set_append_left _ _ (show j < (ndA n).toList.length from hj)]
    rw [show (ndA n).toList.set j u = (ndA n').toList from h]
  | n :: t, k + 1, j, hk, hj, u, n', h => by
    have hlen : (ndA n).toList.length = 6 := rfl
    show ((ndA n).toList ++ ndsV t).set ((k + 1) * 6 + j) u = (ndA n).toList ++ ndsV (t.set k n')
    rw [List.set_append_right _ _ (by omega), hlen, show (k + 1) * 6 + j - 6 = k * 6 + j by omega, nds_set t k j (by simpa using hk) hj u n' h]
/-- append of a whole row of nodes onto a row of one's own. -/
theorem wpList_append_nds {w : World} {ops : Array Oper} {rest : List Oper} {o : Oper} {a : Act} {Q : Exit → Act → World → Prop} (hgd : o.guard = none) (s x : Operand)
    (ho : o.op = .call { callee := .builtin .append, args := #[s, x], argTypes := #[22, 22] }) (v : Value) (base n : Nat) (xs : List Value) (hs : a.eval s = v) (O : w.ownsRow base 29 6 v n xs) (hb : base ≤ w.heap.size)
    (ao : Option Addr) (cap : Nat) (ts : List Nd) (hx : a.eval x = .slice ao ts.length cap) (hnone : ao = none → ts.length = 0 ∧ cap = 0) (A : IsNds w ao ts) (hl : (n + ts.length) * 64 ≤ 140737488351232)
    (h : ∀ v' w', w'.ownsRow base 29 6 v' (n + ts.length) (xs ++ ndsV ts) → w.grownBy w' v.ownBlock → wpList Tryz.prog ops Q rest (a.put o.dst v') w') : wpList Tryz.prog ops Q (o :: rest) a w := by
  obtain ⟨i3, ti, tz0, tz1, tz2⟩ := of_info nd_info
  have hlen := nds_len ts
  cases ao with
  | none =>
    obtain ⟨h0, rfl⟩ := hnone rfl
    refine wpList_plain hgd fun K hK' => ?_
    have hrun := run_append_owned_none (P := Tryz.prog) w base 22 o.type 29 i3 6 Tryz.underlying22 ti v n xs O
    have hts : ts = [] := List.length_eq_zero_iff.1 h0
    subst hts
    replace hx : a.eval x = .slice none 0 0 := hx
    unfold Oper.wp
    simp [execOp, ho, resolve, invoke, builtin, hs, hx, hrun, Result.andThen]
    refine hK' _ _ (h _ _ ?_ (World.grownBy.refl _ _))
    rw [show ndsV [] = [] from rfl, List.append_nil]
    exact O
  | some ad =>
    exact wpList_append_own (w := w) hgd s x 22 ho base 29 i3 (.agg (ndA noNd)) 6 64 Tryz.underlying22 ti tz0 tz1 tz2 rfl (by decide) v n xs hs O ad ts.length cap (ndsV ts) hx hlen (nds_cells A) (nds_ones ts) (by unfold maxLen; omega) (by omega) hb (fun v' w' h1 h2 _ => h v' w' h1 h2)
theorem nds_sub {w : World} {g o : Nat} {ns : List Nd} (A : IsNds w (some ⟨g, o, none⟩) ns) (f m : Nat) (h : f + m ≤ ns.length) : IsNds w (some ⟨g, o + f * 6, none⟩) ((ns.drop f).take m) := fun i hi => by
  have hi' : i < m := by simp at hi; omega
  obtain ⟨g', o', e, c0, c1, c2, c3, c4, c5⟩ := A (f + i) (by omega)
  cases e
  have hget : ((ns.drop f).take m).getD i noNd = ns.getD (f + i) noNd := by
    rw [List.getD_eq_getElem?_getD, List.getD_eq_getElem?_getD, List.getElem?_take, if_pos hi', List.getElem?_drop]
  rw [hget]
  refine ⟨g, o + f * 6, rfl, ?_⟩
  rw [show o + f * 6 + i * 6 = o + (f + i) * 6 by omega]
  exact ⟨c0, c1, c2, c3, c4, c5⟩
end Go.Proofs.YtlejhococjlijaaGreatDoor
