/- Rows of values of the call's own. -/
import Derived.Test.YtompfpeankcfeaaDoorAsked
namespace Go.Proofs.YtompfpeankcfeaaDoor
open Go.ChangeShapes Go.WideShapes Go.ChangeAt Go.RowKit Go.BigFrame
set_option linter.unusedVariables false
set_option linter.unusedSimpArgs false

def valsV : List V2 → List Value
  | [] => []
  | x :: r => .bool x.1 :: .int .i64 x.2 :: valsV r
theorem valsV_append (a b : List V2) : valsV (a ++ b) = valsV a ++ valsV b := by
  induction a with
  | nil => rfl
  | cons x a ih => simp [valsV, ih]
theorem valsV_length (a : List V2) : (valsV a).length = a.length * 2 := by
  induction a with
  | nil => rfl
  | cons x a ih => simp only [valsV, List.length_cons, ih]; omega
theorem valsV_at (a : List V2) (j : Nat) (h : j < a.length) : (valsV a)[j * 2]? = some (.bool (a.getD j noV).1) ∧ (valsV a)[j * 2 + 1]? = some (.int .i64 (a.getD j noV).2) := by
  induction a generalizing j with
  | nil => simp at h
  | cons x a ih =>
    cases j with
    | zero => simp [valsV]
    | succ j =>
      have := ih j (by simpa using h)
      have e1 : (j + 1) * 2 = j * 2 + 2 := by omega
      rw [e1]
      simpa [valsV] using this
theorem vals_of_own {w : World} {base : Nat} {v : Value} {n : Nat} {vs : List V2} (h : w.ownsRow base 25 2 v n (valsV vs)) (hf : ∀ j, fitsB (vs.getD j noV).2 = true) : ∃ ao cap, v = .slice ao n cap ∧ IsVals w ao n vs := by
  obtain ⟨h1, h2⟩ := h
  have hl : vs.length = n := by rw [valsV_length] at h1; omega
  rcases h2 with ⟨rfl, rfl⟩ | ⟨g, cap, cur, rfl, hb, hh, hc, hm, hs, ht⟩
  · exact ⟨none, 0, rfl, hl, by omega, hf, .inl rfl⟩
  · refine ⟨_, cap, rfl, hl, by unfold maxLen at hm; omega, hf, .inr ⟨g, 0, rfl, lt_of_block hh, fun j hj => ?_⟩⟩
    have key : ∀ i x, (valsV vs)[i]? = some x → w.cell? ⟨g, i, none⟩ = some x := fun i x hx => by
      have hi := (List.getElem?_eq_some_iff.1 hx).1
      rw [cell_of_row w g i cur _ (0, 0) hh]
      have e1 : cur.toList[i]? = (valsV vs)[i]? := by rw [← ht, List.getElem?_take, if_pos (by omega)]
      have e2 : cur[i]? = cur.toList[i]? := by simp
      rw [e2, e1, hx]
    obtain ⟨e1, e2⟩ := valsV_at vs j (by omega)
    rw [Nat.zero_add]
    exact ⟨key _ _ e1, key _ _ e2⟩
theorem own_keepV {w u : World} {base : Nat} {e : TypeId} {size : Nat} {v : Value} {n : Nat} {xs : List Value} (h : w.ownsRow base e size v n xs) (G : Below w.heap.size w u) : u.ownsRow base e size v n xs := by
  obtain ⟨h1, h2⟩ := h
  refine ⟨h1, ?_⟩
  rcases h2 with h2 | ⟨g, cap, cur, rfl, hb, hh, r⟩
  · exact .inl h2
  · exact .inr ⟨g, cap, cur, rfl, hb, (G.block g (lt_of_block hh)).trans hh, r⟩
theorem fits_snoc (vs : List V2) (x : V2) (h : ∀ j, fitsB (vs.getD j noV).2 = true) (hx : fitsB x.2 = true) : ∀ j, fitsB ((vs ++ [x]).getD j noV).2 = true := by
  intro j
  rcases Nat.lt_or_ge j vs.length with e | e
  · have : (vs ++ [x]).getD j noV = vs.getD j noV := by simp [List.getD, List.getElem?_append_left e]
    rw [this]; exact h j
  · rcases Nat.eq_or_lt_of_le e with e | e
    · subst e
      have : (vs ++ [x]).getD vs.length noV = x := by simp [List.getD]
      rw [this]; exact hx
    · have : (vs ++ [x]).getD j noV = noV := by simp [List.getD, List.getElem?_eq_none (show (vs ++ [x]).length ≤ j by simp; omega)]
      rw [this]; decide
theorem infoV : (Tryd.prog.info? 25).map (fun i => (i.zero, i.size, i.bytes)) = some (some (.agg #[.bool false, .int .i64 0]), 2, 16) := by kernel_rfl
theorem info_partsV : ∃ i, Tryd.prog.info? 25 = some i ∧ i.zero = some (.agg #[.bool false, .int .i64 0]) ∧ i.size = 2 ∧ i.bytes = 16 := by
  have h := infoV
  cases hq : Tryd.prog.info? 25 with
  | none => simp [hq] at h
  | some i => simp [hq] at h; exact ⟨i, rfl, h.1, h.2.1, h.2.2⟩
theorem new2 (w : World) (x y : Value) (t : TypeId) (j : Nat) (u : Value) (h : [x, y][j]? = some u) : (w.alloc (.cells #[x, y] t)).cell? ((⟨w.heap.size, 0, none⟩ : Addr).add j) = some u := by
  rw [add_plain, Nat.zero_add, World.cell?_alloc_new]
  simpa using h
theorem one_val (k : Bool) (y : Int) : ∀ u ∈ [Value.bool k, Value.int .i64 y], u.oneCell' = true := by
  intro u hu; simp at hu; rcases hu with rfl | rfl <;> rfl

theorem l3_of {u : World} {b : Nat} {x y : Value} {t : TypeId} {o : Obj} (h : Two (u.alloc o) b x y t) (hb : b ≠ u.heap.size) : b < u.heap.size := by
  have := h.lt
  simp at this
  omega

end Go.Proofs.YtompfpeankcfeaaDoor
