/- Lists of int64 in memory; their sums and extremes, element by element. -/
import Derived.Test.YtjeffmfnaihhjaaDoorBase
import Derived.Test.YtjeffmfnaihhjaaDoorKeep
import Derived.WideShapes
import Derived.Laws.OwnMore
namespace Go.Proofs.YtjeffmfnaihhjaaDoor
open Go.RowKit
set_option linter.unusedVariables false

/-- The slice that begins at ao with len elements holds the numbers zs. -/
def IsRow (w : World) (ao : Option Addr) (len : Nat) (zs : List Int) : Prop :=
  zs.length = len ∧ len ≤ 9223372036854775807 ∧ (∀ j, fitsB (zs.getD j 0) = true) ∧
    (len = 0 ∨ ∃ b off, ao = some ⟨b, off, none⟩ ∧ b < w.heap.size ∧ ∀ j, j < len → w.cell? ⟨b, off + j, none⟩ = some (.int .i64 (zs.getD j 0)))

theorem IsRow.keep {w u : World} {ao : Option Addr} {len : Nat} {zs : List Int} (h : IsRow w ao len zs) (G : Below w.heap.size w u) : IsRow u ao len zs := by
  obtain ⟨h1, h2, h3, h4⟩ := h
  refine ⟨h1, h2, h3, ?_⟩
  rcases h4 with h4 | ⟨b, off, e, hb, hc⟩
  · exact .inl h4
  · exact .inr ⟨b, off, e, Nat.lt_of_lt_of_le hb G.size, fun j hj => (G.cell (p := ⟨b, off + j, none⟩) hb).trans (hc j hj)⟩
theorem IsRow.nil (w : World) (ao : Option Addr) : IsRow w ao 0 [] := ⟨rfl, by omega, by intro j; simp; decide, .inl rfl⟩

def sumU (zs : List Int) : Nat → Int
  | 0 => 0
  | k + 1 => sumU zs k + zs.getD k 0
def step (g : Bool) (m y : Int) : Int := if g = true then (if m < y then y else m) else (if y < m then y else m)
def extU (g : Bool) (zs : List Int) : Nat → Int
  | 0 => zs.getD 0 0
  | k + 1 => step g (extU g zs k) (zs.getD (k + 1) 0)

theorem extU_at (g : Bool) (zs : List Int) (k : Nat) (h : 1 ≤ k) : extU g zs k = step g (extU g zs (k - 1)) (zs.getD k 0) := by
  obtain ⟨j, rfl⟩ : ∃ j, k = j + 1 := ⟨k - 1, by omega⟩
  simp [extU]
theorem sumU_bound (zs : List Int) (h : ∀ j, fitsB (zs.getD j 0) = true) (k : Nat) : -9223372036854775808 * (k : Int) ≤ sumU zs k ∧ sumU zs k ≤ 9223372036854775808 * (k : Int) := by
  induction k with
  | zero => simp [sumU]
  | succ k ih =>
    have := (fits_iff _).1 (h k)
    unfold sumU
    omega
theorem step_fits (g : Bool) (m y : Int) (h1 : fitsB m = true) (h2 : fitsB y = true) : fitsB (step g m y) = true := by
  unfold step; split <;> split <;> assumption
theorem extU_fits (g : Bool) (zs : List Int) (h : ∀ j, fitsB (zs.getD j 0) = true) (k : Nat) : fitsB (extU g zs k) = true := by
  induction k with
  | zero => exact h 0
  | succ k ih => exact step_fits g _ _ ih (h _)
theorem fits_getD (zs : List Int) (h : ∀ n ∈ zs, (Lit.int .i64 n).wf = true) (j : Nat) : fitsB (zs.getD j 0) = true := by
  by_cases hj : j < zs.length
  · have : zs.getD j 0 = zs[j] := by simp [List.getD, hj]
    rw [this]; exact fits_wf (h _ (List.getElem_mem hj))
  · have : zs.getD j 0 = 0 := by simp [List.getD, Nat.le_of_not_lt hj]
    rw [this]; decide

theorem isRow_open {W : World} {a : Addr} {len cap : Nat} {zs : List Int} (hl : len ≤ cap) (hm : cap ≤ maxLen) (hz : zs.length = cap) (hcell : ∀ i, i < zs.length → W.cell? (a.add i) = some (.int .i64 (zs.getD i 0))) (hwz : ∀ n ∈ zs, (Lit.int .i64 n).wf = true) : IsRow W (some a) len (zs.take len) := by
  refine ⟨by simp; omega, by unfold maxLen at hm; omega, fun j => fits_getD _ (fun n hn => hwz n (List.mem_of_mem_take hn)) j, ?_⟩
  rcases Nat.eq_zero_or_pos len with h0 | h0
  · exact .inl h0
  · refine .inr ?_
    obtain ⟨b, off, spot⟩ := a
    have hspot : spot = none := by simpa [Addr.add] using World.cell?_spot (hcell 0 (by omega))
    subst hspot
    refine ⟨b, off, rfl, lt_of_cell (hcell 0 (by omega)), fun j hj => ?_⟩
    have := hcell j (by omega)
    rw [Go.WideShapes.add_plain] at this
    rw [this]
    simp [List.getD, hj]
theorem isRow_news {w : World} {ad : Addr} {len : Nat} {zs : List Int} (h : IsRow w (some ad) len zs) (j : Nat) (u : Value) (hj : (zs.map (Value.int .i64))[j]? = some u) : w.cell? (ad.add j) = some u := by
  obtain ⟨h1, h2, h3, h4⟩ := h
  simp only [List.getElem?_map, Option.map_eq_some_iff] at hj
  obtain ⟨z, hz, rfl⟩ := hj
  have hlt := (List.getElem?_eq_some_iff.1 hz).1
  rcases h4 with h4 | ⟨b, off, e, hb, hc⟩
  · omega
  · simp only [Option.some.injEq] at e
    subst e
    rw [Go.WideShapes.add_plain, hc j (by omega)]
    simp [List.getD, hz]
theorem ints_one (zs : List Int) : ∀ u ∈ zs.map (Value.int .i64), u.oneCell' = true := by
  intro u hu
  simp only [List.mem_map] at hu
  obtain ⟨z, _, rfl⟩ := hu
  rfl
/-- An empty slice that was just laid. -/
theorem own_empty (w : World) (e : TypeId) : (w.alloc (.cells #[] e)).ownsRow w.heap.size e 1 (.slice (some ⟨w.heap.size, 0, none⟩) 0 0) 0 [] :=
  ⟨rfl, .inr ⟨w.heap.size, 0, #[], rfl, Nat.le_refl _, by show (w.heap.push _)[w.heap.size]? = _; simp, Nat.le_refl _, Nat.zero_le _, rfl, rfl⟩⟩
/-- A slice of the call's own, as a row. -/
theorem isRow_own {w : World} {base : Nat} {e : TypeId} {v : Value} {n : Nat} {zs : List Int} (h : w.ownsRow base e 1 v n (zs.map (Value.int .i64))) (hf : ∀ j, fitsB (zs.getD j 0) = true) :
    ∃ ao cap, v = .slice ao n cap ∧ IsRow w ao n zs ∧ (n = 0 ∨ ∃ g, ao = some ⟨g, 0, none⟩ ∧ base ≤ g) ∧ n ≤ cap := by
  obtain ⟨h1, h2⟩ := h
  have hlen : zs.length = n := by simpa using h1
  rcases h2 with ⟨rfl, rfl⟩ | ⟨g, cap, cur, rfl, hb, hh, hc, hm, hs, ht⟩
  · have : zs = [] := List.length_eq_zero_iff.1 hlen
    subst this
    exact ⟨none, 0, rfl, IsRow.nil _ _, .inl rfl, Nat.le_refl _⟩
  · refine ⟨_, cap, rfl, ⟨hlen, by unfold maxLen at hm; omega, hf, .inr ⟨g, 0, rfl, lt_of_block hh, fun j hj => ?_⟩⟩, .inr ⟨g, rfl, hb⟩, hc⟩
    rw [Nat.zero_add, cell_of_row w g j cur e (0, 0) hh]
    have e1 : cur.toList[j]? = (zs.map (Value.int .i64))[j]? := by rw [← ht, List.getElem?_take, if_pos (by omega)]
    have e2 : cur[j]? = cur.toList[j]? := by simp
    rw [e2, e1]
    simp [List.getD, List.getElem?_eq_getElem (show j < zs.length by omega)]

end Go.Proofs.YtjeffmfnaihhjaaDoor
