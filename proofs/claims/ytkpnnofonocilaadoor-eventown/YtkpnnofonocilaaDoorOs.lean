/- The rows of a schema that was answered, and of what is made of them, in memory. -/
import Derived.Test.YtkpnnofonocilaaDoorAk
import Derived.Test.YtkpnnofonocilaaDoorRt2
import Derived.Laws.IdiomStrings
namespace Go.Proofs.YtkpnnofonocilaaDoor
open Go.RowKit Go.BigFrame
set_option linter.unusedVariables false
set_option linter.unusedSimpArgs false

theorem own_ne {w : World} {b1 b2 : Nat} {e1 e2 : TypeId} {s1 s2 : Nat} {v1 v2 : Value} {n1 n2 : Nat} {x1 x2 : List Value} (h1 : w.ownsRow b1 e1 s1 v1 n1 x1) (h2 : w.ownsRow b2 e2 s2 v2 n2 x2) (he : e1 ≠ e2) (g : Nat) (hg : v1.ownBlock = some g) : v2.ownBlock ≠ some g := by
  intro hg2
  rcases h1.2 with ⟨rfl, _⟩ | ⟨g1, c1, u1, rfl, _, q1, _⟩
  · cases hg
  rcases h2.2 with ⟨rfl, _⟩ | ⟨g2, c2, u2, rfl, _, q2, _⟩
  · cases hg2
  have e1 : g1 = g := Option.some.inj hg
  have e2 : g2 = g := Option.some.inj hg2
  subst e1
  subst e2
  rw [q1] at q2
  simp only [Option.some.injEq, Obj.cells.injEq] at q2
  exact he q2.2.1
theorem own_strs {w : World} {base : Nat} {v : Value} {n : Nat} {ss : List ByteArray} (h : w.ownsRow base 9 1 v n (strsV ss)) : ∃ ao cap, v = .slice ao n cap ∧ IsStrs w ao n ss ∧ n ≤ cap := by
  obtain ⟨ao, cap, e, hs⟩ := isStrs_own h
  subst e
  exact ⟨ao, cap, rfl, hs, own_cap h⟩

abbrev mOf (L : List Ty) (j : Nat) : Nat := (L.getD j noTy).2.length
/-- The rows of a schema: the row of types and each one's row of attributes, whose strings are X. -/
structure Rows0 (base tp n : Nat) (L : List Ty) (C : List Value) (V : Nat → Value) (bt cv : Nat) (X : Nat → List ByteArray) (w : World) : Prop where
  typ : w.ownsRow base 35 2 (.slice (some ⟨bt, 0, none⟩) n cv) n C
  att : ∀ j, j < n → C[j * 2 + 1]? = some (V j)
  row : ∀ j, j < n → w.ownsRow base 9 1 (V j) (mOf L j) (strsV (X j))
  apt : ∀ i j, i < n → j < n → i ≠ j → ∀ g, (V i).ownBlock = some g → (V j).ownBlock ≠ some g
  top : ∀ j, j < n → ∀ g, (V j).ownBlock = some g → g < tp
  tbt : bt < tp
theorem Rows0.of {base tp n : Nat} {L : List Ty} {ao : Option Addr} {cv : Nat} {w : World} (h : OwnP base w (.slice ao n cv) n L) (hn : n ≠ 0) (ht : w.heap.size ≤ tp) : ∃ bt C V, ao = some ⟨bt, 0, none⟩ ∧ base ≤ bt ∧ (∀ j, j < n → C[j * 2]? = some (.string (L.getD j noTy).1)) ∧ Rows0 base tp n L C V bt cv (fun j => (L.getD j noTy).2) w := by
  obtain ⟨h0, C, h1, h2, h3⟩ := h
  obtain ⟨_, _, e, _, hs⟩ := own_shape h1
  simp only [Value.slice.injEq, true_and] at e
  obtain ⟨rfl, rfl⟩ := e
  rcases hs with hs | ⟨bt, rfl, hl, hb⟩
  · exact absurd hs hn
  refine ⟨bt, C, fun j => (C[j * 2 + 1]?).getD undef, rfl, hb, fun j hj => (h2 j hj).1, h1, fun j hj => ?_, fun j hj => ?_, fun i j hi hj hij g hg => ?_, fun j hj g hg => ?_, by omega⟩
  · obtain ⟨_, aj, cj, e2, _⟩ := h2 j hj
    rw [e2]; rfl
  · obtain ⟨_, aj, cj, e2, e3⟩ := h2 j hj
    rw [e2]; exact e3
  · obtain ⟨_, ai, ci, a2, _⟩ := h2 i hi
    obtain ⟨_, aj, cj, b2, _⟩ := h2 j hj
    try dsimp only at hg ⊢
    rw [a2] at hg
    rw [b2]
    rcases Nat.lt_or_gt_of_ne hij with hlt | hlt
    · exact h3 i j hlt hj _ _ g a2 b2 hg
    · exact fun e => h3 j i hlt hi _ _ g b2 a2 e hg
  · obtain ⟨_, aj, cj, e2, e3⟩ := h2 j hj
    try dsimp only at hg
    rw [e2] at hg
    have := (e3.lt g hg).2
    omega
section
variable {base tp n : Nat} {L : List Ty} {C : List Value} {V : Nat → Value} {bt cv : Nat} {X : Nat → List ByteArray} {w u : World}
theorem Rows0.ne (h : Rows0 base tp n L C V bt cv X w) (j : Nat) (hj : j < n) : (V j).ownBlock ≠ some bt := fun e => own_ne h.typ (h.row j hj) (by decide) bt rfl e
theorem Rows0.grown (h : Rows0 base tp n L C V bt cv X w) {r : Option Nat} (G : w.grownBy u r) (hr : ∀ g, r = some g → g ≠ bt ∧ ∀ j, j < n → (V j).ownBlock ≠ some g) : Rows0 base tp n L C V bt cv X u :=
  ⟨own_far h.typ G (fun k e e2 => (hr k e).1 (Option.some.inj e2).symm), h.att, fun j hj => own_far (h.row j hj) G (fun k e => (hr k e).2 j hj), h.apt, h.top, h.tbt⟩
theorem Rows0.far (h : Rows0 base tp n L C V bt cv X w) {r : Option Nat} (G : w.grownBy u r) (hr : ∀ g, r = some g → tp ≤ g) : Rows0 base tp n L C V bt cv X u :=
  h.grown G (fun g e => by
    have := hr g e
    refine ⟨fun e2 => by have := h.tbt; omega, fun j hj e2 => by have := h.top j hj g e2; omega⟩)
theorem Rows0.keep (h : Rows0 base tp n L C V bt cv X w) (G : Below w.heap.size w u) : Rows0 base tp n L C V bt cv X u :=
  ⟨own_keep h.typ G, h.att, fun j hj => own_keep (h.row j hj) G, h.apt, h.top, h.tbt⟩
/-- One row of attributes is written. -/
theorem Rows0.one (h : Rows0 base tp n L C V bt cv X w) (k : Nat) (hk : k < n) (Y : List ByteArray) (G : w.grownBy u (V k).ownBlock) (hY : u.ownsRow base 9 1 (V k) (mOf L k) (strsV Y)) : Rows0 base tp n L C V bt cv (fun j => if j = k then Y else X j) u :=
  ⟨own_far h.typ G (fun g e e2 => h.ne k hk (by rw [e]; exact e2.symm)), h.att, fun j hj => by
    by_cases e : j = k
    · subst e; rw [if_pos rfl]; exact hY
    · rw [if_neg e]; exact own_far (h.row j hj) G (fun g e2 => h.apt k j hk hj (fun e3 => e e3.symm) g e2), h.apt, h.top, h.tbt⟩
theorem Rows0.cellV (h : Rows0 base tp n L C V bt cv X w) (j : Nat) (hj : j < n) : w.cell? ⟨bt, j * 2 + 1, none⟩ = some (V j) := by
  rw [World.ownsRow.cellAt h.typ (j * 2 + 1) (by omega)]
  exact h.att j hj
theorem Rows0.cellC (h : Rows0 base tp n L C V bt cv X w) (j : Nat) (hj : j < n) {x : Value} (hx : C[j * 2]? = some x) : w.cell? ⟨bt, j * 2, none⟩ = some x := by
  rw [World.ownsRow.cellAt h.typ (j * 2) (by omega)]
  exact hx
theorem Rows0.lt (h : Rows0 base tp n L C V bt cv X w) : bt < w.heap.size ∧ base ≤ bt := by
  have := h.typ.lt bt rfl
  exact ⟨this.2, this.1⟩
end
/-- The grown copies: each with its marks. -/
structure Long (base N n : Nat) (L : List Ty) (V : Nat → Value) (mk : Nat → ByteArray) (k : Nat) (w : World) (vl : Value) (D : List Value) (W : Nat → Value) : Prop where
  own : w.ownsRow N 35 2 vl k D
  att : ∀ j, j < k → D[j * 2 + 1]? = some (W j)
  row : ∀ j, j < k → w.ownsRow base 9 1 (W j) (mOf L j + 3) (strsV ((L.getD j noTy).2 ++ [mk j, mk j, mk j]))
  blk : ∀ j, j < k → (W j).ownBlock = (V j).ownBlock ∨ ∀ g, (W j).ownBlock = some g → N ≤ g
section
variable {base N n : Nat} {L : List Ty} {V : Nat → Value} {mk : Nat → ByteArray} {k : Nat} {w u : World} {vl : Value} {D : List Value} {W : Nat → Value}
theorem Long.keep (h : Long base N n L V mk k w vl D W) (G : Below w.heap.size w u) : Long base N n L V mk k u vl D W := ⟨own_keep h.own G, h.att, fun j hj => own_keep (h.row j hj) G, h.blk⟩
/-- The k-th row of attributes is written behind its end. -/
theorem Long.one {tp C bt cv X} (h : Long base N n L V mk k w vl D W) (R : Rows0 base tp n L C V bt cv X w) (hk : k < n) (ht : tp ≤ N) (G : w.grownBy u (V k).ownBlock) : Long base N n L V mk k u vl D W := by
  refine ⟨own_far h.own G (fun g e e2 => own_ne h.own (R.row k hk) (by decide) g e2 e), h.att, fun j hj => own_far (h.row j hj) G (fun g e e2 => ?_), h.blk⟩
  rcases h.blk j hj with q | q
  · rw [q] at e2
    exact R.apt k j hk (by omega) (by omega) g e e2
  · have := q g e2
    have := R.top k hk g e
    omega
theorem Long.more (h : Long base N n L V mk k w vl D W) (x : Value) (y : Value) (vl' : Value) (G : w.grownBy u vl.ownBlock) (ho : u.ownsRow N 35 2 vl' (k + 1) (D ++ [x, y]))
    (hy : w.ownsRow base 9 1 y (mOf L k + 3) (strsV ((L.getD k noTy).2 ++ [mk k, mk k, mk k]))) (hb : y.ownBlock = (V k).ownBlock ∨ ∀ g, y.ownBlock = some g → N ≤ g) : Long base N n L V mk (k + 1) u vl' (D ++ [x, y]) (fun j => if j = k then y else W j) := by
  have hD : D.length = k * 2 := h.own.1
  have far : ∀ {m xs v}, w.ownsRow base 9 1 v m xs → u.ownsRow base 9 1 v m xs := fun hr => own_far hr G (fun g e e2 => own_ne h.own hr (by decide) g e e2)
  refine ⟨ho, fun j hj => ?_, fun j hj => ?_, fun j hj => ?_⟩
  · by_cases e : j = k
    · subst e
      try dsimp only
      rw [if_pos rfl, List.getElem?_append_right (by omega), show j * 2 + 1 - D.length = 1 by omega]
      rfl
    · skip
      rw [if_neg e, List.getElem?_append_left (by omega)]
      exact h.att j (by omega)
  · by_cases e : j = k
    · subst e; rw [if_pos rfl]; exact far hy
    · rw [if_neg e]; exact far (h.row j (by omega))
  · by_cases e : j = k
    · subst e; rw [if_pos rfl]; exact hb
    · rw [if_neg e]; exact h.blk j (by omega)
end

end Go.Proofs.YtkpnnofonocilaaDoor
