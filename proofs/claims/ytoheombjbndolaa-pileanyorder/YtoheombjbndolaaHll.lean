/- What is held, by the places. -/
import Derived.Test.YtoheombjbndolaaHlg
import Derived.Test.YtoheombjbndolaaOpenH
namespace Go.Proofs.Ytoheombjbndolaa
open Go.RowKit Go.BigFrame
set_option linter.unusedVariables false
set_option linter.unusedSimpArgs false

/-- Is the place k among those that are held? -/
def hel (L : List (Ev × Nat)) (k : Nat) : Bool := L.any fun y => y.2 == k
theorem hel_nil (k : Nat) : hel [] k = false := rfl
theorem hel_true {L : List (Ev × Nat)} {k : Nat} : hel L k = true ↔ ∃ y ∈ L, y.2 = k := by
  unfold hel
  rw [List.any_eq_true]
  constructor
  · rintro ⟨y, h, e⟩; exact ⟨y, h, by simpa using e⟩
  · rintro ⟨y, h, e⟩; exact ⟨y, h, by simpa using e⟩
theorem hel_ins (A : Ev × Nat → Ev × Nat → Bool) (x : Ev) (i : Nat) (L : List (Ev × Nat)) (k : Nat) : hel (ins A (x, i) L) k = if k = i then true else hel L k := by
  rw [Bool.eq_iff_iff, hel_true]
  split
  · rename_i e
    simp only [iff_true]
    exact ⟨(x, i), (ins_mem _ _ _).2 (.inl rfl), e.symm⟩
  · rename_i e
    rw [hel_true]
    constructor
    · rintro ⟨y, h, e2⟩
      rcases (ins_mem _ _ _).1 h with h | h
      · subst h; exact absurd e2.symm e
      · exact ⟨y, h, e2⟩
    · rintro ⟨y, h, e2⟩; exact ⟨y, (ins_mem _ _ _).2 (.inr h), e2⟩
/-- What is held stands in the list. -/
def In (M : List Ev) (i : Nat) (L : List (Ev × Nat)) : Prop := ∀ y ∈ L, M[y.2]? = some y.1 ∧ y.2 < i
theorem In.ins {M : List Ev} {i : Nat} {L : List (Ev × Nat)} (h : In M i L) (A : Ev × Nat → Ev × Nat → Bool) (hi : i < M.length) : In M (i + 1) (ins A (M.getD i zrEv, i) L) := fun y hy => by
  rcases (ins_mem _ _ _).1 hy with e | e
  · subst e
    exact ⟨by simp [List.getD_eq_getElem?_getD, hi], Nat.lt_succ_self _⟩
  · exact ⟨(h y e).1, Nat.lt_succ_of_lt (h y e).2⟩
theorem In.tail {M : List Ev} {i : Nat} {y : Ev × Nat} {L : List (Ev × Nat)} (h : In M i (y :: L)) : In M i L := fun z hz => h z (List.mem_cons_of_mem _ hz)
theorem hel_tail {M : List Ev} {i : Nat} {x : Ev} {k : Nat} {T : List (Ev × Nat)} (h : In M i ((x, k) :: T)) (hs : ((x, k) :: T).Pairwise fun a b => ahd evLt a b = true) (j : Nat) : hel T j = if j = k then false else hel ((x, k) :: T) j := by
  split
  · rename_i e
    subst e
    rw [Bool.eq_false_iff]
    intro e
    obtain ⟨y, hy, e2⟩ := hel_true.1 e
    have h1 := (h y (List.mem_cons_of_mem _ hy)).1
    have h2 := (h (x, j) List.mem_cons_self).1
    have e3 : y = (x, j) := by
      rw [e2] at h1
      have h2 : M[j]? = some x := h2
      rw [h2] at h1
      exact Prod.ext (Option.some.inj h1).symm e2
    have := (List.pairwise_cons.1 hs).1 y hy
    rw [e3, (ahd_swo evLt_swo).irr] at this
    cases this
  · rename_i e
    unfold hel
    rw [List.any_cons]
    have : ((x, k).2 == j) = false := by simp; omega
    rw [this, Bool.false_or]
/-- What stays is not before what is popped, and no even one is ahead of it. -/
theorem stays {M : List Ev} {i : Nat} {x : Ev} {k : Nat} {T : List (Ev × Nat)} (h : In M i ((x, k) :: T)) (hs : ((x, k) :: T).Pairwise fun a b => ahd evLt a b = true) (j : Nat) (hj : hel T j = true) : evLt (M.getD j zrEv) x = false ∧ (evLt x (M.getD j zrEv) = true ∨ k ≤ j) := by
  obtain ⟨y, hy, e2⟩ := hel_true.1 hj
  have h1 := (h y (List.mem_cons_of_mem _ hy)).1
  rw [e2] at h1
  have e3 : M.getD j zrEv = y.1 := by rw [List.getD_eq_getElem?_getD, h1]; rfl
  rw [e3]
  have hR := (List.pairwise_cons.1 hs).1 y hy
  unfold ahd at hR
  by_cases hlt : (x, k).2 < y.2
  · rw [if_pos hlt] at hR
    have hlt : k < y.2 := hlt
    exact ⟨by simpa using hR, .inr (by omega)⟩
  · rw [if_neg hlt] at hR
    exact ⟨evLt_swo.asym _ _ hR, .inl hR⟩
/-- A row of another type stays while a pile turns. -/
theorem Gb.rowIs {TP TL : TypeId} {sz : Nat} {β : Type} {cv : β → Array Value} {A : β × Nat → β × Nat → Bool} {z : β × Nat} {w u : World} {p base : Nat} {v : Value} {L : List (β × Nat)} {t : Nat} (G : Gb p v w u) (P : Pa TP TL sz cv A z w p base v L t) {b : Nat} {e1 : TypeId} {n : Nat} {f : Nat → Value} (R : w.rowIs b e1 n f) (h1 : e1 ≠ TP) (h2 : e1 ≠ TL) : u.rowIs b e1 n f := by
  obtain ⟨c, hb, _⟩ := id R
  have O : Bk w b c e1 := hb
  exact R.of_block ((G.loc P O h1 h2).trans hb.symm)
theorem Pa.setRow {TP TL : TypeId} {sz : Nat} {β : Type} {cv : β → Array Value} {A : β × Nat → β × Nat → Bool} {z : β × Nat} {w : World} {p base : Nat} {v : Value} {L : List (β × Nat)} {t : Nat} (P : Pa TP TL sz cv A z w p base v L t) {b : Nat} {e1 : TypeId} {n : Nat} {f : Nat → Value} (R : w.rowIs b e1 n f) (h1 : e1 ≠ TP) (h2 : e1 ≠ TL) (i : Nat) (y : Value) : Pa TP TL sz cv A z (w.setCell ⟨b, i, none⟩ y) p base v L t := by
  obtain ⟨c, hb, _⟩ := R
  refine P.same (Below.heap_setCell w ⟨b, i, none⟩ y p ?_) (fun g e => Below.heap_setCell w ⟨b, i, none⟩ y g ?_)
  · intro e
    have e : p = b := e
    subst e
    have h := P.blk
    unfold Bk at h
    rw [h] at hb
    simp only [Option.some.injEq, Obj.cells.injEq] at hb
    exact h1 hb.2.1.symm
  · intro e'
    have e' : g = b := e'
    subst e'
    obtain ⟨xs, R⟩ := P.row
    rcases R.2 with ⟨rfl, _⟩ | ⟨g1, c1, cur1, rfl, _, hh1, _⟩
    · simp [Value.ownBlock] at e
    · have : g1 = g := by simpa [Value.ownBlock] using e
      subst this
      rw [hh1] at hb
      simp only [Option.some.injEq, Obj.cells.injEq] at hb
      exact h2 hb.2.1.symm

end Go.Proofs.Ytoheombjbndolaa
