/- A schema of the call's own whose names may be written over: what is kept. -/
import Derived.Test.YtkpnnofonocilaaDoorTwin
namespace Go.Proofs.YtkpnnofonocilaaDoor
open Go.RowKit Go.BigFrame
set_option linter.unusedVariables false
set_option linter.unusedSimpArgs false

/-- The value v holds n types, the j-th with ms j attributes, in memory that lies at base or behind. -/
def Shape (base : Nat) (w : World) (v : Value) (n : Nat) (ms : Nat → Nat) : Prop :=
  ∃ cells : List Value, w.ownsRow base 35 2 v n cells ∧ ∀ j, j < n → (∃ s, cells[j * 2]? = some (.string s)) ∧
    ∃ aj cj ss, cells[j * 2 + 1]? = some (.slice aj (ms j) cj) ∧ w.ownsRow base 9 1 (.slice aj (ms j) cj) (ms j) (strsV ss)
theorem OwnT.shape {base : Nat} {w : World} {v : Value} {n : Nat} {L : List Ty} (h : OwnT base w v n L) : Shape base w v n (fun j => (L.getD j noTy).2.length) := by
  obtain ⟨_, cells, h1, h2⟩ := h
  exact ⟨cells, h1, fun j hj => by obtain ⟨e1, aj, cj, e2, e3⟩ := h2 j hj; exact ⟨⟨_, e1⟩, aj, cj, _, e2, e3⟩⟩
theorem Shape.keep {base : Nat} {w u : World} {v : Value} {n : Nat} {ms : Nat → Nat} (h : Shape base w v n ms) (G : Below w.heap.size w u) : Shape base u v n ms := by
  obtain ⟨cells, h1, h2⟩ := h
  exact ⟨cells, own_keep h1 G, fun j hj => by obtain ⟨e1, aj, cj, ss, e2, e3⟩ := h2 j hj; exact ⟨e1, aj, cj, ss, e2, own_keep e3 G⟩⟩
theorem Shape.own {base : Nat} {w : World} {v : Value} {n : Nat} {ms : Nat → Nat} (h : Shape base w v n ms) : ∃ L, OwnT base w v n L ∧ ∀ j, j < n → (L.getD j noTy).2.length = ms j := by
  obtain ⟨cells, h1, h2⟩ := h
  have h3 : ∀ j : Nat, ∃ t : Ty, j < n → cells[j * 2]? = some (.string t.1) ∧ ∃ aj cj, cells[j * 2 + 1]? = some (.slice aj (ms j) cj) ∧ w.ownsRow base 9 1 (.slice aj (ms j) cj) (ms j) (strsV t.2) := by
    intro j
    by_cases hj : j < n
    · obtain ⟨⟨s, e1⟩, aj, cj, ss, e2, e3⟩ := h2 j hj
      exact ⟨(s, ss), fun _ => ⟨e1, aj, cj, e2, e3⟩⟩
    · exact ⟨noTy, fun h => absurd h hj⟩
  let f : Nat → Ty := fun j => Classical.choose (h3 j)
  have hf : ∀ j, j < n → _ := fun j hj => Classical.choose_spec (h3 j) hj
  have hget : ∀ j, j < n → ((List.range n).map f).getD j noTy = f j := fun j hj => by simp [List.getD, hj]
  have hlen : ∀ j, j < n → (f j).2.length = ms j := fun j hj => by
    obtain ⟨_, aj, cj, _, e3⟩ := hf j hj
    have := e3.1
    unfold strsV at this
    rw [List.length_map, Nat.mul_one] at this
    exact this
  refine ⟨(List.range n).map f, ⟨by simp, cells, h1, fun j hj => ?_⟩, fun j hj => by rw [hget j hj]; exact hlen j hj⟩
  rw [hget j hj, hlen j hj]
  exact hf j hj
theorem own_other {w : World} {base : Nat} {e : TypeId} {size : Nat} {v : Value} {n : Nat} {xs : List Value} (h : w.ownsRow base e size v n xs) {p : Addr} (hp : ∀ g cur, w.heap[g]? = some (.cells cur e (0, 0)) → g ≠ p.block) (u : Value) : (w.setCell p u).ownsRow base e size v n xs :=
  own_of_block h fun g cur _ hh => Below.heap_setCell w p u g (hp g cur hh)
theorem own_block {w : World} {base : Nat} {e : TypeId} {size : Nat} {g n cap : Nat} {xs : List Value} (h : w.ownsRow base e size (.slice (some ⟨g, 0, none⟩) n cap) n xs) : ∃ cur, w.heap[g]? = some (.cells cur e (0, 0)) ∧ base ≤ g := by
  rcases h.2 with ⟨e1, _⟩ | ⟨g', cap', cur, e1, hb, hh, _⟩
  · simp at e1
  · simp only [Value.slice.injEq, Option.some.injEq, Addr.mk.injEq, and_true, true_and] at e1
    obtain ⟨rfl, rfl⟩ := e1
    exact ⟨cur, hh, hb⟩
theorem Shape.setName {base : Nat} {w : World} {g n cap : Nat} {ms : Nat → Nat} (h : Shape base w (.slice (some ⟨g, 0, none⟩) n cap) n ms) (k : Nat) (hk : k < n) (z : ByteArray) : Shape base (w.setCell ⟨g, k * 2, none⟩ (.string z)) (.slice (some ⟨g, 0, none⟩) n cap) n ms := by
  obtain ⟨cells, h1, h2⟩ := h
  obtain ⟨cur0, hb0, _⟩ := own_block h1
  have hcl : cells.length = n * 2 := h1.1
  refine ⟨cells.set (k * 2) (.string z), (h1.stored (k * 2) (.string z)).1, fun j hj => ?_⟩
  obtain ⟨⟨s, e1⟩, aj, cj, ss, e2, e3⟩ := h2 j hj
  refine ⟨?_, aj, cj, ss, ?_, own_other e3 (fun g' cur hh => ?_) _⟩
  · by_cases hjk : j = k
    · subst hjk; exact ⟨z, by rw [List.getElem?_set_self (by omega)]⟩
    · exact ⟨s, by rw [List.getElem?_set_ne (by omega)]; exact e1⟩
  · rw [List.getElem?_set_ne (by omega)]; exact e2
  · intro e
    have : g' = g := e
    subst this
    rw [hb0] at hh
    simp at hh
theorem Shape.setAttr {base : Nat} {w : World} {g n cap : Nat} {ms : Nat → Nat} (h : Shape base w (.slice (some ⟨g, 0, none⟩) n cap) n ms) {g2 m2 c2 : Nat} {ss2 : List ByteArray} (h5 : w.ownsRow base 9 1 (.slice (some ⟨g2, 0, none⟩) m2 c2) m2 (strsV ss2)) (k2 : Nat) (z : ByteArray) : Shape base (w.setCell ⟨g2, k2, none⟩ (.string z)) (.slice (some ⟨g, 0, none⟩) n cap) n ms := by
  obtain ⟨cells, h1, h2⟩ := h
  obtain ⟨cur2, hb2, _⟩ := own_block h5
  refine ⟨cells, own_other h1 (fun g' cur hh => ?_) _, fun j hj => ?_⟩
  · intro e
    have : g' = g2 := e
    subst this
    rw [hb2] at hh
    simp at hh
  obtain ⟨e1, aj, cj, ss, e2, e3⟩ := h2 j hj
  have e3' := e3
  obtain ⟨f1, f2⟩ := e3
  rcases f2 with f2 | ⟨g', cap', cur, e4, hb, hh, r⟩
  · exact ⟨e1, aj, cj, ss, e2, f1, .inl f2⟩
  simp only [Value.slice.injEq, true_and] at e4
  obtain ⟨rfl, rfl⟩ := e4
  by_cases hg : g' = g2
  · subst hg
    have := (e3'.stored k2 (.string z)).1
    refine ⟨e1, _, _, ss.set k2 z, e2, ?_⟩
    unfold strsV at this ⊢
    rw [List.map_set]
    exact this
  · exact ⟨e1, _, _, ss, e2, f1, .inr ⟨g', _, cur, rfl, hb, (Below.heap_setCell w _ _ g' hg).trans hh, r⟩⟩

theorem Shape.form {base : Nat} {w : World} {v : Value} {n : Nat} {ms : Nat → Nat} (h : Shape base w v n ms) : ∃ ao cap, v = .slice ao n cap ∧ n ≤ 9223372036854775807 ∧ (n = 0 ∨ ∃ g, ao = some ⟨g, 0, none⟩) := by
  obtain ⟨cells, h1, _⟩ := h
  obtain ⟨ao, cap, e, hn, hg⟩ := own_shape h1
  exact ⟨ao, cap, e, hn, hg.elim .inl fun ⟨g, e, _⟩ => .inr ⟨g, e⟩⟩
theorem Shape.name {base : Nat} {w : World} {g n cap : Nat} {ms : Nat → Nat} (h : Shape base w (.slice (some ⟨g, 0, none⟩) n cap) n ms) (j : Nat) (hj : j < n) : ∃ z, w.cell? ⟨g, j * 2, none⟩ = some (.string z) ∧ w.frozen? ⟨g, j * 2, none⟩ = false := by
  obtain ⟨cells, h1, h2⟩ := h
  obtain ⟨⟨s, e1⟩, _⟩ := h2 j hj
  exact ⟨s, own_cell h1 _ _ e1, h1.frozenAt _⟩
theorem Shape.attrs {base : Nat} {w : World} {g n cap : Nat} {ms : Nat → Nat} (h : Shape base w (.slice (some ⟨g, 0, none⟩) n cap) n ms) (j : Nat) (hj : j < n) : ∃ aj cj, w.cell? ⟨g, j * 2 + 1, none⟩ = some (.slice aj (ms j) cj) ∧ ms j ≤ 9223372036854775807 ∧
    (ms j = 0 ∨ ∃ g2 ss, aj = some ⟨g2, 0, none⟩ ∧ base ≤ g2 ∧ w.ownsRow base 9 1 (.slice (some ⟨g2, 0, none⟩) (ms j) cj) (ms j) (strsV ss) ∧ ∀ i, i < ms j → ∃ z, w.cell? ⟨g2, i, none⟩ = some (.string z) ∧ w.frozen? ⟨g2, i, none⟩ = false) := by
  obtain ⟨cells, h1, h2⟩ := h
  obtain ⟨_, aj, cj, ss, e2, e3⟩ := h2 j hj
  obtain ⟨_, _, e4, hn, hg⟩ := own_shape e3
  simp only [Value.slice.injEq, true_and] at e4
  obtain ⟨rfl, rfl⟩ := e4
  refine ⟨aj, cj, own_cell h1 _ _ e2, hn, ?_⟩
  rcases hg with hg | ⟨g2, rfl, _, hb⟩
  · exact .inl hg
  refine .inr ⟨g2, ss, rfl, hb, e3, fun i hi => ?_⟩
  have hl : ss.length = ms j := by
    have := e3.1
    unfold strsV at this
    rw [List.length_map, Nat.mul_one] at this
    exact this
  exact ⟨ss[i], own_cell e3 i _ (by unfold strsV; simp [List.getElem?_eq_getElem (show i < ss.length by omega)]), e3.frozenAt i⟩
theorem Shape.base {base : Nat} {w : World} {g n cap : Nat} {ms : Nat → Nat} (h : Shape base w (.slice (some ⟨g, 0, none⟩) n cap) n ms) : base ≤ g ∧ ∃ cur, w.heap[g]? = some (.cells cur 35 (0, 0)) := by
  obtain ⟨cells, h1, _⟩ := h
  obtain ⟨cur, hh, hb⟩ := own_block h1
  exact ⟨hb, cur, hh⟩

end Go.Proofs.YtkpnnofonocilaaDoor
