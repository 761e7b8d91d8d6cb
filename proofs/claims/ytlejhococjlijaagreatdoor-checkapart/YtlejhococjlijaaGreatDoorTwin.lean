/- A schema of the call's own; what the law's twin comes to. -/
import Derived.Test.YtlejhococjlijaaGreatDoorSch2
import Derived.Test.YtlejhococjlijaaGreatDoorTwo
import Derived.Deep.AppendLies
import Derived.Deep.RegionLaw
import Derived.OwnWalk
namespace Go.Proofs.YtlejhococjlijaaGreatDoor
open Go.RowKit Go.BigFrame
set_option linter.unusedVariables false
set_option linter.unusedSimpArgs false

def strsV (ss : List ByteArray) : List Value := ss.map Value.string
theorem strsV_more (ss : List ByteArray) (k : Nat) (h : k < ss.length) : strsV (ss.take k) ++ [.string (ss.getD k .empty)] = strsV (ss.take (k + 1)) := by
  unfold strsV
  rw [List.take_add_one]
  simp only [List.map_append, List.getD, List.getElem?_eq_getElem h, Option.getD_some, Option.toList_some, List.map_cons, List.map_nil]
/-- The value v holds the types L in memory that lies at base or behind. -/
def OwnT (base : Nat) (w : World) (v : Value) (n : Nat) (L : List Ty) : Prop :=
  L.length = n ∧ ∃ cells : List Value, w.ownsRow base 59 2 v n cells ∧ ∀ j, j < n → cells[j * 2]? = some (.string (L.getD j noTy).1) ∧
    ∃ aj cj, cells[j * 2 + 1]? = some (.slice aj (L.getD j noTy).2.length cj) ∧ w.ownsRow base 9 1 (.slice aj (L.getD j noTy).2.length cj) (L.getD j noTy).2.length (strsV (L.getD j noTy).2)
theorem OwnT.keep {base : Nat} {w u : World} {v : Value} {n : Nat} {L : List Ty} (h : OwnT base w v n L) (G : Below w.heap.size w u) : OwnT base u v n L := by
  obtain ⟨h0, cells, h1, h2⟩ := h
  refine ⟨h0, cells, own_keep h1 G, fun j hj => ?_⟩
  obtain ⟨e1, aj, cj, e2, e3⟩ := h2 j hj
  exact ⟨e1, aj, cj, e2, own_keep e3 G⟩
theorem OwnT.mono {base base' : Nat} {w : World} {v : Value} {n : Nat} {L : List Ty} (h : OwnT base w v n L) (hb : base' ≤ base) : OwnT base' w v n L := by
  obtain ⟨h0, cells, h1, h2⟩ := h
  refine ⟨h0, cells, own_mono h1 hb, fun j hj => ?_⟩
  obtain ⟨e1, aj, cj, e2, e3⟩ := h2 j hj
  exact ⟨e1, aj, cj, e2, own_mono e3 hb⟩
theorem OwnT.other {base : Nat} {w : World} {v : Value} {n : Nat} {L : List Ty} (h : OwnT base w v n L) {p : Addr} (hp : p.block < base) (u : Value) : OwnT base (w.setCell p u) v n L := by
  obtain ⟨h0, cells, h1, h2⟩ := h
  refine ⟨h0, cells, own_of_block h1 (fun g _ hg _ => Below.heap_setCell w p u g (by omega)), fun j hj => ?_⟩
  obtain ⟨e1, aj, cj, e2, e3⟩ := h2 j hj
  exact ⟨e1, aj, cj, e2, own_of_block e3 (fun g _ hg _ => Below.heap_setCell w p u g (by omega))⟩
theorem own_cell {w : World} {base : Nat} {e : TypeId} {size : Nat} {g n cap : Nat} {xs : List Value} (h : w.ownsRow base e size (.slice (some ⟨g, 0, none⟩) n cap) n xs) (j : Nat) (x : Value) (hj : xs[j]? = some x) : w.cell? ⟨g, j, none⟩ = some x := by
  obtain ⟨h1, h2⟩ := h
  rcases h2 with ⟨e1, _⟩ | ⟨g', cap', cur, e1, hb, hh, hc, hm, hs, ht⟩
  · simp at e1
  · simp only [Value.slice.injEq, Option.some.injEq, Addr.mk.injEq, and_true, true_and] at e1
    obtain ⟨rfl, rfl⟩ := e1
    rw [cell_of_row w g j cur e (0, 0) hh]
    have hjl := (List.getElem?_eq_some_iff.1 hj).1
    have e1 : cur.toList[j]? = xs[j]? := by rw [← ht, List.getElem?_take, if_pos (by omega)]
    have e2 : cur[j]? = cur.toList[j]? := by simp
    rw [e2, e1, hj]
theorem own_shape {w : World} {base : Nat} {e : TypeId} {size : Nat} {v : Value} {n : Nat} {xs : List Value} (h : w.ownsRow base e size v n xs) : ∃ ao cap, v = .slice ao n cap ∧ n ≤ 9223372036854775807 ∧ (n = 0 ∨ ∃ g, ao = some ⟨g, 0, none⟩ ∧ g < w.heap.size ∧ base ≤ g) := by
  obtain ⟨h1, h2⟩ := h
  rcases h2 with ⟨rfl, rfl⟩ | ⟨g, cap, cur, rfl, hb, hh, hc, hm, hs, ht⟩
  · exact ⟨_, _, rfl, by omega, .inl rfl⟩
  · exact ⟨_, _, rfl, by unfold maxLen at hm; omega, .inr ⟨g, rfl, lt_of_block hh, hb⟩⟩
theorem own_cap {w : World} {base : Nat} {e : TypeId} {size : Nat} {ao : Option Addr} {n cap : Nat} {xs : List Value} (h : w.ownsRow base e size (.slice ao n cap) n xs) : n ≤ cap := by
  rcases h.2 with ⟨e1, rfl⟩ | ⟨g, cap', cur, e1, _, _, hc, _⟩
  · exact Nat.zero_le _
  · simp only [Value.slice.injEq, true_and] at e1
    obtain ⟨_, rfl⟩ := e1
    exact hc
theorem OwnT.types {base : Nat} {w : World} {v : Value} {n : Nat} {L : List Ty} (h : OwnT base w v n L) : ∃ ao cap, v = .slice ao n cap ∧ IsTypes w ao n L := by
  obtain ⟨h0, cells, h1, h2⟩ := h
  obtain ⟨ao, cap, rfl, hn, hg⟩ := own_shape h1
  refine ⟨ao, cap, rfl, h0, hn, ?_⟩
  rcases hg with hg | ⟨g, rfl, hlt, hb⟩
  · exact .inl hg
  refine .inr ⟨g, 0, rfl, hlt, fun j hj => ?_⟩
  obtain ⟨e1, aj, cj, e2, e3⟩ := h2 j hj
  refine ⟨by rw [Nat.zero_add]; exact own_cell h1 _ _ e1, aj, cj, by rw [Nat.zero_add]; exact own_cell h1 _ _ e2, own_cap e3, ?_⟩
  obtain ⟨ao2, cap2, e4, hn2, hg2⟩ := own_shape e3
  simp only [Value.slice.injEq, true_and] at e4
  obtain ⟨rfl, rfl⟩ := e4
  refine ⟨rfl, hn2, ?_⟩
  rcases hg2 with hg2 | ⟨g2, rfl, hlt2, _⟩
  · exact .inl hg2
  refine .inr ⟨g2, 0, rfl, hlt2, fun i hi => ?_⟩
  rw [Nat.zero_add]
  have hi' : (L.getD j noTy).2[i]? = some ((L.getD j noTy).2.getD i .empty) := by
    rw [List.getD_eq_getElem?_getD (l := (L.getD j noTy).2), List.getElem?_eq_getElem hi]; rfl
  exact own_cell e3 _ _ (by unfold strsV; rw [List.getElem?_map, hi']; rfl)

theorem new2 (w : World) (x y : Value) (t : TypeId) (j : Nat) (u : Value) (h : [x, y][j]? = some u) : (w.alloc (.cells #[x, y] t)).cell? ((⟨w.heap.size, 0, none⟩ : Addr).add j) = some u := by
  rw [Go.WideShapes.add_plain, Nat.zero_add, World.cell?_alloc_new]
  simpa using h
theorem getD_take {α : Type} (l : List α) (k j : Nat) (d : α) (h : j < k) : (l.take k).getD j d = l.getD j d := by
  simp [List.getD, List.getElem?_take, h]
/-- A row of strings is not the row of types. -/
theorem row_apart {w : World} {base : Nat} {v : Value} {n : Nat} {xs : List Value} (h : w.ownsRow base 59 2 v n xs) {g : Nat} {cur : Array Value} (hg : w.heap[g]? = some (.cells cur 9 (0, 0))) : some g ≠ v.ownBlock := by
  rcases h.2 with ⟨rfl, _⟩ | ⟨g', cap', cur', rfl, hb, hh, r⟩
  · simp [Value.ownBlock]
  · simp only [Value.ownBlock, ne_eq, Option.some.injEq]
    intro e
    subst e
    rw [hg] at hh
    simp at hh
theorem infoS : (Tryz.prog.info? 9).map (fun i => (i.zero, i.size, i.bytes)) = some (some (.string ⟨#[]⟩), 1, 16) := by kernel_rfl
theorem info_partsS : ∃ i, Tryz.prog.info? 9 = some i ∧ i.zero = some (.string ⟨#[]⟩) ∧ i.size = 1 ∧ i.bytes = 16 := by
  have h := infoS
  cases hq : Tryz.prog.info? 9 with
  | none => simp [hq] at h
  | some i => simp [hq] at h; exact ⟨i, rfl, h.1, h.2.1, h.2.2⟩
theorem infoT : (Tryz.prog.info? 59).map (fun i => (i.zero, i.size, i.bytes)) = some (some (.agg #[.string ⟨#[]⟩, .slice none 0 0]), 2, 40) := by kernel_rfl
theorem info_partsT : ∃ i, Tryz.prog.info? 59 = some i ∧ i.zero = some (.agg #[.string ⟨#[]⟩, .slice none 0 0]) ∧ i.size = 2 ∧ i.bytes = 40 := by
  have h := infoT
  cases hq : Tryz.prog.info? 59 with
  | none => simp [hq] at h
  | some i => simp [hq] at h; exact ⟨i, rfl, h.1, h.2.1, h.2.2⟩

end Go.Proofs.YtlejhococjlijaaGreatDoor
