/- A local of two cells in memory of the call's own: what it holds, that it may be written, what it is behind a store, a call, a new block. -/
import Derived.WalkKit
namespace Go.Proofs.YtlejhococjlijaaGreatDoor
open Go.RowKit
set_option linter.unusedVariables false

def Two (w : World) (b : Nat) (x y : Value) (t : TypeId) : Prop := w.heap[b]? = some (.cells #[x, y] t (0, 0))

theorem Two.at0 {w : World} {b : Nat} {x y : Value} {t : TypeId} (h : Two w b x y t) : w.cell? ⟨b, 0, none⟩ = some x := by unfold Two at h; simp [World.cell?, h]
theorem Two.at1 {w : World} {b : Nat} {x y : Value} {t : TypeId} (h : Two w b x y t) : w.cell? ⟨b, 1, none⟩ = some y := by unfold Two at h; simp [World.cell?, h]
theorem Two.free {w : World} {b : Nat} {x y : Value} {t : TypeId} (h : Two w b x y t) (o : Nat) : w.frozen? ⟨b, o, none⟩ = false := by unfold Two at h; simp [World.frozen?, h]
theorem Two.lt {w : World} {b : Nat} {x y : Value} {t : TypeId} (h : Two w b x y t) : b < w.heap.size := by
  rcases Nat.lt_or_ge b w.heap.size with h' | h'
  · exact h'
  · unfold Two at h; simp [Array.getElem?_eq_none h'] at h
theorem Two.new (w : World) (x y : Value) (t : TypeId) : Two (w.alloc (.cells #[x, y] t)) w.heap.size x y t := by
  show (w.heap.push _)[w.heap.size]? = _
  simp
theorem Two.alloc {w : World} {b : Nat} {x y : Value} {t : TypeId} (h : Two w b x y t) (o : Obj) : Two (w.alloc o) b x y t := (Below.heap_alloc w o b h.lt).trans h
theorem Two.keep {w u : World} {b : Nat} {x y : Value} {t : TypeId} (h : Two w b x y t) (G : Below w.heap.size w u) : Two u b x y t := (G.block b h.lt).trans h
theorem Two.other {w : World} {b : Nat} {x y : Value} {t : TypeId} (h : Two w b x y t) {p : Addr} (hp : b ≠ p.block) (u : Value) : Two (w.setCell p u) b x y t := (Below.heap_setCell w p u b hp).trans h
theorem Two.drew {w : World} {b : Nat} {x y : Value} {t : TypeId} (h : Two w b x y t) : Two w.drew b x y t := h
theorem Two.set0 {w : World} {b : Nat} {x y : Value} {t : TypeId} (h : Two w b x y t) (u : Value) : Two (w.setCell ⟨b, 0, none⟩ u) b u y t := by
  have hlt := h.lt
  unfold Two at h
  have h' : w.heap[b] = .cells #[x, y] t (0, 0) := by simpa [Array.getElem?_eq_getElem hlt] using h
  show (w.heap.modify b _)[b]? = _
  rw [Array.getElem?_eq_getElem (by simpa using hlt), Array.getElem_modify_self, h']
  rfl
theorem Two.set1 {w : World} {b : Nat} {x y : Value} {t : TypeId} (h : Two w b x y t) (u : Value) : Two (w.setCell ⟨b, 1, none⟩ u) b x u t := by
  have hlt := h.lt
  unfold Two at h
  have h' : w.heap[b] = .cells #[x, y] t (0, 0) := by simpa [Array.getElem?_eq_getElem hlt] using h
  show (w.heap.modify b _)[b]? = _
  rw [Array.getElem?_eq_getElem (by simpa using hlt), Array.getElem_modify_self, h']
  rfl
theorem Two.set {w : World} {b : Nat} {x y : Value} {t : TypeId} (h : Two w b x y t) (u v : Value) : Two ((w.setCell ⟨b, 0, none⟩ u).setCell ⟨b, 1, none⟩ v) b u v t := (h.set0 u).set1 v

end Go.Proofs.YtlejhococjlijaaGreatDoor
