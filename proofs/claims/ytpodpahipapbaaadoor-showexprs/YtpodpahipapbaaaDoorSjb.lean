/- The document's answer for one node without operands. -/
import Derived.Test.YtpodpahipapbaaaDoorSja
namespace Go.Proofs.YtpodpahipapbaaaDoor
open Go.RowKit Go.BigFrame Go.Shelf Go.Proofs.YtpodpahipapbaaaDoor.Ev
set_option linter.unusedVariables false
set_option linter.unusedSimpArgs false

theorem jT_at (n : Nd) : jT (atP n).ts = n.v ++ ⟨#[32, 46, 32]⟩ ++ n.x := by
  unfold atP
  rw [(glue3 _ _ _).1, jT_app _ _ (by simp [nmP]) (by simp [nmP]), jT_app _ _ (by simp [nmP]) (by simp [fixP, fxL])]
  rw [show (nmP n.v).ts = [⟨1, n.v, 0, 0⟩] from rfl, show (nmP n.x).ts = [⟨1, n.x, 0, 0⟩] from rfl, show (fixP [8]).ts = [tkK 8] from rfl, jT_one, jT_one, jT_one, show spS (tkK 8) = ⟨#[46]⟩ from rfl]
  show n.v ++ blS ++ ⟨#[46]⟩ ++ blS ++ n.x = _
  apply ByteArray.ext
  simp only [blS, ByteArray.data_append, Array.append_assoc]
  rw [show (#[32, 46, 32] : Array UInt8) = #[32] ++ (#[46] ++ #[32]) from rfl, Array.append_assoc, Array.append_assoc]
theorem jT_count (n : Nd) : jT (glueP [fixP [46, 3], nmP n.v, fixP [4]]).ts = ⟨#[67, 79, 85, 78, 84, 32, 40, 32]⟩ ++ n.v ++ ⟨#[32, 41]⟩ := by
  rw [(glue3 _ _ _).1, jT_app _ _ (by simp [nmP]) (by simp [fixP, fxL]), jT_app _ _ (by simp [fixP, fxL]) (by simp [nmP])]
  rw [show (nmP n.v).ts = [⟨1, n.v, 0, 0⟩] from rfl, show (fixP [4]).ts = [tkK 4] from rfl, jT_one, jT_one, show spS (tkK 4) = ⟨#[41]⟩ from rfl, show jT (fixP [46, 3]).ts = ⟨#[67, 79, 85, 78, 84, 32, 40]⟩ by kernel_rfl]
  show ⟨#[67, 79, 85, 78, 84, 32, 40]⟩ ++ blS ++ n.v ++ blS ++ ⟨#[41]⟩ = _
  apply ByteArray.ext
  simp only [blS, ByteArray.data_append, Array.append_assoc]
  rw [show (#[67, 79, 85, 78, 84, 32, 40, 32] : Array UInt8) = #[67, 79, 85, 78, 84, 32, 40] ++ #[32] from rfl, show (#[32, 41] : Array UInt8) = #[32] ++ #[41] from rfl, Array.append_assoc]
/-- A local of three cells. -/
def Tri (w : World) (b : Nat) (x y z : Value) (t : TypeId) : Prop := w.heap[b]? = some (.cells #[x, y, z] t (0, 0))
theorem Tri.lt {w : World} {b : Nat} {x y z : Value} {t : TypeId} (h : Tri w b x y z t) : b < w.heap.size := lt_of_block h
theorem Tri.at {w : World} {b : Nat} {x y z : Value} {t : TypeId} (h : Tri w b x y z t) : w.cell? ⟨b, 0, none⟩ = some x ∧ w.cell? ⟨b, 1, none⟩ = some y ∧ w.cell? ⟨b, 2, none⟩ = some z := ⟨cell_of_row w b 0 _ _ _ h, cell_of_row w b 1 _ _ _ h, cell_of_row w b 2 _ _ _ h⟩
theorem Tri.free {w : World} {b : Nat} {x y z : Value} {t : TypeId} (h : Tri w b x y z t) (o : Nat) : w.frozen? ⟨b, o, none⟩ = false := by unfold Tri at h; simp [World.frozen?, h]
theorem Tri.new (w : World) (x y z : Value) (t : TypeId) : Tri (w.alloc (.cells #[x, y, z] t)) w.heap.size x y z t := by
  show (w.heap.push _)[w.heap.size]? = _
  simp
theorem Tri.alloc {w : World} {b : Nat} {x y z : Value} {t : TypeId} (h : Tri w b x y z t) (o : Obj) : Tri (w.alloc o) b x y z t := (Below.heap_alloc w o b h.lt).trans h
theorem Tri.keep {w u : World} {b : Nat} {x y z : Value} {t : TypeId} (h : Tri w b x y z t) (G : Below w.heap.size w u) : Tri u b x y z t := (G.block b h.lt).trans h
theorem Tri.set {w : World} {b : Nat} {x y z : Value} {t : TypeId} (h : Tri w b x y z t) (u v r : Value) : Tri (((w.setCell ⟨b, 0, none⟩ u).setCell ⟨b, 1, none⟩ v).setCell ⟨b, 2, none⟩ r) b u v r t := by
  have go : ∀ (w : World) (cs : Array Value) (o : Nat) (a : Value), w.heap[b]? = some (.cells cs t (0, 0)) → (w.setCell ⟨b, o, none⟩ a).heap[b]? = some (.cells (cs.setIfInBounds o a) t (0, 0)) := fun w cs o a h => by
    have hlt := lt_of_block h
    have h' : w.heap[b] = .cells cs t (0, 0) := by simpa [Array.getElem?_eq_getElem hlt] using h
    show (w.heap.modify b _)[b]? = _
    rw [Array.getElem?_eq_getElem (by simpa using hlt), Array.getElem_modify_self, h']
    rfl
  exact go _ _ 2 r (go _ _ 1 v (go _ _ 0 u h))

end Go.Proofs.YtpodpahipapbaaaDoor
