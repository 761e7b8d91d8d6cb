/- Small facts on worlds in which new memory alone was made; regions that draw their order and only read. -/
import Derived.Test.YtlejhococjlijaaGreatDoorRows
import Derived.WalkKit
import Derived.WalkSpells
import Derived.WalkLawsBesides
import Derived.Deep.RegionWith
import Derived.Deep.Cut
import Derived.Deep.QuietTactic
import Derived.BigQuiet
import Derived.ProofKit
import Derived.WideShapes
import Derived.Laws.OwnMore
namespace Go.Proofs.YtlejhococjlijaaGreatDoor
open Go.RowKit
set_option linter.unusedVariables false

theorem bcell {W w1 : World} (hb : Below W.heap.size W w1) : (∀ b o, b < W.heap.size → w1.cell? ⟨b, o, none⟩ = W.cell? ⟨b, o, none⟩) ∧ (∀ b o, b < W.heap.size → w1.frozen? ⟨b, o, none⟩ = W.frozen? ⟨b, o, none⟩) :=
  ⟨fun b o h => hb.cell (p := ⟨b, o, none⟩) h, fun b o h => hb.frozen (p := ⟨b, o, none⟩) h⟩
theorem gtrans {a b c : World} (h : Below a.heap.size a b) (k : Below b.heap.size b c) : Below a.heap.size a c := h.trans (k.mono h.size)
theorem galloc {a w : World} (h : Below a.heap.size a w) (o : Obj) : Below a.heap.size a (w.alloc o) := h.alloc h.size o
theorem gset {a w : World} (h : Below a.heap.size a w) {p : Addr} (hp : a.heap.size ≤ p.block) (u : Value) : Below a.heap.size a (w.setCell p u) := h.setCell hp u
theorem lt_of_cell {w : World} {p : Addr} {v : Value} (h : w.cell? p = some v) : p.block < w.heap.size := by
  rcases Nat.lt_or_ge p.block w.heap.size with h' | h'
  · exact h'
  · simp [World.cell?, Array.getElem?_eq_none h'] at h
theorem ret_bool {b : Bool} (h : b = true) : Ending.returned (.bool b) = .returned (.bool true) := by rw [h]

/-- A local of one cell. -/
def One (w : World) (b : Nat) (x : Value) (t : TypeId) : Prop := w.heap[b]? = some (.cells #[x] t (0, 0))
theorem One.at0 {w : World} {b : Nat} {x : Value} {t : TypeId} (h : One w b x t) : w.cell? ⟨b, 0, none⟩ = some x := cell_of_one h
theorem One.free {w : World} {b : Nat} {x : Value} {t : TypeId} (h : One w b x t) : w.frozen? ⟨b, 0, none⟩ = false := free_of_one h
theorem One.lt {w : World} {b : Nat} {x : Value} {t : TypeId} (h : One w b x t) : b < w.heap.size := lt_of_block h
theorem One.new (w : World) (x : Value) (t : TypeId) : One (w.alloc (.cells #[x] t)) w.heap.size x t := by
  show (w.heap.push _)[w.heap.size]? = _
  simp
theorem One.alloc {w : World} {b : Nat} {x : Value} {t : TypeId} (h : One w b x t) (o : Obj) : One (w.alloc o) b x t := (Below.heap_alloc w o b h.lt).trans h
theorem One.keep {w u : World} {b : Nat} {x : Value} {t : TypeId} (h : One w b x t) (G : Below w.heap.size w u) : One u b x t := (G.block b h.lt).trans h
theorem One.set {w : World} {b : Nat} {x : Value} {t : TypeId} (h : One w b x t) (u : Value) : One (w.setCell ⟨b, 0, none⟩ u) b u t := by
  have hlt := h.lt
  unfold One at h
  have h' : w.heap[b] = .cells #[x] t (0, 0) := by simpa [Array.getElem?_eq_getElem hlt] using h
  show (w.heap.modify b _)[b]? = _
  rw [Array.getElem?_eq_getElem (by simpa using hlt), Array.getElem_modify_self, h']
  rfl

/-- The worlds in which nothing of W has turned. -/
structure Ext (W : World) where
  X : World
  h : Below W.heap.size W X
theorem Ext.cell {W : World} (n : Ext W) (b o : Nat) (h : b < W.heap.size) : n.X.cell? ⟨b, o, none⟩ = W.cell? ⟨b, o, none⟩ := n.h.cell (p := ⟨b, o, none⟩) h
theorem wp_region_ext {P : Program} {id : Nat} {Q : Exit → Act → World → Prop} {a : Act} {w : World} {l : List Oper} (hm : P.follows .mixedOrders = true) (hB : Region.lexB .any l.toArray = true)
    (h : wpQuiet P l.toArray (fun X => ∃ n : Ext w, X = n.X) (fun a' => ∀ X, (∃ n : Ext w, X = n.X) → Q .normal a' X) l a) : (Code.region id l.toArray true).wp P Q a w :=
  wp_region_quiet (C := fun X => ∃ n : Ext w, X = n.X) hm hB ⟨⟨_, (Below.refl _ w).drew⟩, rfl⟩ (by simpa using h)
theorem ext_of {P : Program} {f : FuncId} {args : Array Value} {W : World} {n : Ext W} {v : Value}
    (h : Calls P f args n.X fun e w' => e = .returned v ∧ Below n.X.heap.size n.X w') : Calls P f args n.X fun e w'' => e = .returned v ∧ ∃ m : Ext W, w'' = m.X :=
  h.mono fun _ _ ⟨he, hb⟩ => ⟨he, ⟨_, gtrans n.h hb⟩, rfl⟩

theorem own_of_block {w u : World} {base : Nat} {e : TypeId} {size : Nat} {v : Value} {n : Nat} {xs : List Value} (h : w.ownsRow base e size v n xs) (hk : ∀ g cur, base ≤ g → w.heap[g]? = some (.cells cur e (0, 0)) → u.heap[g]? = w.heap[g]?) : u.ownsRow base e size v n xs := by
  obtain ⟨h1, h2⟩ := h
  refine ⟨h1, ?_⟩
  rcases h2 with h2 | ⟨g, cap, cur, rfl, hb, hh, r⟩
  · exact .inl h2
  · exact .inr ⟨g, cap, cur, rfl, hb, (hk g cur hb hh).trans hh, r⟩
theorem own_keep {w u : World} {base : Nat} {e : TypeId} {size : Nat} {v : Value} {n : Nat} {xs : List Value} (h : w.ownsRow base e size v n xs) (G : Below w.heap.size w u) : u.ownsRow base e size v n xs :=
  own_of_block h fun g _ _ hg => G.block g (lt_of_block hg)
theorem own_mono {w : World} {base base' : Nat} {e : TypeId} {size : Nat} {v : Value} {n : Nat} {xs : List Value} (h : w.ownsRow base e size v n xs) (hb : base' ≤ base) : w.ownsRow base' e size v n xs := by
  obtain ⟨h1, h2⟩ := h
  refine ⟨h1, ?_⟩
  rcases h2 with h2 | ⟨g, cap, cur, rfl, hb', r⟩
  · exact .inl h2
  · exact .inr ⟨g, cap, cur, rfl, Nat.le_trans hb hb', r⟩

/-- A node: its operator, number, variable, attribute, operands. -/
structure Nd where
  op : Int
  n : Int
  v : ByteArray
  x : ByteArray
  l : Int
  r : Int
abbrev eS : ByteArray := ⟨#[]⟩
def ndA (n : Nd) : Array Value := #[.int .i64 n.op, .int .i64 n.n, .string n.v, .string n.x, .int .i64 n.l, .int .i64 n.r]
def noNd : Nd := ⟨0, 0, eS, eS, 0, 0⟩
def ndsV (ns : List Nd) : List Value := ns.flatMap fun n => (ndA n).toList
def intsV (l : List Int) : List Value := l.map (Value.int .i64)

end Go.Proofs.YtlejhococjlijaaGreatDoor
