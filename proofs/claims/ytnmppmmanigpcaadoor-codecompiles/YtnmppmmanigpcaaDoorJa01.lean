/- Small facts on worlds in which new memory alone was made; regions that draw their order and only read. And what goes with it: 5 texts in one. -/
import Derived.Test.YtnmppmmanigpcaaDoorRows
import Derived.WalkKit
import Derived.WalkSpells
import Derived.WalkLawsBesides
import Derived.Deep.RegionWith
import Derived.Deep.Cut
import Derived.Deep.QuietTactic
import Derived.BigQuiet
import Derived.ProofKit
import Derived.WideShapes
import Derived.Laws.OwnMore
import Derived.Deep.Onto
import Derived.Deep.AppendLies
import Derived.ChangeArms
import Derived.ChangeSame
import Derived.SizedLaws
import Derived.Lib.SmallJoins
import Derived.Deep.RegionLaw
import Derived.ChangeSlices
import Derived.OwnWalk
namespace Go.Proofs.YtnmppmmanigpcaaDoor
open Go.RowKit
set_option linter.unusedVariables false

theorem bcell {W w1 : World} (hb : Below W.heap.size W w1) : (∀ b o, b < W.heap.size → w1.cell? ⟨b, o, none⟩ = W.cell? ⟨b, o, none⟩) ∧ (∀ b o, b < W.heap.size → w1.frozen? ⟨b, o, none⟩ = W.frozen? ⟨b, o, none⟩) :=
  ⟨fun b o h => hb.cell (p := ⟨b, o, none⟩) h, fun b o h => hb.frozen (p := ⟨b, o, none⟩) h⟩
theorem gtrans {a b c : World} (h : Below a.heap.size a b) (k : Below b.heap.size b c) : Below a.heap.size a c := h.trans (k.mono h.size)
theorem galloc {a w : World} (h : Below a.heap.size a w) (o : Obj) : Below a.heap.size a (w.alloc o) := h.alloc h.size o
theorem gset {a w : World} (h : Below a.heap.size a w) {p : Addr} (hp : a.heap.size ≤ p.block) (u : Value) : Below a.heap.size a (w.setCell p u) := h.setCell hp u
theorem lt_of_cell {w : World} {p : Addr} {v : Value} (h : w.cell? p = some v) : p.block < w.heap.size := by
  rcases Nat.lt_or_ge p.block w.heap.size with h' | h'
  · exact h'
  · simp [World.cell?, Array.getElem?_eq_none h'] at h
theorem ret_bool {b : Bool} (h : b = true) : Ending.returned (.bool b) = .returned (.bool true) := by rw [h]

/-- A local of one cell. -/
def One (w : World) (b : Nat) (x : Value) (t : TypeId) : Prop := w.heap[b]? = some (.cells #[x] t (0, 0))
theorem One.at0 {w : World} {b : Nat} {x : Value} {t : TypeId} (h : One w b x t) : w.cell? ⟨b, 0, none⟩ = some x := cell_of_one h
theorem One.free {w : World} {b : Nat} {x : Value} {t : TypeId} (h : One w b x t) : w.frozen? ⟨b, 0, none⟩ = false := free_of_one h
theorem One.lt {w : World} {b : Nat} {x : Value} {t : TypeId} (h : One w b x t) : b < w.heap.size := lt_of_block h
theorem One.new (w : World) (x : Value) (t : TypeId) : One (w.alloc (.cells #[x] t)) w.heap.size x t := by
  show (w.heap.push _)[w.heap.size]? = _
  simp
theorem One.alloc {w : World} {b : Nat} {x : Value} {t : TypeId} (h : One w b x t) (o : Obj) : One (w.alloc o) b x t := (Below.heap_alloc w o b h.lt).trans h
theorem One.keep {w u : World} {b : Nat} {x : Value} {t : TypeId} (h : One w b x t) (G : Below w.heap.size w u) : One u b x t := (G.block b h.lt).trans h
theorem One.set {w : World} {b : Nat} {x : Value} {t : TypeId} (h : One w b x t) (u : Value) : One (w.setCell ⟨b, 0, none⟩ u) b u t := by
  have hlt := h.lt
  unfold One at h
  have h' : w.heap[b] = .cells #[x] t (0, 0) := by simpa [Array.getElem?_eq_getElem hlt] using h
  show (w.heap.modify b _)[b]? = _
  rw [Array.getElem?_eq_getElem (by simpa using hlt), Array.getElem_modify_self, h']
  rfl

/-- The worlds in which nothing of W has turned. -/
structure Ext (W : World) where
  X : World
  h : Below W.heap.size W X
theorem Ext.cell {W : World} (n : Ext W) (b o : Nat) (h : b < W.heap.size) : n.X.cell? ⟨b, o, none⟩ = W.cell? ⟨b, o, none⟩ := n.h.cell (p := ⟨b, o, none⟩) h
theorem wp_region_ext {P : Program} {id : Nat} {Q : Exit → Act → World → Prop} {a : Act} {w : World} {l : List Oper} (hm : P.follows .mixedOrders = true) (hB : Region.lexB .any l.toArray = true)
    (h : wpQuiet P l.toArray (fun X => ∃ n : Ext w, X = n.X) (fun a' => ∀ X, (∃ n : Ext w, X = n.X) → Q .normal a' X) l a) : (Code.region id l.toArray true).wp P Q a w :=
  wp_region_quiet (C := fun X => ∃ n : Ext w, X = n.X) hm hB ⟨⟨_, (Below.refl _ w).drew⟩, rfl⟩ (by simpa using h)
theorem ext_of {P : Program} {f : FuncId} {args : Array Value} {W : World} {n : Ext W} {v : Value}
    (h : Calls P f args n.X fun e w' => e = .returned v ∧ Below n.X.heap.size n.X w') : Calls P f args n.X fun e w'' => e = .returned v ∧ ∃ m : Ext W, w'' = m.X :=
  h.mono fun _ _ ⟨he, hb⟩ => ⟨he, ⟨_, gtrans n.h hb⟩, rfl⟩

theorem own_of_block {w u : World} {base : Nat} {e : TypeId} {size : Nat} {v : Value} {n : Nat} {xs : List Value} (h : w.ownsRow base e size v n xs) (hk : ∀ g cur, base ≤ g → w.heap[g]? = some (.cells cur e (0, 0)) → u.heap[g]? = w.heap[g]?) : u.ownsRow base e size v n xs := by
  obtain ⟨h1, h2⟩ := h
  refine ⟨h1, ?_⟩
  rcases h2 with h2 | ⟨g, cap, cur, rfl, hb, hh, r⟩
  · exact .inl h2
  · exact .inr ⟨g, cap, cur, rfl, hb, (hk g cur hb hh).trans hh, r⟩
theorem own_keep {w u : World} {base : Nat} {e : TypeId} {size : Nat} {v : Value} {n : Nat} {xs : List Value} (h : w.ownsRow base e size v n xs) (G : Below w.heap.size w u) : u.ownsRow base e size v n xs :=
  own_of_block h fun g _ _ hg => G.block g (lt_of_block hg)
theorem own_mono {w : World} {base base' : Nat} {e : TypeId} {size : Nat} {v : Value} {n : Nat} {xs : List Value} (h : w.ownsRow base e size v n xs) (hb : base' ≤ base) : w.ownsRow base' e size v n xs := by
  obtain ⟨h1, h2⟩ := h
  refine ⟨h1, ?_⟩
  rcases h2 with h2 | ⟨g, cap, cur, rfl, hb', r⟩
  · exact .inl h2
  · exact .inr ⟨g, cap, cur, rfl, Nat.le_trans hb hb', r⟩

/-- A node: its operator, number, variable, attribute, operands. -/
structure Nd where
  op : Int
  n : Int
  v : ByteArray
  x : ByteArray
  l : Int
  r : Int
abbrev eS : ByteArray := ⟨#[]⟩
def ndA (n : Nd) : Array Value := #[.int .i64 n.op, .int .i64 n.n, .string n.v, .string n.x, .int .i64 n.l, .int .i64 n.r]
def noNd : Nd := ⟨0, 0, eS, eS, 0, 0⟩
def ndsV (ns : List Nd) : List Value := ns.flatMap fun n => (ndA n).toList
def intsV (l : List Int) : List Value := l.map (Value.int .i64)

end Go.Proofs.YtnmppmmanigpcaaDoor
namespace Go.Proofs.YtnmppmmanigpcaaDoor
open Go.RowKit Go.BigFrame
set_option linter.unusedVariables false
set_option linter.unusedSimpArgs false

/-- A slice that is nil where it begins nowhere. -/
def Sl (ao : Option Addr) (n c : Nat) : Prop := n ≤ c ∧ (ao = none → n = 0 ∧ c = 0)
theorem own_form {w : World} {base : Nat} {e : TypeId} {size : Nat} {v : Value} {n : Nat} {xs : List Value} (h : w.ownsRow base e size v n xs) : ∃ ao cap, v = .slice ao n cap ∧ n ≤ cap ∧ n ≤ 9223372036854775807 ∧ (n = 0 ∨ ∃ g, ao = some ⟨g, 0, none⟩ ∧ g < w.heap.size ∧ base ≤ g) := by
  obtain ⟨h1, h2⟩ := h
  rcases h2 with ⟨rfl, rfl⟩ | ⟨g, cap, cur, rfl, hb, hh, hc, hm, hs, ht⟩
  · exact ⟨_, _, rfl, Nat.zero_le _, by omega, .inl rfl⟩
  · exact ⟨_, _, rfl, hc, by unfold maxLen at hm; omega, .inr ⟨g, rfl, lt_of_block hh, hb⟩⟩
theorem nf_info {P : Program} {e : TypeId} {z : Value} {s b : Nat} (h : (P.info? e).map (fun i => (i.zero, i.size, i.bytes)) = some (some z, s, b)) : ∃ i, P.info? e = some i ∧ i.zero = some z ∧ i.size = s ∧ i.bytes = b := by
  cases hi : P.info? e with
  | none => rw [hi] at h; cases h
  | some i => rw [hi] at h; simp at h; exact ⟨i, rfl, h.1, h.2.1, h.2.2⟩
/-- Rows of another type are not met. -/
theorem ty_far {w u : World} {b1 b2 : Nat} {e1 e2 : TypeId} {s1 s2 : Nat} {v1 v2 : Value} {n1 n2 : Nat} {x1 x2 : List Value} (h1 : w.ownsRow b1 e1 s1 v1 n1 x1) (h2 : w.ownsRow b2 e2 s2 v2 n2 x2) (hT : e1 ≠ e2) (G : w.grownBy u v1.ownBlock) : u.ownsRow b2 e2 s2 v2 n2 x2 := by
  refine own_of_block h2 fun g cur hb hh => G.block g (lt_of_block hh) fun e => ?_
  rcases h1.2 with ⟨rfl, _⟩ | ⟨g1, c1, cur1, rfl, _, hh1, _⟩
  · cases e
  · cases e
    rw [hh1] at hh
    simp only [Option.some.injEq, Obj.cells.injEq] at hh
    exact hT hh.2.1
theorem ty_set {w : World} {b2 : Nat} {e2 : TypeId} {s2 : Nat} {v2 : Value} {n2 : Nat} {x2 : List Value} (h2 : w.ownsRow b2 e2 s2 v2 n2 x2) {b : Nat} {c : Array Value} {t : TypeId} {f : Nat × Nat} (hb : w.heap[b]? = some (.cells c t f)) (hT : t ≠ e2) (o : Nat) (u : Value) : (w.setCell ⟨b, o, none⟩ u).ownsRow b2 e2 s2 v2 n2 x2 := by
  refine own_of_block h2 fun g cur _ hh => ?_
  have hne : b ≠ g := fun e => by
    subst e
    rw [hb] at hh
    simp only [Option.some.injEq, Obj.cells.injEq] at hh
    exact hT hh.2.1
  show (w.heap.modify b _)[g]? = _
  rw [Array.getElem?_modify, if_neg hne]
/-- Only the block b may have turned. -/
def But (b : Nat) (w u : World) : Prop := ∀ k, k ≠ b → u.heap[k]? = w.heap[k]?
theorem But.refl (b : Nat) (w : World) : But b w w := fun _ _ => rfl
theorem But.set {b : Nat} {w u : World} (h : But b w u) (o : Nat) (v : Value) : But b w (u.setCell ⟨b, o, none⟩ v) := fun k hk => by
  rw [← h k hk]
  show (u.heap.modify b _)[k]? = _
  rw [Array.getElem?_modify, if_neg (fun e => hk e.symm)]
theorem own_but {w u : World} {b2 : Nat} {e2 : TypeId} {s2 : Nat} {v2 : Value} {n2 : Nat} {x2 : List Value} (h2 : w.ownsRow b2 e2 s2 v2 n2 x2) {b : Nat} {c : Array Value} {t : TypeId} {f : Nat × Nat} (hb : w.heap[b]? = some (.cells c t f)) (hT : t ≠ e2) (B : But b w u) : u.ownsRow b2 e2 s2 v2 n2 x2 :=
  own_of_block h2 fun g cur _ hh => B g fun e => by
    subst e
    rw [hb] at hh
    simp only [Option.some.injEq, Obj.cells.injEq] at hh
    exact hT hh.2.1
/-- A row of one's own as it is read. -/
theorem own_sl {w : World} {b : Nat} {e : TypeId} {s : Nat} {ao : Option Addr} {n c : Nat} {xs : List Value} (h : w.ownsRow b e s (.slice ao n c) n xs) : Sl ao n c := by
  rcases h.2 with ⟨h1, h2⟩ | ⟨g, c', cur, h1, _, _, h2, _⟩
  · cases h1; exact ⟨Nat.le_refl _, fun _ => ⟨rfl, rfl⟩⟩
  · cases h1; exact ⟨h2, fun e => by cases e⟩
/-- A block whose cells are known. -/
theorem Bk.go {b : Nat} {t : TypeId} (w : World) (cs : Array Value) (o : Nat) (a : Value) (h : w.heap[b]? = some (.cells cs t (0, 0))) : (w.setCell ⟨b, o, none⟩ a).heap[b]? = some (.cells (cs.setIfInBounds o a) t (0, 0)) := by
  have hlt := lt_of_block h
  have h' : w.heap[b] = .cells cs t (0, 0) := by simpa [Array.getElem?_eq_getElem hlt] using h
  show (w.heap.modify b _)[b]? = _
  rw [Array.getElem?_eq_getElem (by simpa using hlt), Array.getElem_modify_self, h']
  rfl
def Bk (w : World) (b : Nat) (cs : Array Value) (t : TypeId) : Prop := w.heap[b]? = some (.cells cs t (0, 0))
theorem Bk.new (w : World) (cs : Array Value) (t : TypeId) : Bk (w.alloc (.cells cs t)) w.heap.size cs t := by
  show (w.heap.push _)[w.heap.size]? = _
  simp
theorem Bk.lt {w : World} {b : Nat} {cs : Array Value} {t : TypeId} (h : Bk w b cs t) : b < w.heap.size := lt_of_block h
theorem Bk.keep {w u : World} {b : Nat} {cs : Array Value} {t : TypeId} (h : Bk w b cs t) (G : Below w.heap.size w u) : Bk u b cs t := (G.block b h.lt).trans h
theorem Bk.alloc {w : World} {b : Nat} {cs : Array Value} {t : TypeId} (h : Bk w b cs t) (o : Obj) : Bk (w.alloc o) b cs t := (Below.heap_alloc w o b h.lt).trans h
theorem Bk.at2 {w : World} {b : Nat} {c0 c1 : Value} {t : TypeId} (h : Bk w b #[c0, c1] t) : w.cell? ⟨b, 0, none⟩ = some c0 ∧ w.cell? ⟨b, 1, none⟩ = some c1 := ⟨cell_of_row w b 0 _ _ _ h, cell_of_row w b 1 _ _ _ h⟩
theorem Bk.at4 {w : World} {b : Nat} {c0 c1 c2 c3 : Value} {t : TypeId} (h : Bk w b #[c0, c1, c2, c3] t) : w.cell? ⟨b, 0, none⟩ = some c0 ∧ w.cell? ⟨b, 1, none⟩ = some c1 ∧ w.cell? ⟨b, 2, none⟩ = some c2 ∧ w.cell? ⟨b, 3, none⟩ = some c3 := ⟨cell_of_row w b 0 _ _ _ h, cell_of_row w b 1 _ _ _ h, cell_of_row w b 2 _ _ _ h, cell_of_row w b 3 _ _ _ h⟩
/-- A local of seven cells. -/
theorem Bk.at7 {w : World} {b : Nat} {c0 c1 c2 c3 c4 c5 c6 : Value} {t : TypeId} (h : Bk w b #[c0, c1, c2, c3, c4, c5, c6] t) : w.cell? ⟨b, 0, none⟩ = some c0 ∧ w.cell? ⟨b, 1, none⟩ = some c1 ∧ w.cell? ⟨b, 2, none⟩ = some c2 ∧ w.cell? ⟨b, 3, none⟩ = some c3 ∧ w.cell? ⟨b, 4, none⟩ = some c4 ∧ w.cell? ⟨b, 5, none⟩ = some c5 ∧ w.cell? ⟨b, 6, none⟩ = some c6 :=
  ⟨cell_of_row w b 0 _ _ _ h, cell_of_row w b 1 _ _ _ h, cell_of_row w b 2 _ _ _ h, cell_of_row w b 3 _ _ _ h, cell_of_row w b 4 _ _ _ h, cell_of_row w b 5 _ _ _ h, cell_of_row w b 6 _ _ _ h⟩
theorem Bk.free {w : World} {b : Nat} {cs : Array Value} {t : TypeId} (h : Bk w b cs t) (o : Nat) : w.frozen? ⟨b, o, none⟩ = false := by unfold Bk at h; simp [World.frozen?, h]
theorem Bk.set {w : World} {b : Nat} {cs : Array Value} {t : TypeId} (h : Bk w b cs t) (o : Nat) (v : Value) : Bk (w.setCell ⟨b, o, none⟩ v) b (cs.setIfInBounds o v) t := Bk.go w cs o v h
theorem Bk.other {w : World} {b : Nat} {cs : Array Value} {t : TypeId} (h : Bk w b cs t) {b' : Nat} (hne : b' ≠ b) (o : Nat) (v : Value) : Bk (w.setCell ⟨b', o, none⟩ v) b cs t := by
  unfold Bk at h ⊢
  rw [← h]
  show (w.heap.modify b' _)[b]? = _
  rw [Array.getElem?_modify, if_neg hne]
theorem Bk.newE {w : World} {g : Nat} (hg : g = w.heap.size) (cs : Array Value) (t : TypeId) : Bk (w.alloc (.cells cs t)) g cs t := by subst hg; exact Bk.new w cs t
theorem bk_far {w u : World} {b : Nat} {cs : Array Value} {t : TypeId} (h : Bk w b cs t) {b1 : Nat} {e1 : TypeId} {s1 : Nat} {v1 : Value} {n1 : Nat} {x1 : List Value} (h1 : w.ownsRow b1 e1 s1 v1 n1 x1) (hT : t ≠ e1) (G : w.grownBy u v1.ownBlock) : Bk u b cs t := by
  refine (G.block b h.lt fun e => ?_).trans h
  rcases h1.2 with ⟨rfl, _⟩ | ⟨g1, c1, cur1, rfl, _, hh1, _⟩
  · cases e
  · cases e
    unfold Bk at h
    rw [hh1] at h
    simp only [Option.some.injEq, Obj.cells.injEq] at h
    exact hT h.2.1.symm
theorem Bk.at5 {w : World} {b : Nat} {c0 c1 c2 c3 c4 : Value} {t : TypeId} (h : Bk w b #[c0, c1, c2, c3, c4] t) : w.cell? ⟨b, 0, none⟩ = some c0 ∧ w.cell? ⟨b, 1, none⟩ = some c1 ∧ w.cell? ⟨b, 2, none⟩ = some c2 ∧ w.cell? ⟨b, 3, none⟩ = some c3 ∧ w.cell? ⟨b, 4, none⟩ = some c4 := ⟨cell_of_row w b 0 _ _ _ h, cell_of_row w b 1 _ _ _ h, cell_of_row w b 2 _ _ _ h, cell_of_row w b 3 _ _ _ h, cell_of_row w b 4 _ _ _ h⟩
/-- A local of three cells. -/
theorem Bk.at3 {w : World} {b : Nat} {c0 c1 c2 : Value} {t : TypeId} (h : Bk w b #[c0, c1, c2] t) : w.cell? ⟨b, 0, none⟩ = some c0 ∧ w.cell? ⟨b, 1, none⟩ = some c1 ∧ w.cell? ⟨b, 2, none⟩ = some c2 := ⟨cell_of_row w b 0 _ _ _ h, cell_of_row w b 1 _ _ _ h, cell_of_row w b 2 _ _ _ h⟩
theorem Bk.at6 {w : World} {b : Nat} {c0 c1 c2 c3 c4 c5 : Value} {t : TypeId} (h : Bk w b #[c0, c1, c2, c3, c4, c5] t) : w.cell? ⟨b, 0, none⟩ = some c0 ∧ w.cell? ⟨b, 1, none⟩ = some c1 ∧ w.cell? ⟨b, 2, none⟩ = some c2 ∧ w.cell? ⟨b, 3, none⟩ = some c3 ∧ w.cell? ⟨b, 4, none⟩ = some c4 ∧ w.cell? ⟨b, 5, none⟩ = some c5 := ⟨cell_of_row w b 0 _ _ _ h, cell_of_row w b 1 _ _ _ h, cell_of_row w b 2 _ _ _ h, cell_of_row w b 3 _ _ _ h, cell_of_row w b 4 _ _ _ h, cell_of_row w b 5 _ _ _ h⟩

end Go.Proofs.YtnmppmmanigpcaaDoor
namespace Go.Proofs.YtnmppmmanigpcaaDoor
open Go.ChangeShapes Go.WideShapes Go.ChangeAt Go.RowKit Go.BigFrame
set_option linter.unusedVariables false
set_option linter.unusedSimpArgs false

def fI (n : Int) : Prop := -9223372036854775808 ≤ n ∧ n ≤ 9223372036854775807
/-- A node that may come in. -/
structure Nd.fit (y : Nd) : Prop where
  op : fI y.op
  n : fI y.n
  l : fI y.l
  r : fI y.r
  v : y.v.size ≤ 140737488351232
  x : y.x.size ≤ 140737488351232
theorem noNd_fit : noNd.fit := ⟨⟨by decide, by decide⟩, ⟨by decide, by decide⟩, ⟨by decide, by decide⟩, ⟨by decide, by decide⟩, by decide, by decide⟩
/-- A row of nodes in memory. -/
def IsNds (w : World) (ao : Option Addr) (ns : List Nd) : Prop := ∀ i, i < ns.length → ∃ g o, ao = some ⟨g, o, none⟩ ∧ w.cell? ⟨g, o + i * 6, none⟩ = some (.int .i64 (ns.getD i noNd).op) ∧ w.cell? ⟨g, o + i * 6 + 1, none⟩ = some (.int .i64 (ns.getD i noNd).n) ∧ w.cell? ⟨g, o + i * 6 + 2, none⟩ = some (.string (ns.getD i noNd).v) ∧ w.cell? ⟨g, o + i * 6 + 3, none⟩ = some (.string (ns.getD i noNd).x) ∧ w.cell? ⟨g, o + i * 6 + 4, none⟩ = some (.int .i64 (ns.getD i noNd).l) ∧ w.cell? ⟨g, o + i * 6 + 5, none⟩ = some (.int .i64 (ns.getD i noNd).r)
theorem IsNds.keep {w u : World} {ao : Option Addr} {ns : List Nd} (h : IsNds w ao ns) (G : Below w.heap.size w u) : IsNds u ao ns := fun i hi => by
  obtain ⟨g, o, e, a0, a1, a2, a3, a4, a5⟩ := h i hi
  exact ⟨g, o, e, (G.cell (p := ⟨_, _, none⟩) (lt_of_cell a0)).trans a0, (G.cell (p := ⟨_, _, none⟩) (lt_of_cell a1)).trans a1, (G.cell (p := ⟨_, _, none⟩) (lt_of_cell a2)).trans a2, (G.cell (p := ⟨_, _, none⟩) (lt_of_cell a3)).trans a3, (G.cell (p := ⟨_, _, none⟩) (lt_of_cell a4)).trans a4, (G.cell (p := ⟨_, _, none⟩) (lt_of_cell a5)).trans a5⟩
theorem nd_wf {n : Int} (h : (Lit.int .i64 n).wf = true) : fI n := by
  have h' : (decide (IntKind.min .i64 ≤ n) && decide (n ≤ IntKind.max .i64)) = true := h
  rw [Bool.and_eq_true, decide_eq_true_eq, decide_eq_true_eq] at h'
  have e1 : IntKind.min .i64 = -9223372036854775808 := by decide +kernel
  have e2 : IntKind.max .i64 = 9223372036854775807 := by decide +kernel
  rw [e1, e2] at h'
  exact h'
theorem nd_add (a : Addr) (m j : Nat) : (a.add m).add j = a.add (m + j) := by
  unfold Addr.add
  by_cases hm : m = 0
  · subst hm; simp
  · by_cases hj : j = 0
    · subst hj; simp
    · rw [if_neg hm, if_neg hj, if_neg (by omega)]
      simp [Nat.add_assoc]
theorem bytesNd : Tryd.prog.bytesOf 63 = 64 := by kernel_rfl
theorem cellsNd : Tryd.prog.cellsOf 63 = 6 := by kernel_rfl
theorem nd_weights {H : Type} {P : Program} {e : TypeId} : ∀ {l : List (DataW H)} {d : DataW H}, d ∈ l → ∀ n ∈ d.weights P e, n ∈ DataW.weightsAll P e l
  | d0 :: l, d, hd, n, hn => by
    simp only [DataW.weightsAll, List.mem_append]
    rcases List.mem_cons.1 hd with rfl | hd
    · exact .inl hn
    · exact .inr (nd_weights hd n hn)

section
variable {H : Type} {enc : TypeId × Value → H} {w : World} {spare : Nat → Bool} {held : Bool}

theorem trod_struct6 {P : Program} {base : Nat} {t : TypeId} {f0 f1 f2 f3 f4 f5 : Field} {fuel : Nat} {cs : List Value} {x : DataW H × List MemPlace} (ht : P.underlying t = some (.struct #[f0, f1, f2, f3, f4, f5])) (h : DataW.trod enc P w base spare held fuel t cs = some x) :
    ∃ y0 y1 y2 y3 y4 y5 n, x.1 = .agg [y0.1, y1.1, y2.1, y3.1, y4.1, y5.1] ∧ cs.length = P.cellsOf t ∧ DataW.trod enc P w base spare held n f0.type ((cs.drop f0.offset).take (P.cellsOf f0.type)) = some y0 ∧
      DataW.trod enc P w base spare held n f1.type ((cs.drop f1.offset).take (P.cellsOf f1.type)) = some y1 ∧ DataW.trod enc P w base spare held n f2.type ((cs.drop f2.offset).take (P.cellsOf f2.type)) = some y2 ∧
      DataW.trod enc P w base spare held n f3.type ((cs.drop f3.offset).take (P.cellsOf f3.type)) = some y3 ∧ DataW.trod enc P w base spare held n f4.type ((cs.drop f4.offset).take (P.cellsOf f4.type)) = some y4 ∧
      DataW.trod enc P w base spare held n f5.type ((cs.drop f5.offset).take (P.cellsOf f5.type)) = some y5 := by
  obtain ⟨xs, n, _, rfl, hl, hlen, hf⟩ := DataW.trod_struct ht h
  match xs, hlen with
  | [y0, y1, y2, y3, y4, y5], _ => exact ⟨y0, y1, y2, y3, y4, y5, n, by simp, hl, by simpa using hf 0 f0 rfl, by simpa using hf 1 f1 rfl, by simpa using hf 2 f2 rfl, by simpa using hf 3 f3 rfl, by simpa using hf 4 f4 rfl, by simpa using hf 5 f5 rfl⟩
theorem list6 {α : Type} {cs : List α} (h : cs.length = 6) : ∃ c0 c1 c2 c3 c4 c5, cs = [c0, c1, c2, c3, c4, c5] := by
  match cs, h with
  | [c0, c1, c2, c3, c4, c5], _ => exact ⟨c0, c1, c2, c3, c4, c5, rfl⟩

set_option maxRecDepth 100000 in
theorem open_nds {fuel : Nat} {v : Value} {y : DataW H × List MemPlace} (h : DataW.trod enc Tryd.prog w 0 spare held fuel 28 [v] = some y) (hw : ∀ n ∈ y.1.weights Tryd.prog 28, n ≤ reachBytes) :
    ∃ ao cap ns, v = .slice ao ns.length cap ∧ ns.length ≤ cap ∧ (ao = none → ns.length = 0 ∧ cap = 0) ∧ IsNds w ao ns ∧ ns.length * 64 ≤ 140737488351232 ∧ ∀ k, (ns.getD k noNd).fit := by
  rcases DataW.trod_slice Tryd.underlying28 h with ⟨hcs, _⟩ | ⟨a, len, cap, elems, rest, fu, _, hcs, hx, _, hl, hm, hlen, hel, _, _⟩
  · simp only [List.cons.injEq, and_true] at hcs
    exact ⟨none, 0, [], hcs, Nat.le_refl _, fun _ => ⟨rfl, rfl⟩, fun i hi => by simp at hi, by simp, fun k => by simp; exact noNd_fit⟩
  · simp only [List.cons.injEq, and_true] at hcs
    have hw0 := hw ((elems.map (·.1)).length * 64 + (rest.map (·.1)).length * 64) (by rw [hx]; simp [DataW.weights, Tryd.underlying28, bytesNd, Nat.add_mul])
    have each : ∀ i : Nat, ∃ t : Nd, t.fit ∧ (i < len → w.cell? (a.add (i * 6)) = some (.int .i64 t.op) ∧ w.cell? (a.add (i * 6 + 1)) = some (.int .i64 t.n) ∧ w.cell? (a.add (i * 6 + 2)) = some (.string t.v) ∧ w.cell? (a.add (i * 6 + 3)) = some (.string t.x) ∧ w.cell? (a.add (i * 6 + 4)) = some (.int .i64 t.l) ∧ w.cell? (a.add (i * 6 + 5)) = some (.int .i64 t.r)) := by
      intro i
      by_cases hi : i < len
      · have h1 := hel i hi
        rw [cellsNd, List.getElem?_eq_getElem (by omega), Option.bind_eq_some_iff] at h1
        obtain ⟨cs', h2, h3⟩ := h1
        obtain ⟨_, hcl, hce⟩ := World.cells?_some h2
        obtain ⟨c0, c1, c2, c3, c4, c5, rfl⟩ := list6 hcl
        obtain ⟨y0, y1, y2, y3, y4, y5, m, e1, _, g0, g1, g2, g3, g4, g5⟩ := trod_struct6 Tryd.underlying63 h3
        have g0' : DataW.trod enc Tryd.prog w 0 spare held m 61 [c0] = some y0 := g0
        have g1' : DataW.trod enc Tryd.prog w 0 spare held m 2 [c1] = some y1 := g1
        have g2' : DataW.trod enc Tryd.prog w 0 spare held m 9 [c2] = some y2 := g2
        have g3' : DataW.trod enc Tryd.prog w 0 spare held m 9 [c3] = some y3 := g3
        have g4' : DataW.trod enc Tryd.prog w 0 spare held m 3 [c4] = some y4 := g4
        have g5' : DataW.trod enc Tryd.prog w 0 spare held m 3 [c5] = some y5 := g5
        obtain ⟨n0, e0, _, w0⟩ := DataW.trod_int Tryd.underlying61 g0'
        obtain ⟨n1, e2, _, w1⟩ := DataW.trod_int Tryd.underlying2 g1'
        obtain ⟨s2, e3, q2, _⟩ := DataW.trod_string Tryd.underlying9 g2'
        obtain ⟨s3, e4, q3, _⟩ := DataW.trod_string Tryd.underlying9 g3'
        obtain ⟨n4, e5, _, w4⟩ := DataW.trod_int Tryd.underlying3 g4'
        obtain ⟨n5, e6, _, w5⟩ := DataW.trod_int Tryd.underlying3 g5'
        simp only [List.cons.injEq, and_true] at e0 e2 e3 e4 e5 e6
        subst e0; subst e2; subst e3; subst e4; subst e5; subst e6
        have hmem : (elems[i]'(by omega)).1 ∈ elems.map (·.1) := List.mem_map_of_mem (List.getElem_mem _)
        have hsz : ∀ s : ByteArray, s = s2 ∨ s = s3 → s.size ≤ 140737488351232 := fun s hs => by
          have h5 : s.data.toList.length ≤ reachBytes := by
            refine hw _ ?_
            rw [hx]
            simp only [DataW.weights, Tryd.underlying28, List.mem_cons, List.mem_append]
            refine .inr (.inl (nd_weights hmem _ ?_))
            rw [e1]
            simp only [DataW.weights, Tryd.underlying63, DataW.weightsEach, List.mem_append]
            rcases hs with rfl | rfl
            · simp [DataW.weightsEach, q2, DataW.weights]
            · simp [DataW.weightsEach, q3, DataW.weights]
          have h6 : s.data.toList.length = s.size := Array.length_toList
          unfold reachBytes at h5
          omega
        refine ⟨⟨n0, n1, s2, s3, n4, n5⟩, ⟨nd_wf w0, nd_wf w1, nd_wf w4, nd_wf w5, hsz _ (.inl rfl), hsz _ (.inr rfl)⟩, fun _ => ?_⟩
        have d0 := hce 0 (by omega)
        have d1 := hce 1 (by omega)
        have d2 := hce 2 (by omega)
        have d3 := hce 3 (by omega)
        have d4 := hce 4 (by omega)
        have d5 := hce 5 (by omega)
        rw [nd_add] at d0 d1 d2 d3 d4 d5
        exact ⟨by simpa using d0, by simpa using d1, by simpa using d2, by simpa using d3, by simpa using d4, by simpa using d5⟩
      · exact ⟨noNd, noNd_fit, fun h => absurd h hi⟩
    obtain ⟨f, hf⟩ : ∃ f : Nat → Nd, ∀ i : Nat, (f i).fit ∧ (i < len → w.cell? (a.add (i * 6)) = some (.int .i64 (f i).op) ∧ w.cell? (a.add (i * 6 + 1)) = some (.int .i64 (f i).n) ∧ w.cell? (a.add (i * 6 + 2)) = some (.string (f i).v) ∧ w.cell? (a.add (i * 6 + 3)) = some (.string (f i).x) ∧ w.cell? (a.add (i * 6 + 4)) = some (.int .i64 (f i).l) ∧ w.cell? (a.add (i * 6 + 5)) = some (.int .i64 (f i).r)) := ⟨fun j => Classical.choose (each j), fun j => Classical.choose_spec (each j)⟩
    have hget : ∀ j, j < len → ((List.range len).map f).getD j noNd = f j := fun j hj => by simp [List.getD, hj]
    have hlen2 : ((List.range len).map f).length = len := by simp
    refine ⟨some a, cap, (List.range len).map f, by rw [hlen2]; exact hcs, by rw [hlen2]; exact hl, fun e => (by cases e), fun i hi => ?_, ?_, fun j => ?_⟩
    · rw [hlen2] at hi
      obtain ⟨ab, ao, asp⟩ := a
      cases asp with
      | some s => have := World.cell?_spot ((hf 0).2 (by omega)).1; simp [Addr.add] at this
      | none =>
        obtain ⟨e0, e1, e2, e3, e4, e5⟩ := (hf i).2 hi
        rw [hget i hi]
        rw [add_plain] at e0 e1 e2 e3 e4 e5
        simp only [← Nat.add_assoc] at e1 e2 e3 e4 e5
        exact ⟨ab, ao, rfl, e0, e1, e2, e3, e4, e5⟩
    · rw [hlen2]
      unfold reachBytes at hw0
      simp at hw0
      omega
    · by_cases hj : j < len
      · rw [hget j hj]; exact (hf j).1
      · have : ((List.range len).map f).getD j noNd = noNd := by simp [List.getD, hj]
        rw [this]; exact noNd_fit

end

theorem nds_at (ns : List Nd) : ∀ i, i < ns.length → ∀ j, j < 6 → (ndsV ns)[i * 6 + j]? = (ndA (ns.getD i noNd)).toList[j]? := by
  induction ns with
  | nil => intro i hi; simp at hi
  | cons t r ih =>
    intro i hi j hj
    have e : ndsV (t :: r) = (ndA t).toList ++ ndsV r := rfl
    have hl : (ndA t).toList.length = 6 := rfl
    rw [e]
    cases i with
    | zero =>
      rw [Nat.zero_mul, Nat.zero_add, List.getElem?_append_left (by omega)]
      rfl
    | succ i =>
      rw [List.getElem?_append_right (by omega), hl, show (i + 1) * 6 + j - 6 = i * 6 + j by omega]
      rw [ih i (by simpa using hi) j hj]
      rfl
theorem nds_more (ns : List Nd) (k : Nat) (h : k < ns.length) : ndsV (ns.take k) ++ (ndA (ns.getD k noNd)).toList = ndsV (ns.take (k + 1)) := by
  unfold ndsV
  rw [List.take_add_one]
  simp only [List.flatMap_append, List.getD, List.getElem?_eq_getElem h, Option.getD_some, Option.toList_some, List.flatMap_cons, List.flatMap_nil, List.append_nil]
/-- A row of nodes of one's own is a row of nodes. -/
theorem nds_of_own {w : World} {b : Nat} {ao : Option Addr} {c : Nat} {ns : List Nd} (h : w.ownsRow b 63 6 (.slice ao ns.length c) ns.length (ndsV ns)) : IsNds w ao ns := fun i hi => by
  obtain ⟨ao', c', e, _, _, hg⟩ := own_form h
  simp only [Value.slice.injEq, true_and] at e
  obtain ⟨rfl, rfl⟩ := e
  rcases hg with hg | ⟨g, rfl, _, _⟩
  · omega
  have hc : ∀ j, j < 6 → w.cell? ⟨g, i * 6 + j, none⟩ = (ndA (ns.getD i noNd)).toList[j]? := fun j hj => by
    rw [World.ownsRow.cellAt h (i * 6 + j) (by omega), nds_at ns i hi j hj]
  refine ⟨g, 0, rfl, ?_⟩
  rw [Nat.zero_add]
  exact ⟨hc 0 (by omega), hc 1 (by omega), hc 2 (by omega), hc 3 (by omega), hc 4 (by omega), hc 5 (by omega)⟩

end Go.Proofs.YtnmppmmanigpcaaDoor
namespace Go.Proofs.YtnmppmmanigpcaaDoor
open Go.ChangeShapes Go.WideShapes Go.ChangeAt Go.RowKit
set_option linter.unusedVariables false
set_option linter.unusedSimpArgs false

/-- A row of numbers in memory. -/
def IsInts (w : World) (ao : Option Addr) (zs : List Int) : Prop := ∀ i, i < zs.length → ∃ g o, ao = some ⟨g, o, none⟩ ∧ w.cell? ⟨g, o + i, none⟩ = some (.int .i64 (zs.getD i 0))
theorem IsInts.keep {w u : World} {ao : Option Addr} {zs : List Int} (h : IsInts w ao zs) (G : Below w.heap.size w u) : IsInts u ao zs := fun i hi => by
  obtain ⟨g, o, e, a0⟩ := h i hi
  exact ⟨g, o, e, (G.cell (p := ⟨_, _, none⟩) (lt_of_cell a0)).trans a0⟩
theorem bytesIn : Tryd.prog.bytesOf 3 = 8 := by kernel_rfl

section
variable {H : Type} {enc : TypeId × Value → H} {w : World} {spare : Nat → Bool} {held : Bool}

theorem open_gaps {fuel : Nat} {v : Value} {y : DataW H × List MemPlace} (h : DataW.trod enc Tryd.prog w 0 spare held fuel 60 [v] = some y) (hw : ∀ n ∈ y.1.weights Tryd.prog 60, n ≤ reachBytes) :
    ∃ ao cap zs, v = .slice ao zs.length cap ∧ zs.length ≤ cap ∧ IsInts w ao zs ∧ zs.length * 8 ≤ 140737488351232 := by
  rcases open_ints Tryd.underlying60 Tryd.underlying3 (by kernel_rfl) h with ⟨hcs, _⟩ | ⟨a, l, c, zs, hcs, _, hl, hm, hz, hx, hcell, _⟩
  · simp only [List.cons.injEq, and_true] at hcs
    exact ⟨none, 0, [], hcs, Nat.le_refl _, fun i hi => by simp at hi, by simp⟩
  · simp only [List.cons.injEq, and_true] at hcs
    have hlz : l ≤ zs.length := by split at hz <;> omega
    have hlen : (zs.take l).length = l := by rw [List.length_take]; omega
    have hw0 := hw ((lits .i64 (zs.take l)).length * 8 + (lits .i64 (zs.drop l)).length * 8) (by rw [hx]; simp [DataW.weights, Tryd.underlying60, bytesIn, Nat.add_mul]; exact .inl rfl)
    refine ⟨some a, c, zs.take l, by rw [hlen]; exact hcs, by rw [hlen]; exact hl, fun i hi => ?_, ?_⟩
    · rw [hlen] at hi
      have h1 := hcell i (by omega)
      obtain ⟨ab, ao, asp⟩ := a
      cases asp with
      | some s => have := World.cell?_spot (hcell 0 (by omega)); simp [Addr.add] at this
      | none =>
        rw [add_plain] at h1
        refine ⟨ab, ao, rfl, ?_⟩
        rw [h1, List.getD_eq_getElem?_getD, List.getD_eq_getElem?_getD, List.getElem?_take, if_pos hi]
    · rw [hlen]
      simp only [lits, List.length_map, List.length_take, List.length_drop, reachBytes] at hw0
      omega

end
end Go.Proofs.YtnmppmmanigpcaaDoor
namespace Go.Proofs.YtnmppmmanigpcaaDoor
open Go.RowKit Go.BigFrame
set_option linter.unusedVariables false
set_option linter.unusedSimpArgs false

theorem nd_info : (Tryd.prog.info? 63).map (fun i => (i.zero, i.size, i.bytes)) = some (some (.agg (ndA noNd)), 6, 64) := by kernel_rfl
theorem int_info : (Tryd.prog.info? 3).map (fun i => (i.zero, i.size, i.bytes)) = some (some (.int .i64 0), 1, 8) := by kernel_rfl
theorem of_info {P : Program} {e : TypeId} {z : Value} {s b : Nat} (h : (P.info? e).map (fun i => (i.zero, i.size, i.bytes)) = some (some z, s, b)) : ∃ i, P.info? e = some i ∧ i.zero = some z ∧ i.size = s ∧ i.bytes = b := by
  cases hi : P.info? e with
  | none => rw [hi] at h; cases h
  | some i => rw [hi] at h; simp at h; exact ⟨i, rfl, h.1, h.2.1, h.2.2⟩
theorem nd_new (w : World) (n : Nd) (j : Nat) (u : Value) (h : (ndA n).toList[j]? = some u) : (w.alloc (.cells (ndA n) 63)).cell? ((⟨w.heap.size, 0, none⟩ : Addr).add j) = some u := by
  rw [Go.WideShapes.add_plain, Nat.zero_add, World.cell?_alloc_new]
  simpa using h
theorem nd_one (n : Nd) : ∀ u ∈ (ndA n).toList, u.oneCell' = true := by
  intro u hu
  simp [ndA] at hu
  rcases hu with rfl | rfl | rfl | rfl | rfl | rfl <;> rfl


theorem ints_more (ds : List Int) (x : Int) : intsV ds ++ [.int .i64 x] = intsV (ds ++ [x]) := by simp [intsV]
theorem ints_own {w : World} {b : Nat} {ao : Option Addr} {c : Nat} {ds : List Int} (h : w.ownsRow b 3 1 (.slice ao ds.length c) ds.length (intsV ds)) : IsInts w ao ds := fun i hi => by
  obtain ⟨ao', c', e, _, _, hg⟩ := own_form h
  simp only [Value.slice.injEq, true_and] at e
  obtain ⟨rfl, rfl⟩ := e
  rcases hg with hg | ⟨g, rfl, _, _⟩
  · omega
  refine ⟨g, 0, rfl, ?_⟩
  rw [Nat.zero_add, World.ownsRow.cellAt h i (by omega)]
  simp [intsV, List.getD, List.getElem?_eq_getElem hi]
theorem int_one (z : Int) : ∀ u ∈ [Value.int .i64 z], u.oneCell' = true := by
  intro u hu
  simp at hu
  subst hu
  rfl
theorem lastD {ds : List Int} {k : Nat} (hdl : ds.length = k) (h : ∀ i, i < k → 0 ≤ ds.getD i 0 ∧ ds.getD i 0 ≤ 65536) (z : Int) (h0 : 0 ≤ z) (h1 : z ≤ 65536) : ∀ i, i < k + 1 → 0 ≤ (ds ++ [z]).getD i 0 ∧ (ds ++ [z]).getD i 0 ≤ 65536 := by
  intro i hi
  by_cases hk : i < ds.length
  · rw [List.getD_eq_getElem?_getD, List.getElem?_append_left hk, ← List.getD_eq_getElem?_getD]
    exact h i (by omega)
  · rw [List.getD_eq_getElem?_getD, List.getElem?_append_right (by omega)]
    have : i - ds.length = 0 := by omega
    rw [this]
    exact ⟨h0, h1⟩
set_option maxRecDepth 100000 in
set_option maxHeartbeats 4000000 in
theorem beyond_any (ns : List Nd) (ao : Option Addr) (cap : Nat) (w : World) (A : IsNds w ao ns) (hr : ns.length * 64 ≤ 140737488351232) (hf : ∀ k, (ns.getD k noNd).fit) :
    Calls Tryd.prog 6 #[.slice ao ns.length cap] w fun e w' => ∃ b, e = .returned (.bool b) ∧ Below w.heap.size w w' := by
  obtain ⟨i0, hi, hz0, hz1, hz2⟩ := of_info int_info
  obtain ⟨n, hn⟩ : ∃ n, ns.length = n := ⟨_, rfl⟩
  rw [hn] at hr ⊢
  go_enter Tryd.func6, Tryd.ntmps6
  go_wp2
  go_loopw [3, 4, 5] (fun o x _ wr => ∃ (k : Nat) (ds : List Int), k ≤ n ∧ x = .int .i64 k ∧ ds.length = k ∧ (∀ i, i < k → 0 ≤ ds.getD i 0 ∧ ds.getD i 0 ≤ 65536) ∧ wr.ownsRow w.heap.size 3 1 o k (intsV ds) ∧ Below w.heap.size w wr) (fun _ x _ _ => n - (intOf x).toNat)
  case atStart => exact ⟨0, [], Nat.zero_le _, rfl, rfl, fun i hi => absurd hi (Nat.not_lt_zero _), World.ownsRow_nil _ _ _ _, Below.refl _ _⟩
  case round =>
    obtain ⟨k, ds, hk, rfl, hdl, hds, O, G⟩ := hrel
    have zG := G.size
    by_cases hlt : k < n
    · obtain ⟨g, o, rfl, x0, x1, x2, x3, x4, x5⟩ := (A.keep G) k (by omega)
      have hl0 := (hf k).l
      have hr0 := (hf k).r
      generalize ns.getD k noNd = y at *
      obtain ⟨yo, yn, yv, yx, yl, yr⟩ := y
      dsimp only at x0 x1 x2 x3 x4 x5 hl0 hr0
      obtain ⟨vo, vc, rfl, hvc, _, hvo⟩ := own_form O
      have cD : ∀ a, a < k → ∃ gd, vo = some ⟨gd, 0, none⟩ ∧ wr.cell? ⟨gd, a, none⟩ = some (.int .i64 (ds.getD a 0)) := fun a ha => by
        obtain ⟨g', o', e1, e2⟩ := ints_own (ds := ds) (by rw [hdl]; exact O) a (by omega)
        rcases hvo with h0 | ⟨gd, e3, _, _⟩
        · omega
        rw [e3] at e1
        simp only [Option.some.injEq, Addr.mk.injEq, and_true] at e1
        obtain ⟨rfl, rfl⟩ := e1
        exact ⟨_, e3, by rw [Nat.zero_add] at e2; exact e2⟩
      clear A hvo
      have hA : (yl < 0 ∨ (0 ≤ yl ∧ ¬ yl < (k : Int))) ∨ ∃ a : Nat, a < k ∧ yl = (a : Int) := by
        rcases Int.lt_or_le yl 0 with h | h
        · exact .inl (.inl h)
        · by_cases h2 : yl < (k : Int)
          · exact .inr ⟨yl.toNat, by omega, by omega⟩
          · exact .inl (.inr ⟨h, h2⟩)
      have hB : (yr < 0 ∨ (0 ≤ yr ∧ ¬ yr < (k : Int))) ∨ ∃ a : Nat, a < k ∧ yr = (a : Int) := by
        rcases Int.lt_or_le yr 0 with h | h
        · exact .inl (.inl h)
        · by_cases h2 : yr < (k : Int)
          · exact .inr ⟨yr.toNat, by omega, by omega⟩
          · exact .inl (.inr ⟨h, h2⟩)
      rcases hA with hA | ⟨a, ha, rfl⟩
      · rcases hB with hB | ⟨b, hb, rfl⟩
        · rcases hA with hA | ⟨hA, hA2⟩ <;> rcases hB with hB | ⟨hB, hB2⟩
          all_goals
            go_wp2_with (at_builtin; refine wpList_append_own _ rfl (.tmp 72) (.tmp 75) 60 rfl w.heap.size 3 i0 (.int .i64 0) 1 8 Tryd.underlying60 hi hz0 hz1 hz2 rfl (by decide) _ _ _ rfl (O.alloc _) ⟨wr.heap.size, 0, none⟩ 1 1 [_] rfl rfl (cell_one_new _ _ _) (int_one _) ?c3 ?c4 ?c5 ?_)
            case c3 => unfold maxLen; omega
            case c4 => omega
            case c5 => first | omega | (simp; omega)
            intro v' w1 hown' hgrow _
            rw [ints_more] at hown'
            have G9 : Below w.heap.size w w1 := (galloc G _).grown hgrow (by simp; omega) (fun r e => (O.lt _ e).1)
            clear hgrow O
            go_wp2
            go_roundw
            case rel => exact ⟨k + 1, _, by omega, by go_num, by simp [hdl], lastD hdl hds _ (by omega) (by omega), hown', G9⟩
            case measure => simp [intOf]; omega
        · obtain ⟨gd, rfl, cb⟩ := cD b hb
          have hdb := hds b hb
          have hbk : (b : Int) < (k : Int) := by omega
          generalize hzb : ds.getD b 0 = zb at *
          rcases hA with hA | ⟨hA, hA2⟩
          all_goals
            rcases Int.lt_or_le 0 zb with hc | hc
            · rcases Int.lt_or_le zb 65536 with hd | hd
              · go_wp2_with (at_builtin; refine wpList_append_own _ rfl (.tmp 72) (.tmp 75) 60 rfl w.heap.size 3 i0 (.int .i64 0) 1 8 Tryd.underlying60 hi hz0 hz1 hz2 rfl (by decide) _ _ _ rfl (O.alloc _) ⟨wr.heap.size, 0, none⟩ 1 1 [_] rfl rfl (cell_one_new _ _ _) (int_one _) ?c3 ?c4 ?c5 ?_)
                case c3 => unfold maxLen; omega
                case c4 => omega
                case c5 => first | omega | (simp; omega)
                intro v' w1 hown' hgrow _
                rw [ints_more] at hown'
                have G9 : Below w.heap.size w w1 := (galloc G _).grown hgrow (by simp; omega) (fun r e => (O.lt _ e).1)
                clear hgrow O
                go_wp2
                go_roundw
                case rel => exact ⟨k + 1, _, by omega, by go_num, by simp [hdl], lastD hdl hds _ (by omega) (by omega), hown', G9⟩
                case measure => simp [intOf]; omega
              · go_wp2
                go_ret
                first | exact ⟨_, rfl, G⟩ | exact ⟨⟨_, rfl⟩, G⟩ | exact ⟨.inr rfl, G⟩
            · go_wp2_with (at_builtin; refine wpList_append_own _ rfl (.tmp 72) (.tmp 75) 60 rfl w.heap.size 3 i0 (.int .i64 0) 1 8 Tryd.underlying60 hi hz0 hz1 hz2 rfl (by decide) _ _ _ rfl (O.alloc _) ⟨wr.heap.size, 0, none⟩ 1 1 [_] rfl rfl (cell_one_new _ _ _) (int_one _) ?c3 ?c4 ?c5 ?_)
              case c3 => unfold maxLen; omega
              case c4 => omega
              case c5 => first | omega | (simp; omega)
              intro v' w1 hown' hgrow _
              rw [ints_more] at hown'
              have G9 : Below w.heap.size w w1 := (galloc G _).grown hgrow (by simp; omega) (fun r e => (O.lt _ e).1)
              clear hgrow O
              go_wp2
              go_roundw
              case rel => exact ⟨k + 1, _, by omega, by go_num, by simp [hdl], lastD hdl hds _ (by omega) (by omega), hown', G9⟩
              case measure => simp [intOf]; omega
      · obtain ⟨gd, rfl, ca⟩ := cD a ha
        have hda := hds a ha
        have hak : (a : Int) < (k : Int) := by omega
        rcases hB with hB | ⟨b, hb, rfl⟩
        · generalize hza : ds.getD a 0 = za at *
          rcases hB with hB | ⟨hB, hB2⟩
          all_goals
            rcases Int.lt_or_le za 65536 with hd | hd
            · go_wp2_with (at_builtin; refine wpList_append_own _ rfl (.tmp 72) (.tmp 75) 60 rfl w.heap.size 3 i0 (.int .i64 0) 1 8 Tryd.underlying60 hi hz0 hz1 hz2 rfl (by decide) _ _ _ rfl (O.alloc _) ⟨wr.heap.size, 0, none⟩ 1 1 [_] rfl rfl (cell_one_new _ _ _) (int_one _) ?c3 ?c4 ?c5 ?_)
              case c3 => unfold maxLen; omega
              case c4 => omega
              case c5 => first | omega | (simp; omega)
              intro v' w1 hown' hgrow _
              rw [ints_more] at hown'
              have G9 : Below w.heap.size w w1 := (galloc G _).grown hgrow (by simp; omega) (fun r e => (O.lt _ e).1)
              clear hgrow O
              go_wp2
              go_roundw
              case rel => exact ⟨k + 1, _, by omega, by go_num, by simp [hdl], lastD hdl hds _ (by omega) (by omega), hown', G9⟩
              case measure => simp [intOf]; omega
            · go_wp2
              go_ret
              first | exact ⟨_, rfl, G⟩ | exact ⟨⟨_, rfl⟩, G⟩ | exact ⟨.inr rfl, G⟩
        · obtain ⟨gd', e', cb⟩ := cD b hb
          simp only [Option.some.injEq, Addr.mk.injEq, and_true] at e'
          subst e'
          have hdb := hds b hb
          have hbk : (b : Int) < (k : Int) := by omega
          generalize hza : ds.getD a 0 = za at *
          generalize hzb : ds.getD b 0 = zb at *
          rcases Int.lt_or_le za zb with hc | hc
          · rcases Int.lt_or_le zb 65536 with hd | hd
            · go_wp2_with (at_builtin; refine wpList_append_own _ rfl (.tmp 72) (.tmp 75) 60 rfl w.heap.size 3 i0 (.int .i64 0) 1 8 Tryd.underlying60 hi hz0 hz1 hz2 rfl (by decide) _ _ _ rfl (O.alloc _) ⟨wr.heap.size, 0, none⟩ 1 1 [_] rfl rfl (cell_one_new _ _ _) (int_one _) ?c3 ?c4 ?c5 ?_)
              case c3 => unfold maxLen; omega
              case c4 => omega
              case c5 => first | omega | (simp; omega)
              intro v' w1 hown' hgrow _
              rw [ints_more] at hown'
              have G9 : Below w.heap.size w w1 := (galloc G _).grown hgrow (by simp; omega) (fun r e => (O.lt _ e).1)
              clear hgrow O
              go_wp2
              go_roundw
              case rel => exact ⟨k + 1, _, by omega, by go_num, by simp [hdl], lastD hdl hds _ (by omega) (by omega), hown', G9⟩
              case measure => simp [intOf]; omega
            · go_wp2
              go_ret
              first | exact ⟨_, rfl, G⟩ | exact ⟨⟨_, rfl⟩, G⟩ | exact ⟨.inr rfl, G⟩
          · rcases Int.lt_or_le za 65536 with hd | hd
            · go_wp2_with (at_builtin; refine wpList_append_own _ rfl (.tmp 72) (.tmp 75) 60 rfl w.heap.size 3 i0 (.int .i64 0) 1 8 Tryd.underlying60 hi hz0 hz1 hz2 rfl (by decide) _ _ _ rfl (O.alloc _) ⟨wr.heap.size, 0, none⟩ 1 1 [_] rfl rfl (cell_one_new _ _ _) (int_one _) ?c3 ?c4 ?c5 ?_)
              case c3 => unfold maxLen; omega
              case c4 => omega
              case c5 => first | omega | (simp; omega)
              intro v' w1 hown' hgrow _
              rw [ints_more] at hown'
              have G9 : Below w.heap.size w w1 := (galloc G _).grown hgrow (by simp; omega) (fun r e => (O.lt _ e).1)
              clear hgrow O
              go_wp2
              go_roundw
              case rel => exact ⟨k + 1, _, by omega, by go_num, by simp [hdl], lastD hdl hds _ (by omega) (by omega), hown', G9⟩
              case measure => simp [intOf]; omega
            · go_wp2
              go_ret
              first | exact ⟨_, rfl, G⟩ | exact ⟨⟨_, rfl⟩, G⟩ | exact ⟨.inr rfl, G⟩
    · obtain rfl : k = n := by omega
      go_wp2
      go_ret
      first | exact ⟨_, rfl, G⟩ | exact ⟨⟨_, rfl⟩, G⟩ | exact ⟨.inr rfl, G⟩

end Go.Proofs.YtnmppmmanigpcaaDoor
