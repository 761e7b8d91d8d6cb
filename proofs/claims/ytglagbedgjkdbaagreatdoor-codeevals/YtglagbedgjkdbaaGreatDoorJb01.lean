/- Small facts on worlds in which new memory alone was made; regions that draw their order and only read. And what goes with it: 6 texts in one. -/
import Derived.Test.YtglagbedgjkdbaaGreatDoorRows
import Derived.WalkKit
import Derived.WalkSpells
import Derived.WalkLawsBesides
import Derived.Deep.RegionWith
import Derived.Deep.Cut
import Derived.Deep.QuietTactic
import Derived.BigQuiet
import Derived.ProofKit
import Derived.WideShapes
import Derived.Laws.OwnMore
import Derived.Deep.Onto
import Derived.Deep.AppendLies
import Derived.ChangeArms
import Derived.ChangeSame
import Derived.SizedLaws
import Derived.Lib.SmallJoins
import Derived.Deep.RegionLaw
import Derived.ChangeSlices
import Derived.SliceStrings
namespace Go.Proofs.YtglagbedgjkdbaaGreatDoor
open Go.RowKit
set_option linter.unusedVariables false

theorem bcell {W w1 : World} (hb : Below W.heap.size W w1) : (∀ b o, b < W.heap.size → w1.cell? ⟨b, o, none⟩ = W.cell? ⟨b, o, none⟩) ∧ (∀ b o, b < W.heap.size → w1.frozen? ⟨b, o, none⟩ = W.frozen? ⟨b, o, none⟩) :=
  ⟨fun b o h => hb.cell (p := ⟨b, o, none⟩) h, fun b o h => hb.frozen (p := ⟨b, o, none⟩) h⟩
theorem gtrans {a b c : World} (h : Below a.heap.size a b) (k : Below b.heap.size b c) : Below a.heap.size a c := h.trans (k.mono h.size)
theorem galloc {a w : World} (h : Below a.heap.size a w) (o : Obj) : Below a.heap.size a (w.alloc o) := h.alloc h.size o
theorem gset {a w : World} (h : Below a.heap.size a w) {p : Addr} (hp : a.heap.size ≤ p.block) (u : Value) : Below a.heap.size a (w.setCell p u) := h.setCell hp u
theorem lt_of_cell {w : World} {p : Addr} {v : Value} (h : w.cell? p = some v) : p.block < w.heap.size := by
  rcases Nat.lt_or_ge p.block w.heap.size with h' | h'
  · exact h'
  · simp [World.cell?, Array.getElem?_eq_none h'] at h
theorem ret_bool {b : Bool} (h : b = true) : Ending.returned (.bool b) = .returned (.bool true) := by rw [h]

/-- A local of one cell. -/
def One (w : World) (b : Nat) (x : Value) (t : TypeId) : Prop := w.heap[b]? = some (.cells #[x] t (0, 0))
theorem One.at0 {w : World} {b : Nat} {x : Value} {t : TypeId} (h : One w b x t) : w.cell? ⟨b, 0, none⟩ = some x := cell_of_one h
theorem One.free {w : World} {b : Nat} {x : Value} {t : TypeId} (h : One w b x t) : w.frozen? ⟨b, 0, none⟩ = false := free_of_one h
theorem One.lt {w : World} {b : Nat} {x : Value} {t : TypeId} (h : One w b x t) : b < w.heap.size := lt_of_block h
theorem One.new (w : World) (x : Value) (t : TypeId) : One (w.alloc (.cells #[x] t)) w.heap.size x t := by
  show (w.heap.push _)[w.heap.size]? = _
  simp
theorem One.alloc {w : World} {b : Nat} {x : Value} {t : TypeId} (h : One w b x t) (o : Obj) : One (w.alloc o) b x t := (Below.heap_alloc w o b h.lt).trans h
theorem One.keep {w u : World} {b : Nat} {x : Value} {t : TypeId} (h : One w b x t) (G : Below w.heap.size w u) : One u b x t := (G.block b h.lt).trans h
theorem One.set {w : World} {b : Nat} {x : Value} {t : TypeId} (h : One w b x t) (u : Value) : One (w.setCell ⟨b, 0, none⟩ u) b u t := by
  have hlt := h.lt
  unfold One at h
  have h' : w.heap[b] = .cells #[x] t (0, 0) := by simpa [Array.getElem?_eq_getElem hlt] using h
  show (w.heap.modify b _)[b]? = _
  rw [Array.getElem?_eq_getElem (by simpa using hlt), Array.getElem_modify_self, h']
  rfl

/-- The worlds in which nothing of W has turned. -/
structure Ext (W : World) where
  X : World
  h : Below W.heap.size W X
theorem Ext.cell {W : World} (n : Ext W) (b o : Nat) (h : b < W.heap.size) : n.X.cell? ⟨b, o, none⟩ = W.cell? ⟨b, o, none⟩ := n.h.cell (p := ⟨b, o, none⟩) h
theorem wp_region_ext {P : Program} {id : Nat} {Q : Exit → Act → World → Prop} {a : Act} {w : World} {l : List Oper} (hm : P.follows .mixedOrders = true) (hB : Region.lexB .any l.toArray = true)
    (h : wpQuiet P l.toArray (fun X => ∃ n : Ext w, X = n.X) (fun a' => ∀ X, (∃ n : Ext w, X = n.X) → Q .normal a' X) l a) : (Code.region id l.toArray true).wp P Q a w :=
  wp_region_quiet (C := fun X => ∃ n : Ext w, X = n.X) hm hB ⟨⟨_, (Below.refl _ w).drew⟩, rfl⟩ (by simpa using h)
theorem ext_of {P : Program} {f : FuncId} {args : Array Value} {W : World} {n : Ext W} {v : Value}
    (h : Calls P f args n.X fun e w' => e = .returned v ∧ Below n.X.heap.size n.X w') : Calls P f args n.X fun e w'' => e = .returned v ∧ ∃ m : Ext W, w'' = m.X :=
  h.mono fun _ _ ⟨he, hb⟩ => ⟨he, ⟨_, gtrans n.h hb⟩, rfl⟩

theorem own_of_block {w u : World} {base : Nat} {e : TypeId} {size : Nat} {v : Value} {n : Nat} {xs : List Value} (h : w.ownsRow base e size v n xs) (hk : ∀ g cur, base ≤ g → w.heap[g]? = some (.cells cur e (0, 0)) → u.heap[g]? = w.heap[g]?) : u.ownsRow base e size v n xs := by
  obtain ⟨h1, h2⟩ := h
  refine ⟨h1, ?_⟩
  rcases h2 with h2 | ⟨g, cap, cur, rfl, hb, hh, r⟩
  · exact .inl h2
  · exact .inr ⟨g, cap, cur, rfl, hb, (hk g cur hb hh).trans hh, r⟩
theorem own_keep {w u : World} {base : Nat} {e : TypeId} {size : Nat} {v : Value} {n : Nat} {xs : List Value} (h : w.ownsRow base e size v n xs) (G : Below w.heap.size w u) : u.ownsRow base e size v n xs :=
  own_of_block h fun g _ _ hg => G.block g (lt_of_block hg)
theorem own_mono {w : World} {base base' : Nat} {e : TypeId} {size : Nat} {v : Value} {n : Nat} {xs : List Value} (h : w.ownsRow base e size v n xs) (hb : base' ≤ base) : w.ownsRow base' e size v n xs := by
  obtain ⟨h1, h2⟩ := h
  refine ⟨h1, ?_⟩
  rcases h2 with h2 | ⟨g, cap, cur, rfl, hb', r⟩
  · exact .inl h2
  · exact .inr ⟨g, cap, cur, rfl, Nat.le_trans hb hb', r⟩

/-- A node: its operator, number, variable, attribute, operands. -/
structure Nd where
  op : Int
  n : Int
  v : ByteArray
  x : ByteArray
  l : Int
  r : Int
abbrev eS : ByteArray := ⟨#[]⟩
def ndA (n : Nd) : Array Value := #[.int .i64 n.op, .int .i64 n.n, .string n.v, .string n.x, .int .i64 n.l, .int .i64 n.r]
def noNd : Nd := ⟨0, 0, eS, eS, 0, 0⟩
def ndsV (ns : List Nd) : List Value := ns.flatMap fun n => (ndA n).toList
def intsV (l : List Int) : List Value := l.map (Value.int .i64)

end Go.Proofs.YtglagbedgjkdbaaGreatDoor
namespace Go.Proofs.YtglagbedgjkdbaaGreatDoor
open Go.RowKit Go.BigFrame
set_option linter.unusedVariables false
set_option linter.unusedSimpArgs false

/-- A slice that is nil where it begins nowhere. -/
def Sl (ao : Option Addr) (n c : Nat) : Prop := n ≤ c ∧ (ao = none → n = 0 ∧ c = 0)
theorem own_form {w : World} {base : Nat} {e : TypeId} {size : Nat} {v : Value} {n : Nat} {xs : List Value} (h : w.ownsRow base e size v n xs) : ∃ ao cap, v = .slice ao n cap ∧ n ≤ cap ∧ n ≤ 9223372036854775807 ∧ (n = 0 ∨ ∃ g, ao = some ⟨g, 0, none⟩ ∧ g < w.heap.size ∧ base ≤ g) := by
  obtain ⟨h1, h2⟩ := h
  rcases h2 with ⟨rfl, rfl⟩ | ⟨g, cap, cur, rfl, hb, hh, hc, hm, hs, ht⟩
  · exact ⟨_, _, rfl, Nat.zero_le _, by omega, .inl rfl⟩
  · exact ⟨_, _, rfl, hc, by unfold maxLen at hm; omega, .inr ⟨g, rfl, lt_of_block hh, hb⟩⟩
theorem nf_info {P : Program} {e : TypeId} {z : Value} {s b : Nat} (h : (P.info? e).map (fun i => (i.zero, i.size, i.bytes)) = some (some z, s, b)) : ∃ i, P.info? e = some i ∧ i.zero = some z ∧ i.size = s ∧ i.bytes = b := by
  cases hi : P.info? e with
  | none => rw [hi] at h; cases h
  | some i => rw [hi] at h; simp at h; exact ⟨i, rfl, h.1, h.2.1, h.2.2⟩
/-- Rows of another type are not met. -/
theorem ty_far {w u : World} {b1 b2 : Nat} {e1 e2 : TypeId} {s1 s2 : Nat} {v1 v2 : Value} {n1 n2 : Nat} {x1 x2 : List Value} (h1 : w.ownsRow b1 e1 s1 v1 n1 x1) (h2 : w.ownsRow b2 e2 s2 v2 n2 x2) (hT : e1 ≠ e2) (G : w.grownBy u v1.ownBlock) : u.ownsRow b2 e2 s2 v2 n2 x2 := by
  refine own_of_block h2 fun g cur hb hh => G.block g (lt_of_block hh) fun e => ?_
  rcases h1.2 with ⟨rfl, _⟩ | ⟨g1, c1, cur1, rfl, _, hh1, _⟩
  · cases e
  · cases e
    rw [hh1] at hh
    simp only [Option.some.injEq, Obj.cells.injEq] at hh
    exact hT hh.2.1
theorem ty_set {w : World} {b2 : Nat} {e2 : TypeId} {s2 : Nat} {v2 : Value} {n2 : Nat} {x2 : List Value} (h2 : w.ownsRow b2 e2 s2 v2 n2 x2) {b : Nat} {c : Array Value} {t : TypeId} {f : Nat × Nat} (hb : w.heap[b]? = some (.cells c t f)) (hT : t ≠ e2) (o : Nat) (u : Value) : (w.setCell ⟨b, o, none⟩ u).ownsRow b2 e2 s2 v2 n2 x2 := by
  refine own_of_block h2 fun g cur _ hh => ?_
  have hne : b ≠ g := fun e => by
    subst e
    rw [hb] at hh
    simp only [Option.some.injEq, Obj.cells.injEq] at hh
    exact hT hh.2.1
  show (w.heap.modify b _)[g]? = _
  rw [Array.getElem?_modify, if_neg hne]
/-- Only the block b may have turned. -/
def But (b : Nat) (w u : World) : Prop := ∀ k, k ≠ b → u.heap[k]? = w.heap[k]?
theorem But.refl (b : Nat) (w : World) : But b w w := fun _ _ => rfl
theorem But.set {b : Nat} {w u : World} (h : But b w u) (o : Nat) (v : Value) : But b w (u.setCell ⟨b, o, none⟩ v) := fun k hk => by
  rw [← h k hk]
  show (u.heap.modify b _)[k]? = _
  rw [Array.getElem?_modify, if_neg (fun e => hk e.symm)]
theorem own_but {w u : World} {b2 : Nat} {e2 : TypeId} {s2 : Nat} {v2 : Value} {n2 : Nat} {x2 : List Value} (h2 : w.ownsRow b2 e2 s2 v2 n2 x2) {b : Nat} {c : Array Value} {t : TypeId} {f : Nat × Nat} (hb : w.heap[b]? = some (.cells c t f)) (hT : t ≠ e2) (B : But b w u) : u.ownsRow b2 e2 s2 v2 n2 x2 :=
  own_of_block h2 fun g cur _ hh => B g fun e => by
    subst e
    rw [hb] at hh
    simp only [Option.some.injEq, Obj.cells.injEq] at hh
    exact hT hh.2.1
/-- A row of one's own as it is read. -/
theorem own_sl {w : World} {b : Nat} {e : TypeId} {s : Nat} {ao : Option Addr} {n c : Nat} {xs : List Value} (h : w.ownsRow b e s (.slice ao n c) n xs) : Sl ao n c := by
  rcases h.2 with ⟨h1, h2⟩ | ⟨g, c', cur, h1, _, _, h2, _⟩
  · cases h1; exact ⟨Nat.le_refl _, fun _ => ⟨rfl, rfl⟩⟩
  · cases h1; exact ⟨h2, fun e => by cases e⟩
/-- A block whose cells are known. -/
theorem Bk.go {b : Nat} {t : TypeId} (w : World) (cs : Array Value) (o : Nat) (a : Value) (h : w.heap[b]? = some (.cells cs t (0, 0))) : (w.setCell ⟨b, o, none⟩ a).heap[b]? = some (.cells (cs.setIfInBounds o a) t (0, 0)) := by
  have hlt := lt_of_block h
  have h' : w.heap[b] = .cells cs t (0, 0) := by simpa [Array.getElem?_eq_getElem hlt] using h
  show (w.heap.modify b _)[b]? = _
  rw [Array.getElem?_eq_getElem (by simpa using hlt), Array.getElem_modify_self, h']
  rfl
def Bk (w : World) (b : Nat) (cs : Array Value) (t : TypeId) : Prop := w.heap[b]? = some (.cells cs t (0, 0))
theorem Bk.new (w : World) (cs : Array Value) (t : TypeId) : Bk (w.alloc (.cells cs t)) w.heap.size cs t := by
  show (w.heap.push _)[w.heap.size]? = _
  simp
theorem Bk.lt {w : World} {b : Nat} {cs : Array Value} {t : TypeId} (h : Bk w b cs t) : b < w.heap.size := lt_of_block h
theorem Bk.keep {w u : World} {b : Nat} {cs : Array Value} {t : TypeId} (h : Bk w b cs t) (G : Below w.heap.size w u) : Bk u b cs t := (G.block b h.lt).trans h
theorem Bk.alloc {w : World} {b : Nat} {cs : Array Value} {t : TypeId} (h : Bk w b cs t) (o : Obj) : Bk (w.alloc o) b cs t := (Below.heap_alloc w o b h.lt).trans h
theorem Bk.at2 {w : World} {b : Nat} {c0 c1 : Value} {t : TypeId} (h : Bk w b #[c0, c1] t) : w.cell? ⟨b, 0, none⟩ = some c0 ∧ w.cell? ⟨b, 1, none⟩ = some c1 := ⟨cell_of_row w b 0 _ _ _ h, cell_of_row w b 1 _ _ _ h⟩
theorem Bk.at4 {w : World} {b : Nat} {c0 c1 c2 c3 : Value} {t : TypeId} (h : Bk w b #[c0, c1, c2, c3] t) : w.cell? ⟨b, 0, none⟩ = some c0 ∧ w.cell? ⟨b, 1, none⟩ = some c1 ∧ w.cell? ⟨b, 2, none⟩ = some c2 ∧ w.cell? ⟨b, 3, none⟩ = some c3 := ⟨cell_of_row w b 0 _ _ _ h, cell_of_row w b 1 _ _ _ h, cell_of_row w b 2 _ _ _ h, cell_of_row w b 3 _ _ _ h⟩
/-- A local of seven cells. -/
theorem Bk.at7 {w : World} {b : Nat} {c0 c1 c2 c3 c4 c5 c6 : Value} {t : TypeId} (h : Bk w b #[c0, c1, c2, c3, c4, c5, c6] t) : w.cell? ⟨b, 0, none⟩ = some c0 ∧ w.cell? ⟨b, 1, none⟩ = some c1 ∧ w.cell? ⟨b, 2, none⟩ = some c2 ∧ w.cell? ⟨b, 3, none⟩ = some c3 ∧ w.cell? ⟨b, 4, none⟩ = some c4 ∧ w.cell? ⟨b, 5, none⟩ = some c5 ∧ w.cell? ⟨b, 6, none⟩ = some c6 :=
  ⟨cell_of_row w b 0 _ _ _ h, cell_of_row w b 1 _ _ _ h, cell_of_row w b 2 _ _ _ h, cell_of_row w b 3 _ _ _ h, cell_of_row w b 4 _ _ _ h, cell_of_row w b 5 _ _ _ h, cell_of_row w b 6 _ _ _ h⟩
theorem Bk.free {w : World} {b : Nat} {cs : Array Value} {t : TypeId} (h : Bk w b cs t) (o : Nat) : w.frozen? ⟨b, o, none⟩ = false := by unfold Bk at h; simp [World.frozen?, h]
theorem Bk.set {w : World} {b : Nat} {cs : Array Value} {t : TypeId} (h : Bk w b cs t) (o : Nat) (v : Value) : Bk (w.setCell ⟨b, o, none⟩ v) b (cs.setIfInBounds o v) t := Bk.go w cs o v h
theorem Bk.other {w : World} {b : Nat} {cs : Array Value} {t : TypeId} (h : Bk w b cs t) {b' : Nat} (hne : b' ≠ b) (o : Nat) (v : Value) : Bk (w.setCell ⟨b', o, none⟩ v) b cs t := by
  unfold Bk at h ⊢
  rw [← h]
  show (w.heap.modify b' _)[b]? = _
  rw [Array.getElem?_modify, if_neg hne]
theorem Bk.newE {w : World} {g : Nat} (hg : g = w.heap.size) (cs : Array Value) (t : TypeId) : Bk (w.alloc (.cells cs t)) g cs t := by subst hg; exact Bk.new w cs t
theorem bk_far {w u : World} {b : Nat} {cs : Array Value} {t : TypeId} (h : Bk w b cs t) {b1 : Nat} {e1 : TypeId} {s1 : Nat} {v1 : Value} {n1 : Nat} {x1 : List Value} (h1 : w.ownsRow b1 e1 s1 v1 n1 x1) (hT : t ≠ e1) (G : w.grownBy u v1.ownBlock) : Bk u b cs t := by
  refine (G.block b h.lt fun e => ?_).trans h
  rcases h1.2 with ⟨rfl, _⟩ | ⟨g1, c1, cur1, rfl, _, hh1, _⟩
  · cases e
  · cases e
    unfold Bk at h
    rw [hh1] at h
    simp only [Option.some.injEq, Obj.cells.injEq] at h
    exact hT h.2.1.symm
theorem Bk.at5 {w : World} {b : Nat} {c0 c1 c2 c3 c4 : Value} {t : TypeId} (h : Bk w b #[c0, c1, c2, c3, c4] t) : w.cell? ⟨b, 0, none⟩ = some c0 ∧ w.cell? ⟨b, 1, none⟩ = some c1 ∧ w.cell? ⟨b, 2, none⟩ = some c2 ∧ w.cell? ⟨b, 3, none⟩ = some c3 ∧ w.cell? ⟨b, 4, none⟩ = some c4 := ⟨cell_of_row w b 0 _ _ _ h, cell_of_row w b 1 _ _ _ h, cell_of_row w b 2 _ _ _ h, cell_of_row w b 3 _ _ _ h, cell_of_row w b 4 _ _ _ h⟩
/-- A local of three cells. -/
theorem Bk.at3 {w : World} {b : Nat} {c0 c1 c2 : Value} {t : TypeId} (h : Bk w b #[c0, c1, c2] t) : w.cell? ⟨b, 0, none⟩ = some c0 ∧ w.cell? ⟨b, 1, none⟩ = some c1 ∧ w.cell? ⟨b, 2, none⟩ = some c2 := ⟨cell_of_row w b 0 _ _ _ h, cell_of_row w b 1 _ _ _ h, cell_of_row w b 2 _ _ _ h⟩
theorem Bk.at6 {w : World} {b : Nat} {c0 c1 c2 c3 c4 c5 : Value} {t : TypeId} (h : Bk w b #[c0, c1, c2, c3, c4, c5] t) : w.cell? ⟨b, 0, none⟩ = some c0 ∧ w.cell? ⟨b, 1, none⟩ = some c1 ∧ w.cell? ⟨b, 2, none⟩ = some c2 ∧ w.cell? ⟨b, 3, none⟩ = some c3 ∧ w.cell? ⟨b, 4, none⟩ = some c4 ∧ w.cell? ⟨b, 5, none⟩ = some c5 := ⟨cell_of_row w b 0 _ _ _ h, cell_of_row w b 1 _ _ _ h, cell_of_row w b 2 _ _ _ h, cell_of_row w b 3 _ _ _ h, cell_of_row w b 4 _ _ _ h, cell_of_row w b 5 _ _ _ h⟩

end Go.Proofs.YtglagbedgjkdbaaGreatDoor
namespace Go.Proofs.YtglagbedgjkdbaaGreatDoor
open Go.ChangeShapes Go.WideShapes Go.ChangeAt Go.RowKit Go.BigFrame
set_option linter.unusedVariables false
set_option linter.unusedSimpArgs false

def fI (n : Int) : Prop := -9223372036854775808 ≤ n ∧ n ≤ 9223372036854775807
/-- A node that may come in. -/
structure Nd.fit (y : Nd) : Prop where
  op : fI y.op
  n : fI y.n
  l : fI y.l
  r : fI y.r
  v : y.v.size ≤ 140737488351232
  x : y.x.size ≤ 140737488351232
theorem noNd_fit : noNd.fit := ⟨⟨by decide, by decide⟩, ⟨by decide, by decide⟩, ⟨by decide, by decide⟩, ⟨by decide, by decide⟩, by decide, by decide⟩
/-- A row of nodes in memory. -/
def IsNds (w : World) (ao : Option Addr) (ns : List Nd) : Prop := ∀ i, i < ns.length → ∃ g o, ao = some ⟨g, o, none⟩ ∧ w.cell? ⟨g, o + i * 6, none⟩ = some (.int .i64 (ns.getD i noNd).op) ∧ w.cell? ⟨g, o + i * 6 + 1, none⟩ = some (.int .i64 (ns.getD i noNd).n) ∧ w.cell? ⟨g, o + i * 6 + 2, none⟩ = some (.string (ns.getD i noNd).v) ∧ w.cell? ⟨g, o + i * 6 + 3, none⟩ = some (.string (ns.getD i noNd).x) ∧ w.cell? ⟨g, o + i * 6 + 4, none⟩ = some (.int .i64 (ns.getD i noNd).l) ∧ w.cell? ⟨g, o + i * 6 + 5, none⟩ = some (.int .i64 (ns.getD i noNd).r)
theorem IsNds.keep {w u : World} {ao : Option Addr} {ns : List Nd} (h : IsNds w ao ns) (G : Below w.heap.size w u) : IsNds u ao ns := fun i hi => by
  obtain ⟨g, o, e, a0, a1, a2, a3, a4, a5⟩ := h i hi
  exact ⟨g, o, e, (G.cell (p := ⟨_, _, none⟩) (lt_of_cell a0)).trans a0, (G.cell (p := ⟨_, _, none⟩) (lt_of_cell a1)).trans a1, (G.cell (p := ⟨_, _, none⟩) (lt_of_cell a2)).trans a2, (G.cell (p := ⟨_, _, none⟩) (lt_of_cell a3)).trans a3, (G.cell (p := ⟨_, _, none⟩) (lt_of_cell a4)).trans a4, (G.cell (p := ⟨_, _, none⟩) (lt_of_cell a5)).trans a5⟩
theorem nd_wf {n : Int} (h : (Lit.int .i64 n).wf = true) : fI n := by
  have h' : (decide (IntKind.min .i64 ≤ n) && decide (n ≤ IntKind.max .i64)) = true := h
  rw [Bool.and_eq_true, decide_eq_true_eq, decide_eq_true_eq] at h'
  have e1 : IntKind.min .i64 = -9223372036854775808 := by decide +kernel
  have e2 : IntKind.max .i64 = 9223372036854775807 := by decide +kernel
  rw [e1, e2] at h'
  exact h'
theorem nd_add (a : Addr) (m j : Nat) : (a.add m).add j = a.add (m + j) := by
  unfold Addr.add
  by_cases hm : m = 0
  · subst hm; simp
  · by_cases hj : j = 0
    · subst hj; simp
    · rw [if_neg hm, if_neg hj, if_neg (by omega)]
      simp [Nat.add_assoc]
theorem bytesNd : Tryz.prog.bytesOf 64 = 64 := by kernel_rfl
theorem cellsNd : Tryz.prog.cellsOf 64 = 6 := by kernel_rfl
theorem nd_weights {H : Type} {P : Program} {e : TypeId} : ∀ {l : List (DataW H)} {d : DataW H}, d ∈ l → ∀ n ∈ d.weights P e, n ∈ DataW.weightsAll P e l
  | d0 :: l, d, hd, n, hn => by
    simp only [DataW.weightsAll, List.mem_append]
    rcases List.mem_cons.1 hd with rfl | hd
    · exact .inl hn
    · exact .inr (nd_weights hd n hn)

section
variable {H : Type} {enc : TypeId × Value → H} {w : World} {spare : Nat → Bool} {held : Bool}

theorem trod_struct6 {P : Program} {base : Nat} {t : TypeId} {f0 f1 f2 f3 f4 f5 : Field} {fuel : Nat} {cs : List Value} {x : DataW H × List MemPlace} (ht : P.underlying t = some (.struct #[f0, f1, f2, f3, f4, f5])) (h : DataW.trod enc P w base spare held fuel t cs = some x) :
    ∃ y0 y1 y2 y3 y4 y5 n, x.1 = .agg [y0.1, y1.1, y2.1, y3.1, y4.1, y5.1] ∧ cs.length = P.cellsOf t ∧ DataW.trod enc P w base spare held n f0.type ((cs.drop f0.offset).take (P.cellsOf f0.type)) = some y0 ∧
      DataW.trod enc P w base spare held n f1.type ((cs.drop f1.offset).take (P.cellsOf f1.type)) = some y1 ∧ DataW.trod enc P w base spare held n f2.type ((cs.drop f2.offset).take (P.cellsOf f2.type)) = some y2 ∧
      DataW.trod enc P w base spare held n f3.type ((cs.drop f3.offset).take (P.cellsOf f3.type)) = some y3 ∧ DataW.trod enc P w base spare held n f4.type ((cs.drop f4.offset).take (P.cellsOf f4.type)) = some y4 ∧
      DataW.trod enc P w base spare held n f5.type ((cs.drop f5.offset).take (P.cellsOf f5.type)) = some y5 := by
  obtain ⟨xs, n, _, rfl, hl, hlen, hf⟩ := DataW.trod_struct ht h
  match xs, hlen with
  | [y0, y1, y2, y3, y4, y5], _ => exact ⟨y0, y1, y2, y3, y4, y5, n, by simp, hl, by simpa using hf 0 f0 rfl, by simpa using hf 1 f1 rfl, by simpa using hf 2 f2 rfl, by simpa using hf 3 f3 rfl, by simpa using hf 4 f4 rfl, by simpa using hf 5 f5 rfl⟩
theorem list6 {α : Type} {cs : List α} (h : cs.length = 6) : ∃ c0 c1 c2 c3 c4 c5, cs = [c0, c1, c2, c3, c4, c5] := by
  match cs, h with
  | [c0, c1, c2, c3, c4, c5], _ => exact ⟨c0, c1, c2, c3, c4, c5, rfl⟩

set_option maxRecDepth 100000 in
theorem open_nds {fuel : Nat} {v : Value} {y : DataW H × List MemPlace} (h : DataW.trod enc Tryz.prog w 0 spare held fuel 28 [v] = some y) (hw : ∀ n ∈ y.1.weights Tryz.prog 28, n ≤ reachBytes) :
    ∃ ao cap ns, v = .slice ao ns.length cap ∧ ns.length ≤ cap ∧ (ao = none → ns.length = 0 ∧ cap = 0) ∧ IsNds w ao ns ∧ ns.length * 64 ≤ 140737488351232 ∧ ∀ k, (ns.getD k noNd).fit := by
  rcases DataW.trod_slice Tryz.underlying28 h with ⟨hcs, _⟩ | ⟨a, len, cap, elems, rest, fu, _, hcs, hx, _, hl, hm, hlen, hel, _, _⟩
  · simp only [List.cons.injEq, and_true] at hcs
    exact ⟨none, 0, [], hcs, Nat.le_refl _, fun _ => ⟨rfl, rfl⟩, fun i hi => by simp at hi, by simp, fun k => by simp; exact noNd_fit⟩
  · simp only [List.cons.injEq, and_true] at hcs
    have hw0 := hw ((elems.map (·.1)).length * 64 + (rest.map (·.1)).length * 64) (by rw [hx]; simp [DataW.weights, Tryz.underlying28, bytesNd, Nat.add_mul])
    have each : ∀ i : Nat, ∃ t : Nd, t.fit ∧ (i < len → w.cell? (a.add (i * 6)) = some (.int .i64 t.op) ∧ w.cell? (a.add (i * 6 + 1)) = some (.int .i64 t.n) ∧ w.cell? (a.add (i * 6 + 2)) = some (.string t.v) ∧ w.cell? (a.add (i * 6 + 3)) = some (.string t.x) ∧ w.cell? (a.add (i * 6 + 4)) = some (.int .i64 t.l) ∧ w.cell? (a.add (i * 6 + 5)) = some (.int .i64 t.r)) := by
      intro i
      by_cases hi : i < len
      · have h1 := hel i hi
        rw [cellsNd, List.getElem?_eq_getElem (by omega), Option.bind_eq_some_iff] at h1
        obtain ⟨cs', h2, h3⟩ := h1
        obtain ⟨_, hcl, hce⟩ := World.cells?_some h2
        obtain ⟨c0, c1, c2, c3, c4, c5, rfl⟩ := list6 hcl
        obtain ⟨y0, y1, y2, y3, y4, y5, m, e1, _, g0, g1, g2, g3, g4, g5⟩ := trod_struct6 Tryz.underlying64 h3
        have g0' : DataW.trod enc Tryz.prog w 0 spare held m 62 [c0] = some y0 := g0
        have g1' : DataW.trod enc Tryz.prog w 0 spare held m 2 [c1] = some y1 := g1
        have g2' : DataW.trod enc Tryz.prog w 0 spare held m 9 [c2] = some y2 := g2
        have g3' : DataW.trod enc Tryz.prog w 0 spare held m 9 [c3] = some y3 := g3
        have g4' : DataW.trod enc Tryz.prog w 0 spare held m 3 [c4] = some y4 := g4
        have g5' : DataW.trod enc Tryz.prog w 0 spare held m 3 [c5] = some y5 := g5
        obtain ⟨n0, e0, _, w0⟩ := DataW.trod_int Tryz.underlying62 g0'
        obtain ⟨n1, e2, _, w1⟩ := DataW.trod_int Tryz.underlying2 g1'
        obtain ⟨s2, e3, q2, _⟩ := DataW.trod_string Tryz.underlying9 g2'
        obtain ⟨s3, e4, q3, _⟩ := DataW.trod_string Tryz.underlying9 g3'
        obtain ⟨n4, e5, _, w4⟩ := DataW.trod_int Tryz.underlying3 g4'
        obtain ⟨n5, e6, _, w5⟩ := DataW.trod_int Tryz.underlying3 g5'
        simp only [List.cons.injEq, and_true] at e0 e2 e3 e4 e5 e6
        subst e0; subst e2; subst e3; subst e4; subst e5; subst e6
        have hmem : (elems[i]'(by omega)).1 ∈ elems.map (·.1) := List.mem_map_of_mem (List.getElem_mem _)
        have hsz : ∀ s : ByteArray, s = s2 ∨ s = s3 → s.size ≤ 140737488351232 := fun s hs => by
          have h5 : s.data.toList.length ≤ reachBytes := by
            refine hw _ ?_
            rw [hx]
            simp only [DataW.weights, Tryz.underlying28, List.mem_cons, List.mem_append]
            refine .inr (.inl (nd_weights hmem _ ?_))
            rw [e1]
            simp only [DataW.weights, Tryz.underlying64, DataW.weightsEach, List.mem_append]
            rcases hs with rfl | rfl
            · simp [DataW.weightsEach, q2, DataW.weights]
            · simp [DataW.weightsEach, q3, DataW.weights]
          have h6 : s.data.toList.length = s.size := Array.length_toList
          unfold reachBytes at h5
          omega
        refine ⟨⟨n0, n1, s2, s3, n4, n5⟩, ⟨nd_wf w0, nd_wf w1, nd_wf w4, nd_wf w5, hsz _ (.inl rfl), hsz _ (.inr rfl)⟩, fun _ => ?_⟩
        have d0 := hce 0 (by omega)
        have d1 := hce 1 (by omega)
        have d2 := hce 2 (by omega)
        have d3 := hce 3 (by omega)
        have d4 := hce 4 (by omega)
        have d5 := hce 5 (by omega)
        rw [nd_add] at d0 d1 d2 d3 d4 d5
        exact ⟨by simpa using d0, by simpa using d1, by simpa using d2, by simpa using d3, by simpa using d4, by simpa using d5⟩
      · exact ⟨noNd, noNd_fit, fun h => absurd h hi⟩
    obtain ⟨f, hf⟩ : ∃ f : Nat → Nd, ∀ i : Nat, (f i).fit ∧ (i < len → w.cell? (a.add (i * 6)) = some (.int .i64 (f i).op) ∧ w.cell? (a.add (i * 6 + 1)) = some (.int .i64 (f i).n) ∧ w.cell? (a.add (i * 6 + 2)) = some (.string (f i).v) ∧ w.cell? (a.add (i * 6 + 3)) = some (.string (f i).x) ∧ w.cell? (a.add (i * 6 + 4)) = some (.int .i64 (f i).l) ∧ w.cell? (a.add (i * 6 + 5)) = some (.int .i64 (f i).r)) := ⟨fun j => Classical.choose (each j), fun j => Classical.choose_spec (each j)⟩
    have hget : ∀ j, j < len → ((List.range len).map f).getD j noNd = f j := fun j hj => by simp [List.getD, hj]
    have hlen2 : ((List.range len).map f).length = len := by simp
    refine ⟨some a, cap, (List.range len).map f, by rw [hlen2]; exact hcs, by rw [hlen2]; exact hl, fun e => (by cases e), fun i hi => ?_, ?_, fun j => ?_⟩
    · rw [hlen2] at hi
      obtain ⟨ab, ao, asp⟩ := a
      cases asp with
      | some s => have := World.cell?_spot ((hf 0).2 (by omega)).1; simp [Addr.add] at this
      | none =>
        obtain ⟨e0, e1, e2, e3, e4, e5⟩ := (hf i).2 hi
        rw [hget i hi]
        rw [add_plain] at e0 e1 e2 e3 e4 e5
        simp only [← Nat.add_assoc] at e1 e2 e3 e4 e5
        exact ⟨ab, ao, rfl, e0, e1, e2, e3, e4, e5⟩
    · rw [hlen2]
      unfold reachBytes at hw0
      simp at hw0
      omega
    · by_cases hj : j < len
      · rw [hget j hj]; exact (hf j).1
      · have : ((List.range len).map f).getD j noNd = noNd := by simp [List.getD, hj]
        rw [this]; exact noNd_fit

end

theorem nds_at (ns : List Nd) : ∀ i, i < ns.length → ∀ j, j < 6 → (ndsV ns)[i * 6 + j]? = (ndA (ns.getD i noNd)).toList[j]? := by
  induction ns with
  | nil => intro i hi; simp at hi
  | cons t r ih =>
    intro i hi j hj
    have e : ndsV (t :: r) = (ndA t).toList ++ ndsV r := rfl
    have hl : (ndA t).toList.length = 6 := rfl
    rw [e]
    cases i with
    | zero =>
      rw [Nat.zero_mul, Nat.zero_add, List.getElem?_append_left (by omega)]
      rfl
    | succ i =>
      rw [List.getElem?_append_right (by omega), hl, show (i + 1) * 6 + j - 6 = i * 6 + j by omega]
      rw [ih i (by simpa using hi) j hj]
      rfl
theorem nds_more (ns : List Nd) (k : Nat) (h : k < ns.length) : ndsV (ns.take k) ++ (ndA (ns.getD k noNd)).toList = ndsV (ns.take (k + 1)) := by
  unfold ndsV
  rw [List.take_add_one]
  simp only [List.flatMap_append, List.getD, List.getElem?_eq_getElem h, Option.getD_some, Option.toList_some, List.flatMap_cons, List.flatMap_nil, List.append_nil]
/-- A row of nodes of one's own is a row of nodes. -/
theorem nds_of_own {w : World} {b : Nat} {ao : Option Addr} {c : Nat} {ns : List Nd} (h : w.ownsRow b 64 6 (.slice ao ns.length c) ns.length (ndsV ns)) : IsNds w ao ns := fun i hi => by
  obtain ⟨ao', c', e, _, _, hg⟩ := own_form h
  simp only [Value.slice.injEq, true_and] at e
  obtain ⟨rfl, rfl⟩ := e
  rcases hg with hg | ⟨g, rfl, _, _⟩
  · omega
  have hc : ∀ j, j < 6 → w.cell? ⟨g, i * 6 + j, none⟩ = (ndA (ns.getD i noNd)).toList[j]? := fun j hj => by
    rw [World.ownsRow.cellAt h (i * 6 + j) (by omega), nds_at ns i hi j hj]
  refine ⟨g, 0, rfl, ?_⟩
  rw [Nat.zero_add]
  exact ⟨hc 0 (by omega), hc 1 (by omega), hc 2 (by omega), hc 3 (by omega), hc 4 (by omega), hc 5 (by omega)⟩

end Go.Proofs.YtglagbedgjkdbaaGreatDoor
namespace Go.Proofs.YtglagbedgjkdbaaGreatDoor
open Go.ChangeShapes Go.WideShapes Go.ChangeAt Go.RowKit
set_option linter.unusedVariables false
set_option linter.unusedSimpArgs false

/-- A row of numbers in memory. -/
def IsInts (w : World) (ao : Option Addr) (zs : List Int) : Prop := ∀ i, i < zs.length → ∃ g o, ao = some ⟨g, o, none⟩ ∧ w.cell? ⟨g, o + i, none⟩ = some (.int .i64 (zs.getD i 0))
theorem IsInts.keep {w u : World} {ao : Option Addr} {zs : List Int} (h : IsInts w ao zs) (G : Below w.heap.size w u) : IsInts u ao zs := fun i hi => by
  obtain ⟨g, o, e, a0⟩ := h i hi
  exact ⟨g, o, e, (G.cell (p := ⟨_, _, none⟩) (lt_of_cell a0)).trans a0⟩
theorem bytesIn : Tryz.prog.bytesOf 3 = 8 := by kernel_rfl

section
variable {H : Type} {enc : TypeId × Value → H} {w : World} {spare : Nat → Bool} {held : Bool}

theorem open_gaps {fuel : Nat} {v : Value} {y : DataW H × List MemPlace} (h : DataW.trod enc Tryz.prog w 0 spare held fuel 46 [v] = some y) (hw : ∀ n ∈ y.1.weights Tryz.prog 46, n ≤ reachBytes) :
    ∃ ao cap zs, v = .slice ao zs.length cap ∧ zs.length ≤ cap ∧ IsInts w ao zs ∧ zs.length * 8 ≤ 140737488351232 := by
  rcases open_ints Tryz.underlying46 Tryz.underlying3 (by kernel_rfl) h with ⟨hcs, _⟩ | ⟨a, l, c, zs, hcs, _, hl, hm, hz, hx, hcell, _⟩
  · simp only [List.cons.injEq, and_true] at hcs
    exact ⟨none, 0, [], hcs, Nat.le_refl _, fun i hi => by simp at hi, by simp⟩
  · simp only [List.cons.injEq, and_true] at hcs
    have hlz : l ≤ zs.length := by split at hz <;> omega
    have hlen : (zs.take l).length = l := by rw [List.length_take]; omega
    have hw0 := hw ((lits .i64 (zs.take l)).length * 8 + (lits .i64 (zs.drop l)).length * 8) (by rw [hx]; simp [DataW.weights, Tryz.underlying46, bytesIn, Nat.add_mul]; exact .inl rfl)
    refine ⟨some a, c, zs.take l, by rw [hlen]; exact hcs, by rw [hlen]; exact hl, fun i hi => ?_, ?_⟩
    · rw [hlen] at hi
      have h1 := hcell i (by omega)
      obtain ⟨ab, ao, asp⟩ := a
      cases asp with
      | some s => have := World.cell?_spot (hcell 0 (by omega)); simp [Addr.add] at this
      | none =>
        rw [add_plain] at h1
        refine ⟨ab, ao, rfl, ?_⟩
        rw [h1, List.getD_eq_getElem?_getD, List.getD_eq_getElem?_getD, List.getElem?_take, if_pos hi]
    · rw [hlen]
      simp only [lits, List.length_map, List.length_take, List.length_drop, reachBytes] at hw0
      omega

end
end Go.Proofs.YtglagbedgjkdbaaGreatDoor
namespace Go.Proofs.YtglagbedgjkdbaaGreatDoor
set_option linter.unusedVariables false
set_option linter.unusedSimpArgs false

structure It where
  neg : Bool
  ty : List ByteArray
  v : ByteArray
  lo : Int
  hi : Int
structure Qy where
  items : List It
  mode : Int
  after : Int
  wh : List Nd
  within : Int
  by_ : ByteArray
  ret : List (List Nd)
structure Sps where
  items : List Int
  wh : List Int
  within : Int
  by_ : Int
  ret : List (List Int)

end Go.Proofs.YtglagbedgjkdbaaGreatDoor
namespace Go.Proofs.YtglagbedgjkdbaaGreatDoor
open Go.ChangeShapes Go.WideShapes Go.ChangeAt Go.RowKit Go.BigFrame
set_option linter.unusedVariables false
set_option linter.unusedSimpArgs false

def noIt : It := ⟨false, [], eS, 0, 0⟩
/-- A row of strings in memory. -/
def IsSs (w : World) (ao : Option Addr) (ss : List ByteArray) : Prop := ∀ i, i < ss.length → ∃ g o, ao = some ⟨g, o, none⟩ ∧ w.cell? ⟨g, o + i, none⟩ = some (.string (ss.getD i eS))
theorem IsSs.keep {w u : World} {ao : Option Addr} {ss : List ByteArray} (h : IsSs w ao ss) (G : Below w.heap.size w u) : IsSs u ao ss := fun i hi => by
  obtain ⟨g, o, e, a0⟩ := h i hi
  exact ⟨g, o, e, (G.cell (p := ⟨_, _, none⟩) (lt_of_cell a0)).trans a0⟩
/-- An item in memory. -/
def IsItm (w : World) (g o : Nat) (i : It) : Prop := ∃ ao c, w.cell? ⟨g, o, none⟩ = some (.bool i.neg) ∧ w.cell? ⟨g, o + 1, none⟩ = some (.slice ao i.ty.length c) ∧ w.cell? ⟨g, o + 2, none⟩ = some (.string i.v) ∧ w.cell? ⟨g, o + 3, none⟩ = some (.int .i64 i.lo) ∧ w.cell? ⟨g, o + 4, none⟩ = some (.int .i64 i.hi) ∧ IsSs w ao i.ty ∧ Sl ao i.ty.length c
theorem IsItm.keep {w u : World} {g o : Nat} {i : It} (h : IsItm w g o i) (G : Below w.heap.size w u) : IsItm u g o i := by
  obtain ⟨ao, c, a0, a1, a2, a3, a4, hs, hl⟩ := h
  exact ⟨ao, c, (G.cell (p := ⟨_, _, none⟩) (lt_of_cell a0)).trans a0, (G.cell (p := ⟨_, _, none⟩) (lt_of_cell a1)).trans a1, (G.cell (p := ⟨_, _, none⟩) (lt_of_cell a2)).trans a2, (G.cell (p := ⟨_, _, none⟩) (lt_of_cell a3)).trans a3, (G.cell (p := ⟨_, _, none⟩) (lt_of_cell a4)).trans a4, hs.keep G, hl⟩
def IsIts (w : World) (ao : Option Addr) (l : List It) : Prop := ∀ i, i < l.length → ∃ g o, ao = some ⟨g, o, none⟩ ∧ IsItm w g (o + i * 5) (l.getD i noIt)
theorem IsIts.keep {w u : World} {ao : Option Addr} {l : List It} (h : IsIts w ao l) (G : Below w.heap.size w u) : IsIts u ao l := fun i hi => by
  obtain ⟨g, o, e, a0⟩ := h i hi
  exact ⟨g, o, e, a0.keep G⟩
/-- A row of rows of nodes. -/
def IsNss (w : World) (ao : Option Addr) (l : List (List Nd)) : Prop := ∀ i, i < l.length → ∃ g o a c, ao = some ⟨g, o, none⟩ ∧ w.cell? ⟨g, o + i, none⟩ = some (.slice a (l.getD i []).length c) ∧ IsNds w a (l.getD i []) ∧ Sl a (l.getD i []).length c
theorem IsNss.keep {w u : World} {ao : Option Addr} {l : List (List Nd)} (h : IsNss w ao l) (G : Below w.heap.size w u) : IsNss u ao l := fun i hi => by
  obtain ⟨g, o, a, c, e, a0, hs, hl⟩ := h i hi
  exact ⟨g, o, a, c, e, (G.cell (p := ⟨_, _, none⟩) (lt_of_cell a0)).trans a0, hs.keep G, hl⟩
def IsIss (w : World) (ao : Option Addr) (l : List (List Int)) : Prop := ∀ i, i < l.length → ∃ g o a c, ao = some ⟨g, o, none⟩ ∧ w.cell? ⟨g, o + i, none⟩ = some (.slice a (l.getD i []).length c) ∧ IsInts w a (l.getD i []) ∧ Sl a (l.getD i []).length c
theorem IsIss.keep {w u : World} {ao : Option Addr} {l : List (List Int)} (h : IsIss w ao l) (G : Below w.heap.size w u) : IsIss u ao l := fun i hi => by
  obtain ⟨g, o, a, c, e, a0, hs, hl⟩ := h i hi
  exact ⟨g, o, a, c, e, (G.cell (p := ⟨_, _, none⟩) (lt_of_cell a0)).trans a0, hs.keep G, hl⟩
/-- A query in memory, by value. -/
structure IsQ (w : World) (q : Qy) (cs : Array Value) (ai : Option Addr) (ci : Nat) (aw : Option Addr) (cw : Nat) (ar : Option Addr) (cr : Nat) : Prop where
  eq : cs = #[.slice ai q.items.length ci, .int .i64 q.mode, .int .i64 q.after, .slice aw q.wh.length cw, .int .i64 q.within, .string q.by_, .slice ar q.ret.length cr]
  its : IsIts w ai q.items
  wh : IsNds w aw q.wh
  ret : IsNss w ar q.ret
  si : Sl ai q.items.length ci
  sw : Sl aw q.wh.length cw
  sr : Sl ar q.ret.length cr
theorem IsQ.keep {w u : World} {q : Qy} {cs : Array Value} {ai : Option Addr} {ci : Nat} {aw : Option Addr} {cw : Nat} {ar : Option Addr} {cr : Nat} (h : IsQ w q cs ai ci aw cw ar cr) (G : Below w.heap.size w u) : IsQ u q cs ai ci aw cw ar cr := ⟨h.eq, h.its.keep G, h.wh.keep G, h.ret.keep G, h.si, h.sw, h.sr⟩
structure IsSp (w : World) (s : Sps) (cs : Array Value) (ai : Option Addr) (ci : Nat) (aw : Option Addr) (cw : Nat) (ar : Option Addr) (cr : Nat) : Prop where
  eq : cs = #[.slice ai s.items.length ci, .slice aw s.wh.length cw, .int .i64 s.within, .int .i64 s.by_, .slice ar s.ret.length cr]
  its : IsInts w ai s.items
  wh : IsInts w aw s.wh
  ret : IsIss w ar s.ret
  si : Sl ai s.items.length ci
  sw : Sl aw s.wh.length cw
  sr : Sl ar s.ret.length cr
theorem IsSp.keep {w u : World} {q : Sps} {cs : Array Value} {ai : Option Addr} {ci : Nat} {aw : Option Addr} {cw : Nat} {ar : Option Addr} {cr : Nat} (h : IsSp w q cs ai ci aw cw ar cr) (G : Below w.heap.size w u) : IsSp u q cs ai ci aw cw ar cr := ⟨h.eq, h.its.keep G, h.wh.keep G, h.ret.keep G, h.si, h.sw, h.sr⟩
/-- An item that may come in. -/
structure It.fit (i : It) : Prop where
  lo : fI i.lo
  hi : fI i.hi
  v : i.v.size ≤ 140737488351232
  n : i.ty.length * 16 ≤ 140737488351232
  s : ∀ k, (i.ty.getD k eS).size ≤ 140737488351232
theorem eS_small : eS.size ≤ 140737488351232 := by decide
theorem noIt_fit : noIt.fit := ⟨⟨by decide, by decide⟩, ⟨by decide, by decide⟩, by decide, by decide, fun k => by simp [noIt]; exact eS_small⟩
/-- Trees that may come in. -/
def ndsFit (ns : List Nd) : Prop := ns.length * 64 ≤ 140737488351232 ∧ ∀ k, (ns.getD k noNd).fit
structure Qy.fit (q : Qy) : Prop where
  n : q.items.length * 64 ≤ 140737488351232
  its : ∀ k, (q.items.getD k noIt).fit
  mode : fI q.mode
  after : fI q.after
  within : fI q.within
  by_ : q.by_.size ≤ 140737488351232
  wh : ndsFit q.wh
  r : q.ret.length * 24 ≤ 140737488351232
  ret : ∀ k, ndsFit (q.ret.getD k [])
structure Sps.fit (s : Sps) : Prop where
  n : s.items.length * 8 ≤ 140737488351232
  w : s.wh.length * 8 ≤ 140737488351232
  r : s.ret.length * 24 ≤ 140737488351232
  ret : ∀ k, (s.ret.getD k []).length * 8 ≤ 140737488351232
  within : fI s.within
  by_ : fI s.by_
theorem bytesStr : Tryz.prog.bytesOf 9 = 16 := by kernel_rfl
theorem cellsStr : Tryz.prog.cellsOf 9 = 1 := by kernel_rfl
theorem spotless {w : World} {a : Addr} {v : Value} (h : w.cell? (a.add 0) = some v) : ∃ b off, a = ⟨b, off, none⟩ := by
  obtain ⟨b, off, spot⟩ := a
  cases spot with
  | none => exact ⟨b, off, rfl⟩
  | some s => have := World.cell?_spot h; simp [Addr.add] at this
section
variable {H : Type} {enc : TypeId × Value → H} {w : World} {spare : Nat → Bool} {held : Bool}

theorem open_ss {fuel : Nat} {v : Value} {y : DataW H × List MemPlace} (h : DataW.trod enc Tryz.prog w 0 spare held fuel 66 [v] = some y) (hw : ∀ n ∈ y.1.weights Tryz.prog 66, n ≤ reachBytes) :
    ∃ ao cap ss, v = .slice ao ss.length cap ∧ Sl ao ss.length cap ∧ IsSs w ao ss ∧ ss.length * 16 ≤ 140737488351232 ∧ ∀ k, (ss.getD k eS).size ≤ 140737488351232 := by
  rcases open_strings Tryz.underlying66 Tryz.underlying9 cellsStr h with ⟨hcs, _⟩ | ⟨a, len, cap, ss, hcs, _, hl, hm, hlen, hx, hcell, _⟩
  · simp only [List.cons.injEq, and_true] at hcs
    exact ⟨none, 0, [], hcs, ⟨Nat.le_refl _, fun _ => ⟨rfl, rfl⟩⟩, fun i hi => by simp at hi, by simp, fun k => by simp; exact eS_small⟩
  · simp only [List.cons.injEq, and_true] at hcs
    have hge : len ≤ ss.length := by split at hlen <;> omega
    have htl : (ss.take len).length = len := by simp; omega
    have hw0 := hw ((strs (ss.take len) : List (DataW H)).length * 16 + (strs (ss.drop len) : List (DataW H)).length * 16) (by rw [hx]; simp [DataW.weights, Tryz.underlying66, bytesStr, Nat.add_mul])
    have hbig : len * 16 ≤ 140737488351232 := by
      unfold reachBytes at hw0
      simp [strs] at hw0
      omega
    refine ⟨some a, cap, ss.take len, by rw [htl]; exact hcs, ⟨by omega, fun e => by cases e⟩, fun i hi => ?_, by rw [htl]; exact hbig, fun k => ?_⟩
    · rw [htl] at hi
      have h1 := hcell i (by omega)
      obtain ⟨b, off, rfl⟩ := spotless (hcell 0 (by omega))
      rw [add_plain] at h1
      refine ⟨b, off, rfl, ?_⟩
      rw [h1, List.getD_eq_getElem?_getD, List.getD_eq_getElem?_getD, List.getElem?_take, if_pos hi]
      rfl
    · rw [List.getD_eq_getElem?_getD]
      cases hk : (ss.take len)[k]? with
      | none => simp; exact eS_small
      | some s =>
        have hmem : s ∈ ss.take len := List.mem_of_getElem? hk
        have h5 : s.data.toList.length ≤ reachBytes := by
          refine hw _ ?_
          rw [hx]
          simp only [DataW.weights, Tryz.underlying66, List.mem_cons, List.mem_append]
          refine .inr (.inl (nd_weights (d := .lit (.string s.data.toList)) ?_ _ ?_))
          · unfold strs
            exact List.mem_map.2 ⟨s, hmem, rfl⟩
          · simp [DataW.weights]
        have h6 : s.data.toList.length = s.size := Array.length_toList
        unfold reachBytes at h5
        simp
        omega
end

end Go.Proofs.YtglagbedgjkdbaaGreatDoor
