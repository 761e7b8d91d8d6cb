/- A query in memory. -/
import Derived.Test.YtmoimmghmmomlaaDoorQg
import Derived.Deep.Cut
namespace Go.Proofs.YtmoimmghmmomlaaDoor
open Go.RowKit Go.BigFrame
set_option linter.unusedVariables false
set_option linter.unusedSimpArgs false

def qyA (q : Qy) (vi vw vr : Value) : Array Value := #[vi, .int .i64 q.mode, .int .i64 q.after, vw, .int .i64 q.within, .string q.by_, vr]
def spA (s : Sps) (si sw sr : Value) : Array Value := #[si, sw, .int .i64 s.within, .int .i64 s.by_, sr]
abbrev Apt (a b : Value) : Prop := ∀ g, a.ownBlock = some g → b.ownBlock ≠ some g
/-- The rows of a query and its places: each its own, none of them another's. -/
structure QRows (w : World) (b : Nat) (q : Qy) (s : Sps) (vi vw vr si sw sr : Value) : Prop where
  its : ∃ l, NestI w b vi l ∧ l.map Prod.fst = q.items
  wh : w.ownsRow b 58 6 vw q.wh.length (ndsV q.wh)
  ret : ∃ l, NestN w b vr l ∧ l.map Prod.fst = q.ret ∧ ∀ p ∈ l, Apt vw p.2
  sit : w.ownsRow b 3 1 si s.items.length (intsV s.items)
  swh : w.ownsRow b 3 1 sw s.wh.length (intsV s.wh)
  sre : ∃ l, NestS w b sr l ∧ l.map Prod.fst = s.ret ∧ ∀ p ∈ l, Apt si p.2 ∧ Apt sw p.2
  ap : Apt si sw
theorem QRows.blk {w u : World} {b : Nat} {q : Qy} {s : Sps} {vi vw vr si sw sr : Value} (R : QRows w b q s vi vw vr si sw sr) (G : ∀ k, b ≤ k → k < w.heap.size → (∃ cs t, w.heap[k]? = some (Obj.cells cs t (0, 0)) ∧ t ≠ 39 ∧ t ≠ 42) → u.heap[k]? = w.heap[k]?) : QRows u b q s vi vw vr si sw sr := by
  have go : ∀ {e : TypeId} {sz : Nat} {v : Value} {n : Nat} {xs : List Value}, w.ownsRow b e sz v n xs → e ≠ 39 → e ≠ 42 → u.ownsRow b e sz v n xs := fun h h1 h2 => own_of_block h (fun g cur hg hh => G g hg (lt_of_block hh) ⟨cur, _, hh, h1, h2⟩)
  obtain ⟨l1, n1, e1⟩ := R.its
  obtain ⟨l2, n2, e2, e2'⟩ := R.ret
  obtain ⟨l3, n3, e3, e3'⟩ := R.sre
  exact ⟨⟨l1, ⟨go n1.out (by decide) (by decide), fun p hp => go (n1.inn p hp) (by decide) (by decide), n1.apt⟩, e1⟩, go R.wh (by decide) (by decide),
    ⟨l2, ⟨go n2.out (by decide) (by decide), fun p hp => go (n2.inn p hp) (by decide) (by decide), n2.apt⟩, e2, e2'⟩, go R.sit (by decide) (by decide), go R.swh (by decide) (by decide),
    ⟨l3, ⟨go n3.out (by decide) (by decide), fun p hp => go (n3.inn p hp) (by decide) (by decide), n3.apt⟩, e3, e3'⟩, R.ap⟩
theorem QRows.keep {w u : World} {b : Nat} {q : Qy} {s : Sps} {vi vw vr si sw sr : Value} (R : QRows w b q s vi vw vr si sw sr) (G : Below w.heap.size w u) : QRows u b q s vi vw vr si sw sr := R.blk fun k _ hk _ => G.block k hk
theorem QRows.kd {w u : World} {b d : Nat} {q : Qy} {s : Sps} {vi vw vr si sw sr : Value} (R : QRows w b q s vi vw vr si sw sr) (hd : d < b) (G : Kd d w.heap.size w u) : QRows u b q s vi vw vr si sw sr := R.blk fun k h1 h2 _ => G.blk k h2 (by omega)
/-- The variables of the method query, and the rows. -/
structure QSt (w : World) (b : Nat) (q : Qy) (s : Sps) (vi vw vr si sw sr : Value) : Prop where
  r0 : w.heap[b]? = some (.cells (qyA noQ nilV nilV nilV) 39 (0, 0))
  r1 : w.heap[b + 1]? = some (.cells (spA noS nilV nilV nilV) 42 (0, 0))
  qb : w.heap[b + 1 + 1]? = some (.cells (qyA q vi vw vr) 39 (0, 0))
  sb : w.heap[b + 1 + 1 + 1]? = some (.cells (spA s si sw sr) 42 (0, 0))
  rows : QRows w b q s vi vw vr si sw sr
theorem QSt.kd {w u : World} {b d : Nat} {q : Qy} {s : Sps} {vi vw vr si sw sr : Value} (R : QSt w b q s vi vw vr si sw sr) (hd : d < b) (G : Kd d w.heap.size w u) : QSt u b q s vi vw vr si sw sr :=
  ⟨(G.blk _ (lt_of_block R.r0) (by omega)).trans R.r0, (G.blk _ (lt_of_block R.r1) (by omega)).trans R.r1, (G.blk _ (lt_of_block R.qb) (by omega)).trans R.qb, (G.blk _ (lt_of_block R.sb) (by omega)).trans R.sb, R.rows.kd hd G⟩
theorem QSt.keep {w u : World} {b : Nat} {q : Qy} {s : Sps} {vi vw vr si sw sr : Value} (R : QSt w b q s vi vw vr si sw sr) (G : Below w.heap.size w u) : QSt u b q s vi vw vr si sw sr :=
  ⟨(G.block _ (lt_of_block R.r0)).trans R.r0, (G.block _ (lt_of_block R.r1)).trans R.r1, (G.block _ (lt_of_block R.qb)).trans R.qb, (G.block _ (lt_of_block R.sb)).trans R.sb, R.rows.keep G⟩
/-- Its variables written: the rows stay. -/
theorem QSt.put {w u : World} {b : Nat} {q : Qy} {s : Sps} {vi vw vr si sw sr : Value} (R : QSt w b q s vi vw vr si sw sr) (G : ∀ k, k ≠ b + 1 + 1 → k ≠ b + 1 + 1 + 1 → u.heap[k]? = w.heap[k]?) (q' : Qy) (s' : Sps) (vi' vw' vr' si' sw' sr' : Value)
    (hq : u.heap[b + 1 + 1]? = some (.cells (qyA q' vi' vw' vr') 39 (0, 0))) (hs : u.heap[b + 1 + 1 + 1]? = some (.cells (spA s' si' sw' sr') 42 (0, 0))) (hr : QRows w b q' s' vi' vw' vr' si' sw' sr') : QSt u b q' s' vi' vw' vr' si' sw' sr' :=
  ⟨(G _ (by omega) (by omega)).trans R.r0, (G _ (by omega) (by omega)).trans R.r1, hq, hs, hr.blk fun k _ _ ⟨cs, t, h1, h2, h3⟩ => G k (fun e => by subst e; rw [R.qb] at h1; simp at h1; exact h2 h1.2.symm) (fun e => by subst e; rw [R.sb] at h1; simp at h1; exact h3 h1.2.symm)⟩
theorem QSt.at {w : World} {b : Nat} {q : Qy} {s : Sps} {vi vw vr si sw sr : Value} (R : QSt w b q s vi vw vr si sw sr) : (∀ k, w.frozen? ⟨b + 1 + 1, k, none⟩ = false) ∧ (∀ k, w.frozen? ⟨b + 1 + 1 + 1, k, none⟩ = false) ∧ (∀ k, w.cell? ⟨b + 1 + 1, k, none⟩ = (qyA q vi vw vr)[k]?) ∧ (∀ k, w.cell? ⟨b + 1 + 1 + 1, k, none⟩ = (spA s si sw sr)[k]?) :=
  ⟨fun k => by simp [World.frozen?, R.qb], fun k => by simp [World.frozen?, R.sb], fun k => by simp [World.cell?, R.qb], fun k => by simp [World.cell?, R.sb]⟩
theorem Nest.mono {α : Type} {w : World} {b b' : Nat} {T : TypeId} {sz : Nat} {cel : α → Value → List Value} {te : TypeId} {es : Nat} {row : α → List Value} {cnt : α → Nat} {v : Value} {l : List (α × Value)} (N : Nest w b T sz cel te es row cnt v l) (hb : b' ≤ b) : Nest w b' T sz cel te es row cnt v l :=
  ⟨own_mono N.out hb, fun p hp => own_mono (N.inn p hp) hb, N.apt⟩
/-- One cell of the variable q is written, and what hangs on it. -/
theorem QSt.set2 {w : World} {b : Nat} {q : Qy} {s : Sps} {vi vw vr si sw sr : Value} (R : QSt w b q s vi vw vr si sw sr) (k : Nat) (x : Value) (q' : Qy) (vi' vw' vr' : Value) (hq : (qyA q vi vw vr).setIfInBounds k x = qyA q' vi' vw' vr') (hr : QRows w b q' s vi' vw' vr' si sw sr) : QSt (w.setCell ⟨b + 1 + 1, k, none⟩ x) b q' s vi' vw' vr' si sw sr :=
  R.put (fun j h1 _ => Below.heap_setCell w _ _ j h1) q' s vi' vw' vr' si sw sr (by rw [← hq]; exact heap_setCell_same w _ k _ _ x R.qb) ((Below.heap_setCell w _ _ _ (by show b + 1 + 1 + 1 ≠ b + 1 + 1; omega)).trans R.sb) hr
theorem QSt.set3 {w : World} {b : Nat} {q : Qy} {s : Sps} {vi vw vr si sw sr : Value} (R : QSt w b q s vi vw vr si sw sr) (k : Nat) (x : Value) (s' : Sps) (si' sw' sr' : Value) (hq : (spA s si sw sr).setIfInBounds k x = spA s' si' sw' sr') (hr : QRows w b q s' vi vw vr si' sw' sr') : QSt (w.setCell ⟨b + 1 + 1 + 1, k, none⟩ x) b q s' vi vw vr si' sw' sr' :=
  R.put (fun j _ h1 => Below.heap_setCell w _ _ j h1) q s' vi vw vr si' sw' sr' ((Below.heap_setCell w _ _ _ (by show b + 1 + 1 ≠ b + 1 + 1 + 1; omega)).trans R.qb) (by rw [← hq]; exact heap_setCell_same w _ k _ _ x R.sb) hr
/-- Both are written. -/
theorem QSt.both {w : World} {b : Nat} {q : Qy} {s : Sps} {vi vw vr si sw sr : Value} (R : QSt w b q s vi vw vr si sw sr) (k j : Nat) (x y : Value) (q' : Qy) (s' : Sps) (vi' vw' vr' si' sw' sr' : Value) (hq : (qyA q vi vw vr).setIfInBounds k x = qyA q' vi' vw' vr') (hs : (spA s si sw sr).setIfInBounds j y = spA s' si' sw' sr') (hr : QRows w b q' s' vi' vw' vr' si' sw' sr') : QSt ((w.setCell ⟨b + 1 + 1, k, none⟩ x).setCell ⟨b + 1 + 1 + 1, j, none⟩ y) b q' s' vi' vw' vr' si' sw' sr' :=
  R.put (fun i h1 h2 => (Below.heap_setCell _ _ _ i h2).trans (Below.heap_setCell w _ _ i h1)) q' s' vi' vw' vr' si' sw' sr'
    ((Below.heap_setCell _ _ _ _ (by show b + 1 + 1 ≠ b + 1 + 1 + 1; omega)).trans (by rw [← hq]; exact heap_setCell_same w _ k _ _ x R.qb))
    (by rw [← hs]; exact heap_setCell_same _ _ j _ _ y ((Below.heap_setCell w _ _ _ (by show b + 1 + 1 + 1 ≠ b + 1 + 1; omega)).trans R.sb)) hr
section
variable {w u : World} {b d : Nat} {q : Qy} {s : Sps} {vi vw vr si sw sr : Value}
theorem QRows.newWh (R : QRows w b q s vi vw vr si sw sr) (hd : d < b) (K : Kd d w.heap.size w u) (hb : b ≤ w.heap.size) {v1 v2 : Value} {ns : List Nd} {sp : List Int} (h1 : u.ownsRow w.heap.size 58 6 v1 ns.length (ndsV ns)) (h2 : u.ownsRow w.heap.size 3 1 v2 sp.length (intsV sp)) : QRows u b { q with wh := ns } { s with wh := sp } vi v1 vr si v2 sr := by
  have R' := R.kd hd K
  obtain ⟨l2, n2, e2, _⟩ := R.ret
  obtain ⟨l3, n3, e3, a3⟩ := R.sre
  refine ⟨R'.its, own_mono h1 hb, ⟨l2, n2.kd hd K, e2, fun p hp g h h' => ?_⟩, R'.sit, own_mono h2 hb, ⟨l3, n3.kd hd K, e3, fun p hp => ⟨(a3 p hp).1, fun g h h' => ?_⟩⟩, fun g h h' => ?_⟩
  · have := (h1.lt g h).1; have := ((n2.inn p hp).lt g h').2; omega
  · have := (h2.lt g h).1; have := ((n3.inn p hp).lt g h').2; omega
  · have := (R.sit.lt g h).2; have := (h2.lt g h').1; omega
theorem QRows.newRet (R : QRows w b q s vi vw vr si sw sr) (hd : d < b) (K : Kd d w.heap.size w u) (hb : b ≤ w.heap.size) {v1 v2 : Value} {l : List (List Nd × Value)} {ls : List (List Int × Value)} (h1 : NestN u w.heap.size v1 l) (h2 : NestS u w.heap.size v2 ls) : QRows u b { q with ret := l.map Prod.fst } { s with ret := ls.map Prod.fst } vi vw v1 si sw v2 := by
  have R' := R.kd hd K
  refine ⟨R'.its, R'.wh, ⟨l, h1.mono hb, rfl, fun p hp g h h' => ?_⟩, R'.sit, R'.swh, ⟨ls, h2.mono hb, rfl, fun p hp => ⟨fun g h h' => ?_, fun g h h' => ?_⟩⟩, R.ap⟩
  · have := (R.wh.lt g h).2; have := ((h1.inn p hp).lt g h').1; omega
  · have := (R.sit.lt g h).2; have := ((h2.inn p hp).lt g h').1; omega
  · have := (R.swh.lt g h).2; have := ((h2.inn p hp).lt g h').1; omega
theorem QRows.with (R : QRows w b q s vi vw vr si sw sr) (m f wi : Int) (by_ : ByteArray) (wa ba : Int) : QRows w b { q with mode := m, after := f, within := wi, by_ := by_ } { s with within := wa, by_ := ba } vi vw vr si sw sr := ⟨R.its, R.wh, R.ret, R.sit, R.swh, R.sre, R.ap⟩
end
theorem whereP_le {ts : List Tok} {r : List Nd × List Int} {tl : List Tok} (h : whereP ts = .ok (r, tl)) : tl.length ≤ ts.length := by
  unfold whereP at h
  cases h1 : treeP ts with
  | error e => rw [h1] at h; cases h
  | ok x => obtain ⟨a, b, t2⟩ := x; rw [h1] at h; simp only [Except.ok.injEq, Prod.mk.injEq] at h; obtain ⟨_, rfl⟩ := h; exact treeP_le h1
theorem setv7 {w : World} {b : Nat} {c0 c1 c2 c3 c4 c5 c6 : Value} {t : TypeId} (h : w.heap[b]? = some (.cells #[c0, c1, c2, c3, c4, c5, c6] t (0, 0))) (a0 a1 a2 a3 a4 a5 a6 : Value) : (((((((w.setCell ⟨b, 0, none⟩ a0).setCell ⟨b, 1, none⟩ a1).setCell ⟨b, 2, none⟩ a2).setCell ⟨b, 3, none⟩ a3).setCell ⟨b, 4, none⟩ a4).setCell ⟨b, 5, none⟩ a5).setCell ⟨b, 6, none⟩ a6).heap[b]? = some (.cells #[a0, a1, a2, a3, a4, a5, a6] t (0, 0)) := by
  have h0 : (w.setCell ⟨b, 0, none⟩ a0).heap[b]? = some (.cells #[a0, c1, c2, c3, c4, c5, c6] t (0, 0)) := heap_setCell_same _ b 0 _ _ a0 h
  have h1 : ((w.setCell ⟨b, 0, none⟩ a0).setCell ⟨b, 1, none⟩ a1).heap[b]? = some (.cells #[a0, a1, c2, c3, c4, c5, c6] t (0, 0)) := heap_setCell_same _ b 1 _ _ a1 h0
  have h2 : (((w.setCell ⟨b, 0, none⟩ a0).setCell ⟨b, 1, none⟩ a1).setCell ⟨b, 2, none⟩ a2).heap[b]? = some (.cells #[a0, a1, a2, c3, c4, c5, c6] t (0, 0)) := heap_setCell_same _ b 2 _ _ a2 h1
  have h3 : ((((w.setCell ⟨b, 0, none⟩ a0).setCell ⟨b, 1, none⟩ a1).setCell ⟨b, 2, none⟩ a2).setCell ⟨b, 3, none⟩ a3).heap[b]? = some (.cells #[a0, a1, a2, a3, c4, c5, c6] t (0, 0)) := heap_setCell_same _ b 3 _ _ a3 h2
  have h4 : (((((w.setCell ⟨b, 0, none⟩ a0).setCell ⟨b, 1, none⟩ a1).setCell ⟨b, 2, none⟩ a2).setCell ⟨b, 3, none⟩ a3).setCell ⟨b, 4, none⟩ a4).heap[b]? = some (.cells #[a0, a1, a2, a3, a4, c5, c6] t (0, 0)) := heap_setCell_same _ b 4 _ _ a4 h3
  have h5 : ((((((w.setCell ⟨b, 0, none⟩ a0).setCell ⟨b, 1, none⟩ a1).setCell ⟨b, 2, none⟩ a2).setCell ⟨b, 3, none⟩ a3).setCell ⟨b, 4, none⟩ a4).setCell ⟨b, 5, none⟩ a5).heap[b]? = some (.cells #[a0, a1, a2, a3, a4, a5, c6] t (0, 0)) := heap_setCell_same _ b 5 _ _ a5 h4
  have h6 : (((((((w.setCell ⟨b, 0, none⟩ a0).setCell ⟨b, 1, none⟩ a1).setCell ⟨b, 2, none⟩ a2).setCell ⟨b, 3, none⟩ a3).setCell ⟨b, 4, none⟩ a4).setCell ⟨b, 5, none⟩ a5).setCell ⟨b, 6, none⟩ a6).heap[b]? = some (.cells #[a0, a1, a2, a3, a4, a5, a6] t (0, 0)) := heap_setCell_same _ b 6 _ _ a6 h5
  exact h6
theorem setv7_other (w : World) {b j : Nat} (hj : j ≠ b) (a0 a1 a2 a3 a4 a5 a6 : Value) : (((((((w.setCell ⟨b, 0, none⟩ a0).setCell ⟨b, 1, none⟩ a1).setCell ⟨b, 2, none⟩ a2).setCell ⟨b, 3, none⟩ a3).setCell ⟨b, 4, none⟩ a4).setCell ⟨b, 5, none⟩ a5).setCell ⟨b, 6, none⟩ a6).heap[j]? = w.heap[j]? := by
  rw [Below.heap_setCell _ _ _ j hj, Below.heap_setCell _ _ _ j hj, Below.heap_setCell _ _ _ j hj, Below.heap_setCell _ _ _ j hj, Below.heap_setCell _ _ _ j hj, Below.heap_setCell _ _ _ j hj, Below.heap_setCell _ _ _ j hj]
theorem setv7_kd {w u : World} {d c b : Nat} (K : Kd d c w u) (hb : c ≤ b) (a0 a1 a2 a3 a4 a5 a6 : Value) : Kd d c w (((((((u.setCell ⟨b, 0, none⟩ a0).setCell ⟨b, 1, none⟩ a1).setCell ⟨b, 2, none⟩ a2).setCell ⟨b, 3, none⟩ a3).setCell ⟨b, 4, none⟩ a4).setCell ⟨b, 5, none⟩ a5).setCell ⟨b, 6, none⟩ a6) :=
  (((((((K.far hb _).far hb _).far hb _).far hb _).far hb _).far hb _).far hb _)
theorem setv5 {w : World} {b : Nat} {c0 c1 c2 c3 c4 : Value} {t : TypeId} (h : w.heap[b]? = some (.cells #[c0, c1, c2, c3, c4] t (0, 0))) (a0 a1 a2 a3 a4 : Value) : (((((w.setCell ⟨b, 0, none⟩ a0).setCell ⟨b, 1, none⟩ a1).setCell ⟨b, 2, none⟩ a2).setCell ⟨b, 3, none⟩ a3).setCell ⟨b, 4, none⟩ a4).heap[b]? = some (.cells #[a0, a1, a2, a3, a4] t (0, 0)) := by
  have h0 : (w.setCell ⟨b, 0, none⟩ a0).heap[b]? = some (.cells #[a0, c1, c2, c3, c4] t (0, 0)) := heap_setCell_same _ b 0 _ _ a0 h
  have h1 : ((w.setCell ⟨b, 0, none⟩ a0).setCell ⟨b, 1, none⟩ a1).heap[b]? = some (.cells #[a0, a1, c2, c3, c4] t (0, 0)) := heap_setCell_same _ b 1 _ _ a1 h0
  have h2 : (((w.setCell ⟨b, 0, none⟩ a0).setCell ⟨b, 1, none⟩ a1).setCell ⟨b, 2, none⟩ a2).heap[b]? = some (.cells #[a0, a1, a2, c3, c4] t (0, 0)) := heap_setCell_same _ b 2 _ _ a2 h1
  have h3 : ((((w.setCell ⟨b, 0, none⟩ a0).setCell ⟨b, 1, none⟩ a1).setCell ⟨b, 2, none⟩ a2).setCell ⟨b, 3, none⟩ a3).heap[b]? = some (.cells #[a0, a1, a2, a3, c4] t (0, 0)) := heap_setCell_same _ b 3 _ _ a3 h2
  have h4 : (((((w.setCell ⟨b, 0, none⟩ a0).setCell ⟨b, 1, none⟩ a1).setCell ⟨b, 2, none⟩ a2).setCell ⟨b, 3, none⟩ a3).setCell ⟨b, 4, none⟩ a4).heap[b]? = some (.cells #[a0, a1, a2, a3, a4] t (0, 0)) := heap_setCell_same _ b 4 _ _ a4 h3
  exact h4
theorem setv5_other (w : World) {b j : Nat} (hj : j ≠ b) (a0 a1 a2 a3 a4 : Value) : (((((w.setCell ⟨b, 0, none⟩ a0).setCell ⟨b, 1, none⟩ a1).setCell ⟨b, 2, none⟩ a2).setCell ⟨b, 3, none⟩ a3).setCell ⟨b, 4, none⟩ a4).heap[j]? = w.heap[j]? := by
  rw [Below.heap_setCell _ _ _ j hj, Below.heap_setCell _ _ _ j hj, Below.heap_setCell _ _ _ j hj, Below.heap_setCell _ _ _ j hj, Below.heap_setCell _ _ _ j hj]
theorem setv5_kd {w u : World} {d c b : Nat} (K : Kd d c w u) (hb : c ≤ b) (a0 a1 a2 a3 a4 : Value) : Kd d c w (((((u.setCell ⟨b, 0, none⟩ a0).setCell ⟨b, 1, none⟩ a1).setCell ⟨b, 2, none⟩ a2).setCell ⟨b, 3, none⟩ a3).setCell ⟨b, 4, none⟩ a4) :=
  (((((K.far hb _).far hb _).far hb _).far hb _).far hb _)
theorem results_rows2 {P : Program} {fn : Func} {p q : Tmp} {t1 t2 : TypeId} (h : fn.results = #[.cell p t1, .cell q t2]) (tmps : Array Value) (w : World) (g1 g2 : Nat) (u1 u2 : TypeId) (c1 c2 : Array Value) (f1 f2 : Nat × Nat) (d1 d2 : TypeDesc)
    (hp : tmps.getD p undef = .pointer (some ⟨g1, 0, none⟩)) (hq : tmps.getD q undef = .pointer (some ⟨g2, 0, none⟩)) (h1 : w.heap[g1]? = some (.cells c1 u1 f1)) (h2 : w.heap[g2]? = some (.cells c2 u2 f2))
    (hu1 : P.underlying t1 = some d1) (hu2 : P.underlying t2 = some d2) (hd1 : (match d1 with | .struct _ | .array _ _ => true | _ => false) = true) (hd2 : (match d2 with | .struct _ | .array _ _ => true | _ => false) = true) (hi1 : (P.info? t1).map (·.size) = some c1.size) (hi2 : (P.info? t2).map (·.size) = some c2.size) :
    (results fn tmps).run P w = .ok (.tuple #[.agg c1, .agg c2]) w := by
  have hp' : tmps[p]?.getD undef = .pointer (some ⟨g1, 0, none⟩) := by simpa using hp
  have hq' : tmps[q]?.getD undef = .pointer (some ⟨g2, 0, none⟩) := by simpa using hq
  simp [results, h, hp', hq', asAddr, run_loadVar_row w g1 u1 t1 c1 f1 d1 h1 hu1 hd1 hi1, run_loadVar_row w g2 u2 t2 c2 f2 d2 h2 hu2 hd2 hi2]
theorem infoQ : (Tryd.prog.info? 39).map (·.size) = some 7 := by kernel_rfl
theorem infoP : (Tryd.prog.info? 42).map (·.size) = some 5 := by kernel_rfl
/-- What a query comes to. -/
def QueryP (w : World) (d : Nat) (e0 : Int) (r : E (Qy × Sps)) (e : Ending) (w' : World) : Prop :=
  match r with
  | .ok (q, s) => ∃ vi vw vr si sw sr, e = .returned (.tuple #[.agg (qyA q vi vw vr), .agg (spA s si sw sr)]) ∧ QRows w' w.heap.size q s vi vw vr si sw sr ∧ Kd d w.heap.size w w'
  | .error (c, x) => e = .panicked (rfC c (plc e0 x)) ∧ Kd d w.heap.size w w'
theorem QueryP.bad {w : World} {d : Nat} {e0 : Int} {r : E (Qy × Sps)} {c : Int} {x : List Tok} {w' : World} (h : r = .error (c, x)) (K : Kd d w.heap.size w w') : QueryP w d e0 r (.panicked (rfC c (plc e0 x))) w' := by subst h; exact ⟨rfl, K⟩
def hasT (k : Int) (ts : List Tok) : List Tok := if kd ts = k then ts.tail else ts
theorem hasT_le (k : Int) (ts : List Tok) : (hasT k ts).length ≤ ts.length := by unfold hasT; split <;> simp
theorem has_any (w : World) (d g : Nat) (e0 : Int) (o : Nat) (k : Int) (hk : k ≠ 0) (ts : List Tok) (D : De w d g e0 ts o) : Calls Tryd.prog 51 #[.pointer (some ⟨d, 0, none⟩), .int .i64 k] w fun e w' => e = .returned (.bool (kd ts == k)) ∧ De w' d g e0 (hasT k ts) o ∧ Kd d w.heap.size w w' := by
  by_cases h : kd ts = k
  · obtain ⟨t, tl, rfl, ht⟩ := kd_cons hk h
    refine (has_yes w d g e0 o k t tl ht D).mono ?_
    rintro e u ⟨rfl, D2, K2⟩
    refine ⟨by simp [h], ?_, K2⟩
    unfold hasT
    rw [if_pos h]
    exact D2
  · refine (has_no w d g e0 o k ts h D).mono ?_
    rintro e u ⟨rfl, rfl⟩
    refine ⟨by simp [h], ?_, Kd.refl _ _ _⟩
    unfold hasT
    rw [if_neg h]
    exact D
theorem modeP_le {ts : List Tok} {m : Int} {tl : List Tok} (h : modeP ts = .ok (m, tl)) : tl.length ≤ ts.length := by
  unfold modeP at h
  repeat' split at h
  all_goals first | (simp only [Except.ok.injEq, Prod.mk.injEq] at h; obtain ⟨_, rfl⟩ := h; rw [List.length_tail]; omega) | cases h
theorem afterP_le {ts : List Tok} {m : Int} {tl : List Tok} (h : afterP ts = .ok (m, tl)) : tl.length ≤ ts.length := by
  unfold afterP at h
  repeat' split at h
  all_goals first | (simp only [Except.ok.injEq, Prod.mk.injEq] at h; obtain ⟨_, rfl⟩ := h; rw [List.length_tail]; omega) | cases h
theorem itL_le (e : Int) : ∀ (n : Nat) (ts : List Tok) (is : List It) (sp : List Int) (is' : List It) (sp' : List Int) (tl : List Tok), itL e n ts is sp = .ok (is', sp', tl) → tl.length ≤ ts.length := by
  intro n
  induction n with
  | zero => intro ts is sp is' sp' tl h; simp only [itL, Except.ok.injEq, Prod.mk.injEq] at h; obtain ⟨_, _, rfl⟩ := h; exact Nat.le_refl _
  | succ n ih =>
    intro ts is sp is' sp' tl h
    simp only [itL] at h
    split at h
    · cases h1 : itemP ts.tail with
      | error e => rw [h1] at h; cases h
      | ok r =>
        obtain ⟨i, t2⟩ := r
        rw [h1] at h
        have := itemP_le h1
        have := ih _ _ _ _ _ _ h
        simp only [List.length_tail] at *; omega
    · simp only [Except.ok.injEq, Prod.mk.injEq] at h; obtain ⟨_, _, rfl⟩ := h; exact Nat.le_refl _
theorem itemsP_le {e : Int} {ts : List Tok} {is : List It} {sp : List Int} {tl : List Tok} (h : itemsP e ts = .ok (is, sp, tl)) : tl.length ≤ ts.length := by
  unfold itemsP at h
  rcases wantEC 3 (by decide) ts with ⟨h1, _⟩ | ⟨v1, r1, rfl, _, h1⟩
  · simp only [h1] at h; cases h
  simp only [h1] at h
  cases h2 : itemP r1 with
  | error e => simp only [h2] at h; cases h
  | ok r =>
    obtain ⟨i, t2⟩ := r
    simp only [h2] at h
    have := itemP_le h2
    cases h3 : itL e t2.length t2 [i] [plc e r1] with
    | error e => simp only [h3] at h; cases h
    | ok r =>
      obtain ⟨a, b, t3⟩ := r
      simp only [h3] at h
      have := itL_le _ _ _ _ _ _ _ _ h3
      rcases wantEC 4 (by decide) t3 with ⟨h4, _⟩ | ⟨v4, r4, rfl, _, h4⟩
      · simp only [h4] at h; cases h
      · simp only [h4, Except.ok.injEq, Prod.mk.injEq] at h
        obtain ⟨_, _, rfl⟩ := h
        simp only [List.length_cons] at *; omega

end Go.Proofs.YtmoimmghmmomlaaDoor
