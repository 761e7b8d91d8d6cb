/- apart of the gate's statements: what its loops keep. -/
import Derived.Test.YthjnkcapjhelgaaGse
namespace Go.Proofs.Ythjnkcapjhelgaa
open Go.RowKit Go.BigFrame Go.Maps
set_option linter.unusedVariables false
set_option linter.unusedSimpArgs false

theorem cell_blk {w u : World} {g o : Nat} (h : u.heap[g]? = w.heap[g]?) : u.cell? ⟨g, o, none⟩ = w.cell? ⟨g, o, none⟩ := by simp [World.cell?, h]
theorem add_run (k : Int) (i : Nat) (h : -1000000 ≤ k ∧ k ≤ 1000000) (hi : i ≤ 9000000000000000000) (w : World) : (binOp .add 3 (.int .i64 k) (.int .i64 (i : Int))).run Try.prog w = .ok (.int .i64 (k + (i : Int))) w := by
  have hw : IntKind.i64.wrap (k + (i : Int)) = k + (i : Int) := by rw [IntKind.wrap_i64]; omega
  have hu := Try.underlying3
  go_simp
/-- At the round i of what is written over. -/
structure ApI (w : World) (b : Nat) (H : List Hd) (C : Nat → List Ev) (vi : Value) (wr : World) : Prop where
  ex : ∃ i : Nat, i ≤ H.length ∧ vi = .int .i64 (i : Int) ∧ Rws wr b H (apC C i) ∧ Frm (rBlk H) w wr
/-- At the round k of one row. -/
structure ApK (w : World) (b : Nat) (H : List Hd) (C : Nat → List Ev) (i n : Nat) (vk : Value) (wr : World) : Prop where
  ex : ∃ k : Nat, k ≤ n ∧ vk = .int .i64 (k : Int) ∧ Rws wr b H (fun j => if j = i then ovy (mkE (1000 + (i : Int)) 0) (C i) k else apC C i j) ∧ Frm (rBlk H) w wr

/-- A row of events that nobody owns any more: its cells stand in a block of events. -/
def RE (w : World) (a : Option Addr) (xs : List Value) : Prop := xs = [] ∨ ∃ g cs, a = some ⟨g, 0, none⟩ ∧ w.heap[g]? = some (.cells cs 47 (0, 0)) ∧ cs.toList.take xs.length = xs
theorem RE.of_own {w : World} {b : Nat} {a : Option Addr} {n c : Nat} {xs : List Value} (O : w.ownsRow b 47 11 (.slice a n c) n xs) : RE w a xs := by
  have h1 := O.1
  rcases O.2 with ⟨h, h0⟩ | ⟨g, c', cur, h, _, hh, _, _, _, ht⟩
  · left
    refine List.length_eq_zero_iff.1 ?_
    rw [h1, h0, Nat.zero_mul]
  · cases h
    right
    exact ⟨g, cur, rfl, hh, by rw [h1]; exact ht⟩
theorem RE.pre {w : World} {a : Option Addr} {xs ys : List Value} (h : RE w a (xs ++ ys)) : RE w a xs := by
  rcases h with h | ⟨g, cs, e, hh, ht⟩
  · exact .inl (List.append_eq_nil_iff.1 h).1
  · refine .inr ⟨g, cs, e, hh, ?_⟩
    have := congrArg (List.take xs.length) ht
    rw [List.take_take, List.length_append, Nat.min_eq_left (by omega), List.take_left'  rfl] at this
    exact this
theorem RE.keep {w u : World} {a : Option Addr} {xs : List Value} (h : RE w a xs) (k : ∀ g cs, a = some ⟨g, 0, none⟩ → w.heap[g]? = some (.cells cs 47 (0, 0)) → u.heap[g]? = w.heap[g]?) : RE u a xs := by
  rcases h with h | ⟨g, cs, e, hh, ht⟩
  · exact .inl h
  · exact .inr ⟨g, cs, e, (k g cs e hh).trans hh, ht⟩
theorem RE.flat {w : World} {a : Option Addr} {xs : List Value} (h : RE w a xs) : Flat w a xs := by
  rcases h with h | ⟨g, cs, e, hh, ht⟩
  · rw [h]; exact Flat.nil _ _
  · intro j u hu
    refine ⟨g, 0, e, ?_⟩
    have hj := (List.getElem?_eq_some_iff.1 hu).1
    rw [← ht, List.getElem?_take_of_lt hj] at hu
    rw [Nat.zero_add, cell_of_row w g j _ _ _ hh]
    simpa using hu
/-- Blocks of events stay. -/
def EvK (w u : World) : Prop := ∀ (g : Nat) (cs : Array Value) (fr : Nat × Nat), w.heap[g]? = some (Obj.cells cs 47 fr) → u.heap[g]? = w.heap[g]?
theorem EvK.below {w u : World} (B : Below w.heap.size w u) : EvK w u := fun g cs fr h => B.block g (lt_of_block h)
theorem EvK.trans {w u x : World} (h : EvK w u) (k : EvK u x) : EvK w x := fun g cs fr e => (k g cs fr ((h g cs fr e).trans e)).trans (h g cs fr e)
theorem EvK.own {w u : World} (h : EvK w u) {b : Nat} {v : Value} {n : Nat} {xs : List Value} (O : w.ownsRow b 47 11 v n xs) : u.ownsRow b 47 11 v n xs := own_of_block O fun g cur _ hh => h g cur _ hh
theorem EvK.re {w u : World} (h : EvK w u) {a : Option Addr} {xs : List Value} (O : RE w a xs) : RE u a xs := O.keep fun g cs _ hh => h g cs _ hh
theorem own_blkT {w : World} {base : Nat} {e : TypeId} {size : Nat} {v : Value} {n : Nat} {xs : List Value} (O : w.ownsRow base e size v n xs) {q : Nat} (hq : v.ownBlock = some q) : ∃ cs, w.heap[q]? = some (.cells cs e (0, 0)) := by
  rcases O.2 with ⟨h, _⟩ | ⟨g1, c1, cur1, h, _, hh1, _⟩
  · rw [h] at hq; cases hq
  · rw [h] at hq
    have : g1 = q := by simpa [Value.ownBlock] using hq
    subst this
    exact ⟨_, hh1⟩
theorem EvK.grown {w u : World} {base : Nat} {e : TypeId} {size : Nat} {v : Value} {n : Nat} {xs : List Value} (O : w.ownsRow base e size v n xs) (he : e ≠ 47) (G : w.grownBy u v.ownBlock) : EvK w u := fun g cs fr h => G.block g (lt_of_block h) fun e1 => by
  obtain ⟨c2, h2⟩ := own_blkT O e1.symm
  rw [h] at h2
  simp only [Option.some.injEq, Obj.cells.injEq] at h2
  exact he h2.2.1.symm
theorem Frm.grown {w u : World} {v : Value} (G : w.grownBy u v.ownBlock) : Frm (fun q => v.ownBlock = some q) w u := ⟨G.os, G.tape, G.output, G.size, fun k h1 h2 => G.block k h1 fun e => h2 e.symm⟩
/-- Rows of another type stay where only a row of events has turned. -/
theorem Frm.owns {w u : World} {b : Nat} {v : Value} {n : Nat} {xs : List Value} (O : w.ownsRow b 47 11 v n xs) (F : Frm (fun q => v.ownBlock = some q) w u) {b1 : Nat} {e1 : TypeId} {s1 : Nat} {v1 : Value} {n1 : Nat} {x1 : List Value} (h1 : e1 ≠ 47) (O1 : w.ownsRow b1 e1 s1 v1 n1 x1) : u.ownsRow b1 e1 s1 v1 n1 x1 := own_of_block O1 fun g cur _ hh => F.blk g (lt_of_block hh) fun e => by
  obtain ⟨c2, h2⟩ := own_blkT O e
  rw [hh] at h2
  simp only [Option.some.injEq, Obj.cells.injEq] at h2
  exact h1 h2.2.1
theorem nfHd : (Try.prog.info? 39).map (fun i => (i.zero, i.size, i.bytes)) = some (some (.slice none 0 0), 1, 24) := by kernel_rfl
theorem bldH (h : Hd) (w : World) : (Instr.buildSlice 53 1 #[(0, hdV h)]).run Try.prog w = .ok (.slice (some ⟨w.heap.size, 0, none⟩) 1 1) (w.alloc (.cells (hdC h) 39)) := by kernel_rfl
theorem hd_ones (h : Hd) : ∀ u ∈ (hdC h).toList, u.oneCell' = true := fun u hu => by
  simp [hdC, hdV] at hu
  subst hu
  rfl
theorem roomK2 {n : Nat} (h : n ≤ 5000) : ((n + 1) + (n + 1) / 4 + 192) * 88 ≤ 281474976710656 := by
  have h1 : (n + 1) / 4 ≤ 5000 := Nat.div_le_of_le_mul (by omega)
  have h2 : ((n + 1) + (n + 1) / 4 + 192) ≤ 20000 := by omega
  exact Nat.le_trans (Nat.mul_le_mul_right 88 h2) (by decide)
theorem roomH {n : Nat} (h : n * 24 ≤ 140737488351232) : ((n + 1) + (n + 1) / 4 + 192) * 24 ≤ 281474976710656 := by omega
def eM (j : Nat) : Ev := mkE (1000 + (j : Int)) 0
def fM (j : Nat) : Ev := mkE (500000 + (j : Int)) 1
/-- What the row of the number j holds behind the first two loops, and the longer one. -/
def dM (H : List Hd) (j : Nat) : List Ev := List.replicate (H.getD j zeroHd).n (eM j)
def dL (H : List Hd) (j : Nat) : List Ev := dM H j ++ List.replicate 70 (fM j)
theorem dM_len (H : List Hd) (j : Nat) : (dM H j).length = (H.getD j zeroHd).n := List.length_replicate
theorem dL_len (H : List Hd) (j : Nat) : (dL H j).length = (H.getD j zeroHd).n + 70 := by unfold dL; rw [List.length_append, dM_len, List.length_replicate]
theorem dM_at (H : List Hd) {j k : Nat} (hk : k < (H.getD j zeroHd).n) : (dM H j).getD k zeroE = eM j := by
  rw [getD_of_lt _ k (by rw [dM_len]; exact hk)]
  unfold dM
  rw [List.getElem_replicate]
theorem dL_lo (H : List Hd) {j k : Nat} (hk : k < (H.getD j zeroHd).n) : (dL H j).getD k zeroE = eM j := by
  rw [List.getD_eq_getElem?_getD, dL, List.getElem?_append_left (by rw [dM_len]; exact hk), ← List.getD_eq_getElem?_getD, dM_at H hk]
theorem dL_hi (H : List Hd) {j k : Nat} (h1 : (H.getD j zeroHd).n ≤ k) (h2 : k < (H.getD j zeroHd).n + 70) : (dL H j).getD k zeroE = fM j := by
  rw [List.getD_eq_getElem?_getD, dL, List.getElem?_append_right (by rw [dM_len]; exact h1), List.getElem?_replicate, if_pos (by rw [dM_len]; omega)]
  rfl
/-- One row and its longer one. -/
structure Pl (w : World) (H X : List Hd) (j : Nat) : Prop where
  r : RE w (H.getD j zeroHd).a (fl evC (dM H j))
  n : (X.getD j zeroHd).n = (H.getD j zeroHd).n + 70
  l : RE w (X.getD j zeroHd).a (fl evC (dL H j))
/-- Neither of them lies in the block g. -/
def Pf (H X : List Hd) (j g : Nat) : Prop := (H.getD j zeroHd).a ≠ some ⟨g, 0, none⟩ ∧ (X.getD j zeroHd).a ≠ some ⟨g, 0, none⟩
theorem Pl.keep {w u : World} {H X : List Hd} {j : Nat} (P : Pl w H X j) (k : ∀ g cs, ¬ Pf H X j g → w.heap[g]? = some (.cells cs 47 (0, 0)) → u.heap[g]? = w.heap[g]?) : Pl u H X j :=
  ⟨P.r.keep fun g cs e hh => k g cs (fun h => h.1 e) hh, P.n, P.l.keep fun g cs e hh => k g cs (fun h => h.2 e) hh⟩
/-- At the round i of the third loop. -/
structure LgI (w : World) (b : Nat) (H : List Hd) (vl vi : Value) (wr : World) : Prop where
  ex : ∃ (i : Nat) (X : List Hd), i ≤ H.length ∧ vi = .int .i64 (i : Int) ∧ X.length = i ∧ wr.ownsRow w.heap.size 39 1 vl i (fl hdC X) ∧
    (∀ j, i ≤ j → j < H.length → wr.ownsRow b 47 11 (hdV (H.getD j zeroHd)) (H.getD j zeroHd).n (fl evC (dM H j))) ∧
    (∀ j, j < i → Pl wr H X j) ∧ (∀ j j' g, j < i → i ≤ j' → j' < H.length → (hdV (H.getD j' zeroHd)).ownBlock = some g → Pf H X j g) ∧ Frm (rBlk H) w wr
/-- At the round k of the fourth loop. -/
structure XI (W : World) (b : Nat) (h : Hd) (e f : Ev) (vx vk : Value) (wr : World) : Prop where
  ex : ∃ (k : Nat) (x : Hd), k ≤ 70 ∧ vk = .int .i64 (k : Int) ∧ vx = hdV x ∧ x.n = h.n + k ∧ wr.ownsRow b 47 11 (hdV x) x.n (fl evC (List.replicate h.n e ++ List.replicate k f)) ∧
    RE wr h.a (fl evC (List.replicate h.n e)) ∧ ((hdV x).ownBlock = (hdV h).ownBlock ∨ ∀ q, (hdV x).ownBlock = some q → W.heap.size ≤ q) ∧ Frm (fun q => (hdV h).ownBlock = some q) W wr
theorem hd_blk {h : Hd} {g : Nat} (e : h.a = some ⟨g, 0, none⟩) : (hdV h).ownBlock = some g := by unfold hdV; rw [e]; rfl
theorem hd_a {w : World} {b : Nat} {h : Hd} {n : Nat} {xs : List Value} (O : w.ownsRow b 47 11 (hdV h) n xs) {g : Nat} (e : (hdV h).ownBlock = some g) : h.a = some ⟨g, 0, none⟩ := by
  obtain ⟨a, m, c⟩ := h
  rcases O.2 with ⟨h1, _⟩ | ⟨g1, c1, cur1, h1, _⟩
  · unfold hdV at h1 e; rw [h1] at e; cases e
  · unfold hdV at h1 e
    cases h1
    have : g1 = g := by simpa [Value.ownBlock] using e
    rw [this]
/-- One more at the end of the longer row. -/
theorem XI.more {W : World} {b : Nat} {h : Hd} {e f : Ev} {k : Nat} {x : Hd} {wr W6 w8 : World} {g8 c8 : Nat} (hb : b ≤ W.heap.size) (hn : x.n = h.n + k) (hk : k < 70)
    (O : wr.ownsRow b 47 11 (hdV x) x.n (fl evC (List.replicate h.n e ++ List.replicate k f))) (R : RE wr h.a (fl evC (List.replicate h.n e)))
    (al : (hdV x).ownBlock = (hdV h).ownBlock ∨ ∀ q, (hdV x).ownBlock = some q → W.heap.size ≤ q) (F : Frm (fun q => (hdV h).ownBlock = some q) W wr)
    (B6 : Below wr.heap.size wr W6) (O8 : w8.ownsRow b 47 11 (.slice (some ⟨g8, 0, none⟩) (x.n + 1) c8) (x.n + 1) (fl evC (List.replicate h.n e ++ List.replicate k f) ++ (evC f).toList)) (Q8 : W6.grownBy w8 (hdV x).ownBlock)
    (L8 : (hdV x).ownBlock = some g8 ∨ (g8 = W6.heap.size ∧ Below W6.heap.size W6 w8)) : XI W b h e f (.slice (some ⟨g8, 0, none⟩) (x.n + 1) c8) (.int .i64 ((k : Int) + 1)) w8 := by
  have ef : fl evC (List.replicate h.n e ++ List.replicate k f) ++ (evC f).toList = fl evC (List.replicate h.n e ++ List.replicate (k + 1) f) := by
    rw [List.replicate_succ', ← List.append_assoc, fl_app _ _ [f]]
    simp [fl]
  rw [ef] at O8
  have s1 := F.size
  have s2 := B6.size
  refine ⟨k + 1, ⟨some ⟨g8, 0, none⟩, x.n + 1, c8⟩, hk, rfl, rfl, by show x.n + 1 = _; omega, O8, ?_, ?_, ?_⟩
  · have R6 := R.keep (u := W6) fun g cs _ hh => B6.block g (lt_of_block hh)
    by_cases e8 : h.a = some ⟨g8, 0, none⟩
    · have := RE.of_own O8
      rw [fl_app] at this
      rw [e8]
      exact this.pre
    · rcases L8 with l8 | ⟨l8, B8⟩
      · refine R6.keep fun g cs e1 hh => Q8.block g (lt_of_block hh) fun e2 => e8 ?_
        rw [l8] at e2
        cases e2
        exact e1
      · exact R6.keep fun g cs _ hh => B8.block g (lt_of_block hh)
  · rcases L8 with l8 | ⟨l8, _⟩
    · rcases al with al | al
      · left; rw [← al, l8]; rfl
      · right
        intro q e1
        have : g8 = q := by simpa [hdV, Value.ownBlock] using e1
        exact al q (by rw [l8, this])
    · right
      intro q e1
      have : g8 = q := by simpa [hdV, Value.ownBlock] using e1
      omega
  · refine (F.below B6).trans (Frm.grown Q8) fun j e1 => ?_
    rcases al with al | al
    · left; rw [← al]; exact e1
    · right; exact al j e1

end Go.Proofs.Ythjnkcapjhelgaa
