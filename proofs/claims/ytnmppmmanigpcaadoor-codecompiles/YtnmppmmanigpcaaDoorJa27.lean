/- The document's code: the instructions from the root down. And what goes with it: 2 texts in one. -/
import Derived.Test.YtnmppmmanigpcaaDoorJa26
import Derived.Deep.CutRange
namespace Go.Proofs.YtnmppmmanigpcaaDoor
open Go.RowKit Go.BigFrame Go.Proofs.YtnmppmmanigpcaaDoor.Ev
set_option linter.unusedVariables false
set_option linter.unusedSimpArgs false

/-- The loop's memory: what is written of the code and of the bases is right. -/
structure CdW (w : World) (gs cs go gb N n : Nat) (C : List Ins) (bv : Nat → Int) (sz : List Int) (qc : Array Value) (Wo Wb : Nat → Prop) (wr : World) : Prop where
  out : ∃ D : List Ins, D.length = N ∧ wr.ownsRow (w.heap.size + 1) 74 5 (.slice (some ⟨go, 0, none⟩) N N) N (fl insC D) ∧ ∀ x, Wo x → D.getD x noIn = C.getD x noIn
  bas : ∃ bl : List Int, bl.length = n ∧ wr.ownsRow (w.heap.size + 1) 3 1 (.slice (some ⟨gb, 0, none⟩) n n) n (intsV bl) ∧ ∀ i, Wb i → bl.getD i 0 = bv i
  siz : wr.ownsRow (w.heap.size + 1) 3 1 (.slice (some ⟨gs, 0, none⟩) n cs) n (intsV sz)
  qry : Bk wr w.heap.size qc 31
  low : Below w.heap.size w wr
section
variable {w wr : World} {gs cs go gb N n : Nat} {C : List Ins} {bv : Nat → Int} {sz : List Int} {qc : Array Value} {Wo Wb : Nat → Prop}
theorem CdW.keep (h : CdW w gs cs go gb N n C bv sz qc Wo Wb wr) {X : World} (G : Below wr.heap.size wr X) : CdW w gs cs go gb N n C bv sz qc Wo Wb X := by
  obtain ⟨⟨D, d1, d2, d3⟩, ⟨bl, b1, b2, b3⟩, s, q, l⟩ := h
  exact ⟨⟨D, d1, own_keep d2 G, d3⟩, ⟨bl, b1, own_keep b2 G, b3⟩, own_keep s G, q.keep G, gtrans l G⟩
theorem own_at {e : TypeId} {s b g m c : Nat} {xs : List Value} (h : wr.ownsRow b e s (.slice (some ⟨g, 0, none⟩) m c) m xs) : b ≤ g ∧ ∃ cur, Bk wr g cur e := by
  rcases h.2 with ⟨h', _⟩ | ⟨g', cap', cur, h', hb, hg, _⟩
  · simp at h'
  · simp only [Value.slice.injEq, Option.some.injEq, Addr.mk.injEq, and_true, true_and] at h'
    obtain ⟨rfl, rfl⟩ := h'
    exact ⟨hb, cur, hg⟩
theorem CdW.putO (h : CdW w gs cs go gb N n C bv sz qc Wo Wb wr) {x : Nat} (hx : x < N) (y : Ins) (hy : C.getD x noIn = y) : CdW w gs cs go gb N n C bv sz qc (fun z => Wo z ∨ z = x) Wb (wr.setCells go (x * 5) (insC y).toList) := by
  obtain ⟨⟨D, d1, d2, d3⟩, ⟨bl, b1, b2, b3⟩, s, q, l⟩ := h
  obtain ⟨hg, cur, hb⟩ := own_at d2
  have hblk : ∀ j, j ≠ go → (wr.setCells go (x * 5) (insC y).toList).heap[j]? = wr.heap[j]? := fun j hj => setCells_blk go _ _ _ j hj
  have far : ∀ {e : TypeId} {s' : Nat} {v : Value} {m : Nat} {xs : List Value}, e ≠ 74 → wr.ownsRow (w.heap.size + 1) e s' v m xs → (wr.setCells go (x * 5) (insC y).toList).ownsRow (w.heap.size + 1) e s' v m xs := fun {e s' v m xs} he o => own_of_block o fun j c9 _ hh => hblk j (fun h => by
    subst h
    unfold Bk at hb
    rw [hb] at hh
    simp at hh
    exact he hh.2.symm)
  have d4 := own_put insC_sz (cap := N) (by rw [d1]; exact d2) x (by omega) y
  refine ⟨⟨D.set x y, by rw [List.length_set]; exact d1, by rw [List.length_set, d1] at d4; exact d4, fun z hz => ?_⟩, ⟨bl, b1, far (by decide) b2, b3⟩, far (by decide) s, (hblk _ (by omega)).trans q, gsetCells l (by omega) _ _⟩
  rw [List.getD_eq_getElem?_getD, List.getElem?_set]
  by_cases e : x = z
  · subst e
    rw [if_pos rfl, if_pos (by omega)]
    exact hy.symm
  · rw [if_neg e, ← List.getD_eq_getElem?_getD]
    rcases hz with hz | hz
    · exact d3 z hz
    · exact absurd hz.symm e
theorem CdW.putB (h : CdW w gs cs go gb N n C bv sz qc Wo Wb wr) (hne : gs ≠ gb) {i : Nat} (hi : i < n) (v : Int) (hv : v = bv i) : CdW w gs cs go gb N n C bv sz qc Wo (fun z => Wb z ∨ z = i) (wr.setCell ⟨gb, i, none⟩ (.int .i64 v)) := by
  obtain ⟨⟨D, d1, d2, d3⟩, ⟨bl, b1, b2, b3⟩, s, q, l⟩ := h
  obtain ⟨hg, cur, hb⟩ := own_at b2
  have hblk : ∀ j, j ≠ gb → (wr.setCell ⟨gb, i, none⟩ (.int .i64 v)).heap[j]? = wr.heap[j]? := fun j hj => Below.heap_setCell wr _ _ j hj
  have d4 := own_of_block (u := wr.setCell ⟨gb, i, none⟩ (.int .i64 v)) d2 fun j c9 _ hh => hblk j (fun h => by
    subst h
    unfold Bk at hb
    rw [hb] at hh
    simp at hh)
  have s4 : (wr.setCell ⟨gb, i, none⟩ (.int .i64 v)).ownsRow (w.heap.size + 1) 3 1 (.slice (some ⟨gs, 0, none⟩) n cs) n (intsV sz) := own_of_block2 s fun g h => by
    simp only [Value.ownBlock, Option.some.injEq] at h
    exact hblk g (by omega)
  have b4 := (b2.stored i (.int .i64 v)).1
  have hset : (intsV bl).set i (.int .i64 v) = intsV (bl.set i v) := by unfold intsV; rw [List.map_set]
  rw [hset] at b4
  refine ⟨⟨D, d1, d4, d3⟩, ⟨bl.set i v, by rw [List.length_set]; exact b1, b4, fun z hz => ?_⟩, s4, (hblk _ (by omega)).trans q, gset l (p := ⟨gb, i, none⟩) (by dsimp only; omega) _⟩
  rw [List.getD_eq_getElem?_getD, List.getElem?_set]
  by_cases e : i = z
  · subst e
    rw [if_pos rfl, if_pos (by omega)]
    exact hv
  · rw [if_neg e, ← List.getD_eq_getElem?_getD]
    rcases hz with hz | hz
    · exact b3 z hz
    · exact absurd hz.symm e
theorem CdW.weak (h : CdW w gs cs go gb N n C bv sz qc Wo Wb wr) {Wo' Wb' : Nat → Prop} (h1 : ∀ x, Wo' x → Wo x) (h2 : ∀ x, Wb' x → Wb x) : CdW w gs cs go gb N n C bv sz qc Wo' Wb' wr := by
  obtain ⟨⟨D, d1, d2, d3⟩, ⟨bl, b1, b2, b3⟩, s, q, l⟩ := h
  exact ⟨⟨D, d1, d2, fun x hx => d3 x (h1 x hx)⟩, ⟨bl, b1, b2, fun i hi => b3 i (h2 i hi)⟩, s, q, l⟩
end
theorem made_ins (n : Nat) : (madeCells (insC noIn) (n * 5)).toList = fl insC (List.replicate n noIn) := by
  apply List.ext_getElem?
  intro j
  by_cases hj : j < n * 5
  · have h2 : j / 5 < (List.replicate n noIn).length := by rw [List.length_replicate]; omega
    have e := fl_at insC_sz noIn (List.replicate n noIn) (j / 5) (j % 5) h2 (by omega)
    rw [show j / 5 * 5 + j % 5 = j by omega] at e
    rw [e]
    have e2 : (List.replicate n noIn).getD (j / 5) noIn = noIn := by
      rw [List.getD_eq_getElem?_getD, List.getElem?_replicate]
      split <;> rfl
    rw [e2]
    rcases (show j % 5 = 0 ∨ j % 5 = 1 ∨ j % 5 = 2 ∨ j % 5 = 3 ∨ j % 5 = 4 by omega) with h | h | h | h | h
    all_goals simp [madeCells, hj, h, insC, noIn]
  · rw [List.getElem?_eq_none (by rw [Array.length_toList, size_madeCells]; omega), List.getElem?_eq_none (by rw [fl_len insC_sz, List.length_replicate]; omega)]
theorem mkInsR (w : World) (n : Nat) (hn : n * 40 ≤ 281474976710656) : (Instr.makeSlice 37 (.int .i64 (n : Int)) (.int .i64 (n : Int))).run Tryd.prog w = .ok (.slice (some ⟨w.heap.size, 0, none⟩) n n) (w.alloc (.cells (madeCells (insC noIn) (n * 5)) 74)) := by
  obtain ⟨i, hi, hz, hs, hb⟩ := nf_info nfIn
  have := run_make (P := Tryd.prog) w 37 74 i _ Tryd.underlying37 hi hz .i64 .i64 (n : Int) (n : Int) (by omega) (Int.le_refl _) (by rw [hb]; omega) (by omega)
  rw [hs, show (Value.agg (insC noIn)).cells = insC noIn from rfl] at this
  simpa using this
theorem made_ints (n : Nat) : (madeCells #[.int .i64 0] n).toList = intsV (List.replicate n 0) := by
  apply List.ext_getElem?
  intro j
  unfold intsV
  rw [List.map_replicate]
  by_cases hj : j < n
  · simp [madeCells, hj, Nat.mod_one]
  · rw [List.getElem?_eq_none (by rw [Array.length_toList, size_madeCells]; omega), List.getElem?_eq_none (by simp; omega)]

end Go.Proofs.YtnmppmmanigpcaaDoor
namespace Go.Proofs.YtnmppmmanigpcaaDoor
open Go.RowKit Go.BigFrame Go.Proofs.YtnmppmmanigpcaaDoor.Ev
set_option linter.unusedVariables false
set_option linter.unusedSimpArgs false

theorem own_made {w : World} {base : Nat} {e : TypeId} {size : Nat} (cur : Array Value) (n : Nat) (hb : base ≤ w.heap.size) (hm : n ≤ 9223372036854775807) (hs : cur.size = n * size) : (w.alloc (.cells cur e)).ownsRow base e size (.slice (some ⟨w.heap.size, 0, none⟩) n n) n cur.toList :=
  ⟨by rw [Array.length_toList, hs], .inr ⟨w.heap.size, n, cur, rfl, hb, heap_alloc_new w _, Nat.le_refl _, by unfold maxLen; omega, hs, by rw [List.take_of_length_le (by rw [Array.length_toList, hs]; exact Nat.le_refl _)]⟩⟩
section
variable {L : List Ty} {M : ByteArray → Option Int} {ns : List Nd}
/-- The places of the code that are written when the nodes from k on are done. -/
def WoK (L : List Ty) (M : ByteArray → Option Int) (ns : List Nd) (k x : Nat) : Prop := ∃ i, k ≤ i ∧ i < ns.length ∧ (x = posN L M ns i ∨ (aoB (ns.getD i noNd) = true ∧ x = posN L M ns (ns.getD i noNd).l.toNat + 1))
/-- The nodes whose places are known then. -/
def WbK (ns : List Nd) (k x : Nat) : Prop := x + 1 = ns.length ∨ ∃ p, k ≤ p ∧ p < ns.length ∧ Kid ns p x
theorem wo_step {j x : Nat} (h : WoK L M ns j x) : (WoK L M ns (j + 1) x ∨ (aoB (ns.getD j noNd) = true ∧ x = posN L M ns (ns.getD j noNd).l.toNat + 1)) ∨ x = posN L M ns j := by
  obtain ⟨i, h1, h2, h3⟩ := h
  by_cases e : i = j
  · subst e
    rcases h3 with h3 | h3
    · exact .inr h3
    · exact .inl (.inr h3)
  · exact .inl (.inl ⟨i, by omega, h2, h3⟩)
theorem wb_step {j x : Nat} (h : WbK ns j x) : WbK ns (j + 1) x ∨ Kid ns j x := by
  rcases h with h | ⟨p, h1, h2, h3⟩
  · exact .inl (.inl h)
  · by_cases e : p = j
    · subst e; exact .inr h3
    · exact .inl (.inr ⟨p, by omega, h2, h3⟩)
theorem wb_has (K : ∀ i, i < ns.length → Kin ns (bsOf ns) i) (h0 : bg (bsOf ns) (ns.length - 1) = 0) {j : Nat} (hj : j < ns.length) : WbK ns (j + 1) j := by
  by_cases e : j + 1 = ns.length
  · exact .inl e
  · obtain ⟨p, h1, h2, _⟩ := kin_up K (ns.length - 1) (by omega) j (by omega) (by omega)
    exact .inr ⟨p, (kin_kid K h1 h2).1, h1, h2⟩
theorem wo_all (hpos : 0 < ns.length) (x : Nat) (hx : x < posN L M ns (ns.length - 1) + 1) : WoK L M ns 0 x := by
  by_cases e : x = posN L M ns (ns.length - 1)
  · exact ⟨ns.length - 1, Nat.zero_le _, by omega, .inl e⟩
  · obtain ⟨i, h1, h2⟩ := pos_cover (L := L) (M := M) (ns := ns) (ns.length - 1) x (by omega)
    rcases h2 with h2 | ⟨h2, h3⟩
    · exact ⟨i, Nat.zero_le _, by omega, .inl h2⟩
    · rcases Classical.em (∃ p, p < ns.length ∧ aoB (ns.getD p noNd) = true ∧ (ns.getD p noNd).l = (i : Int)) with ⟨p, q1, q2, q3⟩ | hn
      · exact ⟨p, Nat.zero_le _, q1, .inr ⟨q2, by rw [q3, Int.toNat_natCast]; exact h2⟩⟩
      · exact absurd (jmpF_no fun p q1 q2 q3 => hn ⟨p, q1, q2, q3⟩) h3
theorem node_n {n : Nd} {bs : List Int} {b : Int} (h : nodeO n bs = some b) (h1 : n.op ≠ 1) : n.n = 0 := by
  unfold nodeO at h
  split at h
  · rename_i hl
    obtain ⟨_, _, h2⟩ := of_decide_eq_true hl
    rcases h2 with h2 | h2 | h2 | h2
    · exact absurd h2.1 h1
    · exact h2.2.1
    · exact h2.2.1
    · exact h2.2.1
  · split at h
    · split at h
      · rename_i h2
        exact (of_decide_eq_true h2.1).1
      · cases h
    · split at h
      · split at h
        · rename_i h2
          exact (of_decide_eq_true h2.1).1
        · cases h
      · cases h
theorem tree_n (ht : treeB ns = true) {i : Nat} (hi : i < ns.length) (h1 : (ns.getD i noNd).op ≠ 1) : (ns.getD i noNd).n = 0 := by
  obtain ⟨hb, _⟩ := tree_bs ht
  exact node_n ((begs_at ns [] _ hb).2 i hi) h1
theorem pos_zero : posN L M ns 0 = 0 := rfl
theorem sz_root (h0 : bg (bsOf ns) (ns.length - 1) = 0) : szN L M ns (ns.length - 1) = ((posN L M ns (ns.length - 1) + 1 : Nat) : Int) := by
  unfold szN
  rw [h0, pos_zero]
  omega
theorem nodI_plain (s : Cst) {n : Nd} (h : kMent n.op = false) : nodI M s n = ⟨kCod n.op, 0, 0, kLit n, 0⟩ := by
  unfold nodI hasCol
  rw [h]
  rfl
theorem nodI_ment (q : Qy) (hM : ∀ v i, M v = some i → itmI q.items v = i) {k m : Nat} (hk : k < m) (h : kMent (ns.getD k noNd).op = true) (hs : (M (ns.getD k noNd).v).isSome = true) (hn : (ns.getD k noNd).n = 0) : nodI M (treK L M ns k) (ns.getD k noNd) = menI q (nmK L M ns m) (ns.getD k noNd) := by
  have h2 : hasCol (ns.getD k noNd) = !decide ((ns.getD k noNd).op = 5) := by unfold hasCol; rw [h]; rfl
  have hl : kLit (ns.getD k noNd) = 0 := by
    unfold kLit
    have := of_decide_eq_true h
    rw [if_neg (by omega)]
    exact hn
  have hw := col_whole (L := L) (M := M) (ns := ns) hk
  unfold nodI menI
  rw [h, if_pos rfl, hl]
  cases hv : M (ns.getD k noNd).v with
  | none => rw [hv] at hs; cases hs
  | some i =>
    rw [hM _ _ hv]
    by_cases h5 : (ns.getD k noNd).op = 5
    · rw [if_pos h5, h2, decide_eq_true h5]
      rfl
    · rw [decide_eq_false h5] at h2
      replace h2 : hasCol (ns.getD k noNd) = true := h2
      rw [if_neg h5, if_pos h2, hw h2]
      rfl
end
section
variable {w wr : World} {gs cs go gb N n : Nat} {C : List Ins} {bv : Nat → Int} {sz : List Int} {qc : Array Value} {Wo Wb : Nat → Prop}
theorem CdW.cells (h : CdW w gs cs go gb N n C bv sz qc Wo Wb wr) {x : Nat} (hx : x < N) : (∃ y : Ins, wr.cell? ⟨go, x * 5, none⟩ = some (.int .i64 y.1) ∧ wr.cell? ⟨go, x * 5 + 1, none⟩ = some (.int .i64 y.2) ∧ wr.cell? ⟨go, x * 5 + 2, none⟩ = some (.int .i64 y.3) ∧ wr.cell? ⟨go, x * 5 + 3, none⟩ = some (.int .i64 y.4) ∧ wr.cell? ⟨go, x * 5 + 4, none⟩ = some (.int .i64 y.5)) ∧ ∀ j, wr.frozen? ⟨go, j, none⟩ = false := by
  obtain ⟨⟨D, d1, d2, d3⟩, _, _, _, _⟩ := h
  have hfl := fun i hi => fl_at insC_sz noIn D x i (by omega) hi
  exact ⟨⟨D.getD x noIn, (World.ownsRow.cellAt d2 (x * 5) (by omega)).trans (hfl 0 (by omega)), (World.ownsRow.cellAt d2 (x * 5 + 1) (by omega)).trans (hfl 1 (by omega)), (World.ownsRow.cellAt d2 (x * 5 + 2) (by omega)).trans (hfl 2 (by omega)), (World.ownsRow.cellAt d2 (x * 5 + 3) (by omega)).trans (hfl 3 (by omega)), (World.ownsRow.cellAt d2 (x * 5 + 4) (by omega)).trans (hfl 4 (by omega))⟩, fun j => World.ownsRow.frozenAt d2 j⟩
theorem CdW.bases (h : CdW w gs cs go gb N n C bv sz qc Wo Wb wr) {i : Nat} (hi : i < n) : (∃ v, wr.cell? ⟨gb, i, none⟩ = some (.int .i64 v) ∧ (Wb i → v = bv i)) ∧ wr.frozen? ⟨gb, i, none⟩ = false := by
  obtain ⟨_, ⟨bl, b1, b2, b3⟩, _, _, _⟩ := h
  obtain ⟨g, e, hc⟩ := ints_cell b2 b1 hi
  cases e
  exact ⟨⟨_, hc, b3 i⟩, World.ownsRow.frozenAt b2 i⟩
theorem CdW.sizes (h : CdW w gs cs go gb N n C bv sz qc Wo Wb wr) (hl : sz.length = n) {i : Nat} (hi : i < n) : wr.cell? ⟨gs, i, none⟩ = some (.int .i64 (sz.getD i 0)) := by
  obtain ⟨_, _, s, _, _⟩ := h
  obtain ⟨g, e, hc⟩ := ints_cell s hl hi
  cases e
  exact hc
theorem CdW.whole (h : CdW w gs cs go gb N n C bv sz qc Wo Wb wr) (hC : C.length = N) (hW : ∀ x, x < N → Wo x) : wr.ownsRow (w.heap.size + 1) 74 5 (.slice (some ⟨go, 0, none⟩) N N) N (fl insC C) := by
  obtain ⟨⟨D, d1, d2, d3⟩, _, _, _, _⟩ := h
  have : D = C := by
    refine List.ext_getElem? fun x => ?_
    by_cases hx : x < N
    · have := d3 x (hW x hx)
      rw [List.getD_eq_getElem?_getD, List.getD_eq_getElem?_getD, List.getElem?_eq_getElem (by omega), List.getElem?_eq_getElem (by omega)] at this
      rw [List.getElem?_eq_getElem (by omega), List.getElem?_eq_getElem (by omega)]
      exact congrArg some this
    · rw [List.getElem?_eq_none (by omega), List.getElem?_eq_none (by omega)]
  rw [this] at d2
  exact d2
end
section
variable {L : List Ty} {M : ByteArray → Option Int} {ns : List Nd} {w X : World} {gs cs go gb N n : Nat} {C : List Ins} {bv : Nat → Int} {sz : List Int} {qc : Array Value} {j : Nat}
theorem cd_leaf (I : CdW w gs cs go gb N n C bv sz qc (WoK L M ns (j + 1)) (WbK ns (j + 1)) X) (hx : posN L M ns j < N) (ha : aoB (ns.getD j noNd) = false) (hk : ∀ i, ¬ Kid ns j i) (y : Ins) (hy : C.getD (posN L M ns j) noIn = y) : CdW w gs cs go gb N n C bv sz qc (WoK L M ns j) (WbK ns j) (X.setCells go (posN L M ns j * 5) (insC y).toList) :=
  (I.putO hx y hy).weak (fun x h => by
    rcases wo_step h with (h | h) | h
    · exact .inl h
    · exact absurd h.1 (by rw [ha]; decide)
    · exact .inr h) (fun x h => (wb_step h).resolve_right (hk x))
theorem cd_one (I : CdW w gs cs go gb N n C bv sz qc (WoK L M ns (j + 1)) (WbK ns (j + 1)) X) (hne : gs ≠ gb) (hx : posN L M ns j < N) (ha : aoB (ns.getD j noNd) = false) {a : Nat} (han : a < n) (hk : ∀ i, Kid ns j i → i = a) (v : Int) (hv : v = bv a) (y : Ins) (hy : C.getD (posN L M ns j) noIn = y) : CdW w gs cs go gb N n C bv sz qc (WoK L M ns j) (WbK ns j) ((X.setCell ⟨gb, a, none⟩ (.int .i64 v)).setCells go (posN L M ns j * 5) (insC y).toList) :=
  ((I.putB hne han v hv).putO hx y hy).weak (fun x h => by
    rcases wo_step h with (h | h) | h
    · exact .inl h
    · exact absurd h.1 (by rw [ha]; decide)
    · exact .inr h) (fun x h => (wb_step h).imp_right (hk x))
end
theorem wrap_ok {z : Int} (h : 0 ≤ z) (h2 : z ≤ 8796093022208) : wrap64 (z + 1) = z + 1 := by unfold wrap64; omega
theorem leaf_no {ns : List Nd} {j : Nat} (h : (ns.getD j noNd).l = -1 ∧ (ns.getD j noNd).r = -1) (i : Nat) : ¬ Kid ns j i := fun k => by
  rcases k with k | k
  · omega
  · omega

end Go.Proofs.YtnmppmmanigpcaaDoor
