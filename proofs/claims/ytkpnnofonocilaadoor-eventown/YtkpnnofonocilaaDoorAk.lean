/- append that keeps what it is handed; what is kept while some rows are written. -/
import Derived.Test.YtkpnnofonocilaaDoorShape
import Derived.Test.YtkpnnofonocilaaDoorRd3
import Derived.ArgAppend
import Derived.OwnWalk
namespace Go.Proofs.YtkpnnofonocilaaDoor
open Go.RowKit Go.BigFrame
set_option linter.unusedVariables false
set_option linter.unusedSimpArgs false

theorem own_far {w u : World} {base : Nat} {e : TypeId} {size : Nat} {v : Value} {n : Nat} {xs : List Value} {r : Option Nat} (h : w.ownsRow base e size v n xs) (G : w.grownBy u r) (hr : ∀ k, r = some k → v.ownBlock ≠ some k) : u.ownsRow base e size v n xs := by
  obtain ⟨h1, h2⟩ := h
  refine ⟨h1, ?_⟩
  rcases h2 with h2 | ⟨g, cap, cur, rfl, hb, hh, rest⟩
  · exact .inl h2
  · exact .inr ⟨g, cap, cur, rfl, hb, (G.block g (lt_of_block hh) (fun e' => hr g e'.symm rfl)).trans hh, rest⟩
theorem wpList_append_keep {P : Program} {w : World} {ops : Array Oper} {rest : List Oper} {o : Oper} {a : Act} {Q : Exit → Act → World → Prop} (hgd : o.guard = none) (s x : Operand) (t : TypeId)
    (ho : o.op = .call { callee := .builtin .append, args := #[s, x], argTypes := #[t, t] })
    (base : Nat) (e : TypeId) (i : TypeInfo) (z : Value) (size bytes : Nat) (ht : P.underlying t = some (.slice e)) (hi : P.info? e = some i) (hz : i.zero = some z)
    (hsize : i.size = size) (hby : i.bytes = bytes) (hzs : z.cells.size = size) (hsz : 0 < size)
    (v : Value) (n : Nat) (xs : List Value) (hs : a.eval s = v) (hown : w.ownsRow base e size v n xs)
    (ad : Addr) (m c : Nat) (news : List Value) (hx : a.eval x = .slice (some ad) m c) (hl : news.length = m * size) (hnews : ∀ j u, news[j]? = some u → w.cell? (ad.add j) = some u) (h1 : ∀ u ∈ news, u.oneCell' = true)
    (h63 : n + m ≤ maxLen) (hbytes : (n + m) * bytes ≤ 140737488355328) (hbase : base ≤ w.heap.size)
    (h : ∀ v' w', w'.ownsRow base e size v' (n + m) (xs ++ news) → w'.ownsRow base e size v n xs → w.grownBy w' v.ownBlock → (v'.ownBlock = v.ownBlock ∨ ∀ g, v'.ownBlock = some g → w.heap.size ≤ g) → wpList P ops Q rest (a.put o.dst v') w') : wpList P ops Q (o :: rest) a w := by
  obtain ⟨ao, cap, rfl, _⟩ := own_shape hown
  by_cases hr : n + m ≤ cap
  · rcases id hown.2 with ⟨hv, h0⟩ | ⟨g, cap', cur, hv, hb, hh, hnc, hcm, hcs, ht2⟩
    · simp only [Value.slice.injEq] at hv
      obtain ⟨rfl, _, rfl⟩ := hv
      obtain ⟨rfl, rfl⟩ : n = 0 ∧ m = 0 := by omega
      refine wpList_append_own (w := w) hgd s x t ho base e i z size bytes ht hi hz hsize hby hzs hsz _ _ xs hs hown ad 0 c news hx hl hnews h1 h63 hbytes hbase (fun v' w' h2 h3 h4 => ?_)
      have hv' := h4.2 ⟨rfl, rfl⟩
      exact h v' w' h2 (own_far hown h3 (fun k e => by cases e)) h3 (.inl (by rw [hv']))
    · simp only [Value.slice.injEq] at hv
      obtain ⟨rfl, _, rfl⟩ := hv
      refine wpList_append_fits w hgd s x t ho base e i size ht hi hsize g n cap xs hs hown ad m c news hx hl hnews h1 hr (fun w' h2 h3 => ?_)
      refine h _ w' h2 ?_ h3 (.inl rfl)
      rcases h2.2 with ⟨hv2, _⟩ | ⟨g2, cap2, cur2, hv2, hb2, hh2, hnc2, hcm2, hcs2, ht3⟩
      · cases hv2
      · simp only [Value.slice.injEq, Option.some.injEq, Addr.mk.injEq] at hv2
        obtain ⟨⟨rfl, _, _⟩, _, rfl⟩ := hv2
        refine ⟨hown.1, .inr ⟨g, cap, cur2, rfl, hb2, hh2, by omega, hcm2, hcs2, ?_⟩⟩
        have hx1 := hown.1
        have h5 := congrArg (List.take (n * size)) ht3
        rw [List.take_take, Nat.min_eq_left (Nat.mul_le_mul_right _ (by omega)), List.take_left' hx1] at h5
        exact h5
  · refine wpList_append_grows w hgd s x t ho e i z size bytes ht hi hz hsize hby hzs hsz ao n cap xs hs (fun e => ?_) hown.1 (fun b hb j u hj => ?_) ad m c news hx hl hnews h1 (by omega) h63 hbytes (fun v' w' h2 h3 => ?_)
    · subst e
      rcases hown.2 with ⟨hv, h0⟩ | ⟨g, cap', cur, hv, _⟩
      · simp only [Value.slice.injEq] at hv
        exact ⟨h0, hv.2.2⟩
      · simp only [Value.slice.injEq] at hv
        cases hv.1
    · subst hb
      rcases id hown.2 with ⟨hv, _⟩ | ⟨g, cap', cur, hv, _⟩
      · cases hv
      · simp only [Value.slice.injEq, Option.some.injEq] at hv
        obtain ⟨rfl, _, rfl⟩ := hv
        have hjl := (List.getElem?_eq_some_iff.1 hj).1
        rw [hown.1] at hjl
        rw [Go.WideShapes.add_plain, Nat.zero_add, World.ownsRow.cellAt hown j hjl]
        exact hj
    · exact h v' w' (own_mono h2 hbase) (own_far hown h3 (fun k e => by cases e)) ⟨h3.os, h3.tape, h3.output, h3.size, fun k hk _ => h3.block k hk (by simp)⟩ (.inr fun g hg => (h2.lt g hg).1)

/-- What is kept: all below a, and from b on all that was there. -/
structure Kp (a b : Nat) (X u : World) : Prop where
  os : u.os = X.os
  tape : u.tape = X.tape
  output : u.output = X.output
  size : X.heap.size ≤ u.heap.size
  low : ∀ g, g < a → g < X.heap.size → u.heap[g]? = X.heap[g]?
  high : ∀ g, b ≤ g → g < X.heap.size → u.heap[g]? = X.heap[g]?
theorem Kp.refl (a b : Nat) (X : World) : Kp a b X X := ⟨rfl, rfl, rfl, Nat.le_refl _, fun _ _ _ => rfl, fun _ _ _ => rfl⟩
theorem Kp.grown {a b : Nat} {X u z : World} {r : Option Nat} (h : Kp a b X u) (G : u.grownBy z r) (hr : ∀ g, r = some g → a ≤ g ∧ (g < b ∨ X.heap.size ≤ g)) : Kp a b X z :=
  ⟨G.os.trans h.os, G.tape.trans h.tape, G.output.trans h.output, Nat.le_trans h.size G.size,
    fun g h1 h2 => (G.block g (Nat.lt_of_lt_of_le h2 h.size) (fun e => by have := hr g e.symm; omega)).trans (h.low g h1 h2),
    fun g h1 h2 => (G.block g (Nat.lt_of_lt_of_le h2 h.size) (fun e => by have := hr g e.symm; omega)).trans (h.high g h1 h2)⟩
theorem Kp.keep {a b : Nat} {X u z : World} (h : Kp a b X u) (G : Below u.heap.size u z) : Kp a b X z :=
  ⟨G.os.trans h.os, G.tape.trans h.tape, G.output.trans h.output, Nat.le_trans h.size G.size,
    fun g h1 h2 => (G.block g (Nat.lt_of_lt_of_le h2 h.size)).trans (h.low g h1 h2),
    fun g h1 h2 => (G.block g (Nat.lt_of_lt_of_le h2 h.size)).trans (h.high g h1 h2)⟩
theorem Kp.below {a b N : Nat} {w X u : World} (B : Below N w X) (h : Kp a b X u) (hN : N ≤ a) (hX : N ≤ X.heap.size) : Below N w u := by
  have e : Below N X u := ⟨h.os, h.tape, h.output, h.size, fun k hk => h.low k (by omega) (by omega)⟩
  exact ⟨e.os.trans B.os, e.tape.trans B.tape, e.output.trans B.output, Nat.le_trans B.size e.size, fun k hk => (e.block k hk).trans (B.block k hk)⟩
theorem OwnP.kp {a b base : Nat} {X u : World} {v : Value} {n : Nat} {L : List Ty} (h : OwnP base X v n L) (G : Kp a b X u) (hb : b ≤ base) : OwnP base u v n L :=
  h.blocks (fun g _ _ hg hh => G.high g (by omega) (lt_of_block hh))
theorem OwnT.kp {a b base : Nat} {X u : World} {v : Value} {n : Nat} {L : List Ty} (h : OwnT base X v n L) (G : Kp a b X u) (hb : b ≤ base) : OwnT base u v n L := by
  obtain ⟨h0, cells, h1, h2⟩ := h
  refine ⟨h0, cells, own_of_block h1 (fun g cur hg hh => G.high g (by omega) (lt_of_block hh)), fun j hj => ?_⟩
  obtain ⟨e1, aj, cj, e2, e3⟩ := h2 j hj
  exact ⟨e1, aj, cj, e2, own_of_block e3 (fun g cur hg hh => G.high g (by omega) (lt_of_block hh))⟩
theorem One.kp {a b : Nat} {X u : World} {g : Nat} {v : Value} {t : TypeId} (h : One X g v t) (G : Kp a b X u) (hg : g < a ∨ b ≤ g) : One u g v t := by
  have := h.lt
  rcases hg with hg | hg
  · exact (G.low g hg this).trans h
  · exact (G.high g hg this).trans h
theorem strInfo : (Tryd.prog.info? 9).map (fun i => (i.zero, i.size, i.bytes)) = some (some (.string ⟨#[]⟩), 1, 16) := by kernel_rfl
theorem tdInfo : (Tryd.prog.info? 35).map (fun i => (i.zero, i.size, i.bytes)) = some (some (.agg #[.string ⟨#[]⟩, .slice none 0 0]), 2, 40) := by kernel_rfl
theorem info_of {P : Program} {e : TypeId} {z : Value} {s b : Nat} (h : (P.info? e).map (fun i => (i.zero, i.size, i.bytes)) = some (some z, s, b)) : ∃ i, P.info? e = some i ∧ i.zero = some z ∧ i.size = s ∧ i.bytes = b := by
  cases hi : P.info? e with
  | none => rw [hi] at h; cases h
  | some i => rw [hi] at h; simp at h; exact ⟨i, rfl, h.1, h.2.1, h.2.2⟩

end Go.Proofs.YtkpnnofonocilaaDoor
