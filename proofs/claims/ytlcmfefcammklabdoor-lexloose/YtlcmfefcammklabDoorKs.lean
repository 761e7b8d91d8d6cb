/- Rows of tokens that are written full, and grown while the old one is kept. -/
import Derived.Test.YtlcmfefcammklabDoorTo
import Derived.ArgAppend
namespace Go.Proofs.YtlcmfefcammklabDoor
open Go.RowKit Go.BigFrame
set_option linter.unusedVariables false
set_option linter.unusedSimpArgs false

theorem grown_trans {w u v : World} {r : Option Nat} (h : w.grownBy u r) (k : u.grownBy v r) : w.grownBy v r :=
  ⟨k.os.trans h.os, k.tape.trans h.tape, k.output.trans h.output, Nat.le_trans h.size k.size, fun i hi hne => (k.block i (Nat.lt_of_lt_of_le hi h.size) hne).trans (h.block i hi hne)⟩
theorem own_far {w u : World} {base : Nat} {e : TypeId} {size : Nat} {v : Value} {n : Nat} {xs : List Value} {r : Option Nat} (h : w.ownsRow base e size v n xs) (G : w.grownBy u r) (hr : ∀ k, r = some k → k < base) : u.ownsRow base e size v n xs :=
  own_of_block h fun g cur hb hh => G.block g (lt_of_block hh) (fun e' => by have := hr g e'.symm; omega)
theorem own_far2 {w u : World} {base : Nat} {e : TypeId} {size : Nat} {v : Value} {n : Nat} {xs : List Value} {r : Option Nat} (h : w.ownsRow base e size v n xs) (G : w.grownBy u r) (top : Nat) (hv : ∀ g, v.ownBlock = some g → g < top) (hr : ∀ k, r = some k → top ≤ k) : u.ownsRow base e size v n xs := by
  obtain ⟨h1, h2⟩ := h
  refine ⟨h1, ?_⟩
  rcases h2 with h2 | ⟨g, cap, cur, rfl, hb, hh, rest⟩
  · exact .inl h2
  · refine .inr ⟨g, cap, cur, rfl, hb, (G.block g (lt_of_block hh) (fun e' => ?_)).trans hh, rest⟩
    have := hr g e'.symm
    have := hv g rfl
    omega
theorem below_grown {w u : World} : Below w.heap.size w u → w.grownBy u none := fun h => ⟨h.os, h.tape, h.output, h.size, fun k hk _ => h.block k hk⟩

/-- append that keeps what it is handed. -/
theorem wpList_append_keep {w : World} {ops : Array Oper} {rest : List Oper} {o : Oper} {a : Act} {Q : Exit → Act → World → Prop} (hgd : o.guard = none) (s x : Operand)
    (ho : o.op = .call { callee := .builtin .append, args := #[s, x], argTypes := #[23, 23] })
    (base : Nat) (v : Value) (n : Nat) (xs : List Value) (hs : a.eval s = v) (hown : w.ownsRow base 29 4 v n xs) (hn : n ≤ 8192)
    (ad : Addr) (m c : Nat) (news : List Value) (hx : a.eval x = .slice (some ad) m c) (hl : news.length = m * 4) (hnews : ∀ j u, news[j]? = some u → w.cell? (ad.add j) = some u) (h1 : ∀ u ∈ news, u.oneCell' = true)
    (hm : m ≤ 8192) (hbase : base ≤ w.heap.size)
    (h : ∀ v' w', w'.ownsRow base 29 4 v' (n + m) (xs ++ news) → w'.ownsRow base 29 4 v n xs → w.grownBy w' v.ownBlock → wpList Tryd.prog ops Q rest (a.put o.dst v') w') : wpList Tryd.prog ops Q (o :: rest) a w := by
  obtain ⟨i3, ti, tz0, tz1, tz2⟩ := info_partsTk
  obtain ⟨ao, cap, rfl⟩ := own_shape hown
  by_cases hr : n + m ≤ cap
  · rcases id hown.2 with ⟨hv, h0⟩ | ⟨g, cap', cur, hv, hb, hh, hnc, hcm, hcs, ht⟩
    · simp only [Value.slice.injEq] at hv
      obtain ⟨rfl, _, rfl⟩ := hv
      obtain ⟨rfl, rfl⟩ : n = 0 ∧ m = 0 := by omega
      refine wpList_append_own (w := w) hgd s x 23 ho base 29 i3 (.agg (tokA noTok)) 4 40 Tryd.underlying23 ti tz0 tz1 tz2 rfl (by decide) _ _ xs hs hown ad 0 c news hx hl hnews h1 (by unfold maxLen; omega) (by omega) hbase (fun v' w' h2 h3 _ => ?_)
      exact h v' w' h2 (own_far hown h3 (fun k e => by cases e)) h3
    · simp only [Value.slice.injEq] at hv
      obtain ⟨rfl, _, rfl⟩ := hv
      refine wpList_append_fits w hgd s x 23 ho base 29 i3 4 Tryd.underlying23 ti tz1 g n cap xs hs hown ad m c news hx hl hnews h1 hr (fun w' h2 h3 => ?_)
      refine h _ w' h2 ?_ h3
      rcases h2.2 with ⟨hv2, _⟩ | ⟨g2, cap2, cur2, hv2, hb2, hh2, hnc2, hcm2, hcs2, ht2⟩
      · cases hv2
      · simp only [Value.slice.injEq, Option.some.injEq, Addr.mk.injEq] at hv2
        obtain ⟨⟨rfl, _, _⟩, _, rfl⟩ := hv2
        refine ⟨hown.1, .inr ⟨g, cap, cur2, rfl, hb2, hh2, by omega, hcm2, hcs2, ?_⟩⟩
        have hx1 := hown.1
        have h5 := congrArg (List.take (n * 4)) ht2
        rw [List.take_take, Nat.min_eq_left (by omega), List.take_left' hx1] at h5
        exact h5
  · refine wpList_append_grows w hgd s x 23 ho 29 i3 (.agg (tokA noTok)) 4 40 Tryd.underlying23 ti tz0 tz1 tz2 rfl (by decide) ao n cap xs hs (fun e => ?_) hown.1 (fun b hb j u hj => ?_) ad m c news hx hl hnews h1 (by omega) (by unfold maxLen; omega) (by omega) (fun v' w' h2 h3 => ?_)
    · subst e
      rcases hown.2 with ⟨hv, h0⟩ | ⟨g, cap', cur, hv, _⟩
      · simp only [Value.slice.injEq] at hv
        exact ⟨h0, hv.2.2⟩
      · simp only [Value.slice.injEq] at hv
        cases hv.1
    · subst hb
      rcases id hown.2 with ⟨hv, _⟩ | ⟨g, cap', cur, hv, _⟩
      · cases hv
      · simp only [Value.slice.injEq, Option.some.injEq] at hv
        obtain ⟨rfl, _, rfl⟩ := hv
        have hjl := (List.getElem?_eq_some_iff.1 hj).1
        rw [hown.1] at hjl
        rw [Go.WideShapes.add_plain, Nat.zero_add, World.ownsRow.cellAt hown j hjl]
        exact hj
    · refine h v' w' (own_mono h2 hbase) (own_far hown h3 (fun k e => by cases e)) ⟨h3.os, h3.tape, h3.output, h3.size, fun k hk _ => h3.block k hk (by simp)⟩

/-- A row's token, written over. -/
theorem toksV_set (L : List Tok) : ∀ (i : Nat) (t : Tok), i < L.length → ((((toksV L).set (i * 4) (.int .i64 t.k)).set (i * 4 + 1) (.string t.t)).set (i * 4 + 2) (.int .i64 t.n)).set (i * 4 + 3) (.int .i64 t.a) = toksV (L.set i t) := by
  induction L with
  | nil => intro i t h; simp at h
  | cons y r ih =>
    intro i t h
    have e : toksV (y :: r) = .int .i64 y.k :: .string y.t :: .int .i64 y.n :: .int .i64 y.a :: toksV r := rfl
    rw [e]
    cases i with
    | zero => rfl
    | succ i =>
      rw [List.set_cons_succ]
      have e2 : toksV (y :: r.set i t) = .int .i64 y.k :: .string y.t :: .int .i64 y.n :: .int .i64 y.a :: toksV (r.set i t) := rfl
      rw [e2, ← ih i t (by simpa using h), show (i + 1) * 4 = i * 4 + 4 by omega]
      rfl
/-- The first k tokens written over. -/
def markL (f : Nat → Tok) (L : List Tok) : Nat → List Tok
  | 0 => L
  | k + 1 => (markL f L k).set k (f k)
theorem markL_len (f : Nat → Tok) (L : List Tok) (k : Nat) : (markL f L k).length = L.length := by
  induction k with
  | zero => rfl
  | succ k ih => show ((markL f L k).set k (f k)).length = _; rw [List.length_set, ih]
theorem markL_at (f : Nat → Tok) (L : List Tok) : ∀ k i, i < k → i < L.length → (markL f L k).getD i noTok = f i := by
  intro k
  induction k with
  | zero => intro i h; omega
  | succ k ih =>
    intro i h hl
    show ((markL f L k).set k (f k)).getD i noTok = _
    rw [List.getD_eq_getElem?_getD, List.getElem?_set]
    by_cases e : k = i
    · subst e
      rw [if_pos rfl, if_pos (by rw [markL_len]; exact hl)]
      rfl
    · rw [if_neg e, ← List.getD_eq_getElem?_getD]
      exact ih i (by omega) hl
/-- One token stored into an own row. -/
theorem own_store {w : World} {base g n cap : Nat} {L : List Tok} (h : w.ownsRow base 29 4 (.slice (some ⟨g, 0, none⟩) n cap) n (toksV L)) (i : Nat) (hi : i < L.length) (t : Tok) :
    ((((w.setCell ⟨g, i * 4, none⟩ (.int .i64 t.k)).setCell ⟨g, i * 4 + 1, none⟩ (.string t.t)).setCell ⟨g, i * 4 + 2, none⟩ (.int .i64 t.n)).setCell ⟨g, i * 4 + 3, none⟩ (.int .i64 t.a)).ownsRow base 29 4 (.slice (some ⟨g, 0, none⟩) n cap) n (toksV (L.set i t)) ∧
    w.grownBy ((((w.setCell ⟨g, i * 4, none⟩ (.int .i64 t.k)).setCell ⟨g, i * 4 + 1, none⟩ (.string t.t)).setCell ⟨g, i * 4 + 2, none⟩ (.int .i64 t.n)).setCell ⟨g, i * 4 + 3, none⟩ (.int .i64 t.a)) (some g) := by
  obtain ⟨a1, b1⟩ := h.stored (i * 4) (.int .i64 t.k)
  obtain ⟨a2, b2⟩ := a1.stored (i * 4 + 1) (.string t.t)
  obtain ⟨a3, b3⟩ := a2.stored (i * 4 + 2) (.int .i64 t.n)
  obtain ⟨a4, b4⟩ := a3.stored (i * 4 + 3) (.int .i64 t.a)
  rw [toksV_set L i t hi] at a4
  exact ⟨a4, grown_trans (grown_trans (grown_trans b1 b2) b3) b4⟩

end Go.Proofs.YtlcmfefcammklabDoor
