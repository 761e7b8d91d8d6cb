/- Tokens: what they are, and rows of them in memory; the table of the signs. -/
import Derived.Test.YtpodpahipapbaaaDoorWb
import Derived.Deep.AppendLies
import Derived.Laws.Rows
import Derived.Laws.Tables
import Derived.Laws.CopyOwn
namespace Go.Proofs.YtpodpahipapbaaaDoor
open Go.RowKit Go.BigFrame
set_option linter.unusedVariables false
set_option linter.unusedSimpArgs false

structure Tok where
  k : Int
  t : ByteArray
  n : Int
  a : Int
def tokA (t : Tok) : Array Value := #[.int .i64 t.k, .string t.t, .int .i64 t.n, .int .i64 t.a]
def noTok : Tok := ⟨0, ⟨#[]⟩, 0, 0⟩
def TokAt (w : World) (b : Nat) (t : Tok) : Prop := w.heap[b]? = some (.cells (tokA t) 57 (0, 0))
theorem TokAt.lt {w : World} {b : Nat} {t : Tok} (h : TokAt w b t) : b < w.heap.size := lt_of_block h
theorem TokAt.keep {w u : World} {b : Nat} {t : Tok} (h : TokAt w b t) (G : Below w.heap.size w u) : TokAt u b t := (G.block b h.lt).trans h
theorem TokAt.new (w : World) (t : Tok) : TokAt (w.alloc (.cells (tokA t) 57)) w.heap.size t := by
  show (w.heap.push _)[w.heap.size]? = _
  simp
theorem TokAt.at {w : World} {b : Nat} {t : Tok} (h : TokAt w b t) : w.cell? ⟨b, 0, none⟩ = some (.int .i64 t.k) ∧ w.cell? ⟨b, 1, none⟩ = some (.string t.t) ∧ w.cell? ⟨b, 2, none⟩ = some (.int .i64 t.n) ∧ w.cell? ⟨b, 3, none⟩ = some (.int .i64 t.a) := by
  unfold TokAt tokA at h
  refine ⟨?_, ?_, ?_, ?_⟩ <;> simp [World.cell?, h]
theorem TokAt.free {w : World} {b : Nat} {t : Tok} (h : TokAt w b t) (o : Nat) : w.frozen? ⟨b, o, none⟩ = false := by
  unfold TokAt at h
  simp [World.frozen?, h]
theorem own_shape {w : World} {base : Nat} {e : TypeId} {size : Nat} {v : Value} {n : Nat} {xs : List Value} (h : w.ownsRow base e size v n xs) : ∃ ao cap, v = .slice ao n cap := by
  rcases h.2 with ⟨rfl, rfl⟩ | ⟨g, cap, cur, rfl, _⟩
  · exact ⟨_, _, rfl⟩
  · exact ⟨_, _, rfl⟩
theorem infoTk : (Tryd.prog.info? 57).map (fun i => (i.zero, i.size, i.bytes)) = some (some (.agg (tokA noTok)), 4, 40) := by kernel_rfl
theorem info_partsTk : ∃ i, Tryd.prog.info? 57 = some i ∧ i.zero = some (.agg (tokA noTok)) ∧ i.size = 4 ∧ i.bytes = 40 := by
  have h := infoTk
  cases hq : Tryd.prog.info? 57 with
  | none => simp [hq] at h
  | some i => simp [hq] at h; exact ⟨i, rfl, h.1, h.2.1, h.2.2⟩
def toksV (ts : List Tok) : List Value := ts.flatMap fun t => (tokA t).toList

theorem new4 (w : World) (t : Tok) (j : Nat) (u : Value) (h : (tokA t).toList[j]? = some u) : (w.alloc (.cells (tokA t) 57)).drew.cell? ((⟨w.heap.size, 0, none⟩ : Addr).add j) = some u := by
  show (w.alloc _).cell? _ = _
  rw [Go.WideShapes.add_plain, Nat.zero_add, World.cell?_alloc_new]
  simpa using h
/-- A row of tokens in memory. -/
def IsToks (w : World) (ao : Option Addr) (ts : List Tok) : Prop := ∀ i, i < ts.length → ∃ g o, ao = some ⟨g, o, none⟩ ∧ w.cell? ⟨g, o + i * 4, none⟩ = some (.int .i64 (ts.getD i noTok).k) ∧ w.cell? ⟨g, o + i * 4 + 1, none⟩ = some (.string (ts.getD i noTok).t) ∧ w.cell? ⟨g, o + i * 4 + 2, none⟩ = some (.int .i64 (ts.getD i noTok).n) ∧ w.cell? ⟨g, o + i * 4 + 3, none⟩ = some (.int .i64 (ts.getD i noTok).a)
theorem toksV_at (ts : List Tok) : ∀ i, i < ts.length → ∀ j, j < 4 → (toksV ts)[i * 4 + j]? = (tokA (ts.getD i noTok)).toList[j]? := by
  induction ts with
  | nil => intro i hi; simp at hi
  | cons t r ih =>
    intro i hi j hj
    have e : toksV (t :: r) = (tokA t).toList ++ toksV r := rfl
    have hl : (tokA t).toList.length = 4 := rfl
    rw [e]
    cases i with
    | zero =>
      rw [Nat.zero_mul, Nat.zero_add, List.getElem?_append_left (by omega)]
      rfl
    | succ i =>
      rw [List.getElem?_append_right (by omega), hl, show (i + 1) * 4 + j - 4 = i * 4 + j by omega]
      rw [ih i (by simpa using hi) j hj]
      rfl
theorem toks_of_own {w : World} {base : Nat} {v : Value} {ts : List Tok} (h : w.ownsRow base 57 4 v ts.length (toksV ts)) : ∃ ao cap, v = .slice ao ts.length cap ∧ IsToks w ao ts := by
  rcases h.2 with ⟨rfl, h0⟩ | ⟨g, cap, cur, rfl, hb, hh, r⟩
  · exact ⟨none, 0, by rw [h0], fun i hi => by omega⟩
  · refine ⟨_, cap, rfl, fun i hi => ⟨g, 0, rfl, ?_⟩⟩
    have hc : ∀ j, j < 4 → w.cell? ⟨g, i * 4 + j, none⟩ = (tokA (ts.getD i noTok)).toList[j]? := fun j hj => by
      rw [World.ownsRow.cellAt h (i * 4 + j) (by omega), toksV_at ts i hi j hj]
    refine ⟨?_, ?_, ?_, ?_⟩
    · rw [Nat.zero_add]; exact hc 0 (by omega)
    · rw [Nat.zero_add]; exact hc 1 (by omega)
    · rw [Nat.zero_add]; exact hc 2 (by omega)
    · rw [Nat.zero_add]; exact hc 3 (by omega)
theorem IsToks.keep {w u : World} {ao : Option Addr} {ts : List Tok} (h : IsToks w ao ts) (G : Below w.heap.size w u) : IsToks u ao ts := fun i hi => by
  obtain ⟨g, o, e, a0, a1, a2, a3⟩ := h i hi
  exact ⟨g, o, e, (G.cell (p := ⟨_, _, none⟩) (lt_of_cell a0)).trans a0, (G.cell (p := ⟨_, _, none⟩) (lt_of_cell a1)).trans a1, (G.cell (p := ⟨_, _, none⟩) (lt_of_cell a2)).trans a2, (G.cell (p := ⟨_, _, none⟩) (lt_of_cell a3)).trans a3⟩
/-- The signs' bytes, in their order. -/
def sgl : List (List UInt8) := [[40], [41], [123], [125], [44], [46], [33], [124], [43], [45], [42], [47], [37], [61], [33, 61], [60], [60, 61], [62], [62, 61]]
def sg (j : Nat) : ByteArray := ⟨(sgl.getD j []).toArray⟩
def SgAt (w : World) : Prop := 2 < w.heap.size ∧ ∀ j, j < 19 → w.cell? ⟨2, j, none⟩ = some (.string (sg j))
theorem SgAt.keep {w u : World} (h : SgAt w) (G : Below w.heap.size w u) : SgAt u :=
  ⟨Nat.lt_of_lt_of_le h.1 G.size, fun j hj => (G.cell (p := ⟨_, j, none⟩) h.1).trans (h.2 j hj)⟩

end Go.Proofs.YtpodpahipapbaaaDoor
