/- A row of nodes in memory: how it comes in; the laws' own copy and comparison of one. -/
import Derived.Test.YtlejhococjlijaaGreatDoorOwn0
import Derived.ChangeArms
import Derived.ChangeSame
import Derived.SizedLaws
import Derived.Lib.SmallJoins
import Derived.WideShapes
import Derived.Deep.RegionLaw
import Derived.Deep.AppendLies
namespace Go.Proofs.YtlejhococjlijaaGreatDoor
open Go.ChangeShapes Go.WideShapes Go.ChangeAt Go.RowKit Go.BigFrame
set_option linter.unusedVariables false
set_option linter.unusedSimpArgs false

def fI (n : Int) : Prop := -9223372036854775808 ≤ n ∧ n ≤ 9223372036854775807
/-- A node that may come in. -/
structure Nd.fit (y : Nd) : Prop where
  op : fI y.op
  n : fI y.n
  l : fI y.l
  r : fI y.r
  v : y.v.size ≤ 140737488351232
  x : y.x.size ≤ 140737488351232
theorem noNd_fit : noNd.fit := ⟨⟨by decide, by decide⟩, ⟨by decide, by decide⟩, ⟨by decide, by decide⟩, ⟨by decide, by decide⟩, by decide, by decide⟩
/-- A row of nodes in memory. -/
def IsNds (w : World) (ao : Option Addr) (ns : List Nd) : Prop := ∀ i, i < ns.length → ∃ g o, ao = some ⟨g, o, none⟩ ∧ w.cell? ⟨g, o + i * 6, none⟩ = some (.int .i64 (ns.getD i noNd).op) ∧ w.cell? ⟨g, o + i * 6 + 1, none⟩ = some (.int .i64 (ns.getD i noNd).n) ∧ w.cell? ⟨g, o + i * 6 + 2, none⟩ = some (.string (ns.getD i noNd).v) ∧ w.cell? ⟨g, o + i * 6 + 3, none⟩ = some (.string (ns.getD i noNd).x) ∧ w.cell? ⟨g, o + i * 6 + 4, none⟩ = some (.int .i64 (ns.getD i noNd).l) ∧ w.cell? ⟨g, o + i * 6 + 5, none⟩ = some (.int .i64 (ns.getD i noNd).r)
theorem IsNds.keep {w u : World} {ao : Option Addr} {ns : List Nd} (h : IsNds w ao ns) (G : Below w.heap.size w u) : IsNds u ao ns := fun i hi => by
  obtain ⟨g, o, e, a0, a1, a2, a3, a4, a5⟩ := h i hi
  exact ⟨g, o, e, (G.cell (p := ⟨_, _, none⟩) (lt_of_cell a0)).trans a0, (G.cell (p := ⟨_, _, none⟩) (lt_of_cell a1)).trans a1, (G.cell (p := ⟨_, _, none⟩) (lt_of_cell a2)).trans a2, (G.cell (p := ⟨_, _, none⟩) (lt_of_cell a3)).trans a3, (G.cell (p := ⟨_, _, none⟩) (lt_of_cell a4)).trans a4, (G.cell (p := ⟨_, _, none⟩) (lt_of_cell a5)).trans a5⟩
theorem nd_wf {n : Int} (h : (Lit.int .i64 n).wf = true) : fI n := by
  have h' : (decide (IntKind.min .i64 ≤ n) && decide (n ≤ IntKind.max .i64)) = true := h
  rw [Bool.and_eq_true, decide_eq_true_eq, decide_eq_true_eq] at h'
  have e1 : IntKind.min .i64 = -9223372036854775808 := by decide +kernel
  have e2 : IntKind.max .i64 = 9223372036854775807 := by decide +kernel
  rw [e1, e2] at h'
  exact h'
theorem nd_add (a : Addr) (m j : Nat) : (a.add m).add j = a.add (m + j) := by
  unfold Addr.add
  by_cases hm : m = 0
  · subst hm; simp
  · by_cases hj : j = 0
    · subst hj; simp
    · rw [if_neg hm, if_neg hj, if_neg (by omega)]
      simp [Nat.add_assoc]
theorem bytesNd : Tryz.prog.bytesOf 29 = 64 := by kernel_rfl
theorem cellsNd : Tryz.prog.cellsOf 29 = 6 := by kernel_rfl
theorem nd_weights {H : Type} {P : Program} {e : TypeId} : ∀ {l : List (DataW H)} {d : DataW H}, d ∈ l → ∀ n ∈ d.weights P e, n ∈ DataW.weightsAll P e l
  | d0 :: l, d, hd, n, hn => by
    simp only [DataW.weightsAll, List.mem_append]
    rcases List.mem_cons.1 hd with rfl | hd
    · exact .inl hn
    · exact .inr (nd_weights hd n hn)

section
variable {H : Type} {enc : TypeId × Value → H} {w : World} {spare : Nat → Bool} {held : Bool}

theorem trod_struct6 {P : Program} {base : Nat} {t : TypeId} {f0 f1 f2 f3 f4 f5 : Field} {fuel : Nat} {cs : List Value} {x : DataW H × List MemPlace} (ht : P.underlying t = some (.struct #[f0, f1, f2, f3, f4, f5])) (h : DataW.trod enc P w base spare held fuel t cs = some x) :
    ∃ y0 y1 y2 y3 y4 y5 n, x.1 = .agg [y0.1, y1.1, y2.1, y3.1, y4.1, y5.1] ∧ cs.length = P.cellsOf t ∧ DataW.trod enc P w base spare held n f0.type ((cs.drop f0.offset).take (P.cellsOf f0.type)) = some y0 ∧
      DataW.trod enc P w base spare held n f1.type ((cs.drop f1.offset).take (P.cellsOf f1.type)) = some y1 ∧ DataW.trod enc P w base spare held n f2.type ((cs.drop f2.offset).take (P.cellsOf f2.type)) = some y2 ∧
      DataW.trod enc P w base spare held n f3.type ((cs.drop f3.offset).take (P.cellsOf f3.type)) = some y3 ∧ DataW.trod enc P w base spare held n f4.type ((cs.drop f4.offset).take (P.cellsOf f4.type)) = some y4 ∧
      DataW.trod enc P w base spare held n f5.type ((cs.drop f5.offset).take (P.cellsOf f5.type)) = some y5 := by
  obtain ⟨xs, n, _, rfl, hl, hlen, hf⟩ := DataW.trod_struct ht h
  match xs, hlen with
  | [y0, y1, y2, y3, y4, y5], _ => exact ⟨y0, y1, y2, y3, y4, y5, n, by simp, hl, by simpa using hf 0 f0 rfl, by simpa using hf 1 f1 rfl, by simpa using hf 2 f2 rfl, by simpa using hf 3 f3 rfl, by simpa using hf 4 f4 rfl, by simpa using hf 5 f5 rfl⟩
theorem list6 {α : Type} {cs : List α} (h : cs.length = 6) : ∃ c0 c1 c2 c3 c4 c5, cs = [c0, c1, c2, c3, c4, c5] := by
  match cs, h with
  | [c0, c1, c2, c3, c4, c5], _ => exact ⟨c0, c1, c2, c3, c4, c5, rfl⟩

set_option maxRecDepth 100000 in
theorem open_nds {fuel : Nat} {v : Value} {y : DataW H × List MemPlace} (h : DataW.trod enc Tryz.prog w 0 spare held fuel 22 [v] = some y) (hw : ∀ n ∈ y.1.weights Tryz.prog 22, n ≤ reachBytes) :
    ∃ ao cap ns, v = .slice ao ns.length cap ∧ ns.length ≤ cap ∧ (ao = none → ns.length = 0 ∧ cap = 0) ∧ IsNds w ao ns ∧ ns.length * 64 ≤ 140737488351232 ∧ ∀ k, (ns.getD k noNd).fit := by
  rcases DataW.trod_slice Tryz.underlying22 h with ⟨hcs, _⟩ | ⟨a, len, cap, elems, rest, fu, _, hcs, hx, _, hl, hm, hlen, hel, _, _⟩
  · simp only [List.cons.injEq, and_true] at hcs
    exact ⟨none, 0, [], hcs, Nat.le_refl _, fun _ => ⟨rfl, rfl⟩, fun i hi => by simp at hi, by simp, fun k => by simp; exact noNd_fit⟩
  · simp only [List.cons.injEq, and_true] at hcs
    have hw0 := hw ((elems.map (·.1)).length * 64 + (rest.map (·.1)).length * 64) (by rw [hx]; simp [DataW.weights, Tryz.underlying22, bytesNd, Nat.add_mul])
    have each : ∀ i : Nat, ∃ t : Nd, t.fit ∧ (i < len → w.cell? (a.add (i * 6)) = some (.int .i64 t.op) ∧ w.cell? (a.add (i * 6 + 1)) = some (.int .i64 t.n) ∧ w.cell? (a.add (i * 6 + 2)) = some (.string t.v) ∧ w.cell? (a.add (i * 6 + 3)) = some (.string t.x) ∧ w.cell? (a.add (i * 6 + 4)) = some (.int .i64 t.l) ∧ w.cell? (a.add (i * 6 + 5)) = some (.int .i64 t.r)) := by
      intro i
      by_cases hi : i < len
      · have h1 := hel i hi
        rw [cellsNd, List.getElem?_eq_getElem (by omega), Option.bind_eq_some_iff] at h1
        obtain ⟨cs', h2, h3⟩ := h1
        obtain ⟨_, hcl, hce⟩ := World.cells?_some h2
        obtain ⟨c0, c1, c2, c3, c4, c5, rfl⟩ := list6 hcl
        obtain ⟨y0, y1, y2, y3, y4, y5, m, e1, _, g0, g1, g2, g3, g4, g5⟩ := trod_struct6 Tryz.underlying29 h3
        have g0' : DataW.trod enc Tryz.prog w 0 spare held m 27 [c0] = some y0 := g0
        have g1' : DataW.trod enc Tryz.prog w 0 spare held m 2 [c1] = some y1 := g1
        have g2' : DataW.trod enc Tryz.prog w 0 spare held m 9 [c2] = some y2 := g2
        have g3' : DataW.trod enc Tryz.prog w 0 spare held m 9 [c3] = some y3 := g3
        have g4' : DataW.trod enc Tryz.prog w 0 spare held m 3 [c4] = some y4 := g4
        have g5' : DataW.trod enc Tryz.prog w 0 spare held m 3 [c5] = some y5 := g5
        obtain ⟨n0, e0, _, w0⟩ := DataW.trod_int Tryz.underlying27 g0'
        obtain ⟨n1, e2, _, w1⟩ := DataW.trod_int Tryz.underlying2 g1'
        obtain ⟨s2, e3, q2, _⟩ := DataW.trod_string Tryz.underlying9 g2'
        obtain ⟨s3, e4, q3, _⟩ := DataW.trod_string Tryz.underlying9 g3'
        obtain ⟨n4, e5, _, w4⟩ := DataW.trod_int Tryz.underlying3 g4'
        obtain ⟨n5, e6, _, w5⟩ := DataW.trod_int Tryz.underlying3 g5'
        simp only [List.cons.injEq, and_true] at e0 e2 e3 e4 e5 e6
        subst e0; subst e2; subst e3; subst e4; subst e5; subst e6
        have hmem : (elems[i]'(by omega)).1 ∈ elems.map (·.1) := List.mem_map_of_mem (List.getElem_mem _)
        have hsz : ∀ s : ByteArray, s = s2 ∨ s = s3 → s.size ≤ 140737488351232 := fun s hs => by
          have h5 : s.data.toList.length ≤ reachBytes := by
            refine hw _ ?_
            rw [hx]
            simp only [DataW.weights, Tryz.underlying22, List.mem_cons, List.mem_append]
            refine .inr (.inl (nd_weights hmem _ ?_))
            rw [e1]
            simp only [DataW.weights, Tryz.underlying29, DataW.weightsEach, List.mem_append]
            rcases hs with rfl | rfl
            · simp [DataW.weightsEach, q2, DataW.weights]
            · simp [DataW.weightsEach, q3, DataW.weights]
          have h6 : s.data.toList.length = s.size := Array.length_toList
          unfold reachBytes at h5
          omega
        refine ⟨⟨n0, n1, s2, s3, n4, n5⟩, ⟨nd_wf w0, nd_wf w1, nd_wf w4, nd_wf w5, hsz _ (.inl rfl), hsz _ (.inr rfl)⟩, fun _ => ?_⟩
        have d0 := hce 0 (by omega)
        have d1 := hce 1 (by omega)
        have d2 := hce 2 (by omega)
        have d3 := hce 3 (by omega)
        have d4 := hce 4 (by omega)
        have d5 := hce 5 (by omega)
        rw [nd_add] at d0 d1 d2 d3 d4 d5
        exact ⟨by simpa using d0, by simpa using d1, by simpa using d2, by simpa using d3, by simpa using d4, by simpa using d5⟩
      · exact ⟨noNd, noNd_fit, fun h => absurd h hi⟩
    obtain ⟨f, hf⟩ : ∃ f : Nat → Nd, ∀ i : Nat, (f i).fit ∧ (i < len → w.cell? (a.add (i * 6)) = some (.int .i64 (f i).op) ∧ w.cell? (a.add (i * 6 + 1)) = some (.int .i64 (f i).n) ∧ w.cell? (a.add (i * 6 + 2)) = some (.string (f i).v) ∧ w.cell? (a.add (i * 6 + 3)) = some (.string (f i).x) ∧ w.cell? (a.add (i * 6 + 4)) = some (.int .i64 (f i).l) ∧ w.cell? (a.add (i * 6 + 5)) = some (.int .i64 (f i).r)) := ⟨fun j => Classical.choose (each j), fun j => Classical.choose_spec (each j)⟩
    have hget : ∀ j, j < len → ((List.range len).map f).getD j noNd = f j := fun j hj => by simp [List.getD, hj]
    have hlen2 : ((List.range len).map f).length = len := by simp
    refine ⟨some a, cap, (List.range len).map f, by rw [hlen2]; exact hcs, by rw [hlen2]; exact hl, fun e => (by cases e), fun i hi => ?_, ?_, fun j => ?_⟩
    · rw [hlen2] at hi
      obtain ⟨ab, ao, asp⟩ := a
      cases asp with
      | some s => have := World.cell?_spot ((hf 0).2 (by omega)).1; simp [Addr.add] at this
      | none =>
        obtain ⟨e0, e1, e2, e3, e4, e5⟩ := (hf i).2 hi
        rw [hget i hi]
        rw [add_plain] at e0 e1 e2 e3 e4 e5
        simp only [← Nat.add_assoc] at e1 e2 e3 e4 e5
        exact ⟨ab, ao, rfl, e0, e1, e2, e3, e4, e5⟩
    · rw [hlen2]
      unfold reachBytes at hw0
      simp at hw0
      omega
    · by_cases hj : j < len
      · rw [hget j hj]; exact (hf j).1
      · have : ((List.range len).map f).getD j noNd = noNd := by simp [List.getD, hj]
        rw [this]; exact noNd_fit

end

theorem nds_at (ns : List Nd) : ∀ i, i < ns.length → ∀ j, j < 6 → (ndsV ns)[i * 6 + j]? = (ndA (ns.getD i noNd)).toList[j]? := by
  induction ns with
  | nil => intro i hi; simp at hi
  | cons t r ih =>
    intro i hi j hj
    have e : ndsV (t :: r) = (ndA t).toList ++ ndsV r := rfl
    have hl : (ndA t).toList.length = 6 := rfl
    rw [e]
    cases i with
    | zero =>
      rw [Nat.zero_mul, Nat.zero_add, List.getElem?_append_left (by omega)]
      rfl
    | succ i =>
      rw [List.getElem?_append_right (by omega), hl, show (i + 1) * 6 + j - 6 = i * 6 + j by omega]
      rw [ih i (by simpa using hi) j hj]
      rfl
theorem nds_more (ns : List Nd) (k : Nat) (h : k < ns.length) : ndsV (ns.take k) ++ (ndA (ns.getD k noNd)).toList = ndsV (ns.take (k + 1)) := by
  unfold ndsV
  rw [List.take_add_one]
  simp only [List.flatMap_append, List.getD, List.getElem?_eq_getElem h, Option.getD_some, Option.toList_some, List.flatMap_cons, List.flatMap_nil, List.append_nil]
/-- A row of nodes of one's own is a row of nodes. -/
theorem nds_of_own {w : World} {b : Nat} {ao : Option Addr} {c : Nat} {ns : List Nd} (h : w.ownsRow b 29 6 (.slice ao ns.length c) ns.length (ndsV ns)) : IsNds w ao ns := fun i hi => by
  obtain ⟨ao', c', e, _, _, hg⟩ := own_form h
  simp only [Value.slice.injEq, true_and] at e
  obtain ⟨rfl, rfl⟩ := e
  rcases hg with hg | ⟨g, rfl, _, _⟩
  · omega
  have hc : ∀ j, j < 6 → w.cell? ⟨g, i * 6 + j, none⟩ = (ndA (ns.getD i noNd)).toList[j]? := fun j hj => by
    rw [World.ownsRow.cellAt h (i * 6 + j) (by omega), nds_at ns i hi j hj]
  refine ⟨g, 0, rfl, ?_⟩
  rw [Nat.zero_add]
  exact ⟨hc 0 (by omega), hc 1 (by omega), hc 2 (by omega), hc 3 (by omega), hc 4 (by omega), hc 5 (by omega)⟩

end Go.Proofs.YtlejhococjlijaaGreatDoor
