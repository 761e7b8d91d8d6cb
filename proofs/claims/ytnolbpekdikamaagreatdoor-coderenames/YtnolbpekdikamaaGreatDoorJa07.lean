/- A query and its spots in memory: how they come in. And what goes with it: 3 texts in one. -/
import Derived.Test.YtnolbpekdikamaaGreatDoorJa06
import Derived.SliceStrings
import Derived.Maps.Own
import Derived.Maps.OwnSet
import Derived.Maps.Views
import Derived.StringKeys
namespace Go.Proofs.YtnolbpekdikamaaGreatDoor
open Go.ChangeShapes Go.WideShapes Go.ChangeAt Go.RowKit Go.BigFrame
set_option linter.unusedVariables false
set_option linter.unusedSimpArgs false

def noIt : It := ⟨false, [], eS, 0, 0⟩
/-- A row of strings in memory. -/
def IsSs (w : World) (ao : Option Addr) (ss : List ByteArray) : Prop := ∀ i, i < ss.length → ∃ g o, ao = some ⟨g, o, none⟩ ∧ w.cell? ⟨g, o + i, none⟩ = some (.string (ss.getD i eS))
theorem IsSs.keep {w u : World} {ao : Option Addr} {ss : List ByteArray} (h : IsSs w ao ss) (G : Below w.heap.size w u) : IsSs u ao ss := fun i hi => by
  obtain ⟨g, o, e, a0⟩ := h i hi
  exact ⟨g, o, e, (G.cell (p := ⟨_, _, none⟩) (lt_of_cell a0)).trans a0⟩
/-- An item in memory. -/
def IsItm (w : World) (g o : Nat) (i : It) : Prop := ∃ ao c, w.cell? ⟨g, o, none⟩ = some (.bool i.neg) ∧ w.cell? ⟨g, o + 1, none⟩ = some (.slice ao i.ty.length c) ∧ w.cell? ⟨g, o + 2, none⟩ = some (.string i.v) ∧ w.cell? ⟨g, o + 3, none⟩ = some (.int .i64 i.lo) ∧ w.cell? ⟨g, o + 4, none⟩ = some (.int .i64 i.hi) ∧ IsSs w ao i.ty ∧ Sl ao i.ty.length c
theorem IsItm.keep {w u : World} {g o : Nat} {i : It} (h : IsItm w g o i) (G : Below w.heap.size w u) : IsItm u g o i := by
  obtain ⟨ao, c, a0, a1, a2, a3, a4, hs, hl⟩ := h
  exact ⟨ao, c, (G.cell (p := ⟨_, _, none⟩) (lt_of_cell a0)).trans a0, (G.cell (p := ⟨_, _, none⟩) (lt_of_cell a1)).trans a1, (G.cell (p := ⟨_, _, none⟩) (lt_of_cell a2)).trans a2, (G.cell (p := ⟨_, _, none⟩) (lt_of_cell a3)).trans a3, (G.cell (p := ⟨_, _, none⟩) (lt_of_cell a4)).trans a4, hs.keep G, hl⟩
def IsIts (w : World) (ao : Option Addr) (l : List It) : Prop := ∀ i, i < l.length → ∃ g o, ao = some ⟨g, o, none⟩ ∧ IsItm w g (o + i * 5) (l.getD i noIt)
theorem IsIts.keep {w u : World} {ao : Option Addr} {l : List It} (h : IsIts w ao l) (G : Below w.heap.size w u) : IsIts u ao l := fun i hi => by
  obtain ⟨g, o, e, a0⟩ := h i hi
  exact ⟨g, o, e, a0.keep G⟩
/-- A row of rows of nodes. -/
def IsNss (w : World) (ao : Option Addr) (l : List (List Nd)) : Prop := ∀ i, i < l.length → ∃ g o a c, ao = some ⟨g, o, none⟩ ∧ w.cell? ⟨g, o + i, none⟩ = some (.slice a (l.getD i []).length c) ∧ IsNds w a (l.getD i []) ∧ Sl a (l.getD i []).length c
theorem IsNss.keep {w u : World} {ao : Option Addr} {l : List (List Nd)} (h : IsNss w ao l) (G : Below w.heap.size w u) : IsNss u ao l := fun i hi => by
  obtain ⟨g, o, a, c, e, a0, hs, hl⟩ := h i hi
  exact ⟨g, o, a, c, e, (G.cell (p := ⟨_, _, none⟩) (lt_of_cell a0)).trans a0, hs.keep G, hl⟩
def IsIss (w : World) (ao : Option Addr) (l : List (List Int)) : Prop := ∀ i, i < l.length → ∃ g o a c, ao = some ⟨g, o, none⟩ ∧ w.cell? ⟨g, o + i, none⟩ = some (.slice a (l.getD i []).length c) ∧ IsInts w a (l.getD i []) ∧ Sl a (l.getD i []).length c
theorem IsIss.keep {w u : World} {ao : Option Addr} {l : List (List Int)} (h : IsIss w ao l) (G : Below w.heap.size w u) : IsIss u ao l := fun i hi => by
  obtain ⟨g, o, a, c, e, a0, hs, hl⟩ := h i hi
  exact ⟨g, o, a, c, e, (G.cell (p := ⟨_, _, none⟩) (lt_of_cell a0)).trans a0, hs.keep G, hl⟩
/-- A query in memory, by value. -/
structure IsQ (w : World) (q : Qy) (cs : Array Value) (ai : Option Addr) (ci : Nat) (aw : Option Addr) (cw : Nat) (ar : Option Addr) (cr : Nat) : Prop where
  eq : cs = #[.slice ai q.items.length ci, .int .i64 q.mode, .int .i64 q.after, .slice aw q.wh.length cw, .int .i64 q.within, .string q.by_, .slice ar q.ret.length cr]
  its : IsIts w ai q.items
  wh : IsNds w aw q.wh
  ret : IsNss w ar q.ret
  si : Sl ai q.items.length ci
  sw : Sl aw q.wh.length cw
  sr : Sl ar q.ret.length cr
theorem IsQ.keep {w u : World} {q : Qy} {cs : Array Value} {ai : Option Addr} {ci : Nat} {aw : Option Addr} {cw : Nat} {ar : Option Addr} {cr : Nat} (h : IsQ w q cs ai ci aw cw ar cr) (G : Below w.heap.size w u) : IsQ u q cs ai ci aw cw ar cr := ⟨h.eq, h.its.keep G, h.wh.keep G, h.ret.keep G, h.si, h.sw, h.sr⟩
structure IsSp (w : World) (s : Sps) (cs : Array Value) (ai : Option Addr) (ci : Nat) (aw : Option Addr) (cw : Nat) (ar : Option Addr) (cr : Nat) : Prop where
  eq : cs = #[.slice ai s.items.length ci, .slice aw s.wh.length cw, .int .i64 s.within, .int .i64 s.by_, .slice ar s.ret.length cr]
  its : IsInts w ai s.items
  wh : IsInts w aw s.wh
  ret : IsIss w ar s.ret
  si : Sl ai s.items.length ci
  sw : Sl aw s.wh.length cw
  sr : Sl ar s.ret.length cr
theorem IsSp.keep {w u : World} {q : Sps} {cs : Array Value} {ai : Option Addr} {ci : Nat} {aw : Option Addr} {cw : Nat} {ar : Option Addr} {cr : Nat} (h : IsSp w q cs ai ci aw cw ar cr) (G : Below w.heap.size w u) : IsSp u q cs ai ci aw cw ar cr := ⟨h.eq, h.its.keep G, h.wh.keep G, h.ret.keep G, h.si, h.sw, h.sr⟩
/-- An item that may come in. -/
structure It.fit (i : It) : Prop where
  lo : fI i.lo
  hi : fI i.hi
  v : i.v.size ≤ 140737488351232
  n : i.ty.length * 16 ≤ 140737488351232
  s : ∀ k, (i.ty.getD k eS).size ≤ 140737488351232
theorem eS_small : eS.size ≤ 140737488351232 := by decide
theorem noIt_fit : noIt.fit := ⟨⟨by decide, by decide⟩, ⟨by decide, by decide⟩, by decide, by decide, fun k => by simp [noIt]; exact eS_small⟩
/-- Trees that may come in. -/
def ndsFit (ns : List Nd) : Prop := ns.length * 64 ≤ 140737488351232 ∧ ∀ k, (ns.getD k noNd).fit
structure Qy.fit (q : Qy) : Prop where
  n : q.items.length * 64 ≤ 140737488351232
  its : ∀ k, (q.items.getD k noIt).fit
  mode : fI q.mode
  after : fI q.after
  within : fI q.within
  by_ : q.by_.size ≤ 140737488351232
  wh : ndsFit q.wh
  r : q.ret.length * 24 ≤ 140737488351232
  ret : ∀ k, ndsFit (q.ret.getD k [])
structure Sps.fit (s : Sps) : Prop where
  n : s.items.length * 8 ≤ 140737488351232
  w : s.wh.length * 8 ≤ 140737488351232
  r : s.ret.length * 24 ≤ 140737488351232
  ret : ∀ k, (s.ret.getD k []).length * 8 ≤ 140737488351232
  within : fI s.within
  by_ : fI s.by_
theorem bytesStr : Tryz.prog.bytesOf 9 = 16 := by kernel_rfl
theorem cellsStr : Tryz.prog.cellsOf 9 = 1 := by kernel_rfl
theorem spotless {w : World} {a : Addr} {v : Value} (h : w.cell? (a.add 0) = some v) : ∃ b off, a = ⟨b, off, none⟩ := by
  obtain ⟨b, off, spot⟩ := a
  cases spot with
  | none => exact ⟨b, off, rfl⟩
  | some s => have := World.cell?_spot h; simp [Addr.add] at this
section
variable {H : Type} {enc : TypeId × Value → H} {w : World} {spare : Nat → Bool} {held : Bool}

theorem open_ss {fuel : Nat} {v : Value} {y : DataW H × List MemPlace} (h : DataW.trod enc Tryz.prog w 0 spare held fuel 65 [v] = some y) (hw : ∀ n ∈ y.1.weights Tryz.prog 65, n ≤ reachBytes) :
    ∃ ao cap ss, v = .slice ao ss.length cap ∧ Sl ao ss.length cap ∧ IsSs w ao ss ∧ ss.length * 16 ≤ 140737488351232 ∧ ∀ k, (ss.getD k eS).size ≤ 140737488351232 := by
  rcases open_strings Tryz.underlying65 Tryz.underlying9 cellsStr h with ⟨hcs, _⟩ | ⟨a, len, cap, ss, hcs, _, hl, hm, hlen, hx, hcell, _⟩
  · simp only [List.cons.injEq, and_true] at hcs
    exact ⟨none, 0, [], hcs, ⟨Nat.le_refl _, fun _ => ⟨rfl, rfl⟩⟩, fun i hi => by simp at hi, by simp, fun k => by simp; exact eS_small⟩
  · simp only [List.cons.injEq, and_true] at hcs
    have hge : len ≤ ss.length := by split at hlen <;> omega
    have htl : (ss.take len).length = len := by simp; omega
    have hw0 := hw ((strs (ss.take len) : List (DataW H)).length * 16 + (strs (ss.drop len) : List (DataW H)).length * 16) (by rw [hx]; simp [DataW.weights, Tryz.underlying65, bytesStr, Nat.add_mul])
    have hbig : len * 16 ≤ 140737488351232 := by
      unfold reachBytes at hw0
      simp [strs] at hw0
      omega
    refine ⟨some a, cap, ss.take len, by rw [htl]; exact hcs, ⟨by omega, fun e => by cases e⟩, fun i hi => ?_, by rw [htl]; exact hbig, fun k => ?_⟩
    · rw [htl] at hi
      have h1 := hcell i (by omega)
      obtain ⟨b, off, rfl⟩ := spotless (hcell 0 (by omega))
      rw [add_plain] at h1
      refine ⟨b, off, rfl, ?_⟩
      rw [h1, List.getD_eq_getElem?_getD, List.getD_eq_getElem?_getD, List.getElem?_take, if_pos hi]
      rfl
    · rw [List.getD_eq_getElem?_getD]
      cases hk : (ss.take len)[k]? with
      | none => simp; exact eS_small
      | some s =>
        have hmem : s ∈ ss.take len := List.mem_of_getElem? hk
        have h5 : s.data.toList.length ≤ reachBytes := by
          refine hw _ ?_
          rw [hx]
          simp only [DataW.weights, Tryz.underlying65, List.mem_cons, List.mem_append]
          refine .inr (.inl (nd_weights (d := .lit (.string s.data.toList)) ?_ _ ?_))
          · unfold strs
            exact List.mem_map.2 ⟨s, hmem, rfl⟩
          · simp [DataW.weights]
        have h6 : s.data.toList.length = s.size := Array.length_toList
        unfold reachBytes at h5
        simp
        omega
end

end Go.Proofs.YtnolbpekdikamaaGreatDoor
namespace Go.Proofs.YtnolbpekdikamaaGreatDoor
open Go.ChangeShapes Go.WideShapes Go.ChangeAt Go.RowKit Go.BigFrame
set_option linter.unusedVariables false
set_option linter.unusedSimpArgs false

theorem ndsFit_nil : ndsFit [] := ⟨by simp, fun k => by simp; exact noNd_fit⟩
theorem list5 {α : Type} {cs : List α} (h : cs.length = 5) : ∃ c0 c1 c2 c3 c4, cs = [c0, c1, c2, c3, c4] := by
  match cs, h with
  | [c0, c1, c2, c3, c4], _ => exact ⟨c0, c1, c2, c3, c4, rfl⟩
theorem list7 {α : Type} {cs : List α} (h : cs.length = 7) : ∃ c0 c1 c2 c3 c4 c5 c6, cs = [c0, c1, c2, c3, c4, c5, c6] := by
  match cs, h with
  | [c0, c1, c2, c3, c4, c5, c6], _ => exact ⟨c0, c1, c2, c3, c4, c5, c6, rfl⟩
section
variable {H : Type} {enc : TypeId × Value → H} {w : World} {spare : Nat → Bool} {held : Bool}

theorem open_gapsS {fuel : Nat} {v : Value} {y : DataW H × List MemPlace} (h : DataW.trod enc Tryz.prog w 0 spare held fuel 39 [v] = some y) (hw : ∀ n ∈ y.1.weights Tryz.prog 39, n ≤ reachBytes) :
    ∃ ao cap zs, v = .slice ao zs.length cap ∧ Sl ao zs.length cap ∧ IsInts w ao zs ∧ zs.length * 8 ≤ 140737488351232 := by
  rcases DataW.trod_slice Tryz.underlying39 h with ⟨hcs, _⟩ | ⟨a, len, cap, elems, rest, fu, _, hcs, _⟩
  · simp only [List.cons.injEq, and_true] at hcs
    exact ⟨none, 0, [], hcs, ⟨Nat.le_refl _, fun _ => ⟨rfl, rfl⟩⟩, fun i hi => by simp at hi, by simp⟩
  · obtain ⟨ao, c, zs, e1, e2, e3, e4⟩ := open_gaps h hw
    refine ⟨ao, c, zs, e1, ⟨e2, fun e => ?_⟩, e3, e4⟩
    subst e
    simp only [List.cons.injEq, and_true] at hcs
    rw [hcs] at e1
    cases e1
theorem bytesNss : Tryz.prog.bytesOf 28 = 24 := by kernel_rfl
theorem cbytesNss : Tryz.prog.cellsOf 28 = 1 := by kernel_rfl
set_option maxRecDepth 100000 in
theorem open_nss {fuel : Nat} {v : Value} {y : DataW H × List MemPlace} (h : DataW.trod enc Tryz.prog w 0 spare held fuel 29 [v] = some y) (hw : ∀ n ∈ y.1.weights Tryz.prog 29, n ≤ reachBytes) :
    ∃ ao cap l, v = .slice ao (l : List (List Nd)).length cap ∧ Sl ao l.length cap ∧ IsNss w ao l ∧ l.length * 24 ≤ 140737488351232 ∧ ∀ k, ndsFit (l.getD k []) := by
  rcases DataW.trod_slice Tryz.underlying29 h with ⟨hcs, _⟩ | ⟨a, len, cap, elems, rest, fu, _, hcs, hx, _, hl, hm, hlen, hel, _, _⟩
  · simp only [List.cons.injEq, and_true] at hcs
    exact ⟨none, 0, [], hcs, ⟨Nat.le_refl _, fun _ => ⟨rfl, rfl⟩⟩, fun i hi => by simp at hi, by simp, fun k => by first | (simp; done) | (simp; exact ndsFit_nil)⟩
  · simp only [List.cons.injEq, and_true] at hcs
    have hw0 := hw ((elems.map (·.1)).length * 24 + (rest.map (·.1)).length * 24) (by rw [hx]; simp [DataW.weights, Tryz.underlying29, bytesNss, Nat.add_mul])
    have each : ∀ i : Nat, ∃ t : List Nd, ndsFit t ∧ (i < len → ∃ aj cj, w.cell? (a.add i) = some (.slice aj t.length cj) ∧ IsNds w aj t ∧ Sl aj t.length cj) := by
      intro i
      by_cases hi : i < len
      · have h1 := hel i hi
        rw [cbytesNss, List.getElem?_eq_getElem (by omega), Option.bind_eq_some_iff] at h1
        obtain ⟨cs', h2, h3⟩ := h1
        obtain ⟨_, hcl, hce⟩ := World.cells?_some h2
        obtain ⟨c0, rfl⟩ : ∃ c0, cs' = [c0] := by
          match cs', hcl with
          | [c0], _ => exact ⟨c0, rfl⟩
        have hmem : (elems[i]'(by omega)).1 ∈ elems.map (·.1) := List.mem_map_of_mem (List.getElem_mem _)
        have hw1 : ∀ n ∈ (elems[i]'(by omega)).1.weights Tryz.prog 28, n ≤ reachBytes := fun n hn => by
          refine hw n ?_
          rw [hx]
          simp only [DataW.weights, Tryz.underlying29, List.mem_cons, List.mem_append]
          exact .inr (.inl (nd_weights hmem n hn))
        obtain ⟨aj, cj, t, e3, e4, e5, e6, e7, e8⟩ := open_nds h3 hw1
        have k0 := hce 0 (by omega)
        rw [Nat.mul_one, nd_add, Nat.add_zero] at k0
        simp only [List.getElem?_cons_zero, e3] at k0
        exact ⟨t, ⟨e7, e8⟩, fun _ => ⟨aj, cj, k0, e6, ⟨e4, e5⟩⟩⟩
      · exact ⟨[], by first | exact ndsFit_nil | simp, fun h => absurd h hi⟩
    obtain ⟨f, hf⟩ : ∃ f : Nat → List Nd, ∀ i : Nat, ndsFit (f i) ∧ (i < len → ∃ aj cj, w.cell? (a.add i) = some (.slice aj (f i).length cj) ∧ IsNds w aj (f i) ∧ Sl aj (f i).length cj) := ⟨fun j => Classical.choose (each j), fun j => Classical.choose_spec (each j)⟩
    have hget : ∀ j, j < len → ((List.range len).map f).getD j [] = f j := fun j hj => by simp [List.getD, hj]
    have hlen2 : ((List.range len).map f).length = len := by simp
    have hel2 : (elems.map (·.1)).length = len := by rw [List.length_map]; omega
    refine ⟨some a, cap, (List.range len).map f, by rw [hlen2]; exact hcs, ⟨by rw [hlen2]; exact hl, fun e => by cases e⟩, fun i hi => ?_, by rw [hlen2]; unfold reachBytes at hw0; omega, fun k => ?_⟩
    · rw [hlen2] at hi
      obtain ⟨aj, cj, k0, k1, k2⟩ := (hf i).2 hi
      obtain ⟨_, _, z0, _⟩ := (hf 0).2 (by omega)
      obtain ⟨b, off, rfl⟩ := spotless z0
      rw [add_plain] at k0
      rw [hget i hi]
      exact ⟨b, off, aj, cj, rfl, k0, k1, k2⟩
    · by_cases hk : k < len
      · rw [hget k hk]; exact (hf k).1
      · rw [List.getD_eq_getElem?_getD, List.getElem?_eq_none (by rw [hlen2]; omega)]; first | exact ndsFit_nil | simp
theorem bytesIss : Tryz.prog.bytesOf 39 = 24 := by kernel_rfl
theorem cbytesIss : Tryz.prog.cellsOf 39 = 1 := by kernel_rfl
set_option maxRecDepth 100000 in
theorem open_iss {fuel : Nat} {v : Value} {y : DataW H × List MemPlace} (h : DataW.trod enc Tryz.prog w 0 spare held fuel 46 [v] = some y) (hw : ∀ n ∈ y.1.weights Tryz.prog 46, n ≤ reachBytes) :
    ∃ ao cap l, v = .slice ao (l : List (List Int)).length cap ∧ Sl ao l.length cap ∧ IsIss w ao l ∧ l.length * 24 ≤ 140737488351232 ∧ ∀ k, (l.getD k []).length * 8 ≤ 140737488351232 := by
  rcases DataW.trod_slice Tryz.underlying46 h with ⟨hcs, _⟩ | ⟨a, len, cap, elems, rest, fu, _, hcs, hx, _, hl, hm, hlen, hel, _, _⟩
  · simp only [List.cons.injEq, and_true] at hcs
    exact ⟨none, 0, [], hcs, ⟨Nat.le_refl _, fun _ => ⟨rfl, rfl⟩⟩, fun i hi => by simp at hi, by simp, fun k => by first | (simp; done) | (simp; exact (by decide))⟩
  · simp only [List.cons.injEq, and_true] at hcs
    have hw0 := hw ((elems.map (·.1)).length * 24 + (rest.map (·.1)).length * 24) (by rw [hx]; simp [DataW.weights, Tryz.underlying46, bytesIss, Nat.add_mul])
    have each : ∀ i : Nat, ∃ t : List Int, t.length * 8 ≤ 140737488351232 ∧ (i < len → ∃ aj cj, w.cell? (a.add i) = some (.slice aj t.length cj) ∧ IsInts w aj t ∧ Sl aj t.length cj) := by
      intro i
      by_cases hi : i < len
      · have h1 := hel i hi
        rw [cbytesIss, List.getElem?_eq_getElem (by omega), Option.bind_eq_some_iff] at h1
        obtain ⟨cs', h2, h3⟩ := h1
        obtain ⟨_, hcl, hce⟩ := World.cells?_some h2
        obtain ⟨c0, rfl⟩ : ∃ c0, cs' = [c0] := by
          match cs', hcl with
          | [c0], _ => exact ⟨c0, rfl⟩
        have hmem : (elems[i]'(by omega)).1 ∈ elems.map (·.1) := List.mem_map_of_mem (List.getElem_mem _)
        have hw1 : ∀ n ∈ (elems[i]'(by omega)).1.weights Tryz.prog 39, n ≤ reachBytes := fun n hn => by
          refine hw n ?_
          rw [hx]
          simp only [DataW.weights, Tryz.underlying46, List.mem_cons, List.mem_append]
          exact .inr (.inl (nd_weights hmem n hn))
        obtain ⟨aj, cj, t, e3, e4, e5, e6⟩ := open_gapsS h3 hw1
        have k0 := hce 0 (by omega)
        rw [Nat.mul_one, nd_add, Nat.add_zero] at k0
        simp only [List.getElem?_cons_zero, e3] at k0
        exact ⟨t, e6, fun _ => ⟨aj, cj, k0, e5, e4⟩⟩
      · exact ⟨[], by first | exact (by decide) | simp, fun h => absurd h hi⟩
    obtain ⟨f, hf⟩ : ∃ f : Nat → List Int, ∀ i : Nat, (f i).length * 8 ≤ 140737488351232 ∧ (i < len → ∃ aj cj, w.cell? (a.add i) = some (.slice aj (f i).length cj) ∧ IsInts w aj (f i) ∧ Sl aj (f i).length cj) := ⟨fun j => Classical.choose (each j), fun j => Classical.choose_spec (each j)⟩
    have hget : ∀ j, j < len → ((List.range len).map f).getD j [] = f j := fun j hj => by simp [List.getD, hj]
    have hlen2 : ((List.range len).map f).length = len := by simp
    have hel2 : (elems.map (·.1)).length = len := by rw [List.length_map]; omega
    refine ⟨some a, cap, (List.range len).map f, by rw [hlen2]; exact hcs, ⟨by rw [hlen2]; exact hl, fun e => by cases e⟩, fun i hi => ?_, by rw [hlen2]; unfold reachBytes at hw0; omega, fun k => ?_⟩
    · rw [hlen2] at hi
      obtain ⟨aj, cj, k0, k1, k2⟩ := (hf i).2 hi
      obtain ⟨_, _, z0, _⟩ := (hf 0).2 (by omega)
      obtain ⟨b, off, rfl⟩ := spotless z0
      rw [add_plain] at k0
      rw [hget i hi]
      exact ⟨b, off, aj, cj, rfl, k0, k1, k2⟩
    · by_cases hk : k < len
      · rw [hget k hk]; exact (hf k).1
      · rw [List.getD_eq_getElem?_getD, List.getElem?_eq_none (by rw [hlen2]; omega)]; first | exact (by decide) | simp
theorem trod_struct5 {P : Program} {base : Nat} {t : TypeId} {f0 f1 f2 f3 f4 : Field} {fuel : Nat} {cs : List Value} {x : DataW H × List MemPlace} (ht : P.underlying t = some (.struct #[f0, f1, f2, f3, f4])) (h : DataW.trod enc P w base spare held fuel t cs = some x) :
    ∃ y0 y1 y2 y3 y4 n, x.1 = .agg [y0.1, y1.1, y2.1, y3.1, y4.1] ∧ cs.length = P.cellsOf t ∧ DataW.trod enc P w base spare held n f0.type ((cs.drop f0.offset).take (P.cellsOf f0.type)) = some y0 ∧ DataW.trod enc P w base spare held n f1.type ((cs.drop f1.offset).take (P.cellsOf f1.type)) = some y1 ∧ DataW.trod enc P w base spare held n f2.type ((cs.drop f2.offset).take (P.cellsOf f2.type)) = some y2 ∧ DataW.trod enc P w base spare held n f3.type ((cs.drop f3.offset).take (P.cellsOf f3.type)) = some y3 ∧ DataW.trod enc P w base spare held n f4.type ((cs.drop f4.offset).take (P.cellsOf f4.type)) = some y4 := by
  obtain ⟨xs, n, _, rfl, hl, hlen, hf⟩ := DataW.trod_struct ht h
  match xs, hlen with
  | [y0, y1, y2, y3, y4], _ => exact ⟨y0, y1, y2, y3, y4, n, by simp, hl, by simpa using hf 0 f0 rfl, by simpa using hf 1 f1 rfl, by simpa using hf 2 f2 rfl, by simpa using hf 3 f3 rfl, by simpa using hf 4 f4 rfl⟩
theorem trod_struct7 {P : Program} {base : Nat} {t : TypeId} {f0 f1 f2 f3 f4 f5 f6 : Field} {fuel : Nat} {cs : List Value} {x : DataW H × List MemPlace} (ht : P.underlying t = some (.struct #[f0, f1, f2, f3, f4, f5, f6])) (h : DataW.trod enc P w base spare held fuel t cs = some x) :
    ∃ y0 y1 y2 y3 y4 y5 y6 n, x.1 = .agg [y0.1, y1.1, y2.1, y3.1, y4.1, y5.1, y6.1] ∧ cs.length = P.cellsOf t ∧ DataW.trod enc P w base spare held n f0.type ((cs.drop f0.offset).take (P.cellsOf f0.type)) = some y0 ∧ DataW.trod enc P w base spare held n f1.type ((cs.drop f1.offset).take (P.cellsOf f1.type)) = some y1 ∧ DataW.trod enc P w base spare held n f2.type ((cs.drop f2.offset).take (P.cellsOf f2.type)) = some y2 ∧ DataW.trod enc P w base spare held n f3.type ((cs.drop f3.offset).take (P.cellsOf f3.type)) = some y3 ∧ DataW.trod enc P w base spare held n f4.type ((cs.drop f4.offset).take (P.cellsOf f4.type)) = some y4 ∧ DataW.trod enc P w base spare held n f5.type ((cs.drop f5.offset).take (P.cellsOf f5.type)) = some y5 ∧ DataW.trod enc P w base spare held n f6.type ((cs.drop f6.offset).take (P.cellsOf f6.type)) = some y6 := by
  obtain ⟨xs, n, _, rfl, hl, hlen, hf⟩ := DataW.trod_struct ht h
  match xs, hlen with
  | [y0, y1, y2, y3, y4, y5, y6], _ => exact ⟨y0, y1, y2, y3, y4, y5, y6, n, by simp, hl, by simpa using hf 0 f0 rfl, by simpa using hf 1 f1 rfl, by simpa using hf 2 f2 rfl, by simpa using hf 3 f3 rfl, by simpa using hf 4 f4 rfl, by simpa using hf 5 f5 rfl, by simpa using hf 6 f6 rfl⟩
theorem bytesIt : Tryz.prog.bytesOf 69 = 64 := by kernel_rfl
theorem cellsIt : Tryz.prog.cellsOf 69 = 5 := by kernel_rfl
set_option maxRecDepth 100000 in
theorem open_its {fuel : Nat} {v : Value} {y : DataW H × List MemPlace} (h : DataW.trod enc Tryz.prog w 0 spare held fuel 25 [v] = some y) (hw : ∀ n ∈ y.1.weights Tryz.prog 25, n ≤ reachBytes) :
    ∃ ao cap l, v = .slice ao (l : List It).length cap ∧ Sl ao l.length cap ∧ IsIts w ao l ∧ l.length * 64 ≤ 140737488351232 ∧ ∀ k, (l.getD k noIt).fit := by
  rcases DataW.trod_slice Tryz.underlying25 h with ⟨hcs, _⟩ | ⟨a, len, cap, elems, rest, fu, _, hcs, hx, _, hl, hm, hlen, hel, _, _⟩
  · simp only [List.cons.injEq, and_true] at hcs
    exact ⟨none, 0, [], hcs, ⟨Nat.le_refl _, fun _ => ⟨rfl, rfl⟩⟩, fun i hi => by simp at hi, by simp, fun k => by simp; exact noIt_fit⟩
  · simp only [List.cons.injEq, and_true] at hcs
    have hw0 := hw ((elems.map (·.1)).length * 64 + (rest.map (·.1)).length * 64) (by rw [hx]; simp [DataW.weights, Tryz.underlying25, bytesIt, Nat.add_mul])
    have each : ∀ i : Nat, ∃ t : It, t.fit ∧ (i < len → ∃ aj cj, w.cell? (a.add (i * 5)) = some (.bool t.neg) ∧ w.cell? (a.add (i * 5 + 1)) = some (.slice aj t.ty.length cj) ∧ w.cell? (a.add (i * 5 + 2)) = some (.string t.v) ∧ w.cell? (a.add (i * 5 + 3)) = some (.int .i64 t.lo) ∧ w.cell? (a.add (i * 5 + 4)) = some (.int .i64 t.hi) ∧ IsSs w aj t.ty ∧ Sl aj t.ty.length cj) := by
      intro i
      by_cases hi : i < len
      · have h1 := hel i hi
        rw [cellsIt, List.getElem?_eq_getElem (by omega), Option.bind_eq_some_iff] at h1
        obtain ⟨cs', h2, h3⟩ := h1
        obtain ⟨_, hcl, hce⟩ := World.cells?_some h2
        obtain ⟨c0, c1, c2, c3, c4, rfl⟩ := list5 hcl
        obtain ⟨y0, y1, y2, y3, y4, m, e1, _, g0, g1, g2, g3, g4⟩ := trod_struct5 Tryz.underlying69 h3
        have g0' : DataW.trod enc Tryz.prog w 0 spare held m 4 [c0] = some y0 := g0
        have g1' : DataW.trod enc Tryz.prog w 0 spare held m 65 [c1] = some y1 := g1
        have g2' : DataW.trod enc Tryz.prog w 0 spare held m 9 [c2] = some y2 := g2
        have g3' : DataW.trod enc Tryz.prog w 0 spare held m 3 [c3] = some y3 := g3
        have g4' : DataW.trod enc Tryz.prog w 0 spare held m 3 [c4] = some y4 := g4
        obtain ⟨b0, e0, _⟩ := DataW.trod_bool Tryz.underlying4 g0'
        obtain ⟨s2, e2, q2, _⟩ := DataW.trod_string Tryz.underlying9 g2'
        obtain ⟨n3, e3, _, w3⟩ := DataW.trod_int Tryz.underlying3 g3'
        obtain ⟨n4, e4, _, w4⟩ := DataW.trod_int Tryz.underlying3 g4'
        simp only [List.cons.injEq, and_true] at e0 e2 e3 e4
        subst e0; subst e2; subst e3; subst e4
        have hmem : (elems[i]'(by omega)).1 ∈ elems.map (·.1) := List.mem_map_of_mem (List.getElem_mem _)
        have hwi : ∀ n ∈ (elems[i]'(by omega)).1.weights Tryz.prog 69, n ≤ reachBytes := fun n hn => by
          refine hw n ?_
          rw [hx]
          simp only [DataW.weights, Tryz.underlying25, List.mem_cons, List.mem_append]
          exact .inr (.inl (nd_weights hmem n hn))
        rw [e1] at hwi
        simp only [DataW.weights, Tryz.underlying69, DataW.weightsEach, List.mem_append] at hwi
        obtain ⟨aj, cj, ss, e5, e6, e7, e8, e9⟩ := open_ss g1' (fun n hn => hwi n (by simp [DataW.weightsEach, hn]))
        subst e5
        have hs2 : s2.size ≤ 140737488351232 := by
          have h5 : s2.data.toList.length ≤ reachBytes := hwi _ (by simp [DataW.weightsEach, q2, DataW.weights])
          have h6 : s2.data.toList.length = s2.size := Array.length_toList
          unfold reachBytes at h5
          omega
        refine ⟨⟨b0, ss, s2, n3, n4⟩, ⟨nd_wf w3, nd_wf w4, hs2, e8, e9⟩, fun _ => ?_⟩
        have d0 := hce 0 (by omega)
        have d1 := hce 1 (by omega)
        have d2 := hce 2 (by omega)
        have d3 := hce 3 (by omega)
        have d4 := hce 4 (by omega)
        rw [nd_add] at d0 d1 d2 d3 d4
        exact ⟨aj, cj, by simpa using d0, by simpa using d1, by simpa using d2, by simpa using d3, by simpa using d4, e7, e6⟩
      · exact ⟨noIt, noIt_fit, fun h => absurd h hi⟩
    obtain ⟨f, hf⟩ : ∃ f : Nat → It, ∀ i : Nat, (f i).fit ∧ (i < len → ∃ aj cj, w.cell? (a.add (i * 5)) = some (.bool (f i).neg) ∧ w.cell? (a.add (i * 5 + 1)) = some (.slice aj (f i).ty.length cj) ∧ w.cell? (a.add (i * 5 + 2)) = some (.string (f i).v) ∧ w.cell? (a.add (i * 5 + 3)) = some (.int .i64 (f i).lo) ∧ w.cell? (a.add (i * 5 + 4)) = some (.int .i64 (f i).hi) ∧ IsSs w aj (f i).ty ∧ Sl aj (f i).ty.length cj) := ⟨fun j => Classical.choose (each j), fun j => Classical.choose_spec (each j)⟩
    have hget : ∀ j, j < len → ((List.range len).map f).getD j noIt = f j := fun j hj => by simp [List.getD, hj]
    have hlen2 : ((List.range len).map f).length = len := by simp
    have hel2 : (elems.map (·.1)).length = len := by rw [List.length_map]; omega
    refine ⟨some a, cap, (List.range len).map f, by rw [hlen2]; exact hcs, ⟨by rw [hlen2]; exact hl, fun e => by cases e⟩, fun i hi => ?_, by rw [hlen2]; unfold reachBytes at hw0; omega, fun k => ?_⟩
    · rw [hlen2] at hi
      obtain ⟨aj, cj, k0, k1, k2, k3, k4, k5, k6⟩ := (hf i).2 hi
      obtain ⟨_, _, z0, _⟩ := (hf 0).2 (by omega)
      obtain ⟨b, off, rfl⟩ := spotless (by simpa using z0)
      rw [add_plain] at k0 k1 k2 k3 k4
      rw [hget i hi]
      exact ⟨b, off, rfl, aj, cj, k0, by rw [Nat.add_assoc]; exact k1, by rw [Nat.add_assoc]; exact k2, by rw [Nat.add_assoc]; exact k3, by rw [Nat.add_assoc]; exact k4, k5, k6⟩
    · by_cases hk : k < len
      · rw [hget k hk]; exact (hf k).1
      · rw [List.getD_eq_getElem?_getD, List.getElem?_eq_none (by rw [hlen2]; omega)]; exact noIt_fit
theorem cellsQy : Tryz.prog.cellsOf 31 = 7 := by kernel_rfl
set_option maxRecDepth 100000 in
theorem open_query {fuel : Nat} {cs : Array Value} {y : DataW H × List MemPlace} (hz : cs.size = 7) (h : DataW.trod enc Tryz.prog w 0 spare held fuel 31 cs.toList = some y) (hw : ∀ n ∈ y.1.weights Tryz.prog 31, n ≤ reachBytes) :
    ∃ q ai ci aw cw ar cr, IsQ w q cs ai ci aw cw ar cr ∧ q.fit := by
  obtain ⟨l⟩ := cs
  obtain ⟨c0, c1, c2, c3, c4, c5, c6, rfl⟩ := list7 (show l.length = 7 from hz)
  obtain ⟨y0, y1, y2, y3, y4, y5, y6, m, e, _, g0, g1, g2, g3, g4, g5, g6⟩ := trod_struct7 Tryz.underlying31 h
  have g0' : DataW.trod enc Tryz.prog w 0 spare held m 25 [c0] = some y0 := g0
  have g1' : DataW.trod enc Tryz.prog w 0 spare held m 26 [c1] = some y1 := g1
  have g2' : DataW.trod enc Tryz.prog w 0 spare held m 27 [c2] = some y2 := g2
  have g3' : DataW.trod enc Tryz.prog w 0 spare held m 28 [c3] = some y3 := g3
  have g4' : DataW.trod enc Tryz.prog w 0 spare held m 2 [c4] = some y4 := g4
  have g5' : DataW.trod enc Tryz.prog w 0 spare held m 9 [c5] = some y5 := g5
  have g6' : DataW.trod enc Tryz.prog w 0 spare held m 29 [c6] = some y6 := g6
  rw [e] at hw
  simp only [DataW.weights, Tryz.underlying31, DataW.weightsEach, List.mem_append] at hw
  obtain ⟨ai, ci, its, i1, i2, i3, i4, i5⟩ := open_its g0' (fun n hn => hw n (by simp [DataW.weightsEach, hn]))
  obtain ⟨n1, e1, _, w1⟩ := DataW.trod_int Tryz.underlying26 g1'
  obtain ⟨n2, e2, _, w2⟩ := DataW.trod_int Tryz.underlying27 g2'
  obtain ⟨aw, cw, wh, h1, h2, h3, h4, h5, h6⟩ := open_nds g3' (fun n hn => hw n (by simp [DataW.weightsEach, hn]))
  obtain ⟨n4, e4, _, w4⟩ := DataW.trod_int Tryz.underlying2 g4'
  obtain ⟨s5, e5, q5, _⟩ := DataW.trod_string Tryz.underlying9 g5'
  obtain ⟨ar, cr, rt, r1, r2, r3, r4, r5⟩ := open_nss g6' (fun n hn => hw n (by simp [DataW.weightsEach, hn]))
  have hs5 : s5.size ≤ 140737488351232 := by
    have h7 : s5.data.toList.length ≤ reachBytes := hw _ (by simp [DataW.weightsEach, q5, DataW.weights])
    have h8 : s5.data.toList.length = s5.size := Array.length_toList
    unfold reachBytes at h7
    omega
  simp only [List.cons.injEq, and_true] at e1 e2 e4 e5
  subst i1 e1 e2 h1 e4 e5 r1
  exact ⟨⟨its, n1, n2, wh, n4, s5, rt⟩, ai, ci, aw, cw, ar, cr, ⟨rfl, i3, h4, r3, i2, ⟨h2, h3⟩, r2⟩, ⟨i4, i5, nd_wf w1, nd_wf w2, nd_wf w4, hs5, ⟨h5, h6⟩, r4, r5⟩⟩
end

end Go.Proofs.YtnolbpekdikamaaGreatDoor
namespace Go.Proofs.YtnolbpekdikamaaGreatDoor
open Go.RowKit Go.BigFrame
set_option linter.unusedVariables false
set_option linter.unusedSimpArgs false

/-- The block b is a map of at most n entries that holds what M tells. -/
structure MpAt (w : World) (b n : Nat) (M : ByteArray → Option Int) : Prop where
  ex : ∃ D : DataW Unit, w.ownsMap Tryz.prog 9 (plainElem Tryz.prog 3) b n D ∧ ∀ s : ByteArray, s.size ≤ 140737488351232 → Maps.has D (.string s.data.toList) = (M s).isSome ∧ D.atKey (.string s.data.toList) (.lit (.int .i64 0)) = .lit (.int .i64 ((M s).getD 0))
theorem MpAt.lt {w : World} {b n : Nat} {M : ByteArray → Option Int} (h : MpAt w b n M) : b < w.heap.size := by
  obtain ⟨D, h1, _⟩ := h.ex
  exact h1.lt
theorem MpAt.of_block {w u : World} {b n : Nat} {M : ByteArray → Option Int} (h : MpAt w b n M) (e : u.heap[b]? = w.heap[b]?) : MpAt u b n M := by
  obtain ⟨D, ⟨es, clock, hb, r⟩, h2⟩ := h.ex
  exact ⟨D, ⟨es, clock, e.trans hb, r⟩, h2⟩
theorem MpAt.keep {w u : World} {b n : Nat} {M : ByteArray → Option Int} (h : MpAt w b n M) (G : Below w.heap.size w u) : MpAt u b n M := h.of_block (G.block b h.lt)
theorem MpAt.new (w : World) : MpAt (w.alloc (.map #[] 0)) w.heap.size 0 (fun _ => none) :=
  ⟨.map [], World.ownsMap_made w _ _ _, fun s hs => ⟨rfl, rfl⟩⟩
theorem str_key {s : ByteArray} (hs : s.size ≤ 140737488351232) : keyOf Tryz.prog 9 (.string s) = some (.string s.data.toList) := WideMaps.keyOf_string_mk Tryz.underlying9 (by unfold maxLen; omega)
theorem MpAt.look {w : World} {b n : Nat} {M : ByteArray → Option Int} (h : MpAt w b n M) (s : ByteArray) (hs : s.size ≤ 140737488351232) : (Instr.lookup 78 (.map (some b)) (.string s) true).run Tryz.prog w = .ok (.tuple #[.int .i64 ((M s).getD 0), .bool (M s).isSome]) w := by
  obtain ⟨D, h1, h2⟩ := h.ex
  obtain ⟨v, ps, hr, hv⟩ := h1.look_ok (Maps.string_keyed Tryz.underlying9) Tryz.underlying78 (z := .int .i64 0) (by kernel_rfl) (plainElem_int Tryz.underlying3 (by decide)) (str_key hs)
  obtain ⟨e1, e2⟩ := h2 s hs
  obtain ⟨a, rfl, ha, _⟩ := plainElem_int_inv Tryz.underlying3 hv
  rw [e2] at ha
  simp only [Prod.mk.injEq, DataW.lit.injEq, Lit.int.injEq, true_and] at ha
  rw [hr, e1, ha.1]
theorem nd_fw {n : Int} (h : fI n) : (Lit.int .i64 n).wf = true := by
  have e1 : IntKind.min .i64 = -9223372036854775808 := by decide +kernel
  have e2 : IntKind.max .i64 = 9223372036854775807 := by decide +kernel
  show (decide (IntKind.min .i64 ≤ n) && decide (n ≤ IntKind.max .i64)) = true
  rw [e1, e2, Bool.and_eq_true, decide_eq_true_eq, decide_eq_true_eq]
  exact h
/-- Behind a store. -/
theorem MpAt.put {w' : World} {b n : Nat} {M : ByteArray → Option Int} {D : DataW Unit} {w : World} (h0 : w.ownsMap Tryz.prog 9 (plainElem Tryz.prog 3) b n D) (h2 : ∀ s : ByteArray, s.size ≤ 140737488351232 → Maps.has D (.string s.data.toList) = (M s).isSome ∧ D.atKey (.string s.data.toList) (.lit (.int .i64 0)) = .lit (.int .i64 ((M s).getD 0)))
    (s : ByteArray) (i : Int) (h : w'.ownsMap Tryz.prog 9 (plainElem Tryz.prog 3) b (n + 1) (D.put (.string s.data.toList) (.lit (.int .i64 i)))) : MpAt w' b (n + 1) (fun x => if x = s then some i else M x) := by
  refine ⟨_, h, fun x hx => ?_⟩
  have hm := h0.isMap
  by_cases e : x = s
  · subst e
    rw [if_pos rfl]
    exact ⟨Maps.has_put_same hm (show WideAt.IsKeyLit (.string _) from trivial) _, Maps.atKey_put_same hm (show WideAt.IsKeyLit (.string _) from trivial) _ _⟩
  · have hne : (Lit.string x.data.toList) ≠ (Lit.string s.data.toList) := fun h => e (by
      cases x; cases s
      simp only [Lit.string.injEq] at h
      congr 1
      exact Array.toList_inj.1 h)
    rw [if_neg e]
    obtain ⟨q1, q2⟩ := h2 x hx
    exact ⟨by rw [Maps.has_put_other hne]; exact q1, by rw [Maps.atKey_put_other hne]; exact q2⟩
theorem MpAt.congr {w : World} {b n n' : Nat} {M M' : ByteArray → Option Int} (h : MpAt w b n M) (hn : n ≤ n') (e : ∀ s, M s = M' s) : MpAt w b n' M' := by
  obtain ⟨D, h1, h2⟩ := h.ex
  exact ⟨D, h1.mono hn, fun s hs => by rw [← e s]; exact h2 s hs⟩
theorem run_makeMap_hint {P : Program} (t k e : TypeId) (ht : P.underlying t = some (.map k e)) (n : Nat) (w : World) : (Instr.makeMap t (some (.int .i64 (n : Int)))).run P w = .ok (.map (some w.heap.size)) (w.alloc (.map #[] 0)) := by
  simp [Instr.makeMap, asInt, asIntOf, run_underlying ht]
/-- The number of the first of k items that has the variable. -/
def itemF (l : List It) : Nat → ByteArray → Option Int
  | 0, _ => none
  | k + 1, s => match itemF l k s with
    | some i => some i
    | none => if s = (l.getD k noIt).v then some (k : Int) else none
set_option maxRecDepth 100000 in
set_option maxHeartbeats 8000000 in
theorem itemsOf_any (q : Qy) (hq : q.fit) (cs : Array Value) (ai : Option Addr) (ci : Nat) (aw : Option Addr) (cw : Nat) (ar : Option Addr) (cr : Nat) (w : World) (A : IsQ w q cs ai ci aw cw ar cr) :
    Calls Tryz.prog 21 #[.agg cs] w fun e w' => ∃ b, e = .returned (.map (some b)) ∧ w.heap.size ≤ b ∧ MpAt w' b q.items.length (itemF q.items q.items.length) ∧ Below w.heap.size w w' := by
  obtain ⟨he, Ai, _, _, si, _, _⟩ := A
  subst he
  have hnn := hq.n
  have hmk := run_makeMap_hint (P := Tryz.prog) 78 _ _ Tryz.underlying78 q.items.length
  go_enter Tryz.func21, Tryz.ntmps21
  go_wp2
  clear hmk
  have B0 := galloc (galloc (Below.refl w.heap.size w) (.cells #[.slice ai q.items.length ci, .int .i64 q.mode, .int .i64 q.after, .slice aw q.wh.length cw, .int .i64 q.within, .string q.by_, .slice ar q.ret.length cr] 31)) (.map #[] 0)
  have M0 := MpAt.new (w.alloc (.cells #[.slice ai q.items.length ci, .int .i64 q.mode, .int .i64 q.after, .slice aw q.wh.length cw, .int .i64 q.within, .string q.by_, .slice ar q.ret.length cr] 31))
  rw [show (w.alloc (.cells #[.slice ai q.items.length ci, .int .i64 q.mode, .int .i64 q.after, .slice aw q.wh.length cw, .int .i64 q.within, .string q.by_, .slice ar q.ret.length cr] 31)).heap.size = w.heap.size + 1 by simp] at M0
  generalize (w.alloc (.cells #[.slice ai q.items.length ci, .int .i64 q.mode, .int .i64 q.after, .slice aw q.wh.length cw, .int .i64 q.within, .string q.by_, .slice ar q.ret.length cr] 31)).alloc (.map #[] 0) = V at *
  go_loopw [4, 5, 6, 7, 15] (fun _ _ _ _ x wr => ∃ k : Nat, k ≤ q.items.length ∧ x = .int .i64 k ∧ MpAt wr (w.heap.size + 1) k (itemF q.items k) ∧ Below w.heap.size w wr) (fun _ _ _ _ x _ => q.items.length - (intOf x).toNat)
  case atStart => exact ⟨0, Nat.zero_le _, rfl, M0.congr (Nat.le_refl _) (fun s => rfl), B0⟩
  case round =>
    obtain ⟨k, hk, rfl, MP, G⟩ := hrel
    by_cases hlt : k < q.items.length
    · obtain ⟨g, o, rfl, a, c, y0, y1, y2, y3, y4, _, _⟩ := (Ai.keep G) k hlt
      have hki : (k : Int) < (q.items.length : Int) := by omega
      have hv := (hq.its k).v
      have hstep : ∀ s, itemF q.items (k + 1) s = match itemF q.items k s with | some i => some i | none => if s = (q.items.getD k noIt).v then some (k : Int) else none := fun s => rfl
      generalize q.items.getD k noIt = it at *
      obtain ⟨iN, iT, iV, iL, iH⟩ := it
      dsimp only at y0 y1 y2 y3 y4 hv hstep
      have MA := fun o : Obj => MP.keep (galloc (Below.refl _ _) o)
      have lk := fun o : Obj => (MA o).look iV hv
      cases hF : itemF q.items k iV with
      | some i =>
        rw [hF] at lk
        have MN : MpAt wr (w.heap.size + 1) (k + 1) (itemF q.items (k + 1)) := MP.congr (by omega) (fun s => by
          rw [hstep s]
          cases hs : itemF q.items k s with
          | some j => rfl
          | none =>
            by_cases e : s = iV
            · subst e; rw [hF] at hs; cases hs
            · simp only; rw [if_neg e])
        replace MN := fun o : Obj => MN.keep (galloc (Below.refl _ _) o)
        clear hF hstep MP MA
        go_wp2
        go_roundw
        case rel => exact ⟨k + 1, by omega, by go_num, MN _, galloc G _⟩
        case measure => simp [intOf]; omega
      | none =>
        rw [hF] at lk
        obtain ⟨D, hD1, hD2⟩ := (MA (.cells #[.bool iN, .slice a iT.length c, .string iV, .int .i64 iL, .int .i64 iH] 69)).ex
        have hHF := show Hid (itemF q.items k iV = none) from hF
        have hHS := show Hid (∀ s, itemF q.items (k + 1) s = match itemF q.items k s with | some i => some i | none => if s = iV then some (k : Int) else none) from hstep
        have hHD := show Hid (∀ s : ByteArray, s.size ≤ 140737488351232 → Maps.has D (.string s.data.toList) = (itemF q.items k s).isSome ∧ D.atKey (.string s.data.toList) (.lit (.int .i64 0)) = .lit (.int .i64 ((itemF q.items k s).getD 0))) from hD2
        clear hF hstep MP MA hD2
        go_wp2_with (at_mapUpdate; refine wpList_mapUpdate_own _ rfl _ _ _ 78 rfl 9 3 (Maps.string_keyed Tryz.underlying9) Tryz.underlying78 (plainElem Tryz.prog 3) (w.heap.size + 1) k D rfl hD1 (by unfold maxLen; omega) _ _ (.string iV.data.toList) rfl rfl (str_key hv) (.lit (.int .i64 (k : Int))) [] (plainElem_int Tryz.underlying3 (nd_fw ⟨by omega, by omega⟩)) ?_; intro w1 hown1 hgrow1)
        have MN : MpAt w1 (w.heap.size + 1) (k + 1) (itemF q.items (k + 1)) := (MpAt.put hD1 hHD.out iV (k : Int) hown1).congr (Nat.le_refl _) (fun s => by
          rw [hHS.out s]
          by_cases e : s = iV
          · rw [if_pos e, e, hHF.out]; simp
          · rw [if_neg e]
            cases hs : itemF q.items k s with
            | some j => rfl
            | none => simp only; rw [if_neg e])
        have GN : Below w.heap.size w w1 := (galloc G _).grown hgrow1 (by have := G.size; simp; omega) (fun r e => by cases e; omega)
        clear hgrow1 hown1 hHD hHS hHF
        go_wp2
        go_roundw
        case rel => exact ⟨k + 1, by omega, by go_num, MN, GN⟩
        case measure => simp [intOf]; omega
    · have hkn : k = q.items.length := by omega
      subst hkn
      go_wp2
      go_ret
      exact ⟨_, rfl, by omega, MP, G⟩

end Go.Proofs.YtnolbpekdikamaaGreatDoor
