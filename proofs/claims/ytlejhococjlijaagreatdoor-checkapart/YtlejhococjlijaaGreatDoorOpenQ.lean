/- A query and its spots in memory: how they come in. -/
import Derived.Test.YtlejhococjlijaaGreatDoorNz
import Derived.Test.YtlejhococjlijaaGreatDoorOpenI
import Derived.Test.YtlejhococjlijaaGreatDoorQz0
import Derived.SliceStrings
namespace Go.Proofs.YtlejhococjlijaaGreatDoor
open Go.ChangeShapes Go.WideShapes Go.ChangeAt Go.RowKit Go.BigFrame
set_option linter.unusedVariables false
set_option linter.unusedSimpArgs false

def noIt : It := ⟨false, [], eS, 0, 0⟩
/-- A row of strings in memory. -/
def IsSs (w : World) (ao : Option Addr) (ss : List ByteArray) : Prop := ∀ i, i < ss.length → ∃ g o, ao = some ⟨g, o, none⟩ ∧ w.cell? ⟨g, o + i, none⟩ = some (.string (ss.getD i eS))
theorem IsSs.keep {w u : World} {ao : Option Addr} {ss : List ByteArray} (h : IsSs w ao ss) (G : Below w.heap.size w u) : IsSs u ao ss := fun i hi => by
  obtain ⟨g, o, e, a0⟩ := h i hi
  exact ⟨g, o, e, (G.cell (p := ⟨_, _, none⟩) (lt_of_cell a0)).trans a0⟩
/-- An item in memory. -/
def IsItm (w : World) (g o : Nat) (i : It) : Prop := ∃ ao c, w.cell? ⟨g, o, none⟩ = some (.bool i.neg) ∧ w.cell? ⟨g, o + 1, none⟩ = some (.slice ao i.ty.length c) ∧ w.cell? ⟨g, o + 2, none⟩ = some (.string i.v) ∧ w.cell? ⟨g, o + 3, none⟩ = some (.int .i64 i.lo) ∧ w.cell? ⟨g, o + 4, none⟩ = some (.int .i64 i.hi) ∧ IsSs w ao i.ty ∧ Sl ao i.ty.length c
theorem IsItm.keep {w u : World} {g o : Nat} {i : It} (h : IsItm w g o i) (G : Below w.heap.size w u) : IsItm u g o i := by
  obtain ⟨ao, c, a0, a1, a2, a3, a4, hs, hl⟩ := h
  exact ⟨ao, c, (G.cell (p := ⟨_, _, none⟩) (lt_of_cell a0)).trans a0, (G.cell (p := ⟨_, _, none⟩) (lt_of_cell a1)).trans a1, (G.cell (p := ⟨_, _, none⟩) (lt_of_cell a2)).trans a2, (G.cell (p := ⟨_, _, none⟩) (lt_of_cell a3)).trans a3, (G.cell (p := ⟨_, _, none⟩) (lt_of_cell a4)).trans a4, hs.keep G, hl⟩
def IsIts (w : World) (ao : Option Addr) (l : List It) : Prop := ∀ i, i < l.length → ∃ g o, ao = some ⟨g, o, none⟩ ∧ IsItm w g (o + i * 5) (l.getD i noIt)
theorem IsIts.keep {w u : World} {ao : Option Addr} {l : List It} (h : IsIts w ao l) (G : Below w.heap.size w u) : IsIts u ao l := fun i hi => by
  obtain ⟨g, o, e, a0⟩ := h i hi
  exact ⟨g, o, e, a0.keep G⟩
/-- A row of rows of nodes. -/
def IsNss (w : World) (ao : Option Addr) (l : List (List Nd)) : Prop := ∀ i, i < l.length → ∃ g o a c, ao = some ⟨g, o, none⟩ ∧ w.cell? ⟨g, o + i, none⟩ = some (.slice a (l.getD i []).length c) ∧ IsNds w a (l.getD i []) ∧ Sl a (l.getD i []).length c
theorem IsNss.keep {w u : World} {ao : Option Addr} {l : List (List Nd)} (h : IsNss w ao l) (G : Below w.heap.size w u) : IsNss u ao l := fun i hi => by
  obtain ⟨g, o, a, c, e, a0, hs, hl⟩ := h i hi
  exact ⟨g, o, a, c, e, (G.cell (p := ⟨_, _, none⟩) (lt_of_cell a0)).trans a0, hs.keep G, hl⟩
def IsIss (w : World) (ao : Option Addr) (l : List (List Int)) : Prop := ∀ i, i < l.length → ∃ g o a c, ao = some ⟨g, o, none⟩ ∧ w.cell? ⟨g, o + i, none⟩ = some (.slice a (l.getD i []).length c) ∧ IsInts w a (l.getD i []) ∧ Sl a (l.getD i []).length c
theorem IsIss.keep {w u : World} {ao : Option Addr} {l : List (List Int)} (h : IsIss w ao l) (G : Below w.heap.size w u) : IsIss u ao l := fun i hi => by
  obtain ⟨g, o, a, c, e, a0, hs, hl⟩ := h i hi
  exact ⟨g, o, a, c, e, (G.cell (p := ⟨_, _, none⟩) (lt_of_cell a0)).trans a0, hs.keep G, hl⟩
/-- A query in memory, by value. -/
structure IsQ (w : World) (q : Qy) (cs : Array Value) (ai : Option Addr) (ci : Nat) (aw : Option Addr) (cw : Nat) (ar : Option Addr) (cr : Nat) : Prop where
  eq : cs = #[.slice ai q.items.length ci, .int .i64 q.mode, .int .i64 q.after, .slice aw q.wh.length cw, .int .i64 q.within, .string q.by_, .slice ar q.ret.length cr]
  its : IsIts w ai q.items
  wh : IsNds w aw q.wh
  ret : IsNss w ar q.ret
  si : Sl ai q.items.length ci
  sw : Sl aw q.wh.length cw
  sr : Sl ar q.ret.length cr
theorem IsQ.keep {w u : World} {q : Qy} {cs : Array Value} {ai : Option Addr} {ci : Nat} {aw : Option Addr} {cw : Nat} {ar : Option Addr} {cr : Nat} (h : IsQ w q cs ai ci aw cw ar cr) (G : Below w.heap.size w u) : IsQ u q cs ai ci aw cw ar cr := ⟨h.eq, h.its.keep G, h.wh.keep G, h.ret.keep G, h.si, h.sw, h.sr⟩
structure IsSp (w : World) (s : Sps) (cs : Array Value) (ai : Option Addr) (ci : Nat) (aw : Option Addr) (cw : Nat) (ar : Option Addr) (cr : Nat) : Prop where
  eq : cs = #[.slice ai s.items.length ci, .slice aw s.wh.length cw, .int .i64 s.within, .int .i64 s.by_, .slice ar s.ret.length cr]
  its : IsInts w ai s.items
  wh : IsInts w aw s.wh
  ret : IsIss w ar s.ret
  si : Sl ai s.items.length ci
  sw : Sl aw s.wh.length cw
  sr : Sl ar s.ret.length cr
theorem IsSp.keep {w u : World} {q : Sps} {cs : Array Value} {ai : Option Addr} {ci : Nat} {aw : Option Addr} {cw : Nat} {ar : Option Addr} {cr : Nat} (h : IsSp w q cs ai ci aw cw ar cr) (G : Below w.heap.size w u) : IsSp u q cs ai ci aw cw ar cr := ⟨h.eq, h.its.keep G, h.wh.keep G, h.ret.keep G, h.si, h.sw, h.sr⟩
/-- An item that may come in. -/
structure It.fit (i : It) : Prop where
  lo : fI i.lo
  hi : fI i.hi
  v : i.v.size ≤ 140737488351232
  n : i.ty.length * 16 ≤ 140737488351232
  s : ∀ k, (i.ty.getD k eS).size ≤ 140737488351232
theorem eS_small : eS.size ≤ 140737488351232 := by decide
theorem noIt_fit : noIt.fit := ⟨⟨by decide, by decide⟩, ⟨by decide, by decide⟩, by decide, by decide, fun k => by simp [noIt]; exact eS_small⟩
/-- Trees that may come in. -/
def ndsFit (ns : List Nd) : Prop := ns.length * 64 ≤ 140737488351232 ∧ ∀ k, (ns.getD k noNd).fit
structure Qy.fit (q : Qy) : Prop where
  n : q.items.length * 64 ≤ 140737488351232
  its : ∀ k, (q.items.getD k noIt).fit
  mode : fI q.mode
  after : fI q.after
  within : fI q.within
  by_ : q.by_.size ≤ 140737488351232
  wh : ndsFit q.wh
  r : q.ret.length * 24 ≤ 140737488351232
  ret : ∀ k, ndsFit (q.ret.getD k [])
structure Sps.fit (s : Sps) : Prop where
  n : s.items.length * 8 ≤ 140737488351232
  w : s.wh.length * 8 ≤ 140737488351232
  r : s.ret.length * 24 ≤ 140737488351232
  ret : ∀ k, (s.ret.getD k []).length * 8 ≤ 140737488351232
  within : fI s.within
  by_ : fI s.by_
theorem bytesStr : Tryz.prog.bytesOf 9 = 16 := by kernel_rfl
theorem cellsStr : Tryz.prog.cellsOf 9 = 1 := by kernel_rfl
theorem spotless {w : World} {a : Addr} {v : Value} (h : w.cell? (a.add 0) = some v) : ∃ b off, a = ⟨b, off, none⟩ := by
  obtain ⟨b, off, spot⟩ := a
  cases spot with
  | none => exact ⟨b, off, rfl⟩
  | some s => have := World.cell?_spot h; simp [Addr.add] at this
section
variable {H : Type} {enc : TypeId × Value → H} {w : World} {spare : Nat → Bool} {held : Bool}

theorem open_ss {fuel : Nat} {v : Value} {y : DataW H × List MemPlace} (h : DataW.trod enc Tryz.prog w 0 spare held fuel 57 [v] = some y) (hw : ∀ n ∈ y.1.weights Tryz.prog 57, n ≤ reachBytes) :
    ∃ ao cap ss, v = .slice ao ss.length cap ∧ Sl ao ss.length cap ∧ IsSs w ao ss ∧ ss.length * 16 ≤ 140737488351232 ∧ ∀ k, (ss.getD k eS).size ≤ 140737488351232 := by
  rcases open_strings Tryz.underlying57 Tryz.underlying9 cellsStr h with ⟨hcs, _⟩ | ⟨a, len, cap, ss, hcs, _, hl, hm, hlen, hx, hcell, _⟩
  · simp only [List.cons.injEq, and_true] at hcs
    exact ⟨none, 0, [], hcs, ⟨Nat.le_refl _, fun _ => ⟨rfl, rfl⟩⟩, fun i hi => by simp at hi, by simp, fun k => by simp; exact eS_small⟩
  · simp only [List.cons.injEq, and_true] at hcs
    have hge : len ≤ ss.length := by split at hlen <;> omega
    have htl : (ss.take len).length = len := by simp; omega
    have hw0 := hw ((strs (ss.take len) : List (DataW H)).length * 16 + (strs (ss.drop len) : List (DataW H)).length * 16) (by rw [hx]; simp [DataW.weights, Tryz.underlying57, bytesStr, Nat.add_mul])
    have hbig : len * 16 ≤ 140737488351232 := by
      unfold reachBytes at hw0
      simp [strs] at hw0
      omega
    refine ⟨some a, cap, ss.take len, by rw [htl]; exact hcs, ⟨by omega, fun e => by cases e⟩, fun i hi => ?_, by rw [htl]; exact hbig, fun k => ?_⟩
    · rw [htl] at hi
      have h1 := hcell i (by omega)
      obtain ⟨b, off, rfl⟩ := spotless (hcell 0 (by omega))
      rw [add_plain] at h1
      refine ⟨b, off, rfl, ?_⟩
      rw [h1, List.getD_eq_getElem?_getD, List.getD_eq_getElem?_getD, List.getElem?_take, if_pos hi]
      rfl
    · rw [List.getD_eq_getElem?_getD]
      cases hk : (ss.take len)[k]? with
      | none => simp; exact eS_small
      | some s =>
        have hmem : s ∈ ss.take len := List.mem_of_getElem? hk
        have h5 : s.data.toList.length ≤ reachBytes := by
          refine hw _ ?_
          rw [hx]
          simp only [DataW.weights, Tryz.underlying57, List.mem_cons, List.mem_append]
          refine .inr (.inl (nd_weights (d := .lit (.string s.data.toList)) ?_ _ ?_))
          · unfold strs
            exact List.mem_map.2 ⟨s, hmem, rfl⟩
          · simp [DataW.weights]
        have h6 : s.data.toList.length = s.size := Array.length_toList
        unfold reachBytes at h5
        simp
        omega
end

end Go.Proofs.YtlejhococjlijaaGreatDoor
