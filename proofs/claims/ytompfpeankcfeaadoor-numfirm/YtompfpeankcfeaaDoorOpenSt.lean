/- How a line of steps that comes in is opened. -/
import Derived.Test.YtompfpeankcfeaaDoorBase
import Derived.ChangeArms
import Derived.ChangeSame
import Derived.SizedLaws
import Derived.Lib.SmallJoins
import Derived.WideShapes
namespace Go.Proofs.YtompfpeankcfeaaDoor
open Go.ChangeShapes Go.WideShapes Go.ChangeAt Go.RowKit
set_option linter.unusedVariables false
set_option linter.unusedSimpArgs false

structure Stp where
  op : Int
  i : Int
  j : Int
  v : Bool × Int
def noS : Stp := ⟨0, 0, 0, (false, 0)⟩
def Stp.fit (s : Stp) : Prop := fitsB s.op = true ∧ fitsB s.i = true ∧ fitsB s.j = true ∧ fitsB s.v.2 = true
/-- The slice that begins at ao with n elements holds the steps st. -/
def IsSteps (w : World) (ao : Option Addr) (n : Nat) (st : List Stp) : Prop :=
  st.length = n ∧ n ≤ 9223372036854775807 ∧ (∀ j, (st.getD j noS).fit) ∧
    (n = 0 ∨ ∃ b off, ao = some ⟨b, off, none⟩ ∧ b < w.heap.size ∧ ∀ j, j < n → w.cell? ⟨b, off + j * 5, none⟩ = some (.int .i64 (st.getD j noS).op) ∧ w.cell? ⟨b, off + j * 5 + 1, none⟩ = some (.int .i64 (st.getD j noS).i) ∧
      w.cell? ⟨b, off + j * 5 + 2, none⟩ = some (.int .i64 (st.getD j noS).j) ∧ w.cell? ⟨b, off + j * 5 + 3, none⟩ = some (.bool (st.getD j noS).v.1) ∧ w.cell? ⟨b, off + j * 5 + 4, none⟩ = some (.int .i64 (st.getD j noS).v.2))
theorem IsSteps.keep {w u : World} {ao : Option Addr} {n : Nat} {st : List Stp} (h : IsSteps w ao n st) (G : Below w.heap.size w u) : IsSteps u ao n st := by
  obtain ⟨h1, h2, h3, h4⟩ := h
  refine ⟨h1, h2, h3, ?_⟩
  rcases h4 with h4 | ⟨b, off, e, hb, hc⟩
  · exact .inl h4
  · refine .inr ⟨b, off, e, Nat.lt_of_lt_of_le hb G.size, fun j hj => ?_⟩
    obtain ⟨c0, c1, c2, c3, c4⟩ := hc j hj
    exact ⟨(G.cell (p := ⟨b, off + j * 5, none⟩) hb).trans c0, (G.cell (p := ⟨b, off + j * 5 + 1, none⟩) hb).trans c1, (G.cell (p := ⟨b, off + j * 5 + 2, none⟩) hb).trans c2, (G.cell (p := ⟨b, off + j * 5 + 3, none⟩) hb).trans c3, (G.cell (p := ⟨b, off + j * 5 + 4, none⟩) hb).trans c4⟩

theorem add_add (a : Addr) (m j : Nat) : (a.add m).add j = a.add (m + j) := by
  unfold Addr.add
  by_cases hm : m = 0
  · subst hm; simp
  · by_cases hj : j = 0
    · subst hj; simp
    · rw [if_neg hm, if_neg hj, if_neg (by omega)]
      simp [Nat.add_assoc]
theorem lt_of_cell5 {w : World} {p : Addr} {v : Value} (h : w.cell? p = some v) : p.block < w.heap.size := by
  rcases Nat.lt_or_ge p.block w.heap.size with h' | h'
  · exact h'
  · simp [World.cell?, Array.getElem?_eq_none h'] at h
theorem bytesSt : Tryd.prog.bytesOf 31 = 40 := by kernel_rfl
theorem cellsSt : Tryd.prog.cellsOf 31 = 5 := by kernel_rfl
theorem noS_fit : noS.fit := by unfold noS Stp.fit; decide

section
variable {H : Type} {enc : TypeId × Value → H} {w : World} {spare : Nat → Bool} {held : Bool}

theorem open_steps {fuel : Nat} {v : Value} {y : DataW H × List MemPlace} (h : DataW.trod enc Tryd.prog w 0 spare held fuel 22 [v] = some y) (hw : ∀ n ∈ y.1.weights Tryd.prog 22, n ≤ reachBytes) :
    ∃ ao n cap st, v = .slice ao n cap ∧ IsSteps w ao n st ∧ n * 40 ≤ 140737488351232 := by
  rcases DataW.trod_slice Tryd.underlying22 h with ⟨hcs, _⟩ | ⟨a, len, cap, elems, rest, fu, _, hcs, hx, _, hl, hm, hlen, hel, _, _⟩
  · simp only [List.cons.injEq, and_true] at hcs
    exact ⟨none, 0, 0, [], hcs, ⟨rfl, by simp, fun j => by simp; exact noS_fit, .inl rfl⟩, by simp⟩
  · simp only [List.cons.injEq, and_true] at hcs
    have hw0 := hw ((elems.map (·.1)).length * 40 + (rest.map (·.1)).length * 40) (by rw [hx]; simp [DataW.weights, Tryd.underlying22, bytesSt, Nat.add_mul])
    have each : ∀ i : Nat, ∃ t : Stp, t.fit ∧ (i < len → w.cell? (a.add (i * 5)) = some (.int .i64 t.op) ∧ w.cell? (a.add (i * 5 + 1)) = some (.int .i64 t.i) ∧ w.cell? (a.add (i * 5 + 2)) = some (.int .i64 t.j) ∧ w.cell? (a.add (i * 5 + 3)) = some (.bool t.v.1) ∧ w.cell? (a.add (i * 5 + 4)) = some (.int .i64 t.v.2)) := by
      intro i
      by_cases hi : i < len
      · have h1 := hel i hi
        rw [cellsSt, List.getElem?_eq_getElem (by omega), Option.bind_eq_some_iff] at h1
        obtain ⟨cs', h2, h3⟩ := h1
        obtain ⟨_, hcl, hce⟩ := World.cells?_some h2
        obtain ⟨c0, c1, c2, c3, c4, rfl⟩ : ∃ c0 c1 c2 c3 c4, cs' = [c0, c1, c2, c3, c4] := by
          match cs', hcl with
          | [c0, c1, c2, c3, c4], _ => exact ⟨c0, c1, c2, c3, c4, rfl⟩
        obtain ⟨y0, y1, y2, y3, m, _, _, g0, g1, g2, g3⟩ := Joins.trod_struct4 Tryd.underlying31 h3
        have g0' : DataW.trod enc Tryd.prog w 0 spare held m 3 [c0] = some y0 := g0
        have g1' : DataW.trod enc Tryd.prog w 0 spare held m 3 [c1] = some y1 := g1
        have g2' : DataW.trod enc Tryd.prog w 0 spare held m 3 [c2] = some y2 := g2
        have g3' : DataW.trod enc Tryd.prog w 0 spare held m 25 [c3, c4] = some y3 := g3
        obtain ⟨z3, z4, m2, _, _, k0, k1⟩ := trod_struct2 Tryd.underlying25 g3'
        have k0' : DataW.trod enc Tryd.prog w 0 spare held m2 4 [c3] = some z3 := k0
        have k1' : DataW.trod enc Tryd.prog w 0 spare held m2 2 [c4] = some z4 := k1
        obtain ⟨n0, e0, _, w0⟩ := DataW.trod_int Tryd.underlying3 g0'
        obtain ⟨n1, e1, _, w1⟩ := DataW.trod_int Tryd.underlying3 g1'
        obtain ⟨n2, e2, _, w2⟩ := DataW.trod_int Tryd.underlying3 g2'
        obtain ⟨n3, e3, _⟩ := DataW.trod_bool Tryd.underlying4 k0'
        obtain ⟨n4, e4, _, w4⟩ := DataW.trod_int Tryd.underlying2 k1'
        simp only [List.cons.injEq, and_true] at e0 e1 e2 e3 e4
        subst e0; subst e1; subst e2; subst e3; subst e4
        refine ⟨⟨n0, n1, n2, (n3, n4)⟩, ⟨fits_wf w0, fits_wf w1, fits_wf w2, fits_wf w4⟩, fun _ => ?_⟩
        have d0 := hce 0 (by omega)
        have d1 := hce 1 (by omega)
        have d2 := hce 2 (by omega)
        have d3 := hce 3 (by omega)
        have d4 := hce 4 (by omega)
        rw [add_add] at d0 d1 d2 d3 d4
        exact ⟨by simpa using d0, by simpa using d1, by simpa using d2, by simpa using d3, by simpa using d4⟩
      · exact ⟨noS, noS_fit, fun h => absurd h hi⟩
    obtain ⟨f, hf⟩ : ∃ f : Nat → Stp, ∀ i : Nat, (f i).fit ∧ (i < len → w.cell? (a.add (i * 5)) = some (.int .i64 (f i).op) ∧ w.cell? (a.add (i * 5 + 1)) = some (.int .i64 (f i).i) ∧ w.cell? (a.add (i * 5 + 2)) = some (.int .i64 (f i).j) ∧ w.cell? (a.add (i * 5 + 3)) = some (.bool (f i).v.1) ∧ w.cell? (a.add (i * 5 + 4)) = some (.int .i64 (f i).v.2)) := ⟨fun j => Classical.choose (each j), fun j => Classical.choose_spec (each j)⟩
    have hget : ∀ j, j < len → ((List.range len).map f).getD j noS = f j := fun j hj => by simp [List.getD, hj]
    refine ⟨some a, len, cap, (List.range len).map f, hcs, ⟨by simp, by unfold maxLen at hm; omega, fun j => ?_, ?_⟩, ?_⟩
    · by_cases hj : j < len
      · rw [hget j hj]; exact (hf j).1
      · have : ((List.range len).map f).getD j noS = noS := by simp [List.getD, hj]
        rw [this]; exact noS_fit
    · rcases Nat.eq_zero_or_pos len with h0 | h0
      · exact .inl h0
      obtain ⟨ab, ao, asp⟩ := a
      cases asp with
      | some s => have := World.cell?_spot ((hf 0).2 h0).1; simp [Addr.add] at this
      | none =>
        refine .inr ⟨ab, ao, rfl, ?_, fun j hj => ?_⟩
        · have h5 := lt_of_cell5 ((hf 0).2 h0).1
          rw [add_plain] at h5
          exact h5
        · obtain ⟨e0, e1, e2, e3, e4⟩ := (hf j).2 hj
          rw [hget j hj]
          rw [add_plain] at e0 e1 e2 e3 e4
          simp only [← Nat.add_assoc] at e1 e2 e3 e4
          exact ⟨e0, e1, e2, e3, e4⟩
    · unfold reachBytes at hw0
      simp at hw0
      omega

end

end Go.Proofs.YtompfpeankcfeaaDoor
