/- How a list of tokens that comes in is opened. -/
import Derived.Test.YtlcmfefcammklabDoorJo
import Derived.ChangeArms
import Derived.ChangeSame
import Derived.SizedLaws
import Derived.Lib.SmallJoins
import Derived.WideShapes
namespace Go.Proofs.YtlcmfefcammklabDoor
open Go.ChangeShapes Go.WideShapes Go.ChangeAt Go.RowKit
set_option linter.unusedVariables false
set_option linter.unusedSimpArgs false

theorem wfI {n : Int} (h : (Lit.int .i64 n).wf = true) : -9223372036854775808 ≤ n ∧ n ≤ 9223372036854775807 := by
  have h' : (decide (IntKind.min .i64 ≤ n) && decide (n ≤ IntKind.max .i64)) = true := h
  rw [Bool.and_eq_true, decide_eq_true_eq, decide_eq_true_eq] at h'
  have e1 : IntKind.min .i64 = -9223372036854775808 := by decide +kernel
  have e2 : IntKind.max .i64 = 9223372036854775807 := by decide +kernel
  rw [e1, e2] at h'
  exact h'
theorem add_add (a : Addr) (m j : Nat) : (a.add m).add j = a.add (m + j) := by
  unfold Addr.add
  by_cases hm : m = 0
  · subst hm; simp
  · by_cases hj : j = 0
    · subst hj; simp
    · rw [if_neg hm, if_neg hj, if_neg (by omega)]
      simp [Nat.add_assoc]
theorem bytesTk : Tryd.prog.bytesOf 29 = 40 := by kernel_rfl
theorem cellsTk : Tryd.prog.cellsOf 29 = 4 := by kernel_rfl
theorem weightsAll_mem {H : Type} {P : Program} {e : TypeId} : ∀ {l : List (DataW H)} {d : DataW H}, d ∈ l → ∀ n ∈ d.weights P e, n ∈ DataW.weightsAll P e l
  | d0 :: l, d, hd, n, hn => by
    simp only [DataW.weightsAll, List.mem_append]
    rcases List.mem_cons.1 hd with rfl | hd
    · exact .inl hn
    · exact .inr (weightsAll_mem hd n hn)
/-- A token that may come in. -/
def Tok.fit (t : Tok) : Prop := okN t ∧ t.t.size ≤ 140737488351232
theorem noTok_fit : noTok.fit := ⟨⟨by decide, by decide⟩, by decide⟩

section
variable {H : Type} {enc : TypeId × Value → H} {w : World} {spare : Nat → Bool} {held : Bool}

set_option maxRecDepth 100000 in
theorem open_toks {fuel : Nat} {v : Value} {y : DataW H × List MemPlace} (h : DataW.trod enc Tryd.prog w 0 spare held fuel 23 [v] = some y) (hw : ∀ n ∈ y.1.weights Tryd.prog 23, n ≤ reachBytes) :
    ∃ ao cap ts, v = .slice ao ts.length cap ∧ ts.length ≤ cap ∧ (ao = none → ts.length = 0 ∧ cap = 0) ∧ IsToks w ao ts ∧ ts.length * 40 ≤ 140737488351232 ∧ ∀ k, (ts.getD k noTok).fit := by
  rcases DataW.trod_slice Tryd.underlying23 h with ⟨hcs, _⟩ | ⟨a, len, cap, elems, rest, fu, _, hcs, hx, _, hl, hm, hlen, hel, _, _⟩
  · simp only [List.cons.injEq, and_true] at hcs
    exact ⟨none, 0, [], hcs, Nat.le_refl _, fun _ => ⟨rfl, rfl⟩, fun i hi => by simp at hi, by simp, fun k => by simp; exact noTok_fit⟩
  · simp only [List.cons.injEq, and_true] at hcs
    have hw0 := hw ((elems.map (·.1)).length * 40 + (rest.map (·.1)).length * 40) (by rw [hx]; simp [DataW.weights, Tryd.underlying23, bytesTk, Nat.add_mul])
    have each : ∀ i : Nat, ∃ t : Tok, t.fit ∧ (i < len → w.cell? (a.add (i * 4)) = some (.int .i64 t.k) ∧ w.cell? (a.add (i * 4 + 1)) = some (.string t.t) ∧ w.cell? (a.add (i * 4 + 2)) = some (.int .i64 t.n) ∧ w.cell? (a.add (i * 4 + 3)) = some (.int .i64 t.a)) := by
      intro i
      by_cases hi : i < len
      · have h1 := hel i hi
        rw [cellsTk, List.getElem?_eq_getElem (by omega), Option.bind_eq_some_iff] at h1
        obtain ⟨cs', h2, h3⟩ := h1
        obtain ⟨_, hcl, hce⟩ := World.cells?_some h2
        obtain ⟨c0, c1, c2, c3, rfl⟩ : ∃ c0 c1 c2 c3, cs' = [c0, c1, c2, c3] := by
          match cs', hcl with
          | [c0, c1, c2, c3], _ => exact ⟨c0, c1, c2, c3, rfl⟩
        obtain ⟨y0, y1, y2, y3, m, e1, _, g0, g1, g2, g3⟩ := Joins.trod_struct4 Tryd.underlying29 h3
        have g0' : DataW.trod enc Tryd.prog w 0 spare held m 27 [c0] = some y0 := g0
        have g1' : DataW.trod enc Tryd.prog w 0 spare held m 9 [c1] = some y1 := g1
        have g2' : DataW.trod enc Tryd.prog w 0 spare held m 2 [c2] = some y2 := g2
        have g3' : DataW.trod enc Tryd.prog w 0 spare held m 3 [c3] = some y3 := g3
        obtain ⟨n0, e0, _, w0⟩ := DataW.trod_int Tryd.underlying27 g0'
        obtain ⟨s1, e2, q1, _⟩ := DataW.trod_string Tryd.underlying9 g1'
        obtain ⟨n2, e3, _, w2⟩ := DataW.trod_int Tryd.underlying2 g2'
        obtain ⟨n3, e4, _, w3⟩ := DataW.trod_int Tryd.underlying3 g3'
        simp only [List.cons.injEq, and_true] at e0 e2 e3 e4
        subst e0; subst e2; subst e3; subst e4
        have hmem : (elems[i]'(by omega)).1 ∈ elems.map (·.1) := List.mem_map_of_mem (List.getElem_mem _)
        have hsz : s1.data.toList.length ≤ reachBytes := by
          refine hw _ ?_
          rw [hx]
          simp only [DataW.weights, Tryd.underlying23, List.mem_cons, List.mem_append]
          refine .inr (.inl (weightsAll_mem hmem _ ?_))
          rw [e1]
          simp only [DataW.weights, Tryd.underlying29, DataW.weightsEach, List.mem_append]
          simp [DataW.weightsEach, q1, DataW.weights]
        have hsz2 : s1.data.toList.length = s1.size := Array.length_toList
        unfold reachBytes at hsz
        refine ⟨⟨n0, s1, n2, n3⟩, ⟨wfI w2, by show s1.size ≤ _; omega⟩, fun _ => ?_⟩
        have d0 := hce 0 (by omega)
        have d1 := hce 1 (by omega)
        have d2 := hce 2 (by omega)
        have d3 := hce 3 (by omega)
        rw [add_add] at d0 d1 d2 d3
        exact ⟨by simpa using d0, by simpa using d1, by simpa using d2, by simpa using d3⟩
      · exact ⟨noTok, noTok_fit, fun h => absurd h hi⟩
    obtain ⟨f, hf⟩ : ∃ f : Nat → Tok, ∀ i : Nat, (f i).fit ∧ (i < len → w.cell? (a.add (i * 4)) = some (.int .i64 (f i).k) ∧ w.cell? (a.add (i * 4 + 1)) = some (.string (f i).t) ∧ w.cell? (a.add (i * 4 + 2)) = some (.int .i64 (f i).n) ∧ w.cell? (a.add (i * 4 + 3)) = some (.int .i64 (f i).a)) := ⟨fun j => Classical.choose (each j), fun j => Classical.choose_spec (each j)⟩
    have hget : ∀ j, j < len → ((List.range len).map f).getD j noTok = f j := fun j hj => by simp [List.getD, hj]
    have hlen2 : ((List.range len).map f).length = len := by simp
    refine ⟨some a, cap, (List.range len).map f, by rw [hlen2]; exact hcs, by rw [hlen2]; exact hl, fun e => (by cases e), fun i hi => ?_, ?_, fun j => ?_⟩
    · rw [hlen2] at hi
      obtain ⟨ab, ao, asp⟩ := a
      cases asp with
      | some s => have := World.cell?_spot ((hf 0).2 (by omega)).1; simp [Addr.add] at this
      | none =>
        obtain ⟨e0, e1, e2, e3⟩ := (hf i).2 hi
        rw [hget i hi]
        rw [add_plain] at e0 e1 e2 e3
        simp only [← Nat.add_assoc] at e1 e2 e3
        exact ⟨ab, ao, rfl, e0, e1, e2, e3⟩
    · rw [hlen2]
      unfold reachBytes at hw0
      simp at hw0
      omega
    · by_cases hj : j < len
      · rw [hget j hj]; exact (hf j).1
      · have : ((List.range len).map f).getD j noTok = noTok := by simp [List.getD, hj]
        rw [this]; exact noTok_fit

end

end Go.Proofs.YtlcmfefcammklabDoor
