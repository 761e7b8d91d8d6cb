/- How a schema that comes in is opened: its types, read as data, lie in memory; how long they are. -/
import Derived.Test.YtaiebhfggjljiaaDoorSch
import Derived.ChangeArms
import Derived.ChangeSame
import Derived.SliceStrings
import Derived.SizedLaws
namespace Go.Proofs.YtaiebhfggjljiaaDoor
open Go.ChangeShapes Go.WideShapes Go.ChangeAt Go.RowKit Go.BigFrame
set_option linter.unusedVariables false
set_option linter.unusedSimpArgs false

theorem weightsAll_mem {H : Type} {P : Program} {e : TypeId} : ∀ {l : List (DataW H)} {d : DataW H}, d ∈ l → ∀ n ∈ d.weights P e, n ∈ DataW.weightsAll P e l
  | d0 :: l, d, hd, n, hn => by
    simp only [DataW.weightsAll, List.mem_append]
    rcases List.mem_cons.1 hd with rfl | hd
    · exact .inl hn
    · exact .inr (weightsAll_mem hd n hn)
theorem spot_none {w : World} {a : Addr} {v : Value} (h : w.cell? a = some v) : ∃ b off, a = ⟨b, off, none⟩ := by
  obtain ⟨b, off, spot⟩ := a
  have : spot = none := by simpa using World.cell?_spot h
  subst this
  exact ⟨b, off, rfl⟩
theorem add_add (a : Addr) (m j : Nat) : (a.add m).add j = a.add (m + j) := by
  unfold Addr.add
  by_cases hm : m = 0
  · subst hm; simp
  · by_cases hj : j = 0
    · subst hj; simp
    · rw [if_neg hm, if_neg hj, if_neg (by omega)]
      simp [Nat.add_assoc]
theorem bytesS : Tryd.prog.bytesOf 9 = 16 := by kernel_rfl
theorem bytesT : Tryd.prog.bytesOf 42 = 40 := by kernel_rfl
theorem cellsT : Tryd.prog.cellsOf 42 = 2 := by kernel_rfl
theorem cellsS : Tryd.prog.cellsOf 9 = 1 := by kernel_rfl
theorem cellsL : Tryd.prog.cellsOf 40 = 1 := by kernel_rfl

section
variable {H : Type} {enc : TypeId × Value → H} {w : World} {spare : Nat → Bool} {held : Bool}

theorem open_attrs {fuel : Nat} {v : Value} {y : DataW H × List MemPlace} (h : DataW.trod enc Tryd.prog w 0 spare held fuel 40 [v] = some y) (hw : ∀ n ∈ y.1.weights Tryd.prog 40, n ≤ reachBytes) :
    ∃ ao cap ss, v = .slice ao ss.length cap ∧ ss.length ≤ cap ∧ IsStrs w ao ss.length ss ∧ ss.length * 16 ≤ 140737488351232 := by
  rcases open_strings Tryd.underlying40 Tryd.underlying9 cellsS h with ⟨hcs, _⟩ | ⟨a, len, cap, ss, hcs, _, hl, hm, hlen, hx, hcell, _⟩
  · simp only [List.cons.injEq, and_true] at hcs
    exact ⟨none, 0, [], hcs, by simp, ⟨rfl, by simp, .inl rfl⟩, by simp⟩
  · simp only [List.cons.injEq, and_true] at hcs
    have hge : len ≤ ss.length := by split at hlen <;> omega
    have htl : (ss.take len).length = len := by simp; omega
    refine ⟨some a, cap, ss.take len, by rw [htl]; exact hcs, by omega, ⟨rfl, by unfold maxLen at hm; omega, ?_⟩, ?_⟩
    · rw [htl]
      rcases Nat.eq_zero_or_pos len with h0 | h0
      · exact .inl h0
      obtain ⟨b, off, e⟩ := spot_none (hcell 0 (by omega))
      obtain ⟨ab, ao, asp⟩ := a
      simp only [Addr.add] at e
      refine .inr ⟨ab, ao, ?_, ?_, ?_⟩
      · cases asp with
        | none => rfl
        | some s => have := World.cell?_spot (hcell 0 (by omega)); simp [Addr.add] at this
      · have h5 := lt_of_cell (hcell 0 (by omega))
        cases asp with
        | none => rw [add_plain] at h5; exact h5
        | some s => have := World.cell?_spot (hcell 0 (by omega)); simp [Addr.add] at this
      · intro j hj
        have := hcell j (by omega)
        cases asp with
        | none => rw [add_plain] at this; rw [this]; simp [List.getD, hj]
        | some s => have := World.cell?_spot (hcell 0 (by omega)); simp [Addr.add] at this
    · have := hw ((strs (ss.take len) : List (DataW H)).length * 16 + (strs (ss.drop len) : List (DataW H)).length * 16) (by rw [hx]; simp [DataW.weights, Tryd.underlying40, bytesS, Nat.add_mul])
      unfold reachBytes at this
      simp [strs] at this ⊢
      omega

set_option maxRecDepth 100000 in
theorem open_types {fuel : Nat} {v : Value} {y : DataW H × List MemPlace} (h : DataW.trod enc Tryd.prog w 0 spare held fuel 22 [v] = some y) (hw : ∀ n ∈ y.1.weights Tryd.prog 22, n ≤ reachBytes) :
    ∃ ao n cap L, v = .slice ao n cap ∧ n ≤ cap ∧ IsTypes w ao n L ∧ n * 40 ≤ 140737488351232 ∧ ∀ j, (L.getD j noTy).2.length * 16 ≤ 140737488351232 := by
  rcases DataW.trod_slice Tryd.underlying22 h with ⟨hcs, _⟩ | ⟨a, len, cap, elems, rest, fu, _, hcs, hx, _, hl, hm, hlen, hel, _, _⟩
  · simp only [List.cons.injEq, and_true] at hcs
    exact ⟨none, 0, 0, [], hcs, by simp, ⟨rfl, by simp, .inl rfl⟩, by simp, fun j => by simp [noTy]⟩
  · simp only [List.cons.injEq, and_true] at hcs
    have hw0 := hw ((elems.map (·.1)).length * 40 + (rest.map (·.1)).length * 40) (by rw [hx]; simp [DataW.weights, Tryd.underlying22, bytesT, Nat.add_mul])
    have each : ∀ i, i < len → ∃ t : Ty, w.cell? (a.add (i * 2)) = some (.string t.1) ∧ ∃ aj cj, w.cell? (a.add (i * 2 + 1)) = some (.slice aj t.2.length cj) ∧ t.2.length ≤ cj ∧ IsStrs w aj t.2.length t.2 ∧ t.2.length * 16 ≤ 140737488351232 := by
      intro i hi
      have h1 := hel i hi
      rw [cellsT, List.getElem?_eq_getElem (by omega), Option.bind_eq_some_iff] at h1
      obtain ⟨cs', h2, h3⟩ := h1
      obtain ⟨_, hcl, hce⟩ := World.cells?_some h2
      obtain ⟨y0, y1, m, e1, _, g0, g1⟩ := trod_struct2 Tryd.underlying42 h3
      obtain ⟨c0, c1, rfl⟩ : ∃ c0 c1, cs' = [c0, c1] := by
        match cs', hcl with
        | [c0, c1], _ => exact ⟨c0, c1, rfl⟩
      have g0' : DataW.trod enc Tryd.prog w 0 spare held m 9 [c0] = some y0 := g0
      have g1' : DataW.trod enc Tryd.prog w 0 spare held m 40 [c1] = some y1 := g1
      obtain ⟨s, e2, _, _⟩ := DataW.trod_string Tryd.underlying9 g0'
      simp only [List.cons.injEq, and_true] at e2
      subst e2
      have hmem : (elems[i]'(by omega)).1 ∈ elems.map (·.1) := List.mem_map_of_mem (List.getElem_mem _)
      have hw1 : ∀ n ∈ y1.1.weights Tryd.prog 40, n ≤ reachBytes := fun n hn => by
        refine hw n ?_
        rw [hx]
        simp only [DataW.weights, Tryd.underlying22, List.mem_cons, List.mem_append]
        refine .inr (.inl (weightsAll_mem hmem n ?_))
        rw [e1]
        simp only [DataW.weights, Tryd.underlying42, DataW.weightsEach, List.mem_append]
        simp [DataW.weightsEach, hn]
      obtain ⟨aj, cj, ss, e3, e6, e4, e5⟩ := open_attrs g1' hw1
      subst e3
      have k0 := hce 0 (by omega)
      have k1 := hce 1 (by omega)
      have ad : ∀ j, (a.add (i * 2)).add j = a.add (i * 2 + j) := fun j => add_add a _ j
      rw [ad] at k0 k1
      exact ⟨(s, ss), by simpa using k0, aj, cj, by simpa using k1, e6, e4, e5⟩
    have each' : ∀ i : Nat, ∃ t : Ty, i < len → w.cell? (a.add (i * 2)) = some (.string t.1) ∧ ∃ aj cj, w.cell? (a.add (i * 2 + 1)) = some (.slice aj t.2.length cj) ∧ t.2.length ≤ cj ∧ IsStrs w aj t.2.length t.2 ∧ t.2.length * 16 ≤ 140737488351232 := fun i => by
      by_cases hi : i < len
      · obtain ⟨t, ht⟩ := each i hi; exact ⟨t, fun _ => ht⟩
      · exact ⟨noTy, fun h => absurd h hi⟩
    obtain ⟨f, hf⟩ : ∃ f : Nat → Ty, ∀ i, i < len → w.cell? (a.add (i * 2)) = some (.string (f i).1) ∧ ∃ aj cj, w.cell? (a.add (i * 2 + 1)) = some (.slice aj (f i).2.length cj) ∧ (f i).2.length ≤ cj ∧ IsStrs w aj (f i).2.length (f i).2 ∧ (f i).2.length * 16 ≤ 140737488351232 := ⟨fun j => Classical.choose (each' j), fun j hj => Classical.choose_spec (each' j) hj⟩
    have hget : ∀ j, j < len → ((List.range len).map f).getD j noTy = f j := fun j hj => by simp [List.getD, hj]
    refine ⟨some a, len, cap, (List.range len).map f, hcs, hl, ⟨by simp, by unfold maxLen at hm; omega, ?_⟩, ?_, fun j => ?_⟩
    · rcases Nat.eq_zero_or_pos len with h0 | h0
      · exact .inl h0
      obtain ⟨ab, ao, asp⟩ := a
      cases asp with
      | some s => have := World.cell?_spot (hf 0 h0).1; simp [Addr.add] at this
      | none =>
        refine .inr ⟨ab, ao, rfl, ?_, fun j hj => ?_⟩
        · have h5 := lt_of_cell (hf 0 h0).1
          rw [add_plain] at h5
          exact h5
        · obtain ⟨e1, aj, cj, e2, e6, e3, _⟩ := hf j hj
          rw [hget j hj]
          rw [add_plain] at e1 e2
          exact ⟨e1, aj, cj, by rw [Nat.add_assoc]; exact e2, e6, e3⟩
    · unfold reachBytes at hw0
      simp at hw0
      omega
    · by_cases hj : j < len
      · rw [hget j hj]
        obtain ⟨_, aj, cj, _, _, _, e⟩ := hf j hj
        exact e
      · have : ((List.range len).map f).getD j noTy = noTy := by simp [List.getD, hj]
        rw [this]; decide

end

end Go.Proofs.YtaiebhfggjljiaaDoor
