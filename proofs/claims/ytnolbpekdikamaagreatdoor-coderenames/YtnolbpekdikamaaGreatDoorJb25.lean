/- How a schema that comes in is opened: its types, read as data, lie in memory; how long they are. And what goes with it: 4 texts in one. -/
import Derived.Test.YtnolbpekdikamaaGreatDoorJb24
import Derived.ChangeArms
import Derived.ChangeSame
import Derived.SliceStrings
import Derived.SizedLaws
import Derived.Lib.SmallJoins
import Derived.WideShapes
import Derived.OpenShut
import Derived.Lib.LaidTab
namespace Go.Proofs.YtnolbpekdikamaaGreatDoor
open Go.ChangeShapes Go.WideShapes Go.ChangeAt Go.RowKit Go.BigFrame
set_option linter.unusedVariables false
set_option linter.unusedSimpArgs false

theorem weightsAll_mem {H : Type} {P : Program} {e : TypeId} : ∀ {l : List (DataW H)} {d : DataW H}, d ∈ l → ∀ n ∈ d.weights P e, n ∈ DataW.weightsAll P e l
  | d0 :: l, d, hd, n, hn => by
    simp only [DataW.weightsAll, List.mem_append]
    rcases List.mem_cons.1 hd with rfl | hd
    · exact .inl hn
    · exact .inr (weightsAll_mem hd n hn)
theorem spot_none {w : World} {a : Addr} {v : Value} (h : w.cell? a = some v) : ∃ b off, a = ⟨b, off, none⟩ := by
  obtain ⟨b, off, spot⟩ := a
  have : spot = none := by simpa using World.cell?_spot h
  subst this
  exact ⟨b, off, rfl⟩
theorem add_add (a : Addr) (m j : Nat) : (a.add m).add j = a.add (m + j) := by
  unfold Addr.add
  by_cases hm : m = 0
  · subst hm; simp
  · by_cases hj : j = 0
    · subst hj; simp
    · rw [if_neg hm, if_neg hj, if_neg (by omega)]
      simp [Nat.add_assoc]
theorem bytesS : Tryz.prog.bytesOf 9 = 16 := by kernel_rfl
theorem bytesT : Tryz.prog.bytesOf 67 = 40 := by kernel_rfl
theorem cellsT : Tryz.prog.cellsOf 67 = 2 := by kernel_rfl
theorem cellsS : Tryz.prog.cellsOf 9 = 1 := by kernel_rfl
theorem cellsL : Tryz.prog.cellsOf 65 = 1 := by kernel_rfl

section
variable {H : Type} {enc : TypeId × Value → H} {w : World} {spare : Nat → Bool} {held : Bool}

theorem open_attrs {fuel : Nat} {v : Value} {y : DataW H × List MemPlace} (h : DataW.trod enc Tryz.prog w 0 spare held fuel 65 [v] = some y) (hw : ∀ n ∈ y.1.weights Tryz.prog 65, n ≤ reachBytes) :
    ∃ ao cap ss, v = .slice ao ss.length cap ∧ ss.length ≤ cap ∧ IsStrs w ao ss.length ss ∧ ss.length * 16 ≤ 140737488351232 := by
  rcases open_strings Tryz.underlying65 Tryz.underlying9 cellsS h with ⟨hcs, _⟩ | ⟨a, len, cap, ss, hcs, _, hl, hm, hlen, hx, hcell, _⟩
  · simp only [List.cons.injEq, and_true] at hcs
    exact ⟨none, 0, [], hcs, by simp, ⟨rfl, by simp, .inl rfl⟩, by simp⟩
  · simp only [List.cons.injEq, and_true] at hcs
    have hge : len ≤ ss.length := by split at hlen <;> omega
    have htl : (ss.take len).length = len := by simp; omega
    refine ⟨some a, cap, ss.take len, by rw [htl]; exact hcs, by omega, ⟨rfl, by unfold maxLen at hm; omega, ?_⟩, ?_⟩
    · rw [htl]
      rcases Nat.eq_zero_or_pos len with h0 | h0
      · exact .inl h0
      obtain ⟨b, off, e⟩ := spot_none (hcell 0 (by omega))
      obtain ⟨ab, ao, asp⟩ := a
      simp only [Addr.add] at e
      refine .inr ⟨ab, ao, ?_, ?_, ?_⟩
      · cases asp with
        | none => rfl
        | some s => have := World.cell?_spot (hcell 0 (by omega)); simp [Addr.add] at this
      · have h5 := lt_of_cell (hcell 0 (by omega))
        cases asp with
        | none => rw [add_plain] at h5; exact h5
        | some s => have := World.cell?_spot (hcell 0 (by omega)); simp [Addr.add] at this
      · intro j hj
        have := hcell j (by omega)
        cases asp with
        | none => rw [add_plain] at this; rw [this]; simp [List.getD, hj]
        | some s => have := World.cell?_spot (hcell 0 (by omega)); simp [Addr.add] at this
    · have := hw ((strs (ss.take len) : List (DataW H)).length * 16 + (strs (ss.drop len) : List (DataW H)).length * 16) (by rw [hx]; simp [DataW.weights, Tryz.underlying65, bytesS, Nat.add_mul])
      unfold reachBytes at this
      simp [strs] at this ⊢
      omega

set_option maxRecDepth 100000 in
theorem open_types {fuel : Nat} {v : Value} {y : DataW H × List MemPlace} (h : DataW.trod enc Tryz.prog w 0 spare held fuel 22 [v] = some y) (hw : ∀ n ∈ y.1.weights Tryz.prog 22, n ≤ reachBytes) :
    ∃ ao n cap L, v = .slice ao n cap ∧ n ≤ cap ∧ IsTypes w ao n L ∧ n * 40 ≤ 140737488351232 ∧ ∀ j, (L.getD j noTy).2.length * 16 ≤ 140737488351232 := by
  rcases DataW.trod_slice Tryz.underlying22 h with ⟨hcs, _⟩ | ⟨a, len, cap, elems, rest, fu, _, hcs, hx, _, hl, hm, hlen, hel, _, _⟩
  · simp only [List.cons.injEq, and_true] at hcs
    exact ⟨none, 0, 0, [], hcs, by simp, ⟨rfl, by simp, .inl rfl⟩, by simp, fun j => by simp [noTy]⟩
  · simp only [List.cons.injEq, and_true] at hcs
    have hw0 := hw ((elems.map (·.1)).length * 40 + (rest.map (·.1)).length * 40) (by rw [hx]; simp [DataW.weights, Tryz.underlying22, bytesT, Nat.add_mul])
    have each : ∀ i, i < len → ∃ t : Ty, w.cell? (a.add (i * 2)) = some (.string t.1) ∧ ∃ aj cj, w.cell? (a.add (i * 2 + 1)) = some (.slice aj t.2.length cj) ∧ t.2.length ≤ cj ∧ IsStrs w aj t.2.length t.2 ∧ t.2.length * 16 ≤ 140737488351232 := by
      intro i hi
      have h1 := hel i hi
      rw [cellsT, List.getElem?_eq_getElem (by omega), Option.bind_eq_some_iff] at h1
      obtain ⟨cs', h2, h3⟩ := h1
      obtain ⟨_, hcl, hce⟩ := World.cells?_some h2
      obtain ⟨y0, y1, m, e1, _, g0, g1⟩ := trod_struct2 Tryz.underlying67 h3
      obtain ⟨c0, c1, rfl⟩ : ∃ c0 c1, cs' = [c0, c1] := by
        match cs', hcl with
        | [c0, c1], _ => exact ⟨c0, c1, rfl⟩
      have g0' : DataW.trod enc Tryz.prog w 0 spare held m 9 [c0] = some y0 := g0
      have g1' : DataW.trod enc Tryz.prog w 0 spare held m 65 [c1] = some y1 := g1
      obtain ⟨s, e2, _, _⟩ := DataW.trod_string Tryz.underlying9 g0'
      simp only [List.cons.injEq, and_true] at e2
      subst e2
      have hmem : (elems[i]'(by omega)).1 ∈ elems.map (·.1) := List.mem_map_of_mem (List.getElem_mem _)
      have hw1 : ∀ n ∈ y1.1.weights Tryz.prog 65, n ≤ reachBytes := fun n hn => by
        refine hw n ?_
        rw [hx]
        simp only [DataW.weights, Tryz.underlying22, List.mem_cons, List.mem_append]
        refine .inr (.inl (weightsAll_mem hmem n ?_))
        rw [e1]
        simp only [DataW.weights, Tryz.underlying67, DataW.weightsEach, List.mem_append]
        simp [DataW.weightsEach, hn]
      obtain ⟨aj, cj, ss, e3, e6, e4, e5⟩ := open_attrs g1' hw1
      subst e3
      have k0 := hce 0 (by omega)
      have k1 := hce 1 (by omega)
      have ad : ∀ j, (a.add (i * 2)).add j = a.add (i * 2 + j) := fun j => add_add a _ j
      rw [ad] at k0 k1
      exact ⟨(s, ss), by simpa using k0, aj, cj, by simpa using k1, e6, e4, e5⟩
    have each' : ∀ i : Nat, ∃ t : Ty, i < len → w.cell? (a.add (i * 2)) = some (.string t.1) ∧ ∃ aj cj, w.cell? (a.add (i * 2 + 1)) = some (.slice aj t.2.length cj) ∧ t.2.length ≤ cj ∧ IsStrs w aj t.2.length t.2 ∧ t.2.length * 16 ≤ 140737488351232 := fun i => by
      by_cases hi : i < len
      · obtain ⟨t, ht⟩ := each i hi; exact ⟨t, fun _ => ht⟩
      · exact ⟨noTy, fun h => absurd h hi⟩
    obtain ⟨f, hf⟩ : ∃ f : Nat → Ty, ∀ i, i < len → w.cell? (a.add (i * 2)) = some (.string (f i).1) ∧ ∃ aj cj, w.cell? (a.add (i * 2 + 1)) = some (.slice aj (f i).2.length cj) ∧ (f i).2.length ≤ cj ∧ IsStrs w aj (f i).2.length (f i).2 ∧ (f i).2.length * 16 ≤ 140737488351232 := ⟨fun j => Classical.choose (each' j), fun j hj => Classical.choose_spec (each' j) hj⟩
    have hget : ∀ j, j < len → ((List.range len).map f).getD j noTy = f j := fun j hj => by simp [List.getD, hj]
    refine ⟨some a, len, cap, (List.range len).map f, hcs, hl, ⟨by simp, by unfold maxLen at hm; omega, ?_⟩, ?_, fun j => ?_⟩
    · rcases Nat.eq_zero_or_pos len with h0 | h0
      · exact .inl h0
      obtain ⟨ab, ao, asp⟩ := a
      cases asp with
      | some s => have := World.cell?_spot (hf 0 h0).1; simp [Addr.add] at this
      | none =>
        refine .inr ⟨ab, ao, rfl, ?_, fun j hj => ?_⟩
        · have h5 := lt_of_cell (hf 0 h0).1
          rw [add_plain] at h5
          exact h5
        · obtain ⟨e1, aj, cj, e2, e6, e3, _⟩ := hf j hj
          rw [hget j hj]
          rw [add_plain] at e1 e2
          exact ⟨e1, aj, cj, by rw [Nat.add_assoc]; exact e2, e6, e3⟩
    · unfold reachBytes at hw0
      simp at hw0
      omega
    · by_cases hj : j < len
      · rw [hget j hj]
        obtain ⟨_, aj, cj, _, _, _, e⟩ := hf j hj
        exact e
      · have : ((List.range len).map f).getD j noTy = noTy := by simp [List.getD, hj]
        rw [this]; decide

end

end Go.Proofs.YtnolbpekdikamaaGreatDoor
namespace Go.Proofs.YtnolbpekdikamaaGreatDoor
open Go.ChangeShapes Go.WideShapes Go.ChangeAt Go.RowKit Go.BigFrame
set_option linter.unusedVariables false
set_option linter.unusedSimpArgs false

theorem nd_add7 (a : Addr) (m j : Nat) : (a.add m).add j = a.add (m + j) := by
  unfold Addr.add
  by_cases hm : m = 0
  · subst hm; simp
  · by_cases hj : j = 0
    · subst hj; simp
    · rw [if_neg hm, if_neg hj, if_neg (by omega)]
      simp [Nat.add_assoc]
theorem nd_weights7 {H : Type} {P : Program} {e : TypeId} : ∀ {l : List (DataW H)} {d : DataW H}, d ∈ l → ∀ n ∈ d.weights P e, n ∈ DataW.weightsAll P e l
  | d :: l, _, .head _ => fun n hn => by simp [DataW.weightsAll, hn]
  | d :: l, _, .tail _ h => fun n hn => by simp [DataW.weightsAll, nd_weights7 h n hn]
theorem spotless7 {w : World} {a : Addr} {v : Value} (h : w.cell? (a.add 0) = some v) : ∃ b off, a = ⟨b, off, none⟩ := by
  obtain ⟨b, off, spot⟩ := a
  cases spot with
  | none => exact ⟨b, off, rfl⟩
  | some s => have := World.cell?_spot h; simp [Addr.add] at this
section
variable {H : Type} {enc : TypeId × Value → H} {w : World} {spare : Nat → Bool} {held : Bool}
/-- A row whose elements can each be opened. -/
theorem open_row {β : Type} {P : Program} {TS T : TypeId} {sz by_ : Nat} (hu : P.underlying TS = some (.slice T)) (hby : P.bytesOf T = by_) (hcs : P.cellsOf T = sz) (hsz : 0 < sz) (cv : β → Array Value) (hc : ∀ x, (cv x).size = sz) (z : β) (ok : β → Prop) (hz : ok z)
    (el : ∀ {fuel : Nat} {cs : List Value} {y : DataW H × List MemPlace}, cs.length = sz → DataW.trod enc P w 0 spare held fuel T cs = some y → (∀ n ∈ y.1.weights P T, n ≤ reachBytes) → ∃ t : β, ok t ∧ cs = (cv t).toList)
    {fuel : Nat} {v : Value} {y : DataW H × List MemPlace} (h : DataW.trod enc P w 0 spare held fuel TS [v] = some y) (hw : ∀ n ∈ y.1.weights P TS, n ≤ reachBytes) :
    ∃ ao cap l, v = .slice ao (l : List β).length cap ∧ Sl ao l.length cap ∧ Flat w ao (fl cv l) ∧ l.length * by_ ≤ 140737488351232 ∧ ∀ k, ok (l.getD k z) := by
  rcases DataW.trod_slice hu h with ⟨hcs', _⟩ | ⟨a, len, cap, elems, rest, fu, _, hcs', hx, _, hl, hm, hlen, hel, _, _⟩
  · simp only [List.cons.injEq, and_true] at hcs'
    exact ⟨none, 0, [], hcs', ⟨Nat.le_refl _, fun _ => ⟨rfl, rfl⟩⟩, Flat.nil _ _, by simp, fun k => by simpa using hz⟩
  · simp only [List.cons.injEq, and_true] at hcs'
    have hw0 := hw ((elems.map (·.1)).length * by_ + (rest.map (·.1)).length * by_) (by rw [hx]; simp [DataW.weights, hu, hby, Nat.add_mul])
    have each : ∀ i : Nat, ∃ t : β, ok t ∧ (i < len → ∀ j u, (cv t).toList[j]? = some u → w.cell? (a.add (i * sz + j)) = some u) := by
      intro i
      by_cases hi : i < len
      · have h1 := hel i hi
        rw [hcs, List.getElem?_eq_getElem (by omega), Option.bind_eq_some_iff] at h1
        obtain ⟨cs', h2, h3⟩ := h1
        obtain ⟨_, hcl, hce⟩ := World.cells?_some h2
        have hmem : (elems[i]'(by omega)).1 ∈ elems.map (·.1) := List.mem_map_of_mem (List.getElem_mem _)
        have hw1 : ∀ n ∈ (elems[i]'(by omega)).1.weights P T, n ≤ reachBytes := fun n hn => by
          refine hw n ?_
          rw [hx]
          simp only [DataW.weights, hu, List.mem_cons, List.mem_append]
          exact .inr (.inl (nd_weights7 hmem n hn))
        obtain ⟨t, ht, he⟩ := el hcl h3 hw1
        refine ⟨t, ht, fun _ j u hj => ?_⟩
        have hjl : j < cs'.length := by rw [he]; exact (List.getElem?_eq_some_iff.1 hj).1
        have d := hce j (by omega)
        rw [nd_add7] at d
        rw [d, he]
        exact hj
      · exact ⟨z, hz, fun h => absurd h hi⟩
    obtain ⟨f, hf⟩ : ∃ f : Nat → β, ∀ i : Nat, ok (f i) ∧ (i < len → ∀ j u, (cv (f i)).toList[j]? = some u → w.cell? (a.add (i * sz + j)) = some u) := ⟨fun j => Classical.choose (each j), fun j => Classical.choose_spec (each j)⟩
    have hget : ∀ j, j < len → ((List.range len).map f).getD j z = f j := fun j hj => by simp [List.getD, hj]
    have hlen2 : ((List.range len).map f).length = len := by simp
    have hel2 : (elems.map (·.1)).length = len := by rw [List.length_map]; omega
    refine ⟨some a, cap, (List.range len).map f, by rw [hlen2]; exact hcs', ⟨by rw [hlen2]; exact hl, fun e => by cases e⟩, fun m u hm2 => ?_, by rw [hlen2]; rw [hel2] at hw0; unfold reachBytes at hw0; exact Nat.le_trans (Nat.le_add_right _ _) hw0, fun k => ?_⟩
    · have hml := (List.getElem?_eq_some_iff.1 hm2).1
      rw [fl_len hc, hlen2] at hml
      have hi : m / sz < len := Nat.div_lt_of_lt_mul (by rw [Nat.mul_comm]; exact hml)
      have hmj : m / sz * sz + m % sz = m := by rw [Nat.mul_comm]; exact Nat.div_add_mod m sz
      have hjs : m % sz < sz := Nat.mod_lt _ hsz
      have e1 := fl_at hc z ((List.range len).map f) (m / sz) (m % sz) (by rw [hlen2]; exact hi) hjs
      rw [hmj, hget _ hi, hm2] at e1
      have c1 := (hf (m / sz)).2 hi (m % sz) u e1.symm
      rw [hmj] at c1
      have c00 : ∃ v0, w.cell? (a.add 0) = some v0 := by
        have h0 : 0 < (cv (f 0)).toList.length := by rw [Array.length_toList, hc]; exact hsz
        exact ⟨_, by have := (hf 0).2 (Nat.lt_of_le_of_lt (Nat.zero_le _) hi) 0 _ (List.getElem?_eq_getElem h0); simpa using this⟩
      obtain ⟨v0, c00⟩ := c00
      obtain ⟨b, off, rfl⟩ := spotless7 c00
      rw [add_plain] at c1
      exact ⟨b, off, rfl, c1⟩
    · by_cases hk : k < len
      · rw [hget k hk]; exact (hf k).1
      · rw [List.getD_eq_getElem?_getD, List.getElem?_eq_none (by rw [hlen2]; omega)]; simpa using hz
/-- A row of rows. -/
theorem open_nest {β : Type} {P : Program} {TSS TS : TypeId} (hu : P.underlying TSS = some (.slice TS)) (hby : P.bytesOf TS = 24) (hcs : P.cellsOf TS = 1) (cv : β → Array Value) (ok : List β → Prop) (hz : ok [])
    (el : ∀ {fuel : Nat} {v : Value} {y : DataW H × List MemPlace}, DataW.trod enc P w 0 spare held fuel TS [v] = some y → (∀ n ∈ y.1.weights P TS, n ≤ reachBytes) → ∃ ao cap l, v = .slice ao (l : List β).length cap ∧ Sl ao l.length cap ∧ Flat w ao (fl cv l) ∧ ok l)
    {fuel : Nat} {v : Value} {y : DataW H × List MemPlace} (h : DataW.trod enc P w 0 spare held fuel TSS [v] = some y) (hw : ∀ n ∈ y.1.weights P TSS, n ≤ reachBytes) :
    ∃ ao cap l, v = .slice ao (l : List (List β)).length cap ∧ Sl ao l.length cap ∧ Nst w ao cv l ∧ l.length * 24 ≤ 140737488351232 ∧ ∀ k, ok (l.getD k []) := by
  rcases DataW.trod_slice hu h with ⟨hcs', _⟩ | ⟨a, len, cap, elems, rest, fu, _, hcs', hx, _, hl, hm, hlen, hel, _, _⟩
  · simp only [List.cons.injEq, and_true] at hcs'
    exact ⟨none, 0, [], hcs', ⟨Nat.le_refl _, fun _ => ⟨rfl, rfl⟩⟩, fun i hi => by simp at hi, by simp, fun k => by simpa using hz⟩
  · simp only [List.cons.injEq, and_true] at hcs'
    have hw0 := hw ((elems.map (·.1)).length * 24 + (rest.map (·.1)).length * 24) (by rw [hx]; simp [DataW.weights, hu, hby, Nat.add_mul])
    have each : ∀ i : Nat, ∃ t : List β, ok t ∧ (i < len → ∃ aj cj, w.cell? (a.add i) = some (.slice aj t.length cj) ∧ Flat w aj (fl cv t) ∧ Sl aj t.length cj) := by
      intro i
      by_cases hi : i < len
      · have h1 := hel i hi
        rw [hcs, List.getElem?_eq_getElem (by omega), Option.bind_eq_some_iff] at h1
        obtain ⟨cs', h2, h3⟩ := h1
        obtain ⟨_, hcl, hce⟩ := World.cells?_some h2
        obtain ⟨c0, rfl⟩ : ∃ c0, cs' = [c0] := by
          match cs', hcl with
          | [c0], _ => exact ⟨c0, rfl⟩
        have hmem : (elems[i]'(by omega)).1 ∈ elems.map (·.1) := List.mem_map_of_mem (List.getElem_mem _)
        have hw1 : ∀ n ∈ (elems[i]'(by omega)).1.weights P TS, n ≤ reachBytes := fun n hn => by
          refine hw n ?_
          rw [hx]
          simp only [DataW.weights, hu, List.mem_cons, List.mem_append]
          exact .inr (.inl (nd_weights7 hmem n hn))
        obtain ⟨aj, cj, t, e3, e4, e5, e6⟩ := el h3 hw1
        have k0 := hce 0 (by omega)
        rw [Nat.mul_one, nd_add7, Nat.add_zero] at k0
        simp only [List.getElem?_cons_zero, e3] at k0
        exact ⟨t, e6, fun _ => ⟨aj, cj, k0, e5, e4⟩⟩
      · exact ⟨[], hz, fun h => absurd h hi⟩
    obtain ⟨f, hf⟩ : ∃ f : Nat → List β, ∀ i : Nat, ok (f i) ∧ (i < len → ∃ aj cj, w.cell? (a.add i) = some (.slice aj (f i).length cj) ∧ Flat w aj (fl cv (f i)) ∧ Sl aj (f i).length cj) := ⟨fun j => Classical.choose (each j), fun j => Classical.choose_spec (each j)⟩
    have hget : ∀ j, j < len → ((List.range len).map f).getD j [] = f j := fun j hj => by simp [List.getD, hj]
    have hlen2 : ((List.range len).map f).length = len := by simp
    have hel2 : (elems.map (·.1)).length = len := by rw [List.length_map]; omega
    refine ⟨some a, cap, (List.range len).map f, by rw [hlen2]; exact hcs', ⟨by rw [hlen2]; exact hl, fun e => by cases e⟩, fun i hi => ?_, by rw [hlen2]; unfold reachBytes at hw0; omega, fun k => ?_⟩
    · rw [hlen2] at hi
      obtain ⟨aj, cj, k0, k1, k2⟩ := (hf i).2 hi
      obtain ⟨_, _, z0, _⟩ := (hf 0).2 (by omega)
      obtain ⟨b, off, rfl⟩ := spotless7 z0
      rw [add_plain] at k0
      rw [hget i hi]
      exact ⟨b, off, aj, cj, rfl, k0, k1, k2⟩
    · by_cases hk : k < len
      · rw [hget k hk]; exact (hf k).1
      · rw [List.getD_eq_getElem?_getD, List.getElem?_eq_none (by rw [hlen2]; omega)]; simpa using hz
theorem wfI7 {n : Int} (h : (Lit.int .i64 n).wf = true) : -9223372036854775808 ≤ n ∧ n ≤ 9223372036854775807 := by
  have h' : (decide (IntKind.min .i64 ≤ n) && decide (n ≤ IntKind.max .i64)) = true := h
  rw [Bool.and_eq_true, decide_eq_true_eq, decide_eq_true_eq] at h'
  have e1 : IntKind.min .i64 = -9223372036854775808 := by decide +kernel
  have e2 : IntKind.max .i64 = 9223372036854775807 := by decide +kernel
  rw [e1, e2] at h'
  exact h'
theorem wfU7 {n : Int} (h : (Lit.int .u64 n).wf = true) : 0 ≤ n ∧ n < 18446744073709551616 := by
  have h' : (decide (IntKind.min .u64 ≤ n) && decide (n ≤ IntKind.max .u64)) = true := h
  rw [Bool.and_eq_true, decide_eq_true_eq, decide_eq_true_eq] at h'
  have e1 : IntKind.min .u64 = 0 := by decide +kernel
  have e2 : IntKind.max .u64 = 18446744073709551615 := by decide +kernel
  rw [e1, e2] at h'
  omega
theorem cells7 : Tryz.prog.cellsOf 2 = 1 := by kernel_rfl
set_option maxRecDepth 100000 in
theorem open_ev7 {fuel : Nat} {l : List Value} {y : DataW H × List MemPlace} (hl : l.length = 11) (h : DataW.trod enc Tryz.prog w 0 spare held fuel 75 l = some y) : ∃ e : Ev, e.ok ∧ l = (evC e).toList := by
  obtain ⟨c0, c1, c2, c3, c4, c5, c6, c7, c8, c9, c10, rfl⟩ : ∃ c0 c1 c2 c3 c4 c5 c6 c7 c8 c9 c10, l = [c0, c1, c2, c3, c4, c5, c6, c7, c8, c9, c10] := by
    match l, hl with
    | [c0, c1, c2, c3, c4, c5, c6, c7, c8, c9, c10], _ => exact ⟨c0, c1, c2, c3, c4, c5, c6, c7, c8, c9, c10, rfl⟩
  obtain ⟨y0, y1, y2, y3, m, _, _, g0, g1, g2, g3⟩ := Joins.trod_struct4 Tryz.underlying75 h
  have g0' : DataW.trod enc Tryz.prog w 0 spare held m 2 [c0] = some y0 := g0
  have g1' : DataW.trod enc Tryz.prog w 0 spare held m 73 [c1] = some y1 := g1
  have g2' : DataW.trod enc Tryz.prog w 0 spare held m 3 [c2] = some y2 := g2
  have g3' : DataW.trod enc Tryz.prog w 0 spare held m 72 [c3, c4, c5, c6, c7, c8, c9, c10] = some y3 := g3
  obtain ⟨n0, e0, _, r0⟩ := DataW.trod_int Tryz.underlying2 g0'
  obtain ⟨n1, e1, _, r1⟩ := DataW.trod_int Tryz.underlying73 g1'
  obtain ⟨n2, e2, _, _⟩ := DataW.trod_int Tryz.underlying3 g2'
  obtain ⟨xs, m2, _, _, _, hxl, hall⟩ := DataW.trod_array Tryz.underlying72 g3'
  have key : ∀ (i : Nat) (c : Value), i < 8 → [c3, c4, c5, c6, c7, c8, c9, c10][i]? = some c → ∃ n, c = .int .i64 n ∧ (Lit.int .i64 n).wf = true := fun i c hi hc => by
    have h1 := hall i hi
    rw [cells7, Nat.mul_one, List.getElem?_eq_getElem (show i < xs.length by omega)] at h1
    obtain ⟨n, e, _, rn⟩ := DataW.trod_int Tryz.underlying2 h1
    have h2 := congrArg (·[0]?) e
    simp only [List.getElem?_take, List.getElem?_drop, Nat.add_zero] at h2
    rw [if_pos (by decide), hc] at h2
    exact ⟨n, by simpa using h2, rn⟩
  obtain ⟨a0, k0, q0⟩ := key 0 c3 (by omega) rfl
  obtain ⟨a1, k1, q1⟩ := key 1 c4 (by omega) rfl
  obtain ⟨a2, k2, q2⟩ := key 2 c5 (by omega) rfl
  obtain ⟨a3, k3, q3⟩ := key 3 c6 (by omega) rfl
  obtain ⟨a4, k4, q4⟩ := key 4 c7 (by omega) rfl
  obtain ⟨a5, k5, q5⟩ := key 5 c8 (by omega) rfl
  obtain ⟨a6, k6, q6⟩ := key 6 c9 (by omega) rfl
  obtain ⟨a7, k7, q7⟩ := key 7 c10 (by omega) rfl
  simp only [List.cons.injEq, and_true] at e0 e1 e2
  subst e0 e1 e2 k0 k1 k2 k3 k4 k5 k6 k7
  refine ⟨⟨n0, n1, n2, a0, a1, a2, a3, a4, a5, a6, a7⟩, ⟨(wfI7 r0).1, (wfI7 r0).2, (wfU7 r1).1, (wfU7 r1).2, fun j hj => ?_, fun j hj => ?_⟩, rfl⟩
  all_goals rcases (show j = 0 ∨ j = 1 ∨ j = 2 ∨ j = 3 ∨ j = 4 ∨ j = 5 ∨ j = 6 ∨ j = 7 from by omega) with rfl | rfl | rfl | rfl | rfl | rfl | rfl | rfl
  all_goals first | exact (wfI7 q0).1 | exact (wfI7 q1).1 | exact (wfI7 q2).1 | exact (wfI7 q3).1 | exact (wfI7 q4).1 | exact (wfI7 q5).1 | exact (wfI7 q6).1 | exact (wfI7 q7).1 | exact (wfI7 q0).2 | exact (wfI7 q1).2 | exact (wfI7 q2).2 | exact (wfI7 q3).2 | exact (wfI7 q4).2 | exact (wfI7 q5).2 | exact (wfI7 q6).2 | exact (wfI7 q7).2
theorem bytesEv7 : Tryz.prog.bytesOf 75 = 88 := by kernel_rfl
theorem cellsEv7 : Tryz.prog.cellsOf 75 = 11 := by kernel_rfl
theorem bytesEs7 : Tryz.prog.bytesOf 43 = 24 := by kernel_rfl
theorem cellsEs7 : Tryz.prog.cellsOf 43 = 1 := by kernel_rfl
theorem bytesIn7 : Tryz.prog.bytesOf 3 = 8 := by kernel_rfl
theorem cellsIn7 : Tryz.prog.cellsOf 3 = 1 := by kernel_rfl
theorem bytesIs7 : Tryz.prog.bytesOf 39 = 24 := by kernel_rfl
theorem cellsIs7 : Tryz.prog.cellsOf 39 = 1 := by kernel_rfl
theorem bytesIr7 : Tryz.prog.bytesOf 87 = 40 := by kernel_rfl
theorem cellsIr7 : Tryz.prog.cellsOf 87 = 5 := by kernel_rfl
/-- Lists of events. -/
theorem open_lists7 {fuel : Nat} {v : Value} {y : DataW H × List MemPlace} (h : DataW.trod enc Tryz.prog w 0 spare held fuel 32 [v] = some y) (hw : ∀ n ∈ y.1.weights Tryz.prog 32, n ≤ reachBytes) :
    ∃ ao cap l, v = .slice ao (l : List (List Ev)).length cap ∧ Sl ao l.length cap ∧ Nst w ao evC l ∧ l.length * 24 ≤ 140737488351232 ∧ ∀ k, (l.getD k []).length * 88 ≤ 140737488351232 ∧ evsOk (l.getD k []) :=
  open_nest Tryz.underlying32 bytesEs7 cellsEs7 evC (fun l => l.length * 88 ≤ 140737488351232 ∧ evsOk l) ⟨by simp, fun k => by simp; exact zeroE_ok⟩ (fun h1 h2 => by
    obtain ⟨ao, cap, l, e1, e2, e3, e4, e5⟩ := open_row Tryz.underlying43 bytesEv7 cellsEv7 (by decide) evC evC_sz zeroE Ev.ok zeroE_ok (fun hl ht _ => open_ev7 hl ht) h1 h2
    exact ⟨ao, cap, l, e1, e2, e3, e4, e5⟩) h hw
theorem open_cols7 {fuel : Nat} {v : Value} {y : DataW H × List MemPlace} (h : DataW.trod enc Tryz.prog w 0 spare held fuel 46 [v] = some y) (hw : ∀ n ∈ y.1.weights Tryz.prog 46, n ≤ reachBytes) :
    ∃ ao cap l, v = .slice ao (l : List (List Int)).length cap ∧ Sl ao l.length cap ∧ Nst w ao intC l ∧ l.length * 24 ≤ 140737488351232 ∧ ∀ k, (l.getD k []).length * 8 ≤ 140737488351232 :=
  open_nest Tryz.underlying46 bytesIs7 cellsIs7 intC (fun l => l.length * 8 ≤ 140737488351232) (by simp) (fun h1 h2 => by
    obtain ⟨ao, cap, l, e1, e2, e3, e4, _⟩ := open_row Tryz.underlying39 bytesIn7 cellsIn7 (by decide) intC intC_sz 0 (fun _ => True) trivial (fun {fuel cs y} hl ht _ => by
      obtain ⟨c0, rfl⟩ : ∃ c0, cs = [c0] := by
        match cs, hl with
        | [c0], _ => exact ⟨c0, rfl⟩
      obtain ⟨n, e, _, _⟩ := DataW.trod_int Tryz.underlying3 ht
      exact ⟨n, trivial, e⟩) h1 h2
    exact ⟨ao, cap, l, e1, e2, e3, e4⟩) h hw
end

end Go.Proofs.YtnolbpekdikamaaGreatDoor
namespace Go.Proofs.YtnolbpekdikamaaGreatDoor
open Go.RowKit
set_option linter.unusedVariables false

theorem laidMet_tailT {P : Program} {x : String × DataW Unit} {r : List (String × DataW Unit)} {w : World} (h : laidMet P (x :: r) w) : laidMet P r w := by
  obtain ⟨ps, ⟨g, t, cs, fuel, p, q, hg, ht, hvar, hd, hq, rfl⟩, hn, hall⟩ := h
  refine ⟨q, hq, ?_, fun b off hm => hall b off (List.mem_append_right _ hm)⟩
  exact (List.nodup_append.1 hn).2.1

/-- A table of three rows of three integers that reads as listed holds the nine numbers. -/
theorem tab33 {P : Program} {W : World} {name : String} {z : Nat → Nat → Int} {rest : List (String × DataW Unit)} {g : Nat} {t r e : TypeId}
    (hg : P.globalNamed name = some g) (hty : (P.globals[g]?).map (·.type) = some t) (ht : P.underlying t = some (.array 3 r)) (hr : P.underlying r = some (.array 3 e)) (he : P.underlying e = some (.int .i64)) (hce : P.cellsOf e = 1) (hcr : P.cellsOf r = 3) (hct : P.cellsOf t = 9)
    (h : laidMet P ((name, .agg [Lib.tabData .i64 [z 0 0, z 0 1, z 0 2], Lib.tabData .i64 [z 1 0, z 1 1, z 1 2], Lib.tabData .i64 [z 2 0, z 2 1, z 2 2]]) :: rest) W) :
    ∀ i j : Nat, i < 3 → j < 3 → W.cell? ⟨g, i * 3 + j, none⟩ = some (.int .i64 (z i j)) := by
  obtain ⟨ps, ⟨g', t', cs, fuel, p, q, hg', ht', hvar, hd, _, _⟩, _⟩ := h
  obtain rfl := Option.some.inj (hg.symm.trans hg')
  obtain rfl := Option.some.inj (hty.symm.trans ht')
  obtain ⟨xs, m, _, hx, hlen, hxl, hall⟩ := DataW.trod_array ht hd
  have hx1 : [Lib.tabData .i64 [z 0 0, z 0 1, z 0 2], Lib.tabData .i64 [z 1 0, z 1 1, z 1 2], Lib.tabData .i64 [z 2 0, z 2 1, z 2 2]] = xs.map (·.1) := by
    have := congrArg Prod.fst hx
    simpa using this
  have row : ∀ i, i < 3 → (cs.toList.drop (i * 3)).take 3 = [z i 0, z i 1, z i 2].map fun n => Value.int .i64 n := by
    intro i hi
    have h1 := hall i hi
    rw [hcr] at h1
    obtain ⟨y, hy⟩ : ∃ y, xs[i]? = some y := ⟨xs[i]'(by omega), by simp⟩
    rw [hy] at h1
    have h2 : y.1 = Lib.tabData .i64 [z i 0, z i 1, z i 2] := by
      have h3 : (xs.map (·.1))[i]? = some y.1 := by simp [hy]
      rw [← hx1] at h3
      have : i = 0 ∨ i = 1 ∨ i = 2 := by omega
      rcases this with rfl | rfl | rfl <;> simpa using h3.symm
    obtain ⟨y1, y2⟩ := y
    simp only at h2
    subst h2
    exact Lib.cells_of_tab hr he hce hcr h1
  intro i j hi hj
  rw [World.var?_cell hg hvar]
  have h4 := row i hi
  have h5 := congrArg (·[j]?) h4
  have : j = 0 ∨ j = 1 ∨ j = 2 := by omega
  rcases this with rfl | rfl | rfl <;> simpa [List.getElem?_take, List.getElem?_drop] using h5

theorem tab3 {P : Program} {W : World} {name : String} {z : Nat → Int} {rest : List (String × DataW Unit)} {g : Nat} {t e : TypeId}
    (hg : P.globalNamed name = some g) (hty : (P.globals[g]?).map (·.type) = some t) (ht : P.underlying t = some (.array 3 e)) (he : P.underlying e = some (.int .i64)) (hce : P.cellsOf e = 1) (hct : P.cellsOf t = 3)
    (h : laidMet P ((name, Lib.tabData .i64 [z 0, z 1, z 2]) :: rest) W) : ∀ i : Nat, i < 3 → W.cell? ⟨g, i, none⟩ = some (.int .i64 (z i)) := by
  intro i hi
  have hT := Lib.tabIs_of_head (rest := rest) hg hty ht he hce hct h
  rw [hT.cell hg i (by simpa using hi)]
  have : i = 0 ∨ i = 1 ∨ i = 2 := by omega
  rcases this with rfl | rfl | rfl <;> rfl
def notI (a : Int) : Int := if a = 0 then 2 else if a = 1 then 1 else 0
theorem notI_eq (i : Nat) (h : i < 3) : notI i = 2 - i := by
  have : i = 0 ∨ i = 1 ∨ i = 2 := by omega
  rcases this with rfl | rfl | rfl <;> decide
theorem block_of {w : World} {b o : Nat} {v : Value} (h : w.cell? ⟨b, o, none⟩ = some v) : b < w.heap.size := by
  rcases Nat.lt_or_ge b w.heap.size with g | g
  · exact g
  · have e : w.heap[b]? = none := by simp; omega
    simp [World.cell?, e] at h

end Go.Proofs.YtnolbpekdikamaaGreatDoor
namespace Go.Proofs.YtnolbpekdikamaaGreatDoor
open Go.ChangeShapes Go.WideShapes Go.ChangeAt Go.RowKit Go.BigFrame
set_option linter.unusedVariables false
set_option linter.unusedSimpArgs false

theorem wfF7 {n : Int} (h : (Lit.int .i64 n).wf = true) : fitsB n = true := by
  unfold fitsB
  exact decide_eq_true (wfI7 h)
theorem noIn_ok7 : noIn.ok := ⟨by decide, by decide⟩
section
variable {H : Type} {enc : TypeId × Value → H} {w : World} {spare : Nat → Bool} {held : Bool}
theorem trod_s5 {P : Program} {base : Nat} {t : TypeId} {f0 f1 f2 f3 f4 : Field} {fuel : Nat} {cs : List Value} {x : DataW H × List MemPlace} (ht : P.underlying t = some (.struct #[f0, f1, f2, f3, f4])) (h : DataW.trod enc P w base spare held fuel t cs = some x) :
    ∃ y0 y1 y2 y3 y4 n, x.1 = .agg [y0.1, y1.1, y2.1, y3.1, y4.1] ∧ cs.length = P.cellsOf t ∧ DataW.trod enc P w base spare held n f0.type ((cs.drop f0.offset).take (P.cellsOf f0.type)) = some y0 ∧ DataW.trod enc P w base spare held n f1.type ((cs.drop f1.offset).take (P.cellsOf f1.type)) = some y1 ∧ DataW.trod enc P w base spare held n f2.type ((cs.drop f2.offset).take (P.cellsOf f2.type)) = some y2 ∧ DataW.trod enc P w base spare held n f3.type ((cs.drop f3.offset).take (P.cellsOf f3.type)) = some y3 ∧ DataW.trod enc P w base spare held n f4.type ((cs.drop f4.offset).take (P.cellsOf f4.type)) = some y4 := by
  obtain ⟨xs, n, _, rfl, hl, hlen, hf⟩ := DataW.trod_struct ht h
  match xs, hlen with
  | [y0, y1, y2, y3, y4], _ => exact ⟨y0, y1, y2, y3, y4, n, by simp, hl, by simpa using hf 0 f0 rfl, by simpa using hf 1 f1 rfl, by simpa using hf 2 f2 rfl, by simpa using hf 3 f3 rfl, by simpa using hf 4 f4 rfl⟩
theorem trod_s3 {P : Program} {base : Nat} {t : TypeId} {f0 f1 f2 : Field} {fuel : Nat} {cs : List Value} {x : DataW H × List MemPlace} (ht : P.underlying t = some (.struct #[f0, f1, f2])) (h : DataW.trod enc P w base spare held fuel t cs = some x) :
    ∃ y0 y1 y2 n, x.1 = .agg [y0.1, y1.1, y2.1] ∧ cs.length = P.cellsOf t ∧ DataW.trod enc P w base spare held n f0.type ((cs.drop f0.offset).take (P.cellsOf f0.type)) = some y0 ∧ DataW.trod enc P w base spare held n f1.type ((cs.drop f1.offset).take (P.cellsOf f1.type)) = some y1 ∧ DataW.trod enc P w base spare held n f2.type ((cs.drop f2.offset).take (P.cellsOf f2.type)) = some y2 := by
  obtain ⟨xs, n, _, rfl, hl, hlen, hf⟩ := DataW.trod_struct ht h
  match xs, hlen with
  | [y0, y1, y2], _ => exact ⟨y0, y1, y2, n, by simp, hl, by simpa using hf 0 f0 rfl, by simpa using hf 1 f1 rfl, by simpa using hf 2 f2 rfl⟩
theorem trod_s2 {P : Program} {base : Nat} {t : TypeId} {f0 f1 : Field} {fuel : Nat} {cs : List Value} {x : DataW H × List MemPlace} (ht : P.underlying t = some (.struct #[f0, f1])) (h : DataW.trod enc P w base spare held fuel t cs = some x) :
    ∃ y0 y1 n, x.1 = .agg [y0.1, y1.1] ∧ cs.length = P.cellsOf t ∧ DataW.trod enc P w base spare held n f0.type ((cs.drop f0.offset).take (P.cellsOf f0.type)) = some y0 ∧ DataW.trod enc P w base spare held n f1.type ((cs.drop f1.offset).take (P.cellsOf f1.type)) = some y1 := by
  obtain ⟨xs, n, _, rfl, hl, hlen, hf⟩ := DataW.trod_struct ht h
  match xs, hlen with
  | [y0, y1], _ => exact ⟨y0, y1, n, by simp, hl, by simpa using hf 0 f0 rfl, by simpa using hf 1 f1 rfl⟩
set_option maxRecDepth 100000 in
theorem open_ins7 {fuel : Nat} {l : List Value} {y : DataW H × List MemPlace} (hl : l.length = 5) (h : DataW.trod enc Tryz.prog w 0 spare held fuel 87 l = some y) : ∃ i : Ins, i.ok ∧ l = (insC i).toList := by
  obtain ⟨c0, c1, c2, c3, c4, rfl⟩ : ∃ c0 c1 c2 c3 c4, l = [c0, c1, c2, c3, c4] := by
    match l, hl with
    | [c0, c1, c2, c3, c4], _ => exact ⟨c0, c1, c2, c3, c4, rfl⟩
  obtain ⟨y0, y1, y2, y3, y4, m, _, _, g0, g1, g2, g3, g4⟩ := trod_s5 Tryz.underlying87 h
  have g0' : DataW.trod enc Tryz.prog w 0 spare held m 85 [c0] = some y0 := g0
  have g1' : DataW.trod enc Tryz.prog w 0 spare held m 3 [c1] = some y1 := g1
  have g2' : DataW.trod enc Tryz.prog w 0 spare held m 3 [c2] = some y2 := g2
  have g3' : DataW.trod enc Tryz.prog w 0 spare held m 2 [c3] = some y3 := g3
  have g4' : DataW.trod enc Tryz.prog w 0 spare held m 3 [c4] = some y4 := g4
  obtain ⟨n0, e0, _, _⟩ := DataW.trod_int Tryz.underlying85 g0'
  obtain ⟨n1, e1, _, _⟩ := DataW.trod_int Tryz.underlying3 g1'
  obtain ⟨n2, e2, _, _⟩ := DataW.trod_int Tryz.underlying3 g2'
  obtain ⟨n3, e3, _, r3⟩ := DataW.trod_int Tryz.underlying2 g3'
  obtain ⟨n4, e4, _, r4⟩ := DataW.trod_int Tryz.underlying3 g4'
  simp only [List.cons.injEq, and_true] at e0 e1 e2 e3 e4
  subst e0 e1 e2 e3 e4
  exact ⟨⟨n0, n1, n2, n3, n4⟩, ⟨wfF7 r3, wfF7 r4⟩, rfl⟩
theorem open_code7 {fuel : Nat} {v : Value} {y : DataW H × List MemPlace} (h : DataW.trod enc Tryz.prog w 0 spare held fuel 45 [v] = some y) (hw : ∀ n ∈ y.1.weights Tryz.prog 45, n ≤ reachBytes) :
    ∃ ao cap l, v = .slice ao (l : List Ins).length cap ∧ Sl ao l.length cap ∧ Flat w ao (fl insC l) ∧ l.length * 40 ≤ 140737488351232 ∧ ∀ k, (l.getD k noIn).ok :=
  open_row Tryz.underlying45 bytesIr7 cellsIr7 (by decide) insC (fun _ => rfl) noIn Ins.ok noIn_ok7 (fun hl ht _ => open_ins7 hl ht) h hw
theorem cellsPg : Tryz.prog.cellsOf 48 = 2 := by kernel_rfl
theorem cellsEn : Tryz.prog.cellsOf 34 = 3 := by kernel_rfl
set_option maxRecDepth 100000 in
theorem open_prog {fuel : Nat} {cs : Array Value} {y : DataW H × List MemPlace} (hcz : cs.size = 2) (h : DataW.trod enc Tryz.prog w 0 spare held fuel 48 cs.toList = some y) (hw : ∀ n ∈ y.1.weights Tryz.prog 48, n ≤ reachBytes) :
    ∃ (p : Prg) (ai : Option Addr) (ci : Nat) (ac : Option Addr) (cc : Nat), .agg cs = prgA p ai ci ac cc ∧ IsPr w p ai ci ac cc ∧ p.ok := by
  obtain ⟨l⟩ := cs
  obtain ⟨c0, c1, rfl⟩ : ∃ c0 c1, l = [c0, c1] := by
    match l, hcz with
    | [c0, c1], _ => exact ⟨c0, c1, rfl⟩
  obtain ⟨y0, y1, m, e1, _, g0, g1⟩ := trod_s2 Tryz.underlying48 h
  have g0' : DataW.trod enc Tryz.prog w 0 spare held m 45 [c0] = some y0 := g0
  have g1' : DataW.trod enc Tryz.prog w 0 spare held m 46 [c1] = some y1 := g1
  rw [e1] at hw
  simp only [DataW.weights, Tryz.underlying48, DataW.weightsEach, List.mem_append] at hw
  obtain ⟨ai, ci, code, a1, a2, a3, a4, a5⟩ := open_code7 g0' (fun n hn => hw n (by simp [DataW.weightsEach, hn]))
  obtain ⟨ac, cc, cols, b1, b2, b3, b4, b5⟩ := open_cols7 g1' (fun n hn => hw n (by simp [DataW.weightsEach, hn]))
  subst a1 b1
  exact ⟨⟨code, cols⟩, ai, ci, ac, cc, rfl, ⟨a3, a2, b3, b2⟩, ⟨a4, b4, b5, a5⟩⟩
set_option maxRecDepth 100000 in
theorem open_env {fuel : Nat} {cs : Array Value} {y : DataW H × List MemPlace} (hcz : cs.size = 3) (h : DataW.trod enc Tryz.prog w 0 spare held fuel 34 cs.toList = some y) (hw : ∀ n ∈ y.1.weights Tryz.prog 34, n ≤ reachBytes) :
    ∃ (E : Envr) (al : Option Addr) (cl : Nat), .agg cs = envA al cl E ∧ IsEnv w E al cl ∧ ((∀ k, (E.lists.getD k []).length ≤ 2147483647) → E.ok) ∧ E.lists.length * 24 ≤ 140737488351232 ∧ ∀ k, (E.lists.getD k []).length * 88 ≤ 140737488351232 := by
  obtain ⟨l⟩ := cs
  obtain ⟨c0, c1, c2, rfl⟩ : ∃ c0 c1 c2, l = [c0, c1, c2] := by
    match l, hcz with
    | [c0, c1, c2], _ => exact ⟨c0, c1, c2, rfl⟩
  obtain ⟨y0, y1, y2, m, e1, _, g0, g1, g2⟩ := trod_s3 Tryz.underlying34 h
  have g0' : DataW.trod enc Tryz.prog w 0 spare held m 32 [c0] = some y0 := g0
  have g1' : DataW.trod enc Tryz.prog w 0 spare held m 3 [c1] = some y1 := g1
  have g2' : DataW.trod enc Tryz.prog w 0 spare held m 3 [c2] = some y2 := g2
  obtain ⟨n1, q1, _, r1⟩ := DataW.trod_int Tryz.underlying3 g1'
  obtain ⟨n2, q2, _, r2⟩ := DataW.trod_int Tryz.underlying3 g2'
  simp only [List.cons.injEq, and_true] at q1 q2
  rw [e1] at hw
  simp only [DataW.weights, Tryz.underlying34, DataW.weightsEach, List.mem_append] at hw
  obtain ⟨ai, ci, ls, a1, a2, a3, a4, a5⟩ := open_lists7 g0' (fun n hn => hw n (by simp [DataW.weightsEach, hn]))
  subst a1 q1 q2
  exact ⟨⟨ls, n1, n2⟩, ai, ci, rfl, ⟨a3, a2⟩, fun hb => ⟨a4, fun k => (a5 k).1, fun k => (a5 k).2, wfF7 r1, wfF7 r2, hb⟩, a4, fun k => (a5 k).1⟩
end
def opl : List Int := [0, 0, 0, 0, 0, 0, 0, 0, 0, 0, 1, 1, 2, 2, 2, 2, 2, 2, 2, 2, 2, 2, 2, 2, 2, 1, 1]
theorem opl_at : ∀ i, i < 27 → opl[i]? = some (ndsI (i : Nat) : Int) := by decide
theorem gOp : Tryz.prog.globalNamed "sluice/code.operands" = some 0 := by kernel_rfl
theorem opAt_of {W : World} {rest : List (String × DataW Unit)} (h : laidMet Tryz.prog (("sluice/code.operands", Lib.tabData .i64 opl) :: rest) W) : OpAt W := by
  have hT := Lib.tabIs_of_head (g := 0) (t := 113) (e := 3) (n := 27) (rest := rest) gOp (by kernel_rfl) (by kernel_rfl) (by kernel_rfl) (by kernel_rfl) (by kernel_rfl) h
  have key : ∀ i : Nat, i < 27 → W.cell? ⟨0, i, none⟩ = some (.int .i64 (ndsI i : Int)) := fun i hi => by
    rw [hT.cell gOp i (by simpa [opl] using hi)]
    have e := opl_at i hi
    have e2 := (List.getElem?_eq_some_iff.1 e).2
    rw [List.getD_eq_getElem?_getD, e]; rfl
  exact ⟨block_of (key 0 (by omega)), fun i _ hi => key i hi⟩

end Go.Proofs.YtnolbpekdikamaaGreatDoor
