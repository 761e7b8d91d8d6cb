/- A query and its spots: rows of rows, items; how they are opened. -/
import Derived.Test.YtlejhococjlijaaGreatDoorOpenQ
namespace Go.Proofs.YtlejhococjlijaaGreatDoor
open Go.ChangeShapes Go.WideShapes Go.ChangeAt Go.RowKit Go.BigFrame
set_option linter.unusedVariables false
set_option linter.unusedSimpArgs false

theorem ndsFit_nil : ndsFit [] := ⟨by simp, fun k => by simp; exact noNd_fit⟩
theorem list5 {α : Type} {cs : List α} (h : cs.length = 5) : ∃ c0 c1 c2 c3 c4, cs = [c0, c1, c2, c3, c4] := by
  match cs, h with
  | [c0, c1, c2, c3, c4], _ => exact ⟨c0, c1, c2, c3, c4, rfl⟩
theorem list7 {α : Type} {cs : List α} (h : cs.length = 7) : ∃ c0 c1 c2 c3 c4 c5 c6, cs = [c0, c1, c2, c3, c4, c5, c6] := by
  match cs, h with
  | [c0, c1, c2, c3, c4, c5, c6], _ => exact ⟨c0, c1, c2, c3, c4, c5, c6, rfl⟩
section
variable {H : Type} {enc : TypeId × Value → H} {w : World} {spare : Nat → Bool} {held : Bool}

theorem open_gapsS {fuel : Nat} {v : Value} {y : DataW H × List MemPlace} (h : DataW.trod enc Tryz.prog w 0 spare held fuel 49 [v] = some y) (hw : ∀ n ∈ y.1.weights Tryz.prog 49, n ≤ reachBytes) :
    ∃ ao cap zs, v = .slice ao zs.length cap ∧ Sl ao zs.length cap ∧ IsInts w ao zs ∧ zs.length * 8 ≤ 140737488351232 := by
  rcases DataW.trod_slice Tryz.underlying49 h with ⟨hcs, _⟩ | ⟨a, len, cap, elems, rest, fu, _, hcs, _⟩
  · simp only [List.cons.injEq, and_true] at hcs
    exact ⟨none, 0, [], hcs, ⟨Nat.le_refl _, fun _ => ⟨rfl, rfl⟩⟩, fun i hi => by simp at hi, by simp⟩
  · obtain ⟨ao, c, zs, e1, e2, e3, e4⟩ := open_gaps h hw
    refine ⟨ao, c, zs, e1, ⟨e2, fun e => ?_⟩, e3, e4⟩
    subst e
    simp only [List.cons.injEq, and_true] at hcs
    rw [hcs] at e1
    cases e1
theorem bytesNss : Tryz.prog.bytesOf 22 = 24 := by kernel_rfl
theorem cbytesNss : Tryz.prog.cellsOf 22 = 1 := by kernel_rfl
set_option maxRecDepth 100000 in
theorem open_nss {fuel : Nat} {v : Value} {y : DataW H × List MemPlace} (h : DataW.trod enc Tryz.prog w 0 spare held fuel 38 [v] = some y) (hw : ∀ n ∈ y.1.weights Tryz.prog 38, n ≤ reachBytes) :
    ∃ ao cap l, v = .slice ao (l : List (List Nd)).length cap ∧ Sl ao l.length cap ∧ IsNss w ao l ∧ l.length * 24 ≤ 140737488351232 ∧ ∀ k, ndsFit (l.getD k []) := by
  rcases DataW.trod_slice Tryz.underlying38 h with ⟨hcs, _⟩ | ⟨a, len, cap, elems, rest, fu, _, hcs, hx, _, hl, hm, hlen, hel, _, _⟩
  · simp only [List.cons.injEq, and_true] at hcs
    exact ⟨none, 0, [], hcs, ⟨Nat.le_refl _, fun _ => ⟨rfl, rfl⟩⟩, fun i hi => by simp at hi, by simp, fun k => by first | (simp; done) | (simp; exact ndsFit_nil)⟩
  · simp only [List.cons.injEq, and_true] at hcs
    have hw0 := hw ((elems.map (·.1)).length * 24 + (rest.map (·.1)).length * 24) (by rw [hx]; simp [DataW.weights, Tryz.underlying38, bytesNss, Nat.add_mul])
    have each : ∀ i : Nat, ∃ t : List Nd, ndsFit t ∧ (i < len → ∃ aj cj, w.cell? (a.add i) = some (.slice aj t.length cj) ∧ IsNds w aj t ∧ Sl aj t.length cj) := by
      intro i
      by_cases hi : i < len
      · have h1 := hel i hi
        rw [cbytesNss, List.getElem?_eq_getElem (by omega), Option.bind_eq_some_iff] at h1
        obtain ⟨cs', h2, h3⟩ := h1
        obtain ⟨_, hcl, hce⟩ := World.cells?_some h2
        obtain ⟨c0, rfl⟩ : ∃ c0, cs' = [c0] := by
          match cs', hcl with
          | [c0], _ => exact ⟨c0, rfl⟩
        have hmem : (elems[i]'(by omega)).1 ∈ elems.map (·.1) := List.mem_map_of_mem (List.getElem_mem _)
        have hw1 : ∀ n ∈ (elems[i]'(by omega)).1.weights Tryz.prog 22, n ≤ reachBytes := fun n hn => by
          refine hw n ?_
          rw [hx]
          simp only [DataW.weights, Tryz.underlying38, List.mem_cons, List.mem_append]
          exact .inr (.inl (nd_weights hmem n hn))
        obtain ⟨aj, cj, t, e3, e4, e5, e6, e7, e8⟩ := open_nds h3 hw1
        have k0 := hce 0 (by omega)
        rw [Nat.mul_one, nd_add, Nat.add_zero] at k0
        simp only [List.getElem?_cons_zero, e3] at k0
        exact ⟨t, ⟨e7, e8⟩, fun _ => ⟨aj, cj, k0, e6, ⟨e4, e5⟩⟩⟩
      · exact ⟨[], by first | exact ndsFit_nil | simp, fun h => absurd h hi⟩
    obtain ⟨f, hf⟩ : ∃ f : Nat → List Nd, ∀ i : Nat, ndsFit (f i) ∧ (i < len → ∃ aj cj, w.cell? (a.add i) = some (.slice aj (f i).length cj) ∧ IsNds w aj (f i) ∧ Sl aj (f i).length cj) := ⟨fun j => Classical.choose (each j), fun j => Classical.choose_spec (each j)⟩
    have hget : ∀ j, j < len → ((List.range len).map f).getD j [] = f j := fun j hj => by simp [List.getD, hj]
    have hlen2 : ((List.range len).map f).length = len := by simp
    have hel2 : (elems.map (·.1)).length = len := by rw [List.length_map]; omega
    refine ⟨some a, cap, (List.range len).map f, by rw [hlen2]; exact hcs, ⟨by rw [hlen2]; exact hl, fun e => by cases e⟩, fun i hi => ?_, by rw [hlen2]; unfold reachBytes at hw0; omega, fun k => ?_⟩
    · rw [hlen2] at hi
      obtain ⟨aj, cj, k0, k1, k2⟩ := (hf i).2 hi
      obtain ⟨_, _, z0, _⟩ := (hf 0).2 (by omega)
      obtain ⟨b, off, rfl⟩ := spotless z0
      rw [add_plain] at k0
      rw [hget i hi]
      exact ⟨b, off, aj, cj, rfl, k0, k1, k2⟩
    · by_cases hk : k < len
      · rw [hget k hk]; exact (hf k).1
      · rw [List.getD_eq_getElem?_getD, List.getElem?_eq_none (by rw [hlen2]; omega)]; first | exact ndsFit_nil | simp
theorem trod_struct5 {P : Program} {base : Nat} {t : TypeId} {f0 f1 f2 f3 f4 : Field} {fuel : Nat} {cs : List Value} {x : DataW H × List MemPlace} (ht : P.underlying t = some (.struct #[f0, f1, f2, f3, f4])) (h : DataW.trod enc P w base spare held fuel t cs = some x) :
    ∃ y0 y1 y2 y3 y4 n, x.1 = .agg [y0.1, y1.1, y2.1, y3.1, y4.1] ∧ cs.length = P.cellsOf t ∧ DataW.trod enc P w base spare held n f0.type ((cs.drop f0.offset).take (P.cellsOf f0.type)) = some y0 ∧ DataW.trod enc P w base spare held n f1.type ((cs.drop f1.offset).take (P.cellsOf f1.type)) = some y1 ∧ DataW.trod enc P w base spare held n f2.type ((cs.drop f2.offset).take (P.cellsOf f2.type)) = some y2 ∧ DataW.trod enc P w base spare held n f3.type ((cs.drop f3.offset).take (P.cellsOf f3.type)) = some y3 ∧ DataW.trod enc P w base spare held n f4.type ((cs.drop f4.offset).take (P.cellsOf f4.type)) = some y4 := by
  obtain ⟨xs, n, _, rfl, hl, hlen, hf⟩ := DataW.trod_struct ht h
  match xs, hlen with
  | [y0, y1, y2, y3, y4], _ => exact ⟨y0, y1, y2, y3, y4, n, by simp, hl, by simpa using hf 0 f0 rfl, by simpa using hf 1 f1 rfl, by simpa using hf 2 f2 rfl, by simpa using hf 3 f3 rfl, by simpa using hf 4 f4 rfl⟩
theorem trod_struct7 {P : Program} {base : Nat} {t : TypeId} {f0 f1 f2 f3 f4 f5 f6 : Field} {fuel : Nat} {cs : List Value} {x : DataW H × List MemPlace} (ht : P.underlying t = some (.struct #[f0, f1, f2, f3, f4, f5, f6])) (h : DataW.trod enc P w base spare held fuel t cs = some x) :
    ∃ y0 y1 y2 y3 y4 y5 y6 n, x.1 = .agg [y0.1, y1.1, y2.1, y3.1, y4.1, y5.1, y6.1] ∧ cs.length = P.cellsOf t ∧ DataW.trod enc P w base spare held n f0.type ((cs.drop f0.offset).take (P.cellsOf f0.type)) = some y0 ∧ DataW.trod enc P w base spare held n f1.type ((cs.drop f1.offset).take (P.cellsOf f1.type)) = some y1 ∧ DataW.trod enc P w base spare held n f2.type ((cs.drop f2.offset).take (P.cellsOf f2.type)) = some y2 ∧ DataW.trod enc P w base spare held n f3.type ((cs.drop f3.offset).take (P.cellsOf f3.type)) = some y3 ∧ DataW.trod enc P w base spare held n f4.type ((cs.drop f4.offset).take (P.cellsOf f4.type)) = some y4 ∧ DataW.trod enc P w base spare held n f5.type ((cs.drop f5.offset).take (P.cellsOf f5.type)) = some y5 ∧ DataW.trod enc P w base spare held n f6.type ((cs.drop f6.offset).take (P.cellsOf f6.type)) = some y6 := by
  obtain ⟨xs, n, _, rfl, hl, hlen, hf⟩ := DataW.trod_struct ht h
  match xs, hlen with
  | [y0, y1, y2, y3, y4, y5, y6], _ => exact ⟨y0, y1, y2, y3, y4, y5, y6, n, by simp, hl, by simpa using hf 0 f0 rfl, by simpa using hf 1 f1 rfl, by simpa using hf 2 f2 rfl, by simpa using hf 3 f3 rfl, by simpa using hf 4 f4 rfl, by simpa using hf 5 f5 rfl, by simpa using hf 6 f6 rfl⟩
theorem bytesIt : Tryz.prog.bytesOf 61 = 64 := by kernel_rfl
theorem cellsIt : Tryz.prog.cellsOf 61 = 5 := by kernel_rfl
set_option maxRecDepth 100000 in
theorem open_its {fuel : Nat} {v : Value} {y : DataW H × List MemPlace} (h : DataW.trod enc Tryz.prog w 0 spare held fuel 35 [v] = some y) (hw : ∀ n ∈ y.1.weights Tryz.prog 35, n ≤ reachBytes) :
    ∃ ao cap l, v = .slice ao (l : List It).length cap ∧ Sl ao l.length cap ∧ IsIts w ao l ∧ l.length * 64 ≤ 140737488351232 ∧ ∀ k, (l.getD k noIt).fit := by
  rcases DataW.trod_slice Tryz.underlying35 h with ⟨hcs, _⟩ | ⟨a, len, cap, elems, rest, fu, _, hcs, hx, _, hl, hm, hlen, hel, _, _⟩
  · simp only [List.cons.injEq, and_true] at hcs
    exact ⟨none, 0, [], hcs, ⟨Nat.le_refl _, fun _ => ⟨rfl, rfl⟩⟩, fun i hi => by simp at hi, by simp, fun k => by simp; exact noIt_fit⟩
  · simp only [List.cons.injEq, and_true] at hcs
    have hw0 := hw ((elems.map (·.1)).length * 64 + (rest.map (·.1)).length * 64) (by rw [hx]; simp [DataW.weights, Tryz.underlying35, bytesIt, Nat.add_mul])
    have each : ∀ i : Nat, ∃ t : It, t.fit ∧ (i < len → ∃ aj cj, w.cell? (a.add (i * 5)) = some (.bool t.neg) ∧ w.cell? (a.add (i * 5 + 1)) = some (.slice aj t.ty.length cj) ∧ w.cell? (a.add (i * 5 + 2)) = some (.string t.v) ∧ w.cell? (a.add (i * 5 + 3)) = some (.int .i64 t.lo) ∧ w.cell? (a.add (i * 5 + 4)) = some (.int .i64 t.hi) ∧ IsSs w aj t.ty ∧ Sl aj t.ty.length cj) := by
      intro i
      by_cases hi : i < len
      · have h1 := hel i hi
        rw [cellsIt, List.getElem?_eq_getElem (by omega), Option.bind_eq_some_iff] at h1
        obtain ⟨cs', h2, h3⟩ := h1
        obtain ⟨_, hcl, hce⟩ := World.cells?_some h2
        obtain ⟨c0, c1, c2, c3, c4, rfl⟩ := list5 hcl
        obtain ⟨y0, y1, y2, y3, y4, m, e1, _, g0, g1, g2, g3, g4⟩ := trod_struct5 Tryz.underlying61 h3
        have g0' : DataW.trod enc Tryz.prog w 0 spare held m 4 [c0] = some y0 := g0
        have g1' : DataW.trod enc Tryz.prog w 0 spare held m 57 [c1] = some y1 := g1
        have g2' : DataW.trod enc Tryz.prog w 0 spare held m 9 [c2] = some y2 := g2
        have g3' : DataW.trod enc Tryz.prog w 0 spare held m 3 [c3] = some y3 := g3
        have g4' : DataW.trod enc Tryz.prog w 0 spare held m 3 [c4] = some y4 := g4
        obtain ⟨b0, e0, _⟩ := DataW.trod_bool Tryz.underlying4 g0'
        obtain ⟨s2, e2, q2, _⟩ := DataW.trod_string Tryz.underlying9 g2'
        obtain ⟨n3, e3, _, w3⟩ := DataW.trod_int Tryz.underlying3 g3'
        obtain ⟨n4, e4, _, w4⟩ := DataW.trod_int Tryz.underlying3 g4'
        simp only [List.cons.injEq, and_true] at e0 e2 e3 e4
        subst e0; subst e2; subst e3; subst e4
        have hmem : (elems[i]'(by omega)).1 ∈ elems.map (·.1) := List.mem_map_of_mem (List.getElem_mem _)
        have hwi : ∀ n ∈ (elems[i]'(by omega)).1.weights Tryz.prog 61, n ≤ reachBytes := fun n hn => by
          refine hw n ?_
          rw [hx]
          simp only [DataW.weights, Tryz.underlying35, List.mem_cons, List.mem_append]
          exact .inr (.inl (nd_weights hmem n hn))
        rw [e1] at hwi
        simp only [DataW.weights, Tryz.underlying61, DataW.weightsEach, List.mem_append] at hwi
        obtain ⟨aj, cj, ss, e5, e6, e7, e8, e9⟩ := open_ss g1' (fun n hn => hwi n (by simp [DataW.weightsEach, hn]))
        subst e5
        have hs2 : s2.size ≤ 140737488351232 := by
          have h5 : s2.data.toList.length ≤ reachBytes := hwi _ (by simp [DataW.weightsEach, q2, DataW.weights])
          have h6 : s2.data.toList.length = s2.size := Array.length_toList
          unfold reachBytes at h5
          omega
        refine ⟨⟨b0, ss, s2, n3, n4⟩, ⟨nd_wf w3, nd_wf w4, hs2, e8, e9⟩, fun _ => ?_⟩
        have d0 := hce 0 (by omega)
        have d1 := hce 1 (by omega)
        have d2 := hce 2 (by omega)
        have d3 := hce 3 (by omega)
        have d4 := hce 4 (by omega)
        rw [nd_add] at d0 d1 d2 d3 d4
        exact ⟨aj, cj, by simpa using d0, by simpa using d1, by simpa using d2, by simpa using d3, by simpa using d4, e7, e6⟩
      · exact ⟨noIt, noIt_fit, fun h => absurd h hi⟩
    obtain ⟨f, hf⟩ : ∃ f : Nat → It, ∀ i : Nat, (f i).fit ∧ (i < len → ∃ aj cj, w.cell? (a.add (i * 5)) = some (.bool (f i).neg) ∧ w.cell? (a.add (i * 5 + 1)) = some (.slice aj (f i).ty.length cj) ∧ w.cell? (a.add (i * 5 + 2)) = some (.string (f i).v) ∧ w.cell? (a.add (i * 5 + 3)) = some (.int .i64 (f i).lo) ∧ w.cell? (a.add (i * 5 + 4)) = some (.int .i64 (f i).hi) ∧ IsSs w aj (f i).ty ∧ Sl aj (f i).ty.length cj) := ⟨fun j => Classical.choose (each j), fun j => Classical.choose_spec (each j)⟩
    have hget : ∀ j, j < len → ((List.range len).map f).getD j noIt = f j := fun j hj => by simp [List.getD, hj]
    have hlen2 : ((List.range len).map f).length = len := by simp
    have hel2 : (elems.map (·.1)).length = len := by rw [List.length_map]; omega
    refine ⟨some a, cap, (List.range len).map f, by rw [hlen2]; exact hcs, ⟨by rw [hlen2]; exact hl, fun e => by cases e⟩, fun i hi => ?_, by rw [hlen2]; unfold reachBytes at hw0; omega, fun k => ?_⟩
    · rw [hlen2] at hi
      obtain ⟨aj, cj, k0, k1, k2, k3, k4, k5, k6⟩ := (hf i).2 hi
      obtain ⟨_, _, z0, _⟩ := (hf 0).2 (by omega)
      obtain ⟨b, off, rfl⟩ := spotless (by simpa using z0)
      rw [add_plain] at k0 k1 k2 k3 k4
      rw [hget i hi]
      exact ⟨b, off, rfl, aj, cj, k0, by rw [Nat.add_assoc]; exact k1, by rw [Nat.add_assoc]; exact k2, by rw [Nat.add_assoc]; exact k3, by rw [Nat.add_assoc]; exact k4, k5, k6⟩
    · by_cases hk : k < len
      · rw [hget k hk]; exact (hf k).1
      · rw [List.getD_eq_getElem?_getD, List.getElem?_eq_none (by rw [hlen2]; omega)]; exact noIt_fit
theorem cellsQy : Tryz.prog.cellsOf 40 = 7 := by kernel_rfl
set_option maxRecDepth 100000 in
theorem open_query {fuel : Nat} {cs : Array Value} {y : DataW H × List MemPlace} (hz : cs.size = 7) (h : DataW.trod enc Tryz.prog w 0 spare held fuel 40 cs.toList = some y) (hw : ∀ n ∈ y.1.weights Tryz.prog 40, n ≤ reachBytes) :
    ∃ q ai ci aw cw ar cr, IsQ w q cs ai ci aw cw ar cr ∧ q.fit := by
  obtain ⟨l⟩ := cs
  obtain ⟨c0, c1, c2, c3, c4, c5, c6, rfl⟩ := list7 (show l.length = 7 from hz)
  obtain ⟨y0, y1, y2, y3, y4, y5, y6, m, e, _, g0, g1, g2, g3, g4, g5, g6⟩ := trod_struct7 Tryz.underlying40 h
  have g0' : DataW.trod enc Tryz.prog w 0 spare held m 35 [c0] = some y0 := g0
  have g1' : DataW.trod enc Tryz.prog w 0 spare held m 36 [c1] = some y1 := g1
  have g2' : DataW.trod enc Tryz.prog w 0 spare held m 37 [c2] = some y2 := g2
  have g3' : DataW.trod enc Tryz.prog w 0 spare held m 22 [c3] = some y3 := g3
  have g4' : DataW.trod enc Tryz.prog w 0 spare held m 2 [c4] = some y4 := g4
  have g5' : DataW.trod enc Tryz.prog w 0 spare held m 9 [c5] = some y5 := g5
  have g6' : DataW.trod enc Tryz.prog w 0 spare held m 38 [c6] = some y6 := g6
  rw [e] at hw
  simp only [DataW.weights, Tryz.underlying40, DataW.weightsEach, List.mem_append] at hw
  obtain ⟨ai, ci, its, i1, i2, i3, i4, i5⟩ := open_its g0' (fun n hn => hw n (by simp [DataW.weightsEach, hn]))
  obtain ⟨n1, e1, _, w1⟩ := DataW.trod_int Tryz.underlying36 g1'
  obtain ⟨n2, e2, _, w2⟩ := DataW.trod_int Tryz.underlying37 g2'
  obtain ⟨aw, cw, wh, h1, h2, h3, h4, h5, h6⟩ := open_nds g3' (fun n hn => hw n (by simp [DataW.weightsEach, hn]))
  obtain ⟨n4, e4, _, w4⟩ := DataW.trod_int Tryz.underlying2 g4'
  obtain ⟨s5, e5, q5, _⟩ := DataW.trod_string Tryz.underlying9 g5'
  obtain ⟨ar, cr, rt, r1, r2, r3, r4, r5⟩ := open_nss g6' (fun n hn => hw n (by simp [DataW.weightsEach, hn]))
  have hs5 : s5.size ≤ 140737488351232 := by
    have h7 : s5.data.toList.length ≤ reachBytes := hw _ (by simp [DataW.weightsEach, q5, DataW.weights])
    have h8 : s5.data.toList.length = s5.size := Array.length_toList
    unfold reachBytes at h7
    omega
  simp only [List.cons.injEq, and_true] at e1 e2 e4 e5
  subst i1 e1 e2 h1 e4 e5 r1
  exact ⟨⟨its, n1, n2, wh, n4, s5, rt⟩, ai, ci, aw, cw, ar, cr, ⟨rfl, i3, h4, r3, i2, ⟨h2, h3⟩, r2⟩, ⟨i4, i5, nd_wf w1, nd_wf w2, nd_wf w4, hs5, ⟨h5, h6⟩, r4, r5⟩⟩
end

end Go.Proofs.YtlejhococjlijaaGreatDoor
