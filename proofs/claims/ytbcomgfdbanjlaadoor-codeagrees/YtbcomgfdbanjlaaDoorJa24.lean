/- A program and an environment that come in; the table of operands. And what goes with it: 1 texts in one. -/
import Derived.Test.YtbcomgfdbanjlaaDoorJa23
namespace Go.Proofs.YtbcomgfdbanjlaaDoor
open Go.ChangeShapes Go.WideShapes Go.ChangeAt Go.RowKit Go.BigFrame
set_option linter.unusedVariables false
set_option linter.unusedSimpArgs false

theorem wfF7 {n : Int} (h : (Lit.int .i64 n).wf = true) : fitsB n = true := by
  unfold fitsB
  exact decide_eq_true (wfI7 h)
theorem noIn_ok7 : noIn.ok := ⟨by decide, by decide⟩
section
variable {H : Type} {enc : TypeId × Value → H} {w : World} {spare : Nat → Bool} {held : Bool}
theorem trod_s5 {P : Program} {base : Nat} {t : TypeId} {f0 f1 f2 f3 f4 : Field} {fuel : Nat} {cs : List Value} {x : DataW H × List MemPlace} (ht : P.underlying t = some (.struct #[f0, f1, f2, f3, f4])) (h : DataW.trod enc P w base spare held fuel t cs = some x) :
    ∃ y0 y1 y2 y3 y4 n, x.1 = .agg [y0.1, y1.1, y2.1, y3.1, y4.1] ∧ cs.length = P.cellsOf t ∧ DataW.trod enc P w base spare held n f0.type ((cs.drop f0.offset).take (P.cellsOf f0.type)) = some y0 ∧ DataW.trod enc P w base spare held n f1.type ((cs.drop f1.offset).take (P.cellsOf f1.type)) = some y1 ∧ DataW.trod enc P w base spare held n f2.type ((cs.drop f2.offset).take (P.cellsOf f2.type)) = some y2 ∧ DataW.trod enc P w base spare held n f3.type ((cs.drop f3.offset).take (P.cellsOf f3.type)) = some y3 ∧ DataW.trod enc P w base spare held n f4.type ((cs.drop f4.offset).take (P.cellsOf f4.type)) = some y4 := by
  obtain ⟨xs, n, _, rfl, hl, hlen, hf⟩ := DataW.trod_struct ht h
  match xs, hlen with
  | [y0, y1, y2, y3, y4], _ => exact ⟨y0, y1, y2, y3, y4, n, by simp, hl, by simpa using hf 0 f0 rfl, by simpa using hf 1 f1 rfl, by simpa using hf 2 f2 rfl, by simpa using hf 3 f3 rfl, by simpa using hf 4 f4 rfl⟩
theorem trod_s3 {P : Program} {base : Nat} {t : TypeId} {f0 f1 f2 : Field} {fuel : Nat} {cs : List Value} {x : DataW H × List MemPlace} (ht : P.underlying t = some (.struct #[f0, f1, f2])) (h : DataW.trod enc P w base spare held fuel t cs = some x) :
    ∃ y0 y1 y2 n, x.1 = .agg [y0.1, y1.1, y2.1] ∧ cs.length = P.cellsOf t ∧ DataW.trod enc P w base spare held n f0.type ((cs.drop f0.offset).take (P.cellsOf f0.type)) = some y0 ∧ DataW.trod enc P w base spare held n f1.type ((cs.drop f1.offset).take (P.cellsOf f1.type)) = some y1 ∧ DataW.trod enc P w base spare held n f2.type ((cs.drop f2.offset).take (P.cellsOf f2.type)) = some y2 := by
  obtain ⟨xs, n, _, rfl, hl, hlen, hf⟩ := DataW.trod_struct ht h
  match xs, hlen with
  | [y0, y1, y2], _ => exact ⟨y0, y1, y2, n, by simp, hl, by simpa using hf 0 f0 rfl, by simpa using hf 1 f1 rfl, by simpa using hf 2 f2 rfl⟩
theorem trod_s2 {P : Program} {base : Nat} {t : TypeId} {f0 f1 : Field} {fuel : Nat} {cs : List Value} {x : DataW H × List MemPlace} (ht : P.underlying t = some (.struct #[f0, f1])) (h : DataW.trod enc P w base spare held fuel t cs = some x) :
    ∃ y0 y1 n, x.1 = .agg [y0.1, y1.1] ∧ cs.length = P.cellsOf t ∧ DataW.trod enc P w base spare held n f0.type ((cs.drop f0.offset).take (P.cellsOf f0.type)) = some y0 ∧ DataW.trod enc P w base spare held n f1.type ((cs.drop f1.offset).take (P.cellsOf f1.type)) = some y1 := by
  obtain ⟨xs, n, _, rfl, hl, hlen, hf⟩ := DataW.trod_struct ht h
  match xs, hlen with
  | [y0, y1], _ => exact ⟨y0, y1, n, by simp, hl, by simpa using hf 0 f0 rfl, by simpa using hf 1 f1 rfl⟩
set_option maxRecDepth 100000 in
theorem open_ins7 {fuel : Nat} {l : List Value} {y : DataW H × List MemPlace} (hl : l.length = 5) (h : DataW.trod enc Tryd.prog w 0 spare held fuel 67 l = some y) : ∃ i : Ins, i.ok ∧ l = (insC i).toList := by
  obtain ⟨c0, c1, c2, c3, c4, rfl⟩ : ∃ c0 c1 c2 c3 c4, l = [c0, c1, c2, c3, c4] := by
    match l, hl with
    | [c0, c1, c2, c3, c4], _ => exact ⟨c0, c1, c2, c3, c4, rfl⟩
  obtain ⟨y0, y1, y2, y3, y4, m, _, _, g0, g1, g2, g3, g4⟩ := trod_s5 Tryd.underlying67 h
  have g0' : DataW.trod enc Tryd.prog w 0 spare held m 65 [c0] = some y0 := g0
  have g1' : DataW.trod enc Tryd.prog w 0 spare held m 3 [c1] = some y1 := g1
  have g2' : DataW.trod enc Tryd.prog w 0 spare held m 3 [c2] = some y2 := g2
  have g3' : DataW.trod enc Tryd.prog w 0 spare held m 2 [c3] = some y3 := g3
  have g4' : DataW.trod enc Tryd.prog w 0 spare held m 3 [c4] = some y4 := g4
  obtain ⟨n0, e0, _, _⟩ := DataW.trod_int Tryd.underlying65 g0'
  obtain ⟨n1, e1, _, _⟩ := DataW.trod_int Tryd.underlying3 g1'
  obtain ⟨n2, e2, _, _⟩ := DataW.trod_int Tryd.underlying3 g2'
  obtain ⟨n3, e3, _, r3⟩ := DataW.trod_int Tryd.underlying2 g3'
  obtain ⟨n4, e4, _, r4⟩ := DataW.trod_int Tryd.underlying3 g4'
  simp only [List.cons.injEq, and_true] at e0 e1 e2 e3 e4
  subst e0 e1 e2 e3 e4
  exact ⟨⟨n0, n1, n2, n3, n4⟩, ⟨wfF7 r3, wfF7 r4⟩, rfl⟩
theorem open_code7 {fuel : Nat} {v : Value} {y : DataW H × List MemPlace} (h : DataW.trod enc Tryd.prog w 0 spare held fuel 37 [v] = some y) (hw : ∀ n ∈ y.1.weights Tryd.prog 37, n ≤ reachBytes) :
    ∃ ao cap l, v = .slice ao (l : List Ins).length cap ∧ Sl ao l.length cap ∧ Flat w ao (fl insC l) ∧ l.length * 40 ≤ 140737488351232 ∧ ∀ k, (l.getD k noIn).ok :=
  open_row Tryd.underlying37 bytesIr7 cellsIr7 (by decide) insC (fun _ => rfl) noIn Ins.ok noIn_ok7 (fun hl ht _ => open_ins7 hl ht) h hw
theorem cellsPg : Tryd.prog.cellsOf 40 = 2 := by kernel_rfl
theorem cellsEn : Tryd.prog.cellsOf 49 = 3 := by kernel_rfl
set_option maxRecDepth 100000 in
theorem open_prog {fuel : Nat} {cs : Array Value} {y : DataW H × List MemPlace} (hcz : cs.size = 2) (h : DataW.trod enc Tryd.prog w 0 spare held fuel 40 cs.toList = some y) (hw : ∀ n ∈ y.1.weights Tryd.prog 40, n ≤ reachBytes) :
    ∃ (p : Prg) (ai : Option Addr) (ci : Nat) (ac : Option Addr) (cc : Nat), .agg cs = prgA p ai ci ac cc ∧ IsPr w p ai ci ac cc ∧ p.ok := by
  obtain ⟨l⟩ := cs
  obtain ⟨c0, c1, rfl⟩ : ∃ c0 c1, l = [c0, c1] := by
    match l, hcz with
    | [c0, c1], _ => exact ⟨c0, c1, rfl⟩
  obtain ⟨y0, y1, m, e1, _, g0, g1⟩ := trod_s2 Tryd.underlying40 h
  have g0' : DataW.trod enc Tryd.prog w 0 spare held m 37 [c0] = some y0 := g0
  have g1' : DataW.trod enc Tryd.prog w 0 spare held m 38 [c1] = some y1 := g1
  rw [e1] at hw
  simp only [DataW.weights, Tryd.underlying40, DataW.weightsEach, List.mem_append] at hw
  obtain ⟨ai, ci, code, a1, a2, a3, a4, a5⟩ := open_code7 g0' (fun n hn => hw n (by simp [DataW.weightsEach, hn]))
  obtain ⟨ac, cc, cols, b1, b2, b3, b4, b5⟩ := open_cols7 g1' (fun n hn => hw n (by simp [DataW.weightsEach, hn]))
  subst a1 b1
  exact ⟨⟨code, cols⟩, ai, ci, ac, cc, rfl, ⟨a3, a2, b3, b2⟩, ⟨a4, b4, b5, a5⟩⟩
set_option maxRecDepth 100000 in
theorem open_env {fuel : Nat} {cs : Array Value} {y : DataW H × List MemPlace} (hcz : cs.size = 3) (h : DataW.trod enc Tryd.prog w 0 spare held fuel 49 cs.toList = some y) (hw : ∀ n ∈ y.1.weights Tryd.prog 49, n ≤ reachBytes) :
    ∃ (E : Envr) (al : Option Addr) (cl : Nat), .agg cs = envA al cl E ∧ IsEnv w E al cl ∧ ((∀ k, (E.lists.getD k []).length ≤ 2147483647) → E.ok) ∧ E.lists.length * 24 ≤ 140737488351232 ∧ ∀ k, (E.lists.getD k []).length * 88 ≤ 140737488351232 := by
  obtain ⟨l⟩ := cs
  obtain ⟨c0, c1, c2, rfl⟩ : ∃ c0 c1 c2, l = [c0, c1, c2] := by
    match l, hcz with
    | [c0, c1, c2], _ => exact ⟨c0, c1, c2, rfl⟩
  obtain ⟨y0, y1, y2, m, e1, _, g0, g1, g2⟩ := trod_s3 Tryd.underlying49 h
  have g0' : DataW.trod enc Tryd.prog w 0 spare held m 47 [c0] = some y0 := g0
  have g1' : DataW.trod enc Tryd.prog w 0 spare held m 3 [c1] = some y1 := g1
  have g2' : DataW.trod enc Tryd.prog w 0 spare held m 3 [c2] = some y2 := g2
  obtain ⟨n1, q1, _, r1⟩ := DataW.trod_int Tryd.underlying3 g1'
  obtain ⟨n2, q2, _, r2⟩ := DataW.trod_int Tryd.underlying3 g2'
  simp only [List.cons.injEq, and_true] at q1 q2
  rw [e1] at hw
  simp only [DataW.weights, Tryd.underlying49, DataW.weightsEach, List.mem_append] at hw
  obtain ⟨ai, ci, ls, a1, a2, a3, a4, a5⟩ := open_lists7 g0' (fun n hn => hw n (by simp [DataW.weightsEach, hn]))
  subst a1 q1 q2
  exact ⟨⟨ls, n1, n2⟩, ai, ci, rfl, ⟨a3, a2⟩, fun hb => ⟨a4, fun k => (a5 k).1, fun k => (a5 k).2, wfF7 r1, wfF7 r2, hb⟩, a4, fun k => (a5 k).1⟩
end
def opl : List Int := [0, 0, 0, 0, 0, 0, 0, 0, 0, 0, 1, 1, 2, 2, 2, 2, 2, 2, 2, 2, 2, 2, 2, 2, 2, 1, 1]
theorem opl_at : ∀ i, i < 27 → opl[i]? = some (ndsI (i : Nat) : Int) := by decide
theorem gOp : Tryd.prog.globalNamed "sluice/code.operands" = some 1 := by kernel_rfl
theorem opAt_of {W : World} {rest : List (String × DataW Unit)} (h : laidMet Tryd.prog (("sluice/code.operands", Lib.tabData .i64 opl) :: rest) W) : OpAt W := by
  have hT := Lib.tabIs_of_head (g := 1) (t := 127) (e := 3) (n := 27) (rest := rest) gOp (by kernel_rfl) (by kernel_rfl) (by kernel_rfl) (by kernel_rfl) (by kernel_rfl) h
  have key : ∀ i : Nat, i < 27 → W.cell? ⟨1, i, none⟩ = some (.int .i64 (ndsI i : Int)) := fun i hi => by
    rw [hT.cell gOp i (by simpa [opl] using hi)]
    have e := opl_at i hi
    have e2 := (List.getElem?_eq_some_iff.1 e).2
    rw [List.getD_eq_getElem?_getD, e]; rfl
  exact ⟨block_of (key 0 (by omega)), fun i _ hi => key i hi⟩

end Go.Proofs.YtbcomgfdbanjlaaDoor
