/- Epochs that come in. -/
import Derived.Test.YtjfbbfmnghccdaaGas
import Derived.Test.YtjfbbfmnghccdaaGar
import Derived.Test.YtjfbbfmnghccdaaGlb
namespace Go.Proofs.Ytjfbbfmnghccdaa
open Go.ChangeShapes Go.WideShapes Go.ChangeAt Go.RowKit Go.BigFrame Go.Maps
set_option linter.unusedVariables false
set_option linter.unusedSimpArgs false

/-- An epoch: its events and its mark. -/
structure Epo where
  ao : Option Addr
  cap : Nat
  l : List Ev
  m : Int
def epoC (e : Epo) : Array Value := #[.slice e.ao e.l.length e.cap, .int .i64 e.m]
theorem epo_size (e : Epo) : (epoC e).size = 2 := rfl
def zeroEp : Epo := ⟨none, 0, [], 0⟩
structure EpoOk (w : World) (e : Epo) : Prop where
  sl : Sl e.ao e.l.length e.cap
  fl : Flat w e.ao (fl evC e.l)
  hl : e.l.length * 88 ≤ 140737488351232
  ok : ∀ k, (e.l.getD k zeroE).ok
theorem bytesEpo : Try.prog.bytesOf 59 = 32 := by kernel_rfl
theorem cellsEpo : Try.prog.cellsOf 59 = 2 := by kernel_rfl
section
variable {H : Type} {enc : TypeId × Value → H} {w : World} {spare : Nat → Bool} {held : Bool}
set_option maxRecDepth 100000 in
theorem open_epo {fuel : Nat} {l : List Value} {y : DataW H × List MemPlace} (hl : l.length = 2) (h : DataW.trod enc Try.prog w 0 spare held fuel 59 l = some y) (hw : ∀ n ∈ y.1.weights Try.prog 59, n ≤ reachBytes) : ∃ o : Epo, EpoOk w o ∧ l = (epoC o).toList := by
  obtain ⟨c0, c1, rfl⟩ : ∃ c0 c1, l = [c0, c1] := by
    match l, hl with
    | [c0, c1], _ => exact ⟨c0, c1, rfl⟩
  obtain ⟨y0, y1, m, rfl, _, g0, g1⟩ := trod_struct2 Try.underlying59 h
  have g0' : DataW.trod enc Try.prog w 0 spare held m 22 [c0] = some y0 := g0
  have g1' : DataW.trod enc Try.prog w 0 spare held m 2 [c1] = some y1 := g1
  simp only [DataW.weights, Try.underlying59, DataW.weightsEach, List.mem_append] at hw
  obtain ⟨ao, cap, l, e0, a1, a2, a3, a4⟩ := open_evrow g0' (fun n hn => hw n (by simp [DataW.weightsEach, hn]))
  obtain ⟨n1, e1, _, r1⟩ := DataW.trod_int Try.underlying2 g1'
  simp only [List.cons.injEq, and_true] at e1
  subst e0 e1
  exact ⟨⟨ao, cap, l, n1⟩, ⟨a1, a2, a3, a4⟩, rfl⟩
theorem open_eprow {fuel : Nat} {v : Value} {y : DataW H × List MemPlace} (h : DataW.trod enc Try.prog w 0 spare held fuel 52 [v] = some y) (hw : ∀ n ∈ y.1.weights Try.prog 52, n ≤ reachBytes) :
    ∃ ao cap l, v = .slice ao (l : List Epo).length cap ∧ Sl ao l.length cap ∧ Flat w ao (fl epoC l) ∧ l.length * 32 ≤ 140737488351232 ∧ ∀ k, EpoOk w (l.getD k zeroEp) :=
  open_row Try.underlying52 bytesEpo cellsEpo (by decide) epoC (fun x => rfl) zeroEp (EpoOk w) ⟨⟨Nat.le_refl _, fun _ => ⟨rfl, rfl⟩⟩, Flat.nil _ _, by simp [zeroEp], fun k => by simpa [zeroEp] using zeroE_ok⟩ (fun hl ht hw => open_epo hl ht hw) h hw
end

end Go.Proofs.Ytjfbbfmnghccdaa
