/- How rows of events, of names, of truths, of numbers that come in are opened. -/
import Derived.Test.YthjnkcapjhelgaaRw0
import Derived.Test.YthjnkcapjhelgaaHpb
import Derived.ChangeArms
import Derived.ChangeSame
import Derived.SizedLaws
import Derived.Lib.SmallJoins
import Derived.WideShapes
namespace Go.Proofs.Ythjnkcapjhelgaa
open Go.ChangeShapes Go.WideShapes Go.ChangeAt Go.RowKit Go.BigFrame
set_option linter.unusedVariables false
set_option linter.unusedSimpArgs false

theorem nd_add (a : Addr) (m j : Nat) : (a.add m).add j = a.add (m + j) := by
  unfold Addr.add
  by_cases hm : m = 0
  · subst hm; simp
  · by_cases hj : j = 0
    · subst hj; simp
    · rw [if_neg hm, if_neg hj, if_neg (by omega)]
      simp [Nat.add_assoc]
theorem nd_weights {H : Type} {P : Program} {e : TypeId} : ∀ {l : List (DataW H)} {d : DataW H}, d ∈ l → ∀ n ∈ d.weights P e, n ∈ DataW.weightsAll P e l
  | d :: l, _, .head _ => fun n hn => by simp [DataW.weightsAll, hn]
  | d :: l, _, .tail _ h => fun n hn => by simp [DataW.weightsAll, nd_weights h n hn]
theorem spotless {w : World} {a : Addr} {v : Value} (h : w.cell? (a.add 0) = some v) : ∃ b off, a = ⟨b, off, none⟩ := by
  obtain ⟨b, off, spot⟩ := a
  cases spot with
  | none => exact ⟨b, off, rfl⟩
  | some s => have := World.cell?_spot h; simp [Addr.add] at this
section
variable {H : Type} {enc : TypeId × Value → H} {w : World} {spare : Nat → Bool} {held : Bool}
/-- A row whose elements can each be opened. -/
theorem open_row {β : Type} {P : Program} {TS T : TypeId} {sz by_ : Nat} (hu : P.underlying TS = some (.slice T)) (hby : P.bytesOf T = by_) (hcs : P.cellsOf T = sz) (hsz : 0 < sz) (cv : β → Array Value) (hc : ∀ x, (cv x).size = sz) (z : β) (ok : β → Prop) (hz : ok z)
    (el : ∀ {fuel : Nat} {cs : List Value} {y : DataW H × List MemPlace}, cs.length = sz → DataW.trod enc P w 0 spare held fuel T cs = some y → (∀ n ∈ y.1.weights P T, n ≤ reachBytes) → ∃ t : β, ok t ∧ cs = (cv t).toList)
    {fuel : Nat} {v : Value} {y : DataW H × List MemPlace} (h : DataW.trod enc P w 0 spare held fuel TS [v] = some y) (hw : ∀ n ∈ y.1.weights P TS, n ≤ reachBytes) :
    ∃ ao cap l, v = .slice ao (l : List β).length cap ∧ Sl ao l.length cap ∧ Flat w ao (fl cv l) ∧ l.length * by_ ≤ 140737488351232 ∧ ∀ k, ok (l.getD k z) := by
  rcases DataW.trod_slice hu h with ⟨hcs', _⟩ | ⟨a, len, cap, elems, rest, fu, _, hcs', hx, _, hl, hm, hlen, hel, _, _⟩
  · simp only [List.cons.injEq, and_true] at hcs'
    exact ⟨none, 0, [], hcs', ⟨Nat.le_refl _, fun _ => ⟨rfl, rfl⟩⟩, Flat.nil _ _, by simp, fun k => by simpa using hz⟩
  · simp only [List.cons.injEq, and_true] at hcs'
    have hw0 := hw ((elems.map (·.1)).length * by_ + (rest.map (·.1)).length * by_) (by rw [hx]; simp [DataW.weights, hu, hby, Nat.add_mul])
    have each : ∀ i : Nat, ∃ t : β, ok t ∧ (i < len → ∀ j u, (cv t).toList[j]? = some u → w.cell? (a.add (i * sz + j)) = some u) := by
      intro i
      by_cases hi : i < len
      · have h1 := hel i hi
        rw [hcs, List.getElem?_eq_getElem (by omega), Option.bind_eq_some_iff] at h1
        obtain ⟨cs', h2, h3⟩ := h1
        obtain ⟨_, hcl, hce⟩ := World.cells?_some h2
        have hmem : (elems[i]'(by omega)).1 ∈ elems.map (·.1) := List.mem_map_of_mem (List.getElem_mem _)
        have hw1 : ∀ n ∈ (elems[i]'(by omega)).1.weights P T, n ≤ reachBytes := fun n hn => by
          refine hw n ?_
          rw [hx]
          simp only [DataW.weights, hu, List.mem_cons, List.mem_append]
          exact .inr (.inl (nd_weights hmem n hn))
        obtain ⟨t, ht, he⟩ := el hcl h3 hw1
        refine ⟨t, ht, fun _ j u hj => ?_⟩
        have hjl : j < cs'.length := by rw [he]; exact (List.getElem?_eq_some_iff.1 hj).1
        have d := hce j (by omega)
        rw [nd_add] at d
        rw [d, he]
        exact hj
      · exact ⟨z, hz, fun h => absurd h hi⟩
    obtain ⟨f, hf⟩ : ∃ f : Nat → β, ∀ i : Nat, ok (f i) ∧ (i < len → ∀ j u, (cv (f i)).toList[j]? = some u → w.cell? (a.add (i * sz + j)) = some u) := ⟨fun j => Classical.choose (each j), fun j => Classical.choose_spec (each j)⟩
    have hget : ∀ j, j < len → ((List.range len).map f).getD j z = f j := fun j hj => by simp [List.getD, hj]
    have hlen2 : ((List.range len).map f).length = len := by simp
    have hel2 : (elems.map (·.1)).length = len := by rw [List.length_map]; omega
    refine ⟨some a, cap, (List.range len).map f, by rw [hlen2]; exact hcs', ⟨by rw [hlen2]; exact hl, fun e => by cases e⟩, fun m u hm2 => ?_, by rw [hlen2]; rw [hel2] at hw0; unfold reachBytes at hw0; exact Nat.le_trans (Nat.le_add_right _ _) hw0, fun k => ?_⟩
    · have hml := (List.getElem?_eq_some_iff.1 hm2).1
      rw [fl_len hc, hlen2] at hml
      have hi : m / sz < len := Nat.div_lt_of_lt_mul (by rw [Nat.mul_comm]; exact hml)
      have hmj : m / sz * sz + m % sz = m := by rw [Nat.mul_comm]; exact Nat.div_add_mod m sz
      have hjs : m % sz < sz := Nat.mod_lt _ hsz
      have e1 := fl_at hc z ((List.range len).map f) (m / sz) (m % sz) (by rw [hlen2]; exact hi) hjs
      rw [hmj, hget _ hi, hm2] at e1
      have c1 := (hf (m / sz)).2 hi (m % sz) u e1.symm
      rw [hmj] at c1
      have c00 : ∃ v0, w.cell? (a.add 0) = some v0 := by
        have h0 : 0 < (cv (f 0)).toList.length := by rw [Array.length_toList, hc]; exact hsz
        exact ⟨_, by have := (hf 0).2 (Nat.lt_of_le_of_lt (Nat.zero_le _) hi) 0 _ (List.getElem?_eq_getElem h0); simpa using this⟩
      obtain ⟨v0, c00⟩ := c00
      obtain ⟨b, off, rfl⟩ := spotless c00
      rw [add_plain] at c1
      exact ⟨b, off, rfl, c1⟩
    · by_cases hk : k < len
      · rw [hget k hk]; exact (hf k).1
      · rw [List.getD_eq_getElem?_getD, List.getElem?_eq_none (by rw [hlen2]; omega)]; simpa using hz
theorem wfI7 {n : Int} (h : (Lit.int .i64 n).wf = true) : -9223372036854775808 ≤ n ∧ n ≤ 9223372036854775807 := by
  have h' : (decide (IntKind.min .i64 ≤ n) && decide (n ≤ IntKind.max .i64)) = true := h
  rw [Bool.and_eq_true, decide_eq_true_eq, decide_eq_true_eq] at h'
  have e1 : IntKind.min .i64 = -9223372036854775808 := by decide +kernel
  have e2 : IntKind.max .i64 = 9223372036854775807 := by decide +kernel
  rw [e1, e2] at h'
  exact h'
theorem wfU7 {n : Int} (h : (Lit.int .u64 n).wf = true) : 0 ≤ n ∧ n < 18446744073709551616 := by
  have h' : (decide (IntKind.min .u64 ≤ n) && decide (n ≤ IntKind.max .u64)) = true := h
  rw [Bool.and_eq_true, decide_eq_true_eq, decide_eq_true_eq] at h'
  have e1 : IntKind.min .u64 = 0 := by decide +kernel
  have e2 : IntKind.max .u64 = 18446744073709551615 := by decide +kernel
  rw [e1, e2] at h'
  omega
theorem cells7 : Try.prog.cellsOf 2 = 1 := by kernel_rfl
set_option maxRecDepth 100000 in
theorem open_ev7 {fuel : Nat} {l : List Value} {y : DataW H × List MemPlace} (hl : l.length = 11) (h : DataW.trod enc Try.prog w 0 spare held fuel 47 l = some y) : ∃ e : Ev, e.ok ∧ l = (evC e).toList := by
  obtain ⟨c0, c1, c2, c3, c4, c5, c6, c7, c8, c9, c10, rfl⟩ : ∃ c0 c1 c2 c3 c4 c5 c6 c7 c8 c9 c10, l = [c0, c1, c2, c3, c4, c5, c6, c7, c8, c9, c10] := by
    match l, hl with
    | [c0, c1, c2, c3, c4, c5, c6, c7, c8, c9, c10], _ => exact ⟨c0, c1, c2, c3, c4, c5, c6, c7, c8, c9, c10, rfl⟩
  obtain ⟨y0, y1, y2, y3, m, _, _, g0, g1, g2, g3⟩ := Joins.trod_struct4 Try.underlying47 h
  have g0' : DataW.trod enc Try.prog w 0 spare held m 2 [c0] = some y0 := g0
  have g1' : DataW.trod enc Try.prog w 0 spare held m 44 [c1] = some y1 := g1
  have g2' : DataW.trod enc Try.prog w 0 spare held m 3 [c2] = some y2 := g2
  have g3' : DataW.trod enc Try.prog w 0 spare held m 45 [c3, c4, c5, c6, c7, c8, c9, c10] = some y3 := g3
  obtain ⟨n0, e0, _, r0⟩ := DataW.trod_int Try.underlying2 g0'
  obtain ⟨n1, e1, _, r1⟩ := DataW.trod_int Try.underlying44 g1'
  obtain ⟨n2, e2, _, _⟩ := DataW.trod_int Try.underlying3 g2'
  obtain ⟨xs, m2, _, _, _, hxl, hall⟩ := DataW.trod_array Try.underlying45 g3'
  have key : ∀ (i : Nat) (c : Value), i < 8 → [c3, c4, c5, c6, c7, c8, c9, c10][i]? = some c → ∃ n, c = .int .i64 n ∧ (Lit.int .i64 n).wf = true := fun i c hi hc => by
    have h1 := hall i hi
    rw [cells7, Nat.mul_one, List.getElem?_eq_getElem (show i < xs.length by omega)] at h1
    obtain ⟨n, e, _, rn⟩ := DataW.trod_int Try.underlying2 h1
    have h2 := congrArg (·[0]?) e
    simp only [List.getElem?_take, List.getElem?_drop, Nat.add_zero] at h2
    rw [if_pos (by decide), hc] at h2
    exact ⟨n, by simpa using h2, rn⟩
  obtain ⟨a0, k0, q0⟩ := key 0 c3 (by omega) rfl
  obtain ⟨a1, k1, q1⟩ := key 1 c4 (by omega) rfl
  obtain ⟨a2, k2, q2⟩ := key 2 c5 (by omega) rfl
  obtain ⟨a3, k3, q3⟩ := key 3 c6 (by omega) rfl
  obtain ⟨a4, k4, q4⟩ := key 4 c7 (by omega) rfl
  obtain ⟨a5, k5, q5⟩ := key 5 c8 (by omega) rfl
  obtain ⟨a6, k6, q6⟩ := key 6 c9 (by omega) rfl
  obtain ⟨a7, k7, q7⟩ := key 7 c10 (by omega) rfl
  simp only [List.cons.injEq, and_true] at e0 e1 e2
  subst e0 e1 e2 k0 k1 k2 k3 k4 k5 k6 k7
  refine ⟨⟨n0, n1, n2, a0, a1, a2, a3, a4, a5, a6, a7⟩, ⟨(wfI7 r0).1, (wfI7 r0).2, (wfU7 r1).1, (wfU7 r1).2, fun j hj => ?_, fun j hj => ?_⟩, rfl⟩
  all_goals rcases (show j = 0 ∨ j = 1 ∨ j = 2 ∨ j = 3 ∨ j = 4 ∨ j = 5 ∨ j = 6 ∨ j = 7 from by omega) with rfl | rfl | rfl | rfl | rfl | rfl | rfl | rfl
  all_goals first | exact (wfI7 q0).1 | exact (wfI7 q1).1 | exact (wfI7 q2).1 | exact (wfI7 q3).1 | exact (wfI7 q4).1 | exact (wfI7 q5).1 | exact (wfI7 q6).1 | exact (wfI7 q7).1 | exact (wfI7 q0).2 | exact (wfI7 q1).2 | exact (wfI7 q2).2 | exact (wfI7 q3).2 | exact (wfI7 q4).2 | exact (wfI7 q5).2 | exact (wfI7 q6).2 | exact (wfI7 q7).2
theorem bytesEv7 : Try.prog.bytesOf 47 = 88 := by kernel_rfl
theorem cellsEv7 : Try.prog.cellsOf 47 = 11 := by kernel_rfl
theorem open_evrow {fuel : Nat} {v : Value} {y : DataW H × List MemPlace} (h : DataW.trod enc Try.prog w 0 spare held fuel 39 [v] = some y) (hw : ∀ n ∈ y.1.weights Try.prog 39, n ≤ reachBytes) :
    ∃ ao cap l, v = .slice ao (l : List Ev).length cap ∧ Sl ao l.length cap ∧ Flat w ao (fl evC l) ∧ l.length * 88 ≤ 140737488351232 ∧ ∀ k, (l.getD k zeroE).ok :=
  open_row Try.underlying39 bytesEv7 cellsEv7 (by decide) evC (fun x => rfl) zeroE Ev.ok zeroE_ok (fun hl ht _ => open_ev7 hl ht) h hw
theorem bytesIn7 : Try.prog.bytesOf 3 = 8 := by kernel_rfl
theorem cellsIn7 : Try.prog.cellsOf 3 = 1 := by kernel_rfl
def inC (n : Int) : Array Value := #[.int .i64 n]
theorem open_inrow {fuel : Nat} {v : Value} {y : DataW H × List MemPlace} (h : DataW.trod enc Try.prog w 0 spare held fuel 27 [v] = some y) (hw : ∀ n ∈ y.1.weights Try.prog 27, n ≤ reachBytes) :
    ∃ ao cap l, v = .slice ao (l : List Int).length cap ∧ Sl ao l.length cap ∧ Flat w ao (fl inC l) ∧ l.length * 8 ≤ 140737488351232 ∧ ∀ k, (fun n : Int => -9223372036854775808 ≤ n ∧ n ≤ 9223372036854775807) (l.getD k 0) :=
  open_row Try.underlying27 bytesIn7 cellsIn7 (by decide) inC (fun x => rfl) 0 (fun n : Int => -9223372036854775808 ≤ n ∧ n ≤ 9223372036854775807) (by decide) (fun hl ht _ => by
    obtain ⟨n, e, _, r⟩ := DataW.trod_int Try.underlying3 ht
    exact ⟨n, wfI7 r, e⟩) h hw
theorem bytesNm7 : Try.prog.bytesOf 80 = 16 := by kernel_rfl
theorem cellsNm7 : Try.prog.cellsOf 80 = 2 := by kernel_rfl
set_option maxRecDepth 100000 in
theorem open_nm7 {fuel : Nat} {l : List Value} {y : DataW H × List MemPlace} (hl : l.length = 2) (h : DataW.trod enc Try.prog w 0 spare held fuel 80 l = some y) : ∃ e : Nm, True ∧ l = (nmC e).toList := by
  obtain ⟨c0, c1, rfl⟩ : ∃ c0 c1, l = [c0, c1] := by
    match l, hl with
    | [c0, c1], _ => exact ⟨c0, c1, rfl⟩
  obtain ⟨y0, y1, m, _, _, g0, g1⟩ := trod_struct2 Try.underlying80 h
  have g0' : DataW.trod enc Try.prog w 0 spare held m 2 [c0] = some y0 := g0
  have g1' : DataW.trod enc Try.prog w 0 spare held m 44 [c1] = some y1 := g1
  obtain ⟨n0, e0, _, r0⟩ := DataW.trod_int Try.underlying2 g0'
  obtain ⟨n1, e1, _, r1⟩ := DataW.trod_int Try.underlying44 g1'
  simp only [List.cons.injEq, and_true] at e0 e1
  subst e0 e1
  exact ⟨⟨n0, n1⟩, trivial, rfl⟩
theorem open_nmrow {fuel : Nat} {v : Value} {y : DataW H × List MemPlace} (h : DataW.trod enc Try.prog w 0 spare held fuel 26 [v] = some y) (hw : ∀ n ∈ y.1.weights Try.prog 26, n ≤ reachBytes) :
    ∃ ao cap l, v = .slice ao (l : List Nm).length cap ∧ Sl ao l.length cap ∧ Flat w ao (fl nmC l) ∧ l.length * 16 ≤ 140737488351232 ∧ ∀ k, (fun _ => True) (l.getD k ⟨0, 0⟩) :=
  open_row Try.underlying26 bytesNm7 cellsNm7 (by decide) nmC (fun x => rfl) ⟨0, 0⟩ (fun _ => True) trivial (fun hl ht _ => open_nm7 hl ht) h hw
end

end Go.Proofs.Ythjnkcapjhelgaa
