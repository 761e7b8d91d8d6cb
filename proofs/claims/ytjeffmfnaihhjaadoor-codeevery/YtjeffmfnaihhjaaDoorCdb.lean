/- What package code's small functions come to: known, listOf, count, place, opOf, jumps, isReady. -/
import Derived.Test.YtjeffmfnaihhjaaDoorCda
import Derived.Test.YtjeffmfnaihhjaaDoorTruthRef
namespace Go.Proofs.YtjeffmfnaihhjaaDoor
open Go.RowKit Go.BigFrame
set_option linter.unusedVariables false
set_option linter.unusedSimpArgs false

theorem evC_sz (e : Ev) : (evC e).size = 11 := rfl
theorem insC_sz (i : Ins) : (insC i).size = 5 := rfl
theorem intC_sz (z : Int) : (intC z).size = 1 := rfl
theorem valC_sz (x : V2) : (valC x).size = 2 := rfl
abbrev envA (al : Option Addr) (cl : Nat) (E : Envr) : Value := .agg #[.slice al E.lists.length cl, .int .i64 E.each, .int .i64 E.at_]

set_option maxHeartbeats 400000 in
theorem cknown_any (n : Int) (w : World) :
    Calls Tryd.prog 18 #[.int .i64 n] w fun e w' => e = .returned (.agg #[.bool true, .int .i64 n]) ∧ Below w.heap.size w w' := by
  go_enter Tryd.func18, Tryd.ntmps18
  go_wp2
  exact bodyPost_ret (v := .agg #[.bool true, .int .i64 n]) (by simp [results, Tryd.results18, go_sem]) rfl ⟨rfl, galloc (Below.refl _ _) _⟩

/-- The slice that listOf answers. -/
structure Lsl (w : World) (E : Envr) (item : Int) (a : Option Addr) (c : Nat) : Prop where
  sl : Sl a (lstO E item).length c
  fl : Flat w a (fl evC (lstO E item))
theorem Lsl.keep {w u : World} {E : Envr} {item : Int} {a : Option Addr} {c : Nat} (h : Lsl w E item a c) (G : Below w.heap.size w u) : Lsl u E item a c := ⟨h.sl, h.fl.keep G⟩

set_option maxHeartbeats 1000000 in
theorem listOf_any (E : Envr) (al : Option Addr) (cl : Nat) (item : Int) (w : World) (N : Nst w al evC E.lists) :
    ∃ a c, Lsl w E item a c ∧ ∀ u, Below w.heap.size w u → Calls Tryd.prog 31 #[envA al cl E, .int .i64 item] u fun e w' => e = .returned (.slice a (lstO E item).length c) ∧ Below u.heap.size u w' := by
  by_cases h0 : item < 0 ∨ (E.lists.length : Int) ≤ item
  · have hl : lstO E item = [] := if_pos h0
    rw [hl]
    refine ⟨none, 0, ⟨by rw [hl]; exact ⟨Nat.le_refl _, fun _ => ⟨rfl, rfl⟩⟩, by rw [hl]; exact Flat.nil _ _⟩, fun u G => ?_⟩
    by_cases h1 : item < 0
    · go_enter Tryd.func31, Tryd.ntmps31
      go_wp2
      go_ret
      exact ⟨rfl, galloc (Below.refl _ _) _⟩
    · have h2 : (E.lists.length : Int) ≤ item := by omega
      go_enter Tryd.func31, Tryd.ntmps31
      go_wp2
      go_ret
      exact ⟨rfl, galloc (Below.refl _ _) _⟩
  · obtain ⟨k, rfl⟩ : ∃ k : Nat, item = k := ⟨item.toNat, by omega⟩
    have hk : k < E.lists.length := by omega
    have hl : lstO E (k : Int) = E.lists.getD k [] := if_neg h0
    obtain ⟨g, o, a, c, rfl, a0, hf, hs⟩ := N k hk
    rw [hl]
    refine ⟨a, c, ⟨by rw [hl]; exact hs, by rw [hl]; exact hf⟩, fun u G => ?_⟩
    have a1 := (G.cell (p := ⟨_, _, none⟩) (lt_of_cell a0)).trans a0
    have hg : g < u.heap.size := lt_of_cell a1
    have h1 : ¬ (k : Int) < 0 := by omega
    have h2 : (k : Int) < (E.lists.length : Int) := by omega
    clear h0 a0 G N
    go_enter Tryd.func31, Tryd.ntmps31
    go_wp2
    go_ret
    exact ⟨rfl, galloc (Below.refl _ _) _⟩

set_option maxHeartbeats 1000000 in
theorem count_any (E : Envr) (al : Option Addr) (cl : Nat) (item : Int) (w : World) (N : Nst w al evC E.lists) (hl : (lstO E item).length ≤ 140737488351232) :
    Calls Tryd.prog 19 #[envA al cl E, .int .i64 item] w fun e w' => e = .returned (.agg #[.bool true, .int .i64 ((lstO E item).length : Int)]) ∧ Below w.heap.size w w' := by
  obtain ⟨a, c, L, hc⟩ := listOf_any E al cl item w N
  generalize (lstO E item).length = n at hc hl ⊢
  go_enter Tryd.func19, Tryd.ntmps19
  have B := galloc (galloc (Below.refl w.heap.size w) (.cells #[.slice al E.lists.length cl, .int .i64 E.each, .int .i64 E.at_] 28)) (.cells #[.bool false, .int .i64 0] 33)
  go_wp2_with (first
    | (go_at_call 31; (with_reducible refine (hc _ B).mono ?_); rintro e u ⟨rfl, g0⟩; have B1 := gtrans B g0)
    | (go_at_call 18; (with_reducible refine (cknown_any _ _).mono ?_); rintro e w1 ⟨rfl, g1⟩; have B2 := gtrans B1 g1; have g01 := gtrans g0 g1; obtain ⟨hc0, hf0⟩ := bcell g01))
  refine bodyPost_ret (v := .agg #[.bool true, .int .i64 (n : Int)]) (by simp [results, Tryd.results19, go_sem, hc0]) rfl ⟨rfl, ?_⟩
  exact gset (gset B2 (by simp) _) (by simp) _

set_option maxHeartbeats 1000000 in
theorem place_any (ac : Option Addr) (cc : Nat) (col : List Int) (typ : Int) (w : World) (hf : Flat w ac (fl intC col)) (hl : col.length ≤ 140737488351232) :
    Calls Tryd.prog 22 #[.slice ac col.length cc, .int .i64 typ] w fun e w' => e = .returned (.int .i64 (plcO col typ)) ∧ w = w' := by
  by_cases h0 : typ < 0
  · have : plcO col typ = -1 := if_pos (.inl h0)
    rw [this]
    go_enter Tryd.func22, Tryd.ntmps22
    go_wp2
    go_ret
    exact ⟨rfl, rfl⟩
  by_cases h1 : (col.length : Int) ≤ typ
  · have : plcO col typ = -1 := if_pos (.inr h1)
    rw [this]
    go_enter Tryd.func22, Tryd.ntmps22
    go_wp2
    go_ret
    exact ⟨rfl, rfl⟩
  · obtain ⟨k, rfl⟩ : ∃ k : Nat, typ = k := ⟨typ.toNat, by omega⟩
    have hk : k < col.length := by omega
    have : plcO col (k : Int) = col.getD k 0 := if_neg (by omega)
    rw [this]
    have e1 := fl_at intC_sz 0 col k 0 hk (by omega)
    obtain ⟨g, o, rfl, hg, hc⟩ := hf.form (by rw [fl_len intC_sz]; omega)
    rw [Nat.mul_one, Nat.add_zero] at e1
    have a0 := hc k (.int .i64 (col.getD k 0)) e1
    have h2 : (k : Int) < (col.length : Int) := by omega
    generalize col.getD k 0 = z at a0 ⊢
    clear e1 hc hf this
    go_enter Tryd.func22, Tryd.ntmps22
    go_wp2
    go_ret
    exact ⟨rfl, rfl⟩

set_option maxHeartbeats 1000000 in
theorem opOf_any (c : Int) (w : World) (h0 : 0 < c) (h1 : c < 27) :
    Calls Tryd.prog 21 #[.int .i64 c] w fun e w' => e = .returned (.int .i64 (opI c)) ∧ w = w' := by
  by_cases h2 : c = 2
  · subst h2
    go_enter Tryd.func21, Tryd.ntmps21
    go_wp2
    go_ret
    exact ⟨rfl, rfl⟩
  by_cases h3 : c = 3
  · subst h3
    go_enter Tryd.func21, Tryd.ntmps21
    go_wp2
    go_ret
    exact ⟨rfl, rfl⟩
  have e2 : (c == 2) = false := beq_eq_false_iff_ne.2 h2
  have e3 : (c == 3) = false := beq_eq_false_iff_ne.2 h3
  by_cases h9 : c ≤ 9
  · have : opI c = 6 + (c - 5) := by unfold opI; rw [if_neg h2, if_neg h3, if_pos h9]; omega
    rw [this]
    go_enter Tryd.func21, Tryd.ntmps21
    go_wp2
    go_ret
    exact ⟨rfl, rfl⟩
  · have : opI c = 14 + (c - 12) := by unfold opI; rw [if_neg h2, if_neg h3, if_neg h9]; omega
    rw [this]
    go_enter Tryd.func21, Tryd.ntmps21
    go_wp2
    go_ret
    exact ⟨rfl, rfl⟩

set_option maxHeartbeats 1000000 in
theorem jumps_any (c : Int) (x : V2) (w : World) :
    Calls Tryd.prog 25 #[.int .i64 c, VA x] w fun e w' => e = .returned (.bool (jmpB c x)) ∧ Below w.heap.size w w' := by
  obtain ⟨k, n⟩ := x
  cases k
  · show Calls _ _ _ _ fun e w' => e = .returned (.bool false) ∧ _
    go_enter Tryd.func25, Tryd.ntmps25
    go_wp2
    go_ret
    exact ⟨rfl, galloc (Below.refl _ _) _⟩
  · show Calls _ _ _ _ fun e w' => e = .returned (.bool ((rd true n == 2) == (c == 26))) ∧ _
    generalize hr : (rd true n == 2) = r
    go_enter Tryd.func25, Tryd.ntmps25
    go_wp2_with (go_at_call 29; (with_reducible refine (true_any true n _).mono ?_); rintro e w0 ⟨rfl, g0⟩; rw [hr])
    go_ret
    exact ⟨rfl, gtrans (galloc (Below.refl _ _) _) g0⟩

/-- The operands' table as the text lays it. -/
structure OpAt (w : World) : Prop where
  sz : 0 < w.heap.size
  at_ : ∀ i : Nat, 0 < i → i < 27 → w.cell? ⟨0, i, none⟩ = some (.int .i64 (ndsI i : Int))
theorem OpAt.keep {w u : World} (h : OpAt w) (G : Below w.heap.size w u) : OpAt u := ⟨Nat.lt_of_lt_of_le h.sz G.size, fun i h0 h1 => (G.cell (p := ⟨_, _, none⟩) h.sz).trans (h.at_ i h0 h1)⟩

set_option maxHeartbeats 1000000 in
theorem isReady_any (c : Int) (n : Nat) (w : World) (hO : OpAt w) :
    Calls Tryd.prog 17 #[.int .i64 c, .int .i64 (n : Int)] w fun e w' => e = .returned (.bool (decide (0 < c ∧ c < 27 ∧ ndsI c ≤ n))) ∧ w = w' := by
  by_cases h0 : 0 < c
  · by_cases h1 : c < 27
    · obtain ⟨k, rfl⟩ : ∃ k : Nat, c = k := ⟨c.toNat, by omega⟩
      have a0 := hO.at_ k (by omega) (by omega)
      have hz := hO.sz
      generalize ndsI (k : Int) = m at a0 ⊢
      by_cases h2 : m ≤ n
      · have h3 : (m : Int) ≤ (n : Int) := by omega
        rw [decide_eq_true (show 0 < (k : Int) ∧ (k : Int) < 27 ∧ m ≤ n from ⟨h0, h1, h2⟩)]
        clear h2
        go_enter Tryd.func17, Tryd.ntmps17
        go_wp2
        go_ret
        exact ⟨rfl, rfl⟩
      · have h3 : ¬ (m : Int) ≤ (n : Int) := by omega
        rw [decide_eq_false (show ¬ (0 < (k : Int) ∧ (k : Int) < 27 ∧ m ≤ n) from fun h => h2 h.2.2)]
        clear h2
        go_enter Tryd.func17, Tryd.ntmps17
        go_wp2
        go_ret
        exact ⟨rfl, rfl⟩
    · rw [decide_eq_false (show ¬ (0 < c ∧ c < 27 ∧ ndsI c ≤ n) from fun h => h1 h.2.1)]
      go_enter Tryd.func17, Tryd.ntmps17
      go_wp2
      go_ret
      exact ⟨rfl, rfl⟩
  · rw [decide_eq_false (show ¬ (0 < c ∧ c < 27 ∧ ndsI c ≤ n) from fun h => h0 h.1)]
    go_enter Tryd.func17, Tryd.ntmps17
    go_wp2
    go_ret
    exact ⟨rfl, rfl⟩

end Go.Proofs.YtjeffmfnaihhjaaDoor
