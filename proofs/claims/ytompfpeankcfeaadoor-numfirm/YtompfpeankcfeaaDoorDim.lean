/- What is known of blurred values is known of the sharp ones; the law's helper blurred. -/
import Derived.Test.YtompfpeankcfeaaDoorAsked
import Derived.Test.YtompfpeankcfeaaDoorOpenSt
namespace Go.Proofs.YtompfpeankcfeaaDoor
open Go.RowKit Go.BigFrame
set_option linter.unusedVariables false
set_option linter.unusedSimpArgs false

/-- What x knows is what y is. -/
def Dm (x y : V2) : Prop := x.1 = true → x = y
theorem Dm.cases {x y : V2} (h : Dm x y) : x.1 = false ∨ x = y := by
  cases e : x.1
  · exact .inl rfl
  · exact .inr (h e)
theorem opK_known {ka kb : Bool} {x : Int} (h : opK ka kb x = true) : ka = true ∧ kb = true := by
  unfold opK at h
  simp at h
  exact ⟨h.1, h.2.1⟩
theorem dm_neg {x y : V2} (h : Dm x y) : Dm (negV x) (negV y) := fun e => by
  have := (opK_known (show opK true x.1 (0 - x.2) = true from e)).2
  rw [h this]
theorem rd_no {x : V2} (h : x.1 = false) : rd x.1 x.2 = 1 := by unfold rd; rw [h]; rfl
theorem dm_not {x y : V2} (h : Dm x y) : Dm (notV x) (notV y) := fun e => by
  rcases h.cases with h1 | h1
  · exfalso
    have e' : vK (2 - rd x.1 x.2) = true := e
    rw [rd_no h1] at e'
    exact absurd e' (by decide)
  · rw [h1]
theorem dm_op (f g : V2 → V2 → Int) (hk : V2 → Bool) {x y a b : V2} (h1 : Dm x a) (h2 : Dm y b) (k : Bool → V2 → Bool) (hkk : ∀ c, k true c = true → c.1 = true) : True := trivial
theorem dm_and {x y a b : V2} (h1 : Dm x a) (h2 : Dm y b) (e : vK (minI (rd x.1 x.2) (rd y.1 y.2)) = true) : minI (rd x.1 x.2) (rd y.1 y.2) = minI (rd a.1 a.2) (rd b.1 b.2) := by
  have hne : minI (rd x.1 x.2) (rd y.1 y.2) ≠ 1 := by
    intro h; rw [h] at e; exact absurd e (by decide)
  have c1 := rd_cases x.1 x.2
  have c2 := rd_cases y.1 y.2
  have c3 := rd_cases a.1 a.2
  have c4 := rd_cases b.1 b.2
  rcases h1.cases with k1 | k1
  · rw [rd_no k1] at hne ⊢
    rcases h2.cases with k2 | k2
    · rw [rd_no k2] at hne; exact absurd rfl hne
    · rw [k2] at hne c2 ⊢
      unfold minI at hne ⊢
      split at hne <;> split <;> omega
  · rcases h2.cases with k2 | k2
    · rw [rd_no k2] at hne ⊢
      rw [k1] at hne c1 ⊢
      unfold minI at hne ⊢
      split at hne <;> split <;> omega
    · rw [k1, k2]
theorem dm_or {x y a b : V2} (h1 : Dm x a) (h2 : Dm y b) (e : vK (maxI (rd x.1 x.2) (rd y.1 y.2)) = true) : maxI (rd x.1 x.2) (rd y.1 y.2) = maxI (rd a.1 a.2) (rd b.1 b.2) := by
  have hne : maxI (rd x.1 x.2) (rd y.1 y.2) ≠ 1 := by
    intro h; rw [h] at e; exact absurd e (by decide)
  have c1 := rd_cases x.1 x.2
  have c2 := rd_cases y.1 y.2
  have c3 := rd_cases a.1 a.2
  have c4 := rd_cases b.1 b.2
  rcases h1.cases with k1 | k1
  · rw [rd_no k1] at hne ⊢
    rcases h2.cases with k2 | k2
    · rw [rd_no k2] at hne; exact absurd rfl hne
    · rw [k2] at hne c2 ⊢
      unfold maxI at hne ⊢
      split at hne <;> split <;> omega
  · rcases h2.cases with k2 | k2
    · rw [rd_no k2] at hne ⊢
      rw [k1] at hne c1 ⊢
      unfold maxI at hne ⊢
      split at hne <;> split <;> omega
    · rw [k1, k2]
theorem dm_cmp (op : Int) {x y a b : V2} (h1 : Dm x a) (h2 : Dm y b) : Dm (cmpV op x y) (cmpV op a b) := fun e => by
  have : (x.1 && y.1) = true := by
    cases h : (x.1 && y.1)
    · unfold cmpV at e; rw [if_pos h] at e; exact absurd e (by decide)
    · rfl
  simp only [Bool.and_eq_true] at this
  rw [h1 this.1, h2 this.2]
theorem dm_apply (op : Int) {x y a b : V2} (h1 : Dm x a) (h2 : Dm y b) : Dm (applyV op x y) (applyV op a b) := fun e => by
  unfold applyV at e ⊢
  by_cases h14 : op = 14
  · rw [if_pos h14] at e ⊢; have := opK_known e; rw [h1 this.1, h2 this.2, if_pos h14]
  rw [if_neg h14] at e ⊢
  by_cases h15 : op = 15
  · rw [if_pos h15] at e ⊢; have := opK_known e; rw [h1 this.1, h2 this.2, if_neg h14, if_pos h15]
  rw [if_neg h15] at e ⊢
  by_cases h16 : op = 16
  · rw [if_pos h16] at e ⊢; have := opK_known e; rw [h1 this.1, h2 this.2, if_neg h14, if_neg h15, if_pos h16]
  rw [if_neg h16] at e ⊢
  by_cases h17 : op = 17
  · rw [if_pos h17] at e ⊢
    have := opK_known e
    simp only [Bool.and_eq_true] at this
    rw [h1 this.1, h2 this.2.1, if_neg h14, if_neg h15, if_neg h16, if_pos h17]
  rw [if_neg h17] at e ⊢
  by_cases h18 : op = 18
  · rw [if_pos h18] at e ⊢
    have := opK_known e
    simp only [Bool.and_eq_true] at this
    rw [h1 this.1, h2 this.2.1, if_neg h14, if_neg h15, if_neg h16, if_neg h17, if_pos h18]
  rw [if_neg h18] at e ⊢
  by_cases h25 : op = 25
  · rw [if_pos h25] at e ⊢
    rw [dm_and h1 h2 e, if_neg h14, if_neg h15, if_neg h16, if_neg h17, if_neg h18, if_pos h25]
  rw [if_neg h25] at e ⊢
  by_cases h26 : op = 26
  · rw [if_pos h26] at e ⊢
    rw [dm_or h1 h2 e, if_neg h14, if_neg h15, if_neg h16, if_neg h17, if_neg h18, if_neg h25, if_pos h26]
  rw [if_neg h26] at e ⊢
  rw [dm_cmp op h1 h2 e, if_neg h14, if_neg h15, if_neg h16, if_neg h17, if_neg h18, if_neg h25, if_neg h26]
theorem dm_asked {ds vs : List V2} (hl : ds.length = vs.length) (hd : ∀ j, Dm (ds.getD j noV) (vs.getD j noV)) (op i j : Int) (v : V2) (hop : ¬ (5 ≤ op ∧ op ≤ 10)) : Dm (askedV ds op i j v) (askedV vs op i j v) := by
  unfold askedV
  rw [hl]
  by_cases h0 : op = 0 ∨ vs.length = 0
  · rw [if_pos h0, if_pos h0]; exact fun _ => rfl
  rw [if_neg h0, if_neg h0]
  by_cases h12 : op = 12
  · rw [if_pos h12, if_pos h12]; exact dm_neg (hd _)
  rw [if_neg h12, if_neg h12]
  by_cases h13 : op = 13
  · rw [if_pos h13, if_pos h13]; exact dm_not (hd _)
  rw [if_neg h13, if_neg h13, if_neg hop, if_neg hop]
  exact dm_apply op (hd _) (hd _)
theorem dm_snoc {ds vs : List V2} (hl : ds.length = vs.length) (hd : ∀ j, Dm (ds.getD j noV) (vs.getD j noV)) {x y : V2} (h : Dm x y) : ∀ j, Dm ((ds ++ [x]).getD j noV) ((vs ++ [y]).getD j noV) := by
  intro j
  rcases Nat.lt_or_ge j ds.length with e | e
  · have e1 : (ds ++ [x]).getD j noV = ds.getD j noV := by simp [List.getD, List.getElem?_append_left e]
    have e2 : (vs ++ [y]).getD j noV = vs.getD j noV := by simp [List.getD, List.getElem?_append_left (show j < vs.length by omega)]
    rw [e1, e2]; exact hd j
  · rcases Nat.eq_or_lt_of_le e with e | e
    · have e1 : (ds ++ [x]).getD j noV = x := by subst e; simp [List.getD]
      have e2 : (vs ++ [y]).getD j noV = y := by have e3 : vs.length = j := by omega
                                                 subst e3; simp [List.getD]
      rw [e1, e2]; exact h
    · have e1 : (ds ++ [x]).getD j noV = noV := by simp [List.getD, List.getElem?_eq_none (show (ds ++ [x]).length ≤ j by simp; omega)]
      rw [e1]; exact fun h => absurd h (by decide)

/-- The slice that begins at ao with n elements holds truths. -/
def IsBools (w : World) (ao : Option Addr) (n : Nat) : Prop :=
  n ≤ 9223372036854775807 ∧ (n = 0 ∨ ∃ b off, ao = some ⟨b, off, none⟩ ∧ b < w.heap.size ∧ ∀ j, j < n → ∃ v, w.cell? ⟨b, off + j, none⟩ = some (.bool v))
theorem IsBools.keep {w u : World} {ao : Option Addr} {n : Nat} (h : IsBools w ao n) (G : Below w.heap.size w u) : IsBools u ao n := by
  obtain ⟨h1, h4⟩ := h
  refine ⟨h1, ?_⟩
  rcases h4 with h4 | ⟨b, off, e, hb, hc⟩
  · exact .inl h4
  · exact .inr ⟨b, off, e, Nat.lt_of_lt_of_le hb G.size, fun j hj => by obtain ⟨v, hv⟩ := hc j hj; exact ⟨v, (G.cell (p := ⟨b, off + j, none⟩) hb).trans hv⟩⟩

set_option maxHeartbeats 1000000 in
theorem blurred_any (xk : Bool) (xn : Int) (ao : Option Addr) (n cap i : Nat) (w : World) (h : IsBools w ao n) (hi : i ≤ 9223372036854775807) :
    ∃ y : V2, (y = (xk, xn) ∨ y = noV) ∧ Calls Tryd.prog 8 #[.agg #[.bool xk, .int .i64 xn], .slice ao n cap, .int .i64 i] w fun e w' => e = .returned (VA y) ∧ Below w.heap.size w w' := by
  have hn := h.1
  by_cases hlt : i < n
  · obtain ⟨_, q4⟩ := h
    rcases q4 with q4 | ⟨b, off, eb, hb, hcb⟩
    · omega
    subst eb
    obtain ⟨v, hv⟩ := hcb i hlt
    clear hcb
    have g1 : (i : Int) < (n : Int) := by omega
    cases v
    · refine ⟨(xk, xn), .inl rfl, ?_⟩
      go_enter Tryd.func8, Tryd.ntmps8
      go_wp2
      refine bodyPost_ret (v := .agg #[.bool xk, .int .i64 xn]) (by simp [results, Tryd.results8, go_sem]) rfl ⟨rfl, ?_⟩
      first | exact galloc (galloc (Below.refl _ _) _) _ | exact gset (gset (galloc (galloc (Below.refl _ _) _) _) (by simp) _) (by simp) _
    · refine ⟨noV, .inr rfl, ?_⟩
      go_enter Tryd.func8, Tryd.ntmps8
      go_wp2
      refine bodyPost_ret (v := .agg #[.bool false, .int .i64 0]) (by simp [results, Tryd.results8, go_sem]) rfl ⟨rfl, ?_⟩
      first | exact galloc (galloc (Below.refl _ _) _) _ | exact gset (gset (galloc (galloc (Below.refl _ _) _) _) (by simp) _) (by simp) _
  · have g1 : ¬ (i : Int) < (n : Int) := by omega
    refine ⟨(xk, xn), .inl rfl, ?_⟩
    go_enter Tryd.func8, Tryd.ntmps8
    go_wp2
    refine bodyPost_ret (v := .agg #[.bool xk, .int .i64 xn]) (by simp [results, Tryd.results8, go_sem]) rfl ⟨rfl, ?_⟩
    first | exact galloc (galloc (Below.refl _ _) _) _ | exact gset (gset (galloc (galloc (Below.refl _ _) _) _) (by simp) _) (by simp) _

theorem cellsB : Tryd.prog.cellsOf 4 = 1 := by kernel_rfl
theorem open_bools {H : Type} {enc : TypeId × Value → H} {w : World} {spare : Nat → Bool} {held : Bool} {fuel : Nat} {v : Value} {y : DataW H × List MemPlace} (h : DataW.trod enc Tryd.prog w 0 spare held fuel 23 [v] = some y) : ∃ ao n cap, v = .slice ao n cap ∧ IsBools w ao n := by
  rcases DataW.trod_slice Tryd.underlying23 h with ⟨hcs, _⟩ | ⟨a, len, cap, elems, rest, fu, _, hcs, hx, _, hl, hm, hlen, hel, _, _⟩
  · simp only [List.cons.injEq, and_true] at hcs
    exact ⟨none, 0, 0, hcs, by simp, .inl rfl⟩
  · simp only [List.cons.injEq, and_true] at hcs
    have each : ∀ i, i < len → ∃ t, w.cell? (a.add i) = some (.bool t) := fun i hi => by
      have h1 := hel i hi
      rw [cellsB, Nat.mul_one, List.getElem?_eq_getElem (by omega), Option.bind_eq_some_iff] at h1
      obtain ⟨cs', h2, h3⟩ := h1
      obtain ⟨_, hcl, hce⟩ := World.cells?_some h2
      obtain ⟨t, e, _⟩ := DataW.trod_bool Tryd.underlying4 h3
      have h4 := hce 0 (by omega)
      rw [add_add, e] at h4
      exact ⟨t, by simpa using h4⟩
    refine ⟨some a, len, cap, hcs, by unfold maxLen at hm; omega, ?_⟩
    rcases Nat.eq_zero_or_pos len with h0 | h0
    · exact .inl h0
    obtain ⟨ab, ao, asp⟩ := a
    obtain ⟨t0, e0⟩ := each 0 h0
    cases asp with
    | some s => have := World.cell?_spot e0; simp [Addr.add] at this
    | none =>
      refine .inr ⟨ab, ao, rfl, ?_, fun j hj => ?_⟩
      · have h5 := lt_of_cell5 e0
        rw [Go.WideShapes.add_plain] at h5
        exact h5
      · obtain ⟨t, e⟩ := each j hj
        rw [Go.WideShapes.add_plain] at e
        exact ⟨t, e⟩

end Go.Proofs.YtompfpeankcfeaaDoor
