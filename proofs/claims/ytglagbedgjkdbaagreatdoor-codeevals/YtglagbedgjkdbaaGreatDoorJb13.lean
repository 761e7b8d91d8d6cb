/- Lists of int64 in memory; their sums and extremes, element by element. And what goes with it: 5 texts in one. -/
import Derived.Test.YtglagbedgjkdbaaGreatDoorJb12
import Derived.WideShapes
import Derived.Laws.OwnMore
import Derived.WalkKit
namespace Go.Proofs.YtglagbedgjkdbaaGreatDoor
open Go.RowKit
set_option linter.unusedVariables false

/-- The slice that begins at ao with len elements holds the numbers zs. -/
def IsRow (w : World) (ao : Option Addr) (len : Nat) (zs : List Int) : Prop :=
  zs.length = len ∧ len ≤ 9223372036854775807 ∧ (∀ j, fitsB (zs.getD j 0) = true) ∧
    (len = 0 ∨ ∃ b off, ao = some ⟨b, off, none⟩ ∧ b < w.heap.size ∧ ∀ j, j < len → w.cell? ⟨b, off + j, none⟩ = some (.int .i64 (zs.getD j 0)))

theorem IsRow.keep {w u : World} {ao : Option Addr} {len : Nat} {zs : List Int} (h : IsRow w ao len zs) (G : Below w.heap.size w u) : IsRow u ao len zs := by
  obtain ⟨h1, h2, h3, h4⟩ := h
  refine ⟨h1, h2, h3, ?_⟩
  rcases h4 with h4 | ⟨b, off, e, hb, hc⟩
  · exact .inl h4
  · exact .inr ⟨b, off, e, Nat.lt_of_lt_of_le hb G.size, fun j hj => (G.cell (p := ⟨b, off + j, none⟩) hb).trans (hc j hj)⟩
theorem IsRow.nil (w : World) (ao : Option Addr) : IsRow w ao 0 [] := ⟨rfl, by omega, by intro j; simp; decide, .inl rfl⟩

def sumU (zs : List Int) : Nat → Int
  | 0 => 0
  | k + 1 => sumU zs k + zs.getD k 0
def step (g : Bool) (m y : Int) : Int := if g = true then (if m < y then y else m) else (if y < m then y else m)
def extU (g : Bool) (zs : List Int) : Nat → Int
  | 0 => zs.getD 0 0
  | k + 1 => step g (extU g zs k) (zs.getD (k + 1) 0)

theorem extU_at (g : Bool) (zs : List Int) (k : Nat) (h : 1 ≤ k) : extU g zs k = step g (extU g zs (k - 1)) (zs.getD k 0) := by
  obtain ⟨j, rfl⟩ : ∃ j, k = j + 1 := ⟨k - 1, by omega⟩
  simp [extU]
theorem sumU_bound (zs : List Int) (h : ∀ j, fitsB (zs.getD j 0) = true) (k : Nat) : -9223372036854775808 * (k : Int) ≤ sumU zs k ∧ sumU zs k ≤ 9223372036854775808 * (k : Int) := by
  induction k with
  | zero => simp [sumU]
  | succ k ih =>
    have := (fits_iff _).1 (h k)
    unfold sumU
    omega
theorem step_fits (g : Bool) (m y : Int) (h1 : fitsB m = true) (h2 : fitsB y = true) : fitsB (step g m y) = true := by
  unfold step; split <;> split <;> assumption
theorem extU_fits (g : Bool) (zs : List Int) (h : ∀ j, fitsB (zs.getD j 0) = true) (k : Nat) : fitsB (extU g zs k) = true := by
  induction k with
  | zero => exact h 0
  | succ k ih => exact step_fits g _ _ ih (h _)
theorem fits_getD (zs : List Int) (h : ∀ n ∈ zs, (Lit.int .i64 n).wf = true) (j : Nat) : fitsB (zs.getD j 0) = true := by
  by_cases hj : j < zs.length
  · have : zs.getD j 0 = zs[j] := by simp [List.getD, hj]
    rw [this]; exact fits_wf (h _ (List.getElem_mem hj))
  · have : zs.getD j 0 = 0 := by simp [List.getD, Nat.le_of_not_lt hj]
    rw [this]; decide

theorem isRow_open {W : World} {a : Addr} {len cap : Nat} {zs : List Int} (hl : len ≤ cap) (hm : cap ≤ maxLen) (hz : zs.length = cap) (hcell : ∀ i, i < zs.length → W.cell? (a.add i) = some (.int .i64 (zs.getD i 0))) (hwz : ∀ n ∈ zs, (Lit.int .i64 n).wf = true) : IsRow W (some a) len (zs.take len) := by
  refine ⟨by simp; omega, by unfold maxLen at hm; omega, fun j => fits_getD _ (fun n hn => hwz n (List.mem_of_mem_take hn)) j, ?_⟩
  rcases Nat.eq_zero_or_pos len with h0 | h0
  · exact .inl h0
  · refine .inr ?_
    obtain ⟨b, off, spot⟩ := a
    have hspot : spot = none := by simpa [Addr.add] using World.cell?_spot (hcell 0 (by omega))
    subst hspot
    refine ⟨b, off, rfl, lt_of_cell (hcell 0 (by omega)), fun j hj => ?_⟩
    have := hcell j (by omega)
    rw [Go.WideShapes.add_plain] at this
    rw [this]
    simp [List.getD, hj]
theorem isRow_news {w : World} {ad : Addr} {len : Nat} {zs : List Int} (h : IsRow w (some ad) len zs) (j : Nat) (u : Value) (hj : (zs.map (Value.int .i64))[j]? = some u) : w.cell? (ad.add j) = some u := by
  obtain ⟨h1, h2, h3, h4⟩ := h
  simp only [List.getElem?_map, Option.map_eq_some_iff] at hj
  obtain ⟨z, hz, rfl⟩ := hj
  have hlt := (List.getElem?_eq_some_iff.1 hz).1
  rcases h4 with h4 | ⟨b, off, e, hb, hc⟩
  · omega
  · simp only [Option.some.injEq] at e
    subst e
    rw [Go.WideShapes.add_plain, hc j (by omega)]
    simp [List.getD, hz]
theorem ints_one (zs : List Int) : ∀ u ∈ zs.map (Value.int .i64), u.oneCell' = true := by
  intro u hu
  simp only [List.mem_map] at hu
  obtain ⟨z, _, rfl⟩ := hu
  rfl
/-- An empty slice that was just laid. -/
theorem own_empty (w : World) (e : TypeId) : (w.alloc (.cells #[] e)).ownsRow w.heap.size e 1 (.slice (some ⟨w.heap.size, 0, none⟩) 0 0) 0 [] :=
  ⟨rfl, .inr ⟨w.heap.size, 0, #[], rfl, Nat.le_refl _, by show (w.heap.push _)[w.heap.size]? = _; simp, Nat.le_refl _, Nat.zero_le _, rfl, rfl⟩⟩
/-- A slice of the call's own, as a row. -/
theorem isRow_own {w : World} {base : Nat} {e : TypeId} {v : Value} {n : Nat} {zs : List Int} (h : w.ownsRow base e 1 v n (zs.map (Value.int .i64))) (hf : ∀ j, fitsB (zs.getD j 0) = true) :
    ∃ ao cap, v = .slice ao n cap ∧ IsRow w ao n zs ∧ (n = 0 ∨ ∃ g, ao = some ⟨g, 0, none⟩ ∧ base ≤ g) ∧ n ≤ cap := by
  obtain ⟨h1, h2⟩ := h
  have hlen : zs.length = n := by simpa using h1
  rcases h2 with ⟨rfl, rfl⟩ | ⟨g, cap, cur, rfl, hb, hh, hc, hm, hs, ht⟩
  · have : zs = [] := List.length_eq_zero_iff.1 hlen
    subst this
    exact ⟨none, 0, rfl, IsRow.nil _ _, .inl rfl, Nat.le_refl _⟩
  · refine ⟨_, cap, rfl, ⟨hlen, by unfold maxLen at hm; omega, hf, .inr ⟨g, 0, rfl, lt_of_block hh, fun j hj => ?_⟩⟩, .inr ⟨g, rfl, hb⟩, hc⟩
    rw [Nat.zero_add, cell_of_row w g j cur e (0, 0) hh]
    have e1 : cur.toList[j]? = (zs.map (Value.int .i64))[j]? := by rw [← ht, List.getElem?_take, if_pos (by omega)]
    have e2 : cur[j]? = cur.toList[j]? := by simp
    rw [e2, e1]
    simp [List.getD, List.getElem?_eq_getElem (show j < zs.length by omega)]

end Go.Proofs.YtglagbedgjkdbaaGreatDoor
namespace Go.Proofs.YtglagbedgjkdbaaGreatDoor
open Go.RowKit
set_option linter.unusedVariables false

def Two (w : World) (b : Nat) (x y : Value) (t : TypeId) : Prop := w.heap[b]? = some (.cells #[x, y] t (0, 0))

theorem Two.at0 {w : World} {b : Nat} {x y : Value} {t : TypeId} (h : Two w b x y t) : w.cell? ⟨b, 0, none⟩ = some x := by unfold Two at h; simp [World.cell?, h]
theorem Two.at1 {w : World} {b : Nat} {x y : Value} {t : TypeId} (h : Two w b x y t) : w.cell? ⟨b, 1, none⟩ = some y := by unfold Two at h; simp [World.cell?, h]
theorem Two.free {w : World} {b : Nat} {x y : Value} {t : TypeId} (h : Two w b x y t) (o : Nat) : w.frozen? ⟨b, o, none⟩ = false := by unfold Two at h; simp [World.frozen?, h]
theorem Two.lt {w : World} {b : Nat} {x y : Value} {t : TypeId} (h : Two w b x y t) : b < w.heap.size := by
  rcases Nat.lt_or_ge b w.heap.size with h' | h'
  · exact h'
  · unfold Two at h; simp [Array.getElem?_eq_none h'] at h
theorem Two.new (w : World) (x y : Value) (t : TypeId) : Two (w.alloc (.cells #[x, y] t)) w.heap.size x y t := by
  show (w.heap.push _)[w.heap.size]? = _
  simp
theorem Two.alloc {w : World} {b : Nat} {x y : Value} {t : TypeId} (h : Two w b x y t) (o : Obj) : Two (w.alloc o) b x y t := (Below.heap_alloc w o b h.lt).trans h
theorem Two.keep {w u : World} {b : Nat} {x y : Value} {t : TypeId} (h : Two w b x y t) (G : Below w.heap.size w u) : Two u b x y t := (G.block b h.lt).trans h
theorem Two.other {w : World} {b : Nat} {x y : Value} {t : TypeId} (h : Two w b x y t) {p : Addr} (hp : b ≠ p.block) (u : Value) : Two (w.setCell p u) b x y t := (Below.heap_setCell w p u b hp).trans h
theorem Two.drew {w : World} {b : Nat} {x y : Value} {t : TypeId} (h : Two w b x y t) : Two w.drew b x y t := h
theorem Two.set0 {w : World} {b : Nat} {x y : Value} {t : TypeId} (h : Two w b x y t) (u : Value) : Two (w.setCell ⟨b, 0, none⟩ u) b u y t := by
  have hlt := h.lt
  unfold Two at h
  have h' : w.heap[b] = .cells #[x, y] t (0, 0) := by simpa [Array.getElem?_eq_getElem hlt] using h
  show (w.heap.modify b _)[b]? = _
  rw [Array.getElem?_eq_getElem (by simpa using hlt), Array.getElem_modify_self, h']
  rfl
theorem Two.set1 {w : World} {b : Nat} {x y : Value} {t : TypeId} (h : Two w b x y t) (u : Value) : Two (w.setCell ⟨b, 1, none⟩ u) b x u t := by
  have hlt := h.lt
  unfold Two at h
  have h' : w.heap[b] = .cells #[x, y] t (0, 0) := by simpa [Array.getElem?_eq_getElem hlt] using h
  show (w.heap.modify b _)[b]? = _
  rw [Array.getElem?_eq_getElem (by simpa using hlt), Array.getElem_modify_self, h']
  rfl
theorem Two.set {w : World} {b : Nat} {x y : Value} {t : TypeId} (h : Two w b x y t) (u v : Value) : Two ((w.setCell ⟨b, 0, none⟩ u).setCell ⟨b, 1, none⟩ v) b u v t := (h.set0 u).set1 v

end Go.Proofs.YtglagbedgjkdbaaGreatDoor
namespace Go.Proofs.YtglagbedgjkdbaaGreatDoor
open Go.RowKit
set_option linter.unusedVariables false

set_option maxHeartbeats 1000000 in
theorem min_some (b off len cap : Nat) (zs : List Int) (w : World) (hn : 0 < len) (hl : len ≤ 9223372036854775807) (hc : ∀ j, j < len → w.cell? ⟨b, off + j, none⟩ = some (.int .i64 (zs.getD j 0))) :
    Calls Tryz.prog 139 #[.slice (some ⟨b, off, none⟩) len cap] w fun e w' => e = .returned (.int .i64 (extU false zs (len - 1))) ∧ w = w' := by
  have hc0 := hc 0 hn
  rw [Nat.add_zero] at hc0
  go_enter Tryz.func139, Tryz.ntmps139
  go_wp2
  go_loop [3, 4] (fun m i => ∃ k : Nat, 1 ≤ k ∧ k ≤ len ∧ i = .int .i64 k ∧ m = .int .i64 (extU false zs (k - 1))) (fun _ i => len - (intOf i).toNat)
  case atStart => exact ⟨1, Nat.le_refl _, hn, rfl, by simp [extU]⟩
  case round =>
    obtain ⟨k, hk1, hk, rfl, rfl⟩ := hrel
    have hck : k < len → w.cell? ⟨b, off + k, none⟩ = some (.int .i64 (zs.getD k 0)) := fun h => hc _ h
    go_wp2
    · have hlt : k < len := by assumption
      go_round
      case rel => exact ⟨k + 1, by omega, by omega, by go_num, by rw [Nat.add_sub_cancel, extU_at false zs k hk1]; simp [step, List.getD]; congr⟩
      case measure => simp [intOf]; omega
    · have hge : ¬ k < len := by assumption
      obtain rfl : k = len := by omega
      go_ret
      exact ⟨rfl, rfl⟩

set_option maxHeartbeats 1000000 in
theorem max_some (b off len cap : Nat) (zs : List Int) (w : World) (hn : 0 < len) (hl : len ≤ 9223372036854775807) (hc : ∀ j, j < len → w.cell? ⟨b, off + j, none⟩ = some (.int .i64 (zs.getD j 0))) :
    Calls Tryz.prog 140 #[.slice (some ⟨b, off, none⟩) len cap] w fun e w' => e = .returned (.int .i64 (extU true zs (len - 1))) ∧ w = w' := by
  have hc0 := hc 0 hn
  rw [Nat.add_zero] at hc0
  go_enter Tryz.func140, Tryz.ntmps140
  go_wp2
  go_loop [3, 4] (fun m i => ∃ k : Nat, 1 ≤ k ∧ k ≤ len ∧ i = .int .i64 k ∧ m = .int .i64 (extU true zs (k - 1))) (fun _ i => len - (intOf i).toNat)
  case atStart => exact ⟨1, Nat.le_refl _, hn, rfl, by simp [extU]⟩
  case round =>
    obtain ⟨k, hk1, hk, rfl, rfl⟩ := hrel
    have hck : k < len → w.cell? ⟨b, off + k, none⟩ = some (.int .i64 (zs.getD k 0)) := fun h => hc _ h
    go_wp2
    · have hlt : k < len := by assumption
      go_round
      case rel => exact ⟨k + 1, by omega, by omega, by go_num, by rw [Nat.add_sub_cancel, extU_at true zs k hk1]; simp [step, List.getD]; congr⟩
      case measure => simp [intOf]; omega
    · have hge : ¬ k < len := by assumption
      obtain rfl : k = len := by omega
      go_ret
      exact ⟨rfl, rfl⟩


set_option maxHeartbeats 2000000 in
theorem total_some (b off len cap : Nat) (zs : List Int) (w : World) (hb : b < w.heap.size) (hl : len ≤ 9223372036854775807) (hz : ∀ j, fitsB (zs.getD j 0) = true) (hc : ∀ j, j < len → w.cell? ⟨b, off + j, none⟩ = some (.int .i64 (zs.getD j 0))) :
    Calls Tryz.prog 138 #[.slice (some ⟨b, off, none⟩) len cap] w fun e w' => e = .returned (.agg #[.int .u64 (hiOf (sumU zs len)), .int .u64 (loOf (sumU zs len))]) ∧ Below w.heap.size w w' := by
  go_enter Tryz.func138, Tryz.ntmps138
  go_wp2
  go_loopw [8] (fun i wr => ∃ k : Nat, k ≤ len ∧ i = .int .i64 k ∧ Two wr w.heap.size (.int .u64 0) (.int .u64 0) 151 ∧ Two wr (w.heap.size + 1) (.int .u64 (hiOf (sumU zs k))) (.int .u64 (loOf (sumU zs k))) 151 ∧ Below w.heap.size w wr) (fun i _ => len - (intOf i).toNat)
  case atStart => exact ⟨0, Nat.zero_le _, rfl, (Two.new _ _ _ _).alloc _, by have := Two.new (w.alloc (.cells #[.int .u64 0, .int .u64 0] 151)) (.int .u64 0) (.int .u64 0) 151; simpa [sumU, hiOf, loOf] using this, galloc (galloc (Below.refl _ _) _) _⟩
  case round =>
    obtain ⟨k, hk, rfl, T0, T1, G⟩ := hrel
    have hck : k < len → wr.cell? ⟨b, off + k, none⟩ = some (.int .i64 (zs.getD k 0)) := fun h => (G.cell (p := ⟨b, off + k, none⟩) hb).trans (hc _ h)
    have hzk : -9223372036854775808 ≤ zs[k]?.getD 0 ∧ zs[k]?.getD 0 ≤ 9223372036854775807 := (fits_iff _).1 (by simpa [List.getD] using hz k)
    have c00 := T0.at0
    have c01 := T0.at1
    have c10 := T1.at0
    have c11 := T1.at1
    have f0 := T0.free
    have f1 := T1.free
    have l0 := T0.lt
    have l1 := T1.lt
    go_wp2
    · have hlt : k < len := by assumption
      have R := Below.refl wr.heap.size wr
      replace R := R.drew
      go_region_with (first
        | (go_at_call 118; refine (widen_any _ _ hzk.1 hzk.2).mono ?_; rintro e u ⟨rfl, g⟩; replace R := gtrans R g; obtain ⟨hc2, hf2⟩ := bcell R)
        | (go_at_call 121; refine (plus_any _ _ _).mono ?_; rintro e u ⟨rfl, g⟩; replace R := gtrans R g; obtain ⟨hc2, hf2⟩ := bcell R))
      all_goals
        have T0' := ((T0.keep R).other (p := ⟨w.heap.size + 1, 0, none⟩) (by simp) (.int .u64 (hiOf (sumU zs k + zs[k]?.getD 0)))).other (p := ⟨w.heap.size + 1, 1, none⟩) (by simp) (.int .u64 (loOf (sumU zs k + zs[k]?.getD 0)))
        have T1' := (T1.keep R).set (.int .u64 (hiOf (sumU zs k + zs[k]?.getD 0))) (.int .u64 (loOf (sumU zs k + zs[k]?.getD 0)))
        have G' := ((G.trans (R.mono G.size)).setCell (p := ⟨w.heap.size + 1, 0, none⟩) (by simp) (.int .u64 (hiOf (sumU zs k + zs[k]?.getD 0)))).setCell (p := ⟨w.heap.size + 1, 1, none⟩) (by simp) (.int .u64 (loOf (sumU zs k + zs[k]?.getD 0)))
        clear hc2 hf2 c00 c01 c10 c11 f0 f1
        generalize ((u.setCell ⟨w.heap.size + 1, 0, none⟩ (Value.int .u64 (hiOf (sumU zs k + zs[k]?.getD 0)))).setCell ⟨w.heap.size + 1, 1, none⟩ (Value.int .u64 (loOf (sumU zs k + zs[k]?.getD 0)))) = wz at T0' T1' G' ⊢
        go_wp2
        go_roundw
        case rel => exact ⟨k + 1, by omega, by go_num, T0', by simpa [sumU, List.getD] using T1', G'⟩
        case measure => simp [intOf]; omega
    · have hge : ¬ k < len := by assumption
      obtain rfl : k = len := by omega
      refine bodyPost_ret (v := .agg #[.int .u64 (hiOf (sumU zs k)), .int .u64 (loOf (sumU zs k))]) ?_ rfl ⟨rfl, ?_⟩
      · simp [results, Tryz.results138, go_sem, c00, c01]
      · exact (G.setCell (by simp) _).setCell (by simp) _

theorem min_any (ao : Option Addr) (len cap : Nat) (zs : List Int) (w : World) (hn : 0 < len) (h : IsRow w ao len zs) :
    Calls Tryz.prog 139 #[.slice ao len cap] w fun e w' => e = .returned (.int .i64 (extU false zs (len - 1))) ∧ w = w' := by
  obtain ⟨h1, h2, h3, h4⟩ := h
  rcases h4 with rfl | ⟨b, off, rfl, hb, hc⟩
  · omega
  · exact min_some b off len cap zs w hn h2 hc
theorem max_any (ao : Option Addr) (len cap : Nat) (zs : List Int) (w : World) (hn : 0 < len) (h : IsRow w ao len zs) :
    Calls Tryz.prog 140 #[.slice ao len cap] w fun e w' => e = .returned (.int .i64 (extU true zs (len - 1))) ∧ w = w' := by
  obtain ⟨h1, h2, h3, h4⟩ := h
  rcases h4 with rfl | ⟨b, off, rfl, hb, hc⟩
  · omega
  · exact max_some b off len cap zs w hn h2 hc

set_option maxHeartbeats 1000000 in
theorem total_none (ao : Option Addr) (cap : Nat) (w : World) :
    Calls Tryz.prog 138 #[.slice ao 0 cap] w fun e w' => e = .returned (.agg #[.int .u64 0, .int .u64 0]) ∧ Below w.heap.size w w' := by
  go_enter Tryz.func138, Tryz.ntmps138
  go_wp2
  refine wp_loop_rounds 1 ?_
  rw [rounds_succ]
  go_wp2
  refine bodyPost_ret (v := .agg #[.int .u64 0, .int .u64 0]) (by simp [results, Tryz.results138, go_sem]) rfl ⟨rfl, ?_⟩
  first | exact galloc (galloc (Below.refl _ _) _) _ | exact gset (gset (galloc (galloc (Below.refl _ _) _) _) (by simp) _) (by simp) _

theorem total_any (ao : Option Addr) (len cap : Nat) (zs : List Int) (w : World) (h : IsRow w ao len zs) :
    Calls Tryz.prog 138 #[.slice ao len cap] w fun e w' => e = .returned (.agg #[.int .u64 (hiOf (sumU zs len)), .int .u64 (loOf (sumU zs len))]) ∧ Below w.heap.size w w' := by
  obtain ⟨h1, h2, h3, h4⟩ := h
  rcases h4 with rfl | ⟨b, off, rfl, hb, hc⟩
  · have e1 : hiOf (sumU zs 0) = 0 := by simp [sumU, hiOf]
    have e2 : loOf (sumU zs 0) = 0 := by simp [sumU, loOf]
    rw [e1, e2]; exact total_none ao cap w
  · exact total_some b off len cap zs w hb h2 h3 hc

def foldK (op : Int) (zs : List Int) : Bool :=
  if op = 5 then true else if op = 6 then fitsB (sumU zs zs.length) else if zs.length = 0 then false else decide (op = 7 ∨ op = 8 ∨ op = 9 ∨ op = 10)
def foldN (op : Int) (zs : List Int) : Int :=
  if op = 5 then zs.length else if op = 6 then fitN (sumU zs zs.length) else if zs.length = 0 then 0 else
    if op = 7 then extU false zs (zs.length - 1) else if op = 8 then extU true zs (zs.length - 1) else if op = 9 then zs.getD 0 0 else if op = 10 then zs.getD (zs.length - 1) 0 else 0

set_option maxHeartbeats 1000000 in
theorem fold_five (ao : Option Addr) (len cap : Nat) (zs : List Int) (w : World) (h : IsRow w ao len zs) :
    Calls Tryz.prog 116 #[.int .i64 5, .slice ao len cap] w fun e w' => e = .returned (.agg #[.bool true, .int .i64 len]) ∧ Below w.heap.size w w' := by
  clear h
  go_enter Tryz.func116, Tryz.ntmps116
  go_wp2_with (go_at_call 83; refine (known_any _ _).mono ?_; rintro e w0 ⟨rfl, g0⟩; obtain ⟨hc0, hf0⟩ := bcell g0)
  refine bodyPost_ret (v := .agg #[.bool true, .int .i64 len]) (by simp [results, Tryz.results116, go_sem, hc0]) rfl ⟨rfl, ?_⟩
  exact gset (gset (gtrans (galloc (Below.refl _ _) _) g0) (by simp) _) (by simp) _

set_option maxHeartbeats 1000000 in
theorem fold_six (ao : Option Addr) (len cap : Nat) (zs : List Int) (w : World) (h : IsRow w ao len zs) :
    Calls Tryz.prog 116 #[.int .i64 6, .slice ao len cap] w fun e w' => e = .returned (.agg #[.bool (fitsB (sumU zs len)), .int .i64 (fitN (sumU zs len))]) ∧ Below w.heap.size w w' := by
  have B := sumU_bound zs h.2.2.1 len
  have hl := h.2.1
  have hr := h.keep (galloc (Below.refl w.heap.size w) (.cells #[.bool false, .int .i64 0] 51))
  have ct := total_any ao len cap zs _ hr
  have cn := narrow_any (sumU zs len)
  clear h hr
  go_enter Tryz.func116, Tryz.ntmps116
  go_wp2_with (first
    | (go_at_call 138; refine ct.mono ?_; rintro e w0 ⟨rfl, g0⟩; obtain ⟨hc0, hf0⟩ := bcell g0)
    | (go_at_call 120; refine (cn _ (by omega) (by omega)).mono ?_; rintro e w1 ⟨rfl, g1⟩; replace g0 := gtrans g0 g1; obtain ⟨hc1, hf1⟩ := bcell g0))
  refine bodyPost_ret (v := .agg #[.bool (fitsB (sumU zs len)), .int .i64 (fitN (sumU zs len))]) (by simp [results, Tryz.results116, go_sem, hc1]) rfl ⟨rfl, ?_⟩
  exact gset (gset (gtrans (galloc (Below.refl _ _) _) g0) (by simp) _) (by simp) _

set_option maxHeartbeats 1000000 in
theorem fold_seven (ao : Option Addr) (len cap : Nat) (zs : List Int) (w : World) (h : IsRow w ao len zs) (hn : 0 < len) :
    Calls Tryz.prog 116 #[.int .i64 7, .slice ao len cap] w fun e w' => e = .returned (.agg #[.bool true, .int .i64 (extU false zs (len - 1))]) ∧ Below w.heap.size w w' := by
  have hr := h.keep (galloc (Below.refl w.heap.size w) (.cells #[.bool false, .int .i64 0] 51))
  have ct := min_any ao len cap zs _ hn hr
  have hn0 : ((len : Int) == 0) = false := by simp; omega
  clear h hr
  go_enter Tryz.func116, Tryz.ntmps116
  go_wp2_with (first
    | (go_at_call 139; refine ct.mono ?_; rintro e w9 ⟨rfl, rfl⟩)
    | (go_at_call 83; refine (known_any _ _).mono ?_; rintro e w0 ⟨rfl, g0⟩; obtain ⟨hc0, hf0⟩ := bcell g0))
  refine bodyPost_ret (v := .agg #[.bool true, .int .i64 (extU false zs (len - 1))]) (by simp [results, Tryz.results116, go_sem, hc0]) rfl ⟨rfl, ?_⟩
  exact gset (gset (gtrans (galloc (Below.refl _ _) _) g0) (by simp) _) (by simp) _

set_option maxHeartbeats 1000000 in
theorem fold_eight (ao : Option Addr) (len cap : Nat) (zs : List Int) (w : World) (h : IsRow w ao len zs) (hn : 0 < len) :
    Calls Tryz.prog 116 #[.int .i64 8, .slice ao len cap] w fun e w' => e = .returned (.agg #[.bool true, .int .i64 (extU true zs (len - 1))]) ∧ Below w.heap.size w w' := by
  have hr := h.keep (galloc (Below.refl w.heap.size w) (.cells #[.bool false, .int .i64 0] 51))
  have ct := max_any ao len cap zs _ hn hr
  have hn0 : ((len : Int) == 0) = false := by simp; omega
  clear h hr
  go_enter Tryz.func116, Tryz.ntmps116
  go_wp2_with (first
    | (go_at_call 140; refine ct.mono ?_; rintro e w9 ⟨rfl, rfl⟩)
    | (go_at_call 83; refine (known_any _ _).mono ?_; rintro e w0 ⟨rfl, g0⟩; obtain ⟨hc0, hf0⟩ := bcell g0))
  refine bodyPost_ret (v := .agg #[.bool true, .int .i64 (extU true zs (len - 1))]) (by simp [results, Tryz.results116, go_sem, hc0]) rfl ⟨rfl, ?_⟩
  exact gset (gset (gtrans (galloc (Below.refl _ _) _) g0) (by simp) _) (by simp) _

set_option maxHeartbeats 1000000 in
theorem fold_nine (ao : Option Addr) (len cap : Nat) (zs : List Int) (w : World) (h : IsRow w ao len zs) (hn : 0 < len) :
    Calls Tryz.prog 116 #[.int .i64 9, .slice ao len cap] w fun e w' => e = .returned (.agg #[.bool true, .int .i64 (zs.getD 0 0)]) ∧ Below w.heap.size w w' := by
  obtain ⟨h1, h2, h3, h4⟩ := h
  rcases h4 with rfl | ⟨b, off, rfl, hb, hc⟩
  · omega
  obtain ⟨v, hv⟩ : ∃ v, v = zs.getD 0 0 := ⟨_, rfl⟩
  have hcv : w.cell? ⟨b, off + 0, none⟩ = some (.int .i64 v) := hv ▸ hc 0 (by omega)
  rw [← hv]
  clear hv hc h3 h1
  have hn0 : ((len : Int) == 0) = false := by simp; omega
  try rw [Nat.add_zero] at hcv
  go_enter Tryz.func116, Tryz.ntmps116
  go_wp2_with (go_at_call 83; refine (known_any _ _).mono ?_; rintro e w0 ⟨rfl, g0⟩; obtain ⟨hc0, hf0⟩ := bcell g0)
  refine bodyPost_ret (v := .agg #[.bool true, .int .i64 v]) (by simp [results, Tryz.results116, go_sem, hc0]) rfl ⟨rfl, ?_⟩
  exact gset (gset (gtrans (galloc (Below.refl _ _) _) g0) (by simp) _) (by simp) _

set_option maxHeartbeats 1000000 in
theorem fold_ten (ao : Option Addr) (len cap : Nat) (zs : List Int) (w : World) (h : IsRow w ao len zs) (hn : 0 < len) :
    Calls Tryz.prog 116 #[.int .i64 10, .slice ao len cap] w fun e w' => e = .returned (.agg #[.bool true, .int .i64 (zs.getD (len - 1) 0)]) ∧ Below w.heap.size w w' := by
  obtain ⟨h1, h2, h3, h4⟩ := h
  rcases h4 with rfl | ⟨b, off, rfl, hb, hc⟩
  · omega
  obtain ⟨v, hv⟩ : ∃ v, v = zs.getD (len - 1) 0 := ⟨_, rfl⟩
  have hcv : w.cell? ⟨b, off + (len - 1), none⟩ = some (.int .i64 v) := hv ▸ hc (len - 1) (by omega)
  rw [← hv]
  clear hv hc h3 h1
  have hn0 : ((len : Int) == 0) = false := by simp; omega
  try rw [Nat.add_zero] at hcv
  go_enter Tryz.func116, Tryz.ntmps116
  go_wp2_with (go_at_call 83; refine (known_any _ _).mono ?_; rintro e w0 ⟨rfl, g0⟩; obtain ⟨hc0, hf0⟩ := bcell g0)
  refine bodyPost_ret (v := .agg #[.bool true, .int .i64 v]) (by simp [results, Tryz.results116, go_sem, hc0]) rfl ⟨rfl, ?_⟩
  exact gset (gset (gtrans (galloc (Below.refl _ _) _) g0) (by simp) _) (by simp) _

set_option maxHeartbeats 1000000 in
theorem fold_empty (op : Int) (ao : Option Addr) (len cap : Nat) (zs : List Int) (w : World) (h : IsRow w ao len zs) (hn : len = 0) (h5 : (op == 5) = false) (h6 : (op == 6) = false) :
    Calls Tryz.prog 116 #[.int .i64 op, .slice ao len cap] w fun e w' => e = .returned (.agg #[.bool false, .int .i64 0]) ∧ Below w.heap.size w w' := by
  subst hn
  clear h
  go_enter Tryz.func116, Tryz.ntmps116
  go_wp2
  refine bodyPost_ret (v := .agg #[.bool false, .int .i64 0]) (by simp [results, Tryz.results116, go_sem]) rfl ⟨rfl, ?_⟩
  first | exact galloc (Below.refl _ _) _ | exact gset (gset (galloc (Below.refl _ _) _) (by simp) _) (by simp) _

set_option maxHeartbeats 1000000 in
theorem fold_else (op : Int) (ao : Option Addr) (len cap : Nat) (zs : List Int) (w : World) (h : IsRow w ao len zs) (hn : 0 < len) (h5 : (op == 5) = false) (h6 : (op == 6) = false) (h7 : (op == 7) = false) (h8 : (op == 8) = false) (h9 : (op == 9) = false) (h10 : (op == 10) = false) :
    Calls Tryz.prog 116 #[.int .i64 op, .slice ao len cap] w fun e w' => e = .returned (.agg #[.bool false, .int .i64 0]) ∧ Below w.heap.size w w' := by
  have hn0 : ((len : Int) == 0) = false := by simp; omega
  clear h
  go_enter Tryz.func116, Tryz.ntmps116
  go_wp2
  refine bodyPost_ret (v := .agg #[.bool false, .int .i64 0]) (by simp [results, Tryz.results116, go_sem]) rfl ⟨rfl, ?_⟩
  first | exact galloc (Below.refl _ _) _ | exact gset (gset (galloc (Below.refl _ _) _) (by simp) _) (by simp) _

theorem fold_any (op : Int) (ao : Option Addr) (len cap : Nat) (zs : List Int) (w : World) (h : IsRow w ao len zs) :
    Calls Tryz.prog 116 #[.int .i64 op, .slice ao len cap] w fun e w' => e = .returned (.agg #[.bool (foldK op zs), .int .i64 (foldN op zs)]) ∧ Below w.heap.size w w' := by
  have hlen : zs.length = len := h.1
  unfold foldK foldN
  rw [hlen]
  by_cases h5 : op = 5
  · subst h5; exact fold_five ao len cap zs w h
  by_cases h6 : op = 6
  · subst h6; exact fold_six ao len cap zs w h
  rw [if_neg h5, if_neg h5, if_neg h6, if_neg h6]
  by_cases hn : len = 0
  · rw [if_pos hn, if_pos hn]; exact fold_empty op ao len cap zs w h hn (by simpa using h5) (by simpa using h6)
  rw [if_neg hn, if_neg hn]
  have hp : 0 < len := by omega
  by_cases h7 : op = 7
  · subst h7; exact fold_seven ao len cap zs w h hp
  by_cases h8 : op = 8
  · subst h8; exact fold_eight ao len cap zs w h hp
  by_cases h9 : op = 9
  · subst h9; exact fold_nine ao len cap zs w h hp
  by_cases h10 : op = 10
  · subst h10; exact fold_ten ao len cap zs w h hp
  rw [if_neg h7, if_neg h8, if_neg h9, if_neg h10, decide_eq_false (by simp [h7, h8, h9, h10])]
  exact fold_else op ao len cap zs w h hp (by simpa using h5) (by simpa using h6) (by simpa using h7) (by simpa using h8) (by simpa using h9) (by simpa using h10)

end Go.Proofs.YtglagbedgjkdbaaGreatDoor
namespace Go.Proofs.YtglagbedgjkdbaaGreatDoor
open Go.RowKit Go.BigFrame
set_option linter.unusedVariables false
set_option linter.unusedSimpArgs false

structure Ev where
  ts : Int
  id : Int
  typ : Int
  a0 : Int
  a1 : Int
  a2 : Int
  a3 : Int
  a4 : Int
  a5 : Int
  a6 : Int
  a7 : Int
def Ev.at (e : Ev) (j : Nat) : Int := [e.a0, e.a1, e.a2, e.a3, e.a4, e.a5, e.a6, e.a7].getD j 0
/-- The numbers of an event are of their types. -/
structure Ev.ok (e : Ev) : Prop where
  t0 : -9223372036854775808 ≤ e.ts
  t1 : e.ts ≤ 9223372036854775807
  i0 : 0 ≤ e.id
  i1 : e.id < 18446744073709551616
  at0 : ∀ j, j < 8 → -9223372036854775808 ≤ e.at j
  at1 : ∀ j, j < 8 → e.at j ≤ 9223372036854775807
def evC (e : Ev) : Array Value := #[.int .i64 e.ts, .int .u64 e.id, .int .i64 e.typ, .int .i64 e.a0, .int .i64 e.a1, .int .i64 e.a2, .int .i64 e.a3, .int .i64 e.a4, .int .i64 e.a5, .int .i64 e.a6, .int .i64 e.a7]
def zeroE : Ev := ⟨0, 0, 0, 0, 0, 0, 0, 0, 0, 0, 0⟩
theorem zeroE_ok : zeroE.ok := ⟨by decide, by decide, by decide, by decide, fun j hj => by rcases (show j = 0 ∨ j = 1 ∨ j = 2 ∨ j = 3 ∨ j = 4 ∨ j = 5 ∨ j = 6 ∨ j = 7 from by omega) with rfl | rfl | rfl | rfl | rfl | rfl | rfl | rfl <;> decide, fun j hj => by rcases (show j = 0 ∨ j = 1 ∨ j = 2 ∨ j = 3 ∨ j = 4 ∨ j = 5 ∨ j = 6 ∨ j = 7 from by omega) with rfl | rfl | rfl | rfl | rfl | rfl | rfl | rfl <;> decide⟩
def Ev.put (e : Ev) (j : Nat) (z : Int) : Ev :=
  ⟨e.ts, e.id, e.typ, if j = 0 then z else e.a0, if j = 1 then z else e.a1, if j = 2 then z else e.a2, if j = 3 then z else e.a3, if j = 4 then z else e.a4, if j = 5 then z else e.a5, if j = 6 then z else e.a6, if j = 7 then z else e.a7⟩
theorem Ev.put_at (e : Ev) (j : Nat) (z : Int) (k : Nat) (hk : k < 8) : (e.put j z).at k = if j = k then z else e.at k := by
  rcases (show k = 0 ∨ k = 1 ∨ k = 2 ∨ k = 3 ∨ k = 4 ∨ k = 5 ∨ k = 6 ∨ k = 7 from by omega) with rfl | rfl | rfl | rfl | rfl | rfl | rfl | rfl <;> simp [Ev.put, Ev.at]
theorem Ev.put_ok {e : Ev} (h : e.ok) (j : Nat) {z : Int} (h0 : -9223372036854775808 ≤ z) (h1 : z ≤ 9223372036854775807) : (e.put j z).ok :=
  ⟨h.t0, h.t1, h.i0, h.i1, fun k hk => by rw [Ev.put_at _ _ _ _ hk]; split; exact h0; exact h.at0 k hk, fun k hk => by rw [Ev.put_at _ _ _ _ hk]; split; exact h1; exact h.at1 k hk⟩
theorem evC_at (e : Ev) (j : Nat) (hj : j < 8) : (evC e).toList[3 + j]? = some (.int .i64 (e.at j)) := by
  rcases (show j = 0 ∨ j = 1 ∨ j = 2 ∨ j = 3 ∨ j = 4 ∨ j = 5 ∨ j = 6 ∨ j = 7 from by omega) with rfl | rfl | rfl | rfl | rfl | rfl | rfl | rfl <;> rfl
theorem evC_put (e : Ev) (j : Nat) (hj : j < 8) (z : Int) : (evC (e.put j z)).toList = (evC e).toList.set (3 + j) (.int .i64 z) := by
  rcases (show j = 0 ∨ j = 1 ∨ j = 2 ∨ j = 3 ∨ j = 4 ∨ j = 5 ∨ j = 6 ∨ j = 7 from by omega) with rfl | rfl | rfl | rfl | rfl | rfl | rfl | rfl <;> simp [Ev.put, evC]

end Go.Proofs.YtglagbedgjkdbaaGreatDoor
namespace Go.Proofs.YtglagbedgjkdbaaGreatDoor
open Go.RowKit Go.BigFrame
set_option linter.unusedVariables false
set_option linter.unusedSimpArgs false

/-- The cells xs lie from ao on. -/
def Flat (w : World) (ao : Option Addr) (xs : List Value) : Prop := ∀ j u, xs[j]? = some u → ∃ g o, ao = some ⟨g, o, none⟩ ∧ w.cell? ⟨g, o + j, none⟩ = some u
theorem Flat.keep {w u : World} {ao : Option Addr} {xs : List Value} (h : Flat w ao xs) (G : Below w.heap.size w u) : Flat u ao xs := fun j v hv => by
  obtain ⟨g, o, e, a0⟩ := h j v hv
  exact ⟨g, o, e, (G.cell (p := ⟨_, _, none⟩) (lt_of_cell a0)).trans a0⟩
theorem Flat.nil (w : World) (ao : Option Addr) : Flat w ao [] := fun j u h => by simp at h
theorem Flat.form {w : World} {ao : Option Addr} {xs : List Value} (h : Flat w ao xs) (h0 : 0 < xs.length) : ∃ g o, ao = some ⟨g, o, none⟩ ∧ g < w.heap.size ∧ ∀ j u, xs[j]? = some u → w.cell? ⟨g, o + j, none⟩ = some u := by
  obtain ⟨g, o, e, a0⟩ := h 0 xs[0] (List.getElem?_eq_getElem h0)
  refine ⟨g, o, e, lt_of_cell a0, fun j u hu => ?_⟩
  obtain ⟨g', o', e', a⟩ := h j u hu
  rw [e] at e'
  cases e'
  exact a
section
variable {β : Type}
/-- The cells of a list of elements. -/
def fl (cv : β → Array Value) (l : List β) : List Value := l.flatMap fun x => (cv x).toList
theorem fl_nil (cv : β → Array Value) : fl cv [] = [] := rfl
theorem fl_cons (cv : β → Array Value) (x : β) (l : List β) : fl cv (x :: l) = (cv x).toList ++ fl cv l := rfl
theorem fl_app (cv : β → Array Value) (a b : List β) : fl cv (a ++ b) = fl cv a ++ fl cv b := by simp [fl]
theorem fl_len {cv : β → Array Value} {sz : Nat} (hc : ∀ x, (cv x).size = sz) (l : List β) : (fl cv l).length = l.length * sz := by
  induction l with
  | nil => simp [fl]
  | cons x l ih => rw [fl_cons, List.length_append, ih, Array.length_toList, hc, List.length_cons, Nat.add_mul]; omega
theorem fl_at {cv : β → Array Value} {sz : Nat} (hc : ∀ x, (cv x).size = sz) (z : β) : ∀ (l : List β) (i j : Nat), i < l.length → j < sz → (fl cv l)[i * sz + j]? = (cv (l.getD i z)).toList[j]? := by
  intro l
  induction l with
  | nil => intro i j hi; simp at hi
  | cons x l ih =>
    intro i j hi hj
    rw [fl_cons]
    have hx : (cv x).toList.length = sz := by rw [Array.length_toList, hc]
    cases i with
    | zero => rw [List.getElem?_append_left (by omega)]; simp
    | succ i =>
      rw [List.getElem?_append_right (by rw [hx, Nat.add_mul]; omega), hx]
      have e : (i + 1) * sz + j - sz = i * sz + j := by rw [Nat.add_mul]; omega
      rw [e, ih i j (by simpa using hi) hj]
      simp
theorem fl_set {cv : β → Array Value} {sz : Nat} (hc : ∀ x, (cv x).size = sz) (z : β) : ∀ (l : List β) (i j : Nat) (v : Value) (y : β), i < l.length → j < sz → (cv y).toList = (cv (l.getD i z)).toList.set j v → (fl cv l).set (i * sz + j) v = fl cv (l.set i y) := by
  intro l
  induction l with
  | nil => intro i j v y hi; simp at hi
  | cons x l ih =>
    intro i j v y hi hj he
    have hx : (cv x).toList.length = sz := by rw [Array.length_toList, hc]
    cases i with
    | zero =>
      simp only [List.getD_cons_zero] at he
      rw [fl_cons, List.set_cons_zero, fl_cons, he, Nat.zero_mul, Nat.zero_add, List.set_append_left _ _ (by omega)]
    | succ i =>
      simp only [List.getD_cons_succ] at he
      have e : (i + 1) * sz + j - sz = i * sz + j := by rw [Nat.add_mul]; omega
      rw [fl_cons, List.set_cons_succ, fl_cons, List.set_append_right _ _ (by rw [hx, Nat.add_mul]; omega), hx, e, ih i j v y (by simpa using hi) hj he]
/-- A row of rows. -/
def Nst (w : World) (ao : Option Addr) (cv : β → Array Value) (l : List (List β)) : Prop := ∀ i, i < l.length → ∃ g o a c, ao = some ⟨g, o, none⟩ ∧ w.cell? ⟨g, o + i, none⟩ = some (.slice a (l.getD i []).length c) ∧ Flat w a (fl cv (l.getD i [])) ∧ Sl a (l.getD i []).length c
theorem Nst.keep {w u : World} {ao : Option Addr} {cv : β → Array Value} {l : List (List β)} (h : Nst w ao cv l) (G : Below w.heap.size w u) : Nst u ao cv l := fun i hi => by
  obtain ⟨g, o, a, c, e, a0, hs, hl⟩ := h i hi
  exact ⟨g, o, a, c, e, (G.cell (p := ⟨_, _, none⟩) (lt_of_cell a0)).trans a0, hs.keep G, hl⟩
theorem own_flat {w : World} {b : Nat} {e : TypeId} {s : Nat} {ao : Option Addr} {n c : Nat} {xs : List Value} (h : w.ownsRow b e s (.slice ao n c) n xs) : Flat w ao xs := fun j u hu => by
  have hj := (List.getElem?_eq_some_iff.1 hu).1
  have hl := h.1
  rcases h.2 with ⟨h1, h2⟩ | ⟨g, c', cur, h1, _, _, _, _⟩
  · rw [h2, Nat.zero_mul] at hl; omega
  · cases h1
    refine ⟨g, 0, rfl, ?_⟩
    rw [Nat.zero_add, World.ownsRow.cellAt h j (by omega), hu]
/-- A row of rows of one's own: no two rows lie in one block. -/
structure ONst (w : World) (b : Nat) (TS T : TypeId) (sz : Nat) (cv : β → Array Value) (v : Value) (l : List (List β)) (ws : List Value) : Prop where
  len : ws.length = l.length
  own : w.ownsRow b TS 1 v l.length ws
  inn : ∀ j, j < l.length → ∃ a c, ws[j]? = some (.slice a (l.getD j []).length c) ∧ w.ownsRow b T sz (.slice a (l.getD j []).length c) (l.getD j []).length (fl cv (l.getD j []))
  apart : ∀ (i j : Nat) (x y : Value) (g : Nat), ws[i]? = some x → ws[j]? = some y → x.ownBlock = some g → y.ownBlock = some g → i = j
theorem ONst.map {w u : World} {b : Nat} {TS T : TypeId} {sz : Nat} {cv : β → Array Value} {v : Value} {l : List (List β)} {ws : List Value} (h : ONst w b TS T sz cv v l ws) (f : ∀ (e : TypeId) (s : Nat) (v : Value) (n : Nat) (xs : List Value), (e = TS ∨ e = T) → w.ownsRow b e s v n xs → u.ownsRow b e s v n xs) : ONst u b TS T sz cv v l ws :=
  ⟨h.len, f _ _ _ _ _ (.inl rfl) h.own, fun j hj => by
    obtain ⟨a, c, h1, h2⟩ := h.inn j hj
    exact ⟨a, c, h1, f _ _ _ _ _ (.inr rfl) h2⟩, h.apart⟩
theorem ONst.keep {w u : World} {b : Nat} {TS T : TypeId} {sz : Nat} {cv : β → Array Value} {v : Value} {l : List (List β)} {ws : List Value} (h : ONst w b TS T sz cv v l ws) (G : Below w.heap.size w u) : ONst u b TS T sz cv v l ws := h.map fun _ _ _ _ _ _ o => own_keep o G
theorem ONst.mono {w : World} {b b' : Nat} {TS T : TypeId} {sz : Nat} {cv : β → Array Value} {v : Value} {l : List (List β)} {ws : List Value} (h : ONst w b TS T sz cv v l ws) (hb : b' ≤ b) : ONst w b' TS T sz cv v l ws :=
  ⟨h.len, World.ownsRow.mono h.own hb, fun j hj => by
    obtain ⟨a, c, h1, h2⟩ := h.inn j hj
    exact ⟨a, c, h1, World.ownsRow.mono h2 hb⟩, h.apart⟩
theorem ONst.nst {w : World} {b : Nat} {TS T : TypeId} {sz : Nat} {cv : β → Array Value} {ao : Option Addr} {c : Nat} {l : List (List β)} {ws : List Value} (h : ONst w b TS T sz cv (.slice ao l.length c) l ws) : Nst w ao cv l := fun i hi => by
  obtain ⟨a, c', e, O⟩ := h.inn i hi
  obtain ⟨g, o, e1, c0⟩ := own_flat h.own i _ e
  exact ⟨g, o, a, c', e1, c0, own_flat O, own_sl O⟩
end
/-- append of a whole row onto a row of one's own. -/
theorem wpList_append_flat {P : Program} {w : World} {ops : Array Oper} {rest : List Oper} {o : Oper} {a : Act} {Q : Exit → Act → World → Prop} (hgd : o.guard = none) (s x : Operand) {TS T : TypeId} {z : Value} {sz by_ : Nat}
    (ho : o.op = .call { callee := .builtin .append, args := #[s, x], argTypes := #[TS, TS] }) (hu : P.underlying TS = some (.slice T)) (nf : (P.info? T).map (fun i => (i.zero, i.size, i.bytes)) = some (some z, sz, by_)) (hzs : z.cells.size = sz) (hsz : 0 < sz)
    (v : Value) (base n : Nat) (xs : List Value) (hs : a.eval s = v) (O : w.ownsRow base T sz v n xs) (hb : base ≤ w.heap.size)
    (ao : Option Addr) (m cap : Nat) (ys : List Value) (hx : a.eval x = .slice ao m cap) (hsl : Sl ao m cap) (A : Flat w ao ys) (hy : ys.length = m * sz) (h1 : ∀ u ∈ ys, u.oneCell' = true) (hl : (n + m) * by_ ≤ 140737488351232) (hl2 : n + m ≤ 140737488351232)
    (h : ∀ v' w', w'.ownsRow base T sz v' (n + m) (xs ++ ys) → w.grownBy w' v.ownBlock → wpList P ops Q rest (a.put o.dst v') w') : wpList P ops Q (o :: rest) a w := by
  obtain ⟨i3, ti, tz0, tz1, tz2⟩ := nf_info nf
  cases ao with
  | none =>
    obtain ⟨h0, rfl⟩ := hsl.2 rfl
    subst h0
    have hys : ys = [] := List.length_eq_zero_iff.1 (by omega)
    subst hys
    refine wpList_plain hgd fun K hK' => ?_
    have hrun := run_append_owned_none (P := P) w base TS o.type T i3 sz hu ti v n xs O
    unfold Oper.wp
    simp [execOp, ho, resolve, invoke, builtin, hs, hx, hrun, Result.andThen]
    refine hK' _ _ (h _ _ ?_ (World.grownBy.refl _ _))
    rw [List.append_nil]
    exact O
  | some ad =>
    refine wpList_append_own (w := w) hgd s x TS ho base T i3 z sz by_ hu ti tz0 tz1 tz2 hzs hsz v n xs hs O ad m cap ys hx hy (fun j u hj => ?_) h1 (by unfold maxLen; omega) (by omega) hb (fun v' w' h1 h2 _ => h v' w' h1 h2)
    obtain ⟨g, off, e, c0⟩ := A j u hj
    cases e
    rw [Go.WideShapes.add_plain]
    exact c0
theorem fl_one {β : Type} {cv : β → Array Value} (h : ∀ x, ∀ u ∈ (cv x).toList, u.oneCell' = true) (l : List β) : ∀ u ∈ fl cv l, u.oneCell' = true := fun u hu => by
  unfold fl at hu
  obtain ⟨x, _, hx⟩ := List.mem_flatMap.1 hu
  exact h x u hx

end Go.Proofs.YtglagbedgjkdbaaGreatDoor
