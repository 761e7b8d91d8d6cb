/- What Apply of both sides comes to, by every operator, as one function of values. And what goes with it: 6 texts in one. -/
import Derived.Test.YtnolbpekdikamaaGreatDoorJa02
import Derived.WideShapes
import Derived.Laws.OwnMore
import Derived.WalkKit
import Derived.Deep.Onto
import Derived.Deep.AppendLies
namespace Go.Proofs.YtnolbpekdikamaaGreatDoor
open Go.RowKit
set_option linter.unusedVariables false
set_option linter.unusedSimpArgs false

abbrev V2 := Bool × Int
def cmpV (op : Int) (x y : V2) : V2 :=
  if (x.1 && y.1) = false then (false, 0) else if op = 19 then (true, bitOf (x.2 == y.2)) else if op = 20 then (true, bitOf (x.2 != y.2)) else if op = 21 then (true, bitOf (decide (x.2 < y.2)))
  else if op = 22 then (true, bitOf (decide (x.2 ≤ y.2))) else if op = 23 then (true, bitOf (decide (y.2 < x.2))) else if op = 24 then (true, bitOf (decide (y.2 ≤ x.2))) else (false, 0)
def applyV (op : Int) (x y : V2) : V2 :=
  if op = 14 then (opK x.1 y.1 (x.2 + y.2), opN x.1 y.1 (x.2 + y.2)) else if op = 15 then (opK x.1 y.1 (x.2 - y.2), opN x.1 y.1 (x.2 - y.2)) else if op = 16 then (opK x.1 y.1 (x.2 * y.2), opN x.1 y.1 (x.2 * y.2))
  else if op = 17 then (opK x.1 (y.1 && !(y.2 == 0)) (x.2.tdiv y.2), opN x.1 (y.1 && !(y.2 == 0)) (x.2.tdiv y.2)) else if op = 18 then (opK x.1 (y.1 && !(y.2 == 0)) (x.2.tmod y.2), opN x.1 (y.1 && !(y.2 == 0)) (x.2.tmod y.2))
  else if op = 25 then (vK (minI (rd x.1 x.2) (rd y.1 y.2)), vN (minI (rd x.1 x.2) (rd y.1 y.2))) else if op = 26 then (vK (maxI (rd x.1 x.2) (rd y.1 y.2)), vN (maxI (rd x.1 x.2) (rd y.1 y.2)))
  else cmpV op x y
abbrev VA (x : V2) : Value := .agg #[.bool x.1, .int .i64 x.2]

theorem bit_fits (b : Bool) : fitsB (bitOf b) = true := by cases b <;> decide
theorem cmpV_fits (op : Int) (x y : V2) : fitsB (cmpV op x y).2 = true := by
  unfold cmpV
  repeat' split
  all_goals first | exact bit_fits _ | decide
theorem vN_fits (t : Int) : fitsB (vN t) = true := by unfold vN; split <;> decide
theorem applyV_fits (op : Int) (x y : V2) : fitsB (applyV op x y).2 = true := by
  unfold applyV
  repeat' split
  all_goals first | exact opN_fits _ _ _ | exact vN_fits _ | exact cmpV_fits _ _ _

end Go.Proofs.YtnolbpekdikamaaGreatDoor
namespace Go.Proofs.YtnolbpekdikamaaGreatDoor
open Go.RowKit
set_option linter.unusedVariables false

/-- The slice that begins at ao with len elements holds the numbers zs. -/
def IsRow (w : World) (ao : Option Addr) (len : Nat) (zs : List Int) : Prop :=
  zs.length = len ∧ len ≤ 9223372036854775807 ∧ (∀ j, fitsB (zs.getD j 0) = true) ∧
    (len = 0 ∨ ∃ b off, ao = some ⟨b, off, none⟩ ∧ b < w.heap.size ∧ ∀ j, j < len → w.cell? ⟨b, off + j, none⟩ = some (.int .i64 (zs.getD j 0)))

theorem IsRow.keep {w u : World} {ao : Option Addr} {len : Nat} {zs : List Int} (h : IsRow w ao len zs) (G : Below w.heap.size w u) : IsRow u ao len zs := by
  obtain ⟨h1, h2, h3, h4⟩ := h
  refine ⟨h1, h2, h3, ?_⟩
  rcases h4 with h4 | ⟨b, off, e, hb, hc⟩
  · exact .inl h4
  · exact .inr ⟨b, off, e, Nat.lt_of_lt_of_le hb G.size, fun j hj => (G.cell (p := ⟨b, off + j, none⟩) hb).trans (hc j hj)⟩
theorem IsRow.nil (w : World) (ao : Option Addr) : IsRow w ao 0 [] := ⟨rfl, by omega, by intro j; simp; decide, .inl rfl⟩

def sumU (zs : List Int) : Nat → Int
  | 0 => 0
  | k + 1 => sumU zs k + zs.getD k 0
def step (g : Bool) (m y : Int) : Int := if g = true then (if m < y then y else m) else (if y < m then y else m)
def extU (g : Bool) (zs : List Int) : Nat → Int
  | 0 => zs.getD 0 0
  | k + 1 => step g (extU g zs k) (zs.getD (k + 1) 0)

theorem extU_at (g : Bool) (zs : List Int) (k : Nat) (h : 1 ≤ k) : extU g zs k = step g (extU g zs (k - 1)) (zs.getD k 0) := by
  obtain ⟨j, rfl⟩ : ∃ j, k = j + 1 := ⟨k - 1, by omega⟩
  simp [extU]
theorem sumU_bound (zs : List Int) (h : ∀ j, fitsB (zs.getD j 0) = true) (k : Nat) : -9223372036854775808 * (k : Int) ≤ sumU zs k ∧ sumU zs k ≤ 9223372036854775808 * (k : Int) := by
  induction k with
  | zero => simp [sumU]
  | succ k ih =>
    have := (fits_iff _).1 (h k)
    unfold sumU
    omega
theorem step_fits (g : Bool) (m y : Int) (h1 : fitsB m = true) (h2 : fitsB y = true) : fitsB (step g m y) = true := by
  unfold step; split <;> split <;> assumption
theorem extU_fits (g : Bool) (zs : List Int) (h : ∀ j, fitsB (zs.getD j 0) = true) (k : Nat) : fitsB (extU g zs k) = true := by
  induction k with
  | zero => exact h 0
  | succ k ih => exact step_fits g _ _ ih (h _)
theorem fits_getD (zs : List Int) (h : ∀ n ∈ zs, (Lit.int .i64 n).wf = true) (j : Nat) : fitsB (zs.getD j 0) = true := by
  by_cases hj : j < zs.length
  · have : zs.getD j 0 = zs[j] := by simp [List.getD, hj]
    rw [this]; exact fits_wf (h _ (List.getElem_mem hj))
  · have : zs.getD j 0 = 0 := by simp [List.getD, Nat.le_of_not_lt hj]
    rw [this]; decide

theorem isRow_open {W : World} {a : Addr} {len cap : Nat} {zs : List Int} (hl : len ≤ cap) (hm : cap ≤ maxLen) (hz : zs.length = cap) (hcell : ∀ i, i < zs.length → W.cell? (a.add i) = some (.int .i64 (zs.getD i 0))) (hwz : ∀ n ∈ zs, (Lit.int .i64 n).wf = true) : IsRow W (some a) len (zs.take len) := by
  refine ⟨by simp; omega, by unfold maxLen at hm; omega, fun j => fits_getD _ (fun n hn => hwz n (List.mem_of_mem_take hn)) j, ?_⟩
  rcases Nat.eq_zero_or_pos len with h0 | h0
  · exact .inl h0
  · refine .inr ?_
    obtain ⟨b, off, spot⟩ := a
    have hspot : spot = none := by simpa [Addr.add] using World.cell?_spot (hcell 0 (by omega))
    subst hspot
    refine ⟨b, off, rfl, lt_of_cell (hcell 0 (by omega)), fun j hj => ?_⟩
    have := hcell j (by omega)
    rw [Go.WideShapes.add_plain] at this
    rw [this]
    simp [List.getD, hj]
theorem isRow_news {w : World} {ad : Addr} {len : Nat} {zs : List Int} (h : IsRow w (some ad) len zs) (j : Nat) (u : Value) (hj : (zs.map (Value.int .i64))[j]? = some u) : w.cell? (ad.add j) = some u := by
  obtain ⟨h1, h2, h3, h4⟩ := h
  simp only [List.getElem?_map, Option.map_eq_some_iff] at hj
  obtain ⟨z, hz, rfl⟩ := hj
  have hlt := (List.getElem?_eq_some_iff.1 hz).1
  rcases h4 with h4 | ⟨b, off, e, hb, hc⟩
  · omega
  · simp only [Option.some.injEq] at e
    subst e
    rw [Go.WideShapes.add_plain, hc j (by omega)]
    simp [List.getD, hz]
theorem ints_one (zs : List Int) : ∀ u ∈ zs.map (Value.int .i64), u.oneCell' = true := by
  intro u hu
  simp only [List.mem_map] at hu
  obtain ⟨z, _, rfl⟩ := hu
  rfl
/-- An empty slice that was just laid. -/
theorem own_empty (w : World) (e : TypeId) : (w.alloc (.cells #[] e)).ownsRow w.heap.size e 1 (.slice (some ⟨w.heap.size, 0, none⟩) 0 0) 0 [] :=
  ⟨rfl, .inr ⟨w.heap.size, 0, #[], rfl, Nat.le_refl _, by show (w.heap.push _)[w.heap.size]? = _; simp, Nat.le_refl _, Nat.zero_le _, rfl, rfl⟩⟩
/-- A slice of the call's own, as a row. -/
theorem isRow_own {w : World} {base : Nat} {e : TypeId} {v : Value} {n : Nat} {zs : List Int} (h : w.ownsRow base e 1 v n (zs.map (Value.int .i64))) (hf : ∀ j, fitsB (zs.getD j 0) = true) :
    ∃ ao cap, v = .slice ao n cap ∧ IsRow w ao n zs ∧ (n = 0 ∨ ∃ g, ao = some ⟨g, 0, none⟩ ∧ base ≤ g) ∧ n ≤ cap := by
  obtain ⟨h1, h2⟩ := h
  have hlen : zs.length = n := by simpa using h1
  rcases h2 with ⟨rfl, rfl⟩ | ⟨g, cap, cur, rfl, hb, hh, hc, hm, hs, ht⟩
  · have : zs = [] := List.length_eq_zero_iff.1 hlen
    subst this
    exact ⟨none, 0, rfl, IsRow.nil _ _, .inl rfl, Nat.le_refl _⟩
  · refine ⟨_, cap, rfl, ⟨hlen, by unfold maxLen at hm; omega, hf, .inr ⟨g, 0, rfl, lt_of_block hh, fun j hj => ?_⟩⟩, .inr ⟨g, rfl, hb⟩, hc⟩
    rw [Nat.zero_add, cell_of_row w g j cur e (0, 0) hh]
    have e1 : cur.toList[j]? = (zs.map (Value.int .i64))[j]? := by rw [← ht, List.getElem?_take, if_pos (by omega)]
    have e2 : cur[j]? = cur.toList[j]? := by simp
    rw [e2, e1]
    simp [List.getD, List.getElem?_eq_getElem (show j < zs.length by omega)]

end Go.Proofs.YtnolbpekdikamaaGreatDoor
namespace Go.Proofs.YtnolbpekdikamaaGreatDoor
open Go.RowKit
set_option linter.unusedVariables false

def Two (w : World) (b : Nat) (x y : Value) (t : TypeId) : Prop := w.heap[b]? = some (.cells #[x, y] t (0, 0))

theorem Two.at0 {w : World} {b : Nat} {x y : Value} {t : TypeId} (h : Two w b x y t) : w.cell? ⟨b, 0, none⟩ = some x := by unfold Two at h; simp [World.cell?, h]
theorem Two.at1 {w : World} {b : Nat} {x y : Value} {t : TypeId} (h : Two w b x y t) : w.cell? ⟨b, 1, none⟩ = some y := by unfold Two at h; simp [World.cell?, h]
theorem Two.free {w : World} {b : Nat} {x y : Value} {t : TypeId} (h : Two w b x y t) (o : Nat) : w.frozen? ⟨b, o, none⟩ = false := by unfold Two at h; simp [World.frozen?, h]
theorem Two.lt {w : World} {b : Nat} {x y : Value} {t : TypeId} (h : Two w b x y t) : b < w.heap.size := by
  rcases Nat.lt_or_ge b w.heap.size with h' | h'
  · exact h'
  · unfold Two at h; simp [Array.getElem?_eq_none h'] at h
theorem Two.new (w : World) (x y : Value) (t : TypeId) : Two (w.alloc (.cells #[x, y] t)) w.heap.size x y t := by
  show (w.heap.push _)[w.heap.size]? = _
  simp
theorem Two.alloc {w : World} {b : Nat} {x y : Value} {t : TypeId} (h : Two w b x y t) (o : Obj) : Two (w.alloc o) b x y t := (Below.heap_alloc w o b h.lt).trans h
theorem Two.keep {w u : World} {b : Nat} {x y : Value} {t : TypeId} (h : Two w b x y t) (G : Below w.heap.size w u) : Two u b x y t := (G.block b h.lt).trans h
theorem Two.other {w : World} {b : Nat} {x y : Value} {t : TypeId} (h : Two w b x y t) {p : Addr} (hp : b ≠ p.block) (u : Value) : Two (w.setCell p u) b x y t := (Below.heap_setCell w p u b hp).trans h
theorem Two.drew {w : World} {b : Nat} {x y : Value} {t : TypeId} (h : Two w b x y t) : Two w.drew b x y t := h
theorem Two.set0 {w : World} {b : Nat} {x y : Value} {t : TypeId} (h : Two w b x y t) (u : Value) : Two (w.setCell ⟨b, 0, none⟩ u) b u y t := by
  have hlt := h.lt
  unfold Two at h
  have h' : w.heap[b] = .cells #[x, y] t (0, 0) := by simpa [Array.getElem?_eq_getElem hlt] using h
  show (w.heap.modify b _)[b]? = _
  rw [Array.getElem?_eq_getElem (by simpa using hlt), Array.getElem_modify_self, h']
  rfl
theorem Two.set1 {w : World} {b : Nat} {x y : Value} {t : TypeId} (h : Two w b x y t) (u : Value) : Two (w.setCell ⟨b, 1, none⟩ u) b x u t := by
  have hlt := h.lt
  unfold Two at h
  have h' : w.heap[b] = .cells #[x, y] t (0, 0) := by simpa [Array.getElem?_eq_getElem hlt] using h
  show (w.heap.modify b _)[b]? = _
  rw [Array.getElem?_eq_getElem (by simpa using hlt), Array.getElem_modify_self, h']
  rfl
theorem Two.set {w : World} {b : Nat} {x y : Value} {t : TypeId} (h : Two w b x y t) (u v : Value) : Two ((w.setCell ⟨b, 0, none⟩ u).setCell ⟨b, 1, none⟩ v) b u v t := (h.set0 u).set1 v

end Go.Proofs.YtnolbpekdikamaaGreatDoor
namespace Go.Proofs.YtnolbpekdikamaaGreatDoor
open Go.RowKit
set_option linter.unusedVariables false

set_option maxHeartbeats 1000000 in
theorem min_some (b off len cap : Nat) (zs : List Int) (w : World) (hn : 0 < len) (hl : len ≤ 9223372036854775807) (hc : ∀ j, j < len → w.cell? ⟨b, off + j, none⟩ = some (.int .i64 (zs.getD j 0))) :
    Calls Tryz.prog 91 #[.slice (some ⟨b, off, none⟩) len cap] w fun e w' => e = .returned (.int .i64 (extU false zs (len - 1))) ∧ w = w' := by
  have hc0 := hc 0 hn
  rw [Nat.add_zero] at hc0
  go_enter Tryz.func91, Tryz.ntmps91
  go_wp2
  go_loop [3, 4] (fun m i => ∃ k : Nat, 1 ≤ k ∧ k ≤ len ∧ i = .int .i64 k ∧ m = .int .i64 (extU false zs (k - 1))) (fun _ i => len - (intOf i).toNat)
  case atStart => exact ⟨1, Nat.le_refl _, hn, rfl, by simp [extU]⟩
  case round =>
    obtain ⟨k, hk1, hk, rfl, rfl⟩ := hrel
    have hck : k < len → w.cell? ⟨b, off + k, none⟩ = some (.int .i64 (zs.getD k 0)) := fun h => hc _ h
    go_wp2
    · have hlt : k < len := by assumption
      go_round
      case rel => exact ⟨k + 1, by omega, by omega, by go_num, by rw [Nat.add_sub_cancel, extU_at false zs k hk1]; simp [step, List.getD]; congr⟩
      case measure => simp [intOf]; omega
    · have hge : ¬ k < len := by assumption
      obtain rfl : k = len := by omega
      go_ret
      exact ⟨rfl, rfl⟩

set_option maxHeartbeats 1000000 in
theorem max_some (b off len cap : Nat) (zs : List Int) (w : World) (hn : 0 < len) (hl : len ≤ 9223372036854775807) (hc : ∀ j, j < len → w.cell? ⟨b, off + j, none⟩ = some (.int .i64 (zs.getD j 0))) :
    Calls Tryz.prog 92 #[.slice (some ⟨b, off, none⟩) len cap] w fun e w' => e = .returned (.int .i64 (extU true zs (len - 1))) ∧ w = w' := by
  have hc0 := hc 0 hn
  rw [Nat.add_zero] at hc0
  go_enter Tryz.func92, Tryz.ntmps92
  go_wp2
  go_loop [3, 4] (fun m i => ∃ k : Nat, 1 ≤ k ∧ k ≤ len ∧ i = .int .i64 k ∧ m = .int .i64 (extU true zs (k - 1))) (fun _ i => len - (intOf i).toNat)
  case atStart => exact ⟨1, Nat.le_refl _, hn, rfl, by simp [extU]⟩
  case round =>
    obtain ⟨k, hk1, hk, rfl, rfl⟩ := hrel
    have hck : k < len → w.cell? ⟨b, off + k, none⟩ = some (.int .i64 (zs.getD k 0)) := fun h => hc _ h
    go_wp2
    · have hlt : k < len := by assumption
      go_round
      case rel => exact ⟨k + 1, by omega, by omega, by go_num, by rw [Nat.add_sub_cancel, extU_at true zs k hk1]; simp [step, List.getD]; congr⟩
      case measure => simp [intOf]; omega
    · have hge : ¬ k < len := by assumption
      obtain rfl : k = len := by omega
      go_ret
      exact ⟨rfl, rfl⟩


set_option maxHeartbeats 2000000 in
theorem total_some (b off len cap : Nat) (zs : List Int) (w : World) (hb : b < w.heap.size) (hl : len ≤ 9223372036854775807) (hz : ∀ j, fitsB (zs.getD j 0) = true) (hc : ∀ j, j < len → w.cell? ⟨b, off + j, none⟩ = some (.int .i64 (zs.getD j 0))) :
    Calls Tryz.prog 90 #[.slice (some ⟨b, off, none⟩) len cap] w fun e w' => e = .returned (.agg #[.int .u64 (hiOf (sumU zs len)), .int .u64 (loOf (sumU zs len))]) ∧ Below w.heap.size w w' := by
  go_enter Tryz.func90, Tryz.ntmps90
  go_wp2
  go_loopw [8] (fun i wr => ∃ k : Nat, k ≤ len ∧ i = .int .i64 k ∧ Two wr w.heap.size (.int .u64 0) (.int .u64 0) 137 ∧ Two wr (w.heap.size + 1) (.int .u64 (hiOf (sumU zs k))) (.int .u64 (loOf (sumU zs k))) 137 ∧ Below w.heap.size w wr) (fun i _ => len - (intOf i).toNat)
  case atStart => exact ⟨0, Nat.zero_le _, rfl, (Two.new _ _ _ _).alloc _, by have := Two.new (w.alloc (.cells #[.int .u64 0, .int .u64 0] 137)) (.int .u64 0) (.int .u64 0) 137; simpa [sumU, hiOf, loOf] using this, galloc (galloc (Below.refl _ _) _) _⟩
  case round =>
    obtain ⟨k, hk, rfl, T0, T1, G⟩ := hrel
    have hck : k < len → wr.cell? ⟨b, off + k, none⟩ = some (.int .i64 (zs.getD k 0)) := fun h => (G.cell (p := ⟨b, off + k, none⟩) hb).trans (hc _ h)
    have hzk : -9223372036854775808 ≤ zs[k]?.getD 0 ∧ zs[k]?.getD 0 ≤ 9223372036854775807 := (fits_iff _).1 (by simpa [List.getD] using hz k)
    have c00 := T0.at0
    have c01 := T0.at1
    have c10 := T1.at0
    have c11 := T1.at1
    have f0 := T0.free
    have f1 := T1.free
    have l0 := T0.lt
    have l1 := T1.lt
    go_wp2
    · have hlt : k < len := by assumption
      have R := Below.refl wr.heap.size wr
      replace R := R.drew
      go_region_with (first
        | (go_at_call 78; refine (widen_any _ _ hzk.1 hzk.2).mono ?_; rintro e u ⟨rfl, g⟩; replace R := gtrans R g; obtain ⟨hc2, hf2⟩ := bcell R)
        | (go_at_call 82; refine (plus_any _ _ _).mono ?_; rintro e u ⟨rfl, g⟩; replace R := gtrans R g; obtain ⟨hc2, hf2⟩ := bcell R))
      all_goals
        have T0' := ((T0.keep R).other (p := ⟨w.heap.size + 1, 0, none⟩) (by simp) (.int .u64 (hiOf (sumU zs k + zs[k]?.getD 0)))).other (p := ⟨w.heap.size + 1, 1, none⟩) (by simp) (.int .u64 (loOf (sumU zs k + zs[k]?.getD 0)))
        have T1' := (T1.keep R).set (.int .u64 (hiOf (sumU zs k + zs[k]?.getD 0))) (.int .u64 (loOf (sumU zs k + zs[k]?.getD 0)))
        have G' := ((G.trans (R.mono G.size)).setCell (p := ⟨w.heap.size + 1, 0, none⟩) (by simp) (.int .u64 (hiOf (sumU zs k + zs[k]?.getD 0)))).setCell (p := ⟨w.heap.size + 1, 1, none⟩) (by simp) (.int .u64 (loOf (sumU zs k + zs[k]?.getD 0)))
        clear hc2 hf2 c00 c01 c10 c11 f0 f1
        generalize ((u.setCell ⟨w.heap.size + 1, 0, none⟩ (Value.int .u64 (hiOf (sumU zs k + zs[k]?.getD 0)))).setCell ⟨w.heap.size + 1, 1, none⟩ (Value.int .u64 (loOf (sumU zs k + zs[k]?.getD 0)))) = wz at T0' T1' G' ⊢
        go_wp2
        go_roundw
        case rel => exact ⟨k + 1, by omega, by go_num, T0', by simpa [sumU, List.getD] using T1', G'⟩
        case measure => simp [intOf]; omega
    · have hge : ¬ k < len := by assumption
      obtain rfl : k = len := by omega
      refine bodyPost_ret (v := .agg #[.int .u64 (hiOf (sumU zs k)), .int .u64 (loOf (sumU zs k))]) ?_ rfl ⟨rfl, ?_⟩
      · simp [results, Tryz.results90, go_sem, c00, c01]
      · exact (G.setCell (by simp) _).setCell (by simp) _

theorem min_any (ao : Option Addr) (len cap : Nat) (zs : List Int) (w : World) (hn : 0 < len) (h : IsRow w ao len zs) :
    Calls Tryz.prog 91 #[.slice ao len cap] w fun e w' => e = .returned (.int .i64 (extU false zs (len - 1))) ∧ w = w' := by
  obtain ⟨h1, h2, h3, h4⟩ := h
  rcases h4 with rfl | ⟨b, off, rfl, hb, hc⟩
  · omega
  · exact min_some b off len cap zs w hn h2 hc
theorem max_any (ao : Option Addr) (len cap : Nat) (zs : List Int) (w : World) (hn : 0 < len) (h : IsRow w ao len zs) :
    Calls Tryz.prog 92 #[.slice ao len cap] w fun e w' => e = .returned (.int .i64 (extU true zs (len - 1))) ∧ w = w' := by
  obtain ⟨h1, h2, h3, h4⟩ := h
  rcases h4 with rfl | ⟨b, off, rfl, hb, hc⟩
  · omega
  · exact max_some b off len cap zs w hn h2 hc

set_option maxHeartbeats 1000000 in
theorem total_none (ao : Option Addr) (cap : Nat) (w : World) :
    Calls Tryz.prog 90 #[.slice ao 0 cap] w fun e w' => e = .returned (.agg #[.int .u64 0, .int .u64 0]) ∧ Below w.heap.size w w' := by
  go_enter Tryz.func90, Tryz.ntmps90
  go_wp2
  refine wp_loop_rounds 1 ?_
  rw [rounds_succ]
  go_wp2
  refine bodyPost_ret (v := .agg #[.int .u64 0, .int .u64 0]) (by simp [results, Tryz.results90, go_sem]) rfl ⟨rfl, ?_⟩
  first | exact galloc (galloc (Below.refl _ _) _) _ | exact gset (gset (galloc (galloc (Below.refl _ _) _) _) (by simp) _) (by simp) _

theorem total_any (ao : Option Addr) (len cap : Nat) (zs : List Int) (w : World) (h : IsRow w ao len zs) :
    Calls Tryz.prog 90 #[.slice ao len cap] w fun e w' => e = .returned (.agg #[.int .u64 (hiOf (sumU zs len)), .int .u64 (loOf (sumU zs len))]) ∧ Below w.heap.size w w' := by
  obtain ⟨h1, h2, h3, h4⟩ := h
  rcases h4 with rfl | ⟨b, off, rfl, hb, hc⟩
  · have e1 : hiOf (sumU zs 0) = 0 := by simp [sumU, hiOf]
    have e2 : loOf (sumU zs 0) = 0 := by simp [sumU, loOf]
    rw [e1, e2]; exact total_none ao cap w
  · exact total_some b off len cap zs w hb h2 h3 hc

def foldK (op : Int) (zs : List Int) : Bool :=
  if op = 5 then true else if op = 6 then fitsB (sumU zs zs.length) else if zs.length = 0 then false else decide (op = 7 ∨ op = 8 ∨ op = 9 ∨ op = 10)
def foldN (op : Int) (zs : List Int) : Int :=
  if op = 5 then zs.length else if op = 6 then fitN (sumU zs zs.length) else if zs.length = 0 then 0 else
    if op = 7 then extU false zs (zs.length - 1) else if op = 8 then extU true zs (zs.length - 1) else if op = 9 then zs.getD 0 0 else if op = 10 then zs.getD (zs.length - 1) 0 else 0

set_option maxHeartbeats 1000000 in
theorem fold_five (ao : Option Addr) (len cap : Nat) (zs : List Int) (w : World) (h : IsRow w ao len zs) :
    Calls Tryz.prog 76 #[.int .i64 5, .slice ao len cap] w fun e w' => e = .returned (.agg #[.bool true, .int .i64 len]) ∧ Below w.heap.size w w' := by
  clear h
  go_enter Tryz.func76, Tryz.ntmps76
  go_wp2_with (go_at_call 53; refine (known_any _ _).mono ?_; rintro e w0 ⟨rfl, g0⟩; obtain ⟨hc0, hf0⟩ := bcell g0)
  refine bodyPost_ret (v := .agg #[.bool true, .int .i64 len]) (by simp [results, Tryz.results76, go_sem, hc0]) rfl ⟨rfl, ?_⟩
  exact gset (gset (gtrans (galloc (Below.refl _ _) _) g0) (by simp) _) (by simp) _

set_option maxHeartbeats 1000000 in
theorem fold_six (ao : Option Addr) (len cap : Nat) (zs : List Int) (w : World) (h : IsRow w ao len zs) :
    Calls Tryz.prog 76 #[.int .i64 6, .slice ao len cap] w fun e w' => e = .returned (.agg #[.bool (fitsB (sumU zs len)), .int .i64 (fitN (sumU zs len))]) ∧ Below w.heap.size w w' := by
  have B := sumU_bound zs h.2.2.1 len
  have hl := h.2.1
  have hr := h.keep (galloc (Below.refl w.heap.size w) (.cells #[.bool false, .int .i64 0] 51))
  have ct := total_any ao len cap zs _ hr
  have cn := narrow_any (sumU zs len)
  clear h hr
  go_enter Tryz.func76, Tryz.ntmps76
  go_wp2_with (first
    | (go_at_call 90; refine ct.mono ?_; rintro e w0 ⟨rfl, g0⟩; obtain ⟨hc0, hf0⟩ := bcell g0)
    | (go_at_call 80; refine (cn _ (by omega) (by omega)).mono ?_; rintro e w1 ⟨rfl, g1⟩; replace g0 := gtrans g0 g1; obtain ⟨hc1, hf1⟩ := bcell g0))
  refine bodyPost_ret (v := .agg #[.bool (fitsB (sumU zs len)), .int .i64 (fitN (sumU zs len))]) (by simp [results, Tryz.results76, go_sem, hc1]) rfl ⟨rfl, ?_⟩
  exact gset (gset (gtrans (galloc (Below.refl _ _) _) g0) (by simp) _) (by simp) _

set_option maxHeartbeats 1000000 in
theorem fold_seven (ao : Option Addr) (len cap : Nat) (zs : List Int) (w : World) (h : IsRow w ao len zs) (hn : 0 < len) :
    Calls Tryz.prog 76 #[.int .i64 7, .slice ao len cap] w fun e w' => e = .returned (.agg #[.bool true, .int .i64 (extU false zs (len - 1))]) ∧ Below w.heap.size w w' := by
  have hr := h.keep (galloc (Below.refl w.heap.size w) (.cells #[.bool false, .int .i64 0] 51))
  have ct := min_any ao len cap zs _ hn hr
  have hn0 : ((len : Int) == 0) = false := by simp; omega
  clear h hr
  go_enter Tryz.func76, Tryz.ntmps76
  go_wp2_with (first
    | (go_at_call 91; refine ct.mono ?_; rintro e w9 ⟨rfl, rfl⟩)
    | (go_at_call 53; refine (known_any _ _).mono ?_; rintro e w0 ⟨rfl, g0⟩; obtain ⟨hc0, hf0⟩ := bcell g0))
  refine bodyPost_ret (v := .agg #[.bool true, .int .i64 (extU false zs (len - 1))]) (by simp [results, Tryz.results76, go_sem, hc0]) rfl ⟨rfl, ?_⟩
  exact gset (gset (gtrans (galloc (Below.refl _ _) _) g0) (by simp) _) (by simp) _

set_option maxHeartbeats 1000000 in
theorem fold_eight (ao : Option Addr) (len cap : Nat) (zs : List Int) (w : World) (h : IsRow w ao len zs) (hn : 0 < len) :
    Calls Tryz.prog 76 #[.int .i64 8, .slice ao len cap] w fun e w' => e = .returned (.agg #[.bool true, .int .i64 (extU true zs (len - 1))]) ∧ Below w.heap.size w w' := by
  have hr := h.keep (galloc (Below.refl w.heap.size w) (.cells #[.bool false, .int .i64 0] 51))
  have ct := max_any ao len cap zs _ hn hr
  have hn0 : ((len : Int) == 0) = false := by simp; omega
  clear h hr
  go_enter Tryz.func76, Tryz.ntmps76
  go_wp2_with (first
    | (go_at_call 92; refine ct.mono ?_; rintro e w9 ⟨rfl, rfl⟩)
    | (go_at_call 53; refine (known_any _ _).mono ?_; rintro e w0 ⟨rfl, g0⟩; obtain ⟨hc0, hf0⟩ := bcell g0))
  refine bodyPost_ret (v := .agg #[.bool true, .int .i64 (extU true zs (len - 1))]) (by simp [results, Tryz.results76, go_sem, hc0]) rfl ⟨rfl, ?_⟩
  exact gset (gset (gtrans (galloc (Below.refl _ _) _) g0) (by simp) _) (by simp) _

set_option maxHeartbeats 1000000 in
theorem fold_nine (ao : Option Addr) (len cap : Nat) (zs : List Int) (w : World) (h : IsRow w ao len zs) (hn : 0 < len) :
    Calls Tryz.prog 76 #[.int .i64 9, .slice ao len cap] w fun e w' => e = .returned (.agg #[.bool true, .int .i64 (zs.getD 0 0)]) ∧ Below w.heap.size w w' := by
  obtain ⟨h1, h2, h3, h4⟩ := h
  rcases h4 with rfl | ⟨b, off, rfl, hb, hc⟩
  · omega
  obtain ⟨v, hv⟩ : ∃ v, v = zs.getD 0 0 := ⟨_, rfl⟩
  have hcv : w.cell? ⟨b, off + 0, none⟩ = some (.int .i64 v) := hv ▸ hc 0 (by omega)
  rw [← hv]
  clear hv hc h3 h1
  have hn0 : ((len : Int) == 0) = false := by simp; omega
  try rw [Nat.add_zero] at hcv
  go_enter Tryz.func76, Tryz.ntmps76
  go_wp2_with (go_at_call 53; refine (known_any _ _).mono ?_; rintro e w0 ⟨rfl, g0⟩; obtain ⟨hc0, hf0⟩ := bcell g0)
  refine bodyPost_ret (v := .agg #[.bool true, .int .i64 v]) (by simp [results, Tryz.results76, go_sem, hc0]) rfl ⟨rfl, ?_⟩
  exact gset (gset (gtrans (galloc (Below.refl _ _) _) g0) (by simp) _) (by simp) _

set_option maxHeartbeats 1000000 in
theorem fold_ten (ao : Option Addr) (len cap : Nat) (zs : List Int) (w : World) (h : IsRow w ao len zs) (hn : 0 < len) :
    Calls Tryz.prog 76 #[.int .i64 10, .slice ao len cap] w fun e w' => e = .returned (.agg #[.bool true, .int .i64 (zs.getD (len - 1) 0)]) ∧ Below w.heap.size w w' := by
  obtain ⟨h1, h2, h3, h4⟩ := h
  rcases h4 with rfl | ⟨b, off, rfl, hb, hc⟩
  · omega
  obtain ⟨v, hv⟩ : ∃ v, v = zs.getD (len - 1) 0 := ⟨_, rfl⟩
  have hcv : w.cell? ⟨b, off + (len - 1), none⟩ = some (.int .i64 v) := hv ▸ hc (len - 1) (by omega)
  rw [← hv]
  clear hv hc h3 h1
  have hn0 : ((len : Int) == 0) = false := by simp; omega
  try rw [Nat.add_zero] at hcv
  go_enter Tryz.func76, Tryz.ntmps76
  go_wp2_with (go_at_call 53; refine (known_any _ _).mono ?_; rintro e w0 ⟨rfl, g0⟩; obtain ⟨hc0, hf0⟩ := bcell g0)
  refine bodyPost_ret (v := .agg #[.bool true, .int .i64 v]) (by simp [results, Tryz.results76, go_sem, hc0]) rfl ⟨rfl, ?_⟩
  exact gset (gset (gtrans (galloc (Below.refl _ _) _) g0) (by simp) _) (by simp) _

set_option maxHeartbeats 1000000 in
theorem fold_empty (op : Int) (ao : Option Addr) (len cap : Nat) (zs : List Int) (w : World) (h : IsRow w ao len zs) (hn : len = 0) (h5 : (op == 5) = false) (h6 : (op == 6) = false) :
    Calls Tryz.prog 76 #[.int .i64 op, .slice ao len cap] w fun e w' => e = .returned (.agg #[.bool false, .int .i64 0]) ∧ Below w.heap.size w w' := by
  subst hn
  clear h
  go_enter Tryz.func76, Tryz.ntmps76
  go_wp2
  refine bodyPost_ret (v := .agg #[.bool false, .int .i64 0]) (by simp [results, Tryz.results76, go_sem]) rfl ⟨rfl, ?_⟩
  first | exact galloc (Below.refl _ _) _ | exact gset (gset (galloc (Below.refl _ _) _) (by simp) _) (by simp) _

set_option maxHeartbeats 1000000 in
theorem fold_else (op : Int) (ao : Option Addr) (len cap : Nat) (zs : List Int) (w : World) (h : IsRow w ao len zs) (hn : 0 < len) (h5 : (op == 5) = false) (h6 : (op == 6) = false) (h7 : (op == 7) = false) (h8 : (op == 8) = false) (h9 : (op == 9) = false) (h10 : (op == 10) = false) :
    Calls Tryz.prog 76 #[.int .i64 op, .slice ao len cap] w fun e w' => e = .returned (.agg #[.bool false, .int .i64 0]) ∧ Below w.heap.size w w' := by
  have hn0 : ((len : Int) == 0) = false := by simp; omega
  clear h
  go_enter Tryz.func76, Tryz.ntmps76
  go_wp2
  refine bodyPost_ret (v := .agg #[.bool false, .int .i64 0]) (by simp [results, Tryz.results76, go_sem]) rfl ⟨rfl, ?_⟩
  first | exact galloc (Below.refl _ _) _ | exact gset (gset (galloc (Below.refl _ _) _) (by simp) _) (by simp) _

theorem fold_any (op : Int) (ao : Option Addr) (len cap : Nat) (zs : List Int) (w : World) (h : IsRow w ao len zs) :
    Calls Tryz.prog 76 #[.int .i64 op, .slice ao len cap] w fun e w' => e = .returned (.agg #[.bool (foldK op zs), .int .i64 (foldN op zs)]) ∧ Below w.heap.size w w' := by
  have hlen : zs.length = len := h.1
  unfold foldK foldN
  rw [hlen]
  by_cases h5 : op = 5
  · subst h5; exact fold_five ao len cap zs w h
  by_cases h6 : op = 6
  · subst h6; exact fold_six ao len cap zs w h
  rw [if_neg h5, if_neg h5, if_neg h6, if_neg h6]
  by_cases hn : len = 0
  · rw [if_pos hn, if_pos hn]; exact fold_empty op ao len cap zs w h hn (by simpa using h5) (by simpa using h6)
  rw [if_neg hn, if_neg hn]
  have hp : 0 < len := by omega
  by_cases h7 : op = 7
  · subst h7; exact fold_seven ao len cap zs w h hp
  by_cases h8 : op = 8
  · subst h8; exact fold_eight ao len cap zs w h hp
  by_cases h9 : op = 9
  · subst h9; exact fold_nine ao len cap zs w h hp
  by_cases h10 : op = 10
  · subst h10; exact fold_ten ao len cap zs w h hp
  rw [if_neg h7, if_neg h8, if_neg h9, if_neg h10, decide_eq_false (by simp [h7, h8, h9, h10])]
  exact fold_else op ao len cap zs w h hp (by simpa using h5) (by simpa using h6) (by simpa using h7) (by simpa using h8) (by simpa using h9) (by simpa using h10)

end Go.Proofs.YtnolbpekdikamaaGreatDoor
namespace Go.Proofs.YtnolbpekdikamaaGreatDoor
open Go.RowKit Go.BigFrame
set_option linter.unusedVariables false
set_option linter.unusedSimpArgs false

structure Ev where
  ts : Int
  id : Int
  typ : Int
  a0 : Int
  a1 : Int
  a2 : Int
  a3 : Int
  a4 : Int
  a5 : Int
  a6 : Int
  a7 : Int
def Ev.at (e : Ev) (j : Nat) : Int := [e.a0, e.a1, e.a2, e.a3, e.a4, e.a5, e.a6, e.a7].getD j 0
/-- The numbers of an event are of their types. -/
structure Ev.ok (e : Ev) : Prop where
  t0 : -9223372036854775808 ≤ e.ts
  t1 : e.ts ≤ 9223372036854775807
  i0 : 0 ≤ e.id
  i1 : e.id < 18446744073709551616
  at0 : ∀ j, j < 8 → -9223372036854775808 ≤ e.at j
  at1 : ∀ j, j < 8 → e.at j ≤ 9223372036854775807
def evC (e : Ev) : Array Value := #[.int .i64 e.ts, .int .u64 e.id, .int .i64 e.typ, .int .i64 e.a0, .int .i64 e.a1, .int .i64 e.a2, .int .i64 e.a3, .int .i64 e.a4, .int .i64 e.a5, .int .i64 e.a6, .int .i64 e.a7]
def zeroE : Ev := ⟨0, 0, 0, 0, 0, 0, 0, 0, 0, 0, 0⟩
theorem zeroE_ok : zeroE.ok := ⟨by decide, by decide, by decide, by decide, fun j hj => by rcases (show j = 0 ∨ j = 1 ∨ j = 2 ∨ j = 3 ∨ j = 4 ∨ j = 5 ∨ j = 6 ∨ j = 7 from by omega) with rfl | rfl | rfl | rfl | rfl | rfl | rfl | rfl <;> decide, fun j hj => by rcases (show j = 0 ∨ j = 1 ∨ j = 2 ∨ j = 3 ∨ j = 4 ∨ j = 5 ∨ j = 6 ∨ j = 7 from by omega) with rfl | rfl | rfl | rfl | rfl | rfl | rfl | rfl <;> decide⟩
def Ev.put (e : Ev) (j : Nat) (z : Int) : Ev :=
  ⟨e.ts, e.id, e.typ, if j = 0 then z else e.a0, if j = 1 then z else e.a1, if j = 2 then z else e.a2, if j = 3 then z else e.a3, if j = 4 then z else e.a4, if j = 5 then z else e.a5, if j = 6 then z else e.a6, if j = 7 then z else e.a7⟩
theorem Ev.put_at (e : Ev) (j : Nat) (z : Int) (k : Nat) (hk : k < 8) : (e.put j z).at k = if j = k then z else e.at k := by
  rcases (show k = 0 ∨ k = 1 ∨ k = 2 ∨ k = 3 ∨ k = 4 ∨ k = 5 ∨ k = 6 ∨ k = 7 from by omega) with rfl | rfl | rfl | rfl | rfl | rfl | rfl | rfl <;> simp [Ev.put, Ev.at]
theorem Ev.put_ok {e : Ev} (h : e.ok) (j : Nat) {z : Int} (h0 : -9223372036854775808 ≤ z) (h1 : z ≤ 9223372036854775807) : (e.put j z).ok :=
  ⟨h.t0, h.t1, h.i0, h.i1, fun k hk => by rw [Ev.put_at _ _ _ _ hk]; split; exact h0; exact h.at0 k hk, fun k hk => by rw [Ev.put_at _ _ _ _ hk]; split; exact h1; exact h.at1 k hk⟩
theorem evC_at (e : Ev) (j : Nat) (hj : j < 8) : (evC e).toList[3 + j]? = some (.int .i64 (e.at j)) := by
  rcases (show j = 0 ∨ j = 1 ∨ j = 2 ∨ j = 3 ∨ j = 4 ∨ j = 5 ∨ j = 6 ∨ j = 7 from by omega) with rfl | rfl | rfl | rfl | rfl | rfl | rfl | rfl <;> rfl
theorem evC_put (e : Ev) (j : Nat) (hj : j < 8) (z : Int) : (evC (e.put j z)).toList = (evC e).toList.set (3 + j) (.int .i64 z) := by
  rcases (show j = 0 ∨ j = 1 ∨ j = 2 ∨ j = 3 ∨ j = 4 ∨ j = 5 ∨ j = 6 ∨ j = 7 from by omega) with rfl | rfl | rfl | rfl | rfl | rfl | rfl | rfl <;> simp [Ev.put, evC]

end Go.Proofs.YtnolbpekdikamaaGreatDoor
namespace Go.Proofs.YtnolbpekdikamaaGreatDoor
open Go.RowKit Go.BigFrame
set_option linter.unusedVariables false
set_option linter.unusedSimpArgs false

/-- A slice that is nil where it begins nowhere. -/
def Sl (ao : Option Addr) (n c : Nat) : Prop := n ≤ c ∧ (ao = none → n = 0 ∧ c = 0)
theorem own_form {w : World} {base : Nat} {e : TypeId} {size : Nat} {v : Value} {n : Nat} {xs : List Value} (h : w.ownsRow base e size v n xs) : ∃ ao cap, v = .slice ao n cap ∧ n ≤ cap ∧ n ≤ 9223372036854775807 ∧ (n = 0 ∨ ∃ g, ao = some ⟨g, 0, none⟩ ∧ g < w.heap.size ∧ base ≤ g) := by
  obtain ⟨h1, h2⟩ := h
  rcases h2 with ⟨rfl, rfl⟩ | ⟨g, cap, cur, rfl, hb, hh, hc, hm, hs, ht⟩
  · exact ⟨_, _, rfl, Nat.zero_le _, by omega, .inl rfl⟩
  · exact ⟨_, _, rfl, hc, by unfold maxLen at hm; omega, .inr ⟨g, rfl, lt_of_block hh, hb⟩⟩
theorem nf_info {P : Program} {e : TypeId} {z : Value} {s b : Nat} (h : (P.info? e).map (fun i => (i.zero, i.size, i.bytes)) = some (some z, s, b)) : ∃ i, P.info? e = some i ∧ i.zero = some z ∧ i.size = s ∧ i.bytes = b := by
  cases hi : P.info? e with
  | none => rw [hi] at h; cases h
  | some i => rw [hi] at h; simp at h; exact ⟨i, rfl, h.1, h.2.1, h.2.2⟩
/-- Rows of another type are not met. -/
theorem ty_far {w u : World} {b1 b2 : Nat} {e1 e2 : TypeId} {s1 s2 : Nat} {v1 v2 : Value} {n1 n2 : Nat} {x1 x2 : List Value} (h1 : w.ownsRow b1 e1 s1 v1 n1 x1) (h2 : w.ownsRow b2 e2 s2 v2 n2 x2) (hT : e1 ≠ e2) (G : w.grownBy u v1.ownBlock) : u.ownsRow b2 e2 s2 v2 n2 x2 := by
  refine own_of_block h2 fun g cur hb hh => G.block g (lt_of_block hh) fun e => ?_
  rcases h1.2 with ⟨rfl, _⟩ | ⟨g1, c1, cur1, rfl, _, hh1, _⟩
  · cases e
  · cases e
    rw [hh1] at hh
    simp only [Option.some.injEq, Obj.cells.injEq] at hh
    exact hT hh.2.1
theorem ty_set {w : World} {b2 : Nat} {e2 : TypeId} {s2 : Nat} {v2 : Value} {n2 : Nat} {x2 : List Value} (h2 : w.ownsRow b2 e2 s2 v2 n2 x2) {b : Nat} {c : Array Value} {t : TypeId} {f : Nat × Nat} (hb : w.heap[b]? = some (.cells c t f)) (hT : t ≠ e2) (o : Nat) (u : Value) : (w.setCell ⟨b, o, none⟩ u).ownsRow b2 e2 s2 v2 n2 x2 := by
  refine own_of_block h2 fun g cur _ hh => ?_
  have hne : b ≠ g := fun e => by
    subst e
    rw [hb] at hh
    simp only [Option.some.injEq, Obj.cells.injEq] at hh
    exact hT hh.2.1
  show (w.heap.modify b _)[g]? = _
  rw [Array.getElem?_modify, if_neg hne]
/-- Only the block b may have turned. -/
def But (b : Nat) (w u : World) : Prop := ∀ k, k ≠ b → u.heap[k]? = w.heap[k]?
theorem But.refl (b : Nat) (w : World) : But b w w := fun _ _ => rfl
theorem But.set {b : Nat} {w u : World} (h : But b w u) (o : Nat) (v : Value) : But b w (u.setCell ⟨b, o, none⟩ v) := fun k hk => by
  rw [← h k hk]
  show (u.heap.modify b _)[k]? = _
  rw [Array.getElem?_modify, if_neg (fun e => hk e.symm)]
theorem own_but {w u : World} {b2 : Nat} {e2 : TypeId} {s2 : Nat} {v2 : Value} {n2 : Nat} {x2 : List Value} (h2 : w.ownsRow b2 e2 s2 v2 n2 x2) {b : Nat} {c : Array Value} {t : TypeId} {f : Nat × Nat} (hb : w.heap[b]? = some (.cells c t f)) (hT : t ≠ e2) (B : But b w u) : u.ownsRow b2 e2 s2 v2 n2 x2 :=
  own_of_block h2 fun g cur _ hh => B g fun e => by
    subst e
    rw [hb] at hh
    simp only [Option.some.injEq, Obj.cells.injEq] at hh
    exact hT hh.2.1
/-- A row of one's own as it is read. -/
theorem own_sl {w : World} {b : Nat} {e : TypeId} {s : Nat} {ao : Option Addr} {n c : Nat} {xs : List Value} (h : w.ownsRow b e s (.slice ao n c) n xs) : Sl ao n c := by
  rcases h.2 with ⟨h1, h2⟩ | ⟨g, c', cur, h1, _, _, h2, _⟩
  · cases h1; exact ⟨Nat.le_refl _, fun _ => ⟨rfl, rfl⟩⟩
  · cases h1; exact ⟨h2, fun e => by cases e⟩
/-- A block whose cells are known. -/
theorem Bk.go {b : Nat} {t : TypeId} (w : World) (cs : Array Value) (o : Nat) (a : Value) (h : w.heap[b]? = some (.cells cs t (0, 0))) : (w.setCell ⟨b, o, none⟩ a).heap[b]? = some (.cells (cs.setIfInBounds o a) t (0, 0)) := by
  have hlt := lt_of_block h
  have h' : w.heap[b] = .cells cs t (0, 0) := by simpa [Array.getElem?_eq_getElem hlt] using h
  show (w.heap.modify b _)[b]? = _
  rw [Array.getElem?_eq_getElem (by simpa using hlt), Array.getElem_modify_self, h']
  rfl
def Bk (w : World) (b : Nat) (cs : Array Value) (t : TypeId) : Prop := w.heap[b]? = some (.cells cs t (0, 0))
theorem Bk.new (w : World) (cs : Array Value) (t : TypeId) : Bk (w.alloc (.cells cs t)) w.heap.size cs t := by
  show (w.heap.push _)[w.heap.size]? = _
  simp
theorem Bk.lt {w : World} {b : Nat} {cs : Array Value} {t : TypeId} (h : Bk w b cs t) : b < w.heap.size := lt_of_block h
theorem Bk.keep {w u : World} {b : Nat} {cs : Array Value} {t : TypeId} (h : Bk w b cs t) (G : Below w.heap.size w u) : Bk u b cs t := (G.block b h.lt).trans h
theorem Bk.alloc {w : World} {b : Nat} {cs : Array Value} {t : TypeId} (h : Bk w b cs t) (o : Obj) : Bk (w.alloc o) b cs t := (Below.heap_alloc w o b h.lt).trans h
theorem Bk.at2 {w : World} {b : Nat} {c0 c1 : Value} {t : TypeId} (h : Bk w b #[c0, c1] t) : w.cell? ⟨b, 0, none⟩ = some c0 ∧ w.cell? ⟨b, 1, none⟩ = some c1 := ⟨cell_of_row w b 0 _ _ _ h, cell_of_row w b 1 _ _ _ h⟩
theorem Bk.at4 {w : World} {b : Nat} {c0 c1 c2 c3 : Value} {t : TypeId} (h : Bk w b #[c0, c1, c2, c3] t) : w.cell? ⟨b, 0, none⟩ = some c0 ∧ w.cell? ⟨b, 1, none⟩ = some c1 ∧ w.cell? ⟨b, 2, none⟩ = some c2 ∧ w.cell? ⟨b, 3, none⟩ = some c3 := ⟨cell_of_row w b 0 _ _ _ h, cell_of_row w b 1 _ _ _ h, cell_of_row w b 2 _ _ _ h, cell_of_row w b 3 _ _ _ h⟩
/-- A local of seven cells. -/
theorem Bk.at7 {w : World} {b : Nat} {c0 c1 c2 c3 c4 c5 c6 : Value} {t : TypeId} (h : Bk w b #[c0, c1, c2, c3, c4, c5, c6] t) : w.cell? ⟨b, 0, none⟩ = some c0 ∧ w.cell? ⟨b, 1, none⟩ = some c1 ∧ w.cell? ⟨b, 2, none⟩ = some c2 ∧ w.cell? ⟨b, 3, none⟩ = some c3 ∧ w.cell? ⟨b, 4, none⟩ = some c4 ∧ w.cell? ⟨b, 5, none⟩ = some c5 ∧ w.cell? ⟨b, 6, none⟩ = some c6 :=
  ⟨cell_of_row w b 0 _ _ _ h, cell_of_row w b 1 _ _ _ h, cell_of_row w b 2 _ _ _ h, cell_of_row w b 3 _ _ _ h, cell_of_row w b 4 _ _ _ h, cell_of_row w b 5 _ _ _ h, cell_of_row w b 6 _ _ _ h⟩
theorem Bk.free {w : World} {b : Nat} {cs : Array Value} {t : TypeId} (h : Bk w b cs t) (o : Nat) : w.frozen? ⟨b, o, none⟩ = false := by unfold Bk at h; simp [World.frozen?, h]
theorem Bk.set {w : World} {b : Nat} {cs : Array Value} {t : TypeId} (h : Bk w b cs t) (o : Nat) (v : Value) : Bk (w.setCell ⟨b, o, none⟩ v) b (cs.setIfInBounds o v) t := Bk.go w cs o v h
theorem Bk.other {w : World} {b : Nat} {cs : Array Value} {t : TypeId} (h : Bk w b cs t) {b' : Nat} (hne : b' ≠ b) (o : Nat) (v : Value) : Bk (w.setCell ⟨b', o, none⟩ v) b cs t := by
  unfold Bk at h ⊢
  rw [← h]
  show (w.heap.modify b' _)[b]? = _
  rw [Array.getElem?_modify, if_neg hne]
theorem Bk.newE {w : World} {g : Nat} (hg : g = w.heap.size) (cs : Array Value) (t : TypeId) : Bk (w.alloc (.cells cs t)) g cs t := by subst hg; exact Bk.new w cs t
theorem bk_far {w u : World} {b : Nat} {cs : Array Value} {t : TypeId} (h : Bk w b cs t) {b1 : Nat} {e1 : TypeId} {s1 : Nat} {v1 : Value} {n1 : Nat} {x1 : List Value} (h1 : w.ownsRow b1 e1 s1 v1 n1 x1) (hT : t ≠ e1) (G : w.grownBy u v1.ownBlock) : Bk u b cs t := by
  refine (G.block b h.lt fun e => ?_).trans h
  rcases h1.2 with ⟨rfl, _⟩ | ⟨g1, c1, cur1, rfl, _, hh1, _⟩
  · cases e
  · cases e
    unfold Bk at h
    rw [hh1] at h
    simp only [Option.some.injEq, Obj.cells.injEq] at h
    exact hT h.2.1.symm
theorem Bk.at5 {w : World} {b : Nat} {c0 c1 c2 c3 c4 : Value} {t : TypeId} (h : Bk w b #[c0, c1, c2, c3, c4] t) : w.cell? ⟨b, 0, none⟩ = some c0 ∧ w.cell? ⟨b, 1, none⟩ = some c1 ∧ w.cell? ⟨b, 2, none⟩ = some c2 ∧ w.cell? ⟨b, 3, none⟩ = some c3 ∧ w.cell? ⟨b, 4, none⟩ = some c4 := ⟨cell_of_row w b 0 _ _ _ h, cell_of_row w b 1 _ _ _ h, cell_of_row w b 2 _ _ _ h, cell_of_row w b 3 _ _ _ h, cell_of_row w b 4 _ _ _ h⟩
/-- A local of three cells. -/
theorem Bk.at3 {w : World} {b : Nat} {c0 c1 c2 : Value} {t : TypeId} (h : Bk w b #[c0, c1, c2] t) : w.cell? ⟨b, 0, none⟩ = some c0 ∧ w.cell? ⟨b, 1, none⟩ = some c1 ∧ w.cell? ⟨b, 2, none⟩ = some c2 := ⟨cell_of_row w b 0 _ _ _ h, cell_of_row w b 1 _ _ _ h, cell_of_row w b 2 _ _ _ h⟩
theorem Bk.at6 {w : World} {b : Nat} {c0 c1 c2 c3 c4 c5 : Value} {t : TypeId} (h : Bk w b #[c0, c1, c2, c3, c4, c5] t) : w.cell? ⟨b, 0, none⟩ = some c0 ∧ w.cell? ⟨b, 1, none⟩ = some c1 ∧ w.cell? ⟨b, 2, none⟩ = some c2 ∧ w.cell? ⟨b, 3, none⟩ = some c3 ∧ w.cell? ⟨b, 4, none⟩ = some c4 ∧ w.cell? ⟨b, 5, none⟩ = some c5 := ⟨cell_of_row w b 0 _ _ _ h, cell_of_row w b 1 _ _ _ h, cell_of_row w b 2 _ _ _ h, cell_of_row w b 3 _ _ _ h, cell_of_row w b 4 _ _ _ h, cell_of_row w b 5 _ _ _ h⟩

end Go.Proofs.YtnolbpekdikamaaGreatDoor
