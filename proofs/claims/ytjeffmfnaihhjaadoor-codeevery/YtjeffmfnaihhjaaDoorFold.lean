/- What num's total and Fold, slices.Min and slices.Max come to, of any list. -/
import Derived.Test.YtjeffmfnaihhjaaDoorArith
import Derived.Test.YtjeffmfnaihhjaaDoorRow
import Derived.Test.YtjeffmfnaihhjaaDoorTwo
namespace Go.Proofs.YtjeffmfnaihhjaaDoor
open Go.RowKit
set_option linter.unusedVariables false

set_option maxHeartbeats 1000000 in
theorem min_some (b off len cap : Nat) (zs : List Int) (w : World) (hn : 0 < len) (hl : len ≤ 9223372036854775807) (hc : ∀ j, j < len → w.cell? ⟨b, off + j, none⟩ = some (.int .i64 (zs.getD j 0))) :
    Calls Tryd.prog 74 #[.slice (some ⟨b, off, none⟩) len cap] w fun e w' => e = .returned (.int .i64 (extU false zs (len - 1))) ∧ w = w' := by
  have hc0 := hc 0 hn
  rw [Nat.add_zero] at hc0
  go_enter Tryd.func74, Tryd.ntmps74
  go_wp2
  go_loop [3, 4] (fun m i => ∃ k : Nat, 1 ≤ k ∧ k ≤ len ∧ i = .int .i64 k ∧ m = .int .i64 (extU false zs (k - 1))) (fun _ i => len - (intOf i).toNat)
  case atStart => exact ⟨1, Nat.le_refl _, hn, rfl, by simp [extU]⟩
  case round =>
    obtain ⟨k, hk1, hk, rfl, rfl⟩ := hrel
    have hck : k < len → w.cell? ⟨b, off + k, none⟩ = some (.int .i64 (zs.getD k 0)) := fun h => hc _ h
    go_wp2
    · have hlt : k < len := by assumption
      go_round
      case rel => exact ⟨k + 1, by omega, by omega, by go_num, by rw [Nat.add_sub_cancel, extU_at false zs k hk1]; simp [step, List.getD]; congr⟩
      case measure => simp [intOf]; omega
    · have hge : ¬ k < len := by assumption
      obtain rfl : k = len := by omega
      go_ret
      exact ⟨rfl, rfl⟩

set_option maxHeartbeats 1000000 in
theorem max_some (b off len cap : Nat) (zs : List Int) (w : World) (hn : 0 < len) (hl : len ≤ 9223372036854775807) (hc : ∀ j, j < len → w.cell? ⟨b, off + j, none⟩ = some (.int .i64 (zs.getD j 0))) :
    Calls Tryd.prog 75 #[.slice (some ⟨b, off, none⟩) len cap] w fun e w' => e = .returned (.int .i64 (extU true zs (len - 1))) ∧ w = w' := by
  have hc0 := hc 0 hn
  rw [Nat.add_zero] at hc0
  go_enter Tryd.func75, Tryd.ntmps75
  go_wp2
  go_loop [3, 4] (fun m i => ∃ k : Nat, 1 ≤ k ∧ k ≤ len ∧ i = .int .i64 k ∧ m = .int .i64 (extU true zs (k - 1))) (fun _ i => len - (intOf i).toNat)
  case atStart => exact ⟨1, Nat.le_refl _, hn, rfl, by simp [extU]⟩
  case round =>
    obtain ⟨k, hk1, hk, rfl, rfl⟩ := hrel
    have hck : k < len → w.cell? ⟨b, off + k, none⟩ = some (.int .i64 (zs.getD k 0)) := fun h => hc _ h
    go_wp2
    · have hlt : k < len := by assumption
      go_round
      case rel => exact ⟨k + 1, by omega, by omega, by go_num, by rw [Nat.add_sub_cancel, extU_at true zs k hk1]; simp [step, List.getD]; congr⟩
      case measure => simp [intOf]; omega
    · have hge : ¬ k < len := by assumption
      obtain rfl : k = len := by omega
      go_ret
      exact ⟨rfl, rfl⟩


set_option maxHeartbeats 2000000 in
theorem total_some (b off len cap : Nat) (zs : List Int) (w : World) (hb : b < w.heap.size) (hl : len ≤ 9223372036854775807) (hz : ∀ j, fitsB (zs.getD j 0) = true) (hc : ∀ j, j < len → w.cell? ⟨b, off + j, none⟩ = some (.int .i64 (zs.getD j 0))) :
    Calls Tryd.prog 73 #[.slice (some ⟨b, off, none⟩) len cap] w fun e w' => e = .returned (.agg #[.int .u64 (hiOf (sumU zs len)), .int .u64 (loOf (sumU zs len))]) ∧ Below w.heap.size w w' := by
  go_enter Tryd.func73, Tryd.ntmps73
  go_wp2
  go_loopw [8] (fun i wr => ∃ k : Nat, k ≤ len ∧ i = .int .i64 k ∧ Two wr w.heap.size (.int .u64 0) (.int .u64 0) 86 ∧ Two wr (w.heap.size + 1) (.int .u64 (hiOf (sumU zs k))) (.int .u64 (loOf (sumU zs k))) 86 ∧ Below w.heap.size w wr) (fun i _ => len - (intOf i).toNat)
  case atStart => exact ⟨0, Nat.zero_le _, rfl, (Two.new _ _ _ _).alloc _, by have := Two.new (w.alloc (.cells #[.int .u64 0, .int .u64 0] 86)) (.int .u64 0) (.int .u64 0) 86; simpa [sumU, hiOf, loOf] using this, galloc (galloc (Below.refl _ _) _) _⟩
  case round =>
    obtain ⟨k, hk, rfl, T0, T1, G⟩ := hrel
    have hck : k < len → wr.cell? ⟨b, off + k, none⟩ = some (.int .i64 (zs.getD k 0)) := fun h => (G.cell (p := ⟨b, off + k, none⟩) hb).trans (hc _ h)
    have hzk : -9223372036854775808 ≤ zs[k]?.getD 0 ∧ zs[k]?.getD 0 ≤ 9223372036854775807 := (fits_iff _).1 (by simpa [List.getD] using hz k)
    have c00 := T0.at0
    have c01 := T0.at1
    have c10 := T1.at0
    have c11 := T1.at1
    have f0 := T0.free
    have f1 := T1.free
    have l0 := T0.lt
    have l1 := T1.lt
    go_wp2
    · have hlt : k < len := by assumption
      have R := Below.refl wr.heap.size wr
      replace R := R.drew
      go_region_with (first
        | (go_at_call 55; refine (widen_any _ _ hzk.1 hzk.2).mono ?_; rintro e u ⟨rfl, g⟩; replace R := gtrans R g; obtain ⟨hc2, hf2⟩ := bcell R)
        | (go_at_call 59; refine (plus_any _ _ _).mono ?_; rintro e u ⟨rfl, g⟩; replace R := gtrans R g; obtain ⟨hc2, hf2⟩ := bcell R))
      all_goals
        have T0' := ((T0.keep R).other (p := ⟨w.heap.size + 1, 0, none⟩) (by simp) (.int .u64 (hiOf (sumU zs k + zs[k]?.getD 0)))).other (p := ⟨w.heap.size + 1, 1, none⟩) (by simp) (.int .u64 (loOf (sumU zs k + zs[k]?.getD 0)))
        have T1' := (T1.keep R).set (.int .u64 (hiOf (sumU zs k + zs[k]?.getD 0))) (.int .u64 (loOf (sumU zs k + zs[k]?.getD 0)))
        have G' := ((G.trans (R.mono G.size)).setCell (p := ⟨w.heap.size + 1, 0, none⟩) (by simp) (.int .u64 (hiOf (sumU zs k + zs[k]?.getD 0)))).setCell (p := ⟨w.heap.size + 1, 1, none⟩) (by simp) (.int .u64 (loOf (sumU zs k + zs[k]?.getD 0)))
        clear hc2 hf2 c00 c01 c10 c11 f0 f1
        generalize ((u.setCell ⟨w.heap.size + 1, 0, none⟩ (Value.int .u64 (hiOf (sumU zs k + zs[k]?.getD 0)))).setCell ⟨w.heap.size + 1, 1, none⟩ (Value.int .u64 (loOf (sumU zs k + zs[k]?.getD 0)))) = wz at T0' T1' G' ⊢
        go_wp2
        go_roundw
        case rel => exact ⟨k + 1, by omega, by go_num, T0', by simpa [sumU, List.getD] using T1', G'⟩
        case measure => simp [intOf]; omega
    · have hge : ¬ k < len := by assumption
      obtain rfl : k = len := by omega
      refine bodyPost_ret (v := .agg #[.int .u64 (hiOf (sumU zs k)), .int .u64 (loOf (sumU zs k))]) ?_ rfl ⟨rfl, ?_⟩
      · simp [results, Tryd.results73, go_sem, c00, c01]
      · exact (G.setCell (by simp) _).setCell (by simp) _

theorem min_any (ao : Option Addr) (len cap : Nat) (zs : List Int) (w : World) (hn : 0 < len) (h : IsRow w ao len zs) :
    Calls Tryd.prog 74 #[.slice ao len cap] w fun e w' => e = .returned (.int .i64 (extU false zs (len - 1))) ∧ w = w' := by
  obtain ⟨h1, h2, h3, h4⟩ := h
  rcases h4 with rfl | ⟨b, off, rfl, hb, hc⟩
  · omega
  · exact min_some b off len cap zs w hn h2 hc
theorem max_any (ao : Option Addr) (len cap : Nat) (zs : List Int) (w : World) (hn : 0 < len) (h : IsRow w ao len zs) :
    Calls Tryd.prog 75 #[.slice ao len cap] w fun e w' => e = .returned (.int .i64 (extU true zs (len - 1))) ∧ w = w' := by
  obtain ⟨h1, h2, h3, h4⟩ := h
  rcases h4 with rfl | ⟨b, off, rfl, hb, hc⟩
  · omega
  · exact max_some b off len cap zs w hn h2 hc

set_option maxHeartbeats 1000000 in
theorem total_none (ao : Option Addr) (cap : Nat) (w : World) :
    Calls Tryd.prog 73 #[.slice ao 0 cap] w fun e w' => e = .returned (.agg #[.int .u64 0, .int .u64 0]) ∧ Below w.heap.size w w' := by
  go_enter Tryd.func73, Tryd.ntmps73
  go_wp2
  refine wp_loop_rounds 1 ?_
  rw [rounds_succ]
  go_wp2
  refine bodyPost_ret (v := .agg #[.int .u64 0, .int .u64 0]) (by simp [results, Tryd.results73, go_sem]) rfl ⟨rfl, ?_⟩
  first | exact galloc (galloc (Below.refl _ _) _) _ | exact gset (gset (galloc (galloc (Below.refl _ _) _) _) (by simp) _) (by simp) _

theorem total_any (ao : Option Addr) (len cap : Nat) (zs : List Int) (w : World) (h : IsRow w ao len zs) :
    Calls Tryd.prog 73 #[.slice ao len cap] w fun e w' => e = .returned (.agg #[.int .u64 (hiOf (sumU zs len)), .int .u64 (loOf (sumU zs len))]) ∧ Below w.heap.size w w' := by
  obtain ⟨h1, h2, h3, h4⟩ := h
  rcases h4 with rfl | ⟨b, off, rfl, hb, hc⟩
  · have e1 : hiOf (sumU zs 0) = 0 := by simp [sumU, hiOf]
    have e2 : loOf (sumU zs 0) = 0 := by simp [sumU, loOf]
    rw [e1, e2]; exact total_none ao cap w
  · exact total_some b off len cap zs w hb h2 h3 hc

def foldK (op : Int) (zs : List Int) : Bool :=
  if op = 5 then true else if op = 6 then fitsB (sumU zs zs.length) else if zs.length = 0 then false else decide (op = 7 ∨ op = 8 ∨ op = 9 ∨ op = 10)
def foldN (op : Int) (zs : List Int) : Int :=
  if op = 5 then zs.length else if op = 6 then fitN (sumU zs zs.length) else if zs.length = 0 then 0 else
    if op = 7 then extU false zs (zs.length - 1) else if op = 8 then extU true zs (zs.length - 1) else if op = 9 then zs.getD 0 0 else if op = 10 then zs.getD (zs.length - 1) 0 else 0

set_option maxHeartbeats 1000000 in
theorem fold_five (ao : Option Addr) (len cap : Nat) (zs : List Int) (w : World) (h : IsRow w ao len zs) :
    Calls Tryd.prog 53 #[.int .i64 5, .slice ao len cap] w fun e w' => e = .returned (.agg #[.bool true, .int .i64 len]) ∧ Below w.heap.size w w' := by
  clear h
  go_enter Tryd.func53, Tryd.ntmps53
  go_wp2_with (go_at_call 36; refine (known_any _ _).mono ?_; rintro e w0 ⟨rfl, g0⟩; obtain ⟨hc0, hf0⟩ := bcell g0)
  refine bodyPost_ret (v := .agg #[.bool true, .int .i64 len]) (by simp [results, Tryd.results53, go_sem, hc0]) rfl ⟨rfl, ?_⟩
  exact gset (gset (gtrans (galloc (Below.refl _ _) _) g0) (by simp) _) (by simp) _

set_option maxHeartbeats 1000000 in
theorem fold_six (ao : Option Addr) (len cap : Nat) (zs : List Int) (w : World) (h : IsRow w ao len zs) :
    Calls Tryd.prog 53 #[.int .i64 6, .slice ao len cap] w fun e w' => e = .returned (.agg #[.bool (fitsB (sumU zs len)), .int .i64 (fitN (sumU zs len))]) ∧ Below w.heap.size w w' := by
  have B := sumU_bound zs h.2.2.1 len
  have hl := h.2.1
  have hr := h.keep (galloc (Below.refl w.heap.size w) (.cells #[.bool false, .int .i64 0] 33))
  have ct := total_any ao len cap zs _ hr
  have cn := narrow_any (sumU zs len)
  clear h hr
  go_enter Tryd.func53, Tryd.ntmps53
  go_wp2_with (first
    | (go_at_call 73; refine ct.mono ?_; rintro e w0 ⟨rfl, g0⟩; obtain ⟨hc0, hf0⟩ := bcell g0)
    | (go_at_call 57; refine (cn _ (by omega) (by omega)).mono ?_; rintro e w1 ⟨rfl, g1⟩; replace g0 := gtrans g0 g1; obtain ⟨hc1, hf1⟩ := bcell g0))
  refine bodyPost_ret (v := .agg #[.bool (fitsB (sumU zs len)), .int .i64 (fitN (sumU zs len))]) (by simp [results, Tryd.results53, go_sem, hc1]) rfl ⟨rfl, ?_⟩
  exact gset (gset (gtrans (galloc (Below.refl _ _) _) g0) (by simp) _) (by simp) _

set_option maxHeartbeats 1000000 in
theorem fold_seven (ao : Option Addr) (len cap : Nat) (zs : List Int) (w : World) (h : IsRow w ao len zs) (hn : 0 < len) :
    Calls Tryd.prog 53 #[.int .i64 7, .slice ao len cap] w fun e w' => e = .returned (.agg #[.bool true, .int .i64 (extU false zs (len - 1))]) ∧ Below w.heap.size w w' := by
  have hr := h.keep (galloc (Below.refl w.heap.size w) (.cells #[.bool false, .int .i64 0] 33))
  have ct := min_any ao len cap zs _ hn hr
  have hn0 : ((len : Int) == 0) = false := by simp; omega
  clear h hr
  go_enter Tryd.func53, Tryd.ntmps53
  go_wp2_with (first
    | (go_at_call 74; refine ct.mono ?_; rintro e w9 ⟨rfl, rfl⟩)
    | (go_at_call 36; refine (known_any _ _).mono ?_; rintro e w0 ⟨rfl, g0⟩; obtain ⟨hc0, hf0⟩ := bcell g0))
  refine bodyPost_ret (v := .agg #[.bool true, .int .i64 (extU false zs (len - 1))]) (by simp [results, Tryd.results53, go_sem, hc0]) rfl ⟨rfl, ?_⟩
  exact gset (gset (gtrans (galloc (Below.refl _ _) _) g0) (by simp) _) (by simp) _

set_option maxHeartbeats 1000000 in
theorem fold_eight (ao : Option Addr) (len cap : Nat) (zs : List Int) (w : World) (h : IsRow w ao len zs) (hn : 0 < len) :
    Calls Tryd.prog 53 #[.int .i64 8, .slice ao len cap] w fun e w' => e = .returned (.agg #[.bool true, .int .i64 (extU true zs (len - 1))]) ∧ Below w.heap.size w w' := by
  have hr := h.keep (galloc (Below.refl w.heap.size w) (.cells #[.bool false, .int .i64 0] 33))
  have ct := max_any ao len cap zs _ hn hr
  have hn0 : ((len : Int) == 0) = false := by simp; omega
  clear h hr
  go_enter Tryd.func53, Tryd.ntmps53
  go_wp2_with (first
    | (go_at_call 75; refine ct.mono ?_; rintro e w9 ⟨rfl, rfl⟩)
    | (go_at_call 36; refine (known_any _ _).mono ?_; rintro e w0 ⟨rfl, g0⟩; obtain ⟨hc0, hf0⟩ := bcell g0))
  refine bodyPost_ret (v := .agg #[.bool true, .int .i64 (extU true zs (len - 1))]) (by simp [results, Tryd.results53, go_sem, hc0]) rfl ⟨rfl, ?_⟩
  exact gset (gset (gtrans (galloc (Below.refl _ _) _) g0) (by simp) _) (by simp) _

set_option maxHeartbeats 1000000 in
theorem fold_nine (ao : Option Addr) (len cap : Nat) (zs : List Int) (w : World) (h : IsRow w ao len zs) (hn : 0 < len) :
    Calls Tryd.prog 53 #[.int .i64 9, .slice ao len cap] w fun e w' => e = .returned (.agg #[.bool true, .int .i64 (zs.getD 0 0)]) ∧ Below w.heap.size w w' := by
  obtain ⟨h1, h2, h3, h4⟩ := h
  rcases h4 with rfl | ⟨b, off, rfl, hb, hc⟩
  · omega
  obtain ⟨v, hv⟩ : ∃ v, v = zs.getD 0 0 := ⟨_, rfl⟩
  have hcv : w.cell? ⟨b, off + 0, none⟩ = some (.int .i64 v) := hv ▸ hc 0 (by omega)
  rw [← hv]
  clear hv hc h3 h1
  have hn0 : ((len : Int) == 0) = false := by simp; omega
  try rw [Nat.add_zero] at hcv
  go_enter Tryd.func53, Tryd.ntmps53
  go_wp2_with (go_at_call 36; refine (known_any _ _).mono ?_; rintro e w0 ⟨rfl, g0⟩; obtain ⟨hc0, hf0⟩ := bcell g0)
  refine bodyPost_ret (v := .agg #[.bool true, .int .i64 v]) (by simp [results, Tryd.results53, go_sem, hc0]) rfl ⟨rfl, ?_⟩
  exact gset (gset (gtrans (galloc (Below.refl _ _) _) g0) (by simp) _) (by simp) _

set_option maxHeartbeats 1000000 in
theorem fold_ten (ao : Option Addr) (len cap : Nat) (zs : List Int) (w : World) (h : IsRow w ao len zs) (hn : 0 < len) :
    Calls Tryd.prog 53 #[.int .i64 10, .slice ao len cap] w fun e w' => e = .returned (.agg #[.bool true, .int .i64 (zs.getD (len - 1) 0)]) ∧ Below w.heap.size w w' := by
  obtain ⟨h1, h2, h3, h4⟩ := h
  rcases h4 with rfl | ⟨b, off, rfl, hb, hc⟩
  · omega
  obtain ⟨v, hv⟩ : ∃ v, v = zs.getD (len - 1) 0 := ⟨_, rfl⟩
  have hcv : w.cell? ⟨b, off + (len - 1), none⟩ = some (.int .i64 v) := hv ▸ hc (len - 1) (by omega)
  rw [← hv]
  clear hv hc h3 h1
  have hn0 : ((len : Int) == 0) = false := by simp; omega
  try rw [Nat.add_zero] at hcv
  go_enter Tryd.func53, Tryd.ntmps53
  go_wp2_with (go_at_call 36; refine (known_any _ _).mono ?_; rintro e w0 ⟨rfl, g0⟩; obtain ⟨hc0, hf0⟩ := bcell g0)
  refine bodyPost_ret (v := .agg #[.bool true, .int .i64 v]) (by simp [results, Tryd.results53, go_sem, hc0]) rfl ⟨rfl, ?_⟩
  exact gset (gset (gtrans (galloc (Below.refl _ _) _) g0) (by simp) _) (by simp) _

set_option maxHeartbeats 1000000 in
theorem fold_empty (op : Int) (ao : Option Addr) (len cap : Nat) (zs : List Int) (w : World) (h : IsRow w ao len zs) (hn : len = 0) (h5 : (op == 5) = false) (h6 : (op == 6) = false) :
    Calls Tryd.prog 53 #[.int .i64 op, .slice ao len cap] w fun e w' => e = .returned (.agg #[.bool false, .int .i64 0]) ∧ Below w.heap.size w w' := by
  subst hn
  clear h
  go_enter Tryd.func53, Tryd.ntmps53
  go_wp2
  refine bodyPost_ret (v := .agg #[.bool false, .int .i64 0]) (by simp [results, Tryd.results53, go_sem]) rfl ⟨rfl, ?_⟩
  first | exact galloc (Below.refl _ _) _ | exact gset (gset (galloc (Below.refl _ _) _) (by simp) _) (by simp) _

set_option maxHeartbeats 1000000 in
theorem fold_else (op : Int) (ao : Option Addr) (len cap : Nat) (zs : List Int) (w : World) (h : IsRow w ao len zs) (hn : 0 < len) (h5 : (op == 5) = false) (h6 : (op == 6) = false) (h7 : (op == 7) = false) (h8 : (op == 8) = false) (h9 : (op == 9) = false) (h10 : (op == 10) = false) :
    Calls Tryd.prog 53 #[.int .i64 op, .slice ao len cap] w fun e w' => e = .returned (.agg #[.bool false, .int .i64 0]) ∧ Below w.heap.size w w' := by
  have hn0 : ((len : Int) == 0) = false := by simp; omega
  clear h
  go_enter Tryd.func53, Tryd.ntmps53
  go_wp2
  refine bodyPost_ret (v := .agg #[.bool false, .int .i64 0]) (by simp [results, Tryd.results53, go_sem]) rfl ⟨rfl, ?_⟩
  first | exact galloc (Below.refl _ _) _ | exact gset (gset (galloc (Below.refl _ _) _) (by simp) _) (by simp) _

theorem fold_any (op : Int) (ao : Option Addr) (len cap : Nat) (zs : List Int) (w : World) (h : IsRow w ao len zs) :
    Calls Tryd.prog 53 #[.int .i64 op, .slice ao len cap] w fun e w' => e = .returned (.agg #[.bool (foldK op zs), .int .i64 (foldN op zs)]) ∧ Below w.heap.size w w' := by
  have hlen : zs.length = len := h.1
  unfold foldK foldN
  rw [hlen]
  by_cases h5 : op = 5
  · subst h5; exact fold_five ao len cap zs w h
  by_cases h6 : op = 6
  · subst h6; exact fold_six ao len cap zs w h
  rw [if_neg h5, if_neg h5, if_neg h6, if_neg h6]
  by_cases hn : len = 0
  · rw [if_pos hn, if_pos hn]; exact fold_empty op ao len cap zs w h hn (by simpa using h5) (by simpa using h6)
  rw [if_neg hn, if_neg hn]
  have hp : 0 < len := by omega
  by_cases h7 : op = 7
  · subst h7; exact fold_seven ao len cap zs w h hp
  by_cases h8 : op = 8
  · subst h8; exact fold_eight ao len cap zs w h hp
  by_cases h9 : op = 9
  · subst h9; exact fold_nine ao len cap zs w h hp
  by_cases h10 : op = 10
  · subst h10; exact fold_ten ao len cap zs w h hp
  rw [if_neg h7, if_neg h8, if_neg h9, if_neg h10, decide_eq_false (by simp [h7, h8, h9, h10])]
  exact fold_else op ao len cap zs w h hp (by simpa using h5) (by simpa using h6) (by simpa using h7) (by simpa using h8) (by simpa using h9) (by simpa using h10)

end Go.Proofs.YtjeffmfnaihhjaaDoor
