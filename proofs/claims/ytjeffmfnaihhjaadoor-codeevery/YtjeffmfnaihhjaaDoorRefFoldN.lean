/- What the document's own sum, extreme and Fold come to, of any list of fewer than 2^31 numbers. -/
import Derived.Test.YtjeffmfnaihhjaaDoorRefWideN
import Derived.Test.YtjeffmfnaihhjaaDoorFold
namespace Go.Proofs.YtjeffmfnaihhjaaDoor.rf
open Go.RowKit
set_option linter.unusedVariables false

theorem rHi_bound (x : Int) (k : Nat) (hk : k ≤ 2147483647) (h1 : -9223372036854775808 * (k : Int) ≤ x) (h2 : x ≤ 9223372036854775808 * (k : Int)) : -4611686018427387904 ≤ rHi x ∧ rHi x ≤ 4611686018427387904 := by
  unfold rHi; omega
theorem rHi_fit (x : Int) (h : fitsB x = true) : -2147483648 ≤ rHi x ∧ rHi x ≤ 2147483648 := by
  have := (fits_iff x).1 h; unfold rHi; omega

set_option maxHeartbeats 2000000 in
theorem refSum_some (b off len cap : Nat) (zs : List Int) (w : World) (hb : b < w.heap.size) (hl : len ≤ 2147483647) (hz : ∀ j, fitsB (zs.getD j 0) = true) (hc : ∀ j, j < len → w.cell? ⟨b, off + j, none⟩ = some (.int .i64 (zs.getD j 0))) :
    Calls Tryd.prog 85 #[.slice (some ⟨b, off, none⟩) len cap] w fun e w' => e = .returned (.agg #[.bool (fitsB (sumU zs len)), .int .i64 (fitN (sumU zs len))]) ∧ Below w.heap.size w w' := by
  go_enter Tryd.func85, Tryd.ntmps85
  go_wp2
  go_loopw [4] (fun i wr => ∃ k : Nat, k ≤ len ∧ i = .int .i64 k ∧ Two wr w.heap.size (.bool false) (.int .i64 0) 33 ∧ Two wr (w.heap.size + 1) (.int .i64 (rHi (sumU zs k))) (.int .i64 (rLo (sumU zs k))) 102 ∧ Below w.heap.size w wr) (fun i _ => len - (intOf i).toNat)
  case atStart => exact ⟨0, Nat.zero_le _, rfl, (Two.new _ _ _ _).alloc _, by have := Two.new (w.alloc (.cells #[.bool false, .int .i64 0] 33)) (.int .i64 0) (.int .i64 0) 102; simpa [sumU, rHi, rLo] using this, galloc (galloc (Below.refl _ _) _) _⟩
  case round =>
    obtain ⟨k, hk, rfl, T0, T1, G⟩ := hrel
    have hck : k < len → wr.cell? ⟨b, off + k, none⟩ = some (.int .i64 (zs.getD k 0)) := fun h => (G.cell (p := ⟨b, off + k, none⟩) hb).trans (hc _ h)
    have hzk : fitsB (zs[k]?.getD 0) = true := by simpa [List.getD] using hz k
    have B1 := rHi_bound _ k (by omega) (sumU_bound zs hz k).1 (sumU_bound zs hz k).2
    have B2 := rHi_fit _ hzk
    have c00 := T0.at0
    have c01 := T0.at1
    have c10 := T1.at0
    have c11 := T1.at1
    have f0 := T0.free
    have f1 := T1.free
    have l0 := T0.lt
    have l1 := T1.lt
    by_cases hlt : k < len
    · replace hck := hck hlt
      go_wp2
      have R := Below.refl wr.heap.size wr
      replace R := R.drew
      go_region_with (first
        | (go_at_call 82; refine (refWiden_any _ _ hzk).mono ?_; rintro e u ⟨rfl, g⟩; replace R := gtrans R g; obtain ⟨hc2, hf2⟩ := bcell R)
        | (go_at_call 81; refine (refplus_any _ _ _ (by omega) (by omega)).mono ?_; rintro e u ⟨rfl, g⟩; replace R := gtrans R g; obtain ⟨hc2, hf2⟩ := bcell R))
      all_goals
        have T0' := ((T0.keep R).other (p := ⟨w.heap.size + 1, 0, none⟩) (by simp) (.int .i64 (rHi (sumU zs k + zs[k]?.getD 0)))).other (p := ⟨w.heap.size + 1, 1, none⟩) (by simp) (.int .i64 (rLo (sumU zs k + zs[k]?.getD 0)))
        have T1' := (T1.keep R).set (.int .i64 (rHi (sumU zs k + zs[k]?.getD 0))) (.int .i64 (rLo (sumU zs k + zs[k]?.getD 0)))
        have G' := ((G.trans (R.mono G.size)).setCell (p := ⟨w.heap.size + 1, 0, none⟩) (by simp) (.int .i64 (rHi (sumU zs k + zs[k]?.getD 0)))).setCell (p := ⟨w.heap.size + 1, 1, none⟩) (by simp) (.int .i64 (rLo (sumU zs k + zs[k]?.getD 0)))
        clear hc2 hf2 c00 c01 c10 c11 f0 f1
        generalize ((u.setCell ⟨w.heap.size + 1, 0, none⟩ (Value.int .i64 (rHi (sumU zs k + zs[k]?.getD 0)))).setCell ⟨w.heap.size + 1, 1, none⟩ (Value.int .i64 (rLo (sumU zs k + zs[k]?.getD 0)))) = wz at T0' T1' G' ⊢
        go_wp2
        go_roundw
        case rel => exact ⟨k + 1, by omega, by go_num, T0', by simpa [sumU, List.getD] using T1', G'⟩
        case measure => simp [intOf]; omega
    · obtain rfl : k = len := by omega
      have R := Below.refl wr.heap.size wr
      go_wp2_with (go_at_call 80; refine (refFit_any _ _).mono ?_; rintro e u ⟨rfl, g⟩; replace R := gtrans R g; obtain ⟨hc2, hf2⟩ := bcell R)
      refine bodyPost_ret (v := .agg #[.bool (fitsB (sumU zs k)), .int .i64 (fitN (sumU zs k))]) ?_ rfl ⟨rfl, ?_⟩
      · simp [results, Tryd.results85, go_sem, c00, c01, hc2, l0]
      · exact ((G.trans (R.mono G.size)).setCell (by simp) _).setCell (by simp) _

set_option maxHeartbeats 1000000 in
theorem refSum_none (ao : Option Addr) (cap : Nat) (w : World) :
    Calls Tryd.prog 85 #[.slice ao 0 cap] w fun e w' => e = .returned (.agg #[.bool true, .int .i64 0]) ∧ Below w.heap.size w w' := by
  have cf := refFit_any 0
  have e1 : rHi 0 = 0 := rfl
  have e2 : rLo 0 = 0 := rfl
  have e3 : fitsB 0 = true := by decide
  have e4 : fitN 0 = 0 := by decide
  rw [e1, e2, e3, e4] at cf
  clear e1 e2 e3 e4
  go_enter Tryd.func85, Tryd.ntmps85
  go_wp2
  refine wp_loop_rounds 1 ?_
  rw [rounds_succ]
  go_wp2_with (go_at_call 80; refine (cf _).mono ?_; rintro e u ⟨rfl, g⟩; obtain ⟨hc2, hf2⟩ := bcell g)
  have T0 := ((Two.new w (.bool false) (.int .i64 0) 33).alloc (.cells #[.int .i64 0, .int .i64 0] 102)).keep g
  have c0 := T0.at0
  have c1 := T0.at1
  refine bodyPost_ret (v := .agg #[.bool true, .int .i64 0]) (by simp [results, Tryd.results85, go_sem, c0, c1]) rfl ⟨rfl, ?_⟩
  exact gset (gset (gtrans (galloc (galloc (Below.refl _ _) _) _) g) (by simp) _) (by simp) _

theorem refSum_any (ao : Option Addr) (len cap : Nat) (zs : List Int) (w : World) (hl : len ≤ 2147483647) (h : IsRow w ao len zs) :
    Calls Tryd.prog 85 #[.slice ao len cap] w fun e w' => e = .returned (.agg #[.bool (fitsB (sumU zs len)), .int .i64 (fitN (sumU zs len))]) ∧ Below w.heap.size w w' := by
  obtain ⟨h1, h2, h3, h4⟩ := h
  rcases h4 with rfl | ⟨b, off, rfl, hb, hc⟩
  · have e0 : sumU zs 0 = 0 := rfl
    have e1 : fitsB 0 = true := by decide
    have e2 : fitN 0 = 0 := by decide
    rw [e0, e1, e2]; exact refSum_none ao cap w
  · exact refSum_some b off len cap zs w hb hl h3 hc

set_option maxHeartbeats 1000000 in
theorem refExt_false (b off len cap : Nat) (zs : List Int) (w : World) (hn : 0 < len) (hl : len ≤ 9223372036854775807) (hc : ∀ j, j < len → w.cell? ⟨b, off + j, none⟩ = some (.int .i64 (zs.getD j 0))) :
    Calls Tryd.prog 86 #[.slice (some ⟨b, off, none⟩) len cap, .bool false] w fun e w' => e = .returned (.int .i64 (extU false zs (len - 1))) ∧ w = w' := by
  have hc0 := hc 0 hn
  rw [Nat.add_zero] at hc0
  go_enter Tryd.func86, Tryd.ntmps86
  go_wp2
  go_loop [5, 6] (fun m i => ∃ k : Nat, 1 ≤ k ∧ k ≤ len ∧ i = .int .i64 k ∧ m = .int .i64 (extU false zs (k - 1))) (fun _ i => len - (intOf i).toNat)
  case atStart => exact ⟨1, Nat.le_refl _, hn, rfl, by simp [extU]⟩
  case round =>
    obtain ⟨k, hk1, hk, rfl, rfl⟩ := hrel
    have hck : k < len → w.cell? ⟨b, off + k, none⟩ = some (.int .i64 (zs.getD k 0)) := fun h => hc _ h
    have hst := extU_at false zs k hk1
    simp only [step, List.getD_eq_getElem?_getD] at hst
    have HS : Hid _ := hst
    clear hst
    by_cases hlt : k < len
    · replace hck := hck hlt
      go_wp2
      all_goals
        have hst : extU false zs k = _ := HS
        go_round
        case rel => exact ⟨k + 1, by omega, by omega, by go_num, by rw [Nat.add_sub_cancel, hst]; simp; try omega⟩
        case measure => simp [intOf]; omega
    · obtain rfl : k = len := by omega
      go_wp2
      go_ret
      exact ⟨rfl, rfl⟩

set_option maxHeartbeats 1000000 in
theorem refExt_true (b off len cap : Nat) (zs : List Int) (w : World) (hn : 0 < len) (hl : len ≤ 9223372036854775807) (hc : ∀ j, j < len → w.cell? ⟨b, off + j, none⟩ = some (.int .i64 (zs.getD j 0))) :
    Calls Tryd.prog 86 #[.slice (some ⟨b, off, none⟩) len cap, .bool true] w fun e w' => e = .returned (.int .i64 (extU true zs (len - 1))) ∧ w = w' := by
  have hc0 := hc 0 hn
  rw [Nat.add_zero] at hc0
  go_enter Tryd.func86, Tryd.ntmps86
  go_wp2
  go_loop [5, 6] (fun m i => ∃ k : Nat, 1 ≤ k ∧ k ≤ len ∧ i = .int .i64 k ∧ m = .int .i64 (extU true zs (k - 1))) (fun _ i => len - (intOf i).toNat)
  case atStart => exact ⟨1, Nat.le_refl _, hn, rfl, by simp [extU]⟩
  case round =>
    obtain ⟨k, hk1, hk, rfl, rfl⟩ := hrel
    have hck : k < len → w.cell? ⟨b, off + k, none⟩ = some (.int .i64 (zs.getD k 0)) := fun h => hc _ h
    have hst := extU_at true zs k hk1
    simp only [step, List.getD_eq_getElem?_getD] at hst
    have HS : Hid _ := hst
    clear hst
    by_cases hlt : k < len
    · replace hck := hck hlt
      go_wp2
      all_goals
        have hst : extU true zs k = _ := HS
        go_round
        case rel => exact ⟨k + 1, by omega, by omega, by go_num, by rw [Nat.add_sub_cancel, hst]; simp; try omega⟩
        case measure => simp [intOf]; omega
    · obtain rfl : k = len := by omega
      go_wp2
      go_ret
      exact ⟨rfl, rfl⟩

theorem refExt_any (ao : Option Addr) (len cap : Nat) (g : Bool) (zs : List Int) (w : World) (hn : 0 < len) (h : IsRow w ao len zs) :
    Calls Tryd.prog 86 #[.slice ao len cap, .bool g] w fun e w' => e = .returned (.int .i64 (extU g zs (len - 1))) ∧ w = w' := by
  obtain ⟨h1, h2, h3, h4⟩ := h
  rcases h4 with rfl | ⟨b, off, rfl, hb, hc⟩
  · omega
  · cases g
    · exact refExt_false b off len cap zs w hn h2 hc
    · exact refExt_true b off len cap zs w hn h2 hc


set_option maxHeartbeats 1000000 in
theorem refFold_five (ao : Option Addr) (len cap : Nat) (zs : List Int) (w : World) (h : IsRow w ao len zs) (hl : len ≤ 2147483647) :
    Calls Tryd.prog 79 #[.int .i64 5, .slice ao len cap] w fun e w' => e = .returned (.agg #[.bool true, .int .i64 len]) ∧ Below w.heap.size w w' := by
  clear h
  go_enter Tryd.func79, Tryd.ntmps79
  go_wp2_with (go_at_call 61; refine (refNumber_any _ _).mono ?_; rintro e w0 ⟨rfl, g0⟩; obtain ⟨hc0, hf0⟩ := bcell g0)
  refine bodyPost_ret (v := .agg #[.bool true, .int .i64 len]) (by simp [results, Tryd.results79, go_sem, hc0]) rfl ⟨rfl, ?_⟩
  exact gset (gset (gtrans (galloc (Below.refl _ _) _) g0) (by simp) _) (by simp) _

set_option maxHeartbeats 1000000 in
theorem refFold_six (ao : Option Addr) (len cap : Nat) (zs : List Int) (w : World) (h : IsRow w ao len zs) (hl : len ≤ 2147483647) :
    Calls Tryd.prog 79 #[.int .i64 6, .slice ao len cap] w fun e w' => e = .returned (.agg #[.bool (fitsB (sumU zs len)), .int .i64 (fitN (sumU zs len))]) ∧ Below w.heap.size w w' := by
  have hr := h.keep (galloc (Below.refl w.heap.size w) (.cells #[.bool false, .int .i64 0] 33))
  have ct := refSum_any ao len cap zs _ hl hr
  clear h hr
  go_enter Tryd.func79, Tryd.ntmps79
  go_wp2_with (go_at_call 85; refine ct.mono ?_; rintro e w0 ⟨rfl, g0⟩; obtain ⟨hc0, hf0⟩ := bcell g0)
  refine bodyPost_ret (v := .agg #[.bool (fitsB (sumU zs len)), .int .i64 (fitN (sumU zs len))]) (by simp [results, Tryd.results79, go_sem, hc0]) rfl ⟨rfl, ?_⟩
  exact gset (gset (gtrans (galloc (Below.refl _ _) _) g0) (by simp) _) (by simp) _

set_option maxHeartbeats 1000000 in
theorem refFold_seven (ao : Option Addr) (len cap : Nat) (zs : List Int) (w : World) (h : IsRow w ao len zs) (hl : len ≤ 2147483647) (hn : 0 < len) :
    Calls Tryd.prog 79 #[.int .i64 7, .slice ao len cap] w fun e w' => e = .returned (.agg #[.bool true, .int .i64 (extU false zs (len - 1))]) ∧ Below w.heap.size w w' := by
  have hr := h.keep (galloc (Below.refl w.heap.size w) (.cells #[.bool false, .int .i64 0] 33))
  have ct := refExt_any ao len cap false zs _ hn hr
  have hn0 : ((len : Int) == 0) = false := by simp; omega
  clear h hr
  go_enter Tryd.func79, Tryd.ntmps79
  go_wp2_with (first
    | (go_at_call 86; refine ct.mono ?_; rintro e w9 ⟨rfl, rfl⟩)
    | (go_at_call 61; refine (refNumber_any _ _).mono ?_; rintro e w0 ⟨rfl, g0⟩; obtain ⟨hc0, hf0⟩ := bcell g0))
  refine bodyPost_ret (v := .agg #[.bool true, .int .i64 (extU false zs (len - 1))]) (by simp [results, Tryd.results79, go_sem, hc0]) rfl ⟨rfl, ?_⟩
  exact gset (gset (gtrans (galloc (Below.refl _ _) _) g0) (by simp) _) (by simp) _

set_option maxHeartbeats 1000000 in
theorem refFold_eight (ao : Option Addr) (len cap : Nat) (zs : List Int) (w : World) (h : IsRow w ao len zs) (hl : len ≤ 2147483647) (hn : 0 < len) :
    Calls Tryd.prog 79 #[.int .i64 8, .slice ao len cap] w fun e w' => e = .returned (.agg #[.bool true, .int .i64 (extU true zs (len - 1))]) ∧ Below w.heap.size w w' := by
  have hr := h.keep (galloc (Below.refl w.heap.size w) (.cells #[.bool false, .int .i64 0] 33))
  have ct := refExt_any ao len cap true zs _ hn hr
  have hn0 : ((len : Int) == 0) = false := by simp; omega
  clear h hr
  go_enter Tryd.func79, Tryd.ntmps79
  go_wp2_with (first
    | (go_at_call 86; refine ct.mono ?_; rintro e w9 ⟨rfl, rfl⟩)
    | (go_at_call 61; refine (refNumber_any _ _).mono ?_; rintro e w0 ⟨rfl, g0⟩; obtain ⟨hc0, hf0⟩ := bcell g0))
  refine bodyPost_ret (v := .agg #[.bool true, .int .i64 (extU true zs (len - 1))]) (by simp [results, Tryd.results79, go_sem, hc0]) rfl ⟨rfl, ?_⟩
  exact gset (gset (gtrans (galloc (Below.refl _ _) _) g0) (by simp) _) (by simp) _

set_option maxHeartbeats 1000000 in
theorem refFold_nine (ao : Option Addr) (len cap : Nat) (zs : List Int) (w : World) (h : IsRow w ao len zs) (hl : len ≤ 2147483647) (hn : 0 < len) :
    Calls Tryd.prog 79 #[.int .i64 9, .slice ao len cap] w fun e w' => e = .returned (.agg #[.bool true, .int .i64 (zs.getD 0 0)]) ∧ Below w.heap.size w w' := by
  obtain ⟨h1, h2, h3, h4⟩ := h
  rcases h4 with rfl | ⟨b, off, rfl, hb, hc⟩
  · omega
  obtain ⟨v, hv⟩ : ∃ v, v = zs.getD 0 0 := ⟨_, rfl⟩
  have hcv : w.cell? ⟨b, off + 0, none⟩ = some (.int .i64 v) := hv ▸ hc 0 (by omega)
  rw [← hv]
  clear hv hc h3 h1
  have hn0 : ((len : Int) == 0) = false := by simp; omega
  try rw [Nat.add_zero] at hcv
  go_enter Tryd.func79, Tryd.ntmps79
  go_wp2_with (go_at_call 61; refine (refNumber_any _ _).mono ?_; rintro e w0 ⟨rfl, g0⟩; obtain ⟨hc0, hf0⟩ := bcell g0)
  refine bodyPost_ret (v := .agg #[.bool true, .int .i64 v]) (by simp [results, Tryd.results79, go_sem, hc0]) rfl ⟨rfl, ?_⟩
  exact gset (gset (gtrans (galloc (Below.refl _ _) _) g0) (by simp) _) (by simp) _

set_option maxHeartbeats 1000000 in
theorem refFold_ten (ao : Option Addr) (len cap : Nat) (zs : List Int) (w : World) (h : IsRow w ao len zs) (hl : len ≤ 2147483647) (hn : 0 < len) :
    Calls Tryd.prog 79 #[.int .i64 10, .slice ao len cap] w fun e w' => e = .returned (.agg #[.bool true, .int .i64 (zs.getD (len - 1) 0)]) ∧ Below w.heap.size w w' := by
  obtain ⟨h1, h2, h3, h4⟩ := h
  rcases h4 with rfl | ⟨b, off, rfl, hb, hc⟩
  · omega
  obtain ⟨v, hv⟩ : ∃ v, v = zs.getD (len - 1) 0 := ⟨_, rfl⟩
  have hcv : w.cell? ⟨b, off + (len - 1), none⟩ = some (.int .i64 v) := hv ▸ hc (len - 1) (by omega)
  rw [← hv]
  clear hv hc h3 h1
  have hn0 : ((len : Int) == 0) = false := by simp; omega
  try rw [Nat.add_zero] at hcv
  go_enter Tryd.func79, Tryd.ntmps79
  go_wp2_with (go_at_call 61; refine (refNumber_any _ _).mono ?_; rintro e w0 ⟨rfl, g0⟩; obtain ⟨hc0, hf0⟩ := bcell g0)
  refine bodyPost_ret (v := .agg #[.bool true, .int .i64 v]) (by simp [results, Tryd.results79, go_sem, hc0]) rfl ⟨rfl, ?_⟩
  exact gset (gset (gtrans (galloc (Below.refl _ _) _) g0) (by simp) _) (by simp) _

set_option maxHeartbeats 1000000 in
theorem refFold_empty (op : Int) (ao : Option Addr) (len cap : Nat) (zs : List Int) (w : World) (h : IsRow w ao len zs) (hl : len ≤ 2147483647) (hn : len = 0) (h5 : (op == 5) = false) (h6 : (op == 6) = false) :
    Calls Tryd.prog 79 #[.int .i64 op, .slice ao len cap] w fun e w' => e = .returned (.agg #[.bool false, .int .i64 0]) ∧ Below w.heap.size w w' := by
  subst hn
  clear h
  go_enter Tryd.func79, Tryd.ntmps79
  go_wp2_with (go_at_call 28; refine (refNothing_any _).mono ?_; rintro e w0 ⟨rfl, g0⟩; obtain ⟨hc0, hf0⟩ := bcell g0)
  refine bodyPost_ret (v := .agg #[.bool false, .int .i64 0]) (by simp [results, Tryd.results79, go_sem, hc0]) rfl ⟨rfl, ?_⟩
  exact gset (gset (gtrans (galloc (Below.refl _ _) _) g0) (by simp) _) (by simp) _

set_option maxHeartbeats 1000000 in
theorem refFold_else (op : Int) (ao : Option Addr) (len cap : Nat) (zs : List Int) (w : World) (h : IsRow w ao len zs) (hl : len ≤ 2147483647) (hn : 0 < len) (h5 : (op == 5) = false) (h6 : (op == 6) = false) (h7 : (op == 7) = false) (h8 : (op == 8) = false) (h9 : (op == 9) = false) (h10 : (op == 10) = false) :
    Calls Tryd.prog 79 #[.int .i64 op, .slice ao len cap] w fun e w' => e = .returned (.agg #[.bool false, .int .i64 0]) ∧ Below w.heap.size w w' := by
  have hn0 : ((len : Int) == 0) = false := by simp; omega
  clear h
  go_enter Tryd.func79, Tryd.ntmps79
  go_wp2_with (go_at_call 28; refine (refNothing_any _).mono ?_; rintro e w0 ⟨rfl, g0⟩; obtain ⟨hc0, hf0⟩ := bcell g0)
  refine bodyPost_ret (v := .agg #[.bool false, .int .i64 0]) (by simp [results, Tryd.results79, go_sem, hc0]) rfl ⟨rfl, ?_⟩
  exact gset (gset (gtrans (galloc (Below.refl _ _) _) g0) (by simp) _) (by simp) _

theorem refFold_any (op : Int) (ao : Option Addr) (len cap : Nat) (zs : List Int) (w : World) (h : IsRow w ao len zs) (hl : len ≤ 2147483647) :
    Calls Tryd.prog 79 #[.int .i64 op, .slice ao len cap] w fun e w' => e = .returned (.agg #[.bool (foldK op zs), .int .i64 (foldN op zs)]) ∧ Below w.heap.size w w' := by
  have hlen : zs.length = len := h.1
  unfold foldK foldN
  rw [hlen]
  by_cases h5 : op = 5
  · subst h5; exact refFold_five ao len cap zs w h hl
  by_cases h6 : op = 6
  · subst h6; exact refFold_six ao len cap zs w h hl
  rw [if_neg h5, if_neg h5, if_neg h6, if_neg h6]
  by_cases hn : len = 0
  · rw [if_pos hn, if_pos hn]; exact refFold_empty op ao len cap zs w h hl hn (by simpa using h5) (by simpa using h6)
  rw [if_neg hn, if_neg hn]
  have hp : 0 < len := by omega
  by_cases h7 : op = 7
  · subst h7; exact refFold_seven ao len cap zs w h hl hp
  by_cases h8 : op = 8
  · subst h8; exact refFold_eight ao len cap zs w h hl hp
  by_cases h9 : op = 9
  · subst h9; exact refFold_nine ao len cap zs w h hl hp
  by_cases h10 : op = 10
  · subst h10; exact refFold_ten ao len cap zs w h hl hp
  rw [if_neg h7, if_neg h8, if_neg h9, if_neg h10, decide_eq_false (by simp [h7, h8, h9, h10])]
  exact refFold_else op ao len cap zs w h hl hp (by simpa using h5) (by simpa using h6) (by simpa using h7) (by simpa using h8) (by simpa using h9) (by simpa using h10)

end Go.Proofs.YtjeffmfnaihhjaaDoor.rf
