/- What the document's own widen, plus and fit come to, over sums of long lists. And what goes with it: 5 texts in one. -/
import Derived.Test.YtglagbedgjkdbaaGreatDoorJb14
import Derived.Deep.QuietTactic
import Derived.BigQuiet
import Derived.Deep.Cut
namespace Go.Proofs.YtglagbedgjkdbaaGreatDoor.rf
open Go.RowKit
set_option linter.unusedVariables false

def rHi (x : Int) : Int := x / 4294967296
def rLo (x : Int) : Int := x % 4294967296
theorem rLo_nn (x : Int) : 0 ≤ rLo x := by unfold rLo; omega
theorem rLo_lt (x : Int) : rLo x < 4294967296 := by unfold rLo; omega
theorem and_mask (n : Int) : bits .and .i64 n 4294967295 = rLo n := by
  have h127 : (BitVec.ofInt 64 4294967295).toNat = 2 ^ 32 - 1 := by decide
  have key : (BitVec.ofInt 64 n &&& BitVec.ofInt 64 4294967295).toNat = (n % ((2 ^ 64 : Nat) : Int)).toNat % 2 ^ 32 := by
    rw [BitVec.toNat_and, BitVec.toNat_ofInt, h127, Nat.and_two_pow_sub_one_eq_mod]
  show IntKind.i64.wrap ((BitVec.ofInt 64 n &&& BitVec.ofInt 64 4294967295).toNat : Nat) = rLo n
  rw [key, IntKind.wrap_i64]
  unfold rLo
  omega
theorem shr_hi (n : Int) : n / 4294967296 = rHi n := rfl

set_option maxHeartbeats 400000 in
theorem refWiden_any (n : Int) (w : World) (hn : fitsB n = true) :
    Calls Tryz.prog 135 #[.int .i64 n] w fun e w' => e = .returned (.agg #[.int .i64 (rHi n), .int .i64 (rLo n)]) ∧ Below w.heap.size w w' := by
  have e1 := and_mask n
  have e2 := shr_hi n
  have hN := (fits_iff n).1 hn
  go_enter Tryz.func135, Tryz.ntmps135
  go_wp2
  exact bodyPost_ret (v := .agg #[.int .i64 (rHi n), .int .i64 (rLo n)]) (by simp [results, Tryz.results135, go_sem]) rfl ⟨rfl, galloc (Below.refl _ _) _⟩

theorem rplus_hi1 (x y : Int) (h : 4294967296 ≤ rLo x + rLo y) : rHi x + rHi y + 1 = rHi (x + y) := by unfold rHi rLo at *; omega
theorem rplus_lo1 (x y : Int) (h : 4294967296 ≤ rLo x + rLo y) : rLo x + rLo y - 4294967296 = rLo (x + y) := by unfold rLo at *; omega
theorem rplus_hi2 (x y : Int) (h : ¬ 4294967296 ≤ rLo x + rLo y) : rHi x + rHi y = rHi (x + y) := by unfold rHi rLo at *; omega
theorem rplus_lo2 (x y : Int) (h : ¬ 4294967296 ≤ rLo x + rLo y) : rLo x + rLo y = rLo (x + y) := by unfold rLo at *; omega
set_option maxHeartbeats 1000000 in
theorem refplus_any (x y : Int) (w : World) (h1 : -9223372036854775807 ≤ rHi x + rHi y) (h2 : rHi x + rHi y ≤ 9223372036854775806) :
    Calls Tryz.prog 134 #[.agg #[.int .i64 (rHi x), .int .i64 (rLo x)], .agg #[.int .i64 (rHi y), .int .i64 (rLo y)]] w fun e w' => e = .returned (.agg #[.int .i64 (rHi (x + y)), .int .i64 (rLo (x + y))]) ∧ Below w.heap.size w w' := by
  have l1 := rLo_nn x
  have l2 := rLo_lt x
  have l3 := rLo_nn y
  have l4 := rLo_lt y
  by_cases h : 4294967296 ≤ rLo x + rLo y
  · have f1 := rplus_hi1 x y h
    have f2 := rplus_lo1 x y h
    rw [← f1, ← f2]
    clear f1 f2
    go_enter Tryz.func134, Tryz.ntmps134
    go_wp2
    exact bodyPost_ret (v := .agg #[.int .i64 (rHi x + rHi y + 1), .int .i64 (rLo x + rLo y - 4294967296)]) (by simp [results, Tryz.results134, go_sem]) rfl ⟨rfl, galloc (galloc (galloc (Below.refl _ _) _) _) _⟩
  · have f1 := rplus_hi2 x y h
    have f2 := rplus_lo2 x y h
    rw [← f1, ← f2]
    clear f1 f2
    go_enter Tryz.func134, Tryz.ntmps134
    go_wp2
    exact bodyPost_ret (v := .agg #[.int .i64 (rHi x + rHi y), .int .i64 (rLo x + rLo y)]) (by simp [results, Tryz.results134, go_sem]) rfl ⟨rfl, galloc (galloc (galloc (Below.refl _ _) _) _) _⟩

theorem fit_hi (x : Int) (h : fitsB x = true) : -2147483648 ≤ rHi x ∧ rHi x < 2147483648 ∧ rHi x * 4294967296 + rLo x = x := by
  rw [fits_iff] at h; unfold rHi rLo; omega
theorem fit_no (x : Int) (h : fitsB x = false) : rHi x < -2147483648 ∨ (-2147483648 ≤ rHi x ∧ 2147483648 ≤ rHi x) := by
  rw [fits_not] at h; unfold rHi; omega
set_option maxHeartbeats 1000000 in
theorem refFit_any (x : Int) (w : World) :
    Calls Tryz.prog 133 #[.agg #[.int .i64 (rHi x), .int .i64 (rLo x)]] w fun e w' => e = .returned (.agg #[.bool (fitsB x), .int .i64 (fitN x)]) ∧ Below w.heap.size w w' := by
  cases h : fitsB x
  · rw [fitN_no x h]
    have hh := fit_no x h
    clear h
    rcases hh with hh | hh
    all_goals
      go_enter Tryz.func133, Tryz.ntmps133
      go_wp2_with (go_at_call 46; refine (refNothing_any _).mono ?_; rintro e w0 ⟨rfl, g0⟩; obtain ⟨hc0, hf0⟩ := bcell g0)
      refine bodyPost_ret (v := .agg #[.bool false, .int .i64 0]) (by simp [results, Tryz.results133, go_sem, hc0]) rfl ⟨rfl, ?_⟩
      exact gset (gset (gtrans (galloc (galloc (Below.refl _ _) _) _) g0) (by simp) _) (by simp) _
  · rw [fitN_yes x h]
    obtain ⟨h1, h2, h3⟩ := fit_hi x h
    have h4 := (fits_iff x).1 h
    have l1 := rLo_nn x
    have l2 := rLo_lt x
    have e1 : wrap64 (rHi x * 4294967296) = rHi x * 4294967296 := by unfold wrap64; omega
    have e2 : wrap64 x = x := by unfold wrap64; omega
    have h3' : Hid (rHi x * 4294967296 + rLo x = x) := h3
    clear h
    go_enter Tryz.func133, Tryz.ntmps133
    go_wp2_with (go_at_call 73; refine (refNumber_any _ _).mono ?_; rintro e w0 ⟨rfl, g0⟩; obtain ⟨hc0, hf0⟩ := bcell g0)
    refine bodyPost_ret (v := .agg #[.bool true, .int .i64 x]) (by simp [results, Tryz.results133, go_sem, hc0]) rfl ⟨rfl, ?_⟩
    exact gset (gset (gtrans (galloc (galloc (Below.refl _ _) _) _) g0) (by simp) _) (by simp) _

end Go.Proofs.YtglagbedgjkdbaaGreatDoor.rf
namespace Go.Proofs.YtglagbedgjkdbaaGreatDoor.rf
open Go.RowKit
set_option linter.unusedVariables false

theorem rHi_bound (x : Int) (k : Nat) (hk : k ≤ 2147483647) (h1 : -9223372036854775808 * (k : Int) ≤ x) (h2 : x ≤ 9223372036854775808 * (k : Int)) : -4611686018427387904 ≤ rHi x ∧ rHi x ≤ 4611686018427387904 := by
  unfold rHi; omega
theorem rHi_fit (x : Int) (h : fitsB x = true) : -2147483648 ≤ rHi x ∧ rHi x ≤ 2147483648 := by
  have := (fits_iff x).1 h; unfold rHi; omega

set_option maxHeartbeats 2000000 in
theorem refSum_some (b off len cap : Nat) (zs : List Int) (w : World) (hb : b < w.heap.size) (hl : len ≤ 2147483647) (hz : ∀ j, fitsB (zs.getD j 0) = true) (hc : ∀ j, j < len → w.cell? ⟨b, off + j, none⟩ = some (.int .i64 (zs.getD j 0))) :
    Calls Tryz.prog 131 #[.slice (some ⟨b, off, none⟩) len cap] w fun e w' => e = .returned (.agg #[.bool (fitsB (sumU zs len)), .int .i64 (fitN (sumU zs len))]) ∧ Below w.heap.size w w' := by
  go_enter Tryz.func131, Tryz.ntmps131
  go_wp2
  go_loopw [4] (fun i wr => ∃ k : Nat, k ≤ len ∧ i = .int .i64 k ∧ Two wr w.heap.size (.bool false) (.int .i64 0) 51 ∧ Two wr (w.heap.size + 1) (.int .i64 (rHi (sumU zs k))) (.int .i64 (rLo (sumU zs k))) 162 ∧ Below w.heap.size w wr) (fun i _ => len - (intOf i).toNat)
  case atStart => exact ⟨0, Nat.zero_le _, rfl, (Two.new _ _ _ _).alloc _, by have := Two.new (w.alloc (.cells #[.bool false, .int .i64 0] 51)) (.int .i64 0) (.int .i64 0) 162; simpa [sumU, rHi, rLo] using this, galloc (galloc (Below.refl _ _) _) _⟩
  case round =>
    obtain ⟨k, hk, rfl, T0, T1, G⟩ := hrel
    have hck : k < len → wr.cell? ⟨b, off + k, none⟩ = some (.int .i64 (zs.getD k 0)) := fun h => (G.cell (p := ⟨b, off + k, none⟩) hb).trans (hc _ h)
    have hzk : fitsB (zs[k]?.getD 0) = true := by simpa [List.getD] using hz k
    have B1 := rHi_bound _ k (by omega) (sumU_bound zs hz k).1 (sumU_bound zs hz k).2
    have B2 := rHi_fit _ hzk
    have c00 := T0.at0
    have c01 := T0.at1
    have c10 := T1.at0
    have c11 := T1.at1
    have f0 := T0.free
    have f1 := T1.free
    have l0 := T0.lt
    have l1 := T1.lt
    by_cases hlt : k < len
    · replace hck := hck hlt
      go_wp2
      have R := Below.refl wr.heap.size wr
      replace R := R.drew
      go_region_with (first
        | (go_at_call 135; refine (refWiden_any _ _ hzk).mono ?_; rintro e u ⟨rfl, g⟩; replace R := gtrans R g; obtain ⟨hc2, hf2⟩ := bcell R)
        | (go_at_call 134; refine (refplus_any _ _ _ (by omega) (by omega)).mono ?_; rintro e u ⟨rfl, g⟩; replace R := gtrans R g; obtain ⟨hc2, hf2⟩ := bcell R))
      all_goals
        have T0' := ((T0.keep R).other (p := ⟨w.heap.size + 1, 0, none⟩) (by simp) (.int .i64 (rHi (sumU zs k + zs[k]?.getD 0)))).other (p := ⟨w.heap.size + 1, 1, none⟩) (by simp) (.int .i64 (rLo (sumU zs k + zs[k]?.getD 0)))
        have T1' := (T1.keep R).set (.int .i64 (rHi (sumU zs k + zs[k]?.getD 0))) (.int .i64 (rLo (sumU zs k + zs[k]?.getD 0)))
        have G' := ((G.trans (R.mono G.size)).setCell (p := ⟨w.heap.size + 1, 0, none⟩) (by simp) (.int .i64 (rHi (sumU zs k + zs[k]?.getD 0)))).setCell (p := ⟨w.heap.size + 1, 1, none⟩) (by simp) (.int .i64 (rLo (sumU zs k + zs[k]?.getD 0)))
        clear hc2 hf2 c00 c01 c10 c11 f0 f1
        generalize ((u.setCell ⟨w.heap.size + 1, 0, none⟩ (Value.int .i64 (rHi (sumU zs k + zs[k]?.getD 0)))).setCell ⟨w.heap.size + 1, 1, none⟩ (Value.int .i64 (rLo (sumU zs k + zs[k]?.getD 0)))) = wz at T0' T1' G' ⊢
        go_wp2
        go_roundw
        case rel => exact ⟨k + 1, by omega, by go_num, T0', by simpa [sumU, List.getD] using T1', G'⟩
        case measure => simp [intOf]; omega
    · obtain rfl : k = len := by omega
      have R := Below.refl wr.heap.size wr
      go_wp2_with (go_at_call 133; refine (refFit_any _ _).mono ?_; rintro e u ⟨rfl, g⟩; replace R := gtrans R g; obtain ⟨hc2, hf2⟩ := bcell R)
      refine bodyPost_ret (v := .agg #[.bool (fitsB (sumU zs k)), .int .i64 (fitN (sumU zs k))]) ?_ rfl ⟨rfl, ?_⟩
      · simp [results, Tryz.results131, go_sem, c00, c01, hc2, l0]
      · exact ((G.trans (R.mono G.size)).setCell (by simp) _).setCell (by simp) _

set_option maxHeartbeats 1000000 in
theorem refSum_none (ao : Option Addr) (cap : Nat) (w : World) :
    Calls Tryz.prog 131 #[.slice ao 0 cap] w fun e w' => e = .returned (.agg #[.bool true, .int .i64 0]) ∧ Below w.heap.size w w' := by
  have cf := refFit_any 0
  have e1 : rHi 0 = 0 := rfl
  have e2 : rLo 0 = 0 := rfl
  have e3 : fitsB 0 = true := by decide
  have e4 : fitN 0 = 0 := by decide
  rw [e1, e2, e3, e4] at cf
  clear e1 e2 e3 e4
  go_enter Tryz.func131, Tryz.ntmps131
  go_wp2
  refine wp_loop_rounds 1 ?_
  rw [rounds_succ]
  go_wp2_with (go_at_call 133; refine (cf _).mono ?_; rintro e u ⟨rfl, g⟩; obtain ⟨hc2, hf2⟩ := bcell g)
  have T0 := ((Two.new w (.bool false) (.int .i64 0) 51).alloc (.cells #[.int .i64 0, .int .i64 0] 162)).keep g
  have c0 := T0.at0
  have c1 := T0.at1
  refine bodyPost_ret (v := .agg #[.bool true, .int .i64 0]) (by simp [results, Tryz.results131, go_sem, c0, c1]) rfl ⟨rfl, ?_⟩
  exact gset (gset (gtrans (galloc (galloc (Below.refl _ _) _) _) g) (by simp) _) (by simp) _

theorem refSum_any (ao : Option Addr) (len cap : Nat) (zs : List Int) (w : World) (hl : len ≤ 2147483647) (h : IsRow w ao len zs) :
    Calls Tryz.prog 131 #[.slice ao len cap] w fun e w' => e = .returned (.agg #[.bool (fitsB (sumU zs len)), .int .i64 (fitN (sumU zs len))]) ∧ Below w.heap.size w w' := by
  obtain ⟨h1, h2, h3, h4⟩ := h
  rcases h4 with rfl | ⟨b, off, rfl, hb, hc⟩
  · have e0 : sumU zs 0 = 0 := rfl
    have e1 : fitsB 0 = true := by decide
    have e2 : fitN 0 = 0 := by decide
    rw [e0, e1, e2]; exact refSum_none ao cap w
  · exact refSum_some b off len cap zs w hb hl h3 hc

set_option maxHeartbeats 1000000 in
theorem refExt_false (b off len cap : Nat) (zs : List Int) (w : World) (hn : 0 < len) (hl : len ≤ 9223372036854775807) (hc : ∀ j, j < len → w.cell? ⟨b, off + j, none⟩ = some (.int .i64 (zs.getD j 0))) :
    Calls Tryz.prog 132 #[.slice (some ⟨b, off, none⟩) len cap, .bool false] w fun e w' => e = .returned (.int .i64 (extU false zs (len - 1))) ∧ w = w' := by
  have hc0 := hc 0 hn
  rw [Nat.add_zero] at hc0
  go_enter Tryz.func132, Tryz.ntmps132
  go_wp2
  go_loop [5, 6] (fun m i => ∃ k : Nat, 1 ≤ k ∧ k ≤ len ∧ i = .int .i64 k ∧ m = .int .i64 (extU false zs (k - 1))) (fun _ i => len - (intOf i).toNat)
  case atStart => exact ⟨1, Nat.le_refl _, hn, rfl, by simp [extU]⟩
  case round =>
    obtain ⟨k, hk1, hk, rfl, rfl⟩ := hrel
    have hck : k < len → w.cell? ⟨b, off + k, none⟩ = some (.int .i64 (zs.getD k 0)) := fun h => hc _ h
    have hst := extU_at false zs k hk1
    simp only [step, List.getD_eq_getElem?_getD] at hst
    have HS : Hid _ := hst
    clear hst
    by_cases hlt : k < len
    · replace hck := hck hlt
      go_wp2
      all_goals
        have hst : extU false zs k = _ := HS
        go_round
        case rel => exact ⟨k + 1, by omega, by omega, by go_num, by rw [Nat.add_sub_cancel, hst]; simp; try omega⟩
        case measure => simp [intOf]; omega
    · obtain rfl : k = len := by omega
      go_wp2
      go_ret
      exact ⟨rfl, rfl⟩

set_option maxHeartbeats 1000000 in
theorem refExt_true (b off len cap : Nat) (zs : List Int) (w : World) (hn : 0 < len) (hl : len ≤ 9223372036854775807) (hc : ∀ j, j < len → w.cell? ⟨b, off + j, none⟩ = some (.int .i64 (zs.getD j 0))) :
    Calls Tryz.prog 132 #[.slice (some ⟨b, off, none⟩) len cap, .bool true] w fun e w' => e = .returned (.int .i64 (extU true zs (len - 1))) ∧ w = w' := by
  have hc0 := hc 0 hn
  rw [Nat.add_zero] at hc0
  go_enter Tryz.func132, Tryz.ntmps132
  go_wp2
  go_loop [5, 6] (fun m i => ∃ k : Nat, 1 ≤ k ∧ k ≤ len ∧ i = .int .i64 k ∧ m = .int .i64 (extU true zs (k - 1))) (fun _ i => len - (intOf i).toNat)
  case atStart => exact ⟨1, Nat.le_refl _, hn, rfl, by simp [extU]⟩
  case round =>
    obtain ⟨k, hk1, hk, rfl, rfl⟩ := hrel
    have hck : k < len → w.cell? ⟨b, off + k, none⟩ = some (.int .i64 (zs.getD k 0)) := fun h => hc _ h
    have hst := extU_at true zs k hk1
    simp only [step, List.getD_eq_getElem?_getD] at hst
    have HS : Hid _ := hst
    clear hst
    by_cases hlt : k < len
    · replace hck := hck hlt
      go_wp2
      all_goals
        have hst : extU true zs k = _ := HS
        go_round
        case rel => exact ⟨k + 1, by omega, by omega, by go_num, by rw [Nat.add_sub_cancel, hst]; simp; try omega⟩
        case measure => simp [intOf]; omega
    · obtain rfl : k = len := by omega
      go_wp2
      go_ret
      exact ⟨rfl, rfl⟩

theorem refExt_any (ao : Option Addr) (len cap : Nat) (g : Bool) (zs : List Int) (w : World) (hn : 0 < len) (h : IsRow w ao len zs) :
    Calls Tryz.prog 132 #[.slice ao len cap, .bool g] w fun e w' => e = .returned (.int .i64 (extU g zs (len - 1))) ∧ w = w' := by
  obtain ⟨h1, h2, h3, h4⟩ := h
  rcases h4 with rfl | ⟨b, off, rfl, hb, hc⟩
  · omega
  · cases g
    · exact refExt_false b off len cap zs w hn h2 hc
    · exact refExt_true b off len cap zs w hn h2 hc


set_option maxHeartbeats 1000000 in
theorem refFold_five (ao : Option Addr) (len cap : Nat) (zs : List Int) (w : World) (h : IsRow w ao len zs) (hl : len ≤ 2147483647) :
    Calls Tryz.prog 104 #[.int .i64 5, .slice ao len cap] w fun e w' => e = .returned (.agg #[.bool true, .int .i64 len]) ∧ Below w.heap.size w w' := by
  clear h
  go_enter Tryz.func104, Tryz.ntmps104
  go_wp2_with (go_at_call 73; refine (refNumber_any _ _).mono ?_; rintro e w0 ⟨rfl, g0⟩; obtain ⟨hc0, hf0⟩ := bcell g0)
  refine bodyPost_ret (v := .agg #[.bool true, .int .i64 len]) (by simp [results, Tryz.results104, go_sem, hc0]) rfl ⟨rfl, ?_⟩
  exact gset (gset (gtrans (galloc (Below.refl _ _) _) g0) (by simp) _) (by simp) _

set_option maxHeartbeats 1000000 in
theorem refFold_six (ao : Option Addr) (len cap : Nat) (zs : List Int) (w : World) (h : IsRow w ao len zs) (hl : len ≤ 2147483647) :
    Calls Tryz.prog 104 #[.int .i64 6, .slice ao len cap] w fun e w' => e = .returned (.agg #[.bool (fitsB (sumU zs len)), .int .i64 (fitN (sumU zs len))]) ∧ Below w.heap.size w w' := by
  have hr := h.keep (galloc (Below.refl w.heap.size w) (.cells #[.bool false, .int .i64 0] 51))
  have ct := refSum_any ao len cap zs _ hl hr
  clear h hr
  go_enter Tryz.func104, Tryz.ntmps104
  go_wp2_with (go_at_call 131; refine ct.mono ?_; rintro e w0 ⟨rfl, g0⟩; obtain ⟨hc0, hf0⟩ := bcell g0)
  refine bodyPost_ret (v := .agg #[.bool (fitsB (sumU zs len)), .int .i64 (fitN (sumU zs len))]) (by simp [results, Tryz.results104, go_sem, hc0]) rfl ⟨rfl, ?_⟩
  exact gset (gset (gtrans (galloc (Below.refl _ _) _) g0) (by simp) _) (by simp) _

set_option maxHeartbeats 1000000 in
theorem refFold_seven (ao : Option Addr) (len cap : Nat) (zs : List Int) (w : World) (h : IsRow w ao len zs) (hl : len ≤ 2147483647) (hn : 0 < len) :
    Calls Tryz.prog 104 #[.int .i64 7, .slice ao len cap] w fun e w' => e = .returned (.agg #[.bool true, .int .i64 (extU false zs (len - 1))]) ∧ Below w.heap.size w w' := by
  have hr := h.keep (galloc (Below.refl w.heap.size w) (.cells #[.bool false, .int .i64 0] 51))
  have ct := refExt_any ao len cap false zs _ hn hr
  have hn0 : ((len : Int) == 0) = false := by simp; omega
  clear h hr
  go_enter Tryz.func104, Tryz.ntmps104
  go_wp2_with (first
    | (go_at_call 132; refine ct.mono ?_; rintro e w9 ⟨rfl, rfl⟩)
    | (go_at_call 73; refine (refNumber_any _ _).mono ?_; rintro e w0 ⟨rfl, g0⟩; obtain ⟨hc0, hf0⟩ := bcell g0))
  refine bodyPost_ret (v := .agg #[.bool true, .int .i64 (extU false zs (len - 1))]) (by simp [results, Tryz.results104, go_sem, hc0]) rfl ⟨rfl, ?_⟩
  exact gset (gset (gtrans (galloc (Below.refl _ _) _) g0) (by simp) _) (by simp) _

set_option maxHeartbeats 1000000 in
theorem refFold_eight (ao : Option Addr) (len cap : Nat) (zs : List Int) (w : World) (h : IsRow w ao len zs) (hl : len ≤ 2147483647) (hn : 0 < len) :
    Calls Tryz.prog 104 #[.int .i64 8, .slice ao len cap] w fun e w' => e = .returned (.agg #[.bool true, .int .i64 (extU true zs (len - 1))]) ∧ Below w.heap.size w w' := by
  have hr := h.keep (galloc (Below.refl w.heap.size w) (.cells #[.bool false, .int .i64 0] 51))
  have ct := refExt_any ao len cap true zs _ hn hr
  have hn0 : ((len : Int) == 0) = false := by simp; omega
  clear h hr
  go_enter Tryz.func104, Tryz.ntmps104
  go_wp2_with (first
    | (go_at_call 132; refine ct.mono ?_; rintro e w9 ⟨rfl, rfl⟩)
    | (go_at_call 73; refine (refNumber_any _ _).mono ?_; rintro e w0 ⟨rfl, g0⟩; obtain ⟨hc0, hf0⟩ := bcell g0))
  refine bodyPost_ret (v := .agg #[.bool true, .int .i64 (extU true zs (len - 1))]) (by simp [results, Tryz.results104, go_sem, hc0]) rfl ⟨rfl, ?_⟩
  exact gset (gset (gtrans (galloc (Below.refl _ _) _) g0) (by simp) _) (by simp) _

set_option maxHeartbeats 1000000 in
theorem refFold_nine (ao : Option Addr) (len cap : Nat) (zs : List Int) (w : World) (h : IsRow w ao len zs) (hl : len ≤ 2147483647) (hn : 0 < len) :
    Calls Tryz.prog 104 #[.int .i64 9, .slice ao len cap] w fun e w' => e = .returned (.agg #[.bool true, .int .i64 (zs.getD 0 0)]) ∧ Below w.heap.size w w' := by
  obtain ⟨h1, h2, h3, h4⟩ := h
  rcases h4 with rfl | ⟨b, off, rfl, hb, hc⟩
  · omega
  obtain ⟨v, hv⟩ : ∃ v, v = zs.getD 0 0 := ⟨_, rfl⟩
  have hcv : w.cell? ⟨b, off + 0, none⟩ = some (.int .i64 v) := hv ▸ hc 0 (by omega)
  rw [← hv]
  clear hv hc h3 h1
  have hn0 : ((len : Int) == 0) = false := by simp; omega
  try rw [Nat.add_zero] at hcv
  go_enter Tryz.func104, Tryz.ntmps104
  go_wp2_with (go_at_call 73; refine (refNumber_any _ _).mono ?_; rintro e w0 ⟨rfl, g0⟩; obtain ⟨hc0, hf0⟩ := bcell g0)
  refine bodyPost_ret (v := .agg #[.bool true, .int .i64 v]) (by simp [results, Tryz.results104, go_sem, hc0]) rfl ⟨rfl, ?_⟩
  exact gset (gset (gtrans (galloc (Below.refl _ _) _) g0) (by simp) _) (by simp) _

set_option maxHeartbeats 1000000 in
theorem refFold_ten (ao : Option Addr) (len cap : Nat) (zs : List Int) (w : World) (h : IsRow w ao len zs) (hl : len ≤ 2147483647) (hn : 0 < len) :
    Calls Tryz.prog 104 #[.int .i64 10, .slice ao len cap] w fun e w' => e = .returned (.agg #[.bool true, .int .i64 (zs.getD (len - 1) 0)]) ∧ Below w.heap.size w w' := by
  obtain ⟨h1, h2, h3, h4⟩ := h
  rcases h4 with rfl | ⟨b, off, rfl, hb, hc⟩
  · omega
  obtain ⟨v, hv⟩ : ∃ v, v = zs.getD (len - 1) 0 := ⟨_, rfl⟩
  have hcv : w.cell? ⟨b, off + (len - 1), none⟩ = some (.int .i64 v) := hv ▸ hc (len - 1) (by omega)
  rw [← hv]
  clear hv hc h3 h1
  have hn0 : ((len : Int) == 0) = false := by simp; omega
  try rw [Nat.add_zero] at hcv
  go_enter Tryz.func104, Tryz.ntmps104
  go_wp2_with (go_at_call 73; refine (refNumber_any _ _).mono ?_; rintro e w0 ⟨rfl, g0⟩; obtain ⟨hc0, hf0⟩ := bcell g0)
  refine bodyPost_ret (v := .agg #[.bool true, .int .i64 v]) (by simp [results, Tryz.results104, go_sem, hc0]) rfl ⟨rfl, ?_⟩
  exact gset (gset (gtrans (galloc (Below.refl _ _) _) g0) (by simp) _) (by simp) _

set_option maxHeartbeats 1000000 in
theorem refFold_empty (op : Int) (ao : Option Addr) (len cap : Nat) (zs : List Int) (w : World) (h : IsRow w ao len zs) (hl : len ≤ 2147483647) (hn : len = 0) (h5 : (op == 5) = false) (h6 : (op == 6) = false) :
    Calls Tryz.prog 104 #[.int .i64 op, .slice ao len cap] w fun e w' => e = .returned (.agg #[.bool false, .int .i64 0]) ∧ Below w.heap.size w w' := by
  subst hn
  clear h
  go_enter Tryz.func104, Tryz.ntmps104
  go_wp2_with (go_at_call 46; refine (refNothing_any _).mono ?_; rintro e w0 ⟨rfl, g0⟩; obtain ⟨hc0, hf0⟩ := bcell g0)
  refine bodyPost_ret (v := .agg #[.bool false, .int .i64 0]) (by simp [results, Tryz.results104, go_sem, hc0]) rfl ⟨rfl, ?_⟩
  exact gset (gset (gtrans (galloc (Below.refl _ _) _) g0) (by simp) _) (by simp) _

set_option maxHeartbeats 1000000 in
theorem refFold_else (op : Int) (ao : Option Addr) (len cap : Nat) (zs : List Int) (w : World) (h : IsRow w ao len zs) (hl : len ≤ 2147483647) (hn : 0 < len) (h5 : (op == 5) = false) (h6 : (op == 6) = false) (h7 : (op == 7) = false) (h8 : (op == 8) = false) (h9 : (op == 9) = false) (h10 : (op == 10) = false) :
    Calls Tryz.prog 104 #[.int .i64 op, .slice ao len cap] w fun e w' => e = .returned (.agg #[.bool false, .int .i64 0]) ∧ Below w.heap.size w w' := by
  have hn0 : ((len : Int) == 0) = false := by simp; omega
  clear h
  go_enter Tryz.func104, Tryz.ntmps104
  go_wp2_with (go_at_call 46; refine (refNothing_any _).mono ?_; rintro e w0 ⟨rfl, g0⟩; obtain ⟨hc0, hf0⟩ := bcell g0)
  refine bodyPost_ret (v := .agg #[.bool false, .int .i64 0]) (by simp [results, Tryz.results104, go_sem, hc0]) rfl ⟨rfl, ?_⟩
  exact gset (gset (gtrans (galloc (Below.refl _ _) _) g0) (by simp) _) (by simp) _

theorem refFold_any (op : Int) (ao : Option Addr) (len cap : Nat) (zs : List Int) (w : World) (h : IsRow w ao len zs) (hl : len ≤ 2147483647) :
    Calls Tryz.prog 104 #[.int .i64 op, .slice ao len cap] w fun e w' => e = .returned (.agg #[.bool (foldK op zs), .int .i64 (foldN op zs)]) ∧ Below w.heap.size w w' := by
  have hlen : zs.length = len := h.1
  unfold foldK foldN
  rw [hlen]
  by_cases h5 : op = 5
  · subst h5; exact refFold_five ao len cap zs w h hl
  by_cases h6 : op = 6
  · subst h6; exact refFold_six ao len cap zs w h hl
  rw [if_neg h5, if_neg h5, if_neg h6, if_neg h6]
  by_cases hn : len = 0
  · rw [if_pos hn, if_pos hn]; exact refFold_empty op ao len cap zs w h hl hn (by simpa using h5) (by simpa using h6)
  rw [if_neg hn, if_neg hn]
  have hp : 0 < len := by omega
  by_cases h7 : op = 7
  · subst h7; exact refFold_seven ao len cap zs w h hl hp
  by_cases h8 : op = 8
  · subst h8; exact refFold_eight ao len cap zs w h hl hp
  by_cases h9 : op = 9
  · subst h9; exact refFold_nine ao len cap zs w h hl hp
  by_cases h10 : op = 10
  · subst h10; exact refFold_ten ao len cap zs w h hl hp
  rw [if_neg h7, if_neg h8, if_neg h9, if_neg h10, decide_eq_false (by simp [h7, h8, h9, h10])]
  exact refFold_else op ao len cap zs w h hl hp (by simpa using h5) (by simpa using h6) (by simpa using h7) (by simpa using h8) (by simpa using h9) (by simpa using h10)

end Go.Proofs.YtglagbedgjkdbaaGreatDoor.rf
namespace Go.Proofs.YtglagbedgjkdbaaGreatDoor
open Go.RowKit Go.BigFrame
set_option linter.unusedVariables false
set_option linter.unusedSimpArgs false

theorem say_in {f : Int → Int} {l : List Ev} {k : Nat} (h : k < l.length) : sayV f l (k : Int) = rdE f (l.getD k zeroE) := if_neg (by omega)
structure GatL (f : Int → Int) (l : List Ev) (w : World) (v i : Value) (wr : World) : Prop where
  ex : ∃ k : Nat, k ≤ l.length ∧ i = .int .i64 k ∧ (∀ j, j < k → (rdE f (l.getD j zeroE)).1 = true) ∧ wr.ownsRow (w.heap.size + 1) 2 1 v (numK f l k).length ((numK f l k).map (Value.int .i64)) ∧ Two wr w.heap.size (.bool false) (.int .i64 0) 51 ∧ Below w.heap.size w wr

/-- What an instruction without operands lays down. -/
def laidV (i : Ins) (col : List Int) (E : Envr) : V2 :=
  if i.code = 1 then (true, i.n) else if i.code = 4 then (true, ((lstO E i.item).length : Int)) else menV (plcO col) (opI i.code) E i.item
theorem say_nil (f : Int → Int) (p : Int) : sayV f [] p = noV2 := by
  unfold sayV
  rw [if_pos]
  by_cases h : p < 0
  · exact .inl h
  · exact .inr (by simp; omega)
theorem lst_neg {E : Envr} {i : Int} (h : i < 0) : lstO E i = [] := if_pos (.inl h)

end Go.Proofs.YtglagbedgjkdbaaGreatDoor
namespace Go.Proofs.YtglagbedgjkdbaaGreatDoor
open Go.RowKit Go.BigFrame
set_option linter.unusedVariables false
set_option linter.unusedSimpArgs false

/-- The slice that begins at ao with n elements holds the strings ss. -/
def IsStrs (w : World) (ao : Option Addr) (n : Nat) (ss : List ByteArray) : Prop :=
  ss.length = n ∧ n ≤ 9223372036854775807 ∧ (n = 0 ∨ ∃ b off, ao = some ⟨b, off, none⟩ ∧ b < w.heap.size ∧ ∀ j, j < n → w.cell? ⟨b, off + j, none⟩ = some (.string (ss.getD j .empty)))
theorem IsStrs.keep {w u : World} {ao : Option Addr} {n : Nat} {ss : List ByteArray} (h : IsStrs w ao n ss) (G : Below w.heap.size w u) : IsStrs u ao n ss := by
  obtain ⟨h1, h2, h4⟩ := h
  refine ⟨h1, h2, ?_⟩
  rcases h4 with h4 | ⟨b, off, e, hb, hc⟩
  · exact .inl h4
  · exact .inr ⟨b, off, e, Nat.lt_of_lt_of_le hb G.size, fun j hj => (G.cell (p := ⟨b, off + j, none⟩) hb).trans (hc j hj)⟩

theorem IsStrs.take {w : World} {ao : Option Addr} {n : Nat} {ss : List ByteArray} (h : IsStrs w ao n ss) (k : Nat) (hk : k ≤ n) : IsStrs w ao k (ss.take k) := by
  obtain ⟨h1, h2, h4⟩ := h
  refine ⟨by simp; omega, by omega, ?_⟩
  rcases h4 with h4 | ⟨b, off, e, hb, hc⟩
  · exact .inl (by omega)
  · refine .inr ⟨b, off, e, hb, fun j hj => ?_⟩
    rw [hc j (by omega)]
    simp [List.getD, List.getElem?_take, hj]

abbrev Ty := ByteArray × List ByteArray
def noTy : Ty := (.empty, [])
/-- The slice that begins at ao with n elements holds the types L. -/
def IsTypes (w : World) (ao : Option Addr) (n : Nat) (L : List Ty) : Prop :=
  L.length = n ∧ n ≤ 9223372036854775807 ∧ (n = 0 ∨ ∃ b off, ao = some ⟨b, off, none⟩ ∧ b < w.heap.size ∧ ∀ j, j < n →
    w.cell? ⟨b, off + j * 2, none⟩ = some (.string (L.getD j noTy).1) ∧ ∃ aj cj, w.cell? ⟨b, off + j * 2 + 1, none⟩ = some (.slice aj (L.getD j noTy).2.length cj) ∧ (L.getD j noTy).2.length ≤ cj ∧ IsStrs w aj (L.getD j noTy).2.length (L.getD j noTy).2)
theorem IsTypes.keep {w u : World} {ao : Option Addr} {n : Nat} {L : List Ty} (h : IsTypes w ao n L) (G : Below w.heap.size w u) : IsTypes u ao n L := by
  obtain ⟨h1, h2, h4⟩ := h
  refine ⟨h1, h2, ?_⟩
  rcases h4 with h4 | ⟨b, off, e, hb, hc⟩
  · exact .inl h4
  · refine .inr ⟨b, off, e, Nat.lt_of_lt_of_le hb G.size, fun j hj => ?_⟩
    obtain ⟨c1, aj, cj, c2, c4, c3⟩ := hc j hj
    exact ⟨(G.cell (p := ⟨b, off + j * 2, none⟩) hb).trans c1, aj, cj, (G.cell (p := ⟨b, off + j * 2 + 1, none⟩) hb).trans c2, c4, c3.keep G⟩

theorem IsTypes.take {w : World} {ao : Option Addr} {n : Nat} {L : List Ty} (h : IsTypes w ao n L) (k : Nat) (hk : k ≤ n) : IsTypes w ao k (L.take k) := by
  obtain ⟨h1, h2, h4⟩ := h
  refine ⟨by simp; omega, by omega, ?_⟩
  rcases h4 with h4 | ⟨b, off, e, hb, hc⟩
  · exact .inl (by omega)
  · refine .inr ⟨b, off, e, hb, fun j hj => ?_⟩
    have e1 : (L.take k).getD j noTy = L.getD j noTy := by simp [List.getD, List.getElem?_take, hj]
    rw [e1]
    exact hc j (by omega)
def hitB (name : ByteArray) (t : Ty) : Bool := t.1.toList == name.toList
/-- The number of the first type of that name, or -1. -/
def typeI (L : List Ty) (name : ByteArray) : Int := if L.findIdx (hitB name) < L.length then (L.findIdx (hitB name) : Int) else -1
theorem typeI_hit (L : List Ty) (name : ByteArray) (k : Nat) (hk : k < L.length) (h1 : hitB name (L.getD k noTy) = true) (h2 : ∀ j, j < k → hitB name (L.getD j noTy) = false) : typeI L name = k := by
  have e : L.findIdx (hitB name) = k := by
    rw [List.findIdx_eq hk]
    refine ⟨by simpa [List.getD, List.getElem?_eq_getElem hk] using h1, fun j hj => ?_⟩
    have := h2 j hj
    simpa [List.getD, List.getElem?_eq_getElem (show j < L.length by omega)] using this
  unfold typeI
  rw [e, if_pos hk]
theorem typeI_none (L : List Ty) (name : ByteArray) (h2 : ∀ j, j < L.length → hitB name (L.getD j noTy) = false) : typeI L name = -1 := by
  unfold typeI
  rw [if_neg]
  intro h
  have h1 := List.findIdx_getElem (xs := L) (p := hitB name) (w := h)
  have := h2 _ h
  simp only [List.getD, List.getElem?_eq_getElem h, Option.getD_some] at this
  rw [h1] at this
  exact absurd this (by decide)

theorem more {p : Nat → Bool} {k : Nat} (h : ∀ j, j < k → p j = false) (hk : p k = false) : ∀ j, j < k + 1 → p j = false := by
  intro j hj
  rcases Nat.lt_or_ge j k with h1 | h1
  · exact h j h1
  · obtain rfl : j = k := by omega
    exact hk

def eqB (a b : List ByteArray) : Bool := decide (a.length = b.length ∧ ∀ j, j < a.length → ((a.getD j .empty).toList == (b.getD j .empty).toList) = true)

end Go.Proofs.YtglagbedgjkdbaaGreatDoor
namespace Go.Proofs.YtglagbedgjkdbaaGreatDoor
open Go.RowKit Go.BigFrame
set_option linter.unusedVariables false
set_option linter.unusedSimpArgs false

def hitS (name s : ByteArray) : Bool := s.toList == name.toList
/-- The first place ahead of the ninth at which the list has that name, or -1. -/
def placeI (ss : List ByteArray) (name : ByteArray) : Int := if ss.findIdx (hitS name) < ss.length ∧ ss.findIdx (hitS name) < 8 then (ss.findIdx (hitS name) : Int) else -1
theorem placeI_hit (ss : List ByteArray) (name : ByteArray) (k : Nat) (hk : k < ss.length) (h8 : k < 8) (h1 : hitS name (ss.getD k .empty) = true) (h2 : ∀ j, j < k → hitS name (ss.getD j .empty) = false) : placeI ss name = k := by
  have e : ss.findIdx (hitS name) = k := by
    rw [List.findIdx_eq hk]
    refine ⟨by simpa [List.getD, List.getElem?_eq_getElem hk] using h1, fun j hj => ?_⟩
    have := h2 j hj
    simpa [List.getD, List.getElem?_eq_getElem (show j < ss.length by omega)] using this
  unfold placeI
  rw [e, if_pos ⟨hk, h8⟩]
theorem placeI_none (ss : List ByteArray) (name : ByteArray) (h2 : ∀ j, j < ss.length → j < 8 → hitS name (ss.getD j .empty) = false) : placeI ss name = -1 := by
  unfold placeI
  rw [if_neg]
  intro ⟨h, h8⟩
  have h1 := List.findIdx_getElem (xs := ss) (p := hitS name) (w := h)
  have := h2 _ h h8
  simp only [List.getD, List.getElem?_eq_getElem h, Option.getD_some] at this
  rw [h1] at this
  exact absurd this (by decide)
/-- The place of an attribute of a type. -/
def attrI (L : List Ty) (typ : Int) (name : ByteArray) : Int :=
  if 0 ≤ typ ∧ typ < L.length then (if (name.toList == [116, 115]) = true then -2 else placeI (L.getD typ.toNat noTy).2 name) else -1

set_option maxHeartbeats 400000 in
theorem hasType_any (ao : Option Addr) (n cap : Nat) (typ : Int) (w : World) (hn : n ≤ 9223372036854775807) :
    Calls Tryz.prog 146 #[.agg #[.slice ao n cap], .int .i64 typ] w fun e w' => e = .returned (.bool (decide (0 ≤ typ ∧ typ < (n : Int)))) ∧ Below w.heap.size w w' := by
  by_cases h0 : 0 ≤ typ
  · by_cases h1 : typ < (n : Int)
    · rw [decide_eq_true ⟨h0, h1⟩]
      go_enter Tryz.func146, Tryz.ntmps146
      go_wp2
      all_goals (go_ret; exact ⟨by first | rfl | simp [h0, h1], galloc (Below.refl _ _) _⟩)
    · rw [decide_eq_false (fun e => h1 e.2)]
      go_enter Tryz.func146, Tryz.ntmps146
      go_wp2
      all_goals (go_ret; exact ⟨by first | rfl | simp [h0, h1], galloc (Below.refl _ _) _⟩)
  · rw [decide_eq_false (fun e => h0 e.1)]
    have h2 : typ < 0 := by omega
    go_enter Tryz.func146, Tryz.ntmps146
    go_wp2
    all_goals (go_ret; exact ⟨by first | rfl | simp [h0], galloc (Below.refl _ _) _⟩)

set_option maxRecDepth 100000 in
set_option maxHeartbeats 1000000 in
theorem attrOf_any (ao : Option Addr) (n cap : Nat) (L : List Ty) (typ : Int) (name : ByteArray) (w : World) (h : IsTypes w ao n L) :
    Calls Tryz.prog 126 #[.agg #[.slice ao n cap], .int .i64 typ, .string name] w fun e w' => e = .returned (.int .i64 (attrI L typ name)) ∧ Below w.heap.size w w' := by
  have hL := h.1
  have hn := h.2.1
  have B := galloc (Below.refl w.heap.size w) (.cells #[.slice ao n cap] 24)
  have O := One.new w (.slice ao n cap) 24
  have ch := hasType_any ao n cap typ
  by_cases hin : 0 ≤ typ ∧ typ < (n : Int)
  · obtain ⟨t, rfl⟩ := Int.eq_ofNat_of_zero_le hin.1
    have ht : t < n := by omega
    have ea : attrI L (t : Int) name = if (name.toList == [116, 115]) = true then -2 else placeI (L.getD t noTy).2 name := by unfold attrI; rw [if_pos (by rw [hL]; exact hin)]; simp
    rw [ea]
    simp only [decide_eq_true hin] at ch
    clear ea hin
    cases hts : (name.toList == [116, 115])
    · rw [if_neg (by decide)]
      go_enter Tryz.func126, Tryz.ntmps126
      obtain ⟨_, _, q4⟩ := h.keep B
      rcases q4 with q4 | ⟨b, off, eb, hb, hcb⟩
      · omega
      subst eb
      obtain ⟨_, aj, cj, f2, _, hs⟩ := hcb t ht
      obtain ⟨ss, hss⟩ : ∃ ss, ss = (L.getD t noTy).2 := ⟨_, rfl⟩
      rw [← hss] at f2 hs ⊢
      obtain ⟨m, hm⟩ : ∃ m, m = ss.length := ⟨_, rfl⟩
      rw [← hm] at f2 hs
      have hm2 : ss.length = m := hm.symm
      clear hcb hss hm
      generalize hV : w.alloc (.cells #[.slice (some ⟨b, off, none⟩) n cap] 24) = V at B O hb f2 hs
      go_upto_region 1 with fail
      clear hV
      have o0 := O.at0
      go_upto_region 3 with (go_at_call 146; with_reducible refine (ch _ hn).mono ?_; rintro e u ⟨rfl, g⟩)
      replace O := O.keep g
      replace B := gtrans B g
      replace f2 := (g.cell (p := ⟨b, off + t * 2 + 1, none⟩) hb).trans f2
      replace hs := hs.keep g
      replace o0 := O.at0
      clear g O ch h
      go_wp2
      go_loop [22] (fun i => ∃ k : Nat, k ≤ m ∧ k ≤ 8 ∧ i = .int .i64 k ∧ (∀ j, j < k → hitS name (ss.getD j .empty) = false)) (fun i => 9 - (intOf i).toNat)
      case atStart => exact ⟨0, Nat.zero_le _, Nat.zero_le _, rfl, fun j hj => absurd hj (Nat.not_lt_zero _)⟩
      case round =>
        obtain ⟨k, hk, h8, rfl, hno⟩ := hrel
        by_cases hlt : k < m
        · obtain ⟨_, r2, r4⟩ := hs
          rcases r4 with r4 | ⟨b2, off2, eb2, hb2, hcb2⟩
          · omega
          subst eb2
          obtain ⟨x, hx⟩ : ∃ x, x = ss.getD k .empty := ⟨_, rfl⟩
          have f3 := hcb2 k hlt
          rw [← hx] at f3
          have HH : Hid (hitS name (ss.getD k .empty) = (x.toList == name.toList)) := by show _ = _; unfold hitS; rw [hx]
          clear hcb2 hx
          by_cases hk8 : k = 8
          · subst hk8
            go_wp2
            go_ret
            exact ⟨by rw [placeI_none ss name (fun j _ hj => hno j hj)]; rfl, B⟩
          · have hkk : ((k : Int) == 8) = false := by simp; omega
            cases hc : (x.toList == name.toList)
            · go_wp2
              go_round
              case rel => exact ⟨k + 1, by omega, by omega, by go_num, more (p := fun j => hitS name (ss.getD j .empty)) hno (HH.out.trans hc)⟩
              case measure => simp [intOf]; omega
            · go_wp2
              go_ret
              exact ⟨by rw [placeI_hit ss name k (by omega) (by omega) (HH.out.trans hc) hno]; rfl, B⟩
        · obtain rfl : k = m := by omega
          have r2 := hs.2.1
          go_wp2
          go_ret
          exact ⟨by rw [placeI_none ss name (fun j hj _ => hno j (by omega))]; rfl, B⟩
    · rw [if_pos rfl]
      go_enter Tryz.func126, Tryz.ntmps126
      have o0 := O.at0
      go_wp2_with (go_at_call 146; with_reducible refine (ch _ hn).mono ?_; rintro e u ⟨rfl, g⟩)
      go_ret
      exact ⟨rfl, gtrans B g⟩
  · have ea : attrI L typ name = -1 := by unfold attrI; rw [if_neg (by rw [hL]; exact hin)]
    rw [ea]
    simp only [decide_eq_false hin] at ch
    go_enter Tryz.func126, Tryz.ntmps126
    have o0 := O.at0
    go_wp2_with (go_at_call 146; with_reducible refine (ch _ hn).mono ?_; rintro e u ⟨rfl, g⟩)
    go_ret
    exact ⟨rfl, gtrans B g⟩

set_option maxRecDepth 100000 in
set_option maxHeartbeats 1000000 in
theorem refAttrOf_any (ao : Option Addr) (n cap : Nat) (L : List Ty) (typ : Int) (name : ByteArray) (w : World) (h : IsTypes w ao n L) :
    Calls Tryz.prog 103 #[.agg #[.slice ao n cap], .int .i64 typ, .string name] w fun e w' => e = .returned (.int .i64 (attrI L typ name)) ∧ Below w.heap.size w w' := by
  have hL := h.1
  have hn := h.2.1
  have B := galloc (Below.refl w.heap.size w) (.cells #[.slice ao n cap] 24)
  have O := One.new w (.slice ao n cap) 24
  by_cases hin : 0 ≤ typ ∧ typ < (n : Int)
  · obtain ⟨t, rfl⟩ := Int.eq_ofNat_of_zero_le hin.1
    have ht : t < n := by omega
    have ea : attrI L (t : Int) name = if (name.toList == [116, 115]) = true then -2 else placeI (L.getD t noTy).2 name := by unfold attrI; rw [if_pos (by rw [hL]; exact hin)]; simp
    rw [ea]
    have g1 : decide ((n : Int) ≤ (t : Int)) = false := by simp; omega
    have g2 : ((n : Int) ≤ (t : Int)) = False := by simp; omega
    clear ea hin
    cases hts : (name.toList == [116, 115])
    · rw [if_neg (by decide)]
      go_enter Tryz.func103, Tryz.ntmps103
      obtain ⟨_, _, q4⟩ := h.keep B
      rcases q4 with q4 | ⟨b, off, eb, hb, hcb⟩
      · omega
      subst eb
      obtain ⟨_, aj, cj, f2, _, hs⟩ := hcb t ht
      obtain ⟨ss, hss⟩ : ∃ ss, ss = (L.getD t noTy).2 := ⟨_, rfl⟩
      rw [← hss] at f2 hs ⊢
      obtain ⟨m, hm⟩ : ∃ m, m = ss.length := ⟨_, rfl⟩
      rw [← hm] at f2 hs
      have hm2 : ss.length = m := hm.symm
      clear hcb hss hm
      generalize hV : w.alloc (.cells #[.slice (some ⟨b, off, none⟩) n cap] 24) = V at B O hb f2 hs
      go_upto_region 1 with fail
      clear hV h
      have o0 := O.at0
      go_wp2
      go_loop [8] (fun i => ∃ k : Nat, k ≤ m ∧ k ≤ 8 ∧ i = .int .i64 k ∧ (∀ j, j < k → hitS name (ss.getD j .empty) = false)) (fun i => 9 - (intOf i).toNat)
      case atStart => exact ⟨0, Nat.zero_le _, Nat.zero_le _, rfl, fun j hj => absurd hj (Nat.not_lt_zero _)⟩
      case round =>
        obtain ⟨k, hk, h8, rfl, hno⟩ := hrel
        have r2 := hs.2.1
        by_cases hlt : k < m
        · by_cases hk8 : k = 8
          · subst hk8
            go_wp2
            go_ret
            exact ⟨by rw [placeI_none ss name (fun j _ hj => hno j hj)]; rfl, B⟩
          · obtain ⟨_, _, r4⟩ := hs
            rcases r4 with r4 | ⟨b2, off2, eb2, hb2, hcb2⟩
            · omega
            subst eb2
            obtain ⟨x, hx⟩ : ∃ x, x = ss.getD k .empty := ⟨_, rfl⟩
            have f3 := hcb2 k hlt
            rw [← hx] at f3
            have HH : Hid (hitS name (ss.getD k .empty) = (x.toList == name.toList)) := by show _ = _; unfold hitS; rw [hx]
            have hk9 : k < 8 := by omega
            clear hcb2 hx
            cases hc : (x.toList == name.toList)
            · go_wp2
              go_round
              case rel => exact ⟨k + 1, by omega, by omega, by go_num, more (p := fun j => hitS name (ss.getD j .empty)) hno (HH.out.trans hc)⟩
              case measure => simp [intOf]; omega
            · go_wp2
              go_ret
              exact ⟨by rw [placeI_hit ss name k (by omega) (by omega) (HH.out.trans hc) hno]; rfl, B⟩
        · obtain rfl : k = m := by omega
          go_wp2
          go_ret
          exact ⟨by rw [placeI_none ss name (fun j hj _ => hno j (by omega))]; rfl, B⟩
    · rw [if_pos rfl]
      go_enter Tryz.func103, Tryz.ntmps103
      have o0 := O.at0
      go_wp2
      go_ret
      exact ⟨rfl, B⟩
  · have ea : attrI L typ name = -1 := by unfold attrI; rw [if_neg (by rw [hL]; exact hin)]
    rw [ea]
    go_enter Tryz.func103, Tryz.ntmps103
    have o0 := O.at0
    by_cases h0 : typ < 0
    · go_wp2
      go_ret
      exact ⟨rfl, B⟩
    · have h1 : (n : Int) ≤ typ := by omega
      go_wp2
      go_ret
      exact ⟨rfl, B⟩

/-- The same types and attributes? -/
def eqS (L M : List Ty) : Bool := decide (L.length = M.length ∧ ∀ j, j < L.length → ((L.getD j noTy).1.toList == (M.getD j noTy).1.toList) = true ∧ eqB (L.getD j noTy).2 (M.getD j noTy).2 = true)

end Go.Proofs.YtglagbedgjkdbaaGreatDoor
