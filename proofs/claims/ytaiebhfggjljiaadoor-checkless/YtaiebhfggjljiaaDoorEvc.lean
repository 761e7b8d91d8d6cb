/- What event's and the document's IsName come to, of any string: the same. -/
import Derived.Test.YtaiebhfggjljiaaDoorEvb
import Derived.Laws.BitsAllLaws
namespace Go.Proofs.YtaiebhfggjljiaaDoor.Ev
open Go.RowKit Go.BigFrame
set_option linter.unusedVariables false
set_option linter.unusedSimpArgs false

theorem or_low (x y : Nat) (hx : x < 128) (hy : y < 128) : ¬ (128 : Int) ≤ bits .or .u8 (x : Int) (y : Int) := by
  rw [u8_or_nat x y (by omega) (by omega)]
  have := Nat.or_lt_two_pow (n := 7) hx hy
  omega

set_option maxRecDepth 100000 in
set_option maxHeartbeats 2000000 in
theorem equalFold_any (s k : ByteArray) (hs : s.size ≤ 9223372036854775807) (hk2 : k.size ≤ 9223372036854775807) (ha : ∀ t, t < s.size → (s.data.getD t 0).toNat < 128) (hup : ∀ t, t < k.size → 65 ≤ (k.data.getD t 0).toNat ∧ (k.data.getD t 0).toNat ≤ 90) (w : World) :
    Calls Tryd.prog 70 #[.string s, .string k] w fun e w' => e = .returned (.bool (wrB s k)) ∧ w = w' := by
  rcases Nat.lt_trichotomy s.size k.size with hsz | hsz | hsz
  · have hw := wrB_size (s := s) (k := k) (by omega)
    obtain ⟨n, hn⟩ : ∃ n, s.size = n := ⟨_, rfl⟩
    obtain ⟨m, hm⟩ : ∃ m, k.size = m := ⟨_, rfl⟩
    rw [hn, hm] at hsz
    have q1 : (n : Int) ≤ (m : Int) := by omega
    have q2 : (n : Int) < (m : Int) := by omega
    have q3 : ((n : Int) == (m : Int)) = false := by simp; omega
    go_enter Tryd.func70, Tryd.ntmps70
    go_wp2
    go_step3
    go_wp2
    go_loop [5] (fun i => ∃ t : Nat, t ≤ n ∧ i = .int .i64 t) (fun i => n - (intOf i).toNat)
    case atStart => exact ⟨0, Nat.zero_le _, rfl⟩
    case round =>
      obtain ⟨t, ht, rfl⟩ := hrel
      by_cases hlt : t < n
      · have i1 := byteW s t (by omega) Tryd.prog 9 (by kernel_rfl)
        have i2 := byteW k t (by omega) Tryd.prog 9 (by kernel_rfl)
        have u1 := hup t (by omega)
        have l1 := ha t (by omega)
        clear hup ha
        generalize ((s.data.getD t 0).toNat) = x at *
        generalize ((k.data.getD t 0).toNat) = y at *
        have hor := or_low x y (by omega) (by omega)
        obtain ⟨u1, u2⟩ := u1
        have v1 : (65 : Int) ≤ (y : Int) := by omega
        have v2 : (y : Int) ≤ 90 := by omega
        rcases (show x = y ∨ (y < x ∧ x = y + 32) ∨ (y < x ∧ x ≠ y + 32) ∨ (x < y ∧ 65 ≤ x) ∨ (x < y ∧ x < 65) from by omega) with c | c | c | c | c
        · skip
          subst c
          go_wp2
          exact ⟨⟨t + 1, by omega, by go_num⟩, by simp [intOf]; omega⟩
        · skip
          have d1 : ((y : Int) == (x : Int)) = false := by simp; omega
          have d2 : (y : Int) < (x : Int) := by omega
          have d3 : ((x : Int) == (y : Int) + 32) = true := by simp; omega
          have hor2 : ¬ (128 : Int) ≤ bits .or .u8 ((y : Int) + 32) (y : Int) := by simpa using or_low (y + 32) y (by omega) (by omega)
          have HC : Hid (x = y + 32) := c.2
          clear c
          go_wp2
          exact ⟨⟨t + 1, by omega, by go_num⟩, by simp [intOf]; omega⟩
        · skip
          have d1 : ((y : Int) == (x : Int)) = false := by simp; omega
          have d2 : (y : Int) < (x : Int) := by omega
          have d3 : ((x : Int) == (y : Int) + 32) = false := by simp; omega
          go_wp2
          go_ret
          exact ⟨by rw [hw]; rfl, rfl⟩
        · skip
          have d1 : ((y : Int) == (x : Int)) = false := by simp; omega
          have d2 : ¬ (y : Int) < (x : Int) := by omega
          have d4 : (65 : Int) ≤ (x : Int) := by omega
          have d5 : (x : Int) ≤ 90 := by omega
          have d3 : ((y : Int) == (x : Int) + 32) = false := by simp; omega
          go_wp2
          go_ret
          exact ⟨by rw [hw]; rfl, rfl⟩
        · skip
          have d1 : ((y : Int) == (x : Int)) = false := by simp; omega
          have d2 : ¬ (y : Int) < (x : Int) := by omega
          have d4 : ¬ (65 : Int) ≤ (x : Int) := by omega
          go_wp2
          go_ret
          exact ⟨by rw [hw]; rfl, rfl⟩
      · have h1 : t = n := by omega
        subst h1
        go_wp2
        go_ret
        exact ⟨by rw [hw]; first | rfl | simp, rfl⟩
  · obtain ⟨n, hn⟩ : ∃ n, n = s.size := ⟨_, rfl⟩
    have hn2 : k.size = n := by omega
    have hn1 : s.size = n := hn.symm
    have HS : Hid (s.size = k.size) := hsz
    clear hn hsz
    go_enter Tryd.func70, Tryd.ntmps70
    go_wp2
    go_step3
    go_wp2
    go_loop [5] (fun i => ∃ t : Nat, t ≤ n ∧ i = .int .i64 t ∧ (∀ j, j < t → upB (s.data.getD j 0) = k.data.getD j 0)) (fun i => n - (intOf i).toNat)
    case atStart => exact ⟨0, Nat.zero_le _, rfl, fun j hj => absurd hj (Nat.not_lt_zero _)⟩
    case round =>
      obtain ⟨t, ht, rfl, hall⟩ := hrel
      by_cases hlt : t < n
      · have i1 := byteW s t (by omega) Tryd.prog 9 (by kernel_rfl)
        have i2 := byteW k t (by omega) Tryd.prog 9 (by kernel_rfl)
        have e1 := upB_toNat (s.data.getD t 0)
        have HX : Hid (upB (s.data.getD t 0) = k.data.getD t 0 ↔ upN ((s.data.getD t 0).toNat : Int) = ((k.data.getD t 0).toNat : Int)) := by
          show _ ↔ _
          rw [← e1]
          constructor
          · intro e; rw [e]
          · intro e; exact UInt8.toNat_inj.1 (by omega)
        clear e1
        have u1 := hup t (by omega)
        have l1 := ha t (by omega)
        clear hup ha
        generalize ((s.data.getD t 0).toNat) = x at *
        generalize ((k.data.getD t 0).toNat) = y at *
        have hor := or_low x y (by omega) (by omega)
        obtain ⟨u1, u2⟩ := u1
        have v1 : (65 : Int) ≤ (y : Int) := by omega
        have v2 : (y : Int) ≤ 90 := by omega
        have HQ : Hid (upN (x : Int) = (y : Int) ↔ x = y ∨ x = y + 32) := by
          show _ ↔ _
          unfold upN; split <;> omega
        rcases (show x = y ∨ (y < x ∧ x = y + 32) ∨ (y < x ∧ x ≠ y + 32) ∨ (x < y ∧ 65 ≤ x) ∨ (x < y ∧ x < 65) from by omega) with c | c | c | c | c
        · skip
          subst c
          go_wp2
          refine ⟨⟨t + 1, by omega, by go_num, fun j hj => ?_⟩, by simp [intOf]; omega⟩
          rcases Nat.lt_or_ge j t with e | e
          · exact hall j e
          · obtain rfl : j = t := by omega
            exact HX.out.2 (HQ.out.2 (by first | omega | exact .inr HC.out))
        · skip
          have d1 : ((y : Int) == (x : Int)) = false := by simp; omega
          have d2 : (y : Int) < (x : Int) := by omega
          have d3 : ((x : Int) == (y : Int) + 32) = true := by simp; omega
          have hor2 : ¬ (128 : Int) ≤ bits .or .u8 ((y : Int) + 32) (y : Int) := by simpa using or_low (y + 32) y (by omega) (by omega)
          have HC : Hid (x = y + 32) := c.2
          clear c
          go_wp2
          refine ⟨⟨t + 1, by omega, by go_num, fun j hj => ?_⟩, by simp [intOf]; omega⟩
          rcases Nat.lt_or_ge j t with e | e
          · exact hall j e
          · obtain rfl : j = t := by omega
            exact HX.out.2 (HQ.out.2 (by first | omega | exact .inr HC.out))
        · skip
          have d1 : ((y : Int) == (x : Int)) = false := by simp; omega
          have d2 : (y : Int) < (x : Int) := by omega
          have d3 : ((x : Int) == (y : Int) + 32) = false := by simp; omega
          go_wp2
          go_ret
          exact ⟨by rw [wrB_false HS.out (j := t) (by omega) (fun e => by have := HQ.out.1 (HX.out.1 e); omega)]; rfl, rfl⟩
        · skip
          have d1 : ((y : Int) == (x : Int)) = false := by simp; omega
          have d2 : ¬ (y : Int) < (x : Int) := by omega
          have d4 : (65 : Int) ≤ (x : Int) := by omega
          have d5 : (x : Int) ≤ 90 := by omega
          have d3 : ((y : Int) == (x : Int) + 32) = false := by simp; omega
          go_wp2
          go_ret
          exact ⟨by rw [wrB_false HS.out (j := t) (by omega) (fun e => by have := HQ.out.1 (HX.out.1 e); omega)]; rfl, rfl⟩
        · skip
          have d1 : ((y : Int) == (x : Int)) = false := by simp; omega
          have d2 : ¬ (y : Int) < (x : Int) := by omega
          have d4 : ¬ (65 : Int) ≤ (x : Int) := by omega
          go_wp2
          go_ret
          exact ⟨by rw [wrB_false HS.out (j := t) (by omega) (fun e => by have := HQ.out.1 (HX.out.1 e); omega)]; rfl, rfl⟩
      · obtain rfl : t = n := by omega
        go_wp2
        go_ret
        exact ⟨by rw [wrB_true HS.out (fun j hj => hall j (by omega))]; rfl, rfl⟩
  · have hw := wrB_size (s := s) (k := k) (by omega)
    obtain ⟨n, hn⟩ : ∃ n, k.size = n := ⟨_, rfl⟩
    obtain ⟨m, hm⟩ : ∃ m, s.size = m := ⟨_, rfl⟩
    rw [hn, hm] at hsz
    have q1 : ¬ (m : Int) ≤ (n : Int) := by omega
    have q2 : (n : Int) < (m : Int) := by omega
    have q4 : ¬ (m : Int) < (n : Int) := by omega
    have q3 : ((m : Int) == (n : Int)) = false := by simp; omega
    go_enter Tryd.func70, Tryd.ntmps70
    go_wp2
    go_step3
    go_wp2
    go_loop [5] (fun i => ∃ t : Nat, t ≤ n ∧ i = .int .i64 t) (fun i => n - (intOf i).toNat)
    case atStart => exact ⟨0, Nat.zero_le _, rfl⟩
    case round =>
      obtain ⟨t, ht, rfl⟩ := hrel
      by_cases hlt : t < n
      · have i1 := byteW s t (by omega) Tryd.prog 9 (by kernel_rfl)
        have i2 := byteW k t (by omega) Tryd.prog 9 (by kernel_rfl)
        have u1 := hup t (by omega)
        have l1 := ha t (by omega)
        clear hup ha
        generalize ((s.data.getD t 0).toNat) = x at *
        generalize ((k.data.getD t 0).toNat) = y at *
        have hor := or_low x y (by omega) (by omega)
        obtain ⟨u1, u2⟩ := u1
        have v1 : (65 : Int) ≤ (y : Int) := by omega
        have v2 : (y : Int) ≤ 90 := by omega
        rcases (show x = y ∨ (y < x ∧ x = y + 32) ∨ (y < x ∧ x ≠ y + 32) ∨ (x < y ∧ 65 ≤ x) ∨ (x < y ∧ x < 65) from by omega) with c | c | c | c | c
        · skip
          subst c
          go_wp2
          exact ⟨⟨t + 1, by omega, by go_num⟩, by simp [intOf]; omega⟩
        · skip
          have d1 : ((y : Int) == (x : Int)) = false := by simp; omega
          have d2 : (y : Int) < (x : Int) := by omega
          have d3 : ((x : Int) == (y : Int) + 32) = true := by simp; omega
          have hor2 : ¬ (128 : Int) ≤ bits .or .u8 ((y : Int) + 32) (y : Int) := by simpa using or_low (y + 32) y (by omega) (by omega)
          have HC : Hid (x = y + 32) := c.2
          clear c
          go_wp2
          exact ⟨⟨t + 1, by omega, by go_num⟩, by simp [intOf]; omega⟩
        · skip
          have d1 : ((y : Int) == (x : Int)) = false := by simp; omega
          have d2 : (y : Int) < (x : Int) := by omega
          have d3 : ((x : Int) == (y : Int) + 32) = false := by simp; omega
          go_wp2
          go_ret
          exact ⟨by rw [hw]; rfl, rfl⟩
        · skip
          have d1 : ((y : Int) == (x : Int)) = false := by simp; omega
          have d2 : ¬ (y : Int) < (x : Int) := by omega
          have d4 : (65 : Int) ≤ (x : Int) := by omega
          have d5 : (x : Int) ≤ 90 := by omega
          have d3 : ((y : Int) == (x : Int) + 32) = false := by simp; omega
          go_wp2
          go_ret
          exact ⟨by rw [hw]; rfl, rfl⟩
        · skip
          have d1 : ((y : Int) == (x : Int)) = false := by simp; omega
          have d2 : ¬ (y : Int) < (x : Int) := by omega
          have d4 : ¬ (65 : Int) ≤ (x : Int) := by omega
          go_wp2
          go_ret
          exact ⟨by rw [hw]; rfl, rfl⟩
      · have h1 : t = n := by omega
        subst h1
        go_wp2
        go_ret
        exact ⟨by rw [hw]; first | rfl | simp, rfl⟩

/-- Is it a keyword in letters of any case? -/
def keyB (s : ByteArray) : Bool := (List.range 27).any fun j => wrB s (kw j)
theorem keyB_hit (s : ByteArray) (k : Nat) (hk : k < 27) (h : wrB s (kw k) = true) : keyB s = true := List.any_eq_true.2 ⟨k, List.mem_range.2 hk, h⟩
theorem keyB_none (s : ByteArray) (h : ∀ j, j < 27 → wrB s (kw j) = false) : keyB s = false := by
  unfold keyB
  rw [List.any_eq_false]
  intro j hj
  rw [h j (List.mem_range.1 hj)]
  decide

set_option maxRecDepth 100000 in
set_option maxHeartbeats 1000000 in
theorem isKeyword_any (s : ByteArray) (hs : s.size ≤ 9223372036854775807) (ha : ∀ t, t < s.size → (s.data.getD t 0).toNat < 128) (w : World) (K : KwAt w) :
    Calls Tryd.prog 56 #[.string s] w fun e w' => e = .returned (.bool (keyB s)) ∧ w = w' := by
  have hr := kw_range K
  go_enter Tryd.func56, Tryd.ntmps56
  go_upto_region 2 with (refine wpList_load_mid rfl 94 _ rfl 0 0 rfl _ _ hr Tryd.underlying94 rfl (by kernel_rfl) ?_)
  have hix := kw_ix
  obtain ⟨A, hA⟩ : ∃ A, A = kwcells := ⟨_, rfl⟩
  rw [show (kwl.map fun b => Value.string ⟨b.toArray⟩).toArray = A from hA.symm]
  rw [← hA] at hix
  clear hr hA K
  go_loop [6] (fun i => ∃ k : Nat, k ≤ 27 ∧ i = .int .i64 k ∧ (∀ j, j < k → wrB s (kw j) = false)) (fun i => 27 - (intOf i).toNat)
  case atStart => exact ⟨0, Nat.zero_le _, rfl, fun j hj => absurd hj (Nat.not_lt_zero _)⟩
  case round =>
    obtain ⟨k, hk, rfl, hno⟩ := hrel
    by_cases hlt : k < 27
    · have ix := hix k hlt
      have c := equalFold_any s (kw k) hs (kw_size k hlt) ha (kw_up k hlt)
      clear hix
      cases hv : wrB s (kw k)
      · rw [hv] at c
        go_wp2_with (go_at_call 70; with_reducible refine (c _).mono ?_; rintro e u ⟨rfl, rfl⟩)
        go_round
        case rel => exact ⟨k + 1, by omega, by go_num, more (p := fun j => wrB s (kw j)) hno hv⟩
        case measure => simp [intOf]; omega
      · rw [hv] at c
        go_wp2_with (go_at_call 70; with_reducible refine (c _).mono ?_; rintro e u ⟨rfl, rfl⟩)
        go_ret
        exact ⟨by rw [keyB_hit s k hlt hv]; rfl, rfl⟩
    · obtain rfl : k = 27 := by omega
      go_wp2
      go_ret
      exact ⟨by rw [keyB_none s hno]; rfl, rfl⟩

def at_ (s : ByteArray) (t : Nat) : Int := ((s.data.getD t 0).toNat : Int)
/-- Is it a name? -/
def nameB (s : ByteArray) : Bool := decide (1 ≤ s.size ∧ s.size ≤ 16 ∧ (∀ j, j < s.size → inW (at_ s j) = true) ∧ digB (at_ s 0) = false ∧ keyB s = false)

end Go.Proofs.YtaiebhfggjljiaaDoor.Ev
