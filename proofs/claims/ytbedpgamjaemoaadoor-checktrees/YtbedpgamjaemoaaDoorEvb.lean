/- What event's and the document's IsName come to, of any string: the small ones. -/
import Derived.Test.YtbedpgamjaemoaaDoorEva
import Derived.Laws.RangeAny
namespace Go.Proofs.YtbedpgamjaemoaaDoor.Ev
open Go.RowKit Go.BigFrame
set_option linter.unusedVariables false
set_option linter.unusedSimpArgs false

def letB (n : Int) : Bool := decide (65 ≤ n ∧ n ≤ 90 ∨ 97 ≤ n ∧ n ≤ 122)
def digB (n : Int) : Bool := decide (48 ≤ n ∧ n ≤ 57)
def inW (n : Int) : Bool := letB n || digB n || (n == 95)

set_option maxHeartbeats 1000000 in
theorem isLetter_any (n : Int) (w : World) : Calls Tryd.prog 39 #[.int .i32 n] w fun e w' => e = .returned (.bool (letB n)) ∧ w = w' := by
  obtain ⟨v, hv⟩ : ∃ v, letB n = v := ⟨_, rfl⟩
  rw [hv]
  have HV : Hid (letB n = v) := hv
  clear hv
  by_cases a : 65 ≤ n <;> by_cases b : n ≤ 90 <;> by_cases c : 97 ≤ n <;> by_cases d : n ≤ 122
  all_goals
    go_enter Tryd.func39, Tryd.ntmps39
    go_wp2
    go_ret
    refine ⟨congrArg (fun b => Ending.returned (Value.bool b)) (Eq.trans ?_ HV.out), rfl⟩
    first | exact (decide_eq_true (by omega)).symm | exact (decide_eq_false (by omega)).symm
set_option maxHeartbeats 1000000 in
theorem refLetter_any (n : Int) (w : World) : Calls Tryd.prog 46 #[.int .u8 n] w fun e w' => e = .returned (.bool (letB n)) ∧ w = w' := by
  obtain ⟨v, hv⟩ : ∃ v, letB n = v := ⟨_, rfl⟩
  rw [hv]
  have HV : Hid (letB n = v) := hv
  clear hv
  by_cases a : 65 ≤ n <;> by_cases b : n ≤ 90 <;> by_cases c : 97 ≤ n <;> by_cases d : n ≤ 122
  all_goals
    go_enter Tryd.func46, Tryd.ntmps46
    go_wp2
    go_ret
    refine ⟨congrArg (fun b => Ending.returned (Value.bool b)) (Eq.trans ?_ HV.out), rfl⟩
    first | exact (decide_eq_true (by omega)).symm | exact (decide_eq_false (by omega)).symm
set_option maxHeartbeats 400000 in
theorem isDigit_any (n : Int) (w : World) : Calls Tryd.prog 36 #[.int .i32 n] w fun e w' => e = .returned (.bool (digB n)) ∧ w = w' := by
  obtain ⟨v, hv⟩ : ∃ v, digB n = v := ⟨_, rfl⟩
  rw [hv]
  have HV : Hid (digB n = v) := hv
  clear hv
  by_cases a : 48 ≤ n <;> by_cases b : n ≤ 57
  all_goals
    go_enter Tryd.func36, Tryd.ntmps36
    go_wp2
    go_ret
    refine ⟨congrArg (fun b => Ending.returned (Value.bool b)) (Eq.trans ?_ HV.out), rfl⟩
    first | exact (decide_eq_true (by omega)).symm | exact (decide_eq_false (by omega)).symm
set_option maxHeartbeats 400000 in
theorem refDigit_any (n : Int) (w : World) : Calls Tryd.prog 42 #[.int .u8 n] w fun e w' => e = .returned (.bool (digB n)) ∧ w = w' := by
  obtain ⟨v, hv⟩ : ∃ v, digB n = v := ⟨_, rfl⟩
  rw [hv]
  have HV : Hid (digB n = v) := hv
  clear hv
  by_cases a : 48 ≤ n <;> by_cases b : n ≤ 57
  all_goals
    go_enter Tryd.func42, Tryd.ntmps42
    go_wp2
    go_ret
    refine ⟨congrArg (fun b => Ending.returned (Value.bool b)) (Eq.trans ?_ HV.out), rfl⟩
    first | exact (decide_eq_true (by omega)).symm | exact (decide_eq_false (by omega)).symm
set_option maxHeartbeats 1000000 in
theorem inWord_any (n : Int) (w : World) : Calls Tryd.prog 35 #[.int .i32 n] w fun e w' => e = .returned (.bool (inW n)) ∧ w = w' := by
  have c1 := isLetter_any n
  have c2 := isDigit_any n
  obtain ⟨v, hv⟩ : ∃ v, inW n = v := ⟨_, rfl⟩
  rw [hv]
  have HV : Hid (inW n = v) := hv
  clear hv
  cases hl : letB n <;> cases hd : digB n <;> cases h2 : (n == 95)
  all_goals
    rw [hl] at c1
    rw [hd] at c2
    go_enter Tryd.func35, Tryd.ntmps35
    go_wp2_with (first
      | (go_at_call 39; with_reducible refine (c1 _).mono ?_; rintro e u ⟨rfl, rfl⟩)
      | (go_at_call 36; with_reducible refine (c2 _).mono ?_; rintro e u ⟨rfl, rfl⟩))
    go_ret
    refine ⟨congrArg (fun b => Ending.returned (Value.bool b)) (Eq.trans ?_ HV.out), rfl⟩
    unfold inW
    rw [hl, hd, h2]
    rfl
set_option maxHeartbeats 1000000 in
theorem refInWord_any (n : Int) (w : World) : Calls Tryd.prog 41 #[.int .u8 n] w fun e w' => e = .returned (.bool (inW n)) ∧ w = w' := by
  have c1 := refLetter_any n
  have c2 := refDigit_any n
  obtain ⟨v, hv⟩ : ∃ v, inW n = v := ⟨_, rfl⟩
  rw [hv]
  have HV : Hid (inW n = v) := hv
  clear hv
  cases hl : letB n <;> cases hd : digB n <;> cases h2 : (n == 95)
  all_goals
    rw [hl] at c1
    rw [hd] at c2
    go_enter Tryd.func41, Tryd.ntmps41
    go_wp2_with (first
      | (go_at_call 46; with_reducible refine (c1 _).mono ?_; rintro e u ⟨rfl, rfl⟩)
      | (go_at_call 42; with_reducible refine (c2 _).mono ?_; rintro e u ⟨rfl, rfl⟩))
    go_ret
    refine ⟨congrArg (fun b => Ending.returned (Value.bool b)) (Eq.trans ?_ HV.out), rfl⟩
    unfold inW
    rw [hl, hd, h2]
    rfl

set_option maxHeartbeats 1000000 in
theorem alike_any (s k : ByteArray) (hs : s.size ≤ 9223372036854775807) (hk2 : k.size ≤ 9223372036854775807) (hup : ∀ t, t < k.size → 65 ≤ (k.data.getD t 0).toNat ∧ (k.data.getD t 0).toNat ≤ 90) (w : World) :
    Calls Tryd.prog 43 #[.string s, .string k] w fun e w' => e = .returned (.bool (wrB s k)) ∧ w = w' := by
  by_cases hsz : s.size = k.size
  · go_enter Tryd.func43, Tryd.ntmps43
    obtain ⟨n, hn⟩ : ∃ n, n = s.size := ⟨_, rfl⟩
    have hn2 : k.size = n := by omega
    have hn1 : s.size = n := hn.symm
    have HS : Hid (s.size = k.size) := hsz
    clear hn hsz
    go_wp2
    go_loop [5] (fun i => ∃ t : Nat, t ≤ n ∧ i = .int .i64 t ∧ (∀ j, j < t → upB (s.data.getD j 0) = k.data.getD j 0)) (fun i => n - (intOf i).toNat)
    case atStart => exact ⟨0, Nat.zero_le _, rfl, fun j hj => absurd hj (Nat.not_lt_zero _)⟩
    case round =>
      obtain ⟨t, ht, rfl, hall⟩ := hrel
      by_cases hlt : t < n
      · have i1 := byteW s t (by omega) Tryd.prog 9 (by kernel_rfl)
        have i2 := byteW k t (by omega) Tryd.prog 9 (by kernel_rfl)
        have e1 := upB_toNat (s.data.getD t 0)
        have l1 := (s.data.getD t 0).toNat_lt
        have HX : Hid (upB (s.data.getD t 0) = k.data.getD t 0 ↔ upN ((s.data.getD t 0).toNat : Int) = ((k.data.getD t 0).toNat : Int)) := by
          show _ ↔ _
          rw [← e1]
          constructor
          · intro e; rw [e]
          · intro e; exact UInt8.toNat_inj.1 (by omega)
        have u1 := hup t (by omega)
        generalize ((s.data.getD t 0).toNat) = x at *
        generalize ((k.data.getD t 0).toNat) = y at *
        clear e1
        have cy : ∀ w, Calls Tryd.prog 46 #[.int .u8 (y : Int)] w fun e w' => e = .returned (.bool true) ∧ w = w' := fun w => by
          have := refLetter_any (y : Int) w
          rwa [show letB (y : Int) = true from decide_eq_true (by omega)] at this
        cases hl : letB (x : Int)
        · have cx : ∀ w, Calls Tryd.prog 46 #[.int .u8 (x : Int)] w fun e w' => e = .returned (.bool false) ∧ w = w' := fun w => by
            have := refLetter_any (x : Int) w
            rwa [hl] at this
          have hl' : ¬ _ := of_decide_eq_false hl
          have hne : ((x : Int) == (y : Int)) = false := by simp; omega
          have hu : upN (x : Int) ≠ (y : Int) := by unfold upN; split <;> omega
          have HU : Hid (upN (x : Int) ≠ (y : Int)) := hu
          clear hl hl' hu
          go_wp2_with (go_at_call 46; with_reducible refine (cx _).mono ?_; rintro e u ⟨rfl, rfl⟩)
          go_ret
          exact ⟨by rw [wrB_false HS.out (j := t) (by omega) (fun e => HU.out (HX.out.1 e))]; rfl, rfl⟩
        · have cx : ∀ w, Calls Tryd.prog 46 #[.int .u8 (x : Int)] w fun e w' => e = .returned (.bool true) ∧ w = w' := fun w => by
            have := refLetter_any (x : Int) w
            rwa [hl] at this
          have hl' := of_decide_eq_true hl
          have hq : upN (x : Int) = (y : Int) ↔ (x : Int) % 32 = (y : Int) % 32 := by unfold upN; split <;> omega
          have HQ : Hid (upN (x : Int) = (y : Int) ↔ (x : Int) % 32 = (y : Int) % 32) := hq
          have HP : Hid (0 ≤ (x : Int) ∧ 0 ≤ (y : Int)) := ⟨by omega, by omega⟩
          clear hl hl' hq
          by_cases hm : (x : Int) % 32 = (y : Int) % 32
          · go_wp2_with (go_at_call 46; with_reducible (first | refine (cx _).mono ?_ | refine (cy _).mono ?_); rintro e u ⟨rfl, rfl⟩)
            go_round
            case rel => exact ⟨t + 1, by omega, by go_num, fun j hj => by
              rcases Nat.lt_or_ge j t with e | e
              · exact hall j e
              · obtain rfl : j = t := by omega
                exact HX.out.2 (HQ.out.2 hm)⟩
            case measure => simp [intOf]; omega
          · go_wp2_with (go_at_call 46; with_reducible (first | refine (cx _).mono ?_ | refine (cy _).mono ?_); rintro e u ⟨rfl, rfl⟩)
            go_ret
            exact ⟨by rw [wrB_false HS.out (j := t) (by omega) (fun e => hm (HQ.out.1 (HX.out.1 e)))]; rfl, rfl⟩
      · obtain rfl : t = n := by omega
        go_wp2
        go_ret
        exact ⟨by rw [wrB_true HS.out (fun j hj => hall j (by omega))]; rfl, rfl⟩
  · rw [wrB_size hsz]
    have hne : ((s.size : Int) == (k.size : Int)) = false := by simp; omega
    go_enter Tryd.func43, Tryd.ntmps43
    go_wp2
    all_goals (go_ret; exact ⟨rfl, rfl⟩)

end Go.Proofs.YtbedpgamjaemoaaDoor.Ev
