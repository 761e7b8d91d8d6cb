/- A string in capitals; the keywords, held against it. -/
import Derived.Test.YtlejhococjlijaaGreatDoorKw
import Derived.Test.YtlejhococjlijaaGreatDoorWb
import Derived.Deep.MidRow
import Derived.Laws.IdiomStrings
import Derived.Laws.RangeAny
import Derived.Laws.BitsAllLaws
namespace Go.Proofs.YtlejhococjlijaaGreatDoor
open Go.RowKit Go.BigFrame
set_option linter.unusedVariables false
set_option linter.unusedSimpArgs false

def upN (n : Int) : Int := if 97 ≤ n ∧ n ≤ 122 then n - 32 else n
def upB (b : UInt8) : UInt8 := if 97 ≤ b.toNat ∧ b.toNat ≤ 122 then b - 32 else b
theorem upB_toNat (b : UInt8) : ((upB b).toNat : Int) = upN (b.toNat : Int) := by
  unfold upB upN
  by_cases h : 97 ≤ b.toNat ∧ b.toNat ≤ 122
  · rw [if_pos h, if_pos (by omega)]
    have h32 : (32 : UInt8).toNat = 32 := rfl
    rw [UInt8.toNat_sub_of_le b 32 (by rw [UInt8.le_iff_toNat_le, h32]; omega), h32]
    omega
  · rw [if_neg h, if_neg (by omega)]
def upS (s : ByteArray) : ByteArray := ⟨s.data.map upB⟩
theorem upS_size (s : ByteArray) : (upS s).size = s.size := by show (s.data.map upB).size = s.data.size; simp

theorem byteW (s : ByteArray) (t : Nat) (h : t < s.size) (P : Program) (T : TypeId) (hT : P.underlying T = some .string) (w : World) : (Instr.index T (.string s) (.int .i64 (t : Int))).run P w = .ok (.int .u8 ((s.data.getD t 0).toNat : Int)) w := by
  rw [run_index_string w T s .i64 t hT, dif_pos ⟨by omega, by omega⟩]
  simp [ByteArray.getElem_eq_getElem_data, Array.getD, h]

def wrB (s k : ByteArray) : Bool := (upS s).toList == k.toList
theorem wrB_true {s k : ByteArray} (hs : s.size = k.size) (h : ∀ j, j < s.size → upB (s.data.getD j 0) = k.data.getD j 0) : wrB s k = true := by
  unfold wrB
  rw [ByteArray.toList_eq, ByteArray.toList_eq, beq_iff_eq, Array.toList_inj]
  have hs' : s.data.size = k.data.size := hs
  refine Array.ext (by simp [upS, hs']) fun j h1 h2 => ?_
  have hk : j < k.size := h2
  have := h j (by omega)
  have hj : j < s.size := by omega
  simpa [upS, Array.getD, hk, hj] using this
theorem wrB_size {s k : ByteArray} (hs : s.size ≠ k.size) : wrB s k = false := by
  unfold wrB
  rw [ByteArray.toList_eq, ByteArray.toList_eq, beq_eq_false_iff_ne]
  intro e
  have := congrArg List.length e
  simp [upS] at this
  exact hs this
theorem wrB_false {s k : ByteArray} (hs : s.size = k.size) {j : Nat} (hj : j < s.size) (h : upB (s.data.getD j 0) ≠ k.data.getD j 0) : wrB s k = false := by
  unfold wrB
  rw [ByteArray.toList_eq, ByteArray.toList_eq, beq_eq_false_iff_ne]
  intro e
  refine h ?_
  have hs' : s.data.size = k.data.size := hs
  have hk : j < k.size := by omega
  have h1 : s.data[j]? = some (s.data[j]'hj) := Array.getElem?_eq_getElem _
  have h2 : k.data[j]? = some (k.data[j]'hk) := Array.getElem?_eq_getElem _
  have := congrArg (fun l => l[j]?) e
  simpa [upS, Array.getD, hk, hj, h1, h2] using this

theorem more {p : Nat → Bool} {k : Nat} (h : ∀ j, j < k → p j = false) (hk : p k = false) : ∀ j, j < k + 1 → p j = false := by
  intro j hj
  rcases Nat.lt_or_ge j k with h1 | h1
  · exact h j h1
  · obtain rfl : j = k := by omega
    exact hk
theorem kw_size (j : Nat) (h : j < 27) : (kw j).size ≤ 9223372036854775807 := by
  rcases (show j = 0 ∨ j = 1 ∨ j = 2 ∨ j = 3 ∨ j = 4 ∨ j = 5 ∨ j = 6 ∨ j = 7 ∨ j = 8 ∨ j = 9 ∨ j = 10 ∨ j = 11 ∨ j = 12 ∨ j = 13 ∨ j = 14 ∨ j = 15 ∨ j = 16 ∨ j = 17 ∨ j = 18 ∨ j = 19 ∨ j = 20 ∨ j = 21 ∨ j = 22 ∨ j = 23 ∨ j = 24 ∨ j = 25 ∨ j = 26 from by omega) with rfl | rfl | rfl | rfl | rfl | rfl | rfl | rfl | rfl | rfl | rfl | rfl | rfl | rfl | rfl | rfl | rfl | rfl | rfl | rfl | rfl | rfl | rfl | rfl | rfl | rfl | rfl <;> decide
theorem kw_ix (j : Nat) (h : j < 27) : ∀ w, (Instr.index 109 (.agg kwcells) (.int .i64 (j : Int))).run Tryz.prog w = .ok (.string (kw j)) w := by
  rcases (show j = 0 ∨ j = 1 ∨ j = 2 ∨ j = 3 ∨ j = 4 ∨ j = 5 ∨ j = 6 ∨ j = 7 ∨ j = 8 ∨ j = 9 ∨ j = 10 ∨ j = 11 ∨ j = 12 ∨ j = 13 ∨ j = 14 ∨ j = 15 ∨ j = 16 ∨ j = 17 ∨ j = 18 ∨ j = 19 ∨ j = 20 ∨ j = 21 ∨ j = 22 ∨ j = 23 ∨ j = 24 ∨ j = 25 ∨ j = 26 from by omega) with rfl | rfl | rfl | rfl | rfl | rfl | rfl | rfl | rfl | rfl | rfl | rfl | rfl | rfl | rfl | rfl | rfl | rfl | rfl | rfl | rfl | rfl | rfl | rfl | rfl | rfl | rfl
  all_goals (intro w; kernel_rfl)
theorem kw_range {w : World} (K : KwAt w) : w.rangeAt 0 0 (kwl.map fun b => Value.string ⟨b.toArray⟩) := by
  intro j v hj
  have hl : j < 27 := by have := (List.getElem?_eq_some_iff.1 hj).1; simpa [kwl] using this
  rw [Nat.zero_add, K.2 j hl]
  simp only [List.getElem?_map, Option.map_eq_some_iff] at hj
  obtain ⟨b, hb, rfl⟩ := hj
  simp [kw, List.getD, hb]

theorem kw_up (j : Nat) (h : j < 27) : ∀ t, t < (kw j).size → 65 ≤ ((kw j).data.getD t 0).toNat ∧ ((kw j).data.getD t 0).toNat ≤ 90 := by
  rcases (show j = 0 ∨ j = 1 ∨ j = 2 ∨ j = 3 ∨ j = 4 ∨ j = 5 ∨ j = 6 ∨ j = 7 ∨ j = 8 ∨ j = 9 ∨ j = 10 ∨ j = 11 ∨ j = 12 ∨ j = 13 ∨ j = 14 ∨ j = 15 ∨ j = 16 ∨ j = 17 ∨ j = 18 ∨ j = 19 ∨ j = 20 ∨ j = 21 ∨ j = 22 ∨ j = 23 ∨ j = 24 ∨ j = 25 ∨ j = 26 from by omega) with rfl | rfl | rfl | rfl | rfl | rfl | rfl | rfl | rfl | rfl | rfl | rfl | rfl | rfl | rfl | rfl | rfl | rfl | rfl | rfl | rfl | rfl | rfl | rfl | rfl | rfl | rfl <;> decide

end Go.Proofs.YtlejhococjlijaaGreatDoor
namespace Go.Proofs.YtlejhococjlijaaGreatDoor
open Go.RowKit Go.BigFrame
set_option linter.unusedVariables false
set_option linter.unusedSimpArgs false

def letB (n : Int) : Bool := decide (65 ≤ n ∧ n ≤ 90 ∨ 97 ≤ n ∧ n ≤ 122)
def digB (n : Int) : Bool := decide (48 ≤ n ∧ n ≤ 57)
def inW (n : Int) : Bool := letB n || digB n || (n == 95)

set_option maxHeartbeats 1000000 in
theorem isLetter_any (n : Int) (w : World) : Calls Tryz.prog 88 #[.int .i32 n] w fun e w' => e = .returned (.bool (letB n)) ∧ w = w' := by
  obtain ⟨v, hv⟩ : ∃ v, letB n = v := ⟨_, rfl⟩
  rw [hv]
  have HV : Hid (letB n = v) := hv
  clear hv
  by_cases a : 65 ≤ n <;> by_cases b : n ≤ 90 <;> by_cases c : 97 ≤ n <;> by_cases d : n ≤ 122
  all_goals
    go_enter Tryz.func88, Tryz.ntmps88
    go_wp2
    go_ret
    refine ⟨congrArg (fun b => Ending.returned (Value.bool b)) (Eq.trans ?_ HV.out), rfl⟩
    first | exact (decide_eq_true (by omega)).symm | exact (decide_eq_false (by omega)).symm
set_option maxHeartbeats 1000000 in
theorem refLetter_any (n : Int) (w : World) : Calls Tryz.prog 95 #[.int .u8 n] w fun e w' => e = .returned (.bool (letB n)) ∧ w = w' := by
  obtain ⟨v, hv⟩ : ∃ v, letB n = v := ⟨_, rfl⟩
  rw [hv]
  have HV : Hid (letB n = v) := hv
  clear hv
  by_cases a : 65 ≤ n <;> by_cases b : n ≤ 90 <;> by_cases c : 97 ≤ n <;> by_cases d : n ≤ 122
  all_goals
    go_enter Tryz.func95, Tryz.ntmps95
    go_wp2
    go_ret
    refine ⟨congrArg (fun b => Ending.returned (Value.bool b)) (Eq.trans ?_ HV.out), rfl⟩
    first | exact (decide_eq_true (by omega)).symm | exact (decide_eq_false (by omega)).symm
set_option maxHeartbeats 400000 in
theorem isDigit_any (n : Int) (w : World) : Calls Tryz.prog 71 #[.int .i32 n] w fun e w' => e = .returned (.bool (digB n)) ∧ w = w' := by
  obtain ⟨v, hv⟩ : ∃ v, digB n = v := ⟨_, rfl⟩
  rw [hv]
  have HV : Hid (digB n = v) := hv
  clear hv
  by_cases a : 48 ≤ n <;> by_cases b : n ≤ 57
  all_goals
    go_enter Tryz.func71, Tryz.ntmps71
    go_wp2
    go_ret
    refine ⟨congrArg (fun b => Ending.returned (Value.bool b)) (Eq.trans ?_ HV.out), rfl⟩
    first | exact (decide_eq_true (by omega)).symm | exact (decide_eq_false (by omega)).symm
set_option maxHeartbeats 400000 in
theorem refDigit_any (n : Int) (w : World) : Calls Tryz.prog 86 #[.int .u8 n] w fun e w' => e = .returned (.bool (digB n)) ∧ w = w' := by
  obtain ⟨v, hv⟩ : ∃ v, digB n = v := ⟨_, rfl⟩
  rw [hv]
  have HV : Hid (digB n = v) := hv
  clear hv
  by_cases a : 48 ≤ n <;> by_cases b : n ≤ 57
  all_goals
    go_enter Tryz.func86, Tryz.ntmps86
    go_wp2
    go_ret
    refine ⟨congrArg (fun b => Ending.returned (Value.bool b)) (Eq.trans ?_ HV.out), rfl⟩
    first | exact (decide_eq_true (by omega)).symm | exact (decide_eq_false (by omega)).symm
set_option maxHeartbeats 1000000 in
theorem inWord_any (n : Int) (w : World) : Calls Tryz.prog 70 #[.int .i32 n] w fun e w' => e = .returned (.bool (inW n)) ∧ w = w' := by
  have c1 := isLetter_any n
  have c2 := isDigit_any n
  obtain ⟨v, hv⟩ : ∃ v, inW n = v := ⟨_, rfl⟩
  rw [hv]
  have HV : Hid (inW n = v) := hv
  clear hv
  cases hl : letB n <;> cases hd : digB n <;> cases h2 : (n == 95)
  all_goals
    rw [hl] at c1
    rw [hd] at c2
    go_enter Tryz.func70, Tryz.ntmps70
    go_wp2_with (first
      | (go_at_call 88; with_reducible refine (c1 _).mono ?_; rintro e u ⟨rfl, rfl⟩)
      | (go_at_call 71; with_reducible refine (c2 _).mono ?_; rintro e u ⟨rfl, rfl⟩))
    go_ret
    refine ⟨congrArg (fun b => Ending.returned (Value.bool b)) (Eq.trans ?_ HV.out), rfl⟩
    unfold inW
    rw [hl, hd, h2]
    rfl
set_option maxHeartbeats 1000000 in
theorem refInWord_any (n : Int) (w : World) : Calls Tryz.prog 85 #[.int .u8 n] w fun e w' => e = .returned (.bool (inW n)) ∧ w = w' := by
  have c1 := refLetter_any n
  have c2 := refDigit_any n
  obtain ⟨v, hv⟩ : ∃ v, inW n = v := ⟨_, rfl⟩
  rw [hv]
  have HV : Hid (inW n = v) := hv
  clear hv
  cases hl : letB n <;> cases hd : digB n <;> cases h2 : (n == 95)
  all_goals
    rw [hl] at c1
    rw [hd] at c2
    go_enter Tryz.func85, Tryz.ntmps85
    go_wp2_with (first
      | (go_at_call 95; with_reducible refine (c1 _).mono ?_; rintro e u ⟨rfl, rfl⟩)
      | (go_at_call 86; with_reducible refine (c2 _).mono ?_; rintro e u ⟨rfl, rfl⟩))
    go_ret
    refine ⟨congrArg (fun b => Ending.returned (Value.bool b)) (Eq.trans ?_ HV.out), rfl⟩
    unfold inW
    rw [hl, hd, h2]
    rfl

set_option maxHeartbeats 1000000 in
theorem alike_any (s k : ByteArray) (hs : s.size ≤ 9223372036854775807) (hk2 : k.size ≤ 9223372036854775807) (hup : ∀ t, t < k.size → 65 ≤ (k.data.getD t 0).toNat ∧ (k.data.getD t 0).toNat ≤ 90) (w : World) :
    Calls Tryz.prog 87 #[.string s, .string k] w fun e w' => e = .returned (.bool (wrB s k)) ∧ w = w' := by
  by_cases hsz : s.size = k.size
  · go_enter Tryz.func87, Tryz.ntmps87
    obtain ⟨n, hn⟩ : ∃ n, n = s.size := ⟨_, rfl⟩
    have hn2 : k.size = n := by omega
    have hn1 : s.size = n := hn.symm
    have HS : Hid (s.size = k.size) := hsz
    clear hn hsz
    go_wp2
    go_loop [5] (fun i => ∃ t : Nat, t ≤ n ∧ i = .int .i64 t ∧ (∀ j, j < t → upB (s.data.getD j 0) = k.data.getD j 0)) (fun i => n - (intOf i).toNat)
    case atStart => exact ⟨0, Nat.zero_le _, rfl, fun j hj => absurd hj (Nat.not_lt_zero _)⟩
    case round =>
      obtain ⟨t, ht, rfl, hall⟩ := hrel
      by_cases hlt : t < n
      · have i1 := byteW s t (by omega) Tryz.prog 9 (by kernel_rfl)
        have i2 := byteW k t (by omega) Tryz.prog 9 (by kernel_rfl)
        have e1 := upB_toNat (s.data.getD t 0)
        have l1 := (s.data.getD t 0).toNat_lt
        have HX : Hid (upB (s.data.getD t 0) = k.data.getD t 0 ↔ upN ((s.data.getD t 0).toNat : Int) = ((k.data.getD t 0).toNat : Int)) := by
          show _ ↔ _
          rw [← e1]
          constructor
          · intro e; rw [e]
          · intro e; exact UInt8.toNat_inj.1 (by omega)
        have u1 := hup t (by omega)
        generalize ((s.data.getD t 0).toNat) = x at *
        generalize ((k.data.getD t 0).toNat) = y at *
        clear e1
        have cy : ∀ w, Calls Tryz.prog 95 #[.int .u8 (y : Int)] w fun e w' => e = .returned (.bool true) ∧ w = w' := fun w => by
          have := refLetter_any (y : Int) w
          rwa [show letB (y : Int) = true from decide_eq_true (by omega)] at this
        cases hl : letB (x : Int)
        · have cx : ∀ w, Calls Tryz.prog 95 #[.int .u8 (x : Int)] w fun e w' => e = .returned (.bool false) ∧ w = w' := fun w => by
            have := refLetter_any (x : Int) w
            rwa [hl] at this
          have hl' : ¬ _ := of_decide_eq_false hl
          have hne : ((x : Int) == (y : Int)) = false := by simp; omega
          have hu : upN (x : Int) ≠ (y : Int) := by unfold upN; split <;> omega
          have HU : Hid (upN (x : Int) ≠ (y : Int)) := hu
          clear hl hl' hu
          go_wp2_with (go_at_call 95; with_reducible refine (cx _).mono ?_; rintro e u ⟨rfl, rfl⟩)
          go_ret
          exact ⟨by rw [wrB_false HS.out (j := t) (by omega) (fun e => HU.out (HX.out.1 e))]; rfl, rfl⟩
        · have cx : ∀ w, Calls Tryz.prog 95 #[.int .u8 (x : Int)] w fun e w' => e = .returned (.bool true) ∧ w = w' := fun w => by
            have := refLetter_any (x : Int) w
            rwa [hl] at this
          have hl' := of_decide_eq_true hl
          have hq : upN (x : Int) = (y : Int) ↔ (x : Int) % 32 = (y : Int) % 32 := by unfold upN; split <;> omega
          have HQ : Hid (upN (x : Int) = (y : Int) ↔ (x : Int) % 32 = (y : Int) % 32) := hq
          have HP : Hid (0 ≤ (x : Int) ∧ 0 ≤ (y : Int)) := ⟨by omega, by omega⟩
          clear hl hl' hq
          by_cases hm : (x : Int) % 32 = (y : Int) % 32
          · go_wp2_with (go_at_call 95; with_reducible (first | refine (cx _).mono ?_ | refine (cy _).mono ?_); rintro e u ⟨rfl, rfl⟩)
            go_round
            case rel => exact ⟨t + 1, by omega, by go_num, fun j hj => by
              rcases Nat.lt_or_ge j t with e | e
              · exact hall j e
              · obtain rfl : j = t := by omega
                exact HX.out.2 (HQ.out.2 hm)⟩
            case measure => simp [intOf]; omega
          · go_wp2_with (go_at_call 95; with_reducible (first | refine (cx _).mono ?_ | refine (cy _).mono ?_); rintro e u ⟨rfl, rfl⟩)
            go_ret
            exact ⟨by rw [wrB_false HS.out (j := t) (by omega) (fun e => hm (HQ.out.1 (HX.out.1 e)))]; rfl, rfl⟩
      · obtain rfl : t = n := by omega
        go_wp2
        go_ret
        exact ⟨by rw [wrB_true HS.out (fun j hj => hall j (by omega))]; rfl, rfl⟩
  · rw [wrB_size hsz]
    have hne : ((s.size : Int) == (k.size : Int)) = false := by simp; omega
    go_enter Tryz.func87, Tryz.ntmps87
    go_wp2
    all_goals (go_ret; exact ⟨rfl, rfl⟩)

end Go.Proofs.YtlejhococjlijaaGreatDoor
namespace Go.Proofs.YtlejhococjlijaaGreatDoor
open Go.RowKit Go.BigFrame
set_option linter.unusedVariables false
set_option linter.unusedSimpArgs false

theorem or_low (x y : Nat) (hx : x < 128) (hy : y < 128) : ¬ (128 : Int) ≤ bits .or .u8 (x : Int) (y : Int) := by
  rw [u8_or_nat x y (by omega) (by omega)]
  have := Nat.or_lt_two_pow (n := 7) hx hy
  omega

set_option maxRecDepth 100000 in
set_option maxHeartbeats 2000000 in
theorem equalFold_any (s k : ByteArray) (hs : s.size ≤ 9223372036854775807) (hk2 : k.size ≤ 9223372036854775807) (ha : ∀ t, t < s.size → (s.data.getD t 0).toNat < 128) (hup : ∀ t, t < k.size → 65 ≤ (k.data.getD t 0).toNat ∧ (k.data.getD t 0).toNat ≤ 90) (w : World) :
    Calls Tryz.prog 89 #[.string s, .string k] w fun e w' => e = .returned (.bool (wrB s k)) ∧ w = w' := by
  rcases Nat.lt_trichotomy s.size k.size with hsz | hsz | hsz
  · have hw := wrB_size (s := s) (k := k) (by omega)
    obtain ⟨n, hn⟩ : ∃ n, s.size = n := ⟨_, rfl⟩
    obtain ⟨m, hm⟩ : ∃ m, k.size = m := ⟨_, rfl⟩
    rw [hn, hm] at hsz
    have q1 : (n : Int) ≤ (m : Int) := by omega
    have q2 : (n : Int) < (m : Int) := by omega
    have q3 : ((n : Int) == (m : Int)) = false := by simp; omega
    go_enter Tryz.func89, Tryz.ntmps89
    go_wp2
    go_step3
    go_wp2
    go_loop [5] (fun i => ∃ t : Nat, t ≤ n ∧ i = .int .i64 t) (fun i => n - (intOf i).toNat)
    case atStart => exact ⟨0, Nat.zero_le _, rfl⟩
    case round =>
      obtain ⟨t, ht, rfl⟩ := hrel
      by_cases hlt : t < n
      · have i1 := byteW s t (by omega) Tryz.prog 9 (by kernel_rfl)
        have i2 := byteW k t (by omega) Tryz.prog 9 (by kernel_rfl)
        have u1 := hup t (by omega)
        have l1 := ha t (by omega)
        clear hup ha
        generalize ((s.data.getD t 0).toNat) = x at *
        generalize ((k.data.getD t 0).toNat) = y at *
        have hor := or_low x y (by omega) (by omega)
        obtain ⟨u1, u2⟩ := u1
        have v1 : (65 : Int) ≤ (y : Int) := by omega
        have v2 : (y : Int) ≤ 90 := by omega
        rcases (show x = y ∨ (y < x ∧ x = y + 32) ∨ (y < x ∧ x ≠ y + 32) ∨ (x < y ∧ 65 ≤ x) ∨ (x < y ∧ x < 65) from by omega) with c | c | c | c | c
        · skip
          subst c
          go_wp2
          exact ⟨⟨t + 1, by omega, by go_num⟩, by simp [intOf]; omega⟩
        · skip
          have d1 : ((y : Int) == (x : Int)) = false := by simp; omega
          have d2 : (y : Int) < (x : Int) := by omega
          have d3 : ((x : Int) == (y : Int) + 32) = true := by simp; omega
          have hor2 : ¬ (128 : Int) ≤ bits .or .u8 ((y : Int) + 32) (y : Int) := by simpa using or_low (y + 32) y (by omega) (by omega)
          have HC : Hid (x = y + 32) := c.2
          clear c
          go_wp2
          exact ⟨⟨t + 1, by omega, by go_num⟩, by simp [intOf]; omega⟩
        · skip
          have d1 : ((y : Int) == (x : Int)) = false := by simp; omega
          have d2 : (y : Int) < (x : Int) := by omega
          have d3 : ((x : Int) == (y : Int) + 32) = false := by simp; omega
          go_wp2
          go_ret
          exact ⟨by rw [hw]; rfl, rfl⟩
        · skip
          have d1 : ((y : Int) == (x : Int)) = false := by simp; omega
          have d2 : ¬ (y : Int) < (x : Int) := by omega
          have d4 : (65 : Int) ≤ (x : Int) := by omega
          have d5 : (x : Int) ≤ 90 := by omega
          have d3 : ((y : Int) == (x : Int) + 32) = false := by simp; omega
          go_wp2
          go_ret
          exact ⟨by rw [hw]; rfl, rfl⟩
        · skip
          have d1 : ((y : Int) == (x : Int)) = false := by simp; omega
          have d2 : ¬ (y : Int) < (x : Int) := by omega
          have d4 : ¬ (65 : Int) ≤ (x : Int) := by omega
          go_wp2
          go_ret
          exact ⟨by rw [hw]; rfl, rfl⟩
      · have h1 : t = n := by omega
        subst h1
        go_wp2
        go_ret
        exact ⟨by rw [hw]; first | rfl | simp, rfl⟩
  · obtain ⟨n, hn⟩ : ∃ n, n = s.size := ⟨_, rfl⟩
    have hn2 : k.size = n := by omega
    have hn1 : s.size = n := hn.symm
    have HS : Hid (s.size = k.size) := hsz
    clear hn hsz
    go_enter Tryz.func89, Tryz.ntmps89
    go_wp2
    go_step3
    go_wp2
    go_loop [5] (fun i => ∃ t : Nat, t ≤ n ∧ i = .int .i64 t ∧ (∀ j, j < t → upB (s.data.getD j 0) = k.data.getD j 0)) (fun i => n - (intOf i).toNat)
    case atStart => exact ⟨0, Nat.zero_le _, rfl, fun j hj => absurd hj (Nat.not_lt_zero _)⟩
    case round =>
      obtain ⟨t, ht, rfl, hall⟩ := hrel
      by_cases hlt : t < n
      · have i1 := byteW s t (by omega) Tryz.prog 9 (by kernel_rfl)
        have i2 := byteW k t (by omega) Tryz.prog 9 (by kernel_rfl)
        have e1 := upB_toNat (s.data.getD t 0)
        have HX : Hid (upB (s.data.getD t 0) = k.data.getD t 0 ↔ upN ((s.data.getD t 0).toNat : Int) = ((k.data.getD t 0).toNat : Int)) := by
          show _ ↔ _
          rw [← e1]
          constructor
          · intro e; rw [e]
          · intro e; exact UInt8.toNat_inj.1 (by omega)
        clear e1
        have u1 := hup t (by omega)
        have l1 := ha t (by omega)
        clear hup ha
        generalize ((s.data.getD t 0).toNat) = x at *
        generalize ((k.data.getD t 0).toNat) = y at *
        have hor := or_low x y (by omega) (by omega)
        obtain ⟨u1, u2⟩ := u1
        have v1 : (65 : Int) ≤ (y : Int) := by omega
        have v2 : (y : Int) ≤ 90 := by omega
        have HQ : Hid (upN (x : Int) = (y : Int) ↔ x = y ∨ x = y + 32) := by
          show _ ↔ _
          unfold upN; split <;> omega
        rcases (show x = y ∨ (y < x ∧ x = y + 32) ∨ (y < x ∧ x ≠ y + 32) ∨ (x < y ∧ 65 ≤ x) ∨ (x < y ∧ x < 65) from by omega) with c | c | c | c | c
        · skip
          subst c
          go_wp2
          refine ⟨⟨t + 1, by omega, by go_num, fun j hj => ?_⟩, by simp [intOf]; omega⟩
          rcases Nat.lt_or_ge j t with e | e
          · exact hall j e
          · obtain rfl : j = t := by omega
            exact HX.out.2 (HQ.out.2 (by first | omega | exact .inr HC.out))
        · skip
          have d1 : ((y : Int) == (x : Int)) = false := by simp; omega
          have d2 : (y : Int) < (x : Int) := by omega
          have d3 : ((x : Int) == (y : Int) + 32) = true := by simp; omega
          have hor2 : ¬ (128 : Int) ≤ bits .or .u8 ((y : Int) + 32) (y : Int) := by simpa using or_low (y + 32) y (by omega) (by omega)
          have HC : Hid (x = y + 32) := c.2
          clear c
          go_wp2
          refine ⟨⟨t + 1, by omega, by go_num, fun j hj => ?_⟩, by simp [intOf]; omega⟩
          rcases Nat.lt_or_ge j t with e | e
          · exact hall j e
          · obtain rfl : j = t := by omega
            exact HX.out.2 (HQ.out.2 (by first | omega | exact .inr HC.out))
        · skip
          have d1 : ((y : Int) == (x : Int)) = false := by simp; omega
          have d2 : (y : Int) < (x : Int) := by omega
          have d3 : ((x : Int) == (y : Int) + 32) = false := by simp; omega
          go_wp2
          go_ret
          exact ⟨by rw [wrB_false HS.out (j := t) (by omega) (fun e => by have := HQ.out.1 (HX.out.1 e); omega)]; rfl, rfl⟩
        · skip
          have d1 : ((y : Int) == (x : Int)) = false := by simp; omega
          have d2 : ¬ (y : Int) < (x : Int) := by omega
          have d4 : (65 : Int) ≤ (x : Int) := by omega
          have d5 : (x : Int) ≤ 90 := by omega
          have d3 : ((y : Int) == (x : Int) + 32) = false := by simp; omega
          go_wp2
          go_ret
          exact ⟨by rw [wrB_false HS.out (j := t) (by omega) (fun e => by have := HQ.out.1 (HX.out.1 e); omega)]; rfl, rfl⟩
        · skip
          have d1 : ((y : Int) == (x : Int)) = false := by simp; omega
          have d2 : ¬ (y : Int) < (x : Int) := by omega
          have d4 : ¬ (65 : Int) ≤ (x : Int) := by omega
          go_wp2
          go_ret
          exact ⟨by rw [wrB_false HS.out (j := t) (by omega) (fun e => by have := HQ.out.1 (HX.out.1 e); omega)]; rfl, rfl⟩
      · obtain rfl : t = n := by omega
        go_wp2
        go_ret
        exact ⟨by rw [wrB_true HS.out (fun j hj => hall j (by omega))]; rfl, rfl⟩
  · have hw := wrB_size (s := s) (k := k) (by omega)
    obtain ⟨n, hn⟩ : ∃ n, k.size = n := ⟨_, rfl⟩
    obtain ⟨m, hm⟩ : ∃ m, s.size = m := ⟨_, rfl⟩
    rw [hn, hm] at hsz
    have q1 : ¬ (m : Int) ≤ (n : Int) := by omega
    have q2 : (n : Int) < (m : Int) := by omega
    have q4 : ¬ (m : Int) < (n : Int) := by omega
    have q3 : ((m : Int) == (n : Int)) = false := by simp; omega
    go_enter Tryz.func89, Tryz.ntmps89
    go_wp2
    go_step3
    go_wp2
    go_loop [5] (fun i => ∃ t : Nat, t ≤ n ∧ i = .int .i64 t) (fun i => n - (intOf i).toNat)
    case atStart => exact ⟨0, Nat.zero_le _, rfl⟩
    case round =>
      obtain ⟨t, ht, rfl⟩ := hrel
      by_cases hlt : t < n
      · have i1 := byteW s t (by omega) Tryz.prog 9 (by kernel_rfl)
        have i2 := byteW k t (by omega) Tryz.prog 9 (by kernel_rfl)
        have u1 := hup t (by omega)
        have l1 := ha t (by omega)
        clear hup ha
        generalize ((s.data.getD t 0).toNat) = x at *
        generalize ((k.data.getD t 0).toNat) = y at *
        have hor := or_low x y (by omega) (by omega)
        obtain ⟨u1, u2⟩ := u1
        have v1 : (65 : Int) ≤ (y : Int) := by omega
        have v2 : (y : Int) ≤ 90 := by omega
        rcases (show x = y ∨ (y < x ∧ x = y + 32) ∨ (y < x ∧ x ≠ y + 32) ∨ (x < y ∧ 65 ≤ x) ∨ (x < y ∧ x < 65) from by omega) with c | c | c | c | c
        · skip
          subst c
          go_wp2
          exact ⟨⟨t + 1, by omega, by go_num⟩, by simp [intOf]; omega⟩
        · skip
          have d1 : ((y : Int) == (x : Int)) = false := by simp; omega
          have d2 : (y : Int) < (x : Int) := by omega
          have d3 : ((x : Int) == (y : Int) + 32) = true := by simp; omega
          have hor2 : ¬ (128 : Int) ≤ bits .or .u8 ((y : Int) + 32) (y : Int) := by simpa using or_low (y + 32) y (by omega) (by omega)
          have HC : Hid (x = y + 32) := c.2
          clear c
          go_wp2
          exact ⟨⟨t + 1, by omega, by go_num⟩, by simp [intOf]; omega⟩
        · skip
          have d1 : ((y : Int) == (x : Int)) = false := by simp; omega
          have d2 : (y : Int) < (x : Int) := by omega
          have d3 : ((x : Int) == (y : Int) + 32) = false := by simp; omega
          go_wp2
          go_ret
          exact ⟨by rw [hw]; rfl, rfl⟩
        · skip
          have d1 : ((y : Int) == (x : Int)) = false := by simp; omega
          have d2 : ¬ (y : Int) < (x : Int) := by omega
          have d4 : (65 : Int) ≤ (x : Int) := by omega
          have d5 : (x : Int) ≤ 90 := by omega
          have d3 : ((y : Int) == (x : Int) + 32) = false := by simp; omega
          go_wp2
          go_ret
          exact ⟨by rw [hw]; rfl, rfl⟩
        · skip
          have d1 : ((y : Int) == (x : Int)) = false := by simp; omega
          have d2 : ¬ (y : Int) < (x : Int) := by omega
          have d4 : ¬ (65 : Int) ≤ (x : Int) := by omega
          go_wp2
          go_ret
          exact ⟨by rw [hw]; rfl, rfl⟩
      · have h1 : t = n := by omega
        subst h1
        go_wp2
        go_ret
        exact ⟨by rw [hw]; first | rfl | simp, rfl⟩

/-- Is it a keyword in letters of any case? -/
def keyB (s : ByteArray) : Bool := (List.range 27).any fun j => wrB s (kw j)
theorem keyB_hit (s : ByteArray) (k : Nat) (hk : k < 27) (h : wrB s (kw k) = true) : keyB s = true := List.any_eq_true.2 ⟨k, List.mem_range.2 hk, h⟩
theorem keyB_none (s : ByteArray) (h : ∀ j, j < 27 → wrB s (kw j) = false) : keyB s = false := by
  unfold keyB
  rw [List.any_eq_false]
  intro j hj
  rw [h j (List.mem_range.1 hj)]
  decide

set_option maxRecDepth 100000 in
set_option maxHeartbeats 1000000 in
theorem isKeyword_any (s : ByteArray) (hs : s.size ≤ 9223372036854775807) (ha : ∀ t, t < s.size → (s.data.getD t 0).toNat < 128) (w : World) (K : KwAt w) :
    Calls Tryz.prog 72 #[.string s] w fun e w' => e = .returned (.bool (keyB s)) ∧ w = w' := by
  have hr := kw_range K
  go_enter Tryz.func72, Tryz.ntmps72
  go_upto_region 2 with (refine wpList_load_mid rfl 109 _ rfl 0 0 rfl _ _ hr Tryz.underlying109 rfl (by kernel_rfl) ?_)
  have hix := kw_ix
  obtain ⟨A, hA⟩ : ∃ A, A = kwcells := ⟨_, rfl⟩
  rw [show (kwl.map fun b => Value.string ⟨b.toArray⟩).toArray = A from hA.symm]
  rw [← hA] at hix
  clear hr hA K
  go_loop [6] (fun i => ∃ k : Nat, k ≤ 27 ∧ i = .int .i64 k ∧ (∀ j, j < k → wrB s (kw j) = false)) (fun i => 27 - (intOf i).toNat)
  case atStart => exact ⟨0, Nat.zero_le _, rfl, fun j hj => absurd hj (Nat.not_lt_zero _)⟩
  case round =>
    obtain ⟨k, hk, rfl, hno⟩ := hrel
    by_cases hlt : k < 27
    · have ix := hix k hlt
      have c := equalFold_any s (kw k) hs (kw_size k hlt) ha (kw_up k hlt)
      clear hix
      cases hv : wrB s (kw k)
      · rw [hv] at c
        go_wp2_with (go_at_call 89; with_reducible refine (c _).mono ?_; rintro e u ⟨rfl, rfl⟩)
        go_round
        case rel => exact ⟨k + 1, by omega, by go_num, more (p := fun j => wrB s (kw j)) hno hv⟩
        case measure => simp [intOf]; omega
      · rw [hv] at c
        go_wp2_with (go_at_call 89; with_reducible refine (c _).mono ?_; rintro e u ⟨rfl, rfl⟩)
        go_ret
        exact ⟨by rw [keyB_hit s k hlt hv]; rfl, rfl⟩
    · obtain rfl : k = 27 := by omega
      go_wp2
      go_ret
      exact ⟨by rw [keyB_none s hno]; rfl, rfl⟩

def at_ (s : ByteArray) (t : Nat) : Int := ((s.data.getD t 0).toNat : Int)
/-- Is it a name? -/
def nameB (s : ByteArray) : Bool := decide (1 ≤ s.size ∧ s.size ≤ 16 ∧ (∀ j, j < s.size → inW (at_ s j) = true) ∧ digB (at_ s 0) = false ∧ keyB s = false)

set_option maxRecDepth 100000 in
set_option maxHeartbeats 1000000 in
theorem refIsName_any (s : ByteArray) (w : World) (K : KwAt w) :
    Calls Tryz.prog 65 #[.string s] w fun e w' => e = .returned (.bool (nameB s)) ∧ w = w' := by
  obtain ⟨v, hv⟩ : ∃ v, nameB s = v := ⟨_, rfl⟩
  rw [hv]
  have HV : Hid (nameB s = v) := hv
  clear hv
  obtain ⟨n, hn⟩ : ∃ n, s.size = n := ⟨_, rfl⟩
  by_cases h1 : n < 1
  · have q1 : (n : Int) < 1 := by omega
    go_enter Tryz.func65, Tryz.ntmps65
    go_wp2
    go_ret
    exact ⟨congrArg (fun b => Ending.returned (Value.bool b)) (Eq.trans (decide_eq_false (by rw [hn]; omega)).symm HV.out), rfl⟩
  have q1 : ¬ (n : Int) < 1 := by omega
  by_cases h2 : 16 < n
  · have q2 : (16 : Int) < (n : Int) := by omega
    go_enter Tryz.func65, Tryz.ntmps65
    go_wp2
    go_ret
    exact ⟨congrArg (fun b => Ending.returned (Value.bool b)) (Eq.trans (decide_eq_false (by rw [hn]; omega)).symm HV.out), rfl⟩
  have q2 : ¬ (16 : Int) < (n : Int) := by omega
  go_enter Tryz.func65, Tryz.ntmps65
  go_wp2
  go_loop [3] (fun i => ∃ t : Nat, t ≤ n ∧ i = .int .i64 t ∧ (∀ j, j < t → inW (at_ s j) = true)) (fun i => n - (intOf i).toNat)
  case atStart => exact ⟨0, Nat.zero_le _, rfl, fun j hj => absurd hj (Nat.not_lt_zero _)⟩
  case round =>
    obtain ⟨t, ht, rfl, hall⟩ := hrel
    by_cases hlt : t < n
    · have i1 : ∀ w, (Instr.index 9 (.string s) (.int .i64 (t : Int))).run Tryz.prog w = .ok (.int .u8 (at_ s t)) w := byteW s t (by omega) Tryz.prog 9 (by kernel_rfl)
      have c := refInWord_any (at_ s t)
      have HA : Hid (∀ b, inW (at_ s t) = b → inW (at_ s t) = b) := fun _ h => h
      cases hb : inW (at_ s t)
      · rw [hb] at c
        have HB : Hid (¬ ∀ j, j < s.size → inW (at_ s j) = true) := fun e => by rw [e t (by omega)] at hb; exact absurd hb (by decide)
        generalize at_ s t = x at *
        go_wp2_with (go_at_call 85; with_reducible refine (c _).mono ?_; rintro e u ⟨rfl, rfl⟩)
        go_ret
        exact ⟨congrArg (fun b => Ending.returned (Value.bool b)) (Eq.trans (decide_eq_false (fun e => HB.out e.2.2.1)).symm HV.out), rfl⟩
      · rw [hb] at c
        have HB : Hid (∀ j, j < t + 1 → inW (at_ s j) = true) := fun j hj => by
          rcases Nat.lt_or_ge j t with e | e
          · exact hall j e
          · obtain rfl : j = t := by omega
            exact hb
        generalize at_ s t = x at *
        go_wp2_with (go_at_call 85; with_reducible refine (c _).mono ?_; rintro e u ⟨rfl, rfl⟩)
        go_round
        case rel => exact ⟨t + 1, by omega, by go_num, HB.out⟩
        case measure => simp [intOf]; omega
    · obtain rfl : t = n := by omega
      have i0 : ∀ w, (Instr.index 9 (.string s) (.int .i64 0)).run Tryz.prog w = .ok (.int .u8 (at_ s 0)) w := byteW s 0 (by omega) Tryz.prog 9 (by kernel_rfl)
      have HN : Hid (1 ≤ s.size ∧ s.size ≤ 16 ∧ (∀ j, j < s.size → inW (at_ s j) = true)) := ⟨by omega, by omega, fun j hj => hall j (by omega)⟩
      have HD : Hid (nameB s = decide (digB (at_ s 0) = false ∧ keyB s = false)) := by
        show _ = _
        unfold nameB
        exact decide_eq_decide.2 ⟨fun e => e.2.2.2, fun e => ⟨HN.out.1, HN.out.2.1, HN.out.2.2, e⟩⟩
      have c := refDigit_any (at_ s 0)
      cases hb : digB (at_ s 0)
      · rw [hb] at c
        have HD2 : Hid (v = !(keyB s)) := by show _ = _; rw [← HV.out, HD.out, hb]; cases keyB s <;> decide
        clear hb HD HV HN hall
        generalize at_ s 0 = x at *
        go_upto_region 11 with (go_at_call 86; with_reducible refine (c _).mono ?_; rintro e u ⟨rfl, rfl⟩)
        clear c i0
        go_loop [4] (fun i => ∃ k : Nat, k ≤ 27 ∧ i = .int .i64 k ∧ (∀ j, j < k → wrB s (kw j) = false)) (fun i => 27 - (intOf i).toNat)
        case atStart => exact ⟨0, Nat.zero_le _, rfl, fun j hj => absurd hj (Nat.not_lt_zero _)⟩
        case round =>
          obtain ⟨k, hk, rfl, hno⟩ := hrel
          by_cases hlt : k < 27
          · have f := K.2 k hlt
            have c := alike_any s (kw k) (by omega) (kw_size k hlt) (kw_up k hlt)
            clear K
            cases hv : wrB s (kw k)
            · rw [hv] at c
              go_wp2_with (go_at_call 87; with_reducible refine (c _).mono ?_; rintro e u ⟨rfl, rfl⟩)
              go_round
              case rel => exact ⟨k + 1, by omega, by go_num, more (p := fun j => wrB s (kw j)) hno hv⟩
              case measure => simp [intOf]; omega
            · rw [hv] at c
              go_wp2_with (go_at_call 87; with_reducible refine (c _).mono ?_; rintro e u ⟨rfl, rfl⟩)
              go_ret
              exact ⟨by rw [HD2.out, keyB_hit s k hlt hv]; rfl, rfl⟩
          · obtain rfl : k = 27 := by omega
            go_wp2
            go_ret
            exact ⟨by rw [HD2.out, keyB_none s hno]; rfl, rfl⟩
      · rw [hb] at c
        have HD2 : Hid (v = false) := by show _ = _; rw [← HV.out, HD.out, hb]; simp
        clear hb HD HV HN hall
        generalize at_ s 0 = x at *
        go_wp2_with (go_at_call 86; with_reducible refine (c _).mono ?_; rintro e u ⟨rfl, rfl⟩)
        go_ret
        exact ⟨by rw [HD2.out]; rfl, rfl⟩

end Go.Proofs.YtlejhococjlijaaGreatDoor
namespace Go.Proofs.YtlejhococjlijaaGreatDoor
open Go.RowKit Go.BigFrame
set_option linter.unusedVariables false
set_option linter.unusedSimpArgs false

theorem inW_low {n : Int} (h : inW n = true) : n < 128 := by
  unfold inW letB digB at h
  simp at h
  omega
theorem inW_high {n : Int} (h : 128 ≤ n) : inW n = false := by
  cases e : inW n
  · rfl
  · have := inW_low e; omega
theorem digB_high {n : Int} (h : 128 ≤ n) : digB n = false := decide_eq_false (by omega)
theorem iter_below (w : World) (s : ByteArray) (q : Nat) : Below w.heap.size w (w.iter s q) := galloc (Below.refl _ _) _

theorem next_is (w : World) (s : ByteArray) (k : Nat) (h : k < s.size) : ∃ (r : Int) (q : Nat), (∀ ty, (Instr.next (.pointer (some ⟨w.heap.size, 0, none⟩)) true ty).run Tryz.prog (w.iter s k) = .ok (.tuple #[.bool true, .int .i64 k, .int .i32 r]) (w.iter s q)) ∧
    inW r = inW (at_ s k) ∧ digB r = digB (at_ s k) ∧ (inW (at_ s k) = true → q = k + 1) := by
  have e : ((s[k]'h).toNat : Int) = at_ s k := by
    unfold at_
    simp [ByteArray.getElem_eq_getElem_data, Array.getD, h]
  by_cases ha : (s[k]'h).toNat < 128
  · refine ⟨at_ s k, k + 1, fun ty => ?_, rfl, rfl, fun _ => rfl⟩
    rw [← e]
    exact run_next_ascii w s k ty h ha
  · have hd := decode_high s k h (by omega)
    refine ⟨(Utf8.decode s k).1, k + (Utf8.decode s k).2, fun ty => run_next_any w s k ty h, ?_, ?_, ?_⟩
    · rw [inW_high (by omega), inW_high (by omega)]
    · rw [digB_high (by omega), digB_high (by omega)]
    · intro hh
      have := inW_low hh
      omega

set_option maxRecDepth 100000 in
set_option maxHeartbeats 1000000 in
theorem isName_any (s : ByteArray) (w : World) (K : KwAt w) :
    Calls Tryz.prog 48 #[.string s] w fun e w' => e = .returned (.bool (nameB s)) ∧ Below w.heap.size w w' := by
  obtain ⟨v, hv⟩ : ∃ v, nameB s = v := ⟨_, rfl⟩
  rw [hv]
  have HV : Hid (nameB s = v) := hv
  clear hv
  obtain ⟨n, hn⟩ : ∃ n, s.size = n := ⟨_, rfl⟩
  by_cases h1 : n = 0
  · have q1 : ((n : Int) == 0) = true := by simp; omega
    go_enter Tryz.func48, Tryz.ntmps48
    go_wp2
    go_ret
    exact ⟨congrArg (fun b => Ending.returned (Value.bool b)) (Eq.trans (decide_eq_false (by rw [hn]; omega)).symm HV.out), Below.refl _ _⟩
  have q1 : ((n : Int) == 0) = false := by simp; omega
  by_cases h2 : 16 < n
  · have q2 : (16 : Int) < (n : Int) := by omega
    go_enter Tryz.func48, Tryz.ntmps48
    go_wp2
    go_ret
    exact ⟨congrArg (fun b => Ending.returned (Value.bool b)) (Eq.trans (decide_eq_false (by rw [hn]; omega)).symm HV.out), Below.refl _ _⟩
  have q2 : ¬ (16 : Int) < (n : Int) := by omega
  go_enter Tryz.func48, Tryz.ntmps48
  go_wp2
  go_loopw [3] (fun _ wr => ∃ t : Nat, t ≤ n ∧ wr = w.iter s t ∧ (∀ j, j < t → inW (at_ s j) = true) ∧ (0 < t → digB (at_ s 0) = false)) (fun _ wr => n - wr.iterPos w.heap.size)
  case atStart => exact ⟨0, Nat.zero_le _, rfl, fun j hj => absurd hj (Nat.not_lt_zero _), fun h => absurd h (Nat.lt_irrefl _)⟩
  case round =>
    obtain ⟨t, ht, rfl, hall, hdig⟩ := hrel
    by_cases hlt : t < n
    · obtain ⟨r, q, hnx, hin, hdg, hq⟩ := next_is w s t (by omega)
      have c1 := inWord_any r
      have c2 := isDigit_any r
      rw [hin] at c1
      rw [hdg] at c2
      cases hb : inW (at_ s t)
      · rw [hb] at c1
        have HB : Hid (¬ ∀ j, j < s.size → inW (at_ s j) = true) := fun e => by rw [e t (by omega)] at hb; exact absurd hb (by decide)
        clear hin hdg hq hb hdig c2 hall
        go_wp2_with (go_at_call 70; with_reducible refine (c1 _).mono ?_; rintro e u ⟨rfl, rfl⟩)
        go_ret
        exact ⟨congrArg (fun b => Ending.returned (Value.bool b)) (Eq.trans (decide_eq_false (fun e => HB.out e.2.2.1)).symm HV.out), iter_below _ _ _⟩
      · rw [hb] at c1
        obtain rfl := hq hb
        have HB : Hid (∀ j, j < t + 1 → inW (at_ s j) = true) := fun j hj => by
          rcases Nat.lt_or_ge j t with e | e
          · exact hall j e
          · obtain rfl : j = t := by omega
            exact hb
        by_cases h0 : t = 0
        · have z1 : ((t : Int) == 0) = true := by simp; omega
          cases hd : digB (at_ s t)
          · rw [hd] at c2
            have HD : Hid (digB (at_ s 0) = false) := by show _ = _; rw [h0] at hd; exact hd
            clear hin hdg hq hb hdig hall hd h0
            go_wp2_with (first
              | (go_at_call 70; with_reducible refine (c1 _).mono ?_; rintro e u ⟨rfl, rfl⟩)
              | (go_at_call 71; with_reducible refine (c2 _).mono ?_; rintro e u ⟨rfl, rfl⟩))
            go_roundw
            case rel => exact ⟨t + 1, by omega, rfl, HB.out, fun _ => HD.out⟩
            case measure => simp; omega
          · rw [hd] at c2
            have HD : Hid (digB (at_ s 0) = true) := by show _ = _; rw [h0] at hd; exact hd
            clear hin hdg hq hb hdig hall hd h0
            go_wp2_with (first
              | (go_at_call 70; with_reducible refine (c1 _).mono ?_; rintro e u ⟨rfl, rfl⟩)
              | (go_at_call 71; with_reducible refine (c2 _).mono ?_; rintro e u ⟨rfl, rfl⟩))
            go_ret
            exact ⟨congrArg (fun b => Ending.returned (Value.bool b)) (Eq.trans (decide_eq_false (fun e => by have h5 := e.2.2.2.1; rw [HD.out] at h5; exact absurd h5 (by decide))).symm HV.out), iter_below _ _ _⟩
        · have z1 : ((t : Int) == 0) = false := by simp; omega
          have HD : Hid (digB (at_ s 0) = false) := hdig (by omega)
          clear hin hdg hq hb hdig hall c2
          go_wp2_with (go_at_call 70; with_reducible refine (c1 _).mono ?_; rintro e u ⟨rfl, rfl⟩)
          go_roundw
          case rel => exact ⟨t + 1, by omega, rfl, HB.out, fun _ => HD.out⟩
          case measure => simp; omega
    · obtain rfl : t = n := by omega
      have hnx : ∀ ty, (Instr.next (.pointer (some ⟨w.heap.size, 0, none⟩)) true ty).run Tryz.prog (w.iter s t) = _ := fun ty => run_next_end w s t ty (by omega)
      have c := isKeyword_any s (by omega) (fun j hj => by have := inW_low (hall j (by omega)); unfold at_ at this; omega) (w.iter s t) (K.keep (iter_below w s t))
      have HD : Hid (nameB s = !(keyB s)) := by
        show _ = _
        unfold nameB
        cases hk : keyB s
        · exact decide_eq_true ⟨by omega, by omega, fun j hj => hall j (by omega), hdig (by omega), rfl⟩
        · exact decide_eq_false (fun e => absurd e.2.2.2.2 (by decide))
      clear hall hdig
      generalize keyB s = y at *
      go_wp2_with (go_at_call 72; with_reducible refine c.mono ?_; rintro e u ⟨rfl, rfl⟩)
      go_ret
      exact ⟨congrArg (fun b => Ending.returned (Value.bool b)) (HD.out.symm.trans HV.out), iter_below _ _ _⟩

end Go.Proofs.YtlejhococjlijaaGreatDoor
