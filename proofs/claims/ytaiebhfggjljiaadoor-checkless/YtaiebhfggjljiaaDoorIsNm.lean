/- What event's IsName comes to, of any string. -/
import Derived.Test.YtaiebhfggjljiaaDoorEvName2
namespace Go.Proofs.YtaiebhfggjljiaaDoor
open Go.RowKit Go.BigFrame
set_option linter.unusedVariables false
set_option linter.unusedSimpArgs false

theorem inW_low {n : Int} (h : inW n = true) : n < 128 := by
  unfold inW letB digB at h
  simp at h
  omega
theorem inW_high {n : Int} (h : 128 ≤ n) : inW n = false := by
  cases e : inW n
  · rfl
  · have := inW_low e; omega
theorem digB_high {n : Int} (h : 128 ≤ n) : digB n = false := decide_eq_false (by omega)
theorem iter_below (w : World) (s : ByteArray) (q : Nat) : Below w.heap.size w (w.iter s q) := galloc (Below.refl _ _) _

theorem next_is (w : World) (s : ByteArray) (k : Nat) (h : k < s.size) : ∃ (r : Int) (q : Nat), (∀ ty, (Instr.next (.pointer (some ⟨w.heap.size, 0, none⟩)) true ty).run Tryd.prog (w.iter s k) = .ok (.tuple #[.bool true, .int .i64 k, .int .i32 r]) (w.iter s q)) ∧
    inW r = inW (at_ s k) ∧ digB r = digB (at_ s k) ∧ (inW (at_ s k) = true → q = k + 1) := by
  have e : ((s[k]'h).toNat : Int) = at_ s k := by
    unfold at_
    simp [ByteArray.getElem_eq_getElem_data, Array.getD, h]
  by_cases ha : (s[k]'h).toNat < 128
  · refine ⟨at_ s k, k + 1, fun ty => ?_, rfl, rfl, fun _ => rfl⟩
    rw [← e]
    exact run_next_ascii w s k ty h ha
  · have hd := decode_high s k h (by omega)
    refine ⟨(Utf8.decode s k).1, k + (Utf8.decode s k).2, fun ty => run_next_any w s k ty h, ?_, ?_, ?_⟩
    · rw [inW_high (by omega), inW_high (by omega)]
    · rw [digB_high (by omega), digB_high (by omega)]
    · intro hh
      have := inW_low hh
      omega

set_option maxRecDepth 100000 in
set_option maxHeartbeats 1000000 in
theorem isName_any (s : ByteArray) (w : World) (K : KwAt w) :
    Calls Tryd.prog 33 #[.string s] w fun e w' => e = .returned (.bool (nameB s)) ∧ Below w.heap.size w w' := by
  obtain ⟨v, hv⟩ : ∃ v, nameB s = v := ⟨_, rfl⟩
  rw [hv]
  have HV : Hid (nameB s = v) := hv
  clear hv
  obtain ⟨n, hn⟩ : ∃ n, s.size = n := ⟨_, rfl⟩
  by_cases h1 : n = 0
  · have q1 : ((n : Int) == 0) = true := by simp; omega
    go_enter Tryd.func33, Tryd.ntmps33
    go_wp2
    go_ret
    exact ⟨congrArg (fun b => Ending.returned (Value.bool b)) (Eq.trans (decide_eq_false (by rw [hn]; omega)).symm HV.out), Below.refl _ _⟩
  have q1 : ((n : Int) == 0) = false := by simp; omega
  by_cases h2 : 16 < n
  · have q2 : (16 : Int) < (n : Int) := by omega
    go_enter Tryd.func33, Tryd.ntmps33
    go_wp2
    go_ret
    exact ⟨congrArg (fun b => Ending.returned (Value.bool b)) (Eq.trans (decide_eq_false (by rw [hn]; omega)).symm HV.out), Below.refl _ _⟩
  have q2 : ¬ (16 : Int) < (n : Int) := by omega
  go_enter Tryd.func33, Tryd.ntmps33
  go_wp2
  go_loopw [3] (fun _ wr => ∃ t : Nat, t ≤ n ∧ wr = w.iter s t ∧ (∀ j, j < t → inW (at_ s j) = true) ∧ (0 < t → digB (at_ s 0) = false)) (fun _ wr => n - wr.iterPos w.heap.size)
  case atStart => exact ⟨0, Nat.zero_le _, rfl, fun j hj => absurd hj (Nat.not_lt_zero _), fun h => absurd h (Nat.lt_irrefl _)⟩
  case round =>
    obtain ⟨t, ht, rfl, hall, hdig⟩ := hrel
    by_cases hlt : t < n
    · obtain ⟨r, q, hnx, hin, hdg, hq⟩ := next_is w s t (by omega)
      have c1 := inWord_any r
      have c2 := isDigit_any r
      rw [hin] at c1
      rw [hdg] at c2
      cases hb : inW (at_ s t)
      · rw [hb] at c1
        have HB : Hid (¬ ∀ j, j < s.size → inW (at_ s j) = true) := fun e => by rw [e t (by omega)] at hb; exact absurd hb (by decide)
        clear hin hdg hq hb hdig c2 hall
        go_wp2_with (go_at_call 54; with_reducible refine (c1 _).mono ?_; rintro e u ⟨rfl, rfl⟩)
        go_ret
        exact ⟨congrArg (fun b => Ending.returned (Value.bool b)) (Eq.trans (decide_eq_false (fun e => HB.out e.2.2.1)).symm HV.out), iter_below _ _ _⟩
      · rw [hb] at c1
        obtain rfl := hq hb
        have HB : Hid (∀ j, j < t + 1 → inW (at_ s j) = true) := fun j hj => by
          rcases Nat.lt_or_ge j t with e | e
          · exact hall j e
          · obtain rfl : j = t := by omega
            exact hb
        by_cases h0 : t = 0
        · have z1 : ((t : Int) == 0) = true := by simp; omega
          cases hd : digB (at_ s t)
          · rw [hd] at c2
            have HD : Hid (digB (at_ s 0) = false) := by show _ = _; rw [h0] at hd; exact hd
            clear hin hdg hq hb hdig hall hd h0
            go_wp2_with (first
              | (go_at_call 54; with_reducible refine (c1 _).mono ?_; rintro e u ⟨rfl, rfl⟩)
              | (go_at_call 55; with_reducible refine (c2 _).mono ?_; rintro e u ⟨rfl, rfl⟩))
            go_roundw
            case rel => exact ⟨t + 1, by omega, rfl, HB.out, fun _ => HD.out⟩
            case measure => simp; omega
          · rw [hd] at c2
            have HD : Hid (digB (at_ s 0) = true) := by show _ = _; rw [h0] at hd; exact hd
            clear hin hdg hq hb hdig hall hd h0
            go_wp2_with (first
              | (go_at_call 54; with_reducible refine (c1 _).mono ?_; rintro e u ⟨rfl, rfl⟩)
              | (go_at_call 55; with_reducible refine (c2 _).mono ?_; rintro e u ⟨rfl, rfl⟩))
            go_ret
            exact ⟨congrArg (fun b => Ending.returned (Value.bool b)) (Eq.trans (decide_eq_false (fun e => by have h5 := e.2.2.2.1; rw [HD.out] at h5; exact absurd h5 (by decide))).symm HV.out), iter_below _ _ _⟩
        · have z1 : ((t : Int) == 0) = false := by simp; omega
          have HD : Hid (digB (at_ s 0) = false) := hdig (by omega)
          clear hin hdg hq hb hdig hall c2
          go_wp2_with (go_at_call 54; with_reducible refine (c1 _).mono ?_; rintro e u ⟨rfl, rfl⟩)
          go_roundw
          case rel => exact ⟨t + 1, by omega, rfl, HB.out, fun _ => HD.out⟩
          case measure => simp; omega
    · obtain rfl : t = n := by omega
      have hnx : ∀ ty, (Instr.next (.pointer (some ⟨w.heap.size, 0, none⟩)) true ty).run Tryd.prog (w.iter s t) = _ := fun ty => run_next_end w s t ty (by omega)
      have c := isKeyword_any s (by omega) (fun j hj => by have := inW_low (hall j (by omega)); unfold at_ at this; omega) (w.iter s t) (K.keep (iter_below w s t))
      have HD : Hid (nameB s = !(keyB s)) := by
        show _ = _
        unfold nameB
        cases hk : keyB s
        · exact decide_eq_true ⟨by omega, by omega, fun j hj => hall j (by omega), hdig (by omega), rfl⟩
        · exact decide_eq_false (fun e => absurd e.2.2.2.2 (by decide))
      clear hall hdig
      generalize keyB s = y at *
      go_wp2_with (go_at_call 56; with_reducible refine c.mono ?_; rintro e u ⟨rfl, rfl⟩)
      go_ret
      exact ⟨congrArg (fun b => Ending.returned (Value.bool b)) (HD.out.symm.trans HV.out), iter_below _ _ _⟩

end Go.Proofs.YtaiebhfggjljiaaDoor
