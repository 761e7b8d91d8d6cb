/- Could Lex give a token: the document's Could. -/
import Derived.Test.YtlcmfefcammklabDoorSp
import Derived.Test.YtlcmfefcammklabDoorLo
namespace Go.Proofs.YtlcmfefcammklabDoor
open Go.RowKit Go.BigFrame
set_option linter.unusedVariables false
set_option linter.unusedSimpArgs false

def emB (x : ByteArray) : Bool := x.toList == []
def allW (x : ByteArray) : Bool := decide (∀ i, i < x.size → wdB (bt x i) = true)
def nameOk (x : ByteArray) : Bool := decide (0 < x.size ∧ x.size ≤ 16) && ltB (bt x 0) && allW x && (wordI x == 1)
def couldB (t : Tok) : Bool :=
  if t.k = 2 then decide (0 ≤ t.n) && emB t.t
  else if t.n ≠ 0 then false
  else if t.k ≠ 1 then emB t.t && decide ((3 ≤ t.k ∧ t.k < 22) ∨ (30 ≤ t.k ∧ t.k < 57))
  else nameOk t.t

set_option maxRecDepth 100000 in
set_option maxHeartbeats 8000000 in
theorem could_any (t : Tok) (hs : t.t.size ≤ 140737488351232) (w : World) (K : KrAt w) :
    Calls Tryd.prog 22 #[.agg (tokA t)] w fun e w' => e = .returned (.bool (couldB t)) ∧ Below w.heap.size w w' := by
  obtain ⟨z, hz⟩ : ∃ z, z = couldB t := ⟨_, rfl⟩
  rw [← hz]
  have HZ : Hid (z = couldB t) := hz
  clear hz
  have cW := fun (u : World) (g : Below w.heap.size w u) => refWord_any t.t (by omega) u (K.keep g)
  unfold tokA
  by_cases k2 : t.k = 2
  · have hE : Hid (z = (decide (0 ≤ t.n) && emB t.t)) := by show _ = _; rw [HZ.out]; exact if_pos k2
    rw [k2]
    generalize t.n = n at *
    have hem : emB t.t = (t.t.toList == []) := rfl
    rw [hem] at hE
    cases hd : decide (0 ≤ n) <;> cases he : (t.t.toList == [])
    all_goals
      rw [hd, he] at hE
      have hz2 := hE.out
      subst hz2
      clear HZ hE
      first | have hd2 := of_decide_eq_true hd | have hd2 := of_decide_eq_false hd
      go_enter Tryd.func22, Tryd.ntmps22
      go_wp2
      go_ret
      exact ⟨by first | rfl | simp [hd2], galloc (Below.refl _ _) _⟩
  have q2 : (t.k == 2) = false := by simpa using k2
  by_cases hn : t.n ≠ 0
  · have hE : z = false := by rw [HZ.out]; unfold couldB; rw [if_neg k2, if_pos hn]
    subst hE
    have qn : (t.n != 0) = true := by simpa using hn
    generalize t.n = n at *
    generalize t.k = c at *
    clear HZ
    go_enter Tryd.func22, Tryd.ntmps22
    go_wp2
    go_ret
    exact ⟨by first | rfl | simp, galloc (Below.refl _ _) _⟩
  have hn0 : t.n = 0 := by omega
  by_cases k1 : t.k ≠ 1
  · have hE : Hid (z = (emB t.t && decide ((3 ≤ t.k ∧ t.k < 22) ∨ (30 ≤ t.k ∧ t.k < 57)))) := by show _ = _; rw [HZ.out]; unfold couldB; rw [if_neg k2, if_neg hn, if_pos k1]
    have q1 : (t.k != 1) = true := by simpa using k1
    rw [hn0]
    have hem : emB t.t = (t.t.toList == []) := rfl
    rw [hem] at hE
    generalize t.k = c at *
    clear HZ hn hn0 cW k1 k2
    cases he : (t.t.toList == [])
    · have hz2 : z = false := by rw [hE.out, he]; rfl
      subst hz2
      clear hE
      go_enter Tryd.func22, Tryd.ntmps22
      go_wp2
      go_ret
      exact ⟨by first | rfl | simp, galloc (Below.refl _ _) _⟩
    · rcases (show c < 3 ∨ (3 ≤ c ∧ c < 22) ∨ (22 ≤ c ∧ c < 30) ∨ (30 ≤ c ∧ c < 57) ∨ 57 ≤ c from by omega) with h | h | h | h | h
      · have hz2 : z = false := by rw [hE.out, he, Bool.true_and]; exact decide_eq_false (by omega)
        subst hz2
        have d0 : decide ((3 : Int) ≤ c) = false := decide_eq_false (by omega)
        have d1 : decide ((30 : Int) ≤ c) = false := decide_eq_false (by omega)
        clear hE h
        go_enter Tryd.func22, Tryd.ntmps22
        go_wp2
        go_ret
        exact ⟨by first | rfl | simp, galloc (Below.refl _ _) _⟩
      · have hz2 : z = true := by rw [hE.out, he, Bool.true_and]; exact decide_eq_true (by omega)
        subst hz2
        have d0 : decide ((3 : Int) ≤ c) = true := decide_eq_true (by omega)
        have d1 : decide (c < 22) = true := decide_eq_true (by omega)
        clear hE h
        go_enter Tryd.func22, Tryd.ntmps22
        go_wp2
        go_ret
        exact ⟨by first | rfl | simp, galloc (Below.refl _ _) _⟩
      · have hz2 : z = false := by rw [hE.out, he, Bool.true_and]; exact decide_eq_false (by omega)
        subst hz2
        have d0 : decide ((3 : Int) ≤ c) = true := decide_eq_true (by omega)
        have d1 : decide (c < 22) = false := decide_eq_false (by omega)
        have d2 : decide ((30 : Int) ≤ c) = false := decide_eq_false (by omega)
        clear hE h
        go_enter Tryd.func22, Tryd.ntmps22
        go_wp2
        go_ret
        exact ⟨by first | rfl | simp, galloc (Below.refl _ _) _⟩
      · have hz2 : z = true := by rw [hE.out, he, Bool.true_and]; exact decide_eq_true (by omega)
        subst hz2
        have d0 : decide ((3 : Int) ≤ c) = true := decide_eq_true (by omega)
        have d1 : decide (c < 22) = false := decide_eq_false (by omega)
        have d2 : decide ((30 : Int) ≤ c) = true := decide_eq_true (by omega)
        have d3 : decide (c < 57) = true := decide_eq_true (by omega)
        clear hE h
        go_enter Tryd.func22, Tryd.ntmps22
        go_wp2
        go_ret
        exact ⟨by first | rfl | simp, galloc (Below.refl _ _) _⟩
      · have hz2 : z = false := by rw [hE.out, he, Bool.true_and]; exact decide_eq_false (by omega)
        subst hz2
        have d0 : decide ((3 : Int) ≤ c) = true := decide_eq_true (by omega)
        have d1 : decide (c < 22) = false := decide_eq_false (by omega)
        have d2 : decide ((30 : Int) ≤ c) = true := decide_eq_true (by omega)
        have d3 : decide (c < 57) = false := decide_eq_false (by omega)
        clear hE h
        go_enter Tryd.func22, Tryd.ntmps22
        go_wp2
        go_ret
        exact ⟨by first | rfl | simp, galloc (Below.refl _ _) _⟩
  · have k1' : t.k = 1 := by omega
    have hE : Hid (z = nameOk t.t) := by show _ = _; rw [HZ.out]; unfold couldB; rw [if_neg k2, if_neg hn, if_neg k1]
    rw [hn0, k1']
    generalize t.a = ta at *
    generalize t.t = x at *
    clear HZ hn hn0 k1 k2 q2 k1'
    have hby := fun i h => byteW x i h Tryd.prog 9 (by kernel_rfl)
    by_cases h0 : x.size = 0
    · have hz2 : z = false := by rw [hE.out]; unfold nameOk; rw [show decide (0 < x.size ∧ x.size ≤ 16) = false from decide_eq_false (by omega)]; rfl
      subst hz2
      have hx0 : x.size = 0 := h0
      clear hE cW hby
      go_enter Tryd.func22, Tryd.ntmps22
      go_wp2
      go_ret
      exact ⟨by first | rfl | simp, galloc (Below.refl _ _) _⟩
    have n0 : ((x.size : Int) == 0) = false := by rw [beq_eq_false_iff_ne]; omega
    by_cases h16 : 16 < x.size
    · have hz2 : z = false := by rw [hE.out]; unfold nameOk; rw [show decide (0 < x.size ∧ x.size ≤ 16) = false from decide_eq_false (by omega)]; rfl
      subst hz2
      have d16 : (16 : Int) < (x.size : Int) := by omega
      clear hE cW hby
      go_enter Tryd.func22, Tryd.ntmps22
      go_wp2
      go_ret
      exact ⟨by first | rfl | simp, galloc (Below.refl _ _) _⟩
    have d16 : decide ((16 : Int) < (x.size : Int)) = false := decide_eq_false (by omega)
    have i0 : ∀ u : World, (Instr.index 9 (.string x) (.int .i64 0)).run Tryd.prog u = .ok (.int .u8 (bt x 0)) u := hby 0 (by omega)
    have cL := refLetter_any (bt x 0)
    cases hl : ltB (bt x 0)
    · have hz2 : z = false := by rw [hE.out]; unfold nameOk; rw [hl]; simp
      subst hz2
      rw [hl] at cL
      generalize bt x 0 = nb at *
      clear hE cW hby
      go_enter Tryd.func22, Tryd.ntmps22
      go_wp2_with (go_at_call 35; (with_reducible refine (cL _).mono ?_); rintro e5 u5 ⟨rfl, rfl⟩)
      go_ret
      exact ⟨by first | rfl | simp, galloc (Below.refl _ _) _⟩
    rw [hl] at cL
    have hE2 : Hid (z = (allW x && (wordI x == 1))) := by show _ = _; rw [hE.out]; unfold nameOk; rw [hl, show decide (0 < x.size ∧ x.size ≤ 16) = true from decide_eq_true (by omega)]; simp
    clear hE
    generalize hnb : bt x 0 = nb at i0 cL
    go_enter Tryd.func22, Tryd.ntmps22
    go_wp2_with (go_at_call 35; (with_reducible refine (cL _).mono ?_); rintro e5 u5 ⟨rfl, rfl⟩)
    have GA := galloc (Below.refl w.heap.size w) (.cells #[.int .i64 1, .string x, .int .i64 0, .int .i64 ta] 29)
    clear cL i0
    go_loop [4] (fun i => ∃ k : Nat, k ≤ x.size ∧ i = .int .i64 k ∧ (∀ j, j < k → wdB (bt x j) = true)) (fun i => x.size - (intOf i).toNat)
    case atStart => exact ⟨0, Nat.zero_le _, rfl, fun j hj => absurd hj (Nat.not_lt_zero _)⟩
    case round =>
      obtain ⟨k, hk, rfl, hall⟩ := hrel
      by_cases hlt : k < x.size
      · have i1 := hby k hlt
        rw [show ((x.data.getD k 0).toNat : Int) = bt x k from rfl] at i1
        have c1 := refLetter_any (bt x k)
        have c2 := refDigit_any (bt x k)
        have hki : (k : Int) < (x.size : Int) := by omega
        cases h1 : ltB (bt x k)
        · cases h2 : dgB (bt x k)
          · have hz2 : z = false := by
              rw [hE2.out]
              have : allW x = false := decide_eq_false (fun h => by have := h k hlt; unfold wdB at this; rw [h1, h2] at this; exact absurd this (by decide))
              rw [this]; rfl
            subst hz2
            rw [h1] at c1
            rw [h2] at c2
            clear hE2 hall cW hby
            generalize bt x k = nc at *
            go_wp2_with (first
              | (go_at_call 35; (with_reducible refine (c1 _).mono ?_); rintro e5 u5 ⟨rfl, rfl⟩)
              | (go_at_call 20; (with_reducible refine (c2 _).mono ?_); rintro e5 u5 ⟨rfl, rfl⟩))
            go_ret
            exact ⟨by first | rfl | simp, GA⟩
          · have hall2 : ∀ j, j < k + 1 → wdB (bt x j) = true := fun j hj => by
              rcases Nat.lt_or_ge j k with h5 | h5
              · exact hall j h5
              · obtain rfl : j = k := by omega
                unfold wdB; rw [h2]; simp
            rw [h1] at c1
            rw [h2] at c2
            clear hby
            generalize bt x k = nc at i1 c1 c2 h1 h2
            go_wp2_with (first
              | (go_at_call 35; (with_reducible refine (c1 _).mono ?_); rintro e5 u5 ⟨rfl, rfl⟩)
              | (go_at_call 20; (with_reducible refine (c2 _).mono ?_); rintro e5 u5 ⟨rfl, rfl⟩))
            go_round
            case rel => exact ⟨k + 1, by omega, by go_num, hall2⟩
            case measure => simp [intOf]; omega
        · have hall2 : ∀ j, j < k + 1 → wdB (bt x j) = true := fun j hj => by
            rcases Nat.lt_or_ge j k with h5 | h5
            · exact hall j h5
            · obtain rfl : j = k := by omega
              unfold wdB; rw [h1]; rfl
          rw [h1] at c1
          clear hby
          generalize bt x k = nc at i1 c1 c2 h1
          go_wp2_with (first
            | (go_at_call 35; (with_reducible refine (c1 _).mono ?_); rintro e5 u5 ⟨rfl, rfl⟩)
            | (go_at_call 20; (with_reducible refine (c2 _).mono ?_); rintro e5 u5 ⟨rfl, rfl⟩))
          go_round
          case rel => exact ⟨k + 1, by omega, by go_num, hall2⟩
          case measure => simp [intOf]; omega
      · obtain rfl : k = x.size := by omega
        have hz2 : Hid (z = (wordI x == 1)) := by
          show _ = _
          rw [hE2.out]
          have : allW x = true := decide_eq_true hall
          rw [this]; rfl
        clear hE2
        have c3 := cW _ GA
        generalize wordI x = wi at *
        go_wp2_with (go_at_call 36; (with_reducible refine c3.mono ?_); rintro e6 u6 ⟨rfl, g6⟩)
        go_ret
        exact ⟨by rw [hz2.out]; first | rfl | simp, gtrans GA g6⟩

end Go.Proofs.YtlcmfefcammklabDoor
