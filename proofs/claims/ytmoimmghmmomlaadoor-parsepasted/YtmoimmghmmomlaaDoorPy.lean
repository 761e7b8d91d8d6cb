/- The other levels, and all of them together. -/
import Derived.Test.YtmoimmghmmomlaaDoorPx
namespace Go.Proofs.YtmoimmghmmomlaaDoor
open Go.RowKit Go.BigFrame
set_option linter.unusedVariables false
set_option linter.unusedSimpArgs false

section
variable (w : World) (d g : Nat) (e0 : Int) (b t : Nat)
set_option maxRecDepth 100000 in
set_option maxHeartbeats 4000000 in
theorem and_any (s : Ps) (O : Okp w d g e0 b t s)
    (hF : ∀ (s' : Ps) u, s'.ts.length ≤ s.ts.length → Okp u d g e0 b t s' → Calls Tryd.prog 102 #[.pointer (some ⟨d, 0, none⟩), .pointer (some ⟨t, 0, none⟩)] u (LevP u d g e0 b t (rdT (.at 2) s'))) :
    Calls Tryd.prog 83 #[.pointer (some ⟨d, 0, none⟩), .pointer (some ⟨t, 0, none⟩)] w (LevP w d g e0 b t (rdT (.at 1) s)) := by
  have R := rdT_at 1 (by omega) s
  have R1 := rdT_at 2 (by omega) s
  have c1 := hF s w (Nat.le_refl _) O
  have hmf : ∀ (fn : Fn) (first cap : Array Value) (w : World), (Instr.makeFunc fn first cap).run Tryd.prog w = .ok (.func fn first cap) w := fun _ _ _ _ => rfl
  cases hr : rdT (.at 2) s with
  | bad c x =>
    rw [hr] at R1 c1
    rw [R.det (.lft rfl R1 (.err _ _ _))]
    clear hr R R1 hF
    go_enter Tryd.func83, Tryd.ntmps83
    go_wp2_with (go_at_call 102; (with_reducible refine c1.mono ?_); rintro e u3 ⟨rfl, K3⟩)
    exact ⟨rfl, LevP.fail rfl K3⟩
  | ok s1 =>
    rw [hr] at R1 c1
    have hl1 : s1.ts.length ≤ s.ts.length := R1.len
    obtain ⟨rr, hrr⟩ : ∃ rr, rr = rdT (.lp 1) s1 := ⟨_, rfl⟩
    rw [R.det (.lft rfl R1 (rdT_lp 1 rfl s1)), ← hrr]
    have HR : Hid (rr = rdT (.lp 1) s1) := hrr
    clear hr R R1 hrr
    go_enter Tryd.func83, Tryd.ntmps83
    go_upto_region 1 with (go_at_call 102; (with_reducible refine c1.mono ?_); rintro e u1 ⟨rfl, O1, K1⟩)
    go_loopw [] (fun wr => ∃ sk : Ps, Okp wr d g e0 b t sk ∧ Kl d b w wr ∧ Hid (rr = rdT (.lp 1) sk) ∧ sk.ts.length ≤ s.ts.length) (fun wr => tkLen wr d)
    case atStart => exact ⟨s1, O1, K1, HR, hl1⟩
    case round =>
      clear O1 K1 HR hl1 c1
      obtain ⟨sk, Ok, Kk, HK, hlk⟩ := hrel
      have c2 := ahead_any wr d g e0 sk.o sk.ts Ok.de
      have RL := rdT_lp 1 rfl sk
      by_cases hk : kd sk.ts = 41
      · obtain ⟨ts, o, ns, sp⟩ := sk
        cases ts with
        | nil => simp [kd] at hk
        | cons tk tl =>
          simp only [kd] at hk c2
          simp only [List.length_cons] at hlk
          rw [hk] at c2
          have R2 := rdT_at 2 (by omega) ⟨tl, o, ns, sp⟩
          have c3 := between_any wr d g e0 b t _ enNot (rdT (.at 2) ⟨tl, o, ns, sp⟩) tk tl o ns sp (by omega) Ok R2.inv (fun u Ou => hF _ u (by simp only; omega) Ou)
          have R3 : Rd (.lp 1) (.ok ⟨tk :: tl, o, ns, sp⟩) _ := RL
          cases hr : (rdT (.at 2) ⟨tl, o, ns, sp⟩).bin tk ns.length with
          | bad c x =>
            rw [hr] at c3
            have e9 := R3.det (.more (by simp [opsAt, hk]) R2 (by rw [hr]; exact .err _ _ _))
            have e8 : rr = .bad c x := HK.out.trans e9
            clear RL R2 R3 hr e9 HK hk hF
            go_wp2_with (first
              | (go_at_call 67; (with_reducible refine c2.mono ?_); rintro e u ⟨rfl, rfl⟩)
              | (go_at_call 84; (with_reducible refine c3.mono ?_); rintro e u3 ⟨rfl, K3⟩))
            exact ⟨rfl, LevP.fail (by first | exact e8 | rfl) (Kk.trans K3)⟩
          | ok s2 =>
            rw [hr] at c3
            have hl2 : s2.ts.length ≤ tl.length := by
              have h1 := R2.len
              have h2 := bin_len (rdT (.at 2) ⟨tl, o, ns, sp⟩) tk ns.length
              rw [hr] at h2
              simp only [Rs.len] at h1 h2
              omega
            have e9 := R3.det (.more (by simp [opsAt, hk]) R2 (by rw [hr]; exact rdT_lp 1 rfl s2))
            have HN : Hid (rr = rdT (.lp 1) s2) := HK.out.trans e9
            have hm := Ok.de.tkLen
            clear RL R2 R3 hr e9 HK hk
            go_wp2_with (first
              | (go_at_call 67; (with_reducible refine c2.mono ?_); rintro e u ⟨rfl, rfl⟩)
              | (go_at_call 84; (with_reducible refine c3.mono ?_); rintro e u3 ⟨rfl, O3, K3⟩))
            go_roundw
            case rel => exact ⟨s2, O3, Kk.trans K3, HN, by omega⟩
            case measure => rw [O3.de.tkLen, hm]; simp only [List.length_cons]; omega
      · have q : (kd sk.ts == 41) = false := by simpa using hk
        have e9 := RL.det (.stop (by simp [opsAt, hk]))
        have e8 : rr = .ok sk := HK.out.trans e9
        clear RL e9 HK hk
        generalize kd sk.ts = k0 at *
        go_wp2_with (first
          | (go_at_call 67; (with_reducible refine c2.mono ?_); rintro e u ⟨rfl, rfl⟩))
        go_end0
        exact LevP.good (by first | exact e8 | rfl) Ok Kk
set_option maxRecDepth 100000 in
set_option maxHeartbeats 4000000 in
theorem sum_any (s : Ps) (O : Okp w d g e0 b t s)
    (hF : ∀ (s' : Ps) u, s'.ts.length ≤ s.ts.length → Okp u d g e0 b t s' → Calls Tryd.prog 120 #[.pointer (some ⟨d, 0, none⟩), .pointer (some ⟨t, 0, none⟩)] u (LevP u d g e0 b t (rdT (.at 5) s'))) :
    Calls Tryd.prog 119 #[.pointer (some ⟨d, 0, none⟩), .pointer (some ⟨t, 0, none⟩)] w (LevP w d g e0 b t (rdT (.at 4) s)) := by
  have R := rdT_at 4 (by omega) s
  have R1 := rdT_at 5 (by omega) s
  have c1 := hF s w (Nat.le_refl _) O
  have hmf : ∀ (fn : Fn) (first cap : Array Value) (w : World), (Instr.makeFunc fn first cap).run Tryd.prog w = .ok (.func fn first cap) w := fun _ _ _ _ => rfl
  cases hr : rdT (.at 5) s with
  | bad c x =>
    rw [hr] at R1 c1
    rw [R.det (.lft rfl R1 (.err _ _ _))]
    clear hr R R1 hF
    go_enter Tryd.func119, Tryd.ntmps119
    go_wp2_with (go_at_call 120; (with_reducible refine c1.mono ?_); rintro e u3 ⟨rfl, K3⟩)
    exact ⟨rfl, LevP.fail rfl K3⟩
  | ok s1 =>
    rw [hr] at R1 c1
    have hl1 : s1.ts.length ≤ s.ts.length := R1.len
    obtain ⟨rr, hrr⟩ : ∃ rr, rr = rdT (.lp 4) s1 := ⟨_, rfl⟩
    rw [R.det (.lft rfl R1 (rdT_lp 4 rfl s1)), ← hrr]
    have HR : Hid (rr = rdT (.lp 4) s1) := hrr
    clear hr R R1 hrr
    go_enter Tryd.func119, Tryd.ntmps119
    go_upto_region 1 with (go_at_call 120; (with_reducible refine c1.mono ?_); rintro e u1 ⟨rfl, O1, K1⟩)
    go_loopw [] (fun wr => ∃ sk : Ps, Okp wr d g e0 b t sk ∧ Kl d b w wr ∧ Hid (rr = rdT (.lp 4) sk) ∧ sk.ts.length ≤ s.ts.length) (fun wr => tkLen wr d)
    case atStart => exact ⟨s1, O1, K1, HR, hl1⟩
    case round =>
      clear O1 K1 HR hl1 c1
      obtain ⟨sk, Ok, Kk, HK, hlk⟩ := hrel
      have c2 := ahead_any wr d g e0 sk.o sk.ts Ok.de
      have RL := rdT_lp 4 rfl sk
      by_cases hk : kd sk.ts = 11 ∨ kd sk.ts = 12
      · obtain ⟨ts, o, ns, sp⟩ := sk
        cases ts with
        | nil => simp [kd] at hk
        | cons tk tl =>
          simp only [kd] at hk c2
          simp only [List.length_cons] at hlk
          have R2 := rdT_at 5 (by omega) ⟨tl, o, ns, sp⟩
          have c3 := between_any wr d g e0 b t _ enTerm (rdT (.at 5) ⟨tl, o, ns, sp⟩) tk tl o ns sp (by omega) Ok R2.inv (fun u Ou => hF _ u (by simp only; omega) Ou)
          have R3 : Rd (.lp 4) (.ok ⟨tk :: tl, o, ns, sp⟩) _ := RL
          cases hr : (rdT (.at 5) ⟨tl, o, ns, sp⟩).bin tk ns.length with
          | bad c x =>
            rw [hr] at c3
            have e9 := R3.det (.more (by simp [opsAt, hk]) R2 (by rw [hr]; exact .err _ _ _))
            have e8 : rr = .bad c x := HK.out.trans e9
            clear RL R2 R3 hr e9 HK hF
            rcases hk with hk | hk
            all_goals
             rw [hk] at c2
             clear hk
             go_wp2_with (first
              | (go_at_call 67; (with_reducible refine c2.mono ?_); rintro e u ⟨rfl, rfl⟩)
              | (go_at_call 84; (with_reducible refine c3.mono ?_); rintro e u3 ⟨rfl, K3⟩))
             exact ⟨rfl, LevP.fail (by first | exact e8 | rfl) (Kk.trans K3)⟩
          | ok s2 =>
            rw [hr] at c3
            have hl2 : s2.ts.length ≤ tl.length := by
              have h1 := R2.len
              have h2 := bin_len (rdT (.at 5) ⟨tl, o, ns, sp⟩) tk ns.length
              rw [hr] at h2
              simp only [Rs.len] at h1 h2
              omega
            have e9 := R3.det (.more (by simp [opsAt, hk]) R2 (by rw [hr]; exact rdT_lp 4 rfl s2))
            have HN : Hid (rr = rdT (.lp 4) s2) := HK.out.trans e9
            have hm := Ok.de.tkLen
            clear RL R2 R3 hr e9 HK
            rcases hk with hk | hk
            all_goals
             rw [hk] at c2
             clear hk
             go_wp2_with (first
              | (go_at_call 67; (with_reducible refine c2.mono ?_); rintro e u ⟨rfl, rfl⟩)
              | (go_at_call 84; (with_reducible refine c3.mono ?_); rintro e u3 ⟨rfl, O3, K3⟩))
             go_roundw
             case rel => exact ⟨s2, O3, Kk.trans K3, HN, by omega⟩
             case measure => rw [O3.de.tkLen, hm]; simp only [List.length_cons]; omega
      · have q : (kd sk.ts == 11) = false := by simp; omega
        have q2 : (kd sk.ts == 12) = false := by simp; omega
        have e9 := RL.det (.stop (by simp [opsAt, hk]))
        have e8 : rr = .ok sk := HK.out.trans e9
        clear RL e9 HK hk
        generalize kd sk.ts = k0 at *
        go_wp2_with (first
          | (go_at_call 67; (with_reducible refine c2.mono ?_); rintro e u ⟨rfl, rfl⟩))
        go_end0
        exact LevP.good (by first | exact e8 | rfl) Ok Kk
set_option maxRecDepth 100000 in
set_option maxHeartbeats 4000000 in
theorem term_any (s : Ps) (O : Okp w d g e0 b t s)
    (hF : ∀ (s' : Ps) u, s'.ts.length ≤ s.ts.length → Okp u d g e0 b t s' → Calls Tryd.prog 121 #[.pointer (some ⟨d, 0, none⟩), .pointer (some ⟨t, 0, none⟩)] u (LevP u d g e0 b t (rdT (.at 6) s'))) :
    Calls Tryd.prog 120 #[.pointer (some ⟨d, 0, none⟩), .pointer (some ⟨t, 0, none⟩)] w (LevP w d g e0 b t (rdT (.at 5) s)) := by
  have R := rdT_at 5 (by omega) s
  have R1 := rdT_at 6 (by omega) s
  have c1 := hF s w (Nat.le_refl _) O
  have hmf : ∀ (fn : Fn) (first cap : Array Value) (w : World), (Instr.makeFunc fn first cap).run Tryd.prog w = .ok (.func fn first cap) w := fun _ _ _ _ => rfl
  cases hr : rdT (.at 6) s with
  | bad c x =>
    rw [hr] at R1 c1
    rw [R.det (.lft rfl R1 (.err _ _ _))]
    clear hr R R1 hF
    go_enter Tryd.func120, Tryd.ntmps120
    go_wp2_with (go_at_call 121; (with_reducible refine c1.mono ?_); rintro e u3 ⟨rfl, K3⟩)
    exact ⟨rfl, LevP.fail rfl K3⟩
  | ok s1 =>
    rw [hr] at R1 c1
    have hl1 : s1.ts.length ≤ s.ts.length := R1.len
    obtain ⟨rr, hrr⟩ : ∃ rr, rr = rdT (.lp 5) s1 := ⟨_, rfl⟩
    rw [R.det (.lft rfl R1 (rdT_lp 5 rfl s1)), ← hrr]
    have HR : Hid (rr = rdT (.lp 5) s1) := hrr
    clear hr R R1 hrr
    go_enter Tryd.func120, Tryd.ntmps120
    go_upto_region 1 with (go_at_call 121; (with_reducible refine c1.mono ?_); rintro e u1 ⟨rfl, O1, K1⟩)
    have c2 := ahead_any u1 d g e0 s1.o s1.ts O1.de
    go_upto_region 2 with (go_at_call 67; (with_reducible refine c2.mono ?_); rintro e u ⟨rfl, rfl⟩)
    clear c2
    go_loopw [4] (fun x wr => ∃ sk : Ps, x = .int .i64 (kd sk.ts) ∧ Okp wr d g e0 b t sk ∧ Kl d b w wr ∧ Hid (rr = rdT (.lp 5) sk) ∧ sk.ts.length ≤ s.ts.length) (fun _ wr => tkLen wr d)
    case atStart => exact ⟨s1, rfl, O1, K1, HR, hl1⟩
    case round =>
      clear O1 K1 HR hl1 c1
      obtain ⟨sk, rfl, Ok, Kk, HK, hlk⟩ := hrel
      have RL := rdT_lp 5 rfl sk
      by_cases hk : 13 ≤ kd sk.ts ∧ kd sk.ts ≤ 15
      · obtain ⟨ts, o, ns, sp⟩ := sk
        cases ts with
        | nil => simp [kd] at hk
        | cons tk tl =>
          simp only [kd] at hk
          obtain ⟨hk1, hk2⟩ := hk
          simp only [List.length_cons] at hlk
          have R2 := rdT_at 6 (by omega) ⟨tl, o, ns, sp⟩
          have c3 := between_any wr d g e0 b t _ enMinus (rdT (.at 6) ⟨tl, o, ns, sp⟩) tk tl o ns sp (by omega) Ok R2.inv (fun u Ou => hF _ u (by simp only; omega) Ou)
          have R3 : Rd (.lp 5) (.ok ⟨tk :: tl, o, ns, sp⟩) _ := RL
          cases hr : (rdT (.at 6) ⟨tl, o, ns, sp⟩).bin tk ns.length with
          | bad c x =>
            rw [hr] at c3
            have e9 := R3.det (.more (by simp [opsAt]; omega) R2 (by rw [hr]; exact .err _ _ _))
            have e8 : rr = .bad c x := HK.out.trans e9
            clear RL R2 R3 hr e9 HK hF
            have ek : kd (tk :: tl) = tk.k := rfl
            rw [ek]
            go_wp2_with (first
              | (go_at_call 84; (with_reducible refine c3.mono ?_); rintro e u3 ⟨rfl, K3⟩))
            exact ⟨rfl, LevP.fail (by first | exact e8 | rfl) (Kk.trans K3)⟩
          | ok s2 =>
            rw [hr] at c3
            have hl2 : s2.ts.length ≤ tl.length := by
              have h1 := R2.len
              have h2 := bin_len (rdT (.at 6) ⟨tl, o, ns, sp⟩) tk ns.length
              rw [hr] at h2
              simp only [Rs.len] at h1 h2
              omega
            have e9 := R3.det (.more (by simp [opsAt]; omega) R2 (by rw [hr]; exact rdT_lp 5 rfl s2))
            have HN : Hid (rr = rdT (.lp 5) s2) := HK.out.trans e9
            have hm := Ok.de.tkLen
            clear RL R2 R3 hr e9 HK
            have ek : kd (tk :: tl) = tk.k := rfl
            rw [ek]
            go_wp2_with (first
              | (go_at_call 84; (with_reducible refine c3.mono ?_); rintro e u3 ⟨rfl, O3, K3⟩; have c4 := ahead_any u3 d g e0 s2.o s2.ts O3.de)
              | (go_at_call 67; (with_reducible refine c4.mono ?_); rintro e u ⟨rfl, rfl⟩))
            go_roundw
            case rel => exact ⟨s2, rfl, O3, Kk.trans K3, HN, by omega⟩
            case measure => rw [O3.de.tkLen, hm]; simp only [List.length_cons]; omega
      · have e9 := RL.det (.stop (by simp [opsAt]; omega))
        have e8 : rr = .ok sk := HK.out.trans e9
        clear RL e9 HK
        generalize kd sk.ts = k0 at *
        by_cases h1 : 13 ≤ k0
        · have q1 : decide (k0 ≤ 15) = false := decide_eq_false (fun h => hk ⟨h1, h⟩)
          clear hk
          go_wp2_with fail
          go_end0
          exact LevP.good (by first | exact e8 | rfl) Ok Kk
        · have q1 : decide (13 ≤ k0) = false := decide_eq_false h1
          clear hk h1
          go_wp2_with fail
          go_end0
          exact LevP.good (by first | exact e8 | rfl) Ok Kk
set_option maxRecDepth 100000 in
set_option maxHeartbeats 4000000 in
theorem comp_any (s : Ps) (O : Okp w d g e0 b t s)
    (hF : ∀ (s' : Ps) u, s'.ts.length ≤ s.ts.length → Okp u d g e0 b t s' → Calls Tryd.prog 119 #[.pointer (some ⟨d, 0, none⟩), .pointer (some ⟨t, 0, none⟩)] u (LevP u d g e0 b t (rdT (.at 4) s'))) :
    Calls Tryd.prog 116 #[.pointer (some ⟨d, 0, none⟩), .pointer (some ⟨t, 0, none⟩)] w (LevP w d g e0 b t (rdT (.at 3) s)) := by
  have R := rdT_at 3 (by omega) s
  have R1 := rdT_at 4 (by omega) s
  have c1 := hF s w (Nat.le_refl _) O
  have hmf : ∀ (fn : Fn) (first cap : Array Value) (w : World), (Instr.makeFunc fn first cap).run Tryd.prog w = .ok (.func fn first cap) w := fun _ _ _ _ => rfl
  cases hr : rdT (.at 4) s with
  | bad c x =>
    rw [hr] at R1 c1
    rw [R.det (.cmp R1 (.err _ _ _))]
    clear hr R R1 hF
    go_enter Tryd.func116, Tryd.ntmps116
    go_wp2_with (go_at_call 119; (with_reducible refine c1.mono ?_); rintro e u3 ⟨rfl, K3⟩)
    exact ⟨rfl, LevP.fail rfl K3⟩
  | ok s1 =>
    rw [hr] at R1 c1
    have hl1 : s1.ts.length ≤ s.ts.length := R1.len
    rw [R.det (.cmp R1 (rdT_cp s1))]
    have RL := rdT_cp s1
    clear hr R R1
    by_cases hk : 16 ≤ kd s1.ts ∧ kd s1.ts ≤ 21
    · obtain ⟨ts, o, ns, sp⟩ := s1
      cases ts with
      | nil => simp [kd] at hk
      | cons tk tl =>
        simp only [kd] at hk
        obtain ⟨hk1, hk2⟩ := hk
        simp only [List.length_cons] at hl1
        have R2 := rdT_at 4 (by omega) ⟨tl, o, ns, sp⟩
        rw [RL.det (.cmore (by simp [opsAt]; omega) R2)]
        have c3 := fun u Ok => between_any u d g e0 b t _ enSum (rdT (.at 4) ⟨tl, o, ns, sp⟩) tk tl o ns sp (by omega) Ok R2.inv (fun v Ov => hF _ v (by simp only; omega) Ov)
        cases hr : (rdT (.at 4) ⟨tl, o, ns, sp⟩).bin tk ns.length with
        | bad c x =>
          rw [hr] at c3
          clear RL R2 hr hF
          go_enter Tryd.func116, Tryd.ntmps116
          go_wp2_with (first
            | (go_at_call 119; (with_reducible refine c1.mono ?_); rintro e u1 ⟨rfl, O1, K1⟩; have c2 := ahead_any u1 d g e0 _ _ O1.de; have c4 := c3 u1 O1; simp only [kd] at c2)
            | (go_at_call 67; (with_reducible refine c2.mono ?_); rintro e u ⟨rfl, rfl⟩)
            | (go_at_call 84; (with_reducible refine c4.mono ?_); rintro e u3 ⟨rfl, K3⟩))
          exact ⟨rfl, LevP.fail rfl (K1.trans K3)⟩
        | ok s2 =>
          rw [hr] at c3
          clear RL R2 hr hF
          go_enter Tryd.func116, Tryd.ntmps116
          go_wp2_with (first
            | (go_at_call 119; (with_reducible refine c1.mono ?_); rintro e u1 ⟨rfl, O1, K1⟩; have c2 := ahead_any u1 d g e0 _ _ O1.de; have c4 := c3 u1 O1; simp only [kd] at c2)
            | (go_at_call 67; (with_reducible refine c2.mono ?_); rintro e u ⟨rfl, rfl⟩)
            | (go_at_call 84; (with_reducible refine c4.mono ?_); rintro e u3 ⟨rfl, O3, K3⟩))
          go_end0
          exact LevP.good rfl O3 (K1.trans K3)
    · rw [RL.det (.cstop (by simp [opsAt]; omega))]
      clear RL hF
      have c2 := fun u (O1 : Okp u d g e0 b t s1) => ahead_any u d g e0 _ _ O1.de
      generalize kd s1.ts = k0 at *
      by_cases h1 : 16 ≤ k0
      · have q1 : decide (k0 ≤ 21) = false := decide_eq_false (fun h => hk ⟨h1, h⟩)
        clear hk
        go_enter Tryd.func116, Tryd.ntmps116
        go_wp2_with (first
          | (go_at_call 119; (with_reducible refine c1.mono ?_); rintro e u1 ⟨rfl, O1, K1⟩)
          | (go_at_call 67; (with_reducible refine (c2 _ O1).mono ?_); rintro e u ⟨rfl, rfl⟩))
        go_end0
        exact LevP.good rfl O1 K1
      · have q1 : decide (16 ≤ k0) = false := decide_eq_false h1
        clear hk h1
        go_enter Tryd.func116, Tryd.ntmps116
        go_wp2_with (first
          | (go_at_call 119; (with_reducible refine c1.mono ?_); rintro e u1 ⟨rfl, O1, K1⟩)
          | (go_at_call 67; (with_reducible refine (c2 _ O1).mono ?_); rintro e u ⟨rfl, rfl⟩))
        go_end0
        exact LevP.good rfl O1 K1
set_option maxRecDepth 100000 in
set_option maxHeartbeats 4000000 in
theorem not_any (s : Ps) (O : Okp w d g e0 b t s)
    (hF : ∀ (s' : Ps) u, s'.ts.length < s.ts.length → Okp u d g e0 b t s' → Calls Tryd.prog 102 #[.pointer (some ⟨d, 0, none⟩), .pointer (some ⟨t, 0, none⟩)] u (LevP u d g e0 b t (rdT (.at 2) s')))
    (hG : Calls Tryd.prog 116 #[.pointer (some ⟨d, 0, none⟩), .pointer (some ⟨t, 0, none⟩)] w (LevP w d g e0 b t (rdT (.at 3) s))) :
    Calls Tryd.prog 102 #[.pointer (some ⟨d, 0, none⟩), .pointer (some ⟨t, 0, none⟩)] w (LevP w d g e0 b t (rdT (.at 2) s)) := by
  have R := rdT_at 2 (by omega) s
  have c2 := ahead_any w d g e0 s.o s.ts O.de
  have hmf : ∀ (fn : Fn) (first cap : Array Value) (w : World), (Instr.makeFunc fn first cap).run Tryd.prog w = .ok (.func fn first cap) w := fun _ _ _ _ => rfl
  by_cases hk : kd s.ts = 43
  · obtain ⟨ts, o, ns, sp⟩ := s
    cases ts with
    | nil => simp [kd] at hk
    | cons tk tl =>
      simp only [kd] at hk c2
      rw [hk] at c2
      have ho := O.o32
      simp only at ho
      by_cases h32 : o = 32
      · subst h32
        rw [R.det (.deep rfl hk)]
        have c3 := ofOne_deep w d g e0 b t (.func (.func 102) #[.pointer (some ⟨d, 0, none⟩)] #[]) 13 tk tl ns sp O
        clear hF hG hk R
        go_enter Tryd.func102, Tryd.ntmps102
        go_wp2_with (first
          | (go_at_call 67; (with_reducible refine c2.mono ?_); rintro e u ⟨rfl, rfl⟩)
          | (go_at_call 115; (with_reducible refine c3.mono ?_); rintro e u3 ⟨rfl, K3⟩))
        exact ⟨rfl, LevP.fail rfl K3⟩
      · have R2 := rdT_at 2 (by omega) ⟨tl, o + 1, ns, sp⟩
        have c3 := ofOne_any w d g e0 b t _ enNot 13 (rdT (.at 2) ⟨tl, o + 1, ns, sp⟩) tk tl o (by omega) ns sp O R2.inv (fun u Ou => hF _ u (by simp) Ou)
        rw [R.det (.pre rfl hk h32 R2)]
        have eo : preO 2 = 13 := rfl
        rw [eo]
        cases hr : (rdT (.at 2) ⟨tl, o + 1, ns, sp⟩).un 13 tk with
        | bad c x =>
          rw [hr] at c3
          clear hF hG hk R R2 hr
          go_enter Tryd.func102, Tryd.ntmps102
          go_wp2_with (first
            | (go_at_call 67; (with_reducible refine c2.mono ?_); rintro e u ⟨rfl, rfl⟩)
            | (go_at_call 115; (with_reducible refine c3.mono ?_); rintro e u3 ⟨rfl, K3⟩))
          exact ⟨rfl, LevP.fail rfl K3⟩
        | ok s2 =>
          rw [hr] at c3
          clear hF hG hk R R2 hr
          go_enter Tryd.func102, Tryd.ntmps102
          go_wp2_with (first
            | (go_at_call 67; (with_reducible refine c2.mono ?_); rintro e u ⟨rfl, rfl⟩)
            | (go_at_call 115; (with_reducible refine c3.mono ?_); rintro e u3 ⟨rfl, O3, K3⟩))
          first | go_end0 | refine bodyPost_ret (results_none rfl _ _ _) rfl ?_
          exact LevP.good rfl O3 K3
  · have q : (kd s.ts == 43) = false := by simpa using hk
    rw [R.det (.thru rfl hk (rdT_at 3 (by omega) s))]
    clear R hk hF
    generalize kd s.ts = k0 at *
    cases hr : rdT (.at 3) s with
    | bad c x =>
      rw [hr] at hG
      clear hr
      go_enter Tryd.func102, Tryd.ntmps102
      go_wp2_with (first
        | (go_at_call 67; (with_reducible refine c2.mono ?_); rintro e u ⟨rfl, rfl⟩)
        | (go_at_call 116; (with_reducible refine hG.mono ?_); rintro e u3 ⟨rfl, K3⟩))
      exact ⟨rfl, LevP.fail rfl K3⟩
    | ok s2 =>
      rw [hr] at hG
      clear hr
      go_enter Tryd.func102, Tryd.ntmps102
      go_wp2_with (first
        | (go_at_call 67; (with_reducible refine c2.mono ?_); rintro e u ⟨rfl, rfl⟩)
        | (go_at_call 116; (with_reducible refine hG.mono ?_); rintro e u3 ⟨rfl, O3, K3⟩))
      first | go_end0 | refine bodyPost_ret (results_none rfl _ _ _) rfl ?_
      exact LevP.good rfl O3 K3
set_option maxRecDepth 100000 in
set_option maxHeartbeats 4000000 in
theorem minus_any (s : Ps) (O : Okp w d g e0 b t s)
    (hF : ∀ (s' : Ps) u, s'.ts.length < s.ts.length → Okp u d g e0 b t s' → Calls Tryd.prog 121 #[.pointer (some ⟨d, 0, none⟩), .pointer (some ⟨t, 0, none⟩)] u (LevP u d g e0 b t (rdT (.at 6) s')))
    (hG : Calls Tryd.prog 122 #[.pointer (some ⟨d, 0, none⟩), .pointer (some ⟨t, 0, none⟩)] w (LevP w d g e0 b t (rdT (.at 7) s))) :
    Calls Tryd.prog 121 #[.pointer (some ⟨d, 0, none⟩), .pointer (some ⟨t, 0, none⟩)] w (LevP w d g e0 b t (rdT (.at 6) s)) := by
  have R := rdT_at 6 (by omega) s
  have c2 := ahead_any w d g e0 s.o s.ts O.de
  have hmf : ∀ (fn : Fn) (first cap : Array Value) (w : World), (Instr.makeFunc fn first cap).run Tryd.prog w = .ok (.func fn first cap) w := fun _ _ _ _ => rfl
  by_cases hk : kd s.ts = 12
  · obtain ⟨ts, o, ns, sp⟩ := s
    cases ts with
    | nil => simp [kd] at hk
    | cons tk tl =>
      simp only [kd] at hk c2
      rw [hk] at c2
      have ho := O.o32
      simp only at ho
      by_cases h32 : o = 32
      · subst h32
        rw [R.det (.deep rfl hk)]
        have c3 := ofOne_deep w d g e0 b t (.func (.func 121) #[.pointer (some ⟨d, 0, none⟩)] #[]) 12 tk tl ns sp O
        clear hF hG hk R
        go_enter Tryd.func121, Tryd.ntmps121
        go_wp2_with (first
          | (go_at_call 67; (with_reducible refine c2.mono ?_); rintro e u ⟨rfl, rfl⟩)
          | (go_at_call 115; (with_reducible refine c3.mono ?_); rintro e u3 ⟨rfl, K3⟩))
        exact ⟨rfl, LevP.fail rfl K3⟩
      · have R2 := rdT_at 6 (by omega) ⟨tl, o + 1, ns, sp⟩
        have c3 := ofOne_any w d g e0 b t _ enMinus 12 (rdT (.at 6) ⟨tl, o + 1, ns, sp⟩) tk tl o (by omega) ns sp O R2.inv (fun u Ou => hF _ u (by simp) Ou)
        rw [R.det (.pre rfl hk h32 R2)]
        have eo : preO 6 = 12 := rfl
        rw [eo]
        cases hr : (rdT (.at 6) ⟨tl, o + 1, ns, sp⟩).un 12 tk with
        | bad c x =>
          rw [hr] at c3
          clear hF hG hk R R2 hr
          go_enter Tryd.func121, Tryd.ntmps121
          go_wp2_with (first
            | (go_at_call 67; (with_reducible refine c2.mono ?_); rintro e u ⟨rfl, rfl⟩)
            | (go_at_call 115; (with_reducible refine c3.mono ?_); rintro e u3 ⟨rfl, K3⟩))
          exact ⟨rfl, LevP.fail rfl K3⟩
        | ok s2 =>
          rw [hr] at c3
          clear hF hG hk R R2 hr
          go_enter Tryd.func121, Tryd.ntmps121
          go_wp2_with (first
            | (go_at_call 67; (with_reducible refine c2.mono ?_); rintro e u ⟨rfl, rfl⟩)
            | (go_at_call 115; (with_reducible refine c3.mono ?_); rintro e u3 ⟨rfl, O3, K3⟩))
          first | go_end0 | refine bodyPost_ret (results_none rfl _ _ _) rfl ?_
          exact LevP.good rfl O3 K3
  · have q : (kd s.ts == 12) = false := by simpa using hk
    rw [R.det (.thru rfl hk (rdT_at 7 (by omega) s))]
    clear R hk hF
    generalize kd s.ts = k0 at *
    cases hr : rdT (.at 7) s with
    | bad c x =>
      rw [hr] at hG
      clear hr
      go_enter Tryd.func121, Tryd.ntmps121
      go_wp2_with (first
        | (go_at_call 67; (with_reducible refine c2.mono ?_); rintro e u ⟨rfl, rfl⟩)
        | (go_at_call 122; (with_reducible refine hG.mono ?_); rintro e u3 ⟨rfl, K3⟩))
      exact ⟨rfl, LevP.fail rfl K3⟩
    | ok s2 =>
      rw [hr] at hG
      clear hr
      go_enter Tryd.func121, Tryd.ntmps121
      go_wp2_with (first
        | (go_at_call 67; (with_reducible refine c2.mono ?_); rintro e u ⟨rfl, rfl⟩)
        | (go_at_call 122; (with_reducible refine hG.mono ?_); rintro e u3 ⟨rfl, O3, K3⟩))
      first | go_end0 | refine bodyPost_ret (results_none rfl _ _ _) rfl ?_
      exact LevP.good rfl O3 K3
/-- Every level comes to what the grammar says. -/
theorem levels : ∀ (M : Nat) (s : Ps) (w : World), Okp w d g e0 b t s → 
    (10 * s.ts.length + 8 ≤ M → Calls Tryd.prog 65 #[.pointer (some ⟨d, 0, none⟩), .pointer (some ⟨t, 0, none⟩)] w (LevP w d g e0 b t (rdT (.at 0) s))) ∧
    (10 * s.ts.length + 7 ≤ M → Calls Tryd.prog 83 #[.pointer (some ⟨d, 0, none⟩), .pointer (some ⟨t, 0, none⟩)] w (LevP w d g e0 b t (rdT (.at 1) s))) ∧
    (10 * s.ts.length + 6 ≤ M → Calls Tryd.prog 102 #[.pointer (some ⟨d, 0, none⟩), .pointer (some ⟨t, 0, none⟩)] w (LevP w d g e0 b t (rdT (.at 2) s))) ∧
    (10 * s.ts.length + 5 ≤ M → Calls Tryd.prog 116 #[.pointer (some ⟨d, 0, none⟩), .pointer (some ⟨t, 0, none⟩)] w (LevP w d g e0 b t (rdT (.at 3) s))) ∧
    (10 * s.ts.length + 4 ≤ M → Calls Tryd.prog 119 #[.pointer (some ⟨d, 0, none⟩), .pointer (some ⟨t, 0, none⟩)] w (LevP w d g e0 b t (rdT (.at 4) s))) ∧
    (10 * s.ts.length + 3 ≤ M → Calls Tryd.prog 120 #[.pointer (some ⟨d, 0, none⟩), .pointer (some ⟨t, 0, none⟩)] w (LevP w d g e0 b t (rdT (.at 5) s))) ∧
    (10 * s.ts.length + 2 ≤ M → Calls Tryd.prog 121 #[.pointer (some ⟨d, 0, none⟩), .pointer (some ⟨t, 0, none⟩)] w (LevP w d g e0 b t (rdT (.at 6) s))) ∧
    (10 * s.ts.length + 1 ≤ M → Calls Tryd.prog 122 #[.pointer (some ⟨d, 0, none⟩), .pointer (some ⟨t, 0, none⟩)] w (LevP w d g e0 b t (rdT (.at 7) s))) := by
  intro M
  induction M with
  | zero => intro s w O; refine ⟨fun h => ?_, fun h => ?_, fun h => ?_, fun h => ?_, fun h => ?_, fun h => ?_, fun h => ?_, fun h => ?_⟩ <;> omega
  | succ M ih =>
    intro s w O
    refine ⟨fun h => ?_, fun h => ?_, fun h => ?_, fun h => ?_, fun h => ?_, fun h => ?_, fun h => ?_, fun h => ?_⟩
    · exact expr_any w d g e0 b t s O (fun s' u hl Ou => (ih s' u Ou).2.1 (by omega))
    · exact and_any w d g e0 b t s O (fun s' u hl Ou => (ih s' u Ou).2.2.1 (by omega))
    · exact not_any w d g e0 b t s O (fun s' u hl Ou => (ih s' u Ou).2.2.1 (by omega)) ((ih s w O).2.2.2.1 (by omega))
    · exact comp_any w d g e0 b t s O (fun s' u hl Ou => (ih s' u Ou).2.2.2.2.1 (by omega))
    · exact sum_any w d g e0 b t s O (fun s' u hl Ou => (ih s' u Ou).2.2.2.2.2.1 (by omega))
    · exact term_any w d g e0 b t s O (fun s' u hl Ou => (ih s' u Ou).2.2.2.2.2.2.1 (by omega))
    · exact minus_any w d g e0 b t s O (fun s' u hl Ou => (ih s' u Ou).2.2.2.2.2.2.1 (by omega)) ((ih s w O).2.2.2.2.2.2.2 (by omega))
    · exact atom_any w d g e0 b t s O (fun s' u hl Ou => (ih s' u Ou).1 (by omega))
end

end Go.Proofs.YtmoimmghmmomlaaDoor
