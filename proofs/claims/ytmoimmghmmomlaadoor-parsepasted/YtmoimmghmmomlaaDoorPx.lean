/- The levels with operators that bind to the left. -/
import Derived.Test.YtmoimmghmmomlaaDoorPw
import Derived.Shelf.Abstract
namespace Go.Proofs.YtmoimmghmmomlaaDoor
open Go.RowKit Go.BigFrame
set_option linter.unusedVariables false
set_option linter.unusedSimpArgs false

theorem enAnd : ∀ (args : Array Value) (v : World), (callFunc 83 args).run Tryd.prog v = .ok (.enter 83 args) v := enters_of Tryd.func83 (by kernel_rfl) rfl
theorem enNot : ∀ (args : Array Value) (v : World), (callFunc 102 args).run Tryd.prog v = .ok (.enter 102 args) v := enters_of Tryd.func102 (by kernel_rfl) rfl
theorem enSum : ∀ (args : Array Value) (v : World), (callFunc 119 args).run Tryd.prog v = .ok (.enter 119 args) v := enters_of Tryd.func119 (by kernel_rfl) rfl
theorem enTerm : ∀ (args : Array Value) (v : World), (callFunc 120 args).run Tryd.prog v = .ok (.enter 120 args) v := enters_of Tryd.func120 (by kernel_rfl) rfl
theorem enMinus : ∀ (args : Array Value) (v : World), (callFunc 121 args).run Tryd.prog v = .ok (.enter 121 args) v := enters_of Tryd.func121 (by kernel_rfl) rfl

/-- How many tokens a descent has still. -/
def tkLen (w : World) (d : Nat) : Nat := match w.cell? ⟨d, 0, none⟩ with | some (.slice _ n _) => n | _ => 0
theorem De.tkLen {w : World} {d g : Nat} {e : Int} {ts : List Tok} {o : Nat} (h : De w d g e ts o) : tkLen w d = ts.length := by
  obtain ⟨ao, c, h0, _⟩ := De.open_ w d g e o h
  unfold Go.Proofs.YtmoimmghmmomlaaDoor.tkLen
  rw [h0]

section
variable (w : World) (d g : Nat) (e0 : Int) (b t : Nat)
set_option maxRecDepth 100000 in
set_option maxHeartbeats 4000000 in
theorem expr_any (s : Ps) (O : Okp w d g e0 b t s)
    (hF : ∀ (s' : Ps) u, s'.ts.length ≤ s.ts.length → Okp u d g e0 b t s' → Calls Tryd.prog 83 #[.pointer (some ⟨d, 0, none⟩), .pointer (some ⟨t, 0, none⟩)] u (LevP u d g e0 b t (rdT (.at 1) s'))) :
    Calls Tryd.prog 65 #[.pointer (some ⟨d, 0, none⟩), .pointer (some ⟨t, 0, none⟩)] w (LevP w d g e0 b t (rdT (.at 0) s)) := by
  have R := rdT_at 0 (by omega) s
  have R1 := rdT_at 1 (by omega) s
  have c1 := hF s w (Nat.le_refl _) O
  have hmf : ∀ (fn : Fn) (first cap : Array Value) (w : World), (Instr.makeFunc fn first cap).run Tryd.prog w = .ok (.func fn first cap) w := fun _ _ _ _ => rfl
  cases hr : rdT (.at 1) s with
  | bad c x =>
    rw [hr] at R1 c1
    rw [R.det (.lft rfl R1 (.err _ _ _))]
    clear hr R R1 hF
    go_enter Tryd.func65, Tryd.ntmps65
    go_wp2_with (go_at_call 83; (with_reducible refine c1.mono ?_); rintro e u3 ⟨rfl, K3⟩)
    exact ⟨rfl, LevP.fail rfl K3⟩
  | ok s1 =>
    rw [hr] at R1 c1
    have hl1 : s1.ts.length ≤ s.ts.length := R1.len
    obtain ⟨rr, hrr⟩ : ∃ rr, rr = rdT (.lp 0) s1 := ⟨_, rfl⟩
    rw [R.det (.lft rfl R1 (rdT_lp 0 rfl s1)), ← hrr]
    have HR : Hid (rr = rdT (.lp 0) s1) := hrr
    clear hr R R1 hrr
    go_enter Tryd.func65, Tryd.ntmps65
    go_upto_region 1 with (go_at_call 83; (with_reducible refine c1.mono ?_); rintro e u1 ⟨rfl, O1, K1⟩)
    go_loopw [] (fun wr => ∃ sk : Ps, Okp wr d g e0 b t sk ∧ Kl d b w wr ∧ Hid (rr = rdT (.lp 0) sk) ∧ sk.ts.length ≤ s.ts.length) (fun wr => tkLen wr d)
    case atStart => exact ⟨s1, O1, K1, HR, hl1⟩
    case round =>
      clear O1 K1 HR hl1 c1
      obtain ⟨sk, Ok, Kk, HK, hlk⟩ := hrel
      have c2 := ahead_any wr d g e0 sk.o sk.ts Ok.de
      have RL := rdT_lp 0 rfl sk
      by_cases hk : kd sk.ts = 42
      · obtain ⟨ts, o, ns, sp⟩ := sk
        cases ts with
        | nil => simp [kd] at hk
        | cons tk tl =>
          simp only [kd] at hk c2
          simp only [List.length_cons] at hlk
          rw [hk] at c2
          have R2 := rdT_at 1 (by omega) ⟨tl, o, ns, sp⟩
          have c3 := between_any wr d g e0 b t _ enAnd (rdT (.at 1) ⟨tl, o, ns, sp⟩) tk tl o ns sp (by omega) Ok R2.inv (fun u Ou => hF _ u (by simp only; omega) Ou)
          have R3 : Rd (.lp 0) (.ok ⟨tk :: tl, o, ns, sp⟩) _ := RL
          cases hr : (rdT (.at 1) ⟨tl, o, ns, sp⟩).bin tk ns.length with
          | bad c x =>
            rw [hr] at c3
            have e9 := R3.det (.more (by simp [opsAt, hk]) R2 (by rw [hr]; exact .err _ _ _))
            have e8 : rr = .bad c x := HK.out.trans e9
            clear RL R2 R3 hr e9 HK hk hF
            go_wp2_with (first
              | (go_at_call 67; (with_reducible refine c2.mono ?_); rintro e u ⟨rfl, rfl⟩)
              | (go_at_call 84; (with_reducible refine c3.mono ?_); rintro e u3 ⟨rfl, K3⟩))
            exact ⟨rfl, LevP.fail (by first | exact e8 | rfl) (Kk.trans K3)⟩
          | ok s2 =>
            rw [hr] at c3
            have hl2 : s2.ts.length ≤ tl.length := by
              have h1 := R2.len
              have h2 := bin_len (rdT (.at 1) ⟨tl, o, ns, sp⟩) tk ns.length
              rw [hr] at h2
              simp only [Rs.len] at h1 h2
              omega
            have e9 := R3.det (.more (by simp [opsAt, hk]) R2 (by rw [hr]; exact rdT_lp 0 rfl s2))
            have HN : Hid (rr = rdT (.lp 0) s2) := HK.out.trans e9
            have hm := Ok.de.tkLen
            clear RL R2 R3 hr e9 HK hk
            go_wp2_with (first
              | (go_at_call 67; (with_reducible refine c2.mono ?_); rintro e u ⟨rfl, rfl⟩)
              | (go_at_call 84; (with_reducible refine c3.mono ?_); rintro e u3 ⟨rfl, O3, K3⟩))
            go_roundw
            case rel => exact ⟨s2, O3, Kk.trans K3, HN, by omega⟩
            case measure => rw [O3.de.tkLen, hm]; simp only [List.length_cons]; omega
      · have q : (kd sk.ts == 42) = false := by simpa using hk
        have e9 := RL.det (.stop (by simp [opsAt, hk]))
        have e8 : rr = .ok sk := HK.out.trans e9
        clear RL e9 HK hk
        generalize kd sk.ts = k0 at *
        go_wp2_with (first
          | (go_at_call 67; (with_reducible refine c2.mono ?_); rintro e u ⟨rfl, rfl⟩))
        go_end0
        exact LevP.good (by first | exact e8 | rfl) Ok Kk
end

end Go.Proofs.YtmoimmghmmomlaaDoor
