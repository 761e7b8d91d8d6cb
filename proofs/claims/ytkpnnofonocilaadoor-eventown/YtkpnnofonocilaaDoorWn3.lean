/- What event's number and identity come to. -/
import Derived.Test.YtkpnnofonocilaaDoorWn2
namespace Go.Proofs.YtkpnnofonocilaaDoor
open Go.RowKit Go.BigFrame Go.Shelf
set_option linter.unusedVariables false
set_option linter.unusedSimpArgs false

set_option maxHeartbeats 4000000 in
theorem hasPrefix_any (x : ByteArray) (hs : x.size ≤ 281474976710656) (w : World) :
    Calls Tryd.prog 102 #[.string x, .string ⟨#[45]⟩] w fun e w' => e = .returned (.bool (hasM x)) ∧ Below w.heap.size w w' := by
  obtain ⟨z, hz⟩ : ∃ z, hasM x = z := ⟨_, rfl⟩
  rw [hz]
  have HZ : Hid ((decide (0 < x.size) && (at_ x 0 == 45)) = z) := hz
  clear hz
  by_cases h0 : 0 < x.size
  · rw [decide_eq_true h0, Bool.true_and, ← hasM_slice x h0] at HZ
    have q1 : (1 : Int) ≤ (x.size : Int) := by omega
    cases hx : ((x.extract 0 1).toList == [45])
    all_goals
      rw [hx] at HZ
      go_enter Tryd.func102, Tryd.ntmps102
      go_wp2
      go_ret
      exact ⟨by rw [← HZ.out]; rfl, Below.refl _ _⟩
  · rw [decide_eq_false h0, Bool.false_and] at HZ
    have q1 : ¬ (1 : Int) ≤ (x.size : Int) := by omega
    go_enter Tryd.func102, Tryd.ntmps102
    go_wp2
    go_ret
    exact ⟨by rw [← HZ.out]; rfl, Below.refl _ _⟩
theorem hasM_pos {x : ByteArray} (h : hasM x = true) : 0 < x.size := by
  unfold hasM at h
  exact of_decide_eq_true (Bool.and_eq_true_iff.1 h).1
set_option maxHeartbeats 4000000 in
theorem trimIn_any (x : ByteArray) (hs : x.size ≤ 281474976710656) (w : World) :
    Calls Tryd.prog 91 #[.string x, .string ⟨#[45]⟩] w fun e w' => e = .returned (.string (trimM x)) ∧ Below w.heap.size w w' := by
  have c := hasPrefix_any x hs w
  have hz : trimM x = if hasM x = true then x.extract 1 x.size else x := rfl
  cases hm : hasM x
  · rw [hm, if_neg (by decide)] at hz
    rw [hm] at c
    rw [hz]
    clear hz
    go_enter Tryd.func91, Tryd.ntmps91
    go_wp2_with (go_at_call 102; with_reducible refine c.mono ?_; rintro e u ⟨rfl, g⟩)
    go_ret
    exact ⟨rfl, g⟩
  · rw [hm, if_pos rfl] at hz
    rw [hm] at c
    rw [hz]
    clear hz
    have h0 := hasM_pos hm
    have q1 : (1 : Int) ≤ (x.size : Int) := by omega
    go_enter Tryd.func91, Tryd.ntmps91
    go_wp2_with (go_at_call 102; with_reducible refine c.mono ?_; rintro e u ⟨rfl, g⟩)
    go_ret
    exact ⟨rfl, g⟩
set_option maxHeartbeats 4000000 in
theorem trim_any (x : ByteArray) (hs : x.size ≤ 281474976710656) (w : World) :
    Calls Tryd.prog 78 #[.string x, .string ⟨#[45]⟩] w fun e w' => e = .returned (.string (trimM x)) ∧ Below w.heap.size w w' := by
  have c := trimIn_any x hs w
  generalize trimM x = y at *
  go_enter Tryd.func78, Tryd.ntmps78
  go_wp2_with (go_at_call 91; with_reducible refine c.mono ?_; rintro e u ⟨rfl, g⟩)
  go_ret
  exact ⟨rfl, g⟩
set_option maxHeartbeats 4000000 in
theorem number_any (x : ByteArray) (hs : x.size ≤ 281474976710656) (w : World) (E : ErAt w) :
    Calls Tryd.prog 52 #[.string x] w fun e w' => (∃ n, e = .returned (.tuple #[.int .i64 n, .bool (numO x).isSome]) ∧ (numO x = none ∨ numO x = some n)) ∧ Below w.heap.size w w' := by
  have c1 := fun (u : World) => trim_any x hs u
  have c2 := fun (u : World) => areDigits_any (trimM x) u
  have hz : numO x = if dgs (trimM x) = true then (match Lib.parseIntB 64 x.data.toList with | .ok v => some v | _ => none) else none := rfl
  have hsy := intB_no x
  have c3 := fun v h (u : World) => parseInt_ok x hs v h u
  have c4 := fun h (u : World) (e : ErAt u) => parseInt_range x hs h u e
  generalize trimM x = y at *
  cases hd : dgs y
  · rw [hd, if_neg (by decide)] at hz
    rw [hd] at c2
    have HZ : Hid (numO x = none) := hz
    clear hz hsy
    go_enter Tryd.func52, Tryd.ntmps52
    go_wp2_with (first
      | (go_at_call 78; with_reducible refine (c1 _).mono ?_; rintro e u1 ⟨rfl, g1⟩)
      | (go_at_call 77; with_reducible refine (c2 _).mono ?_; rintro e u2 ⟨rfl, g2⟩))
    go_ret2
    exact ⟨⟨0, by rw [HZ.out]; rfl, .inl HZ.out⟩, gtrans g1 g2⟩
  · rw [hd, if_pos rfl] at hz
    rw [hd] at c2
    replace hsy := hsy hd
    cases hv : Lib.parseIntB 64 x.data.toList with
    | «syntax» => exact absurd hv hsy
    | ok v =>
      rw [hv] at hz
      have HZ : Hid (numO x = some v) := hz
      have c5 := fun (u : World) => c3 v hv u
      clear hz hsy c3 c4 hv
      go_enter Tryd.func52, Tryd.ntmps52
      go_wp2_with (first
        | (go_at_call 78; with_reducible refine (c1 _).mono ?_; rintro e u1 ⟨rfl, g1⟩)
        | (go_at_call 77; with_reducible refine (c2 _).mono ?_; rintro e u2 ⟨rfl, g2⟩)
        | (go_at_call 79; with_reducible refine (c5 _).mono ?_; rintro e u3 ⟨rfl, g3⟩))
      have hne : Nonempty (Ext u3) := ⟨⟨_, Below.refl _ _⟩⟩
      refine wp_region_ext (by kernel_rfl) (by kernel_rfl) ?_
      repeat (go_big_quiet_step (fail))
      refine wpQuiet_nil ?_
      intro _ hw'
      obtain ⟨nxw, hw''⟩ := hw'
      subst hw''
      go_wp2
      go_ret2
      exact ⟨⟨v, by rw [HZ.out]; rfl, .inr HZ.out⟩, gtrans (gtrans g1 g2) (gtrans g3 nxw.h)⟩
    | range =>
      rw [hv] at hz
      have HZ : Hid (numO x = none) := hz
      have c5 := fun (u : World) (e : ErAt u) => c4 hv u e
      clear hz hsy c3 c4 hv
      go_enter Tryd.func52, Tryd.ntmps52
      go_wp2_with (first
        | (go_at_call 78; with_reducible refine (c1 _).mono ?_; rintro e u1 ⟨rfl, g1⟩)
        | (go_at_call 77; with_reducible refine (c2 _).mono ?_; rintro e u2 ⟨rfl, g2⟩)
        | (go_at_call 79; with_reducible refine (c5 _ (E.keep (gtrans g1 g2))).mono ?_; rintro e u3 ⟨⟨n, te, pe, rfl⟩, g3⟩))
      have hne : Nonempty (Ext u3) := ⟨⟨_, Below.refl _ _⟩⟩
      refine wp_region_ext (by kernel_rfl) (by kernel_rfl) ?_
      repeat (go_big_quiet_step (fail))
      refine wpQuiet_nil ?_
      intro _ hw'
      obtain ⟨nxw, hw''⟩ := hw'
      subst hw''
      go_wp2
      go_ret2
      exact ⟨⟨n, by rw [HZ.out]; rfl, .inl HZ.out⟩, gtrans (gtrans g1 g2) (gtrans g3 nxw.h)⟩
set_option maxHeartbeats 4000000 in
theorem identity_any (x : ByteArray) (hs : x.size ≤ 281474976710656) (w : World) (E : ErAt w) :
    Calls Tryd.prog 54 #[.string x] w fun e w' => (∃ n, e = .returned (.tuple #[.int .u64 n, .bool (idO x).isSome]) ∧ (idO x = none ∨ ∃ m, idO x = some m ∧ n = (m : Int))) ∧ Below w.heap.size w w' := by
  have c2 := fun (u : World) => areDigits_any x u
  have hz : idO x = if dgs x = true then (match Lib.parseUintB 64 x.data.toList with | .ok v => some v | _ => none) else none := rfl
  have c3 := fun v h (u : World) => parseUint_ok x hs v h u
  have c4 := fun h (u : World) (e : ErAt u) => parseUint_range x hs h u e
  cases hd : dgs x
  · rw [hd, if_neg (by decide)] at hz
    rw [hd] at c2
    have HZ : Hid (idO x = none) := hz
    clear hz
    go_enter Tryd.func54, Tryd.ntmps54
    go_wp2_with (go_at_call 77; with_reducible refine (c2 _).mono ?_; rintro e u2 ⟨rfl, g2⟩)
    go_ret2
    exact ⟨⟨0, by rw [HZ.out]; rfl, .inl HZ.out⟩, g2⟩
  · rw [hd, if_pos rfl] at hz
    rw [hd] at c2
    have hsy : Lib.parseUintB 64 x.data.toList ≠ .«syntax» := by
      have := of_decide_eq_true hd
      exact uintB_dig _ this.1 this.2
    cases hv : Lib.parseUintB 64 x.data.toList with
    | «syntax» => exact absurd hv hsy
    | ok v =>
      rw [hv] at hz
      have HZ : Hid (idO x = some v) := hz
      have c5 := fun (u : World) => c3 v hv u
      clear hz hsy c3 c4 hv
      go_enter Tryd.func54, Tryd.ntmps54
      go_wp2_with (first
        | (go_at_call 77; with_reducible refine (c2 _).mono ?_; rintro e u2 ⟨rfl, g2⟩)
        | (go_at_call 81; with_reducible refine (c5 _).mono ?_; rintro e u3 ⟨rfl, g3⟩))
      have hne : Nonempty (Ext u3) := ⟨⟨_, Below.refl _ _⟩⟩
      refine wp_region_ext (by kernel_rfl) (by kernel_rfl) ?_
      repeat (go_big_quiet_step (fail))
      refine wpQuiet_nil ?_
      intro _ hw'
      obtain ⟨nxw, hw''⟩ := hw'
      subst hw''
      go_wp2
      go_ret2
      exact ⟨⟨v, by rw [HZ.out]; rfl, .inr ⟨v, HZ.out, rfl⟩⟩, gtrans g2 (gtrans g3 nxw.h)⟩
    | range =>
      rw [hv] at hz
      have HZ : Hid (idO x = none) := hz
      have c5 := fun (u : World) (e : ErAt u) => c4 hv u e
      clear hz hsy c3 c4 hv
      go_enter Tryd.func54, Tryd.ntmps54
      go_wp2_with (first
        | (go_at_call 77; with_reducible refine (c2 _).mono ?_; rintro e u2 ⟨rfl, g2⟩)
        | (go_at_call 81; with_reducible refine (c5 _ (E.keep g2)).mono ?_; rintro e u3 ⟨⟨n, te, pe, rfl⟩, g3⟩))
      have hne : Nonempty (Ext u3) := ⟨⟨_, Below.refl _ _⟩⟩
      refine wp_region_ext (by kernel_rfl) (by kernel_rfl) ?_
      repeat (go_big_quiet_step (fail))
      refine wpQuiet_nil ?_
      intro _ hw'
      obtain ⟨nxw, hw''⟩ := hw'
      subst hw''
      go_wp2
      go_ret2
      exact ⟨⟨n, by rw [HZ.out]; rfl, .inl HZ.out⟩, gtrans g2 (gtrans g3 nxw.h)⟩

end Go.Proofs.YtkpnnofonocilaaDoor
