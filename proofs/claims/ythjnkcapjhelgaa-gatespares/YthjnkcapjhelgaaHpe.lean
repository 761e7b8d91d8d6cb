/- The sifts. -/
import Derived.Test.YthjnkcapjhelgaaHpd
namespace Go.Proofs.Ythjnkcapjhelgaa
open Go.RowKit Go.BigFrame
set_option linter.unusedVariables false
set_option linter.unusedSimpArgs false

/-- A scope whose label stands at its head. -/
theorem wp_scope_head {P : Program} {a : Act} {w : World} {Q : Exit → Act → World → Prop} {rest : Code} (l : Nat) (J : Act → World → Prop) (μ : Act → World → Nat) (hf : findLabel ((Code.label l).seq rest) l = some (Code.skip.seq rest)) (h0 : J a w)
    (pass : ∀ a w, J a w → rest.wp P (Exit.jump l (fun a' w' => J a' w' ∧ μ a' w' < μ a w) Q) a w) : (Code.scope ((Code.label l).seq rest)).wp P Q a w :=
  wp_scope_jumps l J μ hf (wp_seq (wp_label (Code.wp_mono (fun e a w h => by
    cases e <;> first | exact h | exact ⟨h.1, h.2.1⟩) (pass a w h0)))) fun a w h => wp_seq (wp_skip (pass a w h))
set_option maxRecDepth 100000 in
set_option maxHeartbeats 4000000 in
theorem evUp (p base g cap k0 t : Nat) (h : List (Ev × Nat)) (z : Ev × Nat) (hk : k0 < h.length) (w : World) (P : Pil 97 101 12 evC w p base (.slice (some ⟨g, 0, none⟩) h.length cap) h t) (hl : h.length ≤ 1000000000000000) (U : UpI (ahd evLt) z h k0) :
    Calls Try.prog 50 #[.pointer (some ⟨p, 0, none⟩), .int .i64 (k0 : Int)] w fun e w' => e = .returned (.tuple #[]) ∧ ∃ h', Pil 97 101 12 evC w' p base (.slice (some ⟨g, 0, none⟩) h.length cap) h' t ∧ h'.Perm h ∧ Hp (ahd evLt) z h' ∧ Gb p (.slice (some ⟨g, 0, none⟩) h.length cap) w w' := by
  go_enter Try.func50, Try.ntmps50
  go_wp2
  refine wp_scope_head 0 (fun a' w' => ∃ (k : Nat) (h' : List (Ev × Nat)), Pil 97 101 12 evC w' p base (.slice (some ⟨g, 0, none⟩) h.length cap) h' t ∧ h'.Perm h ∧ UpI (ahd evLt) z h' k ∧ k < h'.length ∧ Gb p (.slice (some ⟨g, 0, none⟩) h.length cap) w w' ∧ ∃ u2 u3 u4 u5 u6 u7 u8 u9 u10 u11 u12 u13 u14 u15 u16 u17 u18 u19 u20 u21 u22 u23 u24 u25 u26 u27 u28 u29 u30 u31 u32 : Value, a' = { tmps := #[.pointer (some ⟨p, 0, none⟩), .int .i64 (k : Int), u2, u3, u4, u5, u6, u7, u8, u9, u10, u11, u12, u13, u14, u15, u16, u17, u18, u19, u20, u21, u22, u23, u24, u25, u26, u27, u28, u29, u30, u31, u32], defers := [] }) (fun a' _ => (intOf (a'.tmps.getD 1 undef)).toNat) rfl ?_ ?_
  · exact ⟨k0, h, P, List.Perm.refl _, U, hk, Gb.of (Below.refl _ _), _, _, _, _, _, _, _, _, _, _, _, _, _, _, _, _, _, _, _, _, _, _, _, _, _, _, _, _, _, _, _, rfl⟩
  rintro a' w' ⟨k, h', P1, hp, U1, hk1, G1, u2, u3, u4, u5, u6, u7, u8, u9, u10, u11, u12, u13, u14, u15, u16, u17, u18, u19, u20, u21, u22, u23, u24, u25, u26, u27, u28, u29, u30, u31, u32, rfl⟩
  clear P U
  have hlen := hp.length_eq
  have p0 := fun z : Ext w' => (z.cell _ _ P1.blk.lt).trans P1.blk.at2.1
  have hne0 : Nonempty (Ext w') := ⟨⟨_, Below.refl _ _⟩⟩
  obtain ⟨ab, eab⟩ : ∃ ab, ab = (k - 1) / 2 := ⟨_, rfl⟩
  have E1 : ((k - 1 : Nat) : Int) / 2 = (ab : Int) := by omega
  have E2 : ((k : Int) - 1).tdiv 2 = (ab : Int) := by
    rcases Nat.eq_zero_or_pos k with e | e
    · subst e; subst eab; rfl
    · rw [Int.tdiv_eq_ediv_of_nonneg (by omega)]; omega
  have hab : ab < h'.length := by omega
  have O1 := P1.own
  rw [← hlen] at O1
  have ri := own_range (cv := ldC evC) ev_lsize z O1 k hk1
  have rj := own_range (cv := ldC evC) ev_lsize z O1 ab hab
  clear O1
  have q1 : (k : Int) < (h.length : Int) := by omega
  have q2 : (ab : Int) < (h.length : Int) := by omega
  have HE : Hid (h'.length = h.length) := hlen
  have HB : Hid (ab = (k - 1) / 2) := eab
  clear hlen eab
  by_cases h0 : k = 0
  · have d0 : ((k : Int) == 0) = true := by simp [h0]
    have H0 : Hid (k = 0) := h0
    clear h0
    go_wp2
    refine wp_region_ext (by kernel_rfl) (by kernel_rfl) ?_
    repeat (go_big_quiet_step (fail))
    refine wpQuiet_nil ?_
    intro _ hw'
    obtain ⟨nx, hw''⟩ := hw'
    subst hw''
    go_wp2
    simp only [Exit.jump]
    refine bodyPost_ret (results_none rfl _ _ _) rfl ⟨rfl, h', ⟨P1.blk.keep nx.h, own_keep P1.own nx.h, P1.pb⟩, hp, ?_, G1.trans' (Gb.of nx.h)⟩
    have e0 : k = 0 := H0
    subst e0
    exact up_top U1
  · have d0 : ((k : Int) == 0) = false := by simp [h0]
    have H0 : Hid (¬ k = 0) := h0
    have cc := fun u : World => evAhead_any (h'.getD k z) (h'.getD ab z) u
    obtain ⟨b, hb⟩ : ∃ b, ahd evLt (h'.getD k z) (h'.getD ab z) = b := ⟨_, rfl⟩
    rw [hb] at cc
    have HA : Hid (ahd evLt (h'.getD k z) (h'.getD ab z) = b) := hb
    clear hb h0
    generalize hxk : h'.getD k z = xk at ri cc
    generalize hxa : h'.getD ab z = xa at rj cc
    have c1 : ∀ z : Ext w', Calls Try.prog 55 #[.agg (ldC evC xk), .agg (ldC evC xa)] z.X (fun e w'' => e = .returned (.bool b) ∧ ∃ m : Ext w', w'' = m.X) := fun z => ext_of (cc z.X)
    clear cc hxk hxa
    go_wp2
    refine wp_region_ext (by kernel_rfl) (by kernel_rfl) ?_
    repeat (first
      | (refine wpQuiet_load_mid rfl 101 _ rfl g (k * 12) rfl (ldC evC xk) _ (fun X hX => by obtain ⟨nx, rfl⟩ := hX; exact rangeAt_keep ri nx.h) Try.underlying101 rfl infoLdE _ rfl ?_; simp only [Act.put, List.setIfInBounds_toArray, List.set_cons_succ, List.set_cons_zero])
      | (refine wpQuiet_load_mid rfl 101 _ rfl g (ab * 12) rfl (ldC evC xa) _ (fun X hX => by obtain ⟨nx, rfl⟩ := hX; exact rangeAt_keep rj nx.h) Try.underlying101 rfl infoLdE _ rfl ?_; simp only [Act.put, List.setIfInBounds_toArray, List.set_cons_succ, List.set_cons_zero])
      | go_big_quiet_step (first | (go_at_call 55; with_reducible exact c1 _)))
    refine wpQuiet_nil ?_
    intro _ hw'
    obtain ⟨nx, hw''⟩ := hw'
    subst hw''
    have P2 : Pil 97 101 12 evC nx.X p base (.slice (some ⟨g, 0, none⟩) h.length cap) h' t := ⟨P1.blk.keep nx.h, own_keep P1.own nx.h, P1.pb⟩
    have e0 : ¬ k = 0 := H0
    have eab : ab = (k - 1) / 2 := HB
    have hlen : h'.length = h.length := HE
    have hA : ahd evLt (h'.getD k z) (h'.getD ab z) = b := HA
    cases b
    · clear e0 eab hlen hA
      go_wp2
      simp only [Exit.jump]
      refine bodyPost_ret (results_none rfl _ _ _) rfl ⟨rfl, h', P2, hp, ?_, G1.trans' (Gb.of nx.h)⟩
      have eab : ab = (k - 1) / 2 := HB
      subst eab
      exact up_done U1 HA
    · have c3 := evExchange p base g cap k ab t h' z hk1 hab (by omega) nx.X (by rw [hlen]; exact P2) (by omega)
      rw [hlen] at c3
      clear e0 eab hlen hA
      go_wp2_with (first | (go_at_call 56; (with_reducible refine c3.mono ?_); rintro e u ⟨rfl, P3, G3⟩))
      go_step3
      have e0 : ¬ k = 0 := H0
      have eab : ab = (k - 1) / 2 := HB
      refine ⟨rfl, ⟨ab, swp z h' k ab, P3, (swp_perm h' k ab hk1 hab).trans hp, ?_, by rw [swp_len]; exact hab, G1.trans' ((Gb.of nx.h).trans' G3), _, _, _, _, _, _, _, _, _, _, _, _, _, _, _, _, _, _, _, _, _, _, _, _, _, _, _, _, _, _, _, rfl⟩, ?_⟩
      · subst eab
        exact up_step (ahd_swo evLt_swo) U1 (by omega) hk1 HA
      · simp [intOf]
        omega

theorem fbel_spec {γ : Type} {A : γ → γ → Bool} (S : Swo A) (z : γ) (h : List γ) (k : Nat) : (fbel A z h k = k ∧ h.length ≤ 2 * k + 1) ∨ (k < fbel A z h k ∧ fbel A z h k < h.length ∧ (fbel A z h k - 1) / 2 = k ∧ ∀ i, 0 < i → i < h.length → (i - 1) / 2 = k → A (h.getD i z) (h.getD (fbel A z h k) z) = false) := by
  unfold fbel
  by_cases h1 : h.length ≤ 2 * k + 1
  · rw [if_pos h1]; exact .inl ⟨rfl, h1⟩
  · rw [if_neg h1]
    right
    by_cases h2 : 2 * k + 2 < h.length ∧ A (h.getD (2 * k + 2) z) (h.getD (2 * k + 1) z) = true
    · rw [if_pos h2]
      refine ⟨by omega, h2.1, by omega, fun i h3 h4 h5 => ?_⟩
      rcases (show i = 2 * k + 1 ∨ i = 2 * k + 2 by omega) with e | e
      · rw [e]; exact S.asym _ _ h2.2
      · rw [e]; exact S.irr _
    · rw [if_neg h2]
      refine ⟨by omega, by omega, by omega, fun i h3 h4 h5 => ?_⟩
      rcases (show i = 2 * k + 1 ∨ i = 2 * k + 2 by omega) with e | e
      · rw [e]; exact S.irr _
      · rw [e]
        have h6 : 2 * k + 2 < h.length := by omega
        simpa [h6] using h2
set_option maxRecDepth 100000 in
set_option maxHeartbeats 4000000 in
theorem evDown (p base g cap t : Nat) (h : List (Ev × Nat)) (z : Ev × Nat) (w : World) (P : Pil 97 101 12 evC w p base (.slice (some ⟨g, 0, none⟩) h.length cap) h t) (hl : h.length ≤ 1000000000000000) (U : DnI (ahd evLt) z h 0) :
    Calls Try.prog 58 #[.pointer (some ⟨p, 0, none⟩), .int .i64 0] w fun e w' => e = .returned (.tuple #[]) ∧ ∃ h', Pil 97 101 12 evC w' p base (.slice (some ⟨g, 0, none⟩) h.length cap) h' t ∧ h'.Perm h ∧ Hp (ahd evLt) z h' ∧ Gb p (.slice (some ⟨g, 0, none⟩) h.length cap) w w' := by
  go_enter Try.func58, Try.ntmps58
  go_wp2
  refine wp_scope_head 0 (fun a' w' => ∃ (k : Nat) (h' : List (Ev × Nat)), Pil 97 101 12 evC w' p base (.slice (some ⟨g, 0, none⟩) h.length cap) h' t ∧ h'.Perm h ∧ DnI (ahd evLt) z h' k ∧ k ≤ h'.length ∧ Gb p (.slice (some ⟨g, 0, none⟩) h.length cap) w w' ∧ ∃ u2 u3 u4 u5 u6 u7 u8 u9 u10 u11 u12 u13 u14 u15 u16 u17 u18 u19 u20 u21 u22 u23 u24 u25 u26 u27 u28 u29 u30 u31 u32 u33 : Value, a' = { tmps := #[.pointer (some ⟨p, 0, none⟩), .int .i64 (k : Int), u2, u3, u4, u5, u6, u7, u8, u9, u10, u11, u12, u13, u14, u15, u16, u17, u18, u19, u20, u21, u22, u23, u24, u25, u26, u27, u28, u29, u30, u31, u32, u33], defers := [] }) (fun a' _ => h.length - (intOf (a'.tmps.getD 1 undef)).toNat) rfl ?_ ?_
  · exact ⟨0, h, P, List.Perm.refl _, U, Nat.zero_le _, Gb.of (Below.refl _ _), _, _, _, _, _, _, _, _, _, _, _, _, _, _, _, _, _, _, _, _, _, _, _, _, _, _, _, _, _, _, _, _, rfl⟩
  rintro a' w' ⟨k, h', P1, hp, U1, hk1, G1, u2, u3, u4, u5, u6, u7, u8, u9, u10, u11, u12, u13, u14, u15, u16, u17, u18, u19, u20, u21, u22, u23, u24, u25, u26, u27, u28, u29, u30, u31, u32, u33, rfl⟩
  clear P U
  have hlen := hp.length_eq
  have hs := fbel_spec (ahd_swo evLt_swo) z h' k
  have c0 := evBelow p base g cap k t h' z hk1 w' (by rw [hlen]; exact P1) (by omega)
  have O1 := P1.own
  rw [← hlen] at O1
  generalize fbel (ahd evLt) z h' k = r at hs c0
  rcases hs with ⟨rfl, hlast⟩ | ⟨hkr, hrl, hpr, hmin⟩
  · have q0 : ((r : Int) == (r : Int)) = true := by simp
    have HE : Hid (h'.length = h.length) := hlen
    have HL : Hid (h'.length ≤ 2 * r + 1) := hlast
    clear hlen hlast O1
    go_upto_region 1 with (first | (go_at_call 60; (with_reducible refine c0.mono ?_); rintro e u ⟨rfl, g0⟩))
    have p0 := fun z : Ext u => (z.cell _ _ (P1.blk.keep g0).lt).trans (P1.blk.keep g0).at2.1
    have hne0 : Nonempty (Ext u) := ⟨⟨_, Below.refl _ _⟩⟩
    refine wp_region_ext (by kernel_rfl) (by kernel_rfl) ?_
    repeat (go_big_quiet_step (fail))
    refine wpQuiet_nil ?_
    intro _ hw'
    obtain ⟨nx, hw''⟩ := hw'
    subst hw''
    go_wp2
    simp only [Exit.jump]
    have g2 := gtrans g0 nx.h
    refine bodyPost_ret (results_none rfl _ _ _) rfl ⟨rfl, h', ⟨P1.blk.keep g2, own_keep P1.own g2, P1.pb⟩, hp, ?_, G1.trans' (Gb.of g2)⟩
    have hlast : h'.length ≤ 2 * r + 1 := HL
    exact dn_done U1 (fun i h3 h4 h5 => by omega)
  · have hkl : k < h'.length := by omega
    have ri := own_range (cv := ldC evC) ev_lsize z O1 k hkl
    have rj := own_range (cv := ldC evC) ev_lsize z O1 r hrl
    have q0 : ((r : Int) == (k : Int)) = false := by simp; omega
    have q1 : (k : Int) < (h.length : Int) := by omega
    have q2 : (r : Int) < (h.length : Int) := by omega
    have HE : Hid (h'.length = h.length) := hlen
    have HP : Hid ((r - 1) / 2 = k) := hpr
    clear hlen hpr O1
    have cc := fun u : World => evAhead_any (h'.getD r z) (h'.getD k z) u
    obtain ⟨b, hb⟩ : ∃ b, ahd evLt (h'.getD r z) (h'.getD k z) = b := ⟨_, rfl⟩
    rw [hb] at cc
    have HA : Hid (ahd evLt (h'.getD r z) (h'.getD k z) = b) := hb
    have HM : Hid (∀ i, 0 < i → i < h'.length → (i - 1) / 2 = k → ahd evLt (h'.getD i z) (h'.getD r z) = false) := hmin
    clear hb hmin
    generalize hxk : h'.getD k z = xk at ri cc
    generalize hxa : h'.getD r z = xa at rj cc
    clear hxk hxa
    go_upto_region 1 with (first | (go_at_call 60; (with_reducible refine c0.mono ?_); rintro e u ⟨rfl, g0⟩))
    have p0 := fun z : Ext u => (z.cell _ _ (P1.blk.keep g0).lt).trans (P1.blk.keep g0).at2.1
    have hne0 : Nonempty (Ext u) := ⟨⟨_, Below.refl _ _⟩⟩
    have c1 : ∀ z : Ext u, Calls Try.prog 55 #[.agg (ldC evC xa), .agg (ldC evC xk)] z.X (fun e w'' => e = .returned (.bool b) ∧ ∃ m : Ext u, w'' = m.X) := fun z => ext_of (cc z.X)
    have ri := rangeAt_keep ri g0
    have rj := rangeAt_keep rj g0
    clear cc
    refine wp_region_ext (by kernel_rfl) (by kernel_rfl) ?_
    repeat (first
      | (refine wpQuiet_load_mid rfl 101 _ rfl g (k * 12) rfl (ldC evC xk) _ (fun X hX => by obtain ⟨nx, rfl⟩ := hX; exact rangeAt_keep ri nx.h) Try.underlying101 rfl infoLdE _ rfl ?_; simp only [Act.put, List.setIfInBounds_toArray, List.set_cons_succ, List.set_cons_zero])
      | (refine wpQuiet_load_mid rfl 101 _ rfl g (r * 12) rfl (ldC evC xa) _ (fun X hX => by obtain ⟨nx, rfl⟩ := hX; exact rangeAt_keep rj nx.h) Try.underlying101 rfl infoLdE _ rfl ?_; simp only [Act.put, List.setIfInBounds_toArray, List.set_cons_succ, List.set_cons_zero])
      | go_big_quiet_step (first | (go_at_call 55; with_reducible exact c1 _)))
    refine wpQuiet_nil ?_
    intro _ hw'
    obtain ⟨nx, hw''⟩ := hw'
    subst hw''
    have g2 := gtrans g0 nx.h
    have P2 : Pil 97 101 12 evC nx.X p base (.slice (some ⟨g, 0, none⟩) h.length cap) h' t := ⟨P1.blk.keep g2, own_keep P1.own g2, P1.pb⟩
    have hlen : h'.length = h.length := HE
    cases b
    · clear hlen
      go_wp2
      simp only [Exit.jump]
      refine bodyPost_ret (results_none rfl _ _ _) rfl ⟨rfl, h', P2, hp, ?_, G1.trans' (Gb.of g2)⟩
      have hmin : ∀ i, 0 < i → i < h'.length → (i - 1) / 2 = k → ahd evLt (h'.getD i z) (h'.getD r z) = false := HM
      exact dn_done U1 (fun i h3 h4 h5 => (ahd_swo evLt_swo).not (hmin i h3 h4 h5) HA)
    · have c3 := evExchange p base g cap k r t h' z hkl hrl (by omega) nx.X (by rw [hlen]; exact P2) (by omega)
      rw [hlen] at c3
      clear hlen
      go_wp2_with (first | (go_at_call 56; (with_reducible refine c3.mono ?_); rintro e u3 ⟨rfl, P3, G3⟩))
      go_step3
      have hpr : (r - 1) / 2 = k := HP
      have hlen : h'.length = h.length := HE
      refine ⟨rfl, ⟨r, swp z h' k r, P3, (swp_perm h' k r hkl hrl).trans hp, dn_step (ahd_swo evLt_swo) U1 (by omega) hrl hpr HA HM, by rw [swp_len]; omega, G1.trans' ((Gb.of g2).trans' G3), _, _, _, _, _, _, _, _, _, _, _, _, _, _, _, _, _, _, _, _, _, _, _, _, _, _, _, _, _, _, _, _, rfl⟩, ?_⟩
      simp [intOf]
      omega

end Go.Proofs.Ythjnkcapjhelgaa
