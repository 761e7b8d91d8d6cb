/- The same of names. -/
import Derived.Test.YtoheombjbndolaaHpn
import Derived.Test.YtoheombjbndolaaHpiN
namespace Go.Proofs.Ytoheombjbndolaa
open Go.RowKit Go.BigFrame
set_option linter.unusedVariables false
set_option linter.unusedSimpArgs false

abbrev nmPa (w : World) (p base : Nat) (v : Value) (L : List (Nm × Nat)) (t : Nat) : Prop := Pa 64 66 3 nmC (ahd nmLt) (zrNm, 0) w p base v L t
theorem nmPush (p base t : Nat) (v : Value) (L : List (Nm × Nat)) (x : Nm) (w : World) (P : nmPa w p base v L t) (hl : ((L.length + 1) + (L.length + 1) / 4 + 192) * 24 ≤ 281474976710656) (hbw : base ≤ w.heap.size) (ht : t + 1 ≤ 9223372036854775807) (h00 : t = 0 → L = []) :
    Calls Try.prog 21 #[.pointer (some ⟨p, 0, none⟩), .agg (nmC x)] w fun e w' => e = .returned (.tuple #[]) ∧ ∃ v', nmPa w' p base v' (ins (ahd nmLt) (x, t) L) (t + 1) ∧ Gb p v w w' ∧ (∀ g, v'.ownBlock = some g → v.ownBlock = some g ∨ w.heap.size ≤ g) := by
  obtain ⟨h, P, hp, H, O, T0⟩ := P
  have T : ∀ y ∈ L, y.2 < t := fun y hy => by
    rcases T0 y hy with e | e
    · rw [h00 e] at hy; simp at hy
    · exact e
  refine (nmPush0 p base t v h (zrNm, 0) x w P (by rw [hp.length_eq]; exact hl) hbw ht H).mono ?_
  rintro e w' ⟨rfl, v', h', P', hp', H', G, B⟩
  refine ⟨rfl, v', ⟨h', P', ?_, H', ins_sorted (ahd_swo nmLt_swo) _ _ (fun y hy e => ?_) O, fun y hy => ?_⟩, G, B⟩
  · exact hp'.trans ((List.perm_append_singleton (x, t) h).trans ((List.Perm.cons _ hp).trans (ins_perm _ _).symm))
  · have := T y hy
    rw [ahd_tot nmLt (by show y.2 ≠ t; omega), e]
    rfl
  · rcases (ins_mem _ _ _).1 hy with e | e
    · rw [e]; exact .inr (Nat.lt_succ_self t)
    · have := T y e; omega
theorem nmLenA (p base t : Nat) (v : Value) (L : List (Nm × Nat)) (w : World) (P : nmPa w p base v L t) : Calls Try.prog 48 #[.pointer (some ⟨p, 0, none⟩)] w fun e w' => e = .returned (.int .i64 (L.length : Int)) ∧ w' = w := by
  obtain ⟨ao, cap, rfl, _⟩ := P.len
  exact nmLen p ao L.length cap _ w P.blk
theorem nmPeekA (p base t : Nat) (v : Value) (L : List (Nm × Nat)) (w : World) (P : nmPa w p base v L t) : Calls Try.prog 39 #[.pointer (some ⟨p, 0, none⟩)] w fun e w' => e = .returned (nmTopV (L.headD (zrNm, 0)).1 (decide (0 < L.length))) ∧ Below w.heap.size w w' := by
  cases L with
  | nil =>
    obtain ⟨ao, cap, rfl, _⟩ := P.len
    exact nmPeek_none p ao cap _ w P.blk
  | cons y R =>
    obtain ⟨h, P, hp, H, O, T⟩ := P
    have hlen := hp.length_eq
    have h0 : 0 < h.length := by rw [hlen]; simp
    obtain ⟨g, cap, rfl, _, _⟩ := P.own.form h0
    have := nmPeek_some p base g cap t h (zrNm, 0) w P h0
    rw [hp_first (ahd_swo nmLt_swo) H hp O] at this
    simpa using this
theorem nmPopA (p base t : Nat) (v : Value) (L : List (Nm × Nat)) (w : World) (P : nmPa w p base v L t) (hl : L.length ≤ 1000000000000000) : Calls Try.prog 25 #[.pointer (some ⟨p, 0, none⟩)] w fun e w' => e = .returned (nmTopV (L.headD (zrNm, 0)).1 (decide (0 < L.length))) ∧ ∃ v', nmPa w' p base v' L.tail t ∧ Gb p v w w' ∧ (∀ g, v'.ownBlock = some g → v.ownBlock = some g) := by
  cases L with
  | nil =>
    obtain ⟨ao, cap, rfl, _⟩ := P.len
    refine (nmPop_none p ao cap _ w P.blk).mono ?_
    rintro e w' ⟨rfl, G⟩
    exact ⟨rfl, _, P.keep G, Gb.of G, fun g e => e⟩
  | cons y R =>
    obtain ⟨h, P, hp, H, O, T⟩ := P
    have hlen := hp.length_eq
    have h0 : 0 < h.length := by rw [hlen]; simp
    obtain ⟨g, cap, rfl, _, _⟩ := P.own.form h0
    have e0 := hp_first (ahd_swo nmLt_swo) H hp O
    refine (nmPop_some p base g cap t h (zrNm, 0) w P h0 (by rw [hlen]; exact hl) H).mono ?_
    rintro e w' ⟨rfl, n, h', P', hp', H', G⟩
    rw [e0]
    refine ⟨by simp, _, ⟨h', P', ?_, H', (List.pairwise_cons.1 O).2, fun x hx => T x (List.mem_cons_of_mem _ hx)⟩, G, fun g e => by simpa [Value.ownBlock] using e⟩
    have hc := cutt_perm (z := (zrNm, 0)) h0
    rw [e0] at hc
    exact hp'.trans (List.Perm.cons_inv (hc.trans hp))


end Go.Proofs.Ytoheombjbndolaa
