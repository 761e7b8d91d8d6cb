/- Signs and keywords that stand at a place of a text; the joined text of tokens. -/
import Derived.Test.YtlcmfefcammklabDoorBk
import Derived.Test.YtlcmfefcammklabDoorJo
namespace Go.Proofs.YtlcmfefcammklabDoor
open Go.RowKit
set_option linter.unusedVariables false
set_option linter.unusedSimpArgs false

set_option maxRecDepth 10000 in
theorem sgK_sg (j : Nat) (h : j < 19) : sgK (sg j) = 3 + (j : Int) := by
  unfold sgK
  simp only [ByteArray.toList_eq]
  rcases (show j = 0 ∨ j = 1 ∨ j = 2 ∨ j = 3 ∨ j = 4 ∨ j = 5 ∨ j = 6 ∨ j = 7 ∨ j = 8 ∨ j = 9 ∨ j = 10 ∨ j = 11 ∨ j = 12 ∨ j = 13 ∨ j = 14 ∨ j = 15 ∨ j = 16 ∨ j = 17 ∨ j = 18 from by omega) with rfl | rfl | rfl | rfl | rfl | rfl | rfl | rfl | rfl | rfl | rfl | rfl | rfl | rfl | rfl | rfl | rfl | rfl | rfl <;> rfl
theorem kw_up (j : Nat) (h : j < 27) : upS (kw j) = kw j := by
  rcases (show j = 0 ∨ j = 1 ∨ j = 2 ∨ j = 3 ∨ j = 4 ∨ j = 5 ∨ j = 6 ∨ j = 7 ∨ j = 8 ∨ j = 9 ∨ j = 10 ∨ j = 11 ∨ j = 12 ∨ j = 13 ∨ j = 14 ∨ j = 15 ∨ j = 16 ∨ j = 17 ∨ j = 18 ∨ j = 19 ∨ j = 20 ∨ j = 21 ∨ j = 22 ∨ j = 23 ∨ j = 24 ∨ j = 25 ∨ j = 26 from by omega) with rfl | rfl | rfl | rfl | rfl | rfl | rfl | rfl | rfl | rfl | rfl | rfl | rfl | rfl | rfl | rfl | rfl | rfl | rfl | rfl | rfl | rfl | rfl | rfl | rfl | rfl | rfl <;> simp [upS, kw, kwl, upB]
set_option maxRecDepth 10000 in
theorem wordI_kw (j : Nat) (h : j < 27) : wordI (kw j) = 30 + (j : Int) := by
  unfold wordI wrB
  rw [kw_up j h]
  simp only [ByteArray.toList_eq]
  rcases (show j = 0 ∨ j = 1 ∨ j = 2 ∨ j = 3 ∨ j = 4 ∨ j = 5 ∨ j = 6 ∨ j = 7 ∨ j = 8 ∨ j = 9 ∨ j = 10 ∨ j = 11 ∨ j = 12 ∨ j = 13 ∨ j = 14 ∨ j = 15 ∨ j = 16 ∨ j = 17 ∨ j = 18 ∨ j = 19 ∨ j = 20 ∨ j = 21 ∨ j = 22 ∨ j = 23 ∨ j = 24 ∨ j = 25 ∨ j = 26 from by omega) with rfl | rfl | rfl | rfl | rfl | rfl | rfl | rfl | rfl | rfl | rfl | rfl | rfl | rfl | rfl | rfl | rfl | rfl | rfl | rfl | rfl | rfl | rfl | rfl | rfl | rfl | rfl <;> rfl
theorem sg_first (j : Nat) (h : j < 19) : blB (bt (sg j) 0) = false ∧ bt (sg j) 0 ≠ 35 ∧ ltB (bt (sg j) 0) = false ∧ dgB (bt (sg j) 0) = false ∧ ((sg j).size = 1 ∨ ((sg j).size = 2 ∧ bt (sg j) 1 = 61 ∧ (bt (sg j) 0 = 33 ∨ bt (sg j) 0 = 60 ∨ bt (sg j) 0 = 62))) := by
  rcases (show j = 0 ∨ j = 1 ∨ j = 2 ∨ j = 3 ∨ j = 4 ∨ j = 5 ∨ j = 6 ∨ j = 7 ∨ j = 8 ∨ j = 9 ∨ j = 10 ∨ j = 11 ∨ j = 12 ∨ j = 13 ∨ j = 14 ∨ j = 15 ∨ j = 16 ∨ j = 17 ∨ j = 18 from by omega) with rfl | rfl | rfl | rfl | rfl | rfl | rfl | rfl | rfl | rfl | rfl | rfl | rfl | rfl | rfl | rfl | rfl | rfl | rfl <;> decide
theorem kw_first (j : Nat) (h : j < 27) : ltB (bt (kw j) 0) = true ∧ 0 < (kw j).size ∧ (kw j).size ≤ 16 ∧ ∀ i, i < (kw j).size → wdB (bt (kw j) i) = true := by
  rcases (show j = 0 ∨ j = 1 ∨ j = 2 ∨ j = 3 ∨ j = 4 ∨ j = 5 ∨ j = 6 ∨ j = 7 ∨ j = 8 ∨ j = 9 ∨ j = 10 ∨ j = 11 ∨ j = 12 ∨ j = 13 ∨ j = 14 ∨ j = 15 ∨ j = 16 ∨ j = 17 ∨ j = 18 ∨ j = 19 ∨ j = 20 ∨ j = 21 ∨ j = 22 ∨ j = 23 ∨ j = 24 ∨ j = 25 ∨ j = 26 from by omega) with rfl | rfl | rfl | rfl | rfl | rfl | rfl | rfl | rfl | rfl | rfl | rfl | rfl | rfl | rfl | rfl | rfl | rfl | rfl | rfl | rfl | rfl | rfl | rfl | rfl | rfl | rfl <;> decide
theorem sgK_one (b : UInt8) (hb : b = 33 ∨ b = 60 ∨ b = 62) : sgK ⟨#[b]⟩ ≠ 0 := by
  rcases hb with rfl | rfl | rfl
  · rw [show (⟨#[33]⟩ : ByteArray) = sg 6 from rfl, sgK_sg 6 (by decide)]; decide
  · rw [show (⟨#[60]⟩ : ByteArray) = sg 15 from rfl, sgK_sg 15 (by decide)]; decide
  · rw [show (⟨#[62]⟩ : ByteArray) = sg 17 from rfl, sgK_sg 17 (by decide)]; decide
theorem At.sign {s : ByteArray} {p : Nat} {j : Nat} (hj : j < 19) (h : At s p (sg j)) : stI s p = 3 ∧ thing s p = (p + (sg j).size, ⟨3 + (j : Int), ⟨#[]⟩, 0, p⟩, 0) := by
  obtain ⟨f1, f2, f3, f4, f5⟩ := sg_first j hj
  have h0 : 0 < (sg j).size := by rcases f5 with f5 | f5 <;> omega
  have hb := h.bt h0
  rw [Nat.add_zero] at hb
  have hle := h.le
  have hsg : sgK (s.extract p (p + 1)) ≠ 0 := by
    rcases f5 with f5 | ⟨f5, _, f6⟩
    · have := h.ex
      rw [f5] at this
      rw [this, sgK_sg j hj]
      omega
    · rw [one_extract s p (by omega)]
      rw [← hb] at f6
      refine sgK_one _ ?_
      rcases f6 with f6 | f6 | f6
      · exact .inl (bt_byte (n := 33) f6 (by decide))
      · exact .inr (.inl (bt_byte (n := 60) f6 (by decide)))
      · exact .inr (.inr (bt_byte (n := 62) f6 (by decide)))
  have e : stI s p = 3 := by
    unfold stI entI
    rw [hb, if_neg (by rw [f1]; simp), if_neg f2, if_neg (by rw [f3]; simp), if_neg (by rw [f4]; simp), if_pos hsg]
  refine ⟨e, ?_⟩
  have hend : sgnE s p = p + (sg j).size := by
    unfold sgnE
    rcases f5 with f5 | ⟨f5, f6, f7⟩
    · rw [f5, if_neg]
      rintro ⟨_, h2, h3⟩
      have h4 := h.be (by rw [f5]; exact h2)
      rw [f5] at h4
      unfold enB at h4
      omega
    · have h1 := h.bt (i := 1) (by omega)
      rw [f5, if_pos ⟨by rw [hb]; exact f7, by omega, by rw [h1]; exact f6⟩]
  unfold thing
  rw [if_neg (by rw [e]; decide), if_neg (by rw [e]; decide), hend, h.ex, sgK_sg j hj]
/-- A token that Lex could give, and its spelling at a place. -/
theorem At.tok {s : ByteArray} {p : Nat} {t : Tok} (hc : couldB t = true) (hn : t.n ≤ 9223372036854775807) (ha : t.a = (p : Int)) (h : At s p (spS t)) : 0 < (spS t).size ∧ (stI s p = 1 ∨ stI s p = 2 ∨ stI s p = 3) ∧ thing s p = (p + (spS t).size, t, 0) := by
  obtain ⟨k, tx, n, a⟩ := t
  dsimp only at hn ha
  subst ha
  unfold couldB at hc
  dsimp only at hc
  by_cases k2 : k = 2
  · rw [if_pos k2] at hc
    subst k2
    obtain ⟨h1, h2⟩ := Bool.and_eq_true_iff.1 hc
    have h1' : 0 ≤ n := of_decide_eq_true h1
    obtain ⟨u, rfl⟩ : ∃ u : Nat, n = (u : Int) := ⟨n.toNat, by omega⟩
    have hsp : spS ⟨2, tx, (u : Int), p⟩ = ⟨(Lib.decDigits u).toArray⟩ := by unfold spS; rw [if_neg (show ¬ (2 : Int) = 1 by decide), if_pos rfl]; show (⟨(Lib.itoa (u : Int)).toArray⟩ : ByteArray) = _; rw [Lib.itoa_nonneg]
    rw [hsp] at h ⊢
    obtain ⟨d1, d2, d3⟩ := dec_facts u
    have htx : tx = ⟨#[]⟩ := toList_inj (by rw [show (⟨#[]⟩ : ByteArray).toList = [] from by rw [ByteArray.toList_eq]]; exact h2)
    have hsz : (⟨(Lib.decDigits u).toArray⟩ : ByteArray).size = (Lib.decDigits u).length := by show (Lib.decDigits u).toArray.size = _; simp
    have h0 : 0 < (⟨(Lib.decDigits u).toArray⟩ : ByteArray).size := by rw [hsz]; exact List.length_pos_iff.2 d3
    have hall : ∀ i, i < (⟨(Lib.decDigits u).toArray⟩ : ByteArray).size → dgB (Go.Proofs.YtlcmfefcammklabDoor.bt ⟨(Lib.decDigits u).toArray⟩ i) = true := fun i hi => by
      rw [hsz] at hi
      unfold Go.Proofs.YtlcmfefcammklabDoor.bt
      have hm := d1 (Lib.decDigits u)[i] (List.getElem_mem _)
      have e : (⟨(Lib.decDigits u).toArray⟩ : ByteArray).data.getD i 0 = (Lib.decDigits u)[i] := by simp [Array.getD, hi]
      rw [e]
      simp only [dgB, decide_eq_true_eq]
      omega
    have hv : numV ⟨(Lib.decDigits u).toArray⟩ = some (u : Int) := by
      rw [numV_dig _ (by simpa using d3) (by simpa using d1)]
      show (if dv 0 (Lib.decDigits u) ≤ 9223372036854775807 then some ((dv 0 (Lib.decDigits u) : Nat) : Int) else none) = _
      rw [d2, if_pos (by omega)]
    obtain ⟨e1, e2⟩ := h.num h0 hall hv
    exact ⟨h0, .inr (.inl e1), by rw [e2, htx]⟩
  rw [if_neg k2] at hc
  by_cases n0 : n ≠ 0
  · rw [if_pos n0] at hc; cases hc
  rw [if_neg n0] at hc
  have n0' : n = 0 := by omega
  subst n0'
  by_cases k1 : k ≠ 1
  · rw [if_pos k1] at hc
    obtain ⟨h1, h2⟩ := Bool.and_eq_true_iff.1 hc
    have h2' := of_decide_eq_true h2
    have htx : tx = ⟨#[]⟩ := toList_inj (by rw [show (⟨#[]⟩ : ByteArray).toList = [] from by rw [ByteArray.toList_eq]]; exact h1)
    by_cases k3 : 3 ≤ k ∧ k < 22
    · obtain ⟨j, rfl⟩ : ∃ j : Nat, k = 3 + (j : Int) := ⟨(k - 3).toNat, by omega⟩
      have hj : j < 19 := by omega
      have hsp : spS ⟨3 + (j : Int), tx, 0, p⟩ = sg j := by unfold spS; rw [if_neg (show ¬ 3 + (j : Int) = 1 by omega), if_neg (show ¬ 3 + (j : Int) = 2 by omega), if_pos (show 3 ≤ 3 + (j : Int) ∧ 3 + (j : Int) ≤ 21 by omega)]; congr 1; show (3 + (j : Int) - 3).toNat = j; omega
      rw [hsp] at h ⊢
      obtain ⟨e1, e2⟩ := h.sign hj
      have h0 : 0 < (sg j).size := by rcases (sg_first j hj).2.2.2.2 with f5 | f5 <;> omega
      exact ⟨h0, .inr (.inr e1), by rw [e2, htx]⟩
    · obtain ⟨j, rfl⟩ : ∃ j : Nat, k = 30 + (j : Int) := ⟨(k - 30).toNat, by omega⟩
      have hj : j < 27 := by omega
      have hsp : spS ⟨30 + (j : Int), tx, 0, p⟩ = kw j := by unfold spS; rw [if_neg (show ¬ 30 + (j : Int) = 1 by omega), if_neg (show ¬ 30 + (j : Int) = 2 by omega), if_neg (show ¬ (3 ≤ 30 + (j : Int) ∧ 30 + (j : Int) ≤ 21) by omega), if_pos (show 30 ≤ 30 + (j : Int) ∧ 30 + (j : Int) ≤ 56 by omega)]; congr 1; show (30 + (j : Int) - 30).toNat = j; omega
      rw [hsp] at h ⊢
      obtain ⟨f1, f2, f3, f4⟩ := kw_first j hj
      obtain ⟨e1, e2⟩ := h.word f2 f3 f1 f4
      exact ⟨f2, .inl e1, by rw [e2, wordI_kw j hj, if_neg (show ¬ 30 + (j : Int) = 1 by omega), htx]⟩
  · rw [if_neg k1] at hc
    have k1' : k = 1 := by omega
    subst k1'
    have hsp : spS ⟨1, tx, 0, p⟩ = tx := if_pos rfl
    rw [hsp] at h ⊢
    unfold nameOk at hc
    simp only [Bool.and_eq_true, decide_eq_true_eq, beq_iff_eq] at hc
    obtain ⟨⟨⟨⟨g1, g2⟩, g3⟩, g4⟩, g5⟩ := hc
    obtain ⟨e1, e2⟩ := h.word g1 g2 g3 (of_decide_eq_true g4)
    exact ⟨g1, .inl e1, by rw [e2, g5, if_pos rfl]⟩

end Go.Proofs.YtlcmfefcammklabDoor
