/- What a token's bytes are. -/
import Derived.Test.YtlcmfefcammklabDoorCv
import Derived.Test.YtlcmfefcammklabDoorRr5
namespace Go.Proofs.YtlcmfefcammklabDoor
open Go.RowKit
set_option linter.unusedVariables false
set_option linter.unusedSimpArgs false

theorem toList_inj {a b : ByteArray} (h : (a.toList == b.toList) = true) : a = b := by
  rw [ByteArray.toList_eq, ByteArray.toList_eq, beq_iff_eq, Array.toList_inj] at h
  exact ByteArray.ext h
theorem wordI_cases (x : ByteArray) : wordI x = 1 ∨ ∃ j : Nat, j < 27 ∧ wordI x = 30 + (j : Int) ∧ upS x = kw j := by
  unfold wordI
  by_cases h : (List.range 27).findIdx (fun j => wrB x (kw j)) < 27
  · right
    refine ⟨_, h, by rw [if_pos h], ?_⟩
    have h1 := List.findIdx_getElem (xs := List.range 27) (p := fun j => wrB x (kw j)) (w := by simpa using h)
    simp only [List.getElem_range] at h1
    exact toList_inj h1
  · left
    rw [if_neg h]
theorem sgK_cases (x : ByteArray) (hx : sgK x ≠ 0) : ∃ j : Nat, j < 19 ∧ sgK x = 3 + (j : Int) ∧ x = sg j := by
  unfold sgK at hx ⊢
  by_cases h : (List.range 19).findIdx (fun j => x.toList == (sg j).toList) < 19
  · refine ⟨_, h, by rw [if_pos h], ?_⟩
    have h1 := List.findIdx_getElem (xs := List.range 19) (p := fun j => x.toList == (sg j).toList) (w := by simpa using h)
    simp only [List.getElem_range] at h1
    exact toList_inj h1
  · rw [if_neg h] at hx
    exact absurd rfl hx
theorem two_extract (s : ByteArray) (p : Nat) (h : p + 1 < s.size) : s.extract p (p + 2) = ⟨#[s.data.getD p 0, s.data.getD (p + 1) 0]⟩ := by
  have h2 : p + 1 < s.data.size := h
  apply ByteArray.ext
  rw [ByteArray.data_extract]
  apply Array.ext
  · simp; omega
  · intro i h3 h4
    have : i = 0 ∨ i = 1 := by simp at h4; omega
    rcases this with rfl | rfl
    · simp [Array.getD, show p < s.data.size by omega]
      try (intro h5; omega)
    · simp [Array.getD, h2]
      try (intro h5; omega)
theorem bt_byte {s : ByteArray} {i : Nat} {n : Nat} (h : bt s i = (n : Int)) (hn : n < 256) : s.data.getD i 0 = UInt8.ofNat n := by
  unfold bt at h
  apply UInt8.toNat_inj.1
  rw [UInt8.toNat_ofNat']
  omega
theorem sgK_two (b : UInt8) (hb : b = 33 ∨ b = 60 ∨ b = 62) : sgK ⟨#[b, 61]⟩ ≠ 0 := by
  intro h
  unfold sgK at h
  by_cases h1 : (List.range 19).findIdx (fun j => (⟨#[b, 61]⟩ : ByteArray).toList == (sg j).toList) < 19
  · rw [if_pos h1] at h; omega
  · apply h1
    have h2 : (List.range 19).findIdx (fun j => (⟨#[b, 61]⟩ : ByteArray).toList == (sg j).toList) < (List.range 19).length := by
      rw [List.findIdx_lt_length]
      rcases hb with rfl | rfl | rfl
      · exact ⟨14, by simp, by rw [ByteArray.toList_eq, ByteArray.toList_eq]; decide⟩
      · exact ⟨16, by simp, by rw [ByteArray.toList_eq, ByteArray.toList_eq]; decide⟩
      · exact ⟨18, by simp, by rw [ByteArray.toList_eq, ByteArray.toList_eq]; decide⟩
    rw [List.length_range] at h2
    exact h2
theorem sgn_ok (s : ByteArray) (q : Nat) (hq : q < s.size) (h : stI s q = 3) : sgK (s.extract q (sgnE s q)) ≠ 0 := by
  unfold sgnE
  by_cases h1 : (bt s q = 33 ∨ bt s q = 60 ∨ bt s q = 62) ∧ q + 1 < s.size ∧ bt s (q + 1) = 61
  · rw [if_pos h1, two_extract s q h1.2.1, show s.data.getD (q + 1) 0 = 61 from bt_byte (n := 61) h1.2.2 (by decide)]
    refine sgK_two _ ?_
    rcases h1.1 with h2 | h2 | h2
    · exact .inl (bt_byte (n := 33) h2 (by decide))
    · exact .inr (.inl (bt_byte (n := 60) h2 (by decide)))
    · exact .inr (.inr (bt_byte (n := 62) h2 (by decide)))
  · rw [if_neg h1]
    rcases stI_cases s q with ⟨e, _⟩ | ⟨e, _⟩ | ⟨e, _⟩ | ⟨e, _⟩ | ⟨e, h2⟩ | e
    · rw [e] at h; exact absurd h (by decide)
    · rw [e] at h; exact absurd h (by decide)
    · rw [e] at h; exact absurd h (by decide)
    · rw [e] at h; exact absurd h (by decide)
    · exact h2
    · rw [e] at h; exact absurd h (by decide)
/-- A token's bytes: a name, a keyword, a sign; or a number. -/
theorem tok_bytes (s : ByteArray) (q : Nat) (hq : q < s.size) (h1 : stI s q = 1 ∨ stI s q = 2 ∨ stI s q = 3) (h2 : (thing s q).2.2 = 0) :
    q < (thing s q).1 ∧ (thing s q).1 ≤ s.size ∧ (thing s q).2.1.a = (q : Int) ∧
    (((thing s q).2.1 = ⟨1, s.extract q (thing s q).1, 0, q⟩) ∨
     (∃ j : Nat, j < 27 ∧ (thing s q).2.1 = ⟨30 + (j : Int), ⟨#[]⟩, 0, q⟩ ∧ upS (s.extract q (thing s q).1) = kw j) ∨
     (∃ j : Nat, j < 19 ∧ (thing s q).2.1 = ⟨3 + (j : Int), ⟨#[]⟩, 0, q⟩ ∧ s.extract q (thing s q).1 = sg j) ∨
     (∃ v, (thing s q).2.1 = ⟨2, ⟨#[]⟩, v, q⟩ ∧ (thing s q).1 = runE dgB s q ∧ numP (s.extract q (thing s q).1) = (v, true) ∧ 0 ≤ v ∧ v ≤ 9223372036854775807)) := by
  obtain ⟨l1, l2⟩ := thing_le s q hq
  refine ⟨l1, l2, thing_at s q h2, ?_⟩
  rcases h1 with e | e | e
  · have ht : thing s q = (runE wdB s q, wordT s q (runE wdB s q)) := by unfold thing; rw [if_pos e]
    rw [ht] at h2 l1 l2 ⊢
    dsimp only at h2 l1 l2 ⊢
    unfold wordT at h2 ⊢
    by_cases h16 : 16 < (s.extract q (runE wdB s q)).size
    · rw [if_pos h16] at h2; exact absurd h2 (show ¬ (33 : Int) = 0 by decide)
    · rw [if_neg h16]
      rcases wordI_cases (s.extract q (runE wdB s q)) with h3 | ⟨j, hj, h3, h4⟩
      · left
        dsimp only
        rw [h3, if_pos rfl]
      · right; left
        refine ⟨j, hj, ?_, h4⟩
        dsimp only
        rw [h3, if_neg (by omega)]
  · have ht : thing s q = (runE dgB s q, numT s q (runE dgB s q)) := by unfold thing; rw [if_neg (by rw [e]; decide), if_pos e]
    rw [ht] at h2 l1 l2 ⊢
    dsimp only at h2 l1 l2 ⊢
    right; right; right
    have hin := runE_in dgB s q
    unfold numT at h2 ⊢
    by_cases h3 : runE dgB s q < s.size ∧ ltB (bt s (runE dgB s q)) = true
    · rw [if_pos h3] at h2; exact absurd h2 (show ¬ (32 : Int) = 0 by decide)
    · rw [if_neg h3] at h2 ⊢
      generalize runE dgB s q = E at *
      have hxs : (s.extract q E).size = E - q := by rw [ByteArray.size_extract]; omega
      have hall : ∀ i, i < (s.extract q E).size → dgB (bt (s.extract q E) i) = true := fun i hi => by
        rw [bt_extract s q E i (by omega) l2]
        exact hin _ (by omega) (by omega)
      have h6 : (s.extract q E).data.toList.length = (s.extract q E).size := Array.length_toList
      have hne : (s.extract q E).data.toList ≠ [] := fun e' => by rw [e'] at h6; simp at h6; omega
      have hnv := numV_dig (s.extract q E) hne (digL_all hall)
      by_cases hd : dv 0 (s.extract q E).data.toList ≤ 9223372036854775807
      · rw [if_pos hd] at hnv
        refine ⟨(dv 0 (s.extract q E).data.toList : Int), by rw [hnv], rfl, ?_, by omega, by omega⟩
        rw [numP_yes hall hd]
        rw [decide_eq_true (by omega)]
      · rw [if_neg hd] at hnv
        rw [hnv] at h2
        exact absurd h2 (show ¬ (32 : Int) = 0 by decide)
  · have ht : thing s q = (sgnE s q, ⟨sgK (s.extract q (sgnE s q)), ⟨#[]⟩, 0, q⟩, 0) := by unfold thing; rw [if_neg (by rw [e]; decide), if_neg (by rw [e]; decide)]
    right; right; left
    obtain ⟨j, hj, h3, h4⟩ := sgK_cases _ (sgn_ok s q hq e)
    refine ⟨j, hj, ?_, ?_⟩
    · rw [ht]; dsimp only; rw [h3]
    · rw [ht]; exact h4

end Go.Proofs.YtlcmfefcammklabDoor
