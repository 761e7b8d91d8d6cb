/- A token's spelling that stands at a place of a text, a blank or the end behind it, is that token. -/
import Derived.Test.YtlcmfefcammklabDoorCw
import Derived.Test.YtlcmfefcammklabDoorCo
namespace Go.Proofs.YtlcmfefcammklabDoor
open Go.RowKit
set_option linter.unusedVariables false
set_option linter.unusedSimpArgs false

/-- What no thing goes on with: a blank or the sign of a comment. -/
def enB (c : Int) : Prop := c = 32 ∨ c = 9 ∨ c = 10 ∨ c = 13 ∨ c = 35
theorem enB_wd {c : Int} (h : enB c) : wdB c = false := by rcases h with rfl | rfl | rfl | rfl | rfl <;> decide
theorem enB_dg {c : Int} (h : enB c) : dgB c = false := by rcases h with rfl | rfl | rfl | rfl | rfl <;> decide
theorem enB_lt {c : Int} (h : enB c) : ltB c = false := by rcases h with rfl | rfl | rfl | rfl | rfl <;> decide
/-- x stands in s at p, and behind it stands a blank, a comment or nothing. -/
structure At (s : ByteArray) (p : Nat) (x : ByteArray) : Prop where
  le : p + x.size ≤ s.size
  ex : s.extract p (p + x.size) = x
  be : p + x.size < s.size → enB (bt s (p + x.size))
theorem At.bt {s : ByteArray} {p : Nat} {x : ByteArray} (h : At s p x) {i : Nat} (hi : i < x.size) : bt s (p + i) = bt x i := by
  have h1 := bt_extract s p (p + x.size) i (by omega) h.le
  rw [h.ex] at h1
  exact h1.symm
theorem run_to {f : Int → Bool} {s : ByteArray} : ∀ n p, p + n ≤ s.size → (∀ i, i < n → f (bt s (p + i)) = true) → (p + n < s.size → f (bt s (p + n)) = false) → runE f s p = p + n := by
  intro n
  induction n with
  | zero =>
    intro p h1 _ h3
    rw [Nat.add_zero] at h3 ⊢
    by_cases h : p < s.size
    · exact runE_stop (.inr (h3 h))
    · exact runE_stop (.inl h)
  | succ n ih =>
    intro p h1 h2 h3
    have h4 := h2 0 (by omega)
    rw [Nat.add_zero] at h4
    rw [runE_on (by omega) h4, ih (p + 1) (by omega) (fun i h5 => by have := h2 (i + 1) (by omega); rwa [show p + (i + 1) = p + 1 + i by omega] at this) (by rw [show p + 1 + n = p + (n + 1) by omega]; exact h3)]
    omega
theorem At.run {f : Int → Bool} (hf : ∀ c, enB c → f c = false) {s : ByteArray} {p : Nat} {x : ByteArray} (h : At s p x) (hx : ∀ i, i < x.size → f (Go.Proofs.YtlcmfefcammklabDoor.bt x i) = true) : runE f s p = p + x.size :=
  run_to x.size p h.le (fun i hi => by rw [h.bt hi]; exact hx i hi) (fun hlt => hf _ (h.be hlt))
theorem st_letter {s : ByteArray} {p : Nat} (h : ltB (bt s p) = true) : stI s p = 1 := by
  have h' := h
  simp only [ltB, decide_eq_true_eq] at h'
  have hb : blB (bt s p) = false := by simp only [blB, decide_eq_false_iff_not]; omega
  unfold stI entI
  rw [if_neg (by rw [hb]; simp), if_neg (by omega), if_pos h]
theorem st_digit {s : ByteArray} {p : Nat} (h : dgB (bt s p) = true) : stI s p = 2 := by
  have h' := h
  simp only [dgB, decide_eq_true_eq] at h'
  have hb : blB (bt s p) = false := by simp only [blB, decide_eq_false_iff_not]; omega
  have hl : ltB (bt s p) = false := by simp only [ltB, decide_eq_false_iff_not]; omega
  unfold stI entI
  rw [if_neg (by rw [hb]; simp), if_neg (by omega), if_neg (by rw [hl]; simp), if_pos h]
/-- A word of at most 16 bytes. -/
theorem At.word {s : ByteArray} {p : Nat} {x : ByteArray} (h : At s p x) (h0 : 0 < x.size) (h16 : x.size ≤ 16) (hl : ltB (Go.Proofs.YtlcmfefcammklabDoor.bt x 0) = true) (hx : ∀ i, i < x.size → wdB (Go.Proofs.YtlcmfefcammklabDoor.bt x i) = true) : stI s p = 1 ∧ thing s p = (p + x.size, ⟨wordI x, if wordI x = 1 then x else ⟨#[]⟩, 0, p⟩, 0) := by
  have hb := h.bt h0
  rw [Nat.add_zero] at hb
  have e : stI s p = 1 := st_letter (by rw [hb]; exact hl)
  refine ⟨e, ?_⟩
  unfold thing
  rw [if_pos e, h.run (f := wdB) (fun _ => enB_wd) hx]
  unfold wordT
  rw [h.ex, if_neg (by omega)]
/-- Digits. -/
theorem At.num {s : ByteArray} {p : Nat} {x : ByteArray} (h : At s p x) (h0 : 0 < x.size) (hx : ∀ i, i < x.size → dgB (Go.Proofs.YtlcmfefcammklabDoor.bt x i) = true) {v : Int} (hv : numV x = some v) : stI s p = 2 ∧ thing s p = (p + x.size, ⟨2, ⟨#[]⟩, v, p⟩, 0) := by
  have hb := h.bt h0
  rw [Nat.add_zero] at hb
  have e : stI s p = 2 := st_digit (by rw [hb]; exact hx 0 h0)
  refine ⟨e, ?_⟩
  unfold thing
  rw [if_neg (by rw [e]; decide), if_pos e, h.run (f := dgB) (fun _ => enB_dg) hx]
  unfold numT
  rw [h.ex, hv, if_neg]
  rintro ⟨h1, h2⟩
  rw [enB_lt (h.be h1)] at h2
  cases h2
theorem dec_rec (u : Nat) (h : ¬ u < 10) : Lib.decDigits u = Lib.decDigits (u / 10) ++ [UInt8.ofNat (48 + u % 10)] := by
  rw [Lib.decDigits, dif_neg h]
theorem dec_facts (u : Nat) : digL (Lib.decDigits u) ∧ dv 0 (Lib.decDigits u) = u ∧ Lib.decDigits u ≠ [] := by
  induction u using Nat.strongRecOn with
  | ind u ih =>
    by_cases h : u < 10
    · rw [Lib.decDigits_one h]
      have e : (UInt8.ofNat (48 + u)).toNat = 48 + u := by rw [UInt8.toNat_ofNat']; omega
      refine ⟨fun c hc => ?_, ?_, by simp⟩
      · have : c = UInt8.ofNat (48 + u) := by simpa using hc
        rw [this, e]; omega
      · rw [dv_cons, dv_nil, e]; omega
    · obtain ⟨i1, i2, i3⟩ := ih (u / 10) (by omega)
      rw [dec_rec u h]
      have e : (UInt8.ofNat (48 + u % 10)).toNat = 48 + u % 10 := by rw [UInt8.toNat_ofNat']; omega
      refine ⟨fun c hc => ?_, ?_, by simp⟩
      · rcases List.mem_append.1 hc with h1 | h1
        · exact i1 c h1
        · have : c = UInt8.ofNat (48 + u % 10) := by simpa using h1
          rw [this, e]; omega
      · rw [dv_app, i2, e]; omega

end Go.Proofs.YtlcmfefcammklabDoor
