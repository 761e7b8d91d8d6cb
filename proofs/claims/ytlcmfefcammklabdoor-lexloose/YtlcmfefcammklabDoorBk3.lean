/- A text that is made of gaps and spellings: its tokens. -/
import Derived.Test.YtlcmfefcammklabDoorBk2
import Derived.Test.YtlcmfefcammklabDoorPa
namespace Go.Proofs.YtlcmfefcammklabDoor
open Go.RowKit
set_option linter.unusedVariables false
set_option linter.unusedSimpArgs false

/-- Gaps and spellings, one behind the other. -/
def txt (g x : Nat → List UInt8) : Nat → List UInt8
  | 0 => []
  | k + 1 => txt g x k ++ g k ++ x k
theorem txt_on (g x : Nat → List UInt8) (k : Nat) : ∀ m, ∃ r, txt g x (k + m) = txt g x k ++ r := by
  intro m
  induction m with
  | zero => exact ⟨[], (List.append_nil _).symm⟩
  | succ m ih =>
    obtain ⟨r, hr⟩ := ih
    refine ⟨r ++ g (k + m) ++ x (k + m), ?_⟩
    show txt g x (k + m) ++ g (k + m) ++ x (k + m) = _
    rw [hr]
    simp [List.append_assoc]
theorem txt_at (g x : Nat → List UInt8) {k n : Nat} (h : k < n) : ∃ r, txt g x n = txt g x k ++ (g k ++ (x k ++ r)) ∧ (k + 1 = n → r = []) ∧ (k + 1 < n → ∃ r', r = g (k + 1) ++ r') := by
  by_cases h1 : k + 1 = n
  · subst h1
    exact ⟨[], by show txt g x k ++ g k ++ x k = _; simp [List.append_assoc], fun _ => rfl, fun h2 => by omega⟩
  · obtain ⟨r, hr⟩ := txt_on g x (k + 2) (n - (k + 2))
    rw [show k + 2 + (n - (k + 2)) = n by omega] at hr
    refine ⟨g (k + 1) ++ (x (k + 1) ++ r), ?_, fun h2 => absurd h2 h1, fun _ => ⟨_, rfl⟩⟩
    rw [hr]
    show txt g x k ++ g k ++ x k ++ g (k + 1) ++ x (k + 1) ++ r = _
    simp [List.append_assoc]
theorem bt_mid (a b c : List UInt8) (i : Nat) (h : i < b.length) : bt ⟨(a ++ (b ++ c)).toArray⟩ (a.length + i) = ((b[i]).toNat : Int) := by
  unfold bt
  congr 1
  have e : (⟨(a ++ (b ++ c)).toArray⟩ : ByteArray).data.getD (a.length + i) 0 = b[i] := by
    show ((a ++ (b ++ c)).toArray).getD (a.length + i) 0 = _
    rw [Array.getD_eq_getD_getElem?, List.getElem?_toArray, List.getElem?_append_right (by omega), show a.length + i - a.length = i by omega, List.getElem?_append_left h, List.getElem?_eq_getElem h]
    rfl
  rw [e]
theorem ex_mid (a b c : List UInt8) : (⟨(a ++ (b ++ c)).toArray⟩ : ByteArray).extract a.length (a.length + b.length) = ⟨b.toArray⟩ := by
  apply ByteArray.ext
  rw [ByteArray.data_extract]
  simp
theorem size_txt (l : List UInt8) : (⟨l.toArray⟩ : ByteArray).size = l.length := by show l.toArray.size = _; simp

/-- Blanks and whole comments. -/
def gq : Bool → List UInt8 → Bool
  | c, [] => !c
  | true, b :: r => if b = 10 then gq false r else gq true r
  | false, b :: r => if b = 32 ∨ b = 9 ∨ b = 10 ∨ b = 13 then gq false r else if b = 35 then gq true r else false
theorem st_blank {s : ByteArray} {p : Nat} {b : UInt8} (h : bt s p = (b.toNat : Int)) (hb : b = 32 ∨ b = 9 ∨ b = 10 ∨ b = 13) : stI s p = 0 := by
  unfold stI entI
  rw [h, if_pos]
  rcases hb with rfl | rfl | rfl | rfl <;> decide
theorem st_hash {s : ByteArray} {p : Nat} (h : bt s p = 35) : stI s p = 4 := by
  unfold stI entI
  rw [h, if_neg (by decide), if_pos rfl]
theorem com_run {s : ByteArray} : ∀ (l : List UInt8) (p : Nat), p + l.length ≤ s.size → (∀ i, (h : i < l.length) → bt s (p + i) = ((l[i]).toNat : Int)) → gq true l = true → ∃ m, ∃ r : List UInt8, runE cmB s p = p + m ∧ l.drop m = 10 :: r ∧ gq false (10 :: r) = true := by
  intro l
  induction l with
  | nil => intro p _ _ h; cases h
  | cons b l ih =>
    intro p hp hby hg
    have h0 : bt s p = (b.toNat : Int) := hby 0 (by simp)
    rw [List.length_cons] at hp
    by_cases hb : b = 10
    · subst hb
      refine ⟨0, l, ?_, rfl, ?_⟩
      · exact runE_stop (.inr (by rw [h0]; decide))
      · rw [gq, if_pos rfl] at hg
        rw [gq, if_pos (by simp)]
        exact hg
    · rw [gq, if_neg hb] at hg
      obtain ⟨m, r, e1, e2, e3⟩ := ih (p + 1) (by omega) (fun i hi => by have := hby (i + 1) (by simp; omega); rw [show p + (i + 1) = p + 1 + i by omega] at this; exact this) hg
      refine ⟨m + 1, r, ?_, e2, e3⟩
      rw [runE_on (by omega) ?_, e1]
      · omega
      · rw [h0]
        unfold cmB
        rw [Bool.not_eq_true', beq_eq_false_iff_ne]
        intro e
        apply hb
        apply UInt8.toNat_inj.1
        have e' : ((b.toNat : Nat) : Int) = 10 := e
        show b.toNat = 10
        omega
theorem Path.gap {s : ByteArray} (ts : List Tok) : ∀ (n : Nat) (l : List UInt8) (p : Nat), l.length ≤ n → p + l.length ≤ s.size → (∀ i, (h : i < l.length) → bt s (p + i) = ((l[i]).toNat : Int)) → gq false l = true → Path s p ts (p + l.length) ts := by
  intro n
  induction n with
  | zero =>
    intro l p hl _ _ _
    obtain rfl : l = [] := List.length_eq_zero_iff.1 (by omega)
    exact .here _ _
  | succ n ih =>
    intro l p hl hp hby hg
    cases l with
    | nil => exact .here _ _
    | cons b l =>
      have h0 : bt s p = (b.toNat : Int) := hby 0 (by simp)
      rw [List.length_cons] at hl hp
      have hon : ∀ (m : Nat) (r : List UInt8), (b :: l).drop m = r → 0 < m → m ≤ l.length + 1 → gq false r = true → Path s (p + m) ts (p + (b :: l).length) ts := fun m r e hm hm2 hr => by
        have hrl : r.length = l.length + 1 - m := by rw [← e, List.length_drop, List.length_cons]
        have h1 := ih r (p + m) (by omega) (by omega) (fun i hi => by
          subst e
          have := hby (m + i) (by rw [List.length_cons]; omega)
          rw [List.getElem_drop, ← this, Nat.add_assoc]) hr
        rw [List.length_cons, show p + (l.length + 1) = p + m + r.length by omega]
        exact h1
      rw [gq] at hg
      by_cases hb : b = 32 ∨ b = 9 ∨ b = 10 ∨ b = 13
      · rw [if_pos hb] at hg
        exact .step p (p + 1) _ ts ts ts (by omega) (by unfold nxt; rw [if_pos (st_blank h0 hb)]) (hon 1 l rfl (by omega) (by omega) hg)
      · rw [if_neg hb] at hg
        by_cases hc : b = 35
        · rw [if_pos hc] at hg
          subst hc
          obtain ⟨m, r, e1, e2, e3⟩ := com_run (s := s) l (p + 1) (by omega) (fun i hi => by have := hby (i + 1) (by simp; omega); rw [show p + (i + 1) = p + 1 + i by omega] at this; exact this) hg
          have e : stI s p = 4 := st_hash h0
          have hml : m < l.length := by
            apply Decidable.byContradiction
            intro hn
            rw [List.drop_eq_nil_of_le (by omega)] at e2
            cases e2
          refine .step p (p + (m + 1)) _ ts ts ts (by omega) ?_ (hon (m + 1) (10 :: r) e2 (by omega) (by omega) e3)
          unfold nxt
          rw [if_neg (by rw [e]; decide), if_pos e, runE_on (by omega) (by rw [h0]; decide), e1, show p + 1 + m = p + (m + 1) by omega]
        · rw [if_neg hc] at hg
          cases hg

/-- The tokens of such a text. -/
theorem Path.txt (W : List Tok) (hn : W.length ≤ 400) (g x : Nat → List UInt8) (s : ByteArray) (hs : s = ⟨(txt g x W.length).toArray⟩) (hg : ∀ k, k < W.length → gq false (g k) = true) (hg1 : ∀ k, 0 < k → k < W.length → ∃ c r, g k = c :: r ∧ enB (c.toNat : Int))
    (hx : ∀ k, k < W.length → ∀ p, p = (Go.Proofs.YtlcmfefcammklabDoor.txt g x k).length + (g k).length → At s p ⟨(x k).toArray⟩ → 0 < (x k).length ∧ (stI s p = 1 ∨ stI s p = 2 ∨ stI s p = 3) ∧ thing s p = (p + (x k).length, W.getD k noTok, 0)) :
    ∀ k, k ≤ W.length → Path s 0 [] (Go.Proofs.YtlcmfefcammklabDoor.txt g x k).length (W.take k) := by
  intro k
  induction k with
  | zero => intro _; rw [List.take_zero]; exact .here _ _
  | succ k ih =>
    intro hk
    obtain ⟨r, e, r1, r2⟩ := txt_at g x (show k < W.length by omega)
    have hsz : s.size = (Go.Proofs.YtlcmfefcammklabDoor.txt g x k).length + ((g k).length + ((x k).length + r.length)) := by rw [hs, size_txt, e]; simp
    have P1 : Path s (Go.Proofs.YtlcmfefcammklabDoor.txt g x k).length (W.take k) ((Go.Proofs.YtlcmfefcammklabDoor.txt g x k).length + (g k).length) (W.take k) := by
      refine Path.gap (W.take k) _ (g k) _ (Nat.le_refl _) (by omega) (fun i hi => ?_) (hg k (by omega))
      rw [hs, e]
      exact bt_mid _ _ _ i hi
    have hxs : (⟨(x k).toArray⟩ : ByteArray).size = (x k).length := size_txt _
    have ha : At s ((Go.Proofs.YtlcmfefcammklabDoor.txt g x k).length + (g k).length) ⟨(x k).toArray⟩ := by
      refine ⟨by omega, ?_, fun hlt => ?_⟩
      · rw [hs, e, hxs, show Go.Proofs.YtlcmfefcammklabDoor.txt g x k ++ (g k ++ (x k ++ r)) = (Go.Proofs.YtlcmfefcammklabDoor.txt g x k ++ g k) ++ (x k ++ r) by simp, ← List.length_append]
        exact ex_mid _ _ _
      · have h2 : k + 1 < W.length := by
          apply Decidable.byContradiction
          intro h3
          rw [r1 (by omega), List.length_nil] at hsz
          omega
        obtain ⟨r', hr'⟩ := r2 h2
        obtain ⟨c, r'', hc, hen⟩ := hg1 (k + 1) (by omega) h2
        rw [hxs, hs, e, hr', hc]
        have h5 := bt_mid (Go.Proofs.YtlcmfefcammklabDoor.txt g x k ++ g k ++ x k) (c :: r'') r' 0 (by simp)
        rw [Nat.add_zero, List.length_append, List.length_append] at h5
        rw [show Go.Proofs.YtlcmfefcammklabDoor.txt g x k ++ (g k ++ (x k ++ (c :: r'' ++ r'))) = Go.Proofs.YtlcmfefcammklabDoor.txt g x k ++ g k ++ x k ++ (c :: r'' ++ r') by simp, h5]
        exact hen
    obtain ⟨x0, x1, x2⟩ := hx k (by omega) _ rfl ha
    have P2 : Path s ((Go.Proofs.YtlcmfefcammklabDoor.txt g x k).length + (g k).length) (W.take k) ((Go.Proofs.YtlcmfefcammklabDoor.txt g x k).length + (g k).length + (x k).length) (W.take k ++ [W.getD k noTok]) := by
      refine .step _ _ _ _ _ _ (by omega) ?_ (.here _ _)
      have hl : ¬ (W.take k).length = 400 := by rw [List.length_take]; omega
      unfold nxt
      rw [x2, if_neg (by omega), if_neg (by omega), if_neg (by omega), if_neg (by simp), if_neg hl]
    have e9 : W.take (k + 1) = W.take k ++ [W.getD k noTok] := by
      rw [List.take_add_one, List.getElem?_eq_getElem (by omega), List.getD_eq_getElem?_getD, List.getElem?_eq_getElem (by omega)]
      rfl
    have e8 : (Go.Proofs.YtlcmfefcammklabDoor.txt g x (k + 1)).length = (Go.Proofs.YtlcmfefcammklabDoor.txt g x k).length + (g k).length + (x k).length := by
      show (Go.Proofs.YtlcmfefcammklabDoor.txt g x k ++ g k ++ x k).length = _
      simp; omega
    rw [e9, e8]
    exact ((ih (by omega)).trans P1).trans P2

/-- How long a spelling is. -/
theorem dec_len : ∀ (m u : Nat), u < 10 ^ (m + 1) → (Lib.decDigits u).length ≤ m + 1 := by
  intro m
  induction m with
  | zero => intro u h; rw [Lib.decDigits_one (by simpa using h)]; simp
  | succ m ih =>
    intro u h
    by_cases h1 : u < 10
    · rw [Lib.decDigits_one h1]; simp
    · rw [dec_rec u h1, List.length_append]
      have := ih (u / 10) (by rw [Nat.pow_succ] at h; omega)
      show _ + 1 ≤ _
      omega
theorem could_len {t : Tok} (hc : couldB t = true) (hn : t.n ≤ 9223372036854775807) : (spS t).size ≤ 19 := by
  obtain ⟨k, tx, n, a⟩ := t
  dsimp only at hn
  unfold couldB at hc
  dsimp only at hc
  by_cases k2 : k = 2
  · rw [if_pos k2] at hc
    subst k2
    obtain ⟨h1, h2⟩ := Bool.and_eq_true_iff.1 hc
    have h1' : 0 ≤ n := of_decide_eq_true h1
    obtain ⟨u, rfl⟩ : ∃ u : Nat, n = (u : Int) := ⟨n.toNat, by omega⟩
    have hsp : spS ⟨2, tx, (u : Int), a⟩ = ⟨(Lib.decDigits u).toArray⟩ := by unfold spS; rw [if_neg (show ¬ (2 : Int) = 1 by decide), if_pos rfl]; show (⟨(Lib.itoa (u : Int)).toArray⟩ : ByteArray) = _; rw [Lib.itoa_nonneg]
    rw [hsp, size_txt]
    exact dec_len 18 u (by omega)
  rw [if_neg k2] at hc
  by_cases n0 : n ≠ 0
  · rw [if_pos n0] at hc; cases hc
  rw [if_neg n0] at hc
  by_cases k1 : k ≠ 1
  · rw [if_pos k1] at hc
    obtain ⟨h1, h2⟩ := Bool.and_eq_true_iff.1 hc
    have h2' := of_decide_eq_true h2
    by_cases k3 : 3 ≤ k ∧ k < 22
    · obtain ⟨j, rfl⟩ : ∃ j : Nat, k = 3 + (j : Int) := ⟨(k - 3).toNat, by omega⟩
      have hj : j < 19 := by omega
      have hsp : spS ⟨3 + (j : Int), tx, n, a⟩ = sg j := by unfold spS; rw [if_neg (show ¬ 3 + (j : Int) = 1 by omega), if_neg (show ¬ 3 + (j : Int) = 2 by omega), if_pos (show 3 ≤ 3 + (j : Int) ∧ 3 + (j : Int) ≤ 21 by omega)]; congr 1; show (3 + (j : Int) - 3).toNat = j; omega
      rw [hsp]
      rcases (sg_first j hj).2.2.2.2 with f5 | f5 <;> omega
    · obtain ⟨j, rfl⟩ : ∃ j : Nat, k = 30 + (j : Int) := ⟨(k - 30).toNat, by omega⟩
      have hj : j < 27 := by omega
      have hsp : spS ⟨30 + (j : Int), tx, n, a⟩ = kw j := by unfold spS; rw [if_neg (show ¬ 30 + (j : Int) = 1 by omega), if_neg (show ¬ 30 + (j : Int) = 2 by omega), if_neg (show ¬ (3 ≤ 30 + (j : Int) ∧ 30 + (j : Int) ≤ 21) by omega), if_pos (show 30 ≤ 30 + (j : Int) ∧ 30 + (j : Int) ≤ 56 by omega)]; congr 1; show (30 + (j : Int) - 30).toNat = j; omega
      rw [hsp]
      have := (kw_first j hj).2.2.1
      omega
  · rw [if_neg k1] at hc
    have k1' : k = 1 := by omega
    subst k1'
    have hsp : spS ⟨1, tx, n, a⟩ = tx := if_pos rfl
    rw [hsp]
    unfold nameOk at hc
    simp only [Bool.and_eq_true, decide_eq_true_eq, beq_iff_eq] at hc
    obtain ⟨⟨⟨⟨g1, g2⟩, g3⟩, g4⟩, g5⟩ := hc
    omega
/-- A token at another place. -/
def tA (t : Tok) (a : Int) : Tok := ⟨t.k, t.t, t.n, a⟩
theorem spS_tA (t : Tok) (a : Int) : spS (tA t a) = spS t := rfl
theorem couldB_tA (t : Tok) (a : Int) : couldB (tA t a) = couldB t := rfl

end Go.Proofs.YtlcmfefcammklabDoor
