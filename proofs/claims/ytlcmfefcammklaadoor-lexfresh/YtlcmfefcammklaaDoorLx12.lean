/- The document's Lex as a function of the text, and that it answers what the machine does. -/
import Derived.Test.YtlcmfefcammklaaDoorLo
import Derived.Test.YtlcmfefcammklaaDoorRr3
namespace Go.Proofs.YtlcmfefcammklaaDoor
open Go.RowKit
set_option linter.unusedVariables false
set_option linter.unusedSimpArgs false

def numR (x : ByteArray) : Option Int := if ∀ i, i < x.size → dgB (bt x i) = true then numV x else none
/-- What the document's token answers. -/
def tokT (x : ByteArray) (role : Int) (a : Nat) : Tok × Int :=
  if role = 3 then (⟨0, ⟨#[]⟩, 0, a⟩, 31) else if role = 2 then (⟨sgK x, ⟨#[]⟩, 0, a⟩, 0)
  else if dgB (bt x 0) = true then (match numR x with | some v => (⟨2, ⟨#[]⟩, v, a⟩, 0) | none => (⟨0, ⟨#[]⟩, 0, a⟩, 32))
  else if 16 < x.size then (⟨0, ⟨#[]⟩, 0, a⟩, 33) else (⟨wordI x, if wordI x = 1 then x else ⟨#[]⟩, 0, a⟩, 0)
def refT (s : ByteArray) (i : Nat) : Tok × Int := tokT (s.extract i (endN s i)) (roleI s i) i
def refR (s : ByteArray) : Nat → Nat → List Tok → Int × Nat × List Tok
  | 0, i, ts => (0, 0, ts)
  | n + 1, i, ts => if staB s i = false then refR s n (i + 1) ts else if (refT s i).2 ≠ 0 then ((refT s i).2, i, ts) else if ts.length = 400 then (34, i, ts) else refR s n (i + 1) (ts ++ [(refT s i).1])
def refA (s : ByteArray) (i : Nat) (ts : List Tok) : Int × Nat × List Tok := refR s (s.size - i) i ts
theorem refA_end (s : ByteArray) (i : Nat) (ts : List Tok) (h : s.size ≤ i) : refA s i ts = (0, 0, ts) := by
  unfold refA
  rw [show s.size - i = 0 by omega]
  rfl
theorem refA_step (s : ByteArray) (i : Nat) (ts : List Tok) (h : i < s.size) : refA s i ts = if staB s i = false then refA s (i + 1) ts else if (refT s i).2 ≠ 0 then ((refT s i).2, i, ts) else if ts.length = 400 then (34, i, ts) else refA s (i + 1) (ts ++ [(refT s i).1]) := by
  unfold refA
  obtain ⟨n, hn⟩ : ∃ n, s.size - i = n + 1 := ⟨s.size - i - 1, by omega⟩
  rw [hn, show s.size - (i + 1) = n by omega]
  rfl
theorem refA_skip (s : ByteArray) (ts : List Tok) (q : Nat) (hq : q ≤ s.size) : ∀ n p, q = p + n → (∀ j, p ≤ j → j < q → staB s j = false) → refA s p ts = refA s q ts := by
  intro n
  induction n with
  | zero => intro p h _; rw [h]; rfl
  | succ n ih =>
    intro p h hj
    rw [refA_step s p ts (by omega), if_pos (hj p (Nat.le_refl _) (by omega))]
    exact ih (p + 1) (by omega) (fun j h1 h2 => hj j (by omega) h2)
def Pre (s : ByteArray) (i : Nat) : Prop := comB s i = false ∨ bt s i = 10
theorem com_next {s : ByteArray} {i : Nat} (h : Pre s i) (h1 : bt s i ≠ 35) : comB s (i + 1) = false := by
  show (if bt s i = 10 then false else if bt s i = 35 then true else comB s i) = false
  rcases h with h | h
  · rw [if_neg h1, h]; simp
  · rw [if_pos h]
theorem com_hash {s : ByteArray} {i : Nat} (h1 : bt s i = 35) : comB s (i + 1) = true := by
  show (if bt s i = 10 then false else if bt s i = 35 then true else comB s i) = true
  rw [if_neg (by omega), if_pos h1]
theorem lt_facts {n : Int} (h : ltB n = true) : n ≠ 10 ∧ n ≠ 35 ∧ blB n = false ∧ dgB n = false := by
  simp only [ltB, decide_eq_true_eq] at h
  refine ⟨by omega, by omega, ?_, ?_⟩
  · simp only [blB, decide_eq_false_iff_not]; omega
  · simp only [dgB, decide_eq_false_iff_not]; omega
theorem dg_facts {n : Int} (h : dgB n = true) : n ≠ 10 ∧ n ≠ 35 ∧ blB n = false ∧ ltB n = false := by
  simp only [dgB, decide_eq_true_eq] at h
  refine ⟨by omega, by omega, ?_, ?_⟩
  · simp only [blB, decide_eq_false_iff_not]; omega
  · simp only [ltB, decide_eq_false_iff_not]; omega
theorem wd_facts {n : Int} (h : wdB n = true) : n ≠ 10 ∧ n ≠ 35 ∧ blB n = false := by
  unfold wdB at h
  rcases Bool.or_eq_true_iff.1 h with h | h
  · exact ⟨(lt_facts h).1, (lt_facts h).2.1, (lt_facts h).2.2.1⟩
  · exact ⟨(dg_facts h).1, (dg_facts h).2.1, (dg_facts h).2.2.1⟩
theorem role_wd {s : ByteArray} {i : Nat} (hc : comB s i = false) (h : wdB (bt s i) = true) : roleI s i = 1 ∧ comB s (i + 1) = false := by
  obtain ⟨h1, h2, h3⟩ := wd_facts h
  have hn := com_next (.inl hc) h2
  refine ⟨?_, hn⟩
  unfold roleI
  rw [if_neg (by rw [hn, h3]; simp), if_pos h]
theorem role_ne1 {s : ByteArray} {i : Nat} (h : wdB (bt s i) = false) : roleI s i ≠ 1 := by
  unfold roleI
  split
  · decide
  · rw [if_neg (by rw [h]; simp)]
    split <;> decide
theorem role_rest {s : ByteArray} {i : Nat} (h : comB s (i + 1) = true ∨ blB (bt s i) = true) : roleI s i = 0 := by
  unfold roleI
  rw [if_pos h]
theorem sta_rest {s : ByteArray} {i : Nat} (h : roleI s i = 0) : staB s i = false := by
  unfold staB
  rw [h]
  rfl
theorem sec_of_prev {s : ByteArray} {i : Nat} (h : roleI s (i - 1) ≠ 2) : secB s i = false := by
  unfold secB
  rw [decide_eq_false_iff_not]
  intro h1
  exact h h1.2.2.2.1
theorem rolE_eq (s : ByteArray) (E : Nat) (hE : E ≤ s.size) (hstop : E < s.size → roleI s E ≠ 1) : ∀ n p, E = p + n → (∀ j, p ≤ j → j < E → roleI s j = 1) → rolE s p = E := by
  intro n
  induction n with
  | zero =>
    intro p h _
    obtain rfl : E = p := h
    by_cases h1 : E < s.size
    · exact rolE_stop (.inr (hstop h1))
    · exact rolE_stop (.inl h1)
  | succ n ih =>
    intro p h hj
    rw [rolE_on (by omega) (hj p (Nat.le_refl _) (by omega))]
    exact ih (p + 1) (by omega) (fun j h1 h2 => hj j (by omega) h2)
theorem word_roles (s : ByteArray) (p E : Nat) (hc : comB s p = false) (hw : ∀ j, p ≤ j → j < E → wdB (bt s j) = true) : ∀ n, p + n ≤ E → comB s (p + n) = false := by
  intro n
  induction n with
  | zero => intro _; exact hc
  | succ n ih =>
    intro h
    exact (role_wd (ih (by omega)) (hw (p + n) (by omega) (by omega))).2
theorem com_run (s : ByteArray) (p E : Nat) (hc : bt s p = 35) (hw : ∀ j, p ≤ j → j < E → cmB (bt s j) = true) : ∀ n, p + n < E → comB s (p + n + 1) = true := by
  intro n
  induction n with
  | zero => intro _; exact com_hash hc
  | succ n ih =>
    intro h
    have h1 := hw (p + (n + 1)) (by omega) h
    show (if bt s (p + (n + 1)) = 10 then false else if bt s (p + (n + 1)) = 35 then true else comB s (p + (n + 1))) = true
    rw [if_neg (by simp only [cmB, Bool.not_eq_true', beq_eq_false_iff_ne] at h1; exact h1)]
    split
    · rfl
    · exact ih (by omega)
theorem role_sign {s : ByteArray} {i : Nat} (hc : comB s (i + 1) = false) (h0 : blB (bt s i) = false) (h1 : wdB (bt s i) = false) (h2 : sgK (s.extract i (i + 1)) ≠ 0) : roleI s i = 2 := by
  unfold roleI
  rw [if_neg (by rw [hc, h0]; simp), if_neg (by rw [h1]; simp), if_pos h2]
theorem sgK_eq : sgK ⟨#[61]⟩ ≠ 0 := by
  rw [sgK_hit ⟨#[61]⟩ 13 (by decide) (by rw [ByteArray.toList_eq, ByteArray.toList_eq]; decide) (fun j hj => by
    rw [ByteArray.toList_eq, ByteArray.toList_eq]
    rcases (show j = 0 ∨ j = 1 ∨ j = 2 ∨ j = 3 ∨ j = 4 ∨ j = 5 ∨ j = 6 ∨ j = 7 ∨ j = 8 ∨ j = 9 ∨ j = 10 ∨ j = 11 ∨ j = 12 from by omega) with rfl | rfl | rfl | rfl | rfl | rfl | rfl | rfl | rfl | rfl | rfl | rfl | rfl <;> decide)]
  decide
theorem eq_sign (s : ByteArray) (i : Nat) (h : i < s.size) (hb : bt s i = 61) : sgK (s.extract i (i + 1)) ≠ 0 := by
  rw [one_extract s i h]
  have : s.data.getD i 0 = 61 := by
    unfold bt at hb
    apply UInt8.toNat_inj.1
    show _ = 61
    omega
  rw [this]
  exact sgK_eq
theorem fin_step {p : Nat} {ts : List Tok} {t1 t2 : Tok × Int} {X Y : Int × Nat × List Tok} (h2 : t1.2 = t2.2) (h1 : t1.2 = 0 → ts.length ≠ 400 → fin X = fin Y) :
    fin (if t1.2 ≠ 0 then (t1.2, p, ts) else if ts.length = 400 then (34, p, ts) else X) = fin (if t2.2 ≠ 0 then (t2.2, p, ts) else if ts.length = 400 then (34, p, ts) else Y) := by
  rw [← h2]
  by_cases h : t1.2 ≠ 0
  · rw [if_pos h, if_pos h]
  rw [if_neg h, if_neg h]
  by_cases h4 : ts.length = 400
  · rw [if_pos h4, if_pos h4]
  rw [if_neg h4, if_neg h4]
  exact h1 (by simpa using h) h4

theorem stI_odd {s : ByteArray} {p : Nat} (e : stI s p = 3 ∨ stI s p = 5) : blB (bt s p) = false ∧ bt s p ≠ 35 ∧ ltB (bt s p) = false ∧ dgB (bt s p) = false := by
  unfold stI entI at e
  by_cases h0 : blB (bt s p) = true
  · rw [if_pos h0] at e; omega
  rw [if_neg h0] at e
  by_cases h1 : bt s p = 35
  · rw [if_pos h1] at e; omega
  rw [if_neg h1] at e
  by_cases h2 : ltB (bt s p) = true
  · rw [if_pos h2] at e; omega
  rw [if_neg h2] at e
  by_cases h3 : dgB (bt s p) = true
  · rw [if_pos h3] at e; omega
  exact ⟨by simpa using h0, h1, by simpa using h2, by simpa using h3⟩
theorem stI_five {s : ByteArray} {p : Nat} (e : stI s p = 5) : ¬ sgK (s.extract p (p + 1)) ≠ 0 := by
  obtain ⟨h0, h1, h2, h3⟩ := stI_odd (.inr e)
  intro h4
  unfold stI entI at e
  rw [if_neg (by rw [h0]; simp), if_neg h1, if_neg (by rw [h2]; simp), if_neg (by rw [h3]; simp), if_pos h4] at e
  omega

/-- A place between two things. -/
structure Inv (s : ByteArray) (p : Nat) : Prop where
  pre : Pre s p
  left : p = 0 ∨ roleI s (p - 1) ≠ 1 ∨ roleI s p ≠ 1
  sec : secB s p = false
theorem inv_zero (s : ByteArray) : Inv s 0 := ⟨.inl rfl, .inl rfl, by unfold secB; simp⟩

set_option maxHeartbeats 2000000 in
theorem both (s : ByteArray) : ∀ n p bg ts, s.size = p + n → (p < s.size → Inv s p) → fin (lexA s p bg ts) = fin (refA s p ts) := by
  intro n
  induction n using Nat.strongRecOn with
  | ind n ih =>
  intro p bg ts hn hI
  by_cases hp : p < s.size
  case neg =>
    obtain rfl : p = s.size := by omega
    rw [lexA_end, refA_end s _ _ (Nat.le_refl _)]
    rfl
  obtain ⟨hpre, hleft, hsec⟩ := hI hp
  rw [lexA_step s p bg ts hp]
  rcases stI_cases s p with ⟨e, h⟩ | ⟨e, h⟩ | ⟨e, h⟩ | ⟨e, h⟩ | ⟨e, h⟩ | e
  · rw [if_pos e]
    have hr := role_rest (s := s) (i := p) (.inr h)
    rw [refA_step s p ts hp, if_pos (sta_rest hr)]
    have h35 : bt s p ≠ 35 := by simp only [blB, decide_eq_true_eq] at h; omega
    refine ih (n - 1) (by omega) (p + 1) p ts (by omega) (fun _ => ⟨.inl (com_next hpre h35), .inr (.inl ?_), sec_of_prev ?_⟩)
    · rw [Nat.add_sub_cancel, hr]; decide
    · rw [Nat.add_sub_cancel, hr]; decide
  · rw [if_neg (by rw [e]; decide), if_pos e]
    obtain ⟨hE1, hE2⟩ := comment_le s p hp e
    have hin := runE_in cmB s p
    obtain ⟨E, hE⟩ : ∃ E, E = runE cmB s p := ⟨_, rfl⟩
    have hat := fun hx => runE_at (f := cmB) (s := s) (p := p) hx
    rw [← hE] at hE1 hE2 hin hat ⊢
    have hrr : ∀ j, p ≤ j → j < E → roleI s j = 0 := fun j h1 h2 => by
      obtain ⟨k, rfl⟩ : ∃ k, j = p + k := ⟨j - p, by omega⟩
      exact role_rest (.inl (com_run s p E h hin k h2))
    rw [refA_skip s ts E hE2 (E - p) p (by omega) (fun j h1 h2 => sta_rest (hrr j h1 h2))]
    have hpr := hrr (E - 1) (by omega) (by omega)
    refine ih (s.size - E) (by omega) E p ts (by omega) (fun hx => ⟨.inr ?_, .inr (.inl ?_), sec_of_prev ?_⟩)
    · have := hat hx
      simpa [cmB] using this
    · rw [hpr]; decide
    · rw [hpr]; decide
  · have hw : wdB (bt s p) = true := by unfold wdB; rw [h]; rfl
    have hc : comB s p = false := by
      rcases hpre with h1 | h1
      · exact h1
      · exact absurd h1 (lt_facts h).1
    have hrp := (role_wd hc hw).1
    have hst : staB s p = true := by
      unfold staB
      rw [if_pos hrp, decide_eq_true_eq]
      rcases hleft with h1 | h1 | h1
      · exact .inl h1
      · exact .inr h1
      · exact absurd hrp h1
    have hE1 := runE_le wdB s (p + 1) (by omega)
    rw [← runE_on hp hw] at hE1
    have hin := runE_in wdB s p
    have hat := fun hx => runE_at (f := wdB) (s := s) (p := p) hx
    have hth : thing s p = (runE wdB s p, wordT s p (runE wdB s p)) := by unfold thing; rw [if_pos e]
    rw [if_neg (by rw [e]; decide), if_neg (by rw [e]; decide), if_neg (by rw [e]; decide), hth, refA_step s p ts hp, if_neg (show ¬ staB s p = false by rw [hst]; simp)]
    dsimp only
    obtain ⟨E, hE⟩ : ∃ E, E = runE wdB s p := ⟨_, rfl⟩
    rw [← hE] at hE1 hin hat ⊢
    have hcj := word_roles s p E hc hin
    have hrr : ∀ j, p ≤ j → j < E → roleI s j = 1 := fun j h1 h2 => by
      obtain ⟨k, rfl⟩ : ∃ k, j = p + k := ⟨j - p, by omega⟩
      exact (role_wd (hcj k (by omega)) (hin _ h1 h2)).1
    have hEn : E < s.size → roleI s E ≠ 1 := fun hx => role_ne1 (hat hx)
    have hej : endJ s p = E := by
      unfold endJ
      rw [if_pos hrp]
      exact rolE_eq s E hE1.2 hEn (E - (p + 1)) (p + 1) (by omega) (fun j h1 h2 => hrr j (by omega) h2)
    have hsE : secB s E = false := sec_of_prev (by rw [hrr (E - 1) (by omega) (by omega)]; decide)
    have hen : endN s p = E := by
      unfold endN
      rw [hej, if_neg (by rw [hsE]; simp)]
    have hx0 : dgB (bt (s.extract p E) 0) = false := by rw [bt_extract s p E 0 (by omega) hE1.2]; exact (lt_facts h).2.2.2
    have hrt : refT s p = tokT (s.extract p E) 1 p := by unfold refT; rw [hen, hrp]
    have htk : (wordT s p E).2 = (refT s p).2 ∧ ((wordT s p E).2 = 0 → (wordT s p E).1 = (refT s p).1) := by
      rw [hrt]
      unfold tokT wordT
      rw [if_neg (show ¬ (1 : Int) = 3 by decide), if_neg (show ¬ (1 : Int) = 2 by decide), if_neg (show ¬ dgB (bt (s.extract p E) 0) = true by rw [hx0]; simp)]
      by_cases h16 : 16 < (s.extract p E).size
      · rw [if_pos h16, if_pos h16]
        exact ⟨rfl, fun h5 => absurd h5 (show ¬ (33 : Int) = 0 by decide)⟩
      · rw [if_neg h16, if_neg h16]
        exact ⟨rfl, fun _ => rfl⟩
    refine fin_step (t1 := wordT s p E) (t2 := refT s p) htk.1 fun h5 h6 => ?_
    rw [htk.2 h5]
    rw [refA_skip s _ E hE1.2 (E - (p + 1)) (p + 1) (by omega) (fun j h1 h2 => by
      unfold staB
      rw [if_pos (hrr j (by omega) h2), decide_eq_false_iff_not]
      intro h3
      rcases h3 with h3 | h3
      · omega
      · exact h3 (hrr (j - 1) (by omega) (by omega)))]
    exact ih (s.size - E) (by omega) E p _ (by omega) (fun hx => ⟨.inl (by have := hcj (E - p) (by omega); rwa [show p + (E - p) = E by omega] at this), .inr (.inr (hEn hx)), hsE⟩)
  · have hw : wdB (bt s p) = true := by unfold wdB; rw [h]; simp
    have hc : comB s p = false := by
      rcases hpre with h1 | h1
      · exact h1
      · exact absurd h1 (dg_facts h).1
    have hrp := (role_wd hc hw).1
    have hst : staB s p = true := by
      unfold staB
      rw [if_pos hrp, decide_eq_true_eq]
      rcases hleft with h1 | h1 | h1
      · exact .inl h1
      · exact .inr h1
      · exact absurd hrp h1
    have hE1 := runE_le wdB s (p + 1) (by omega)
    rw [← runE_on hp hw] at hE1
    have hin := runE_in wdB s p
    have hat := fun hx => runE_at (f := wdB) (s := s) (p := p) hx
    have hD1 := runE_le dgB s (p + 1) (by omega)
    rw [← runE_on hp h] at hD1
    have din := runE_in dgB s p
    have dat := fun hx => runE_at (f := dgB) (s := s) (p := p) hx
    have hth : thing s p = (runE dgB s p, numT s p (runE dgB s p)) := by unfold thing; rw [if_neg (by rw [e]; decide), if_pos e]
    rw [if_neg (by rw [e]; decide), if_neg (by rw [e]; decide), if_neg (by rw [e]; decide), hth, refA_step s p ts hp, if_neg (show ¬ staB s p = false by rw [hst]; simp)]
    dsimp only
    obtain ⟨E, hE⟩ : ∃ E, E = runE wdB s p := ⟨_, rfl⟩
    rw [← hE] at hE1 hin hat
    obtain ⟨D, hD⟩ : ∃ D, D = runE dgB s p := ⟨_, rfl⟩
    rw [← hD] at hD1 din dat ⊢
    have hcj := word_roles s p E hc hin
    have hrr : ∀ j, p ≤ j → j < E → roleI s j = 1 := fun j h1 h2 => by
      obtain ⟨k, rfl⟩ : ∃ k, j = p + k := ⟨j - p, by omega⟩
      exact (role_wd (hcj k (by omega)) (hin _ h1 h2)).1
    have hEn : E < s.size → roleI s E ≠ 1 := fun hx => role_ne1 (hat hx)
    have hej : endJ s p = E := by
      unfold endJ
      rw [if_pos hrp]
      exact rolE_eq s E hE1.2 hEn (E - (p + 1)) (p + 1) (by omega) (fun j h1 h2 => hrr j (by omega) h2)
    have hsE : secB s E = false := sec_of_prev (by rw [hrr (E - 1) (by omega) (by omega)]; decide)
    have hen : endN s p = E := by
      unfold endN
      rw [hej, if_neg (by rw [hsE]; simp)]
    have hx0 : dgB (bt (s.extract p E) 0) = true := by rw [bt_extract s p E 0 (by omega) hE1.2]; exact h
    have hDE : D ≤ E := by
      rcases Nat.lt_or_ge E D with h1 | h1
      · have h2 := din E (by omega) h1
        have h3 := hat (by omega)
        unfold wdB at h3
        rw [h2] at h3
        simp at h3
      · exact h1
    have hrt : refT s p = (match numR (s.extract p E) with | some v => (⟨2, ⟨#[]⟩, v, p⟩, 0) | none => (⟨0, ⟨#[]⟩, 0, p⟩, 32)) := by
      unfold refT
      rw [hen, hrp]
      unfold tokT
      rw [if_neg (show ¬ (1 : Int) = 3 by decide), if_neg (show ¬ (1 : Int) = 2 by decide), if_pos hx0]
    have htk : (numT s p D).2 = (refT s p).2 ∧ ((numT s p D).2 = 0 → (numT s p D).1 = (refT s p).1 ∧ D = E) := by
      rw [hrt]
      by_cases hl : D < s.size ∧ ltB (bt s D) = true
      · have hDE2 : D < E := by
          rcases Nat.lt_or_ge D E with h1 | h1
          · exact h1
          · obtain rfl : D = E := by omega
            have h3 := hat hl.1
            unfold wdB at h3
            rw [hl.2] at h3
            simp at h3
        have hnr : numR (s.extract p E) = none := by
          unfold numR
          rw [if_neg]
          intro h1
          have h2 := h1 (D - p) (by rw [ByteArray.size_extract]; omega)
          rw [bt_extract s p E (D - p) (by omega) hE1.2, show p + (D - p) = D by omega] at h2
          rw [(lt_facts hl.2).2.2.2] at h2
          exact absurd h2 (by decide)
        rw [hnr]
        unfold numT
        rw [if_pos hl]
        exact ⟨rfl, fun h5 => absurd h5 (show ¬ (32 : Int) = 0 by decide)⟩
      · obtain rfl : D = E := by
          rcases Nat.lt_or_ge D E with h1 | h1
          · have h2 := hin D (by omega) h1
            have h3 := dat (by omega)
            unfold wdB at h2
            rw [h3, Bool.or_false] at h2
            exact absurd ⟨by omega, h2⟩ hl
          · omega
        have hnr : numR (s.extract p D) = numV (s.extract p D) := by
          unfold numR
          rw [if_pos]
          intro i hi
          rw [ByteArray.size_extract] at hi
          rw [bt_extract s p D i (by omega) hD1.2]
          exact din _ (by omega) (by omega)
        rw [hnr]
        unfold numT
        rw [if_neg hl]
        cases hv : numV (s.extract p D) with
        | none => exact ⟨rfl, fun h5 => absurd h5 (show ¬ (32 : Int) = 0 by decide)⟩
        | some v => exact ⟨rfl, fun _ => ⟨rfl, rfl⟩⟩
    refine fin_step (t1 := numT s p D) (t2 := refT s p) htk.1 fun h5 h6 => ?_
    obtain ⟨htk2, rfl⟩ := htk.2 h5
    rw [htk2]
    rw [refA_skip s _ D hE1.2 (D - (p + 1)) (p + 1) (by omega) (fun j h1 h2 => by
      unfold staB
      rw [if_pos (hrr j (by omega) h2), decide_eq_false_iff_not]
      intro h3
      rcases h3 with h3 | h3
      · omega
      · exact h3 (hrr (j - 1) (by omega) (by omega)))]
    exact ih (s.size - D) (by omega) D p _ (by omega) (fun hx => ⟨.inl (by have := hcj (D - p) (by omega); rwa [show p + (D - p) = D by omega] at this), .inr (.inr (hEn hx)), hsE⟩)
  · obtain ⟨hb, h35, hlt, hdg⟩ := stI_odd (.inl e)
    have hwd : wdB (bt s p) = false := by unfold wdB; rw [hlt, hdg]; rfl
    have hc1 := com_next hpre h35
    have hrp := role_sign hc1 hb hwd h
    have hst : staB s p = true := by
      unfold staB
      rw [hrp, if_neg (by decide), if_pos rfl, hsec]
      rfl
    rw [if_neg (by rw [e]; decide), if_neg (by rw [e]; decide), if_neg (by rw [e]; decide)]
    have hth : thing s p = (sgnE s p, ⟨sgK (s.extract p (sgnE s p)), ⟨#[]⟩, 0, p⟩, 0) := by unfold thing; rw [if_neg (by rw [e]; decide), if_neg (by rw [e]; decide)]
    have hsec1 : (secB s (p + 1) = true ∧ p + 1 < s.size) ↔ ((bt s p = 33 ∨ bt s p = 60 ∨ bt s p = 62) ∧ p + 1 < s.size ∧ bt s (p + 1) = 61) := by
      unfold secB
      rw [decide_eq_true_eq, Nat.add_sub_cancel]
      constructor
      · rintro ⟨⟨_, h1, _, _, h2⟩, h3⟩
        exact ⟨h2, h3, h1⟩
      · rintro ⟨h1, h2, h3⟩
        refine ⟨⟨by omega, h3, role_sign (com_next (.inl hc1) (by omega)) (by rw [h3]; rfl) (by rw [h3]; rfl) (eq_sign s _ h2 h3), hrp, h1⟩, h2⟩
    have hen : endN s p = sgnE s p := by
      have hej : endJ s p = p + 1 := by unfold endJ; rw [hrp, if_neg (show ¬ (2 : Int) = 1 by decide)]
      unfold endN sgnE
      rw [hej]
      by_cases h1 : (bt s p = 33 ∨ bt s p = 60 ∨ bt s p = 62) ∧ p + 1 < s.size ∧ bt s (p + 1) = 61
      · rw [if_pos h1, if_pos (hsec1.2 h1).symm]
      · rw [if_neg h1, if_neg (fun h2 => h1 (hsec1.1 h2.symm))]
    have hle := sgnE_le s p hp
    have hrt : refT s p = (⟨sgK (s.extract p (sgnE s p)), ⟨#[]⟩, 0, p⟩, 0) := by
      unfold refT tokT
      rw [hen, hrp, if_neg (by decide), if_pos rfl]
    rw [hth, refA_step s p ts hp, if_neg (show ¬ staB s p = false by rw [hst]; simp)]
    dsimp only
    refine fin_step (t1 := (⟨sgK (s.extract p (sgnE s p)), ⟨#[]⟩, 0, p⟩, 0)) (t2 := refT s p) (by rw [hrt]) fun h5 h6 => ?_
    rw [hrt]
    generalize ts ++ [(⟨sgK (s.extract p (sgnE s p)), ⟨#[]⟩, 0, p⟩ : Tok)] = ts'
    by_cases h1 : (bt s p = 33 ∨ bt s p = 60 ∨ bt s p = 62) ∧ p + 1 < s.size ∧ bt s (p + 1) = 61
    · have hg : sgnE s p = p + 2 := by unfold sgnE; rw [if_pos h1]
      rw [hg]
      have hs1 := (hsec1.2 h1).1
      have hr1 : roleI s (p + 1) = 2 := role_sign (com_next (.inl hc1) (by omega)) (by rw [h1.2.2]; rfl) (by rw [h1.2.2]; rfl) (eq_sign s _ h1.2.1 h1.2.2)
      have hst1 : staB s (p + 1) = false := by
        unfold staB
        rw [hr1, if_neg (by decide), if_pos rfl, hs1]
        rfl
      rw [refA_step s (p + 1) ts' h1.2.1, if_pos hst1]
      refine ih (s.size - (p + 2)) (by omega) (p + 2) p ts' (by omega) (fun hx => ⟨.inl (com_next (.inl hc1) (by omega)), .inr (.inl ?_), ?_⟩)
      · rw [show p + 2 - 1 = p + 1 by omega, hr1]; decide
      · unfold secB
        rw [decide_eq_false_iff_not, show p + 2 - 1 = p + 1 by omega]
        rintro ⟨_, _, _, _, h2⟩
        omega
    · have hg : sgnE s p = p + 1 := by unfold sgnE; rw [if_neg h1]
      rw [hg]
      refine ih (s.size - (p + 1)) (by omega) (p + 1) p ts' (by omega) (fun hx => ⟨.inl hc1, .inr (.inl ?_), ?_⟩)
      · rw [Nat.add_sub_cancel, hrp]; decide
      · cases hq : secB s (p + 1)
        · rfl
        · exact absurd (hsec1.1 ⟨hq, hx⟩) h1
  · obtain ⟨hb, h35, hlt, hdg⟩ := stI_odd (.inr e)
    have hsg := stI_five e
    have hc1 := com_next hpre h35
    have hrp : roleI s p = 3 := by
      unfold roleI
      rw [if_neg (by rw [hc1, hb]; simp), if_neg (by unfold wdB; rw [hlt, hdg]; simp), if_neg hsg]
    have hst : staB s p = true := by
      unfold staB
      rw [hrp]
      rfl
    have hrt : (refT s p).2 = 31 := by unfold refT tokT; rw [hrp, if_pos rfl]
    rw [if_neg (by rw [e]; decide), if_neg (by rw [e]; decide), if_pos e]
    rw [refA_step s p ts hp, if_neg (by rw [hst]; simp), hrt, if_pos (by decide)]
/-- Both answer the same. -/
theorem lex_ref (s : ByteArray) : fin (lexA s 0 0 []) = fin (refA s 0 []) := both s s.size 0 0 [] (by omega) (fun _ => inv_zero s)

end Go.Proofs.YtlcmfefcammklaaDoor
