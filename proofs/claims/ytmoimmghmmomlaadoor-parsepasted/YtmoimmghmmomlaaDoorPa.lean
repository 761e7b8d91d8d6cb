/- The machine's way over a text, from a place between two things to another; a text that is cut at such a place. -/
import Derived.Test.YtmoimmghmmomlaaDoorTo
namespace Go.Proofs.YtmoimmghmmomlaaDoor
open Go.RowKit
set_option linter.unusedVariables false
set_option linter.unusedSimpArgs false

/-- The next place, and the tokens there. -/
def nxt (s : ByteArray) (p : Nat) (ts : List Tok) : Option (Nat × List Tok) :=
  if stI s p = 0 then some (p + 1, ts) else if stI s p = 4 then some (runE cmB s p, ts) else if stI s p = 5 then none
  else if (thing s p).2.2 ≠ 0 then none else if ts.length = 400 then none else some ((thing s p).1, ts ++ [(thing s p).2.1])
inductive Path (s : ByteArray) : Nat → List Tok → Nat → List Tok → Prop
  | here (p : Nat) (ts : List Tok) : Path s p ts p ts
  | step (p p' q : Nat) (ts ts' us : List Tok) (hp : p < s.size) (hn : nxt s p ts = some (p', ts')) (h : Path s p' ts' q us) : Path s p ts q us
theorem Path.trans {s : ByteArray} {p q r : Nat} {a b c : List Tok} (h : Path s p a q b) (k : Path s q b r c) : Path s p a r c := by
  induction h with
  | here => exact k
  | step p p' q ts ts' us hp hn _ ih => exact .step p p' r ts ts' c hp hn (ih k)
theorem nxt_le {s : ByteArray} {p p' : Nat} {ts ts' : List Tok} (hp : p < s.size) (h : nxt s p ts = some (p', ts')) : p < p' ∧ p' ≤ s.size := by
  unfold nxt at h
  split at h
  · simp only [Option.some.injEq, Prod.mk.injEq] at h; omega
  · split at h
    · rename_i h4
      have := comment_le s p hp h4
      simp only [Option.some.injEq, Prod.mk.injEq] at h; omega
    · split at h
      · cases h
      · split at h
        · cases h
        · split at h
          · cases h
          · have := thing_le s p hp
            simp only [Option.some.injEq, Prod.mk.injEq] at h; omega
theorem Path.le {s : ByteArray} {p q : Nat} {a b : List Tok} (h : Path s p a q b) : p ≤ q := by
  induction h with
  | here => exact Nat.le_refl _
  | step p p' q ts ts' us hp hn _ ih => have := nxt_le hp hn; omega
theorem lexA_nxt {s : ByteArray} {p p' bg : Nat} {ts ts' : List Tok} (hp : p < s.size) (h : nxt s p ts = some (p', ts')) : lexA s p bg ts = lexA s p' p ts' := by
  rw [lexA_step s p bg ts hp]
  unfold nxt at h
  split at h
  · rename_i h0
    simp only [Option.some.injEq, Prod.mk.injEq] at h
    rw [if_pos h0, h.1, h.2]
  · rename_i h0
    rw [if_neg h0]
    split at h
    · rename_i h4
      simp only [Option.some.injEq, Prod.mk.injEq] at h
      rw [if_pos h4, h.1, h.2]
    · rename_i h4
      rw [if_neg h4]
      split at h
      · cases h
      · rename_i h5
        rw [if_neg h5]
        split at h
        · cases h
        · rename_i h6
          rw [if_neg h6]
          split at h
          · cases h
          · rename_i h7
            simp only [Option.some.injEq, Prod.mk.injEq] at h
            rw [if_neg h7, h.1, h.2]
theorem Path.run {s : ByteArray} {p q : Nat} {a b : List Tok} (h : Path s p a q b) : ∀ bg, ∃ bg', lexA s p bg a = lexA s q bg' b := by
  induction h with
  | here => intro bg; exact ⟨bg, rfl⟩
  | step p p' q ts ts' us hp hn _ ih =>
    intro bg
    obtain ⟨b', hb⟩ := ih p
    exact ⟨b', (lexA_nxt hp hn).trans hb⟩
theorem thing_code (s : ByteArray) (p : Nat) : (thing s p).2.2 = 0 ∨ (thing s p).2.2 = 32 ∨ (thing s p).2.2 = 33 := by
  unfold thing
  split
  · show (wordT s p (runE wdB s p)).2 = 0 ∨ _
    unfold wordT
    split
    · exact .inr (.inr rfl)
    · exact .inl rfl
  · split
    · show (numT s p (runE dgB s p)).2 = 0 ∨ _
      unfold numT
      split
      · exact .inr (.inl rfl)
      · split
        · exact .inl rfl
        · exact .inr (.inl rfl)
    · exact .inl rfl
theorem thing_at (s : ByteArray) (p : Nat) (h : (thing s p).2.2 = 0) : (thing s p).2.1.a = (p : Int) := by
  unfold thing at h ⊢
  by_cases h1 : stI s p = 1
  · rw [if_pos h1] at h ⊢
    dsimp only at h ⊢
    unfold wordT at h ⊢
    by_cases h2 : 16 < (s.extract p (runE wdB s p)).size
    · rw [if_pos h2] at h; exact absurd h (show ¬ (33 : Int) = 0 by decide)
    · rw [if_neg h2]
  · rw [if_neg h1] at h ⊢
    by_cases h2 : stI s p = 2
    · rw [if_pos h2] at h ⊢
      dsimp only at h ⊢
      unfold numT at h ⊢
      by_cases h3 : runE dgB s p < s.size ∧ ltB (bt s (runE dgB s p)) = true
      · rw [if_pos h3] at h; exact absurd h (show ¬ (32 : Int) = 0 by decide)
      · rw [if_neg h3] at h ⊢
        cases hv : numV (s.extract p (runE dgB s p)) with
        | none => rw [hv] at h; exact absurd h (show ¬ (32 : Int) = 0 by decide)
        | some v => rfl
    · rw [if_neg h2]
/-- Where it stops: at the end, or at an error. -/
theorem Path.stops (s : ByteArray) : ∀ n p bg ts, s.size ≤ p + n → p ≤ s.size → ∃ q us, Path s p ts q us ∧ q ≤ s.size ∧ ((q = s.size ∧ ∃ b, lexA s p bg ts = (0, b, us)) ∨ (q < s.size ∧ ∃ c, (c ≠ 0 ∧ c ≠ 30) ∧ lexA s p bg ts = (c, q, us))) := by
  intro n
  induction n with
  | zero =>
    intro p bg ts h1 h2
    obtain rfl : p = s.size := by omega
    exact ⟨_, ts, .here _ _, Nat.le_refl _, .inl ⟨rfl, bg, lexA_end s bg ts⟩⟩
  | succ n ih =>
    intro p bg ts h1 h2
    by_cases hp : p < s.size
    · cases hn : nxt s p ts with
      | some x =>
        obtain ⟨p', ts'⟩ := x
        have hle := nxt_le hp hn
        obtain ⟨q, us, hP, hq, hr⟩ := ih p' p ts' (by omega) hle.2
        refine ⟨q, us, .step p p' q ts ts' us hp hn hP, hq, ?_⟩
        rw [lexA_nxt hp hn]
        exact hr
      | none =>
        refine ⟨p, ts, .here _ _, h2, .inr ⟨hp, ?_⟩⟩
        rw [lexA_step s p bg ts hp]
        unfold nxt at hn
        split at hn
        · cases hn
        · rename_i h0
          rw [if_neg h0]
          split at hn
          · cases hn
          · rename_i h4
            rw [if_neg h4]
            split at hn
            · rename_i h5; rw [if_pos h5]; exact ⟨31, ⟨by decide, by decide⟩, rfl⟩
            · rename_i h5
              rw [if_neg h5]
              split at hn
              · rename_i h6; rw [if_pos h6]; exact ⟨_, ⟨h6, by rcases thing_code s p with h9 | h9 | h9 <;> rw [h9] <;> decide⟩, rfl⟩
              · rename_i h6
                rw [if_neg h6]
                split at hn
                · rename_i h7; rw [if_pos h7]; exact ⟨34, ⟨by decide, by decide⟩, rfl⟩
                · cases hn
    · obtain rfl : p = s.size := by omega
      exact ⟨_, ts, .here _ _, Nat.le_refl _, .inl ⟨rfl, bg, lexA_end s bg ts⟩⟩

/-- Two texts whose bytes are the same up to a place, which is the first one's end; what stands there in the second goes on with nothing. -/
structure Cut (s x : ByteArray) (q : Nat) : Prop where
  xs : q ≤ x.size
  ss : q ≤ s.size
  same : ∀ i, i < q → bt x i = bt s i
  ext : ∀ i j, i ≤ j → j ≤ q → x.extract i j = s.extract i j
  stop : q = x.size ∨ (wdB (bt x q) = false ∧ bt x q = 10)
theorem Cut.eRun {s x : ByteArray} {q : Nat} (C : Cut s x q) {f : Int → Bool} (hf : f 10 = false) : ∀ n p, p + n = q → runE f s p ≤ q → runE f x p = runE f s p := by
  intro n
  induction n with
  | zero =>
    intro p hp h
    obtain rfl : p = q := hp
    have hge : p ≤ Go.Proofs.YtmoimmghmmomlaaDoor.runE f s p := (runE_le f s p C.ss).1
    have e : Go.Proofs.YtmoimmghmmomlaaDoor.runE f s p = p := by omega
    rw [e]
    rcases C.stop with h1 | h1
    · exact runE_stop (.inl (by omega))
    · exact runE_stop (.inr (by rw [h1.2]; exact hf))
  | succ n ih =>
    intro p hp h
    have hps : p < s.size := by have := C.ss; omega
    have hpx : p < x.size := by have := C.xs; omega
    have hb := C.same p (by omega)
    cases hq : f (bt s p)
    · rw [runE_stop (.inr hq), runE_stop (.inr (by rw [hb]; exact hq))]
    · rw [runE_on hps hq] at h ⊢
      rw [runE_on hpx (by rw [hb]; exact hq)]
      exact ih (p + 1) (by omega) h
theorem Cut.eSt {s x : ByteArray} {q : Nat} (C : Cut s x q) {p : Nat} (hp : p < q) : stI x p = stI s p := by
  unfold Go.Proofs.YtmoimmghmmomlaaDoor.stI
  rw [C.same p hp, C.ext p (p + 1) (by omega) (by omega)]
theorem Cut.eSgn {s x : ByteArray} {q : Nat} (C : Cut s x q) {p : Nat} (hp : p < q) (h : sgnE s p ≤ q) : sgnE x p = sgnE s p := by
  unfold Go.Proofs.YtmoimmghmmomlaaDoor.sgnE at h ⊢
  rw [C.same p hp]
  by_cases h1 : (bt s p = 33 ∨ bt s p = 60 ∨ bt s p = 62) ∧ p + 1 < s.size ∧ bt s (p + 1) = 61
  · rw [if_pos h1] at h ⊢
    rw [if_pos ⟨h1.1, by have := C.xs; omega, by rw [C.same (p + 1) (by omega)]; exact h1.2.2⟩]
  · rw [if_neg h1]
    rw [if_neg]
    rintro ⟨h2, h3, h4⟩
    by_cases h5 : p + 1 < q
    · exact h1 ⟨h2, by have := C.ss; omega, by rw [← C.same (p + 1) h5]; exact h4⟩
    · have hq : p + 1 = q := by omega
      rcases C.stop with h6 | h6
      · omega
      · rw [hq, h6.2] at h4
        exact absurd h4 (by decide)
/-- A thing that ends in time is the same thing in both, an error too. -/
theorem Cut.eThing {s x : ByteArray} {q : Nat} (C : Cut s x q) {p : Nat} (hp : p < q) (h : (thing s p).1 ≤ q) (hlt : ¬ (stI s p = 2 ∧ q < s.size ∧ ltB (bt s q) = true ∧ (thing s p).1 = q)) : thing x p = thing s p := by
  unfold Go.Proofs.YtmoimmghmmomlaaDoor.thing at h hlt ⊢
  rw [C.eSt hp]
  by_cases h1 : Go.Proofs.YtmoimmghmmomlaaDoor.stI s p = 1
  · rw [if_pos h1] at h ⊢
    rw [if_pos h1]
    dsimp only at h
    have e := C.eRun (f := wdB) (by decide) (q - p) p (by omega) h
    rw [e]
    unfold wordT
    rw [C.ext p _ (runE_le wdB s p (by have := C.ss; omega)).1 h]
  · rw [if_neg h1] at h ⊢
    rw [if_neg h1] at hlt
    rw [if_neg h1]
    by_cases h2 : Go.Proofs.YtmoimmghmmomlaaDoor.stI s p = 2
    · rw [if_pos h2] at h ⊢
      rw [if_pos h2]
      dsimp only at h
      replace hlt : ¬ (Go.Proofs.YtmoimmghmmomlaaDoor.stI s p = 2 ∧ q < s.size ∧ ltB (bt s q) = true ∧ Go.Proofs.YtmoimmghmmomlaaDoor.runE dgB s p = q) := fun h9 => hlt ⟨h9.1, h9.2.1, h9.2.2.1, by rw [if_pos h2]; exact h9.2.2.2⟩
      have e := C.eRun (f := dgB) (by decide) (q - p) p (by omega) h
      rw [e]
      unfold numT
      rw [C.ext p _ (runE_le dgB s p (by have := C.ss; omega)).1 h]
      generalize hE : Go.Proofs.YtmoimmghmmomlaaDoor.runE dgB s p = E at *
      have hc : (E < x.size ∧ ltB (bt x E) = true) ↔ (E < s.size ∧ ltB (bt s E) = true) := by
        by_cases h5 : E < q
        · rw [C.same E h5]
          have := C.ss; have := C.xs
          constructor
          · intro h6; exact ⟨by omega, h6.2⟩
          · intro h6; exact ⟨by omega, h6.2⟩
        · have hq : E = q := by omega
          subst hq
          constructor
          · intro h6
            rcases C.stop with h7 | h7
            · omega
            · rw [h7.2] at h6; exact absurd h6.2 (by decide)
          · intro h6
            exact absurd ⟨h2, h6.1, h6.2, rfl⟩ hlt
      by_cases h6 : E < s.size ∧ ltB (bt s E) = true
      · rw [if_pos h6, if_pos (hc.2 h6)]
      · rw [if_neg h6, if_neg (fun h7 => h6 (hc.1 h7))]
    · rw [if_neg h2] at h ⊢
      rw [if_neg h2]
      dsimp only at h
      rw [C.eSgn hp h, C.ext p _ (Nat.le_of_lt (sgnE_le s p (by have := C.ss; omega)).1) h]

theorem Cut.eNxt {s x : ByteArray} {q : Nat} (C : Cut s x q) {p p' : Nat} {ts ts' : List Tok} (hp : p < q) (h : nxt s p ts = some (p', ts')) (hq : p' ≤ q) : nxt x p ts = some (p', ts') := by
  have h0 := h
  unfold Go.Proofs.YtmoimmghmmomlaaDoor.nxt at h ⊢
  rw [C.eSt hp]
  by_cases h1 : Go.Proofs.YtmoimmghmmomlaaDoor.stI s p = 0
  · rw [if_pos h1] at h ⊢; exact h
  rw [if_neg h1] at h ⊢
  by_cases h4 : Go.Proofs.YtmoimmghmmomlaaDoor.stI s p = 4
  · rw [if_pos h4] at h ⊢
    simp only [Option.some.injEq, Prod.mk.injEq] at h
    rw [C.eRun (f := cmB) (by decide) (q - p) p (by omega) (by omega), h.1, h.2]
  rw [if_neg h4] at h ⊢
  by_cases h5 : Go.Proofs.YtmoimmghmmomlaaDoor.stI s p = 5
  · rw [if_pos h5] at h; cases h
  rw [if_neg h5] at h ⊢
  by_cases h6 : (Go.Proofs.YtmoimmghmmomlaaDoor.thing s p).2.2 ≠ 0
  · rw [if_pos h6] at h; cases h
  rw [if_neg h6] at h
  by_cases h7 : ts.length = 400
  · rw [if_pos h7] at h; cases h
  rw [if_neg h7] at h
  simp only [Option.some.injEq, Prod.mk.injEq] at h
  have e : Go.Proofs.YtmoimmghmmomlaaDoor.thing x p = Go.Proofs.YtmoimmghmmomlaaDoor.thing s p := C.eThing hp (by omega) (by
    rintro ⟨h2, h8, h9, h10⟩
    apply h6
    have ne1 : ¬ Go.Proofs.YtmoimmghmmomlaaDoor.stI s p = 1 := by rw [h2]; decide
    unfold Go.Proofs.YtmoimmghmmomlaaDoor.thing at h10 ⊢
    rw [if_neg ne1, if_pos h2] at h10 ⊢
    dsimp only at h10 ⊢
    unfold numT
    rw [h10, if_pos ⟨h8, h9⟩]
    show (32 : Int) ≠ 0
    decide)
  rw [e, if_neg h6, if_neg h7, h.1, h.2]
theorem Path.cut {s x : ByteArray} {q : Nat} (C : Cut s x q) {p q' : Nat} {ts us : List Tok} (h : Path s p ts q' us) (hq : q' ≤ q) : Path x p ts q' us := by
  induction h with
  | here => exact .here _ _
  | step p p' q' ts ts' us hp hn h ih =>
    have h1 := nxt_le hp hn
    have h2 := h.le
    exact .step p p' q' ts ts' us (by have := C.xs; omega) (C.eNxt (by omega) hn (by omega)) (ih hq)
theorem extract_zero (s : ByteArray) (q i j : Nat) (h : j ≤ q) : (s.extract 0 q).extract i j = s.extract i j := by
  rw [ByteArray.extract_extract]
  simp only [Nat.zero_add]
  rw [Nat.min_eq_left h]
theorem cut_of (s : ByteArray) (q : Nat) (h : q ≤ s.size) : Cut s (s.extract 0 q) q := by
  have hs : (s.extract 0 q).size = q := by rw [ByteArray.size_extract]; omega
  refine ⟨by omega, h, fun i hi => ?_, fun i j _ hj => extract_zero s q i j hj, .inl hs.symm⟩
  rw [bt_extract s 0 q i (by omega) h, Nat.zero_add]
theorem Path.pre {s : ByteArray} {p q : Nat} {ts us : List Tok} (h : Path s p ts q us) : ∃ vs, us = ts ++ vs := by
  induction h with
  | here => exact ⟨[], (List.append_nil _).symm⟩
  | step p p' q ts ts' us hp hn h ih =>
    obtain ⟨vs, hv⟩ := ih
    unfold nxt at hn
    split at hn
    · simp only [Option.some.injEq, Prod.mk.injEq] at hn; exact ⟨vs, by rw [hv, hn.2]⟩
    · split at hn
      · simp only [Option.some.injEq, Prod.mk.injEq] at hn; exact ⟨vs, by rw [hv, hn.2]⟩
      · split at hn
        · cases hn
        · split at hn
          · cases hn
          · split at hn
            · cases hn
            · simp only [Option.some.injEq, Prod.mk.injEq] at hn
              exact ⟨(thing s p).2.1 :: vs, by rw [hv, ← hn.2, List.append_assoc]; rfl⟩
/-- Each token that was told on the way: where it stands, and the way to there. -/
theorem Path.tok {s : ByteArray} {p q : Nat} {ts us : List Tok} (h : Path s p ts q us) : ∀ k, ts.length ≤ k → k < us.length → ∃ r : Nat, (us.getD k noTok).a = (r : Int) ∧ r < s.size ∧ Path s p ts r (us.take k) := by
  induction h with
  | here => intro k h1 h2; omega
  | step p p' q ts ts' us hp hn h ih =>
    intro k h1 h2
    have go : ∀ (e : ts' = ts), ∃ r : Nat, (us.getD k noTok).a = (r : Int) ∧ r < s.size ∧ Path s p ts r (us.take k) := fun e => by
      obtain ⟨r, hr, hr2, hP⟩ := ih k (by rw [e]; exact h1) h2
      exact ⟨r, hr, hr2, .step p p' r ts ts' _ hp hn hP⟩
    have hn0 := hn
    unfold nxt at hn
    split at hn
    · simp only [Option.some.injEq, Prod.mk.injEq] at hn; exact go hn.2.symm
    · split at hn
      · simp only [Option.some.injEq, Prod.mk.injEq] at hn; exact go hn.2.symm
      · split at hn
        · cases hn
        · split at hn
          · cases hn
          · rename_i h6
            split at hn
            · cases hn
            · simp only [Option.some.injEq, Prod.mk.injEq] at hn
              by_cases hk : ts'.length ≤ k
              · obtain ⟨r, hr, hr2, hP⟩ := ih k hk h2
                exact ⟨r, hr, hr2, .step p p' r ts ts' _ hp hn0 hP⟩
              · have hlen : ts'.length = ts.length + 1 := by rw [← hn.2, List.length_append]; rfl
                have hk2 : k = ts.length := by omega
                obtain ⟨vs, hv⟩ := h.pre
                refine ⟨p, ?_, hp, ?_⟩
                · rw [hv, ← hn.2, hk2, List.getD_eq_getElem?_getD, List.append_assoc, List.getElem?_append_right (Nat.le_refl _), Nat.sub_self]
                  exact thing_at s p (by simpa using h6)
                · rw [hv, ← hn.2, hk2, List.append_assoc, List.take_left']
                  · exact .here _ _
                  · rfl
/-- What Lex answers: by the machine's way. -/
theorem lexO_cases (s : ByteArray) : (8192 < s.size ∧ lexO s = ([], 30, 8192)) ∨ (s.size ≤ 8192 ∧ ∃ us, Path s 0 [] s.size us ∧ lexO s = (us, 0, 0)) ∨ (s.size ≤ 8192 ∧ ∃ q us c, Path s 0 [] q us ∧ q < s.size ∧ (c ≠ 0 ∧ c ≠ 30) ∧ lexO s = ([], c, q)) := by
  by_cases h : 8192 < s.size
  · exact .inl ⟨h, by unfold lexO; rw [if_pos h]⟩
  right
  have h' : s.size ≤ 8192 := by omega
  obtain ⟨q, us, hP, hq, ⟨rfl, b, hA⟩ | ⟨hlt, c, hc, hA⟩⟩ := Path.stops s s.size 0 0 [] (by omega) (Nat.zero_le _)
  · exact .inl ⟨h', us, hP, by unfold lexO; rw [if_neg h, hA]; rfl⟩
  · exact .inr ⟨h', q, us, c, hP, hlt, hc, by unfold lexO; rw [if_neg h, hA]; unfold fin; rw [if_pos hc.1]⟩
theorem lexO_path {s : ByteArray} (h : s.size ≤ 8192) {us : List Tok} (hP : Path s 0 [] s.size us) : lexO s = (us, 0, 0) := by
  unfold lexO
  rw [if_neg (by omega)]
  obtain ⟨b, hb⟩ := hP.run 0
  rw [hb, lexA_end]
  rfl
/-- Cut at a place of the way. -/
theorem lexO_cut {s : ByteArray} {q : Nat} {us : List Tok} (h : s.size ≤ 8192) (hq : q ≤ s.size) (hP : Path s 0 [] q us) : lexO (s.extract 0 q) = (us, 0, 0) := by
  have hs : (s.extract 0 q).size = q := by rw [ByteArray.size_extract]; omega
  refine lexO_path (by omega) ?_
  rw [hs]
  exact hP.cut (cut_of s q hq) (Nat.le_refl _)

end Go.Proofs.YtmoimmghmmomlaaDoor
