/- A text, a line feed and another text: the machine's way over them. -/
import Derived.Test.YtmoimmghmmomlaaDoorPa
namespace Go.Proofs.YtmoimmghmmomlaaDoor
open Go.RowKit
set_option linter.unusedVariables false
set_option linter.unusedSimpArgs false

/-- The error at a place from which it does not go on. -/
def errC (s : ByteArray) (p : Nat) : Int := if stI s p = 5 then 31 else if (thing s p).2.2 ≠ 0 then (thing s p).2.2 else 34
theorem lexA_none {s : ByteArray} {p bg : Nat} {ts : List Tok} (hp : p < s.size) (h : nxt s p ts = none) : lexA s p bg ts = (errC s p, p, ts) := by
  rw [lexA_step s p bg ts hp]
  unfold nxt at h
  unfold errC
  by_cases h0 : stI s p = 0
  · rw [if_pos h0] at h; cases h
  rw [if_neg h0] at h ⊢
  by_cases h4 : stI s p = 4
  · rw [if_pos h4] at h; cases h
  rw [if_neg h4] at h ⊢
  by_cases h5 : stI s p = 5
  · rw [if_pos h5, if_pos h5]
  rw [if_neg h5] at h ⊢
  rw [if_neg h5]
  by_cases h6 : (thing s p).2.2 ≠ 0
  · rw [if_pos h6, if_pos h6]
  rw [if_neg h6] at h ⊢
  rw [if_neg h6]
  by_cases h7 : ts.length = 400
  · rw [if_pos h7]
  rw [if_neg h7] at h
  cases h
theorem errC_ne (s : ByteArray) (p : Nat) : errC s p ≠ 0 ∧ errC s p ≠ 30 := by
  unfold errC
  split
  · exact ⟨by decide, by decide⟩
  · split
    · rename_i h; exact ⟨h, by rcases thing_code s p with h9 | h9 | h9 <;> rw [h9] <;> decide⟩
    · exact ⟨by decide, by decide⟩
/-- It goes to the end, or to where it does not go on. -/
theorem Path.ends (s : ByteArray) : ∀ n p ts, s.size ≤ p + n → p ≤ s.size → ∃ q us, Path s p ts q us ∧ (q = s.size ∨ (q < s.size ∧ nxt s q us = none)) := by
  intro n
  induction n with
  | zero =>
    intro p ts h1 h2
    exact ⟨p, ts, .here _ _, .inl (by omega)⟩
  | succ n ih =>
    intro p ts h1 h2
    by_cases hp : p < s.size
    · cases hn : nxt s p ts with
      | some x =>
        obtain ⟨p', ts'⟩ := x
        have hle := nxt_le hp hn
        obtain ⟨q, us, hP, hr⟩ := ih p' ts' (by omega) hle.2
        exact ⟨q, us, .step p p' q ts ts' us hp hn hP, hr⟩
      | none => exact ⟨p, ts, .here _ _, .inr ⟨hp, hn⟩⟩
    · exact ⟨p, ts, .here _ _, .inl (by omega)⟩
theorem lexO_stop {s : ByteArray} (h : s.size ≤ 8192) {q : Nat} {us : List Tok} (hP : Path s 0 [] q us) (hq : q < s.size) (hn : nxt s q us = none) : lexO s = ([], errC s q, q) := by
  unfold lexO
  rw [if_neg (by omega)]
  obtain ⟨b, hb⟩ := hP.run 0
  rw [hb, lexA_none hq hn]
  unfold fin
  rw [if_pos (errC_ne s q).1]
theorem lexO_ways {s : ByteArray} (h : s.size ≤ 8192) : (∃ us, Path s 0 [] s.size us ∧ lexO s = (us, 0, 0)) ∨ (∃ q us, Path s 0 [] q us ∧ q < s.size ∧ nxt s q us = none ∧ lexO s = ([], errC s q, q)) := by
  obtain ⟨q, us, hP, rfl | ⟨hq, hn⟩⟩ := Path.ends s s.size 0 [] (by omega) (Nat.zero_le _)
  · exact .inl ⟨us, hP, lexO_path h hP⟩
  · exact .inr ⟨q, us, hP, hq, hn, lexO_stop h hP hq hn⟩
/-- Where a text does not go on, neither does one that begins with it and goes on with a line feed. -/
theorem Cut.none {s x : ByteArray} {q : Nat} (C : Cut s x q) (hq : q = s.size) {p : Nat} {ts : List Tok} (hp : p < q) (h : nxt s p ts = none) : nxt x p ts = none ∧ errC x p = errC s p := by
  have e : thing x p = thing s p := C.eThing hp (by have := thing_le s p (by omega); omega) (by rintro ⟨_, h8, _⟩; omega)
  have e2 := C.eSt hp
  constructor
  · unfold nxt at h ⊢
    rw [e2, e]
    split at h
    · cases h
    · rename_i h0
      rw [if_neg h0]
      split at h
      · cases h
      · rename_i h4
        rw [if_neg h4]
        exact h
  · unfold errC
    rw [e2, e]

/-- A text that stands in another one, from a place on. -/
structure Inn (b t : ByteArray) (d : Nat) : Prop where
  sz : t.size = d + b.size
  same : ∀ i, i < b.size → bt t (d + i) = bt b i
  ext : ∀ i j, i ≤ j → j ≤ b.size → t.extract (d + i) (d + j) = b.extract i j
def shT (d : Nat) (t : Tok) : Tok := ⟨t.k, t.t, t.n, t.a + d⟩
def shL (d : Nat) (ts : List Tok) : List Tok := ts.map (shT d)
theorem Inn.eRun {b t : ByteArray} {d : Nat} (I : Inn b t d) (f : Int → Bool) : ∀ n p, p + n = b.size → runE f t (d + p) = d + runE f b p := by
  intro n
  induction n with
  | zero =>
    intro p hp
    have := I.sz
    rw [runE_stop (.inl (by omega)), runE_stop (.inl (by omega))]
  | succ n ih =>
    intro p hp
    have hs := I.sz
    have hb := I.same p (by omega)
    cases hq : f (bt b p)
    · rw [runE_stop (.inr (by rw [hb]; exact hq)), runE_stop (.inr hq)]
    · rw [runE_on (by omega) (by rw [hb]; exact hq), runE_on (by omega) hq]
      exact ih (p + 1) (by omega)
theorem Inn.eSt {b t : ByteArray} {d : Nat} (I : Inn b t d) {p : Nat} (hp : p < b.size) : stI t (d + p) = stI b p := by
  unfold stI
  rw [I.same p hp, Nat.add_assoc, I.ext p (p + 1) (by omega) (by omega)]
theorem Inn.eSgn {b t : ByteArray} {d : Nat} (I : Inn b t d) {p : Nat} (hp : p < b.size) : sgnE t (d + p) = d + sgnE b p := by
  unfold sgnE
  have hs := I.sz
  rw [I.same p hp]
  by_cases h1 : (bt b p = 33 ∨ bt b p = 60 ∨ bt b p = 62) ∧ p + 1 < b.size ∧ bt b (p + 1) = 61
  · rw [if_pos h1, if_pos ⟨h1.1, by omega, by rw [Nat.add_assoc, I.same (p + 1) h1.2.1]; exact h1.2.2⟩]
    omega
  · rw [if_neg h1, if_neg]
    · omega
    · rintro ⟨h2, h3, h4⟩
      exact h1 ⟨h2, by omega, by rw [Nat.add_assoc, I.same (p + 1) (by omega)] at h4; exact h4⟩
theorem Inn.eThing {b t : ByteArray} {d : Nat} (I : Inn b t d) {p : Nat} (hp : p < b.size) : (thing t (d + p)).1 = d + (thing b p).1 ∧ (thing t (d + p)).2.2 = (thing b p).2.2 ∧ ((thing b p).2.2 = 0 → (thing t (d + p)).2.1 = shT d (thing b p).2.1) := by
  have hs := I.sz
  have hcast : ((d + p : Nat) : Int) = (p : Int) + (d : Int) := by omega
  unfold thing
  rw [I.eSt hp]
  by_cases h1 : stI b p = 1
  · rw [if_pos h1, if_pos h1]
    dsimp only
    have e := I.eRun wdB (b.size - p) p (by omega)
    have hl := runE_le wdB b p (by omega)
    rw [e]
    unfold wordT
    rw [I.ext p _ hl.1 hl.2]
    by_cases h16 : 16 < (b.extract p (runE wdB b p)).size
    · rw [if_pos h16, if_pos h16]
      exact ⟨rfl, rfl, fun h => absurd h (show ¬ (33 : Int) = 0 by decide)⟩
    · rw [if_neg h16, if_neg h16]
      exact ⟨rfl, rfl, fun _ => by unfold shT; rw [hcast]⟩
  · rw [if_neg h1, if_neg h1]
    by_cases h2 : stI b p = 2
    · rw [if_pos h2, if_pos h2]
      dsimp only
      have e := I.eRun dgB (b.size - p) p (by omega)
      have hl := runE_le dgB b p (by omega)
      rw [e]
      unfold numT
      rw [I.ext p _ hl.1 hl.2]
      generalize runE dgB b p = E at *
      have hc : (d + E < t.size ∧ ltB (bt t (d + E)) = true) ↔ (E < b.size ∧ ltB (bt b E) = true) := by
        constructor
        · rintro ⟨h3, h4⟩
          exact ⟨by omega, by rw [I.same E (by omega)] at h4; exact h4⟩
        · rintro ⟨h3, h4⟩
          exact ⟨by omega, by rw [I.same E h3]; exact h4⟩
      by_cases h6 : E < b.size ∧ ltB (bt b E) = true
      · rw [if_pos h6, if_pos (hc.2 h6)]
        exact ⟨rfl, rfl, fun h => absurd h (show ¬ (32 : Int) = 0 by decide)⟩
      · rw [if_neg h6, if_neg (fun h7 => h6 (hc.1 h7))]
        cases numV (b.extract p E) with
        | none => exact ⟨rfl, rfl, fun h => absurd h (show ¬ (32 : Int) = 0 by decide)⟩
        | some v => exact ⟨rfl, rfl, fun _ => by unfold shT; rw [hcast]⟩
    · rw [if_neg h2, if_neg h2]
      dsimp only
      have hl := sgnE_le b p hp
      rw [I.eSgn hp, I.ext p _ (by omega) hl.2]
      exact ⟨rfl, rfl, fun _ => by unfold shT; rw [hcast]⟩
theorem shL_len (d : Nat) (ts : List Tok) : (shL d ts).length = ts.length := by unfold shL; rw [List.length_map]
theorem Inn.eNxt {b t : ByteArray} {d : Nat} (I : Inn b t d) (l : List Tok) {p p' : Nat} {ts ts' : List Tok} (hp : p < b.size) (h : nxt b p ts = some (p', ts')) (hl : l.length + ts'.length ≤ 400) : nxt t (d + p) (l ++ shL d ts) = some (d + p', l ++ shL d ts') := by
  obtain ⟨t1, t2, t3⟩ := I.eThing hp
  unfold nxt at h ⊢
  rw [I.eSt hp]
  by_cases h0 : stI b p = 0
  · rw [if_pos h0] at h ⊢
    simp only [Option.some.injEq, Prod.mk.injEq] at h
    rw [← h.1, ← h.2]; rfl
  rw [if_neg h0] at h ⊢
  by_cases h4 : stI b p = 4
  · rw [if_pos h4] at h ⊢
    simp only [Option.some.injEq, Prod.mk.injEq] at h
    rw [← h.1, ← h.2, I.eRun cmB (b.size - p) p (by omega)]
  rw [if_neg h4] at h ⊢
  by_cases h5 : stI b p = 5
  · rw [if_pos h5] at h; cases h
  rw [if_neg h5] at h ⊢
  rw [t2]
  by_cases h6 : (thing b p).2.2 ≠ 0
  · rw [if_pos h6] at h; cases h
  rw [if_neg h6] at h ⊢
  by_cases h7 : ts.length = 400
  · rw [if_pos h7] at h; cases h
  rw [if_neg h7] at h
  simp only [Option.some.injEq, Prod.mk.injEq] at h
  have hlen : ts'.length = ts.length + 1 := by rw [← h.2, List.length_append]; rfl
  rw [if_neg (by rw [List.length_append, shL_len]; omega), t1, t3 (by simpa using h6), ← h.1, ← h.2]
  unfold shL
  rw [List.map_append, List.append_assoc]
  rfl
theorem Path.inn {b t : ByteArray} {d : Nat} (I : Inn b t d) (l : List Tok) {p q : Nat} {ts us : List Tok} (h : Path b p ts q us) (hl : l.length + us.length ≤ 400) : Path t (d + p) (l ++ shL d ts) (d + q) (l ++ shL d us) := by
  induction h with
  | here => exact .here _ _
  | step p p' q ts ts' us hp hn h ih =>
    obtain ⟨vs, hv⟩ := h.pre
    have hlen : ts'.length ≤ us.length := by rw [hv, List.length_append]; omega
    exact .step _ _ _ _ _ _ (by have := I.sz; omega) (I.eNxt l hp hn (by omega)) (ih hl)
theorem Inn.none {b t : ByteArray} {d : Nat} (I : Inn b t d) {p : Nat} {ts us : List Tok} (hp : p < b.size) (h : nxt b p ts = none) (hl : us.length = ts.length) : nxt t (d + p) us = none ∧ errC t (d + p) = errC b p := by
  obtain ⟨t1, t2, t3⟩ := I.eThing hp
  constructor
  · unfold nxt at h ⊢
    rw [I.eSt hp, t2, hl]
    split at h
    · cases h
    · rename_i h0
      rw [if_neg h0]
      split at h
      · cases h
      · rename_i h4
        rw [if_neg h4]
        split at h
        · rename_i h5; rw [if_pos h5]
        · rename_i h5
          rw [if_neg h5]
          split at h
          · rename_i h6; rw [if_pos h6]
          · rename_i h6
            rw [if_neg h6]
            split at h
            · rename_i h7; rw [if_pos h7]
            · cases h
  · unfold errC
    rw [I.eSt hp, t2]
/-- Each token that was told on the way: what stands there is one. -/
theorem Path.tok2 {s : ByteArray} {p q : Nat} {ts us : List Tok} (h : Path s p ts q us) : ∀ k, ts.length ≤ k → k < us.length → ∃ r : Nat, r < s.size ∧ Path s p ts r (us.take k) ∧ stI s r ≠ 0 ∧ stI s r ≠ 4 ∧ stI s r ≠ 5 ∧ (thing s r).2.2 = 0 := by
  induction h with
  | here => intro k h1 h2; omega
  | step p p' q ts ts' us hp hn h ih =>
    intro k h1 h2
    have hn0 := hn
    by_cases hk : ts'.length ≤ k
    · obtain ⟨r, hr, hP, rest⟩ := ih k hk h2
      exact ⟨r, hr, .step p p' r ts ts' _ hp hn hP, rest⟩
    · obtain ⟨vs, hv⟩ := h.pre
      unfold nxt at hn
      split at hn
      · simp only [Option.some.injEq, Prod.mk.injEq] at hn; rw [← hn.2] at hk; omega
      · rename_i h0
        split at hn
        · simp only [Option.some.injEq, Prod.mk.injEq] at hn; rw [← hn.2] at hk; omega
        · rename_i h4
          split at hn
          · cases hn
          · rename_i h5
            split at hn
            · cases hn
            · rename_i h6
              split at hn
              · cases hn
              · simp only [Option.some.injEq, Prod.mk.injEq] at hn
                have hlen : ts'.length = ts.length + 1 := by rw [← hn.2, List.length_append]; rfl
                have hk2 : k = ts.length := by omega
                refine ⟨p, hp, ?_, h0, h4, h5, by simpa using h6⟩
                rw [hv, ← hn.2, hk2, List.append_assoc, List.take_left']
                · exact .here _ _
                · rfl

end Go.Proofs.YtmoimmghmmomlaaDoor
