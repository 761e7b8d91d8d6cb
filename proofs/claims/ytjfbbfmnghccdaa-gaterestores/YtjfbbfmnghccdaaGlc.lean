/- What a script comes to (Told): why an event must be refused. -/
import Derived.Test.YtjfbbfmnghccdaaGlb
namespace Go.Proofs.Ytjfbbfmnghccdaa
open Go.RowKit Go.BigFrame Go.Maps
set_option linter.unusedVariables false
set_option linter.unusedSimpArgs false

/-- What was accepted and let through, held against the gate. -/
structure TInv (A T : List Ev) (M : Int) (C : Bool) (s : Gs) : Prop where
  perm : (T ++ s.l).Perm A
  ris : (T ++ s.l).Pairwise fun a b => evLt a b = true
  low : ∀ e ∈ T, e.ts ≤ s.mark
  cl : s.cl = C
  mrk : C = false → s.mark = M
def rsn (A : List Ev) (M : Int) (C : Bool) (cap : Int) (e : Ev) : Int :=
  if C = true then 101 else if e.ts < -1152921504606846976 ∨ 1152921504606846976 < e.ts then 29 else if e.ts ≤ M then 102 else if hasN A e.ts e.id = true then 103 else if cap ≤ (cntA A M : Int) then 104 else 0
theorem cntA_perm {l m : List Ev} (h : l.Perm m) (k : Int) : cntA l k = cntA m k := (h.filter _).length_eq
theorem cntA_app (l m : List Ev) (k : Int) : cntA (l ++ m) k = cntA l k + cntA m k := by unfold cntA; rw [List.filter_append, List.length_append]
theorem cntA_none {l : List Ev} {k : Int} (h : ∀ e ∈ l, e.ts ≤ k) : cntA l k = 0 := by
  unfold cntA
  rw [List.length_eq_zero_iff, List.filter_eq_nil_iff]
  intro a ha
  have := h a ha
  simp; omega
theorem cntA_all {l : List Ev} {k : Int} (h : ∀ e ∈ l, k < e.ts) : cntA l k = l.length := by
  unfold cntA
  rw [List.filter_eq_self.2 fun a ha => decide_eq_true (h a ha)]
theorem hasN_app (l m : List Ev) (ts id : Int) : hasN (l ++ m) ts id = (hasN l ts id || hasN m ts id) := by unfold hasN; rw [List.any_append]
theorem hasN_none {l : List Ev} {k ts id : Int} (h : ∀ e ∈ l, e.ts ≤ k) (hk : k < ts) : hasN l ts id = false := by
  cases hh : hasN l ts id with
  | false => rfl
  | true =>
    obtain ⟨y, h1, h2, _⟩ := hasN_true.1 hh
    have := h y h1
    omega
theorem rsn_eq {A T : List Ev} {M : Int} {C : Bool} {s : Gs} (I : TInv A T M C s) (hs : s.ok) (e : Ev) : rsn A M C s.cap e = s.pushC e := by
  unfold rsn Gs.pushC
  rw [I.cl]
  cases C with
  | true => rw [if_pos rfl, if_pos rfl]
  | false =>
    have hm := I.mrk rfl
    simp only [Bool.false_eq_true, if_false]
    rw [← hm]
    by_cases h1 : e.ts < -1152921504606846976 ∨ 1152921504606846976 < e.ts
    · rw [if_pos h1, if_pos h1]
    rw [if_neg h1, if_neg h1]
    by_cases h2 : e.ts ≤ s.mark
    · rw [if_pos h2, if_pos h2]
    rw [if_neg h2, if_neg h2]
    have e1 : hasN A e.ts e.id = hasN s.l e.ts e.id := by rw [← hasN_perm I.perm, hasN_app, hasN_none I.low (by omega), Bool.false_or]
    have e2 : cntA A s.mark = s.l.length := by rw [← cntA_perm I.perm, cntA_app, cntA_none I.low, cntA_all fun x hx => (hs.hi x hx).1, Nat.zero_add]
    rw [e1, e2]
theorem TInv.push {A T : List Ev} {M : Int} {C : Bool} {s : Gs} (I : TInv A T M C s) (e : Ev) (h : s.pushC e = 0) : TInv (A ++ [e]) T M C (s.push e) := by
  have e1 : s.push e = { s with l := ins evLt e s.l } := by unfold Gs.push; rw [if_pos h]
  rw [e1]
  unfold Gs.pushC at h
  split at h
  · cases h
  split at h
  · cases h
  split at h
  · cases h
  split at h
  · cases h
  rename_i h1 h2 h3 h4
  refine ⟨?_, ?_, I.low, I.cl, I.mrk⟩
  · show (T ++ ins evLt e s.l).Perm (A ++ [e])
    refine ((ins_perm e s.l).append_left T).trans ?_
    refine (List.perm_middle).trans ?_
    exact (List.Perm.cons e I.perm).trans (List.perm_append_singleton e A).symm
  · show (T ++ ins evLt e s.l).Pairwise _
    obtain ⟨p1, p2, p3⟩ := List.pairwise_append.1 I.ris
    refine List.pairwise_append.2 ⟨p1, ins_rising p2 (by simpa using h4), fun a ha b hb => ?_⟩
    rcases (ins_mem _ _ _).1 hb with e1 | e1
    · rw [e1, evLt_iff]
      have := I.low a ha
      omega
    · exact p3 a ha b e1
theorem TInv.adv {A T : List Ev} {M : Int} {C : Bool} {s : Gs} (I : TInv A T M C s) (m : Int) (h : s.advC m = 0) : TInv A (T ++ s.advL m) m C (s.adv m) := by
  have e1 : s.adv m = { s with mark := m, l := s.l.dropWhile (atM m) } := by unfold Gs.adv; rw [if_pos h]
  have e2 : s.advL m = s.l.takeWhile (atM m) := by unfold Gs.advL; rw [if_pos h]
  rw [e1, e2]
  unfold Gs.advC at h
  split at h
  · cases h
  split at h
  · cases h
  split at h
  · cases h
  have hj : (T ++ s.l.takeWhile (atM m)) ++ s.l.dropWhile (atM m) = T ++ s.l := by rw [List.append_assoc, List.takeWhile_append_dropWhile]
  refine ⟨by show ((T ++ s.l.takeWhile (atM m)) ++ s.l.dropWhile (atM m)).Perm A; rw [hj]; exact I.perm, by show ((T ++ s.l.takeWhile (atM m)) ++ s.l.dropWhile (atM m)).Pairwise _; rw [hj]; exact I.ris, fun e he => ?_, I.cl, fun _ => rfl⟩
  rcases List.mem_append.1 he with h1 | h1
  · have := I.low e h1
    show e.ts ≤ m
    omega
  · exact take_at e h1
theorem TInv.flu {A T : List Ev} {M : Int} {C : Bool} {s : Gs} (I : TInv A T M C s) (hs : s.ok) : TInv A (T ++ s.fluL) M true s.flu := by
  cases hc : s.cl with
  | true =>
    have e1 : s.flu = s := by unfold Gs.flu; rw [if_pos hc]
    have e2 : s.fluL = [] := by unfold Gs.fluL; rw [if_pos hc]
    rw [e1, e2, List.append_nil]
    exact ⟨I.perm, I.ris, I.low, hc, fun e => by cases e⟩
  | false =>
    have e1 : s.flu = { s with mark := 1152921504606846976, cl := true, l := [] } := by unfold Gs.flu; rw [if_neg (by rw [hc]; decide)]
    have e2 : s.fluL = s.l := by unfold Gs.fluL; rw [if_neg (by rw [hc]; decide)]
    rw [e1, e2]
    refine ⟨by show ((T ++ s.l) ++ []).Perm A; rw [List.append_nil]; exact I.perm, by show ((T ++ s.l) ++ []).Pairwise _; rw [List.append_nil]; exact I.ris, fun e he => ?_, rfl, fun e => by cases e⟩
    show e.ts ≤ 1152921504606846976
    rcases List.mem_append.1 he with h1 | h1
    · have := I.low e h1
      have := hs.m1
      omega
    · exact (hs.hi e h1).2
end Go.Proofs.Ytjfbbfmnghccdaa
