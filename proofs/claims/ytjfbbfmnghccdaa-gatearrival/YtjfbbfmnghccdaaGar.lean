/- Events of unlike names pushed into a gate that has room for all: what is accepted hangs on the gate ahead of them alone. -/
import Derived.Test.YtjfbbfmnghccdaaGpa
namespace Go.Proofs.Ytjfbbfmnghccdaa
open Go.RowKit Go.BigFrame
set_option linter.unusedVariables false
set_option linter.unusedSimpArgs false

/-- Is an event accepted, where there is room? -/
def okb (s : Gs) (e : Ev) : Bool := decide (¬ (e.ts < -1152921504606846976 ∨ 1152921504606846976 < e.ts) ∧ s.mark < e.ts ∧ hasN s.l e.ts e.id = false)
/-- No two of one name. -/
def unl (l : List Ev) : Prop := l.Pairwise fun a b => ¬ (a.ts = b.ts ∧ a.id = b.id)
/-- Behind the events P. -/
structure Psh (s : Gs) (P : List Ev) (q : Gs) : Prop where
  cap : q.cap = s.cap
  mark : q.mark = s.mark
  cl : q.cl = false
  l : q.l.Perm (s.l ++ P.filter (okb s))
theorem Psh.nil {s : Gs} (h : s.cl = false) : Psh s [] s := ⟨rfl, rfl, h, by simp⟩
theorem Psh.len {s q : Gs} {P : List Ev} (h : Psh s P q) : q.l.length ≤ s.l.length + P.length := by
  rw [h.l.length_eq, List.length_append]
  have := List.length_filter_le (okb s) P
  omega
theorem Psh.len' {s q : Gs} {P : List Ev} (h : Psh s P q) : q.l.length = s.l.length + (P.filter (okb s)).length := by
  rw [h.l.length_eq, List.length_append]
theorem hasN_app (l m : List Ev) (ts id : Int) : hasN (l ++ m) ts id = (hasN l ts id || hasN m ts id) := by unfold hasN; rw [List.any_append]
theorem Psh.step {s q : Gs} {P : List Ev} {x : Ev} (h : Psh s P q) (hn : ∀ y ∈ P, ¬ (y.ts = x.ts ∧ y.id = x.id)) (hr : ((s.l.length + P.length : Nat) : Int) < s.cap) : Psh s (P ++ [x]) (q.push x) ∧ (q.pushC x = 0 ↔ okb s x = true) := by
  have hlen := h.len
  have hN : hasN q.l x.ts x.id = hasN s.l x.ts x.id := by
    rw [hasN_perm h.l, hasN_app]
    have : hasN (P.filter (okb s)) x.ts x.id = false := by
      cases hh : hasN (P.filter (okb s)) x.ts x.id with
      | false => rfl
      | true =>
        obtain ⟨y, h1, h2⟩ := hasN_true.1 hh
        exact absurd h2 (hn y (List.mem_filter.1 h1).1)
    rw [this, Bool.or_false]
  have key : q.pushC x = 0 ↔ okb s x = true := by
    unfold Gs.pushC okb
    rw [decide_eq_true_eq, hN, h.mark, h.cap, if_neg (by rw [h.cl]; decide)]
    by_cases h1 : x.ts < -1152921504606846976 ∨ 1152921504606846976 < x.ts
    · rw [if_pos h1]; exact ⟨fun e => absurd e (by decide), fun e => absurd h1 e.1⟩
    rw [if_neg h1]
    by_cases h2 : x.ts ≤ s.mark
    · rw [if_pos h2]; exact ⟨fun e => absurd e (by decide), fun e => by have := e.2.1; omega⟩
    rw [if_neg h2]
    by_cases h3 : hasN s.l x.ts x.id = true
    · rw [if_pos h3]; exact ⟨fun e => absurd e (by decide), fun e => by rw [h3] at e; cases e.2.2⟩
    rw [if_neg h3, if_neg (by omega)]
    exact ⟨fun _ => ⟨h1, by omega, by simpa using h3⟩, fun _ => rfl⟩
  refine ⟨?_, key⟩
  unfold Gs.push
  by_cases hc : q.pushC x = 0
  · rw [if_pos hc]
    refine ⟨h.cap, h.mark, h.cl, ?_⟩
    rw [List.filter_append, show [x].filter (okb s) = [x] from by simp [key.1 hc], ← List.append_assoc]
    exact ((ins_perm x q.l).trans (h.l.cons x)).trans (List.perm_append_singleton _ _).symm
  · rw [if_neg hc]
    refine ⟨h.cap, h.mark, h.cl, ?_⟩
    have hf : okb s x = false := by
      cases hh : okb s x with
      | false => rfl
      | true => exact absurd (key.2 hh) hc
    rw [List.filter_append, show [x].filter (okb s) = [] from by simp [hf], List.append_nil]
    exact h.l
/-- Two orders come to the same gate. -/
theorem Psh.same {s q r : Gs} {P R : List Ev} (h : Psh s P q) (k : Psh s R r) (hp : R.Perm P) (hq : q.ok) (hr : r.ok) : r = q := by
  have e : r.l = q.l := sorted_eq evLt_swo hr.ris hq.ris ((k.l.trans ((hp.filter (okb s)).append_left s.l)).trans h.l.symm)
  have e1 := h.cap.trans k.cap.symm
  have e2 := h.mark.trans k.mark.symm
  have e3 := h.cl.trans k.cl.symm
  obtain ⟨a, b, c, d⟩ := q
  obtain ⟨a', b', c', d'⟩ := r
  simp only at e e1 e2 e3
  subst e e1 e2 e3
  rfl
/-- How many of a list are accepted. -/
def cntK (s : Gs) (P : List Ev) : Nat := (P.filter (okb s)).length
theorem cntK_snoc (s : Gs) (P : List Ev) (x : Ev) : cntK s (P ++ [x]) = cntK s P + if okb s x = true then 1 else 0 := by
  unfold cntK
  rw [List.filter_append, List.length_append]
  by_cases h : okb s x = true
  · rw [if_pos h]; simp [List.filter, h]
  · rw [if_neg h]; simp [List.filter, h]
theorem cntK_le (s : Gs) (P : List Ev) : cntK s P ≤ P.length := List.length_filter_le _ _
theorem cntK_perm {s : Gs} {P R : List Ev} (h : R.Perm P) : cntK s R = cntK s P := (h.filter (okb s)).length_eq
theorem unl_snoc {l : List Ev} {x : Ev} (h : unl l) (hn : hasN l x.ts x.id = false) : unl (l ++ [x]) :=
  List.pairwise_append.2 ⟨h, List.pairwise_singleton _ _, fun a ha b hb => by rw [List.mem_singleton.1 hb]; exact hasN_false hn a ha⟩
theorem unl_at {l : List Ev} (h : unl l) {j : Nat} (hj : j < l.length) {z : Ev} : ∀ y ∈ l.take j, ¬ (y.ts = (l.getD j z).ts ∧ y.id = (l.getD j z).id) := fun y hy => by
  obtain ⟨i, hi, rfl⟩ := List.getElem_of_mem hy
  rw [List.length_take] at hi
  rw [getD_of_lt l j hj, List.getElem_take]
  exact List.pairwise_iff_getElem.1 h i j (by omega) hj (by omega)
theorem unl_perm {l m : List Ev} (h : unl l) (p : m.Perm l) : unl m := (p.pairwise_iff (fun {a b} h e => h ⟨e.1.symm, e.2.symm⟩)).2 h

end Go.Proofs.Ytjfbbfmnghccdaa
