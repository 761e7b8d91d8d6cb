/- A gate as plain data: what Push, Advance, Flush, Restore come to. -/
import Derived.Test.YthjnkcapjhelgaaHpb
import Derived.Test.YthjnkcapjhelgaaHpm
namespace Go.Proofs.Ythjnkcapjhelgaa
open Go.RowKit Go.BigFrame
set_option linter.unusedVariables false
set_option linter.unusedSimpArgs false

/-- A gate: its capacity, its mark, whether it is closed, what it holds. -/
structure Gs where
  cap : Int
  mark : Int
  cl : Bool
  l : List Ev
/-- Is an event of the name held? -/
def hasN (l : List Ev) (ts id : Int) : Bool := l.any fun y => decide (y.ts = ts ∧ y.id = id)
theorem hasN_true {l : List Ev} {ts id : Int} : hasN l ts id = true ↔ ∃ y ∈ l, y.ts = ts ∧ y.id = id := by
  unfold hasN
  rw [List.any_eq_true]
  constructor
  · rintro ⟨y, h1, h2⟩; exact ⟨y, h1, of_decide_eq_true h2⟩
  · rintro ⟨y, h1, h2⟩; exact ⟨y, h1, decide_eq_true h2⟩
theorem hasN_false {l : List Ev} {ts id : Int} (h : hasN l ts id = false) : ∀ y ∈ l, ¬ (y.ts = ts ∧ y.id = id) := fun y hy e => by
  have := hasN_true.2 ⟨y, hy, e⟩
  rw [h] at this; cases this
theorem hasN_perm {l m : List Ev} (h : l.Perm m) (ts id : Int) : hasN l ts id = hasN m ts id := by
  unfold hasN
  rw [Bool.eq_iff_iff, List.any_eq_true, List.any_eq_true]
  exact ⟨fun ⟨y, h1, h2⟩ => ⟨y, h.mem_iff.1 h1, h2⟩, fun ⟨y, h1, h2⟩ => ⟨y, h.mem_iff.2 h1, h2⟩⟩
theorem evLt_iff (x y : Ev) : evLt x y = true ↔ (x.ts < y.ts ∨ x.ts = y.ts ∧ x.id < y.id) := by
  unfold evLt befB; rw [decide_eq_true_eq]
/-- What Push answers. -/
def Gs.pushC (s : Gs) (e : Ev) : Int :=
  if s.cl = true then 101 else if e.ts < -1152921504606846976 ∨ 1152921504606846976 < e.ts then 29 else if e.ts ≤ s.mark then 102 else if hasN s.l e.ts e.id = true then 103 else if s.cap ≤ (s.l.length : Int) then 104 else 0
def Gs.push (s : Gs) (e : Ev) : Gs := if s.pushC e = 0 then { s with l := ins evLt e s.l } else s
/-- What Advance answers. -/
def Gs.advC (s : Gs) (m : Int) : Int :=
  if s.cl = true then 101 else if m < -1152921504606846976 ∨ 1152921504606846976 < m then 106 else if m < s.mark then 105 else 0
def atM (m : Int) (e : Ev) : Bool := decide (e.ts ≤ m)
def Gs.advL (s : Gs) (m : Int) : List Ev := if s.advC m = 0 then s.l.takeWhile (atM m) else []
def Gs.adv (s : Gs) (m : Int) : Gs := if s.advC m = 0 then { s with mark := m, l := s.l.dropWhile (atM m) } else s
/-- What Flush answers. -/
def Gs.fluC (s : Gs) : Int := if s.cl = true then 101 else 0
def Gs.fluL (s : Gs) : List Ev := if s.cl = true then [] else s.l
def Gs.flu (s : Gs) : Gs := if s.cl = true then s else { s with mark := 1152921504606846976, cl := true, l := [] }
/-- What holds of a gate at any time. -/
structure Gs.ok (s : Gs) : Prop where
  c1 : 1 ≤ s.cap
  c2 : s.cap ≤ 4096
  len : (s.l.length : Int) ≤ s.cap
  ris : s.l.Pairwise fun a b => evLt a b = true
  evs : ∀ e ∈ s.l, e.ok
  m0 : -1152921504606846977 ≤ s.mark
  m1 : s.mark ≤ 1152921504606846976
  hi : ∀ e ∈ s.l, s.mark < e.ts ∧ e.ts ≤ 1152921504606846976
  shut : s.cl = true → s.mark = 1152921504606846976
theorem Gs.ok.len' {s : Gs} (h : s.ok) : s.l.length ≤ 4096 := by have := h.len; have := h.c2; omega
theorem Gs.ok.none {s : Gs} (h : s.ok) (hc : s.mark = 1152921504606846976) : s.l = [] := by
  cases hl : s.l with
  | nil => rfl
  | cons y l =>
    have := h.hi y (by rw [hl]; exact List.mem_cons_self)
    omega
theorem ins_rising {x : Ev} {l : List Ev} (h : l.Pairwise fun a b => evLt a b = true) (hn : hasN l x.ts x.id = false) : (ins evLt x l).Pairwise fun a b => evLt a b = true :=
  ins_sorted evLt_swo x l (fun y hy e => by
    have h1 := hasN_false hn y hy
    rw [evLt_iff]
    have h2 : ¬ evLt x y = true := by rw [e]; decide
    rw [evLt_iff] at h2
    omega) h
theorem Gs.push_ok {s : Gs} (h : s.ok) (e : Ev) (he : e.ok) : (s.push e).ok := by
  unfold Gs.push
  split
  · rename_i hc
    unfold Gs.pushC at hc
    split at hc
    · cases hc
    split at hc
    · cases hc
    split at hc
    · cases hc
    split at hc
    · cases hc
    split at hc
    · cases hc
    rename_i h1 h2 h3 h4 h5
    refine ⟨h.c1, h.c2, ?_, ins_rising h.ris (by simpa using h4), fun y hy => ?_, h.m0, h.m1, fun y hy => ?_, h.shut⟩
    · show ((ins evLt e s.l).length : Int) ≤ s.cap
      rw [ins_len]; omega
    · rcases (ins_mem _ _ _).1 hy with e1 | e1
      · rw [e1]; exact he
      · exact h.evs y e1
    · rcases (ins_mem _ _ _).1 hy with e1 | e1
      · rw [e1]; show s.mark < e.ts ∧ _; omega
      · exact h.hi y e1
  · exact h
theorem drop_at {m : Int} : ∀ {l : List Ev}, (l.Pairwise fun a b => evLt a b = true) → ∀ e ∈ l.dropWhile (atM m), m < e.ts
  | [], _, e, he => by simp at he
  | y :: l, h, e, he => by
    rw [List.dropWhile_cons] at he
    obtain ⟨h1, h2⟩ := List.pairwise_cons.1 h
    split at he
    · exact drop_at h2 e he
    · rename_i hm
      have hm : ¬ y.ts ≤ m := fun e => hm (decide_eq_true e)
      rcases List.mem_cons.1 he with e1 | e1
      · rw [e1]; omega
      · have := (evLt_iff _ _).1 (h1 e e1)
        omega
theorem take_at {m : Int} : ∀ {l : List Ev}, ∀ e ∈ l.takeWhile (atM m), e.ts ≤ m
  | [], e, he => by simp at he
  | y :: l, e, he => by
    rw [List.takeWhile_cons] at he
    split at he
    · rename_i hm
      rcases List.mem_cons.1 he with e1 | e1
      · rw [e1]; exact of_decide_eq_true hm
      · exact take_at e e1
    · simp at he
theorem Gs.adv_ok {s : Gs} (h : s.ok) (m : Int) : (s.adv m).ok := by
  unfold Gs.adv
  split
  · rename_i hc
    unfold Gs.advC at hc
    split at hc
    · cases hc
    split at hc
    · cases hc
    split at hc
    · cases hc
    rename_i h1 h2 h3
    have hsub := List.dropWhile_sublist (l := s.l) (atM m)
    refine ⟨h.c1, h.c2, ?_, h.ris.sublist hsub, fun y hy => h.evs y (hsub.subset hy), by show _ ≤ m; omega, by show m ≤ _; omega, fun y hy => ⟨drop_at h.ris y hy, (h.hi y (hsub.subset hy)).2⟩, fun e => absurd e h1⟩
    have := hsub.length_le
    have := h.len
    show ((s.l.dropWhile (atM m)).length : Int) ≤ s.cap
    omega
  · exact h
theorem Gs.flu_ok {s : Gs} (h : s.ok) : s.flu.ok := by
  unfold Gs.flu
  split
  · exact h
  · exact ⟨h.c1, h.c2, by have := h.c1; show ((0 : Nat) : Int) ≤ s.cap; omega, List.Pairwise.nil, fun y hy => by simp at hy, by show (-1152921504606846977 : Int) ≤ 1152921504606846976; omega, by show (1152921504606846976 : Int) ≤ 1152921504606846976; omega, fun y hy => by simp at hy, fun _ => rfl⟩
theorem take_all {m : Int} : ∀ {l : List Ev}, (∀ e ∈ l, e.ts ≤ m) → l.takeWhile (atM m) = l ∧ l.dropWhile (atM m) = []
  | [], _ => ⟨rfl, rfl⟩
  | y :: l, h => by
    have hy : atM m y = true := decide_eq_true (h y List.mem_cons_self)
    obtain ⟨h1, h2⟩ := take_all fun e he => h e (List.mem_cons_of_mem _ he)
    rw [List.takeWhile_cons, List.dropWhile_cons, if_pos hy, if_pos hy, h1]
    exact ⟨rfl, h2⟩

end Go.Proofs.Ythjnkcapjhelgaa
