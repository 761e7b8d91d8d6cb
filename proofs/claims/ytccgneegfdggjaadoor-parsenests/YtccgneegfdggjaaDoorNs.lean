/- Openings one within the other around a number: what the grammar's way comes to. -/
import Derived.Test.YtccgneegfdggjaaDoorPp
namespace Go.Proofs.YtccgneegfdggjaaDoor
set_option linter.unusedVariables false
set_option linter.unusedSimpArgs false

/-- May these openings stand here? (b: may a NOT?) -/
def okN : Bool → List Tok → Prop
  | _, [] => True
  | b, t :: r => (t.k = 3 ∧ okN true r) ∨ (t.k = 43 ∧ b = true ∧ okN true r) ∨ (t.k = 12 ∧ okN false r)
def brs : List Tok → Nat
  | [] => 0
  | t :: r => (if t.k = 3 then 1 else 0) + brs r
def NestP (os al tl : List Tok) (o n0 : Nat) (r : Rs) : Prop :=
  (32 < o + os.length ∧ r = .bad 41 (al.drop (32 - o))) ∨
  (o + os.length ≤ 32 ∧ tl.length < brs os ∧ r = .bad 40 []) ∨
  (o + os.length ≤ 32 ∧ brs os ≤ tl.length ∧ ∃ ns sp, r = .ok ⟨tl.drop (brs os), o, ns, sp⟩ ∧ ns.length + brs os = n0 + 1 + os.length)
/-- Nothing behind it is an operator. -/
def Rs.still : Rs → Prop
  | .ok s => kd s.ts = 0 ∨ kd s.ts = 4
  | .bad _ _ => True
theorem ops_still {k : Int} (h : k = 0 ∨ k = 4) (l : Nat) : opsAt l k = false := by
  rcases h with rfl | rfl <;> (unfold opsAt; split <;> first | rfl | decide)
theorem lp_still {r : Rs} (h : r.still) (l : Nat) : Rd (.lp l) r r := by
  cases r with
  | ok s => exact .stop (ops_still h l)
  | bad c e => exact .err _ _ _
theorem cp_still {r : Rs} (h : r.still) : Rd .cp r r := by
  cases r with
  | ok s => exact .cstop (ops_still h 3)
  | bad c e => exact .err _ _ _
theorem up36 {s : Ps} {r : Rs} (q : r.still) (h : Rd (.at 6) (.ok s) r) : Rd (.at 3) (.ok s) r :=
  .cmp (.lft rfl (.lft rfl h (lp_still q 5)) (lp_still q 4)) (cp_still q)
theorem up02 {s : Ps} {r : Rs} (q : r.still) (h : Rd (.at 2) (.ok s) r) : Rd (.at 0) (.ok s) r :=
  .lft rfl (.lft rfl h (lp_still q 1)) (lp_still q 0)
theorem up_from7 {s : Ps} {r : Rs} (q : r.still) (h1 : kd s.ts ≠ 12) (h2 : kd s.ts ≠ 43) (h : Rd (.at 7) (.ok s) r) (l : Nat) (hl : l = 0 ∨ l = 2 ∨ l = 6) : Rd (.at l) (.ok s) r := by
  have a6 : Rd (.at 6) (.ok s) r := .thru rfl h1 h
  have a2 : Rd (.at 2) (.ok s) r := .thru rfl h2 (up36 q a6)
  rcases hl with rfl | rfl | rfl
  · exact up02 q a2
  · exact a2
  · exact a6
theorem up_from6 {s : Ps} {r : Rs} (q : r.still) (h2 : kd s.ts ≠ 43) (a6 : Rd (.at 6) (.ok s) r) (l : Nat) (hl : l = 0 ∨ l = 2 ∨ l = 6) : Rd (.at l) (.ok s) r := by
  have a2 : Rd (.at 2) (.ok s) r := .thru rfl h2 (up36 q a6)
  rcases hl with rfl | rfl | rfl
  · exact up02 q a2
  · exact a2
  · exact a6
theorem drop_still {tl : List Tok} (h : ∀ t ∈ tl, t.k = 4) (n : Nat) : kd (tl.drop n) = 0 ∨ kd (tl.drop n) = 4 := by
  cases e : tl.drop n with
  | nil => exact .inl rfl
  | cons t r => exact .inr (h t (List.mem_of_mem_drop (i := n) (by rw [e]; exact List.mem_cons_self ..)))
theorem NestP.still {os al tl : List Tok} {o n0 : Nat} {r : Rs} (htl : ∀ t ∈ tl, t.k = 4) (h : NestP os al tl o n0 r) : r.still := by
  rcases h with ⟨_, rfl⟩ | ⟨_, _, rfl⟩ | ⟨_, _, ns, sp, rfl, _⟩
  · trivial
  · trivial
  · exact drop_still htl _
theorem NestP.un {os al tl : List Tok} {t : Tok} {o n0 : Nat} {r : Rs} (op : Int) (ht : t.k ≠ 3) (ho : o < 32) (h : NestP os al tl (o + 1) n0 r) : NestP (t :: os) (t :: al) tl o n0 (r.un op t) := by
  have hb : brs (t :: os) = brs os := by simp [brs, ht]
  rcases h with ⟨h1, rfl⟩ | ⟨h1, h2, rfl⟩ | ⟨h1, h2, ns, sp, rfl, h3⟩
  · refine .inl ⟨by simp only [List.length_cons]; omega, ?_⟩
    rw [show 32 - o = (32 - (o + 1)) + 1 by omega]
    rfl
  · exact .inr (.inl ⟨by simp only [List.length_cons]; omega, by rw [hb]; exact h2, rfl⟩)
  · refine .inr (.inr ⟨by simp only [List.length_cons]; omega, by rw [hb]; exact h2, ns ++ [⟨op, 0, eS, eS, (ns.length : Int) - 1, -1⟩], sp ++ [t.a], ?_, ?_⟩)
    · rw [hb]; rfl
    · rw [hb]; simp only [List.length_append, List.length_cons, List.length_nil]; omega
theorem NestP.shut {os al tl : List Tok} {t : Tok} {o n0 : Nat} {r : Rs} (htl : ∀ t ∈ tl, t.k = 4) (ht : t.k = 3) (ho : o < 32) (h : NestP os al tl (o + 1) n0 r) : NestP (t :: os) (t :: al) tl o n0 r.shut := by
  have hb : brs (t :: os) = brs os + 1 := by simp [brs, ht]; omega
  rcases h with ⟨h1, rfl⟩ | ⟨h1, h2, rfl⟩ | ⟨h1, h2, ns, sp, rfl, h3⟩
  · refine .inl ⟨by simp only [List.length_cons]; omega, ?_⟩
    rw [show 32 - o = (32 - (o + 1)) + 1 by omega]
    rfl
  · exact .inr (.inl ⟨by simp only [List.length_cons]; omega, by rw [hb]; omega, rfl⟩)
  · cases e : tl.drop (brs os) with
    | nil =>
      have hl := congrArg List.length e
      simp only [List.length_drop, List.length_nil] at hl
      exact .inr (.inl ⟨by simp only [List.length_cons]; omega, by rw [hb]; omega, rfl⟩)
    | cons c u =>
      have hc : c.k = 4 := htl c (List.mem_of_mem_drop (i := brs os) (by rw [e]; exact List.mem_cons_self ..))
      have hl := congrArg List.length e
      simp only [List.length_drop, List.length_cons] at hl
      have hu : tl.drop (brs os + 1) = u := by rw [← List.drop_drop, e]; rfl
      refine .inr (.inr ⟨by simp only [List.length_cons]; omega, by rw [hb]; omega, ns, sp, ?_, ?_⟩)
      · simp only [Rs.shut, want, hc, if_true, hb, hu]; rfl
      · rw [hb]; simp only [List.length_cons]; omega
theorem nests (num : Tok) (hn : num.k = 2) (tl : List Tok) (htl : ∀ t ∈ tl, t.k = 4) : ∀ (os : List Tok) (l o : Nat) (ns : List Nd) (sp : List Int), (l = 0 ∧ okN true os ∨ l = 2 ∧ okN true os ∨ l = 6 ∧ okN false os) → o ≤ 32 →
    ∃ r, Rd (.at l) (.ok ⟨os ++ num :: tl, o, ns, sp⟩) r ∧ NestP os (os ++ num :: tl) tl o ns.length r := by
  intro os
  induction os with
  | nil =>
    intro l o ns sp hl ho
    have hl' : l = 0 ∨ l = 2 ∨ l = 6 := by rcases hl with ⟨h, _⟩ | ⟨h, _⟩ | ⟨h, _⟩ <;> simp [h]
    have hr : leafR ⟨num :: tl, o, ns, sp⟩ = .ok ⟨tl, o, ns ++ [⟨1, num.n, eS, eS, -1, -1⟩], sp ++ [num.a]⟩ := by simp [leafR, leafP, hn, Ps.add, plc]
    have P : NestP [] (num :: tl) tl o ns.length (.ok ⟨tl, o, ns ++ [⟨1, num.n, eS, eS, -1, -1⟩], sp ++ [num.a]⟩) := .inr (.inr ⟨by simpa using ho, by simp [brs], _, _, rfl, by simp [brs]⟩)
    refine ⟨_, up_from7 (P.still htl) (by simp [kd, hn]) (by simp [kd, hn]) ?_ l hl', P⟩
    rw [← hr]
    exact .leaf (by simp [kd, hn])
  | cons t os ih =>
    intro l o ns sp hl ho
    have hl' : l = 0 ∨ l = 2 ∨ l = 6 := by rcases hl with ⟨h, _⟩ | ⟨h, _⟩ | ⟨h, _⟩ <;> simp [h]
    have hk : (t.k = 3 ∧ okN true os) ∨ (t.k = 43 ∧ l ≤ 2 ∧ okN true os) ∨ (t.k = 12 ∧ okN false os) := by
      rcases hl with ⟨rfl, h⟩ | ⟨rfl, h⟩ | ⟨rfl, h⟩ <;> rcases h with h | ⟨h1, h2, h3⟩ | h
      · exact .inl h
      · exact .inr (.inl ⟨h1, by omega, h3⟩)
      · exact .inr (.inr h)
      · exact .inl h
      · exact .inr (.inl ⟨h1, by omega, h3⟩)
      · exact .inr (.inr h)
      · exact .inl h
      · cases h2
      · exact .inr (.inr h)
    have dp : NestP (t :: os) (t :: os ++ num :: tl) tl 32 ns.length (.bad 41 (t :: (os ++ num :: tl))) := .inl ⟨by simp only [List.length_cons]; omega, rfl⟩
    rcases hk with ⟨h3, hos⟩ | ⟨h43, h2, hos⟩ | ⟨h12, hos⟩
    · by_cases h32 : o = 32
      · subst h32
        exact ⟨_, up_from7 (r := .bad 41 (t :: (os ++ num :: tl))) trivial (by simp [kd, h3]) (by simp [kd, h3]) (.bdeep h3) l hl', dp⟩
      · obtain ⟨r, R, P⟩ := ih 0 (o + 1) ns sp (.inl ⟨rfl, hos⟩) (by omega)
        have Q := P.shut htl h3 (by omega)
        exact ⟨_, up_from7 (Q.still htl) (by simp [kd, h3]) (by simp [kd, h3]) (.brk h3 h32 R) l hl', Q⟩
    · have go : ∀ r, Rd (.at 2) (.ok ⟨t :: os ++ num :: tl, o, ns, sp⟩) r → r.still → Rd (.at l) (.ok ⟨t :: os ++ num :: tl, o, ns, sp⟩) r := by
        intro r R q
        rcases hl' with rfl | rfl | rfl
        · exact up02 q R
        · exact R
        · omega
      by_cases h32 : o = 32
      · subst h32
        exact ⟨_, go _ (.deep rfl h43) trivial, dp⟩
      · obtain ⟨r, R, P⟩ := ih 2 (o + 1) ns sp (.inr (.inl ⟨rfl, hos⟩)) (by omega)
        have Q := P.un 13 (t := t) (by omega) (by omega)
        exact ⟨_, go _ (.pre rfl h43 h32 R) (Q.still htl), Q⟩
    · by_cases h32 : o = 32
      · subst h32
        exact ⟨_, up_from6 (r := .bad 41 (t :: (os ++ num :: tl))) trivial (by simp [kd, h12]) (.deep rfl h12) l hl', dp⟩
      · obtain ⟨r, R, P⟩ := ih 6 (o + 1) ns sp (.inr (.inr ⟨rfl, hos⟩)) (by omega)
        have Q := P.un 12 (t := t) (by omega) (by omega)
        exact ⟨_, up_from6 (Q.still htl) (by simp [kd, h12]) (.pre rfl h12 h32 R) l hl', Q⟩

end Go.Proofs.YtccgneegfdggjaaDoor
