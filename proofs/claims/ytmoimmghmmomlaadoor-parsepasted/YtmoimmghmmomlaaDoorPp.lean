/- The grammar's way over tokens, as a relation and as a function: what a descent comes to. -/
import Derived.Test.YtmoimmghmmomlaaDoorTo
namespace Go.Proofs.YtmoimmghmmomlaaDoor
set_option linter.unusedVariables false
set_option linter.unusedSimpArgs false

/-- A descent on its way: the tokens ahead, how many are open, the nodes and their places. -/
structure Ps where
  ts : List Tok
  o : Nat
  ns : List Nd
  sp : List Int
inductive Rs where
  | ok (s : Ps)
  | bad (c : Int) (ts : List Tok)
def kd : List Tok → Int
  | [] => 0
  | t :: _ => t.k
def plc (e : Int) : List Tok → Int
  | [] => e
  | t :: _ => t.a
def want (k : Int) : List Tok → Except (List Tok) (Tok × List Tok)
  | [] => .error []
  | t :: tl => if t.k = k then .ok (t, tl) else .error (t :: tl)
def attrP (op : Int) (ts : List Tok) : Except (List Tok) (Nd × List Tok) :=
  match want 1 ts with
  | .error e => .error e
  | .ok (v, ts) => match want 8 ts with
    | .error e => .error e
    | .ok (_, ts) => match want 1 ts with
      | .error e => .error e
      | .ok (x, ts) => .ok (⟨op, 0, v.t, x.t, -1, -1⟩, ts)
def countP (ts : List Tok) : Except (List Tok) (Nd × List Tok) :=
  match want 3 ts with
  | .error e => .error e
  | .ok (_, ts) => match want 1 ts with
    | .error e => .error e
    | .ok (v, ts) => match want 4 ts with
      | .error e => .error e
      | .ok (_, ts) => .ok (⟨5, 0, v.t, eS, -1, -1⟩, ts)
def aggP (op : Int) (ts : List Tok) : Except (List Tok) (Nd × List Tok) :=
  match want 3 ts with
  | .error e => .error e
  | .ok (_, ts) => match attrP op ts with
    | .error e => .error e
    | .ok (n, ts) => match want 4 ts with
      | .error e => .error e
      | .ok (_, ts) => .ok (n, ts)
/-- A part without operands. -/
def leafP : List Tok → Except (List Tok) (Nd × List Tok)
  | [] => .error []
  | t :: tl =>
    if t.k = 2 then .ok (⟨1, t.n, eS, eS, -1, -1⟩, tl)
    else if t.k = 44 then .ok (⟨2, 0, eS, eS, -1, -1⟩, tl)
    else if t.k = 45 then .ok (⟨3, 0, eS, eS, -1, -1⟩, tl)
    else if t.k = 1 then attrP 4 (t :: tl)
    else if t.k = 46 then countP tl
    else if 47 ≤ t.k ∧ t.k ≤ 52 then aggP (6 + (t.k - 47)) tl
    else .error (t :: tl)
def Ps.add (s : Ps) (ts : List Tok) (n : Nd) (a : Int) : Ps := ⟨ts, s.o, s.ns ++ [n], s.sp ++ [a]⟩
def leafR (s : Ps) : Rs :=
  match leafP s.ts with
  | .error e => .bad 40 e
  | .ok (n, ts) => .ok (s.add ts n (plc 0 s.ts))
/-- The operator between two operands of a kind of token. -/
def opN (k : Int) : Int := if k = 41 then 25 else if k = 42 then 26 else 14 + (k - 11)
/-- Is a kind an operator between two parts of the next level? -/
def opsAt (l : Nat) (k : Int) : Bool :=
  match l with
  | 0 => decide (k = 42)
  | 1 => decide (k = 41)
  | 3 => decide (16 ≤ k ∧ k ≤ 21)
  | 4 => decide (k = 11 ∨ k = 12)
  | 5 => decide (13 ≤ k ∧ k ≤ 15)
  | _ => false
def preK (l : Nat) : Int := if l = 2 then 43 else 12
def preO (l : Nat) : Int := if l = 2 then 13 else 12
def Rs.bin (t : Tok) (a : Nat) : Rs → Rs
  | .bad c e => .bad c e
  | .ok s => .ok (s.add s.ts ⟨opN t.k, 0, eS, eS, (a : Int) - 1, (s.ns.length : Int) - 1⟩ t.a)
def Rs.un (op : Int) (t : Tok) : Rs → Rs
  | .bad c e => .bad c e
  | .ok s => .ok ({ s with o := s.o - 1 }.add s.ts ⟨op, 0, eS, eS, (s.ns.length : Int) - 1, -1⟩ t.a)
def Rs.shut : Rs → Rs
  | .bad c e => .bad c e
  | .ok s => match want 4 s.ts with
    | .error e => .bad 40 e
    | .ok (_, ts) => .ok { s with ts := ts, o := s.o - 1 }
inductive Lv where
  | at (l : Nat)
  | lp (l : Nat)
  | cp
def isL (l : Nat) : Bool := l == 0 || l == 1 || l == 4 || l == 5
def isP (l : Nat) : Bool := l == 2 || l == 6
inductive Rd : Lv → Rs → Rs → Prop
  | err (v : Lv) (c : Int) (e : List Tok) : Rd v (.bad c e) (.bad c e)
  | lft {l : Nat} {s : Ps} {m r : Rs} (hl : isL l = true) (h : Rd (.at (l + 1)) (.ok s) m) (k : Rd (.lp l) m r) : Rd (.at l) (.ok s) r
  | stop {l : Nat} {s : Ps} (hk : opsAt l (kd s.ts) = false) : Rd (.lp l) (.ok s) (.ok s)
  | more {l : Nat} {t : Tok} {tl : List Tok} {o : Nat} {ns : List Nd} {sp : List Int} {m r : Rs} (hk : opsAt l t.k = true) (h : Rd (.at (l + 1)) (.ok ⟨tl, o, ns, sp⟩) m) (k : Rd (.lp l) (m.bin t ns.length) r) : Rd (.lp l) (.ok ⟨t :: tl, o, ns, sp⟩) r
  | cmp {s : Ps} {m r : Rs} (h : Rd (.at 4) (.ok s) m) (k : Rd .cp m r) : Rd (.at 3) (.ok s) r
  | cstop {s : Ps} (hk : opsAt 3 (kd s.ts) = false) : Rd .cp (.ok s) (.ok s)
  | cmore {t : Tok} {tl : List Tok} {o : Nat} {ns : List Nd} {sp : List Int} {m : Rs} (hk : opsAt 3 t.k = true) (h : Rd (.at 4) (.ok ⟨tl, o, ns, sp⟩) m) : Rd .cp (.ok ⟨t :: tl, o, ns, sp⟩) (m.bin t ns.length)
  | pre {l : Nat} {t : Tok} {tl : List Tok} {o : Nat} {ns : List Nd} {sp : List Int} {m : Rs} (hl : isP l = true) (hk : t.k = preK l) (ho : o ≠ 32) (h : Rd (.at l) (.ok ⟨tl, o + 1, ns, sp⟩) m) : Rd (.at l) (.ok ⟨t :: tl, o, ns, sp⟩) (m.un (preO l) t)
  | deep {l : Nat} {t : Tok} {tl : List Tok} {ns : List Nd} {sp : List Int} (hl : isP l = true) (hk : t.k = preK l) : Rd (.at l) (.ok ⟨t :: tl, 32, ns, sp⟩) (.bad 41 (t :: tl))
  | thru {l : Nat} {s : Ps} {r : Rs} (hl : isP l = true) (hk : kd s.ts ≠ preK l) (h : Rd (.at (l + 1)) (.ok s) r) : Rd (.at l) (.ok s) r
  | brk {t : Tok} {tl : List Tok} {o : Nat} {ns : List Nd} {sp : List Int} {m : Rs} (hk : t.k = 3) (ho : o ≠ 32) (h : Rd (.at 0) (.ok ⟨tl, o + 1, ns, sp⟩) m) : Rd (.at 7) (.ok ⟨t :: tl, o, ns, sp⟩) m.shut
  | bdeep {t : Tok} {tl : List Tok} {ns : List Nd} {sp : List Int} (hk : t.k = 3) : Rd (.at 7) (.ok ⟨t :: tl, 32, ns, sp⟩) (.bad 41 (t :: tl))
  | leaf {s : Ps} (hk : kd s.ts ≠ 3) : Rd (.at 7) (.ok s) (leafR s)

/-- The same by steps. -/
def rdF : Nat → Lv → Rs → Rs
  | 0, _, r => r
  | _ + 1, _, .bad c e => .bad c e
  | n + 1, .at l, .ok s =>
    if isL l then rdF n (.lp l) (rdF n (.at (l + 1)) (.ok s))
    else if l = 3 then rdF n .cp (rdF n (.at 4) (.ok s))
    else if isP l then
      match s with
      | ⟨t :: tl, o, ns, sp⟩ => if t.k = preK l then (if o = 32 then .bad 41 (t :: tl) else (rdF n (.at l) (.ok ⟨tl, o + 1, ns, sp⟩)).un (preO l) t) else rdF n (.at (l + 1)) (.ok ⟨t :: tl, o, ns, sp⟩)
      | ⟨[], o, ns, sp⟩ => rdF n (.at (l + 1)) (.ok ⟨[], o, ns, sp⟩)
    else match s with
      | ⟨t :: tl, o, ns, sp⟩ => if t.k = 3 then (if o = 32 then .bad 41 (t :: tl) else (rdF n (.at 0) (.ok ⟨tl, o + 1, ns, sp⟩)).shut) else leafR ⟨t :: tl, o, ns, sp⟩
      | ⟨[], o, ns, sp⟩ => leafR ⟨[], o, ns, sp⟩
  | n + 1, .lp l, .ok s =>
    match s with
    | ⟨t :: tl, o, ns, sp⟩ => if opsAt l t.k then rdF n (.lp l) ((rdF n (.at (l + 1)) (.ok ⟨tl, o, ns, sp⟩)).bin t ns.length) else .ok ⟨t :: tl, o, ns, sp⟩
    | ⟨[], o, ns, sp⟩ => .ok ⟨[], o, ns, sp⟩
  | n + 1, .cp, .ok s =>
    match s with
    | ⟨t :: tl, o, ns, sp⟩ => if opsAt 3 t.k then ((rdF n (.at 4) (.ok ⟨tl, o, ns, sp⟩)).bin t ns.length) else .ok ⟨t :: tl, o, ns, sp⟩
    | ⟨[], o, ns, sp⟩ => .ok ⟨[], o, ns, sp⟩

theorem want_len {k : Int} {ts : List Tok} {t : Tok} {tl : List Tok} (h : want k ts = .ok (t, tl)) : ts = t :: tl ∧ t.k = k := by
  cases ts with
  | nil => simp [want] at h
  | cons a b =>
    simp only [want] at h
    split at h
    · rename_i hk
      simp only [Except.ok.injEq, Prod.mk.injEq] at h
      obtain ⟨rfl, rfl⟩ := h
      exact ⟨rfl, hk⟩
    · cases h
theorem attrP_len {op : Int} {ts : List Tok} {n : Nd} {tl : List Tok} (h : attrP op ts = .ok (n, tl)) : tl.length + 3 = ts.length := by
  unfold attrP at h
  split at h
  · cases h
  split at h
  · cases h
  split at h
  · cases h
  rename_i h1 _ _ _ h2 _ _ _ h3
  obtain ⟨rfl, _⟩ := want_len h1
  obtain ⟨rfl, _⟩ := want_len h2
  obtain ⟨rfl, _⟩ := want_len h3
  simp only [Except.ok.injEq, Prod.mk.injEq] at h
  obtain ⟨_, rfl⟩ := h
  simp
theorem leafP_len {ts : List Tok} {n : Nd} {tl : List Tok} (h : leafP ts = .ok (n, tl)) : tl.length < ts.length := by
  cases ts with
  | nil => simp [leafP] at h
  | cons t r =>
    simp only [leafP] at h
    split at h
    · simp only [Except.ok.injEq, Prod.mk.injEq] at h; obtain ⟨_, rfl⟩ := h; simp
    split at h
    · simp only [Except.ok.injEq, Prod.mk.injEq] at h; obtain ⟨_, rfl⟩ := h; simp
    split at h
    · simp only [Except.ok.injEq, Prod.mk.injEq] at h; obtain ⟨_, rfl⟩ := h; simp
    split at h
    · have := attrP_len h; simp only [List.length_cons] at *; omega
    split at h
    · unfold countP at h
      split at h
      · cases h
      split at h
      · cases h
      split at h
      · cases h
      rename_i h1 _ _ _ h2 _ _ _ h3
      obtain ⟨rfl, _⟩ := want_len h1
      obtain ⟨rfl, _⟩ := want_len h2
      obtain ⟨rfl, _⟩ := want_len h3
      simp only [Except.ok.injEq, Prod.mk.injEq] at h
      obtain ⟨_, rfl⟩ := h
      simp only [List.length_cons]; omega
    split at h
    · unfold aggP at h
      split at h
      · cases h
      split at h
      · cases h
      split at h
      · cases h
      rename_i h1 _ _ _ h2 _ _ _ h3
      obtain ⟨rfl, _⟩ := want_len h1
      have := attrP_len h2
      obtain ⟨rfl, _⟩ := want_len h3
      simp only [Except.ok.injEq, Prod.mk.injEq] at h
      obtain ⟨_, rfl⟩ := h
      simp only [List.length_cons] at *; omega
    · cases h
/-- What is left, and how many are open. -/
def Rs.len : Rs → Nat
  | .ok s => s.ts.length
  | .bad _ _ => 0
def lvC : Lv → Nat
  | .at l => 8 - l
  | _ => 0
theorem bin_len (m : Rs) (t : Tok) (a : Nat) : (m.bin t a).len = m.len := by cases m <;> rfl
theorem un_len (m : Rs) (op : Int) (t : Tok) : (m.un op t).len = m.len := by cases m <;> rfl
theorem shut_len (m : Rs) : m.shut.len ≤ m.len := by
  cases m with
  | bad c e => exact Nat.le_refl _
  | ok s =>
    simp only [Rs.shut]
    split
    · exact Nat.zero_le _
    · rename_i h
      obtain ⟨e, _⟩ := want_len h
      simp only [Rs.len, e, List.length_cons]; omega
theorem leafR_len (s : Ps) : (leafR s).len ≤ s.ts.length := by
  unfold leafR
  split
  · exact Nat.zero_le _
  · rename_i h
    have := leafP_len h
    simp only [Rs.len, Ps.add]; omega
theorem Rd.len {v : Lv} {s r : Rs} (h : Rd v s r) : r.len ≤ s.len := by
  induction h with
  | err => exact Nat.le_refl _
  | lft hl h k i1 i2 => exact Nat.le_trans i2 i1
  | stop => exact Nat.le_refl _
  | more hk h k i1 i2 => rw [bin_len] at i2; simp only [Rs.len, List.length_cons] at *; omega
  | cmp h k i1 i2 => exact Nat.le_trans i2 i1
  | cstop => exact Nat.le_refl _
  | cmore hk h i1 => rw [bin_len]; simp only [Rs.len, List.length_cons] at *; omega
  | pre hl hk ho h i1 => rw [un_len]; simp only [Rs.len, List.length_cons] at *; omega
  | deep => exact Nat.zero_le _
  | thru hl hk h i1 => exact i1
  | @brk t tl o ns sp m hk ho h i1 => have := shut_len m; simp only [Rs.len, List.length_cons] at *; omega
  | bdeep => exact Nat.zero_le _
  | leaf hk => exact leafR_len _
theorem rdF_rd : ∀ (n : Nat) (v : Lv) (s : Rs), 10 * s.len + lvC v < n → (∀ l, v = .at l → l ≤ 7) → (∀ l, v = .lp l → isL l = true) → Rd v s (rdF n v s) := by
  intro n
  induction n with
  | zero => intro v s h; omega
  | succ n ih =>
    intro v s h hl hp
    cases s with
    | bad c e => cases v <;> exact .err _ _ _
    | ok s =>
      cases v with
      | «at» l =>
        have hl7 := hl l rfl
        simp only [rdF]
        simp only [Rs.len, lvC] at h
        by_cases h1 : isL l = true
        · rw [if_pos h1]
          have hb : l ≤ 5 := by simp [isL] at h1; omega
          have a1 := ih (.at (l + 1)) (.ok s) (by simp only [Rs.len, lvC]; omega) (fun m e => by cases e; omega) (fun m e => by cases e)
          have := a1.len
          simp only [Rs.len] at this
          exact .lft h1 a1 (ih (.lp l) _ (by simp only [lvC, Rs.len] at *; omega) (fun m e => by cases e) (fun m e => by cases e; exact h1))
        rw [if_neg h1]
        by_cases h3 : l = 3
        · subst h3
          rw [if_pos rfl]
          have a1 := ih (.at 4) (.ok s) (by simp only [Rs.len, lvC]; omega) (fun m e => by cases e; omega) (fun m e => by cases e)
          have := a1.len
          exact .cmp a1 (ih .cp _ (by simp only [lvC, Rs.len] at *; omega) (fun m e => by cases e) (fun m e => by cases e))
        rw [if_neg h3]
        by_cases h2 : isP l = true
        · rw [if_pos h2]
          have hb : l ≤ 6 := by simp [isP] at h2; omega
          obtain ⟨ts, o, ns, sp⟩ := s
          cases ts with
          | nil =>
            refine .thru h2 (by simp only [kd, preK]; split <;> decide) (ih (.at (l + 1)) _ (by simp only [Rs.len, lvC, List.length_nil] at *; omega) (fun m e => by cases e; omega) (fun m e => by cases e))
          | cons t tl =>
            simp only [List.length_cons] at h
            dsimp only
            by_cases hk : t.k = preK l
            · rw [if_pos hk]
              by_cases ho : o = 32
              · subst ho; rw [if_pos rfl]; exact .deep h2 hk
              · rw [if_neg ho]
                exact .pre h2 hk ho (ih (.at l) _ (by simp only [Rs.len, lvC]; omega) (fun m e => by cases e; omega) (fun m e => by cases e))
            · rw [if_neg hk]
              exact .thru h2 hk (ih (.at (l + 1)) _ (by simp only [Rs.len, lvC, List.length_cons]; omega) (fun m e => by cases e; omega) (fun m e => by cases e))
        · rw [if_neg h2]
          have h7 : l = 7 := by
            simp only [isL, isP, Bool.or_eq_true, beq_iff_eq, not_or] at h1 h2; omega
          subst h7
          obtain ⟨ts, o, ns, sp⟩ := s
          cases ts with
          | nil => exact .leaf (by simp [kd])
          | cons t tl =>
            simp only [List.length_cons] at h
            dsimp only
            by_cases hk : t.k = 3
            · rw [if_pos hk]
              by_cases ho : o = 32
              · subst ho; rw [if_pos rfl]; exact .bdeep hk
              · rw [if_neg ho]
                exact .brk hk ho (ih (.at 0) _ (by simp only [Rs.len, lvC]; omega) (fun m e => by cases e; omega) (fun m e => by cases e))
            · rw [if_neg hk]; exact .leaf hk
      | lp l =>
        have hi := hp l rfl
        have hb : l ≤ 5 := by simp [isL] at hi; omega
        obtain ⟨ts, o, ns, sp⟩ := s
        cases ts with
        | nil => exact .stop (by simp only [kd]; unfold opsAt; split <;> first | rfl | decide)
        | cons t tl =>
          simp only [rdF]
          simp only [Rs.len, lvC, List.length_cons] at h
          by_cases hk : opsAt l t.k = true
          · rw [if_pos hk]
            have a1 := ih (.at (l + 1)) (.ok ⟨tl, o, ns, sp⟩) (by simp only [Rs.len, lvC]; omega) (fun m e => by cases e; omega) (fun m e => by cases e)
            have := a1.len
            simp only [Rs.len] at this
            exact .more hk a1 (ih (.lp l) _ (by rw [bin_len]; simp only [lvC, Rs.len] at *; omega) (fun m e => by cases e) (fun m e => by cases e; exact hi))
          · rw [if_neg hk]; exact .stop (by simpa [kd] using hk)
      | cp =>
        obtain ⟨ts, o, ns, sp⟩ := s
        cases ts with
        | nil => exact .cstop rfl
        | cons t tl =>
          simp only [rdF]
          simp only [Rs.len, lvC, List.length_cons] at h
          by_cases hk : opsAt 3 t.k = true
          · rw [if_pos hk]
            exact .cmore hk (ih (.at 4) (.ok ⟨tl, o, ns, sp⟩) (by simp only [Rs.len, lvC]; omega) (fun m e => by cases e; omega) (fun m e => by cases e))
          · rw [if_neg hk]; exact .cstop (by simpa [kd] using hk)
theorem Rd.det {v : Lv} {s r : Rs} (h : Rd v s r) : ∀ {r'}, Rd v s r' → r = r' := by
  induction h with
  | err v c e => intro r' h2; cases h2; rfl
  | lft hl h k i1 i2 =>
    intro r' h2
    cases h2 with
    | lft _ h' k' => cases i1 h'; exact i2 k'
    | cmp => simp [isL] at hl
    | pre hl' => simp [isL, isP] at hl hl'; omega
    | deep hl' => simp [isL, isP] at hl hl'; omega
    | thru hl' => simp [isL, isP] at hl hl'; omega
    | brk => simp [isL] at hl
    | bdeep => simp [isL] at hl
    | leaf => simp [isL] at hl
  | stop hk => intro r' h2; cases h2 with
    | stop => rfl
    | more hk' => simp only [kd] at hk; rw [hk] at hk'; cases hk'
  | more hk h k i1 i2 => intro r' h2; cases h2 with
    | stop hk' => simp only [kd] at hk'; rw [hk] at hk'; cases hk'
    | more _ h' k' => cases i1 h'; exact i2 k'
  | cmp h k i1 i2 => intro r' h2; cases h2 with
    | lft hl => simp [isL] at hl
    | cmp h' k' => cases i1 h'; exact i2 k'
    | pre hl' => simp [isP] at hl'
    | deep hl' => simp [isP] at hl'
    | thru hl' => simp [isP] at hl'
  | cstop hk => intro r' h2; cases h2 with
    | cstop => rfl
    | cmore hk' => simp only [kd] at hk; rw [hk] at hk'; cases hk'
  | cmore hk h i1 => intro r' h2; cases h2 with
    | cstop hk' => simp only [kd] at hk'; rw [hk] at hk'; cases hk'
    | cmore _ h' => cases i1 h'; rfl
  | pre hl hk ho h i1 => intro r' h2; cases h2 with
    | lft hl' => simp [isL, isP] at hl hl'; omega
    | cmp => simp [isP] at hl
    | pre _ _ _ h' => cases i1 h'; rfl
    | deep => exact absurd rfl ho
    | thru _ hk' => exact absurd hk hk'
    | brk => simp [isP] at hl
    | bdeep => simp [isP] at hl
    | leaf => simp [isP] at hl
  | deep hl hk => intro r' h2; cases h2 with
    | lft hl' => simp [isL, isP] at hl hl'; omega
    | cmp => simp [isP] at hl
    | pre _ _ ho => exact absurd rfl ho
    | deep => rfl
    | thru _ hk' => exact absurd hk hk'
    | brk => simp [isP] at hl
    | bdeep => simp [isP] at hl
    | leaf => simp [isP] at hl
  | thru hl hk h i1 => intro r' h2; cases h2 with
    | lft hl' => simp [isL, isP] at hl hl'; omega
    | cmp => simp [isP] at hl
    | pre _ hk' => exact absurd hk' hk
    | deep _ hk' => exact absurd hk' hk
    | thru _ _ h' => exact i1 h'
    | brk => simp [isP] at hl
    | bdeep => simp [isP] at hl
    | leaf => simp [isP] at hl
  | brk hk ho h i1 => intro r' h2; cases h2 with
    | lft hl' => simp [isL] at hl'
    | pre hl' => simp [isP] at hl'
    | deep hl' => simp [isP] at hl'
    | thru hl' => simp [isP] at hl'
    | brk _ _ h' => cases i1 h'; rfl
    | bdeep => exact absurd rfl ho
    | leaf hk' => exact absurd hk hk'
  | bdeep hk => intro r' h2; cases h2 with
    | lft hl' => simp [isL] at hl'
    | pre hl' => simp [isP] at hl'
    | deep hl' => simp [isP] at hl'
    | thru hl' => simp [isP] at hl'
    | brk _ ho => exact absurd rfl ho
    | bdeep => rfl
    | leaf hk' => exact absurd hk hk'
  | leaf hk => intro r' h2; cases h2 with
    | lft hl' => simp [isL] at hl'
    | pre hl' => simp [isP] at hl'
    | deep hl' => simp [isP] at hl'
    | thru hl' => simp [isP] at hl'
    | brk hk' => exact absurd hk' hk
    | bdeep hk' => exact absurd hk' hk
    | leaf => rfl
/-- An expression from tokens on. -/
def exR (ts : List Tok) : Rs := rdF (10 * ts.length + 9) (.at 0) (.ok ⟨ts, 0, [], []⟩)
theorem exR_rd (ts : List Tok) : Rd (.at 0) (.ok ⟨ts, 0, [], []⟩) (exR ts) := rdF_rd _ _ _ (by simp only [Rs.len, lvC]; omega) (fun l e => by cases e; omega) (fun l e => by cases e)

/-- What is kept: how many are open; no more nodes than tokens are gone; as many places as nodes. -/
def Inv (a b : Rs) : Prop := ∀ s s', a = .ok s → b = .ok s' → s'.o = s.o ∧ s'.ns.length + s'.ts.length ≤ s.ns.length + s.ts.length ∧ (s.sp.length = s.ns.length → s'.sp.length = s'.ns.length)
theorem Inv.trans {a b c : Rs} (h : Inv a b) (k : Inv b c) (hb : ∀ s', c = .ok s' → ∃ m, b = .ok m) : Inv a c := fun s s' e1 e2 => by
  obtain ⟨m, hm⟩ := hb s' e2
  obtain ⟨h1, h2, h3⟩ := h s m e1 hm
  obtain ⟨k1, k2, k3⟩ := k m s' hm e2
  exact ⟨k1.trans h1, Nat.le_trans k2 h2, fun e => k3 (h3 e)⟩
theorem bin_ok {m : Rs} {t : Tok} {a : Nat} {s' : Ps} (h : m.bin t a = .ok s') : ∃ s, m = .ok s ∧ s' = s.add s.ts ⟨opN t.k, 0, eS, eS, (a : Int) - 1, (s.ns.length : Int) - 1⟩ t.a := by
  cases m with
  | bad c e => cases h
  | ok s => simp only [Rs.bin, Rs.ok.injEq] at h; exact ⟨s, rfl, h.symm⟩
theorem un_ok {m : Rs} {op : Int} {t : Tok} {s' : Ps} (h : m.un op t = .ok s') : ∃ s, m = .ok s ∧ s' = { s with o := s.o - 1 }.add s.ts ⟨op, 0, eS, eS, (s.ns.length : Int) - 1, -1⟩ t.a := by
  cases m with
  | bad c e => cases h
  | ok s => simp only [Rs.un, Rs.ok.injEq] at h; exact ⟨s, rfl, h.symm⟩
theorem shut_ok {m : Rs} {s' : Ps} (h : m.shut = .ok s') : ∃ s t tl, m = .ok s ∧ s.ts = t :: tl ∧ t.k = 4 ∧ s' = { s with ts := tl, o := s.o - 1 } := by
  cases m with
  | bad c e => cases h
  | ok s =>
    simp only [Rs.shut] at h
    split at h
    · cases h
    · rename_i h1
      obtain ⟨e1, e2⟩ := want_len h1
      simp only [Rs.ok.injEq] at h
      exact ⟨s, _, _, rfl, e1, e2, h.symm⟩
theorem Rd.from_ok {v : Lv} {a : Rs} {s' : Ps} (h : Rd v a (.ok s')) : ∃ m, a = .ok m := by
  cases a with
  | bad c e => cases h
  | ok m => exact ⟨m, rfl⟩
theorem Rd.inv {v : Lv} {a b : Rs} (h : Rd v a b) : Inv a b := by
  induction h with
  | err => intro s s' e; cases e
  | lft hl h k i1 i2 => exact i1.trans i2 (fun s' e => by subst e; exact k.from_ok)
  | stop => intro s s' e1 e2; cases e1; cases e2; exact ⟨rfl, Nat.le_refl _, id⟩
  | more hk h k i1 i2 =>
    intro s s' e1 e2
    cases e1
    subst e2
    obtain ⟨m2, hm2⟩ := k.from_ok
    obtain ⟨m, rfl, hm⟩ := bin_ok hm2
    obtain ⟨a1, a2, a3⟩ := i1 _ m rfl rfl
    obtain ⟨b1, b2, b3⟩ := i2 m2 s' hm2 rfl
    subst hm
    simp only [Ps.add, List.length_append, List.length_cons, List.length_nil] at *
    exact ⟨b1.trans a1, by omega, fun e => b3 (by rw [a3 e])⟩
  | cmp h k i1 i2 => exact i1.trans i2 (fun s' e => by subst e; exact k.from_ok)
  | cstop => intro s s' e1 e2; cases e1; cases e2; exact ⟨rfl, Nat.le_refl _, id⟩
  | cmore hk h i1 =>
    intro s s' e1 e2
    cases e1
    obtain ⟨m, rfl, rfl⟩ := bin_ok e2
    obtain ⟨a1, a2, a3⟩ := i1 _ m rfl rfl
    simp only [Ps.add, List.length_append, List.length_cons, List.length_nil] at *
    exact ⟨a1, by omega, fun e => by rw [a3 e]⟩
  | pre hl hk ho h i1 =>
    intro s s' e1 e2
    cases e1
    obtain ⟨m, rfl, rfl⟩ := un_ok e2
    obtain ⟨a1, a2, a3⟩ := i1 _ m rfl rfl
    simp only [Ps.add, List.length_append, List.length_cons, List.length_nil] at *
    exact ⟨by omega, by omega, fun e => by rw [a3 e]⟩
  | deep => intro s s' e1 e2; cases e2
  | thru hl hk h i1 => exact i1
  | brk hk ho h i1 =>
    intro s s' e1 e2
    cases e1
    obtain ⟨m, t, tl, rfl, e3, _, rfl⟩ := shut_ok e2
    obtain ⟨a1, a2, a3⟩ := i1 _ m rfl rfl
    rw [e3] at a2
    simp only [List.length_cons] at *
    exact ⟨by omega, by omega, a3⟩
  | bdeep => intro s s' e1 e2; cases e2
  | @leaf s0 hk =>
    intro s s' e1 e2
    cases e1
    unfold leafR at e2
    split at e2
    · cases e2
    · rename_i h1
      have := leafP_len h1
      simp only [Rs.ok.injEq] at e2
      subst e2
      simp only [Ps.add, List.length_append, List.length_cons, List.length_nil] at *
      exact ⟨trivial, by omega, fun e => by rw [e]⟩
/-- What a level comes to. -/
def rdT (v : Lv) (s : Ps) : Rs := rdF (10 * s.ts.length + 9) v (.ok s)
theorem rdT_at (l : Nat) (hl : l ≤ 7) (s : Ps) : Rd (.at l) (.ok s) (rdT (.at l) s) := rdF_rd _ _ _ (by simp only [Rs.len, lvC]; omega) (fun m e => by cases e; exact hl) (fun m e => by cases e)
theorem rdT_lp (l : Nat) (hl : isL l = true) (s : Ps) : Rd (.lp l) (.ok s) (rdT (.lp l) s) := rdF_rd _ _ _ (by simp only [Rs.len, lvC]; omega) (fun m e => by cases e) (fun m e => by cases e; exact hl)
theorem rdT_cp (s : Ps) : Rd .cp (.ok s) (rdT .cp s) := rdF_rd _ _ _ (by simp only [Rs.len, lvC]; omega) (fun m e => by cases e) (fun m e => by cases e)

end Go.Proofs.YtmoimmghmmomlaaDoor
