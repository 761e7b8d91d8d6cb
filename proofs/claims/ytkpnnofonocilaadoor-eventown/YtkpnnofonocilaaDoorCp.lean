/- The pieces of a schema text cut byte by byte; that the reader reads them as it reads those cut rune by rune. -/
import Derived.Test.YtkpnnofonocilaaDoorPf
namespace Go.Proofs.YtkpnnofonocilaaDoor
open Go.RowKit Go.BigFrame
set_option linter.unusedVariables false
set_option linter.unusedSimpArgs false

/-- The first place from k on where f no longer holds, or the end. -/
def scan (f : Int → Bool) (s : ByteArray) : Nat → Nat → Nat
  | 0, k => k
  | n + 1, k => if k < s.size ∧ f (at_ s k) = true then scan f s n (k + 1) else k
theorem scan_fuel (f : Int → Bool) (s : ByteArray) : ∀ n m k, s.size ≤ k + n → s.size ≤ k + m → scan f s n k = scan f s m k := by
  have h0 : ∀ m k, s.size ≤ k → scan f s m k = k := fun m k h => by
    cases m with
    | zero => rfl
    | succ m => unfold scan; rw [if_neg (by omega)]
  intro n
  induction n with
  | zero => intro m k h1 h2; rw [h0 m k (by omega)]; rfl
  | succ n ih =>
    intro m k h1 h2
    cases m with
    | zero => rw [h0 _ k (by omega), h0 _ k (by omega)]
    | succ m =>
      unfold scan
      rw [ih m (k + 1) (by omega) (by omega)]
theorem scan_go (f : Int → Bool) (s : ByteArray) (k : Nat) (h : k < s.size) (hf : f (at_ s k) = true) : scan f s s.size k = scan f s s.size (k + 1) := by
  rw [scan_fuel f s s.size (s.size + 1) k (by omega) (by omega)]
  rw [scan, if_pos ⟨h, hf⟩]
theorem scan_stop (f : Int → Bool) (s : ByteArray) (n k : Nat) (h : ¬ (k < s.size ∧ f (at_ s k) = true)) : scan f s n k = k := by
  cases n with
  | zero => rfl
  | succ n => rw [scan, if_neg h]
theorem scan_ge (f : Int → Bool) (s : ByteArray) : ∀ n k, k ≤ scan f s n k := by
  intro n
  induction n with
  | zero => intro k; exact Nat.le_refl _
  | succ n ih =>
    intro k
    unfold scan
    split
    · have := ih (k + 1); omega
    · exact Nat.le_refl _
theorem scan_le (f : Int → Bool) (s : ByteArray) : ∀ n k, k ≤ s.size → scan f s n k ≤ s.size := by
  intro n
  induction n with
  | zero => intro k h; exact h
  | succ n ih =>
    intro k h
    unfold scan
    split
    · exact ih _ (by omega)
    · exact h
theorem scan_all (f : Int → Bool) (s : ByteArray) : ∀ n k j, k ≤ j → j < scan f s n k → f (at_ s j) = true := by
  intro n
  induction n with
  | zero => intro k j h1 h2; exact absurd h2 (by unfold scan; omega)
  | succ n ih =>
    intro k j h1 h2
    unfold scan at h2
    split at h2
    · rename_i h
      rcases Nat.lt_or_ge k j with e | e
      · exact ih (k + 1) j e h2
      · obtain rfl : j = k := by omega
        exact h.2
    · omega
theorem scan_skip (f : Int → Bool) (s : ByteArray) : ∀ d p, (∀ j, p ≤ j → j < p + d → j < s.size ∧ f (at_ s j) = true) → scan f s s.size p = scan f s s.size (p + d) := by
  intro d
  induction d with
  | zero => intro p _; rfl
  | succ d ih =>
    intro p h
    obtain ⟨h1, h2⟩ := h p (Nat.le_refl _) (by omega)
    rw [scan_go f s p h1 h2, ih (p + 1) (fun j a b => h j (by omega) (by omega)), show p + 1 + d = p + (d + 1) by omega]
def notNl (c : Int) : Bool := c != 10
def wdE (s : ByteArray) (k : Nat) : Nat := scan inW s s.size k
def cmE (s : ByteArray) (k : Nat) : Nat := scan notNl s s.size k

abbrev Rp := Nat × Nat × Bool
/-- The pieces from a place on, cut byte by byte. -/
def cutL (s : ByteArray) : Nat → Nat → List Rp
  | 0, _ => []
  | n + 1, i => if i < s.size then
      if blkB (at_ s i) = true then cutL s n (i + 1) else if at_ s i = 35 then cutL s n (cmE s (i + 1))
      else if inW (at_ s i) = true then (i, wdE s (i + 1), true) :: cutL s n (wdE s (i + 1)) else (i, i + 1, false) :: cutL s n (i + 1)
    else []
def rPc (s : ByteArray) (q : Rp) : Pc := if q.2.2 = true then wP s q.1 q.2.1 else mP (at_ s q.1) q.1
def refL (s : ByteArray) (P : List Rp) : List Pc := P.map (rPc s) ++ [eP s]

theorem lo_or_hi (c : Int) : c < 128 ∨ 128 ≤ c := by omega
theorem at_byte (s : ByteArray) (p : Nat) (h : p < s.size) : at_ s p = ((s[p]'h).toNat : Int) := by
  unfold at_
  have : s.data.getD p 0 = s.data[p]'h := by
    unfold Array.getD
    rw [dif_pos (show p < s.data.size from h)]
    rfl
  rw [this]
  rfl
theorem dec_lo (s : ByteArray) (p : Nat) (h : p < s.size) (hl : at_ s p < 128) : rn s p = at_ s p ∧ nx s p = p + 1 := by
  rw [at_byte s p h] at hl
  unfold rn nx
  rw [decode_ascii s p h (by omega), at_byte s p h]
  exact ⟨rfl, rfl⟩
theorem get_any (s : ByteArray) (p : Nat) (h : p < s.size) : ((s.get! p).toNat : Int) = at_ s p := by
  rw [at_byte s p h]
  have := get_at s p h
  rw [Nat.add_zero] at this
  rw [this]
theorem dec_hi (s : ByteArray) (p : Nat) (h : p < s.size) (hl : 128 ≤ at_ s p) : 128 ≤ rn s p ∧ ∀ j, p ≤ j → j < nx s p → 128 ≤ at_ s j := by
  rw [at_byte s p h] at hl
  have h1 := (decode_high s p h (by omega)).1
  refine ⟨by unfold rn; omega, ?_⟩
  have g : ∀ k, p + k < s.size → 128 ≤ (s.get! (p + k)).toNat → 128 ≤ at_ s (p + k) := fun k hk hb => by rw [← get_any s _ hk]; omega
  have g0 : 128 ≤ at_ s p := by rw [at_byte s p h]; exact hl
  have hd2 : ∀ x : Nat, x / 64 = 2 → 128 ≤ x := fun x hx => by omega
  intro j hj1 hj2
  unfold nx Utf8.decode at hj2
  simp only [Bool.and_eq_true, decide_eq_true_eq, beq_iff_eq] at hj2
  rcases Nat.lt_or_ge p j with e | e
  · obtain ⟨k, rfl⟩ : ∃ k, j = p + (k + 1) := ⟨j - p - 1, by omega⟩
    split at hj2
    · first | omega | (simp at hj2; done) | (simp at hj2; omega)
    · split at hj2
      · rename_i c
        split at hj2
        · obtain rfl : k = 0 := by first | omega | (simp at hj2; done) | (simp at hj2; omega)
          exact g 1 c.2.1 (hd2 _ c.2.2)
        · first | omega | (simp at hj2; done) | (simp at hj2; omega)
      · split at hj2
        · rename_i c
          split at hj2
          · have : k = 0 ∨ k = 1 := by first | omega | (simp at hj2; done) | (simp at hj2; omega)
            rcases this with rfl | rfl
            · exact g 1 c.1.2.1 (hd2 _ c.1.2.2)
            · exact g 2 c.2.1 (hd2 _ c.2.2)
          · first | omega | (simp at hj2; done) | (simp at hj2; omega)
        · split at hj2
          · rename_i c
            split at hj2
            · have : k = 0 ∨ k = 1 ∨ k = 2 := by first | omega | (simp at hj2; done) | (simp at hj2; omega)
              rcases this with rfl | rfl | rfl
              · exact g 1 c.1.1.2.1 (hd2 _ c.1.1.2.2)
              · exact g 2 c.1.2.1 (hd2 _ c.1.2.2)
              · exact g 3 c.2.1 (hd2 _ c.2.2)
            · first | omega | (simp at hj2; done) | (simp at hj2; omega)
          · first | omega | (simp at hj2; done) | (simp at hj2; omega)
  · obtain rfl : j = p := by omega
    exact g0
theorem inW_lo {c : Int} (h : inW c = true) : c < 128 := by
  unfold inW letB digB at h
  simp only [Bool.or_eq_true, decide_eq_true_eq, beq_iff_eq] at h
  omega
theorem blk_lo {c : Int} (h : blkB c = true) : c < 128 := by
  unfold blkB at h
  have := of_decide_eq_true h
  omega
theorem inW_hi {c : Int} (h : 128 ≤ c) : inW c = false := by
  cases e : inW c
  · rfl
  · have := inW_lo e; omega
theorem blk_hi {c : Int} (h : 128 ≤ c) : blkB c = false := by
  cases e : blkB c
  · rfl
  · have := blk_lo e; omega
theorem rn_in (s : ByteArray) (p : Nat) (h : p < s.size) : inW (rn s p) = inW (at_ s p) := by
  rcases lo_or_hi (at_ s p) with e | e
  · rw [(dec_lo s p h e).1]
  · rw [inW_hi e, inW_hi (dec_hi s p h e).1]
/-- The rest of a word. -/
theorem pL_run (s : ByteArray) : ∀ n p b, p ≤ s.size → s.size ≤ p + n → ∃ m, s.size ≤ wdE s p + m ∧ pL s n p (some b) false = wP s b (wdE s p) :: pL s m (wdE s p) none false := by
  intro n
  induction n with
  | zero =>
    intro p b h1 h2
    have h3 : p = s.size := by omega
    have e : wdE s p = p := scan_stop _ _ _ _ (by omega)
    refine ⟨0, by rw [e]; omega, ?_⟩
    rw [e, pL_end s 0 p _ _ (by omega), pL_end s 0 p _ _ (by omega), h3]
    rfl
  | succ n ih =>
    intro p b h1 h2
    by_cases h : p < s.size
    · cases hw : inW (at_ s p)
      · have e : wdE s p = p := scan_stop _ _ _ _ (by rw [hw]; simp)
        refine ⟨n + 1, by rw [e]; omega, ?_⟩
        rw [e]
        exact pL_word s n p b false h (by rw [rn_in s p h]; exact hw)
      · have e : wdE s p = wdE s (p + 1) := scan_go _ _ _ h hw
        have hn := (dec_lo s p h (inW_lo hw)).2
        rw [pL_in s n p b false h (by rw [rn_in s p h]; exact hw), hn, e]
        exact ih (p + 1) b (by omega) (by omega)
    · have h3 : p = s.size := by omega
      have e : wdE s p = p := scan_stop _ _ _ _ (by omega)
      refine ⟨0, by rw [e]; omega, ?_⟩
      rw [e, pL_end s _ p _ _ (by omega), pL_end s 0 p _ _ (by omega), h3]
      rfl
/-- The rest of a comment. -/
theorem pL_cm (s : ByteArray) : ∀ n p, p ≤ s.size → s.size ≤ p + n → ∃ m, s.size ≤ cmE s p + m ∧ pL s n p none true = pL s m (cmE s p) none false := by
  intro n
  induction n with
  | zero =>
    intro p h1 h2
    have e : cmE s p = p := scan_stop _ _ _ _ (by omega)
    refine ⟨0, by rw [e]; omega, ?_⟩
    rw [e, pL_end s 0 p _ _ (by omega), pL_end s 0 p _ _ (by omega)]
  | succ n ih =>
    intro p h1 h2
    by_cases h : p < s.size
    · have hq := nx_gt s p h
      by_cases h10 : at_ s p = 10
      · have e : cmE s p = p := scan_stop _ _ _ _ (by rw [h10]; simp [notNl])
        have hr := (dec_lo s p h (by omega)).1
        refine ⟨n + 1, by rw [e]; omega, ?_⟩
        rw [e, pL_none s n p true h, pL_none s n p false h, hr, h10]
        rfl
      · have hr : rn s p ≠ 10 := by
          rcases lo_or_hi (at_ s p) with e | e
          · rw [(dec_lo s p h e).1]; exact h10
          · have := (dec_hi s p h e).1; omega
        have e : cmE s p = cmE s (nx s p) := by
          have hk : ∀ j, p ≤ j → j < p + (nx s p - p) → j < s.size ∧ notNl (at_ s j) = true := fun j a b => by
            refine ⟨by omega, ?_⟩
            unfold notNl
            rw [bne_iff_ne]
            rcases lo_or_hi (at_ s p) with e | e
            · have := (dec_lo s p h e).2
              obtain rfl : j = p := by omega
              exact h10
            · have := (dec_hi s p h e).2 j a (by omega); omega
          have := scan_skip notNl s (nx s p - p) p hk
          rw [show p + (nx s p - p) = nx s p by omega] at this
          exact this
        rw [pL_none s n p true h, if_pos rfl, show (rn s p != 10) = true by rw [bne_iff_ne]; exact hr, e]
        exact ih (nx s p) hq.2 (by omega)
    · have e : cmE s p = p := scan_stop _ _ _ _ (by omega)
      refine ⟨0, by rw [e]; omega, ?_⟩
      rw [e, pL_end s _ p _ _ (by omega), pL_end s 0 p _ _ (by omega)]

def badM (c : Int) : Prop := c ≠ 40 ∧ c ≠ 41 ∧ c ≠ 44
def Bad (p q : Pc) : Prop := p.k = 1 ∧ q.k = 1 ∧ badM p.m ∧ badM q.m ∧ p.a = q.a
/-- The same pieces up to the first mark that is none of the grammar's. -/
inductive Sim : List Pc → List Pc → Prop
  | nil : Sim [] []
  | good (p : Pc) {l r : List Pc} : Sim l r → Sim (p :: l) (p :: r)
  | bad {p q : Pc} (l r : List Pc) : Bad p q → Sim (p :: l) (q :: r)
theorem sim_cut (s : ByteArray) : ∀ N p n m, s.size - p ≤ N → p ≤ s.size → s.size ≤ p + n → s.size ≤ p + m → Sim (pL s n p none false) (refL s (cutL s m p)) := by
  intro N
  induction N with
  | zero =>
    intro p n m h0 h1 h2 h3
    rw [pL_end s n p none false (by omega), show cutL s m p = [] by cases m with | zero => rfl | succ m => rw [cutL, if_neg (by omega)]]
    exact .good _ .nil
  | succ N ih =>
    intro p n m h0 h1 h2 h3
    by_cases h : p < s.size
    · obtain ⟨n, rfl⟩ : ∃ n', n = n' + 1 := ⟨n - 1, by omega⟩
      obtain ⟨m, rfl⟩ : ∃ m', m = m' + 1 := ⟨m - 1, by omega⟩
      rw [cutL, if_pos h, pL_none s n p false h, if_neg (by decide)]
      rcases lo_or_hi (at_ s p) with e | e
      · obtain ⟨hr, hx⟩ := dec_lo s p h e
        rw [hr, hx]
        by_cases hb : blkB (at_ s p) = true
        · have hb' : at_ s p = 32 ∨ at_ s p = 9 ∨ at_ s p = 10 ∨ at_ s p = 13 := of_decide_eq_true hb
          have hnw : inW (at_ s p) = false := by rcases hb' with e | e | e | e <;> rw [e] <;> rfl
          rw [if_pos hb, if_neg (by omega), hnw, if_neg (by decide), if_pos hb]
          exact ih (p + 1) n m (by omega) (by omega) (by omega) (by omega)
        · simp only [if_neg hb]
          by_cases h35 : at_ s p = 35
          · rw [if_pos h35, if_pos h35]
            obtain ⟨m', hm', e'⟩ := pL_cm s n (p + 1) (by omega) (by omega)
            rw [e']
            have g1 := scan_ge notNl s s.size (p + 1)
            have g2 := scan_le notNl s s.size (p + 1) (by omega)
            exact ih (cmE s (p + 1)) m' m (by unfold cmE; omega) g2 hm' (by unfold cmE; omega)
          · rw [if_neg h35, if_neg h35]
            by_cases hw : inW (at_ s p) = true
            · rw [if_pos hw, if_pos hw]
              obtain ⟨m', hm', e'⟩ := pL_run s n (p + 1) p (by omega) (by omega)
              rw [e']
              have g1 := scan_ge inW s s.size (p + 1)
              have g2 := scan_le inW s s.size (p + 1) (by omega)
              exact .good (wP s p (wdE s (p + 1))) (ih (wdE s (p + 1)) m' m (by unfold wdE; omega) g2 hm' (by unfold wdE; omega))
            · rw [if_neg hw, if_neg hw]
              exact .good (mP (at_ s p) p) (ih (p + 1) n m (by omega) (by omega) (by omega) (by omega))
      · have hr := (dec_hi s p h e).1
        rw [inW_hi hr, blk_hi hr, inW_hi e, blk_hi e, if_neg (by omega), if_neg (by decide), if_neg (by decide), if_neg (by decide), if_neg (by omega), if_neg (by decide)]
        refine .bad _ _ ⟨rfl, rfl, ?_, ?_, rfl⟩
        · show badM (rn s p); unfold badM; omega
        · show badM (at_ s p); unfold badM; omega
    · rw [pL_end s n p none false h, show cutL s m p = [] by cases m with | zero => rfl | succ m => rw [cutL, if_neg h]]
      exact .good _ .nil
theorem Bad.isM {p q : Pc} (h : Bad p q) (c : Int) (hc : c = 40 ∨ c = 41 ∨ c = 44) : p.isM c = false ∧ q.isM c = false := by
  obtain ⟨_, _, h1, h2, _⟩ := h
  unfold badM at h1 h2
  unfold Pc.isM
  constructor
  · rw [Bool.and_eq_false_iff]; right; rw [beq_eq_false_iff_ne]; omega
  · rw [Bool.and_eq_false_iff]; right; rw [beq_eq_false_iff_ne]; omega
theorem Bad.isW {p q : Pc} (h : Bad p q) (x : ByteArray) : p.isW x = false ∧ q.isW x = false := by
  obtain ⟨h1, h2, _⟩ := h
  unfold Pc.isW
  rw [h1, h2]
  exact ⟨rfl, rfl⟩
theorem Bad.may {p q : Pc} (h : Bad p q) : p.may = false ∧ q.may = false := by
  obtain ⟨h1, h2, _⟩ := h
  unfold Pc.may
  rw [h1, h2]
  exact ⟨rfl, rfl⟩
theorem Sim.cases {l r : List Pc} (h : Sim l r) : (hd l = hd r ∧ Sim l.tail r.tail) ∨ Bad (hd l) (hd r) := by
  cases h with
  | nil => exact .inl ⟨rfl, .nil⟩
  | good p h => exact .inl ⟨rfl, h⟩
  | bad l r h => exact .inr h
theorem Sim.place {l r : List Pc} (h : Sim l r) : (hd l).a = (hd r).a := by
  rcases h.cases with ⟨e, _⟩ | h
  · rw [e]
  · exact h.2.2.2.2
theorem Sim.kind {l r : List Pc} (h : Sim l r) : (hd l).k = (hd r).k := by
  rcases h.cases with ⟨e, _⟩ | h
  · rw [e]
  · rw [h.1, h.2.1]
/-- Both readings come to the same. -/
def Like {α : Type} (a b : List Pc × α) : Prop := a.2 = b.2 ∧ Sim a.1 b.1
theorem rdL_sim : ∀ (n : Nat) (ss : List ByteArray) (l r : List Pc), Sim l r → Like (rdL n ss l) (rdL n ss r) := by
  intro n
  induction n with
  | zero => intro ss l r h; exact ⟨rfl, h⟩
  | succ n ih =>
    intro ss l r h
    unfold rdL
    rcases h.cases with ⟨e, ht⟩ | hb
    · rw [e]
      split
      · exact ⟨rfl, h⟩
      · rcases ht.cases with ⟨e2, ht2⟩ | hb2
        · rw [e2]
          split
          · exact ⟨rfl, ht2⟩
          · split
            · exact ih _ _ _ ht2
            · exact ⟨rfl, ht⟩
        · rw [(hb2.isM 41 (by omega)).1, (hb2.isM 41 (by omega)).2, (hb2.isM 44 (by omega)).1, (hb2.isM 44 (by omega)).2]
          exact ⟨rfl, ht⟩
    · have e1 : rdT ss (hd l) = 21 := by unfold rdT; rw [hb.may.1, if_pos rfl]
      have e2 : rdT ss (hd r) = 21 := by unfold rdT; rw [hb.may.2, if_pos rfl]
      rw [e1, e2, if_pos (by decide), if_pos (by decide)]
      exact ⟨rfl, h⟩
theorem rdA_sim {l r : List Pc} (h : Sim l r) : Like (rdA l) (rdA r) := by
  unfold rdA
  rcases h.cases with ⟨e, ht⟩ | hb
  · rw [e]
    split
    · exact ⟨rfl, h⟩
    · rcases ht.cases with ⟨e2, ht2⟩ | hb2
      · rw [e2]
        split
        · exact ⟨rfl, ht2⟩
        · exact rdL_sim _ _ _ _ ht
      · rw [(hb2.isM 41 (by omega)).1, (hb2.isM 41 (by omega)).2]
        exact rdL_sim _ _ _ _ ht
  · rw [(hb.isM 40 (by omega)).1, (hb.isM 40 (by omega)).2]
    exact ⟨rfl, h⟩
theorem rdD_sim (L : List Ty) {l r : List Pc} (h : Sim l r) : Like (rdD L l) (rdD L r) := by
  unfold rdD
  rcases h.cases with ⟨e, ht⟩ | hb
  · rw [e]
    split
    · exact ⟨rfl, h⟩
    · split
      · exact ⟨rfl, h⟩
      · rcases ht.cases with ⟨e2, ht2⟩ | hb2
        · rw [e2]
          split
          · exact ⟨rfl, ht⟩
          · split
            · exact ⟨rfl, ht⟩
            · have ha := rdA_sim ht2
              rw [ha.1]
              split
              · exact ⟨rfl, ha.2⟩
              · exact ⟨rfl, ha.2⟩
        · rw [hb2.may.1, hb2.may.2]
          exact ⟨rfl, ht⟩
  · rw [(hb.isW tyW).1, (hb.isW tyW).2]
    exact ⟨rfl, h⟩
theorem rdS_sim : ∀ (n : Nat) (L : List Ty) (l r : List Pc), Sim l r → Like (rdS n L l) (rdS n L r) := by
  intro n
  induction n with
  | zero => intro L l r h; exact ⟨rfl, h⟩
  | succ n ih =>
    intro L l r h
    unfold rdS
    rw [h.kind]
    split
    · exact ⟨rfl, h⟩
    · have hd := rdD_sim L h
      rw [hd.1]
      split
      · exact hd
      · exact ih _ _ _ hd.2

end Go.Proofs.YtkpnnofonocilaaDoor
