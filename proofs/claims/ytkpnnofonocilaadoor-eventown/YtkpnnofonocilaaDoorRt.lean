/- A schema's text read back: the pieces of a list of bytes, and what the reader makes of a sound schema's text. -/
import Derived.Test.YtkpnnofonocilaaDoorSc
namespace Go.Proofs.YtkpnnofonocilaaDoor
open Go.RowKit Go.BigFrame
set_option linter.unusedVariables false
set_option linter.unusedSimpArgs false

def bI (c : UInt8) : Int := (c.toNat : Int)
def wB (c : UInt8) : Bool := inW (bI c)
def nB (c : UInt8) : Bool := notNl (bI c)
def wT (l : List UInt8) : Pc := ⟨0, ⟨l.toArray⟩, 0, 0⟩
def mT (c : Int) : Pc := ⟨1, ⟨#[]⟩, c, 0⟩
def eT : Pc := ⟨2, ⟨#[]⟩, 0, 0⟩
/-- The pieces of a list of bytes, without their places. -/
def tk : Nat → List UInt8 → List Pc
  | 0, _ => [eT]
  | _ + 1, [] => [eT]
  | n + 1, c :: r => if blkB (bI c) = true then tk n r else if bI c = 35 then tk n (r.dropWhile nB) else if wB c = true then wT (c :: r.takeWhile wB) :: tk n (r.dropWhile wB) else mT (bI c) :: tk n r
/-- The same but for the places. -/
def Even (p q : Pc) : Prop := p.k = q.k ∧ p.w = q.w ∧ p.m = q.m
inductive Evens : List Pc → List Pc → Prop
  | nil : Evens [] []
  | cons {p q : Pc} {l r : List Pc} : Even p q → Evens l r → Evens (p :: l) (q :: r)
theorem take_prefix (g : UInt8 → Bool) (l : List UInt8) : l.take (l.takeWhile g).length = l.takeWhile g := by
  induction l with
  | nil => rfl
  | cons c r ih =>
    by_cases h : g c = true
    · rw [List.takeWhile_cons_of_pos h, List.length_cons, List.take_succ_cons, ih]
    · rw [List.takeWhile_cons_of_neg h]
      rfl
theorem scan_len (f : Int → Bool) (g : UInt8 → Bool) (hfg : ∀ c, g c = f (bI c)) (s : ByteArray) : ∀ n k, k ≤ s.size → s.size ≤ k + n → scan f s n k = k + ((s.data.toList.drop k).takeWhile g).length ∧ s.data.toList.drop (scan f s n k) = (s.data.toList.drop k).dropWhile g := by
  intro n
  induction n with
  | zero =>
    intro k h1 h2
    have : s.data.toList.drop k = [] := List.drop_eq_nil_of_le (by rw [Array.length_toList]; show s.size ≤ k; omega)
    unfold scan
    rw [this]
    exact ⟨rfl, rfl⟩
  | succ n ih =>
    intro k h1 h2
    unfold scan
    by_cases h : k < s.size
    · have hd : s.data.toList.drop k = s.data[k]'h :: s.data.toList.drop (k + 1) := by
        rw [List.drop_eq_getElem_cons (by rw [Array.length_toList]; exact h)]
        simp
      have ha : at_ s k = bI (s.data[k]'h) := at_byte s k h
      rw [hd, ha]
      by_cases hg : g (s.data[k]'h) = true
      · have hf : f (bI (s.data[k]'h)) = true := by rw [← hfg]; exact hg
        obtain ⟨i1, i2⟩ := ih (k + 1) (by omega) (by omega)
        rw [if_pos ⟨h, hf⟩, List.takeWhile_cons_of_pos hg, List.dropWhile_cons_of_pos hg, i1, List.length_cons]
        rw [i1] at i2
        exact ⟨by omega, i2⟩
      · have hf : ¬ f (bI (s.data[k]'h)) = true := by rw [← hfg]; exact hg
        rw [if_neg (fun e => hf e.2), List.takeWhile_cons_of_neg hg, List.dropWhile_cons_of_neg hg, ← hd]
        exact ⟨rfl, rfl⟩
    · have : s.data.toList.drop k = [] := List.drop_eq_nil_of_le (by rw [Array.length_toList]; show s.size ≤ k; omega)
      rw [if_neg (fun e => h e.1), this]
      exact ⟨rfl, rfl⟩
theorem cut_tk (s : ByteArray) : ∀ n k, k ≤ s.size → s.size ≤ k + n → Evens (refL s (cutL s n k)) (tk n (s.data.toList.drop k)) := by
  intro n
  induction n with
  | zero => intro k h1 h2; exact .cons ⟨rfl, rfl, rfl⟩ .nil
  | succ n ih =>
    intro k h1 h2
    rw [cutL]
    by_cases h : k < s.size
    · have hd : s.data.toList.drop k = s.data[k]'h :: s.data.toList.drop (k + 1) := by
        rw [List.drop_eq_getElem_cons (by rw [Array.length_toList]; exact h)]
        simp
      have ha : at_ s k = bI (s.data[k]'h) := at_byte s k h
      rw [if_pos h, hd, tk, ha]
      by_cases c1 : blkB (bI (s.data[k]'h)) = true
      · rw [if_pos c1, if_pos c1]
        exact ih (k + 1) (by omega) (by omega)
      · rw [if_neg c1, if_neg c1]
        by_cases c2 : bI (s.data[k]'h) = 35
        · rw [if_pos c2, if_pos c2]
          have hs := scan_len notNl nB (fun c => rfl) s s.size (k + 1) (by omega) (by omega)
          have g1 := scan_ge notNl s s.size (k + 1)
          have g2 := scan_le notNl s s.size (k + 1) (by omega)
          have := ih (cmE s (k + 1)) g2 (by unfold cmE; omega)
          rw [show s.data.toList.drop (cmE s (k + 1)) = (s.data.toList.drop (k + 1)).dropWhile nB from hs.2] at this
          exact this
        · rw [if_neg c2, if_neg c2]
          by_cases c3 : inW (bI (s.data[k]'h)) = true
          · rw [if_pos c3, if_pos (show wB (s.data[k]'h) = true from c3)]
            have hs := scan_len inW wB (fun c => rfl) s s.size (k + 1) (by omega) (by omega)
            have g1 := scan_ge inW s s.size (k + 1)
            have g2 := scan_le inW s s.size (k + 1) (by omega)
            have := ih (wdE s (k + 1)) g2 (by unfold wdE; omega)
            rw [show s.data.toList.drop (wdE s (k + 1)) = (s.data.toList.drop (k + 1)).dropWhile wB from hs.2] at this
            refine .cons ⟨rfl, ?_, rfl⟩ this
            show s.extract k (wdE s (k + 1)) = ⟨(s.data[k]'h :: (s.data.toList.drop (k + 1)).takeWhile wB).toArray⟩
            apply ByteArray.ext
            apply Array.toList_inj.1
            have e1 : wdE s (k + 1) = k + 1 + ((s.data.toList.drop (k + 1)).takeWhile wB).length := hs.1
            have e2 := ext_list s k (wdE s (k + 1)) (by unfold wdE; omega) g2
            rw [Lib.toList_data, Lib.toList_data] at e2
            rw [e2]
            congr 1
            rw [e1]
            simp only [ByteArray.data_extract, Array.toList_extract, List.extract]
            rw [show k + 1 + ((s.data.toList.drop (k + 1)).takeWhile wB).length - (k + 1) = ((s.data.toList.drop (k + 1)).takeWhile wB).length by omega]
            exact take_prefix _ _
          · rw [if_neg c3, if_neg (show ¬ wB (s.data[k]'h) = true from c3)]
            exact .cons ⟨rfl, rfl, by show at_ s k = bI (s.data[k]'h); exact ha⟩ (ih (k + 1) (by omega) (by omega))
    · have : s.data.toList.drop k = [] := List.drop_eq_nil_of_le (by rw [Array.length_toList]; show s.size ≤ k; omega)
      rw [if_neg h, this]
      exact .cons ⟨rfl, rfl, rfl⟩ .nil

theorem Even.isW {p q : Pc} (h : Even p q) (x : ByteArray) : p.isW x = q.isW x := by unfold Pc.isW; rw [h.1, h.2.1]
theorem Even.isM {p q : Pc} (h : Even p q) (c : Int) : p.isM c = q.isM c := by unfold Pc.isM; rw [h.1, h.2.2]
theorem Even.may {p q : Pc} (h : Even p q) : p.may = q.may := by unfold Pc.may; rw [h.1, h.2.1]
theorem Evens.parts {l r : List Pc} (h : Evens l r) : Even (hd l) (hd r) ∧ Evens l.tail r.tail := by
  cases h with
  | nil => exact ⟨⟨rfl, rfl, rfl⟩, .nil⟩
  | cons h t => exact ⟨h, t⟩
def Lke {α : Type} (a b : List Pc × α) : Prop := a.2 = b.2 ∧ Evens a.1 b.1
theorem rdL_even : ∀ (n : Nat) (ss : List ByteArray) (l r : List Pc), Evens l r → Lke (rdL n ss l) (rdL n ss r) := by
  intro n
  induction n with
  | zero => intro ss l r h; exact ⟨rfl, h⟩
  | succ n ih =>
    intro ss l r h
    obtain ⟨e1, t1⟩ := h.parts
    obtain ⟨e2, t2⟩ := t1.parts
    have hT : rdT ss (hd l) = rdT ss (hd r) := by unfold rdT; rw [e1.may, e1.2.1]
    unfold rdL
    rw [hT, e2.isM, e2.isM, e1.2.1]
    split
    · exact ⟨rfl, h⟩
    · split
      · exact ⟨rfl, t2⟩
      · split
        · exact ih _ _ _ t2
        · exact ⟨rfl, t1⟩
theorem rdA_even {l r : List Pc} (h : Evens l r) : Lke (rdA l) (rdA r) := by
  obtain ⟨e1, t1⟩ := h.parts
  obtain ⟨e2, t2⟩ := t1.parts
  unfold rdA
  rw [e1.isM, e2.isM]
  split
  · exact ⟨rfl, h⟩
  · split
    · exact ⟨rfl, t2⟩
    · exact rdL_even _ _ _ _ t1
theorem rdD_even (L : List Ty) {l r : List Pc} (h : Evens l r) : Lke (rdD L l) (rdD L r) := by
  obtain ⟨e1, t1⟩ := h.parts
  obtain ⟨e2, t2⟩ := t1.parts
  have ha := rdA_even t2
  unfold rdD
  rw [e1.isW, e2.may, e2.2.1, ha.1]
  split
  · exact ⟨rfl, h⟩
  · split
    · exact ⟨rfl, h⟩
    · split
      · exact ⟨rfl, t1⟩
      · split
        · exact ⟨rfl, t1⟩
        · split
          · exact ⟨rfl, ha.2⟩
          · exact ⟨rfl, ha.2⟩
theorem rdS_even : ∀ (n : Nat) (L : List Ty) (l r : List Pc), Evens l r → Lke (rdS n L l) (rdS n L r) := by
  intro n
  induction n with
  | zero => intro L l r h; exact ⟨rfl, h⟩
  | succ n ih =>
    intro L l r h
    have hd := rdD_even L h
    unfold rdS
    rw [h.parts.1.1, hd.1]
    split
    · exact ⟨rfl, h⟩
    · split
      · exact hd
      · exact ih _ _ _ hd.2
/-- A word's bytes, and what ends it. -/
theorem tk_word (n : Nat) (c : UInt8) (r : List UInt8) (d : UInt8) (z : List UInt8) (hw : ∀ x ∈ c :: r, wB x = true) (hd : wB d = false) : tk (n + 1) (c :: r ++ d :: z) = wT (c :: r) :: tk n (d :: z) := by
  have hc := hw c (by simp)
  have h0 : blkB (bI c) = false := by
    cases e : blkB (bI c)
    · rfl
    · exfalso
      have := of_decide_eq_true e
      unfold wB inW letB digB at hc
      simp only [Bool.or_eq_true, decide_eq_true_eq, beq_iff_eq] at hc
      omega
  have h1 : ¬ bI c = 35 := by
    intro e
    unfold wB at hc
    rw [e] at hc
    exact absurd hc (by decide)
  have t1 : (r ++ d :: z).takeWhile wB = r ∧ (r ++ d :: z).dropWhile wB = d :: z := by
    have hr : ∀ x ∈ r, wB x = true := fun x hx => hw x (by simp [hx])
    clear hw hc h0 h1
    induction r with
    | nil => exact ⟨List.takeWhile_cons_of_neg (by rw [hd]; decide), List.dropWhile_cons_of_neg (by rw [hd]; decide)⟩
    | cons x r ih =>
      have hx := hr x (by simp)
      obtain ⟨i1, i2⟩ := ih (fun y hy => hr y (by simp [hy]))
      rw [List.cons_append, List.takeWhile_cons_of_pos hx, List.dropWhile_cons_of_pos hx, i1, i2]
      exact ⟨rfl, rfl⟩
  rw [List.cons_append, tk, h0, if_neg (by decide), if_neg h1, hc, if_pos rfl, t1.1, t1.2]
theorem tk_blank (n : Nat) (c : UInt8) (r : List UInt8) (h : blkB (bI c) = true) : tk (n + 1) (c :: r) = tk n r := by rw [tk, if_pos h]
theorem tk_mark (n : Nat) (c : UInt8) (r : List UInt8) (h : blkB (bI c) = false) (h1 : bI c ≠ 35) (h2 : wB c = false) : tk (n + 1) (c :: r) = mT (bI c) :: tk n r := by rw [tk, h, if_neg (by decide), if_neg h1, h2, if_neg (by decide)]

end Go.Proofs.YtkpnnofonocilaaDoor
