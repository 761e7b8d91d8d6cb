/- The pieces of a schema text: what event's piecesOf comes to. -/
import Derived.Test.YtkpnnofonocilaaDoorRd4
import Derived.Lib.MapLaws
import Derived.Lib.TrimUEq
namespace Go.Proofs.YtkpnnofonocilaaDoor
open Go.RowKit Go.BigFrame
set_option linter.unusedVariables false
set_option linter.unusedSimpArgs false

def rn (s : ByteArray) (p : Nat) : Int := ((Utf8.decode s p).1 : Nat)
def nx (s : ByteArray) (p : Nat) : Nat := p + (Utf8.decode s p).2
def wP (s : ByteArray) (b p : Nat) : Pc := ⟨0, s.extract b p, 0, b⟩
def mP (r : Int) (p : Nat) : Pc := ⟨1, ⟨#[]⟩, r, p⟩
def eP (s : ByteArray) : Pc := ⟨2, ⟨#[]⟩, 0, s.size⟩
def endP (s : ByteArray) : Option Nat → List Pc
  | some b => [wP s b s.size, eP s]
  | none => [eP s]
/-- The pieces from a place on, where a word began at bg, within a comment or not. -/
def pL (s : ByteArray) : Nat → Nat → Option Nat → Bool → List Pc
  | 0, p, bg, cm => endP s bg
  | n + 1, p, bg, cm =>
    if p < s.size then
      if bg.isSome = true ∧ inW (rn s p) = true then pL s n (nx s p) bg cm
      else (match bg with | some b => [wP s b p] | none => []) ++
        (if cm = true then pL s n (nx s p) none (rn s p != 10) else if rn s p = 35 then pL s n (nx s p) none true
         else if inW (rn s p) = true then pL s n (nx s p) (some p) false else if blkB (rn s p) = true then pL s n (nx s p) none false
         else mP (rn s p) p :: pL s n (nx s p) none false)
    else endP s bg
theorem pL_end (s : ByteArray) (n p : Nat) (bg : Option Nat) (cm : Bool) (h : ¬ p < s.size) : pL s n p bg cm = endP s bg := by
  cases n with
  | zero => rfl
  | succ n => unfold pL; rw [if_neg h]
theorem pL_in (s : ByteArray) (n p b : Nat) (cm : Bool) (h : p < s.size) (hw : inW (rn s p) = true) : pL s (n + 1) p (some b) cm = pL s n (nx s p) (some b) cm := by
  rw [pL, if_pos h, if_pos ⟨rfl, hw⟩]
theorem pL_none (s : ByteArray) (n p : Nat) (cm : Bool) (h : p < s.size) : pL s (n + 1) p none cm = if cm = true then pL s n (nx s p) none (rn s p != 10) else if rn s p = 35 then pL s n (nx s p) none true
         else if inW (rn s p) = true then pL s n (nx s p) (some p) false else if blkB (rn s p) = true then pL s n (nx s p) none false
         else mP (rn s p) p :: pL s n (nx s p) none false := by
  rw [pL, if_pos h, if_neg (by simp)]
  rfl
theorem pL_word (s : ByteArray) (n p b : Nat) (cm : Bool) (h : p < s.size) (hw : inW (rn s p) = false) : pL s (n + 1) p (some b) cm = wP s b p :: pL s (n + 1) p none cm := by
  rw [pL_none s n p cm h, pL, if_pos h, if_neg (by rw [hw]; simp)]
  rfl
theorem nx_gt (s : ByteArray) (p : Nat) (h : p < s.size) : p < nx s p ∧ nx s p ≤ s.size := by
  have hlen : s.data.toList.length = s.size := (Lib.size_eq s).symm
  have hne : s.data.toList.drop p ≠ [] := by
    intro h0
    have := congrArg List.length h0
    rw [List.length_drop, hlen] at this
    simp at this
    omega
  have h1 := Lib.decodeL_le _ hne
  rw [Lib.decodeL_drop, List.length_drop, hlen] at h1
  have h2 : 1 ≤ (Utf8.decode s p).2 := by
    by_cases ha : (s[p]'h).toNat < 128
    · rw [decode_ascii s p h ha]; exact Nat.le_refl _
    · exact (decode_high s p h (by omega)).2
  unfold nx
  omega
theorem endP_en (s : ByteArray) (bg : Option Nat) : En (endP s bg) := by
  cases bg with
  | none => exact ⟨eP s, by simp [endP], rfl⟩
  | some b => exact ⟨eP s, by simp [endP], rfl⟩
theorem pL_en (s : ByteArray) : ∀ n p bg cm, En (pL s n p bg cm) := by
  have cons : ∀ (q : Pc) (l : List Pc), En l → En (q :: l) := fun q l ⟨x, hx, hk⟩ => ⟨x, List.mem_cons_of_mem _ hx, hk⟩
  intro n
  induction n with
  | zero => intro p bg cm; exact endP_en s bg
  | succ n ih =>
    intro p bg cm
    have h0 : ∀ p cm, En (pL s (n + 1) p none cm) := fun p cm => by
      by_cases h : p < s.size
      · rw [pL_none s n p cm h]
        split
        · exact ih _ _ _
        · split
          · exact ih _ _ _
          · split
            · exact ih _ _ _
            · split
              · exact ih _ _ _
              · exact cons _ _ (ih _ _ _)
      · rw [pL_end s _ p none cm h]; exact endP_en s _
    by_cases h : p < s.size
    · cases bg with
      | none => exact h0 p cm
      | some b =>
        cases hw : inW (rn s p)
        · rw [pL_word s n p b cm h hw]; exact cons _ _ (h0 p cm)
        · rw [pL_in s n p b cm h hw]; exact ih _ _ _
    · rw [pL_end s _ p bg cm h]; exact endP_en s _
theorem pL_words (s : ByteArray) : ∀ n p bg cm, p ≤ s.size → (∀ b, bg = some b → b < p) → ∀ x ∈ pL s n p bg cm, x.k = 0 → 0 < x.w.size := by
  have wpos : ∀ b p, b < p → p ≤ s.size → 0 < (wP s b p).w.size := fun b p h1 h2 => by
    show 0 < (s.extract b p).size
    rw [ByteArray.size_extract]; omega
  have eok : ∀ p bg, p ≤ s.size → (∀ b, bg = some b → b < p) → ∀ x ∈ endP s bg, x.k = 0 → 0 < x.w.size := fun p bg hp hb x hx hk => by
    cases bg with
    | none =>
      have : x = eP s := by simpa [endP] using hx
      subst this; exact absurd hk (by show ¬ (2 : Int) = 0; decide)
    | some b =>
      rcases List.mem_cons.1 hx with rfl | hx
      · exact wpos _ _ (Nat.lt_of_lt_of_le (hb b rfl) hp) (Nat.le_refl _)
      · have : x = eP s := by simpa using hx
        subst this; exact absurd hk (by show ¬ (2 : Int) = 0; decide)
  intro n
  induction n with
  | zero => intro p bg cm hp hb; exact eok p bg hp hb
  | succ n ih =>
    intro p bg cm hp hb
    have nob : ∀ (q b : Nat), (none : Option Nat) = some b → b < q := fun q b e => by cases e
    have h0 : ∀ cm, ∀ x ∈ pL s (n + 1) p none cm, x.k = 0 → 0 < x.w.size := fun cm => by
      by_cases h : p < s.size
      · have hq := nx_gt s p h
        rw [pL_none s n p cm h]
        split
        · exact ih _ _ _ hq.2 (nob _)
        · split
          · exact ih _ _ _ hq.2 (nob _)
          · split
            · exact ih _ _ _ hq.2 (fun b e => by cases e; exact hq.1)
            · split
              · exact ih _ _ _ hq.2 (nob _)
              · intro x hx hk
                rcases List.mem_cons.1 hx with rfl | hx
                · exact absurd hk (by show ¬ (1 : Int) = 0; decide)
                · exact ih _ _ _ hq.2 (nob _) x hx hk
      · rw [pL_end s _ p none cm h]; exact eok p none hp (nob _)
    by_cases h : p < s.size
    · have hq := nx_gt s p h
      cases bg with
      | none => exact h0 cm
      | some b =>
        cases hw : inW (rn s p)
        · rw [pL_word s n p b cm h hw]
          intro x hx hk
          rcases List.mem_cons.1 hx with rfl | hx
          · exact wpos _ _ (hb b rfl) hp
          · exact h0 cm x hx hk
        · rw [pL_in s n p b cm h hw]
          exact ih _ _ _ hq.2 (fun c e => by cases e; have := hb b rfl; omega)
    · rw [pL_end s _ p bg cm h]; exact eok p bg hp hb
def pcV (l : List Pc) : List Value := l.flatMap fun p => (pcA p).toList
theorem pcV_snoc (l : List Pc) (p : Pc) : pcV (l ++ [p]) = pcV l ++ (pcA p).toList := by simp [pcV]
theorem pcV_len (l : List Pc) : (pcV l).length = l.length * 4 := by
  induction l with
  | nil => rfl
  | cons p r ih =>
    have e : pcV (p :: r) = (pcA p).toList ++ pcV r := rfl
    rw [e, List.length_append, ih, List.length_cons]
    show 4 + _ = _
    omega
theorem pcV_at (l : List Pc) : ∀ i, i < l.length → ∀ j, j < 4 → (pcV l)[i * 4 + j]? = (pcA (l.getD i noPc)).toList[j]? := by
  induction l with
  | nil => intro i hi; simp at hi
  | cons t r ih =>
    intro i hi j hj
    have e : pcV (t :: r) = (pcA t).toList ++ pcV r := rfl
    have hl : (pcA t).toList.length = 4 := rfl
    rw [e]
    cases i with
    | zero =>
      rw [Nat.zero_mul, Nat.zero_add, List.getElem?_append_left (by omega)]
      rfl
    | succ i =>
      rw [List.getElem?_append_right (by omega), hl, show (i + 1) * 4 + j - 4 = i * 4 + j by omega]
      rw [ih i (by simpa using hi) j hj]
      rfl
theorem pcs_of_own {w : World} {base : Nat} {v : Value} {l : List Pc} (hl : l ≠ []) (hw : ∀ x ∈ l, x.k = 0 → 0 < x.w.size) (h : w.ownsRow base 63 4 v l.length (pcV l)) : ∃ g cap, v = .slice (some ⟨g, 0, none⟩) l.length cap ∧ l.length ≤ cap ∧ IsPcs w g 0 l ∧ base ≤ g := by
  have hl0 : 0 < l.length := List.length_pos_iff.2 hl
  rcases id h.2 with ⟨rfl, h0⟩ | ⟨g, cap, cur, rfl, hb, hh, hc, r⟩
  · omega
  · refine ⟨g, cap, rfl, hc, fun i hi => ?_, hb⟩
    have hc : ∀ j, j < 4 → w.cell? ⟨g, i * 4 + j, none⟩ = (pcA (l.getD i noPc)).toList[j]? := fun j hj => by
      rw [World.ownsRow.cellAt h (i * 4 + j) (by omega), pcV_at l i hi j hj]
    refine ⟨⟨?_, ?_, ?_, ?_⟩, hw _ (by rw [List.getD_eq_getElem?_getD, List.getElem?_eq_getElem hi]; exact List.getElem_mem _)⟩
    · rw [Nat.zero_add]; exact hc 0 (by omega)
    · rw [Nat.zero_add]; exact hc 1 (by omega)
    · rw [Nat.zero_add]; exact hc 2 (by omega)
    · rw [Nat.zero_add]; exact hc 3 (by omega)
theorem infoPcs : (Tryd.prog.info? 63).map (fun i => (i.zero, i.size, i.bytes)) = some (some (.agg (pcA ⟨0, ⟨#[]⟩, 0, 0⟩)), 4, 40) := by kernel_rfl
theorem info_partsP : ∃ i, Tryd.prog.info? 63 = some i ∧ i.zero = some (.agg (pcA ⟨0, ⟨#[]⟩, 0, 0⟩)) ∧ i.size = 4 ∧ i.bytes = 40 := by
  have h := infoPcs
  cases hq : Tryd.prog.info? 63 with
  | none => simp [hq] at h
  | some i => simp [hq] at h; exact ⟨i, rfl, h.1, h.2.1, h.2.2⟩
theorem new4p (w : World) (b : Nat) (hb : b = w.heap.size) (p : Pc) (j : Nat) (u : Value) (h : (pcA p).toList[j]? = some u) : (w.alloc (.cells #[.int .i64 p.k, .string p.w, .int .i32 p.m, .int .i64 p.a] 63)).cell? ((⟨b, 0, none⟩ : Addr).add j) = some u := by
  subst hb
  rw [Go.WideShapes.add_plain, Nat.zero_add, World.cell?_alloc_new]
  simpa [pcA] using h
theorem one_pc (p : Pc) : ∀ u ∈ (pcA p).toList, u.oneCell' = true := by
  intro u hu
  simp [pcA] at hu
  rcases hu with rfl | rfl | rfl | rfl <;> rfl
theorem own_iter {w : World} {B : Nat} {e : TypeId} {size n : Nat} {v : Value} {xs : List Value} {k : Nat} {s : ByteArray} {pos : Nat} (h : w.ownsRow B e size v n xs) (hk : w.heap[k]? = some (.stringIter s pos)) (pos' : Nat) : (w.iterAt k s pos').ownsRow B e size v n xs :=
  own_of_block h fun g cur _ hh => Lib.iterAt_other w k g s pos' (fun e' => by subst e'; rw [hk] at hh; cases hh)
theorem own_not_iter {w : World} {B : Nat} {e : TypeId} {size n : Nat} {v : Value} {xs : List Value} {k : Nat} {s : ByteArray} {pos : Nat} (h : w.ownsRow B e size v n xs) (hk : w.heap[k]? = some (.stringIter s pos)) : some k ≠ v.ownBlock := by
  rcases h.2 with ⟨rfl, _⟩ | ⟨g, cap, cur, rfl, hb, hg, rest⟩
  · simp [Value.ownBlock]
  · intro e
    simp only [Value.ownBlock, Option.some.injEq] at e
    subst e
    rw [hk] at hg
    cases hg
def bgI : Option Nat → Int
  | some b => b
  | none => -1

end Go.Proofs.YtkpnnofonocilaaDoor
