/- What is read is sound, and places lie within their texts. -/
import Derived.Test.YtkpnnofonocilaaDoorRv
import Derived.Lib.ParseIntBTie
namespace Go.Proofs.YtkpnnofonocilaaDoor
open Go.RowKit Go.BigFrame
set_option linter.unusedVariables false
set_option linter.unusedSimpArgs false

theorem attrE_old {ss : List ByteArray} {x : ByteArray} {k : Nat} (hk : k < ss.length) : attrE (ss ++ [x]) k = attrE ss k := by
  unfold attrE
  have e1 : (ss ++ [x]).getD k .empty = ss.getD k .empty := by simp [List.getD, List.getElem?_append_left hk]
  have e2 : (ss ++ [x]).take k = ss.take k := by rw [List.take_append_of_le_length (Nat.le_of_lt hk)]
  rw [e1, e2]
theorem attrE_new {ss : List ByteArray} {x : ByteArray} : attrE (ss ++ [x]) ss.length = atE ss x := by
  unfold attrE atE
  have e1 : (ss ++ [x]).getD ss.length .empty = x := by simp [List.getD]
  have e2 : (ss ++ [x]).take ss.length = ss := by simp
  rw [e1, e2]
def OkA (ss : List ByteArray) : Prop := ss.length ≤ 8 ∧ ∀ k, k < ss.length → attrE ss k = 0
theorem OkA.more {ss : List ByteArray} {p : Pc} (h : OkA ss) (ht : rdT ss p = 0) : OkA (ss ++ [p.w]) := by
  unfold rdT at ht
  split at ht
  · exact absurd ht (by decide)
  split at ht
  · exact absurd ht (by decide)
  rename_i h8
  refine ⟨by have := h.1; simp; omega, fun k hk => ?_⟩
  by_cases hlt : k < ss.length
  · rw [attrE_old hlt]; exact h.2 k hlt
  · have : k = ss.length := by simp at hk; omega
    rw [this, attrE_new]; exact ht
theorem rdL_ok : ∀ (n : Nat) (ss : List ByteArray) (l : List Pc), OkA ss → (rdL n ss l).2.2 = 0 → OkA (rdL n ss l).2.1 := by
  intro n
  induction n with
  | zero => intro ss l _ h; cases h
  | succ n ih =>
    intro ss l hs h
    rw [rdL] at h ⊢
    split at h
    · rename_i h1; exact absurd h h1
    · rename_i h1
      rw [if_neg h1]
      have hm := hs.more (Classical.not_not.1 h1)
      split at h
      · rename_i h2; rw [if_pos h2]; exact hm
      · rename_i h2
        rw [if_neg h2]
        split at h
        · rename_i h3; rw [if_pos h3]; exact ih _ _ hm h
        · cases h
theorem rdA_ok {l : List Pc} (h : (rdA l).2.2 = 0) : OkA (rdA l).2.1 := by
  have h0 : OkA [] := ⟨by simp, fun k hk => by simp at hk⟩
  unfold rdA at h ⊢
  split at h
  · cases h
  · rename_i h1
    rw [if_neg h1]
    split at h
    · rename_i h2; rw [if_pos h2]; exact h0
    · rename_i h2; rw [if_neg h2]; exact rdL_ok _ _ _ h0 h
theorem firstE_of {f : Nat → Int} {n : Nat} (h : ∀ j, j < n → f j = 0) : firstE f n = 0 := firstE_none f n h
theorem typeE_old {L : List Ty} {t : Ty} {k : Nat} (hk : k < L.length) : typeE (L ++ [t]) k = typeE L k := by
  unfold typeE
  have e1 : (L ++ [t]).getD k noTy = L.getD k noTy := by simp [List.getD, List.getElem?_append_left hk]
  have e2 : (L ++ [t]).take k = L.take k := by rw [List.take_append_of_le_length (Nat.le_of_lt hk)]
  rw [e1, e2]
theorem typeE_new {L : List Ty} {t : Ty} : typeE (L ++ [t]) L.length = typeF L t.1 t.2 := by
  unfold typeE
  have e1 : (L ++ [t]).getD L.length noTy = t := by simp [List.getD]
  have e2 : (L ++ [t]).take L.length = L := by simp
  rw [e1, e2]
def OkL (L : List Ty) : Prop := L.length ≤ 16 ∧ ∀ k, k < L.length → typeE L k = 0
theorem rdD_ok {L : List Ty} {l : List Pc} (hL : OkL L) (h : (rdD L l).2.2 = 0) : OkL (rdD L l).2.1 := by
  unfold rdD at h ⊢
  split at h
  · cases h
  rename_i h1
  rw [if_neg h1]
  split at h
  · cases h
  rename_i h2
  rw [if_neg h2]
  split at h
  · cases h
  rename_i h3
  rw [if_neg h3]
  split at h
  · rename_i h4; exact absurd h h4
  rename_i h4
  rw [if_neg h4]
  split at h
  · rename_i h5; exact absurd h h5
  rename_i h5
  rw [if_neg h5]
  have hA := rdA_ok (Classical.not_not.1 h5)
  refine ⟨by have := hL.1; simp; omega, fun k hk => ?_⟩
  by_cases hlt : k < L.length
  · rw [typeE_old hlt]; exact hL.2 k hlt
  · have : k = L.length := by simp at hk; omega
    rw [this, typeE_new]
    unfold typeF
    rw [if_neg h4, if_neg (show ¬ 8 < (rdA l.tail.tail).2.1.length by have := hA.1; omega)]
    exact firstE_of hA.2
theorem rdS_ok : ∀ (n : Nat) (L : List Ty) (l : List Pc), OkL L → (rdS n L l).2.2 = 0 → OkL (rdS n L l).2.1 ∧ (rdS n L l).2.1.length ≠ 0 := by
  intro n
  induction n with
  | zero => intro L l _ h; cases h
  | succ n ih =>
    intro L l hL h
    rw [rdS] at h ⊢
    split at h
    · rename_i h1
      rw [if_pos h1]
      refine ⟨hL, fun e => ?_⟩
      replace e : L.length = 0 := e
      replace h : (if L.length = 0 then (23 : Int) else 0) = 0 := h
      rw [if_pos e] at h
      cases h
    · rename_i h1
      rw [if_neg h1]
      split at h
      · rename_i h2; exact absurd h h2
      · rename_i h2
        rw [if_neg h2]
        exact ih _ _ (rdD_ok hL (Classical.not_not.1 h2)) h
theorem OkL.sound {L : List Ty} (h : OkL L) (h0 : L.length ≠ 0) : schE L = 0 := by
  unfold schE
  rw [if_neg (by have := h.1; omega)]
  exact firstE_of h.2
/-- A schema that is read is sound. -/
theorem scO_sound (s : ByteArray) (h : (scO s).2.1 = 0) : schE (scO s).1 = 0 ∧ (scO s).2.2 = 0 := by
  unfold scO at h ⊢
  split at h
  · cases h
  rename_i h1
  rw [if_neg h1]
  unfold rdO at h ⊢
  split at h
  · rename_i h2; exact absurd h h2
  rename_i h2
  rw [if_neg h2]
  have := rdS_ok 17 [] (pL s s.size 0 none false) ⟨by simp, fun k hk => by simp at hk⟩ (Classical.not_not.1 h2)
  exact ⟨this.1.sound this.2, rfl⟩

/-! ### Places -/
def Sf (l r : List Pc) : Prop := ∃ k, r = l.drop k
theorem Sf.refl (l : List Pc) : Sf l l := ⟨0, rfl⟩
theorem Sf.tail {l r : List Pc} (h : Sf l r) : Sf l r.tail := by
  obtain ⟨k, rfl⟩ := h
  exact ⟨k + 1, by simp⟩
theorem Sf.trans {l r z : List Pc} (h : Sf l r) (g : Sf r z) : Sf l z := by
  obtain ⟨k, rfl⟩ := h
  obtain ⟨j, rfl⟩ := g
  exact ⟨k + j, by rw [List.drop_drop]⟩
theorem rdL_sf : ∀ (n : Nat) (ss : List ByteArray) (l : List Pc), Sf l (rdL n ss l).1 := by
  intro n
  induction n with
  | zero => intro ss l; exact Sf.refl _
  | succ n ih =>
    intro ss l
    rw [rdL]
    split
    · exact Sf.refl _
    · split
      · exact (Sf.refl l).tail.tail
      · split
        · exact (Sf.refl l).tail.tail.trans (ih _ _)
        · exact (Sf.refl l).tail
theorem rdA_sf (l : List Pc) : Sf l (rdA l).1 := by
  unfold rdA
  split
  · exact Sf.refl _
  · split
    · exact (Sf.refl l).tail.tail
    · exact (Sf.refl l).tail.trans (rdL_sf _ _ _)
theorem rdD_sf (L : List Ty) (l : List Pc) : Sf l (rdD L l).1 := by
  have ha := (Sf.refl l).tail.tail.trans (rdA_sf l.tail.tail)
  unfold rdD
  split
  · exact Sf.refl _
  · split
    · exact Sf.refl _
    · split
      · exact (Sf.refl l).tail
      · split
        · exact (Sf.refl l).tail
        · split
          · exact ha
          · exact ha
theorem rdS_sf : ∀ (n : Nat) (L : List Ty) (l : List Pc), Sf l (rdS n L l).1 := by
  intro n
  induction n with
  | zero => intro L l; exact Sf.refl _
  | succ n ih =>
    intro L l
    rw [rdS]
    split
    · exact Sf.refl _
    · split
      · exact rdD_sf L l
      · exact (rdD_sf L l).trans (ih _ _)
theorem cutL_in (s : ByteArray) : ∀ n k, k ≤ s.size → ∀ q ∈ cutL s n k, q.1 ≤ s.size := by
  intro n
  induction n with
  | zero => intro k hk q hq; cases hq
  | succ n ih =>
    intro k hk q hq
    rw [cutL] at hq
    split at hq
    · rename_i hlt
      split at hq
      · exact ih (k + 1) (by omega) q hq
      · split at hq
        · exact ih _ (scan_le _ _ _ _ (by omega)) q hq
        · split at hq
          · rcases List.mem_cons.1 hq with rfl | hq
            · exact hk
            · exact ih _ (scan_le _ _ _ _ (by omega)) q hq
          · rcases List.mem_cons.1 hq with rfl | hq
            · exact hk
            · exact ih _ (by omega) q hq
    · cases hq
theorem refL_in (s : ByteArray) (p : Pc) (h : p ∈ refL s (cutL s s.size 0)) : 0 ≤ p.a ∧ p.a ≤ (s.size : Int) := by
  unfold refL at h
  rw [List.mem_append] at h
  rcases h with h | h
  · obtain ⟨q, hq, rfl⟩ := List.mem_map.1 h
    have := cutL_in s s.size 0 (Nat.zero_le _) q hq
    unfold rPc
    split
    · show 0 ≤ ((q.1 : Nat) : Int) ∧ ((q.1 : Nat) : Int) ≤ _; omega
    · show 0 ≤ ((q.1 : Nat) : Int) ∧ ((q.1 : Nat) : Int) ≤ _; omega
  · have : p = eP s := by simpa using h
    subst this
    show 0 ≤ ((s.size : Nat) : Int) ∧ ((s.size : Nat) : Int) ≤ _
    omega
/-- What is refused: no types, and a place within the text. -/
theorem scO_place (s : ByteArray) (h : (scO s).2.1 ≠ 0) : (scO s).1 = [] ∧ 0 ≤ (scO s).2.2 ∧ (scO s).2.2 ≤ (s.size : Int) := by
  rw [← scR_eq] at h ⊢
  unfold scR at h ⊢
  split at h
  · rename_i h1
    rw [if_pos h1]
    refine ⟨rfl, by show (0 : Int) ≤ 4096; decide, ?_⟩
    show (4096 : Int) ≤ (s.size : Int)
    omega
  · rename_i h1
    rw [if_neg h1]
    unfold rdO at h ⊢
    split at h
    · rename_i h2
      rw [if_pos h2]
      refine ⟨rfl, ?_⟩
      obtain ⟨k, hk⟩ := rdS_sf 17 [] (refL s (cutL s s.size 0))
      show 0 ≤ (hd (rdS 17 [] (refL s (cutL s s.size 0))).1).a ∧ (hd (rdS 17 [] (refL s (cutL s s.size 0))).1).a ≤ (s.size : Int)
      rw [hk]
      by_cases hlt : k < (refL s (cutL s s.size 0)).length
      · have e : hd ((refL s (cutL s s.size 0)).drop k) = (refL s (cutL s s.size 0))[k] := by
          rw [List.drop_eq_getElem_cons hlt]
          rfl
        rw [e]
        exact refL_in s _ (List.getElem_mem _)
      · rw [List.drop_eq_nil_of_le (by omega)]
        show (0 : Int) ≤ 0 ∧ (0 : Int) ≤ _
        omega
    · rename_i h2
      exact absurd rfl h

theorem numO_range {x : ByteArray} {v : Int} (h : numO x = some v) : -9223372036854775808 ≤ v ∧ v ≤ 9223372036854775807 := by
  unfold numO at h
  split at h
  · split at h
    · rename_i u hu
      cases h
      have := Lib.parseIntB_bounds hu
      have e : ((2 ^ (64 - 1) : Nat) : Int) = 9223372036854775808 := by decide
      rw [e] at this
      omega
    · cases h
  · cases h
theorem idO_range {x : ByteArray} {v : Nat} (h : idO x = some v) : v < 18446744073709551616 := by
  unfold idO at h
  split at h
  · split at h
    · rename_i u hu
      cases h
      have := Lib.parseUintB_le hu
      have e : (2 ^ 64 - 1 : Nat) = 18446744073709551615 := by decide
      rw [e] at this
      omega
    · cases h
  · cases h
theorem rdV_ok (s : ByteArray) : ∀ n e, e ≤ s.size → (rdV s n e).2.2 ≤ s.size ∧ ((rdV s n e).2.1 = 0 → (rdV s n e).1.length = n ∧ ∀ v ∈ (rdV s n e).1, -9223372036854775808 ≤ v ∧ v ≤ 9223372036854775807) := by
  intro n
  induction n with
  | zero =>
    intro e he
    rw [rdV]
    exact ⟨he, fun _ => ⟨rfl, fun v hv => by cases hv⟩⟩
  | succ n ih =>
    intro e he
    obtain ⟨i1, i2⟩ := ih (wE s e) (wE_le s e he).2
    rw [rdV]
    split
    · split
      · exact ⟨he, fun h => by cases h⟩
      · rename_i v hv
        refine ⟨i1, fun h => ?_⟩
        obtain ⟨j1, j2⟩ := i2 h
        refine ⟨by show ((rdV s n (wE s e)).1).length + 1 = n + 1; rw [j1], fun u hu => ?_⟩
        rcases List.mem_cons.1 hu with rfl | hu
        · exact numO_range hv
        · exact j2 u hu
    · exact ⟨he, fun h => by cases h⟩
theorem pad_at (l : List Int) (j : Nat) (hj : l.length ≤ j) (h8 : j < 8) : (pad l).getD j 0 = 0 := by
  unfold pad
  simp only [List.getD, List.getElem?_append_right hj, List.getElem?_replicate]
  split <;> rfl
theorem pad_in (l : List Int) (h : ∀ v ∈ l, -9223372036854775808 ≤ v ∧ v ≤ 9223372036854775807) (j : Nat) : -9223372036854775808 ≤ (pad l).getD j 0 ∧ (pad l).getD j 0 ≤ 9223372036854775807 := by
  unfold pad
  by_cases hj : j < l.length
  · have e : (l ++ List.replicate (8 - l.length) 0).getD j 0 = l[j] := by simp [List.getD, List.getElem?_append_left hj, List.getElem?_eq_getElem hj]
    rw [e]
    exact h _ (List.getElem_mem _)
  · simp only [List.getD, List.getElem?_append_right (Nat.le_of_not_lt hj), List.getElem?_replicate]
    split <;> simp
theorem mkEv_at (z : Int × Int × Nat × List Int) (j : Nat) (h : j < 8) : (mkEv z).at j = (pad z.2.2.2).getD j 0 := by
  rcases (show j = 0 ∨ j = 1 ∨ j = 2 ∨ j = 3 ∨ j = 4 ∨ j = 5 ∨ j = 6 ∨ j = 7 from by omega) with rfl | rfl | rfl | rfl | rfl | rfl | rfl | rfl <;> rfl
theorem typeI_lt {L : List Ty} {x : ByteArray} (h : ¬ typeI L x < 0) : (typeI L x).toNat < L.length := by
  unfold typeI at h ⊢
  split at h
  · rename_i h1; rw [if_pos h1]; simpa using h1
  · exact absurd (by decide) h
/-- A line that is read is an event's. -/
theorem pE_sound (L : List Ty) (s : ByteArray) (h0 : schE L = 0) (h : (pE L s).2.1 = 0) : evE L (pE L s).1 = 0 ∧ (pE L s).1.ok ∧ (pE L s).2.2 = 0 := by
  unfold pE at h ⊢
  rw [if_neg (fun e => e h0)] at h ⊢
  split at h
  · rename_i h1; exact absurd h h1
  rename_i h1
  rw [if_neg h1]
  replace h1 := Classical.not_not.1 h1
  clear h
  unfold rdE at h1 ⊢
  split at h1
  · cases h1
  rename_i ts hts
  try rw [hts]
  try dsimp only at h1 ⊢
  split at h1
  · cases h1
  rename_i hsf
  rw [if_neg hsf]
  split at h1
  · cases h1
  rename_i id hid
  try rw [hid]
  try dsimp only at h1 ⊢
  split at h1
  · cases h1
  rename_i hA
  rw [if_neg hA]
  split at h1
  · cases h1
  rename_i hty
  rw [if_neg hty]
  try dsimp only at h1 ⊢
  have hlt := typeI_lt hty
  have hl : wE s (wE s (wE s 0)) ≤ s.size := (wE_le s _ (wE_le s _ (wE_le s 0 (Nat.zero_le _)).2).2).2
  obtain ⟨_, v2⟩ := rdV_ok s (L.getD (typeI L (wd s (wE s (wE s 0)))).toNat noTy).2.length _ hl
  obtain ⟨v3, v4⟩ := v2 h1
  have hsafe : -1152921504606846976 ≤ ts ∧ ts ≤ 1152921504606846976 := by
    cases e : safeB ts
    · exact absurd e hsf
    · exact of_decide_eq_true e
  have r1 := numO_range hts
  have r2 := idO_range hid
  generalize (typeI L (wd s (wE s (wE s 0)))).toNat = k at *
  generalize (rdV s (L.getD k noTy).2.length (wE s (wE s (wE s 0)))).1 = vs at *
  refine ⟨?_, ⟨r1.1, r1.2, by show (0 : Int) ≤ (id : Int); omega, by show (id : Int) < _; omega, fun j hj => ?_, fun j hj => ?_⟩, rfl⟩
  · unfold evE
    rw [if_neg (fun e => e h0), if_neg (fun e => e ⟨by show (0 : Int) ≤ (k : Int); omega, by show (k : Int) < _; omega⟩)]
    have hsp : spareB (L.getD (mkEv (ts, (id : Int), k, vs)).typ.toNat noTy).2.length (mkEv (ts, (id : Int), k, vs)) = false := by
      refine spareB_no _ _ fun j h1 h2 => ?_
      rw [mkEv_at _ j h2]
      refine pad_at _ j ?_ h2
      replace h1 : (L.getD ((k : Int)).toNat noTy).2.length ≤ j := h1
      rw [Int.toNat_natCast] at h1
      show vs.length ≤ j
      omega
    rw [hsp, if_neg (by decide), if_neg (fun e => e hsafe)]
  · rw [mkEv_at _ j hj]; exact (pad_in _ v4 j).1
  · rw [mkEv_at _ j hj]; exact (pad_in _ v4 j).2
theorem rdE_place (s : ByteArray) (L : List Ty) : (rdE s L).2.2 ≤ s.size := by
  have w1 := (wE_le s 0 (Nat.zero_le _)).2
  have w2 := (wE_le s _ w1).2
  have w3 := (wE_le s _ w2).2
  unfold rdE
  split
  · exact Nat.zero_le _
  · split
    · exact Nat.zero_le _
    · split
      · exact w1
      · split
        · exact w2
        · split
          · exact w2
          · exact (rdV_ok s _ _ w3).1
/-- A line that is refused: the empty event, and a place within the line. -/
theorem pE_place (L : List Ty) (s : ByteArray) (h0 : schE L = 0) (h : (pE L s).2.1 ≠ 0) : (pE L s).1 = zeroE ∧ 0 ≤ (pE L s).2.2 ∧ (pE L s).2.2 ≤ (s.size : Int) := by
  unfold pE at h ⊢
  rw [if_neg (fun e => e h0)] at h ⊢
  split at h
  · rename_i h1
    rw [if_pos h1]
    have := (wA_le s _ (rdE_place s L)).2
    exact ⟨rfl, by show (0 : Int) ≤ ((wA s (rdE s L).2.2 : Nat) : Int); omega, by show ((wA s (rdE s L).2.2 : Nat) : Int) ≤ _; omega⟩
  · exact absurd rfl h

end Go.Proofs.YtkpnnofonocilaaDoor
