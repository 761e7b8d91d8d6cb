/- The law's loose text of a schema, and what it is read as. -/
import Derived.Test.YtkpnnofonocilaaDoorRt2
import Derived.Test.YtkpnnofonocilaaDoorTt
namespace Go.Proofs.YtkpnnofonocilaaDoor
open Go.RowKit Go.BigFrame
set_option linter.unusedVariables false
set_option linter.unusedSimpArgs false

/-- What stands between two words. -/
def blk (k : Int) (note : ByteArray) : List UInt8 :=
  if k % 6 = 0 then [32] else if k % 6 = 1 then [10] else if k % 6 = 2 then [9, 13] else if k % 6 = 3 then [32, 32, 10, 32] else if k % 6 = 4 then 35 :: note.data.toList.takeWhile nB ++ [10] else [35, 10]
def gapL (zs : List Int) (note : ByteArray) (i : Nat) : List UInt8 := if i < zs.length ∧ 0 ≤ zs.getD i 0 then blk (zs.getD i 0) note else []
def Blank (l : List UInt8) : Prop := (∀ z, tkf (l ++ z) = tkf z) ∧ ∀ c r, l = c :: r → wB c = false
theorem tkf_com (l z : List UInt8) (h : ∀ c ∈ l, nB c = true) : tkf (35 :: l ++ 10 :: z) = tkf z := by
  have h1 : (l ++ 10 :: z).dropWhile nB = 10 :: z := by
    induction l with
    | nil => exact List.dropWhile_cons_of_neg (by decide)
    | cons c r ih => rw [List.cons_append, List.dropWhile_cons_of_pos (h c (by simp))]; exact ih (fun d hd => h d (by simp [hd]))
  show tk ((l ++ 10 :: z).length + 1) (35 :: (l ++ 10 :: z)) = _
  rw [tk, if_neg (by decide), if_pos (by decide), h1, tk_fuel _ _ (10 :: z).length (10 :: z) (Nat.le_refl _) (by simp) (Nat.le_refl _)]
  exact tkf_blank 10 z rfl
theorem take_all (g : UInt8 → Bool) (l : List UInt8) : ∀ c ∈ l.takeWhile g, g c = true := by
  induction l with
  | nil => intro c hc; cases hc
  | cons x r ih =>
    intro c hc
    by_cases h : g x = true
    · rw [List.takeWhile_cons_of_pos h] at hc
      rcases List.mem_cons.1 hc with rfl | hc
      · exact h
      · exact ih c hc
    · rw [List.takeWhile_cons_of_neg h] at hc; cases hc
theorem blk_blank (k : Int) (note : ByteArray) : Blank (blk k note) := by
  unfold blk
  split
  · exact ⟨fun z => tkf_blank 32 z rfl, fun c r h => by rw [← (List.cons.inj h).1]; rfl⟩
  split
  · exact ⟨fun z => tkf_blank 10 z rfl, fun c r h => by rw [← (List.cons.inj h).1]; rfl⟩
  split
  · exact ⟨fun z => (tkf_blank 9 _ rfl).trans (tkf_blank 13 z rfl), fun c r h => by rw [← (List.cons.inj h).1]; rfl⟩
  split
  · exact ⟨fun z => (tkf_blank 32 _ rfl).trans ((tkf_blank 32 _ rfl).trans ((tkf_blank 10 _ rfl).trans (tkf_blank 32 z rfl))), fun c r h => by rw [← (List.cons.inj h).1]; rfl⟩
  split
  · refine ⟨fun z => ?_, fun c r h => by rw [← (List.cons.inj h).1]; rfl⟩
    have := tkf_com (note.data.toList.takeWhile nB) z (take_all nB _)
    simpa using this
  · exact ⟨fun z => tkf_com [] z (fun c hc => by cases hc), fun c r h => by rw [← (List.cons.inj h).1]; rfl⟩
theorem gap_blank (zs : List Int) (note : ByteArray) (i : Nat) : Blank (gapL zs note i) := by
  unfold gapL
  split
  · exact blk_blank _ _
  · exact ⟨fun z => rfl, fun c r h => by cases h⟩
theorem blk_len (k : Int) (note : ByteArray) : (blk k note).length ≤ note.size + 4 := by
  have h1 : (note.data.toList.takeWhile nB).length ≤ note.size := by
    have := (List.takeWhile_sublist nB (l := note.data.toList)).length_le
    rwa [Array.length_toList] at this
  unfold blk
  split
  · simp
  split
  · simp
  split
  · simp
  split
  · simp
  split
  · simp; omega
  · simp
theorem gap_len (zs : List Int) (note : ByteArray) (i : Nat) : (gapL zs note i).length ≤ note.size + 4 := by
  unfold gapL
  split
  · exact blk_len _ _
  · simp
/-- It begins with what is in no word. -/
def Nw (z : List UInt8) : Prop := ∃ c r, z = c :: r ∧ wB c = false
theorem Nw.gap {l z : List UInt8} (h : Blank l) (hz : Nw z) : Nw (l ++ z) := by
  cases l with
  | nil => exact hz
  | cons c r => exact ⟨c, r ++ z, rfl, h.2 c r rfl⟩
theorem tkf_word2 (l z : List UInt8) (h0 : l ≠ []) (hw : ∀ x ∈ l, wB x = true) (hz : Nw z) : tkf (l ++ z) = wT l :: tkf z := by
  obtain ⟨c, r, rfl, hc⟩ := hz
  exact tkf_word l c r h0 hw hc
section
variable (zs : List Int) (note : ByteArray)
/-- The first k attributes, loosely written. -/
def attL (ss : List ByteArray) (n : Nat) : Nat → List UInt8
  | 0 => []
  | k + 1 => attL ss n k ++ ((if k = 0 then [] else 44 :: gapL zs note (n + (2 * k - 1))) ++ ((ss.getD k .empty).data.toList ++ gapL zs note (n + 2 * k)))
def typL (t : Ty) (n : Nat) : List UInt8 := [116, 121, 112, 101, 32] ++ (gapL zs note n ++ (t.1.data.toList ++ (gapL zs note (n + 1) ++ (40 :: (gapL zs note (n + 2) ++ (attL zs note t.2 (n + 3) t.2.length ++ (41 :: gapL zs note (n + 3 + (2 * t.2.length - 1)))))))))
/-- The number of the gap ahead of the k-th type. -/
def numL (L : List Ty) : Nat → Nat
  | 0 => 1
  | k + 1 => numL L k + 3 + (2 * (L.getD k noTy).2.length - 1) + 1
def losL (L : List Ty) : Nat → List UInt8
  | 0 => gapL zs note 0
  | k + 1 => losL L k ++ typL zs note (L.getD k noTy) (numL L k)
/-- The attributes' pieces, without the last mark. -/
def aT : List ByteArray → List Pc
  | [] => []
  | [x] => [wS x]
  | x :: y :: r => wS x :: mT 44 :: aT (y :: r)
theorem aT_snoc : ∀ (ss : List ByteArray) (x : ByteArray), aT (ss ++ [x]) = aT ss ++ (if ss.length = 0 then [wS x] else [mT 44, wS x]) := by
  intro ss
  induction ss with
  | nil => intro x; rfl
  | cons y r ih =>
    intro x
    cases r with
    | nil => rfl
    | cons z r =>
      have := ih x
      rw [if_neg (by simp)] at this ⊢
      show wS y :: mT 44 :: aT ((z :: r) ++ [x]) = wS y :: mT 44 :: aT (z :: r) ++ [mT 44, wS x]
      rw [this]
      rfl
theorem aT_atoks : ∀ ss : List ByteArray, atoks ss = aT ss ++ [mT 41] := by
  intro ss
  induction ss with
  | nil => rfl
  | cons x r ih =>
    cases r with
    | nil => rfl
    | cons y r => show wS x :: mT 44 :: atoks (y :: r) = _; rw [ih]; rfl
theorem tkf_attL (ss : List ByteArray) (hs : ∀ x ∈ ss, nameB x = true) (n : Nat) : ∀ k, k ≤ ss.length → ∀ z, Nw z → tkf (attL zs note ss n k ++ z) = aT (ss.take k) ++ tkf z := by
  intro k
  induction k with
  | zero => intro _ z _; rfl
  | succ k ih =>
    intro hk z hz
    have hk' : k < ss.length := by omega
    have e1 : ss.getD k .empty = ss[k] := by simp [List.getD, List.getElem?_eq_getElem hk']
    obtain ⟨w0, w1⟩ := name_word (hs ss[k] (List.getElem_mem _))
    have hg := gap_blank zs note (n + 2 * k)
    have hw : tkf (ss[k].data.toList ++ (gapL zs note (n + 2 * k) ++ z)) = wS ss[k] :: tkf z := by
      rw [tkf_word2 _ _ w0 w1 (Nw.gap hg hz), hg.1]
      rfl
    rw [attL, e1, ← List.take_append_getElem hk', aT_snoc, List.append_assoc, List.append_assoc, List.append_assoc]
    by_cases h0 : k = 0
    · subst h0
      rw [if_pos rfl, if_pos (by simp)]
      show tkf (ss[0].data.toList ++ (gapL zs note (n + 2 * 0) ++ z)) = _
      rw [hw]
      rfl
    · rw [if_neg h0, if_neg (by rw [List.length_take]; omega)]
      have hg2 := gap_blank zs note (n + (2 * k - 1))
      rw [List.cons_append, ih (by omega) _ ⟨44, _, rfl, rfl⟩, tkf_mark 44 _ rfl (by decide) rfl, hg2.1, hw]
      simp
      rfl
theorem tkf_typL (t : Ty) (h1 : nameB t.1 = true) (h2 : ∀ x ∈ t.2, nameB x = true) (n : Nat) (z : List UInt8) : tkf (typL zs note t n ++ z) = ttok t ++ tkf z := by
  obtain ⟨w0, w1⟩ := name_word h1
  have e : typL zs note t n ++ z = [116, 121, 112, 101] ++ 32 :: (gapL zs note n ++ (t.1.data.toList ++ (gapL zs note (n + 1) ++ (40 :: (gapL zs note (n + 2) ++ (attL zs note t.2 (n + 3) t.2.length ++ (41 :: (gapL zs note (n + 3 + (2 * t.2.length - 1)) ++ z)))))))) := by
    unfold typL
    simp
  have ha := tkf_attL zs note t.2 h2 (n + 3) t.2.length (Nat.le_refl _) (41 :: (gapL zs note (n + 3 + (2 * t.2.length - 1)) ++ z)) ⟨41, _, rfl, rfl⟩
  rw [List.take_of_length_le (Nat.le_refl _)] at ha
  rw [e, tkf_word _ 32 _ (by decide) (by decide) rfl, tkf_blank 32 _ rfl, (gap_blank zs note n).1, tkf_word2 _ _ w0 w1 (Nw.gap (gap_blank zs note (n + 1)) ⟨40, _, rfl, rfl⟩), (gap_blank zs note (n + 1)).1, tkf_mark 40 _ rfl (by decide) rfl, (gap_blank zs note (n + 2)).1, ha, tkf_mark 41 _ rfl (by decide) rfl, (gap_blank zs note _).1]
  unfold ttok
  rw [aT_atoks]
  simp [wT_data, tyW, wS, wT, mT, bI]
theorem tkf_losL (L : List Ty) (h : ∀ t ∈ L, nameB t.1 = true ∧ ∀ x ∈ t.2, nameB x = true) : ∀ k, k ≤ L.length → ∀ z, tkf (losL zs note L k ++ z) = ((L.take k).map ttok).flatten ++ tkf z := by
  intro k
  induction k with
  | zero => intro _ z; exact (gap_blank zs note 0).1 z
  | succ k ih =>
    intro hk z
    have hk' : k < L.length := by omega
    have e1 : L.getD k noTy = L[k] := by simp [List.getD, List.getElem?_eq_getElem hk']
    obtain ⟨h1, h2⟩ := h L[k] (List.getElem_mem _)
    rw [losL, e1, List.append_assoc, ih (by omega), tkf_typL zs note _ h1 h2, ← List.take_append_getElem hk', List.map_append, List.flatten_append]
    simp only [List.map_cons, List.map_nil, List.flatten_cons, List.flatten_nil, List.append_nil, List.append_assoc]
/-- A loose text of a sound schema is read as the schema. -/
theorem los_toks {L : List Ty} (h : schE L = 0) : (rdS 17 [] (tkf (losL zs note L L.length))).2 = (L, 0) := by
  have ht := tkf_losL zs note L (sch_names h) L.length (Nat.le_refl _) []
  rw [List.append_nil, List.take_of_length_le (Nat.le_refl _), tkf_nil] at ht
  have := rdS_back L (sch_zero h).2.2 (sch_zero h).2.1 (sch_zero h).1 L.length 0 (by omega) 17 (by have := (sch_zero h).2.1; omega)
  rw [List.drop_zero, List.take_zero] at this
  rw [ht, this]
theorem attL_len (ss : List ByteArray) (n : Nat) (h16 : ∀ x ∈ ss, x.size ≤ 16) : ∀ k, k ≤ ss.length → (attL zs note ss n k).length ≤ k * (2 * note.size + 25) := by
  intro k
  induction k with
  | zero => intro _; simp [attL]
  | succ k ih =>
    intro hk
    have hk' : k < ss.length := by omega
    have e1 : ss.getD k .empty = ss[k] := by simp [List.getD, List.getElem?_eq_getElem hk']
    have h1 := ih (by omega)
    have h2 := h16 ss[k] (List.getElem_mem _)
    have h3 : ss[k].data.toList.length = ss[k].size := Array.length_toList
    have g1 := gap_len zs note (n + (2 * k - 1))
    have g2 := gap_len zs note (n + 2 * k)
    have e2 : (k + 1) * (2 * note.size + 25) = k * (2 * note.size + 25) + (2 * note.size + 25) := Nat.succ_mul _ _
    rw [attL, e1, e2]
    simp only [List.length_append]
    split <;> simp only [List.length_nil, List.length_cons] <;> omega
end

end Go.Proofs.YtkpnnofonocilaaDoor
