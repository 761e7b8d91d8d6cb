/- A sound schema's text is read as the schema. -/
import Derived.Test.YtkpnnofonocilaaDoorRt
import Derived.Test.YtkpnnofonocilaaDoorTt
import Derived.Test.YtkpnnofonocilaaDoorChk4
namespace Go.Proofs.YtkpnnofonocilaaDoor
open Go.RowKit Go.BigFrame
set_option linter.unusedVariables false
set_option linter.unusedSimpArgs false

theorem drop_len (g : UInt8 → Bool) (l : List UInt8) : (l.dropWhile g).length ≤ l.length := (List.dropWhile_sublist g).length_le
theorem tk_fuel : ∀ (k n m : Nat) (l : List UInt8), l.length ≤ k → l.length ≤ n → l.length ≤ m → tk n l = tk m l := by
  intro k
  induction k with
  | zero =>
    intro n m l h0 h1 h2
    have : l = [] := List.eq_nil_of_length_eq_zero (by omega)
    subst this
    cases n <;> cases m <;> rfl
  | succ k ih =>
    intro n m l h0 h1 h2
    cases l with
    | nil => cases n <;> cases m <;> rfl
    | cons c r =>
      rw [List.length_cons] at h0 h1 h2
      cases n with
      | zero => omega
      | succ n =>
      cases m with
      | zero => omega
      | succ m =>
        have d1 := drop_len nB r
        have d2 := drop_len wB r
        rw [tk, tk, ih n m r (by omega) (by omega) (by omega), ih n m (r.dropWhile nB) (by omega) (by omega) (by omega), ih n m (r.dropWhile wB) (by omega) (by omega) (by omega)]
def tkf (l : List UInt8) : List Pc := tk l.length l
theorem tkf_nil : tkf [] = [eT] := rfl
theorem tkf_blank (c : UInt8) (r : List UInt8) (h : blkB (bI c) = true) : tkf (c :: r) = tkf r := tk_blank _ c r h
theorem tkf_mark (c : UInt8) (r : List UInt8) (h : blkB (bI c) = false) (h1 : bI c ≠ 35) (h2 : wB c = false) : tkf (c :: r) = mT (bI c) :: tkf r := tk_mark _ c r h h1 h2
theorem tkf_word (l : List UInt8) (d : UInt8) (z : List UInt8) (h0 : l ≠ []) (hw : ∀ x ∈ l, wB x = true) (hd : wB d = false) : tkf (l ++ d :: z) = wT l :: tkf (d :: z) := by
  cases l with
  | nil => exact absurd rfl h0
  | cons c r =>
    show tk ((r ++ d :: z).length + 1) (c :: r ++ d :: z) = _
    rw [tk_word _ c r d z hw hd, tk_fuel _ _ (d :: z).length (d :: z) (Nat.le_refl _) (by simp) (Nat.le_refl _)]
    rfl
def wS (x : ByteArray) : Pc := ⟨0, x, 0, 0⟩
theorem wT_data (x : ByteArray) : wT x.data.toList = wS x := rfl
theorem name_word {x : ByteArray} (h : nameB x = true) : x.data.toList ≠ [] ∧ ∀ c ∈ x.data.toList, wB c = true := by
  obtain ⟨h1, h2, h3, h4, h5⟩ := of_decide_eq_true h
  have hl : x.data.toList.length = x.size := Array.length_toList
  refine ⟨fun e => by rw [e] at hl; simp at hl; omega, fun c hc => ?_⟩
  obtain ⟨j, hj, rfl⟩ := List.mem_iff_getElem.1 hc
  have h := h3 j (by omega)
  have h' := at_byte x j (by omega)
  rw [h'] at h
  exact h
theorem name_may {x : ByteArray} (h : nameB x = true) : (wS x).may = true := by
  obtain ⟨h1, h2, h3, h4, h5⟩ := of_decide_eq_true h
  unfold Pc.may wS
  rw [h4]
  rfl
def atoks : List ByteArray → List Pc
  | [] => [mT 41]
  | [x] => [wS x, mT 41]
  | x :: y :: r => wS x :: mT 44 :: atoks (y :: r)
theorem joinT_two (x y : ByteArray) (r : List ByteArray) : joinT (x :: y :: r) = x.data.toList ++ 44 :: 32 :: joinT (y :: r) := by
  unfold joinT
  rw [List.map_cons, Lib.join_cons, List.map_cons, Lib.join_cons]
  simp [Lib.joinTail]
theorem joinT_one (x : ByteArray) : joinT [x] = x.data.toList := by
  unfold joinT
  rw [List.map_cons, Lib.join_cons]
  simp [Lib.joinTail]
theorem tkf_join : ∀ (ss : List ByteArray), (∀ x ∈ ss, nameB x = true) → ∀ z, tkf (joinT ss ++ 41 :: z) = atoks ss ++ tkf z := by
  intro ss
  induction ss with
  | nil => intro h z; exact tkf_mark 41 z rfl (by decide) rfl
  | cons x r ih =>
    intro h z
    obtain ⟨w0, w1⟩ := name_word (h x (by simp))
    cases r with
    | nil =>
      rw [joinT_one, tkf_word _ 41 z w0 w1 rfl, tkf_mark 41 z rfl (by decide) rfl]
      rfl
    | cons y r =>
      rw [joinT_two, List.append_assoc, List.cons_append, List.cons_append, tkf_word _ 44 _ w0 w1 rfl, tkf_mark 44 _ rfl (by decide) rfl, tkf_blank 32 _ rfl, ih (fun a ha => h a (by simp [ha])) z]
      rfl
def ttok (t : Ty) : List Pc := wS tyW :: wS t.1 :: mT 40 :: atoks t.2
theorem tkf_type (t : Ty) (h1 : nameB t.1 = true) (h2 : ∀ x ∈ t.2, nameB x = true) (z : List UInt8) : tkf (typeT t ++ z) = ttok t ++ tkf z := by
  obtain ⟨w0, w1⟩ := name_word h1
  have e : typeT t ++ z = [116, 121, 112, 101] ++ 32 :: (t.1.data.toList ++ 40 :: (joinT t.2 ++ 41 :: 10 :: z)) := by
    unfold typeT
    simp
  rw [e, tkf_word _ 32 _ (by decide) (by decide) rfl, tkf_blank 32 _ rfl, tkf_word _ 40 _ w0 w1 rfl, tkf_mark 40 _ rfl (by decide) rfl, tkf_join _ h2, tkf_blank 10 _ rfl]
  rfl
theorem textU_flat (L : List Ty) : ∀ k, k ≤ L.length → textU L k = ((L.take k).map typeT).flatten := by
  intro k
  induction k with
  | zero => intro _; rfl
  | succ k ih =>
    intro h
    have e1 : L.getD k noTy = L[k]'(by omega) := by simp [List.getD, List.getElem?_eq_getElem (show k < L.length by omega)]
    rw [textU, ih (by omega), e1, ← List.take_append_getElem (show k < L.length by omega), List.map_append, List.flatten_append]
    simp only [List.map_cons, List.map_nil, List.flatten_cons, List.flatten_nil, List.append_nil]
theorem tkf_text : ∀ (L : List Ty), (∀ t ∈ L, nameB t.1 = true ∧ ∀ x ∈ t.2, nameB x = true) → ∀ z, tkf ((L.map typeT).flatten ++ z) = (L.map ttok).flatten ++ tkf z := by
  intro L
  induction L with
  | nil => intro _ z; rfl
  | cons t r ih =>
    intro h z
    obtain ⟨h1, h2⟩ := h t (by simp)
    rw [List.map_cons, List.flatten_cons, List.append_assoc, tkf_type t h1 h2, ih (fun a ha => h a (by simp [ha])), List.map_cons, List.flatten_cons, List.append_assoc]

theorem attr_zero {A : List ByteArray} {k : Nat} (h : attrE A k = 0) : nameB (A.getD k .empty) = true ∧ atE (A.take k) (A.getD k .empty) = 0 := by
  refine ⟨?_, h⟩
  cases e : nameB (A.getD k .empty)
  · exfalso; unfold attrE at h; rw [e] at h; simp at h
  · rfl
theorem hd_cons (p : Pc) (l : List Pc) : hd (p :: l) = p := rfl
theorem rdL_back (A : List ByteArray) (hA : ∀ k, k < A.length → attrE A k = 0) (h8 : A.length ≤ 8) : ∀ m k, k + m + 1 = A.length → ∀ n, m < n → ∀ z, rdL n (A.take k) (atoks (A.drop k) ++ z) = (z, A, 0) := by
  intro m
  induction m with
  | zero =>
    intro k hk n hn z
    obtain ⟨n, rfl⟩ : ∃ j, n = j + 1 := ⟨n - 1, by omega⟩
    obtain ⟨a1, a2⟩ := attr_zero (hA k (by omega))
    have e1 : A.getD k .empty = A[k]'(by omega) := by simp [List.getD, List.getElem?_eq_getElem (show k < A.length by omega)]
    have e2 : A.drop k = [A[k]'(by omega)] := by
      rw [List.drop_eq_getElem_cons (by omega), List.drop_eq_nil_of_le (by omega)]
    rw [e1] at a1 a2
    have hT : rdT (A.take k) (wS (A[k]'(by omega))) = 0 := by
      unfold rdT
      rw [name_may a1, if_neg (by decide), if_neg (by rw [List.length_take]; omega)]
      exact a2
    rw [e2]
    show rdL (n + 1) (A.take k) (wS (A[k]'(by omega)) :: mT 41 :: z) = _
    rw [rdL]
    rw [if_neg (show ¬ (rdT (A.take k) (hd (wS (A[k]'(by omega)) :: mT 41 :: z)) ≠ 0) from fun h => h hT), if_pos (show (hd (wS (A[k]'(by omega)) :: mT 41 :: z).tail).isM 41 = true from rfl)]
    show (z, A.take k ++ [A[k]'(by omega)], (0 : Int)) = _
    rw [List.take_append_getElem (by omega), List.take_of_length_le (by omega)]
  | succ m ih =>
    intro k hk n hn z
    obtain ⟨n, rfl⟩ : ∃ j, n = j + 1 := ⟨n - 1, by omega⟩
    obtain ⟨a1, a2⟩ := attr_zero (hA k (by omega))
    have e1 : A.getD k .empty = A[k]'(by omega) := by simp [List.getD, List.getElem?_eq_getElem (show k < A.length by omega)]
    have e2 : A.drop k = A[k]'(by omega) :: A[k + 1]'(by omega) :: A.drop (k + 2) := by
      rw [List.drop_eq_getElem_cons (by omega), List.drop_eq_getElem_cons (by omega)]
    have e3 : A.drop (k + 1) = A[k + 1]'(by omega) :: A.drop (k + 2) := List.drop_eq_getElem_cons (by omega)
    rw [e1] at a1 a2
    have hT : rdT (A.take k) (wS (A[k]'(by omega))) = 0 := by
      unfold rdT
      rw [name_may a1, if_neg (by decide), if_neg (by rw [List.length_take]; omega)]
      exact a2
    have hi := ih (k + 1) (by omega) n (by omega) z
    rw [e3] at hi
    rw [e2]
    show rdL (n + 1) (A.take k) (wS (A[k]'(by omega)) :: mT 44 :: (atoks (A[k + 1]'(by omega) :: A.drop (k + 2)) ++ z)) = _
    rw [rdL]
    generalize hz : atoks (A[k + 1]'(by omega) :: A.drop (k + 2)) ++ z = y at hi ⊢
    rw [if_neg (show ¬ (rdT (A.take k) (hd (wS (A[k]'(by omega)) :: mT 44 :: y)) ≠ 0) from fun h => h hT), if_neg (show ¬ (hd (wS (A[k]'(by omega)) :: mT 44 :: y).tail).isM 41 = true by show ¬ (mT 44).isM 41 = true; decide), if_pos (show (hd (wS (A[k]'(by omega)) :: mT 44 :: y).tail).isM 44 = true from rfl)]
    show rdL n (A.take k ++ [A[k]'(by omega)]) y = _
    rw [← List.take_append_getElem (by omega)] at hi
    exact hi
theorem rdA_back (A : List ByteArray) (hA : ∀ k, k < A.length → attrE A k = 0) (h8 : A.length ≤ 8) (z : List Pc) : rdA (mT 40 :: (atoks A ++ z)) = (z, A, 0) := by
  unfold rdA
  rw [if_neg (show ¬ (hd (mT 40 :: (atoks A ++ z))).isM 40 = false by show ¬ (mT 40).isM 40 = false; decide)]
  cases A with
  | nil => rfl
  | cons x r =>
    have hh : (hd (atoks (x :: r) ++ z)).isM 41 = false := by cases r <;> rfl
    have := rdL_back (x :: r) hA h8 r.length 0 (by simp) 9 (by simp at h8; omega) z
    show (if (hd (atoks (x :: r) ++ z)).isM 41 = true then _ else rdL 9 [] (atoks (x :: r) ++ z)) = _
    rw [hh, if_neg (by decide)]
    exact this
theorem type_zero {L : List Ty} {i : Nat} (h : typeE L i = 0) : nameE (L.take i) (L.getD i noTy).1 = 0 ∧ nameB (L.getD i noTy).1 = true ∧ (L.getD i noTy).2.length ≤ 8 ∧ ∀ k, k < (L.getD i noTy).2.length → attrE (L.getD i noTy).2 k = 0 := by
  unfold typeE typeF at h
  split at h
  · rename_i h2; exact absurd h h2
  rename_i h2
  split at h
  · exact absurd h (by decide)
  rename_i h8
  refine ⟨Classical.not_not.1 h2, ?_, by omega, fun k hk => firstE_zero _ _ h k hk⟩
  cases e : nameB (L.getD i noTy).1
  · exfalso; apply h2; unfold nameE; rw [e, if_pos rfl]; decide
  · rfl
theorem rdD_back (L0 : List Ty) (t : Ty) (hl : L0.length ≠ 16) (h0 : nameE L0 t.1 = 0) (h1 : nameB t.1 = true) (h8 : t.2.length ≤ 8) (hA : ∀ k, k < t.2.length → attrE t.2 k = 0) (z : List Pc) : rdD L0 (ttok t ++ z) = (z, L0 ++ [t], 0) := by
  unfold rdD
  have ha := rdA_back t.2 hA h8 z
  show (if (wS tyW).isW tyW = false then _ else if L0.length = 16 then _ else if (wS t.1).may = false then _ else if nameE L0 t.1 ≠ 0 then _ else if (rdA (mT 40 :: (atoks t.2 ++ z))).2.2 ≠ 0 then _ else ((rdA (mT 40 :: (atoks t.2 ++ z))).1, L0 ++ [(t.1, (rdA (mT 40 :: (atoks t.2 ++ z))).2.1)], (0 : Int))) = _
  have ht : (wS tyW).isW tyW = true := by unfold Pc.isW wS; simp
  rw [ht, if_neg (by decide), if_neg hl, name_may h1, if_neg (by decide), h0, if_neg (by decide), ha, if_neg (fun h => h rfl)]
theorem rdS_back (L : List Ty) (hL : ∀ i, i < L.length → typeE L i = 0) (h16 : L.length ≤ 16) (hne : L.length ≠ 0) : ∀ m k, k + m = L.length → ∀ n, m < n → rdS n (L.take k) (((L.drop k).map ttok).flatten ++ [eT]) = ([eT], L, 0) := by
  intro m
  induction m with
  | zero =>
    intro k hk n hn
    obtain ⟨n, rfl⟩ : ∃ j, n = j + 1 := ⟨n - 1, by omega⟩
    rw [List.drop_eq_nil_of_le (by omega), List.take_of_length_le (by omega)]
    show rdS (n + 1) L [eT] = _
    rw [rdS, if_pos (show (hd [eT]).k = 2 from rfl), if_neg hne]
  | succ m ih =>
    intro k hk n hn
    obtain ⟨n, rfl⟩ : ∃ j, n = j + 1 := ⟨n - 1, by omega⟩
    have e1 : L.getD k noTy = L[k]'(by omega) := by simp [List.getD, List.getElem?_eq_getElem (show k < L.length by omega)]
    obtain ⟨t0, t1, t8, tA⟩ := type_zero (hL k (by omega))
    rw [e1] at t0 t1 t8 tA
    have hi := ih (k + 1) (by omega) n (by omega)
    rw [List.drop_eq_getElem_cons (show k < L.length by omega), List.map_cons, List.flatten_cons, List.append_assoc]
    have hD := rdD_back (L.take k) (L[k]'(by omega)) (by rw [List.length_take]; omega) t0 t1 t8 tA (((L.drop (k + 1)).map ttok).flatten ++ [eT])
    rw [rdS, if_neg (show ¬ (hd (ttok (L[k]'(by omega)) ++ (((L.drop (k + 1)).map ttok).flatten ++ [eT]))).k = 2 by show ¬ (0 : Int) = 2; decide), hD, if_neg (fun h => h rfl)]
    show rdS n (L.take k ++ [L[k]'(by omega)]) _ = _
    rw [List.take_append_getElem (by omega)]
    exact hi
theorem sch_zero {L : List Ty} (h : schE L = 0) : L.length ≠ 0 ∧ L.length ≤ 16 ∧ ∀ i, i < L.length → typeE L i = 0 := by
  unfold schE at h
  split at h
  · exact absurd h (by decide)
  · rename_i h0
    exact ⟨by omega, by omega, fun i hi => firstE_zero _ _ h i hi⟩
theorem sch_names {L : List Ty} (h : schE L = 0) : ∀ t ∈ L, nameB t.1 = true ∧ ∀ x ∈ t.2, nameB x = true := by
  intro t ht
  obtain ⟨j, hj, rfl⟩ := List.mem_iff_getElem.1 ht
  obtain ⟨t0, t1, t8, tA⟩ := type_zero ((sch_zero h).2.2 j hj)
  have e1 : L.getD j noTy = L[j] := by simp [List.getD, List.getElem?_eq_getElem hj]
  rw [e1] at t0 t1 t8 tA
  refine ⟨t1, fun x hx => ?_⟩
  obtain ⟨i, hi, rfl⟩ := List.mem_iff_getElem.1 hx
  have := (attr_zero (tA i hi)).1
  simpa [List.getD, List.getElem?_eq_getElem hi] using this
/-- What a text's pieces are read as, by its bytes. -/
theorem scO_tkf (s : ByteArray) (hs : s.size ≤ 4096) (L : List Ty) (h : (rdS 17 [] (tkf s.data.toList)).2 = (L, 0)) : scO s = (L, 0, 0) := by
  rw [← scR_eq]
  unfold scR
  rw [if_neg (by omega)]
  have hc := cut_tk s s.size 0 (by omega) (by omega)
  rw [List.drop_zero] at hc
  have hl : s.data.toList.length = s.size := Array.length_toList
  have hr := rdS_even 17 [] _ _ hc
  unfold rdO
  have e : (rdS 17 [] (refL s (cutL s s.size 0))).2 = (L, 0) := by
    rw [hr.1]
    unfold tkf at h
    rw [hl] at h
    exact h
  rw [e, if_neg (fun h => h rfl)]
theorem text_toks {L : List Ty} (h : schE L = 0) : (rdS 17 [] (tkf (textU L L.length))).2 = (L, 0) := by
  have hf := textU_flat L L.length (Nat.le_refl _)
  rw [List.take_of_length_le (Nat.le_refl _)] at hf
  have ht := tkf_text L (sch_names h) []
  rw [List.append_nil, ← hf, tkf_nil] at ht
  have := rdS_back L (sch_zero h).2.2 (sch_zero h).2.1 (sch_zero h).1 L.length 0 (by omega) 17 (by have := (sch_zero h).2.1; omega)
  rw [List.drop_zero, List.take_zero] at this
  rw [ht, this]

end Go.Proofs.YtkpnnofonocilaaDoor
