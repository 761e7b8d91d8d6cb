/- Tokens that are written with gaps between them, and what Lex makes of the text. -/
import Derived.Test.YtlcmfefcammklabDoorBk4
namespace Go.Proofs.YtlcmfefcammklabDoor
open Go.RowKit Go.BigFrame
set_option linter.unusedVariables false
set_option linter.unusedSimpArgs false

/-- What may stand between two tokens. -/
def gapl : List (List UInt8) := [[32], [10], [9], [13], [32, 32, 10], [32, 35, 32, 120, 10], [35, 10], [35, 0, 255, 35, 34, 97, 32, 98, 10], [13, 10], [32, 35, 13, 10], [10, 35, 33, 61, 32, 49, 50, 97, 98, 10], [9, 32]]
def gp (j : Nat) : ByteArray := ⟨(gapl.getD j []).toArray⟩
def GpAt (w : World) : Prop := 0 < w.heap.size ∧ ∀ j, j < 12 → w.cell? ⟨0, j, none⟩ = some (.string (gp j))
theorem GpAt.keep {w u : World} (h : GpAt w) (G : Below w.heap.size w u) : GpAt u :=
  ⟨Nat.lt_of_lt_of_le h.1 G.size, fun j hj => (G.cell (p := ⟨_, j, none⟩) h.1).trans (h.2 j hj)⟩
theorem gp_len : gapl.length = 12 := rfl
theorem gpAt_of {W : World} (h : ∀ i bs, gapl[i]? = some bs → W.cell? ⟨0, i, none⟩ = some (.string ⟨bs.toArray⟩)) : GpAt W := by
  have hc : ∀ j, j < 12 → W.cell? ⟨0, j, none⟩ = some (.string (gp j)) := fun j hj => by
    have hl : j < gapl.length := by rw [gp_len]; exact hj
    rw [h j gapl[j] (List.getElem?_eq_getElem hl)]
    simp [gp, List.getD, List.getElem?_eq_getElem hl]
  exact ⟨lt_of_cell (hc 0 (by omega)), hc⟩
theorem gap_facts (j : Nat) (h : j < 12) : gq false (gapl.getD j []) = true ∧ (∃ c r, gapl.getD j [] = c :: r ∧ enB (c.toNat : Int)) ∧ (gapl.getD j []).length ≤ 10 := by
  rcases (show j = 0 ∨ j = 1 ∨ j = 2 ∨ j = 3 ∨ j = 4 ∨ j = 5 ∨ j = 6 ∨ j = 7 ∨ j = 8 ∨ j = 9 ∨ j = 10 ∨ j = 11 from by omega) with rfl | rfl | rfl | rfl | rfl | rfl | rfl | rfl | rfl | rfl | rfl | rfl
  all_goals exact ⟨by decide, ⟨_, _, rfl, by unfold enB; decide⟩, by decide⟩
/-- The number of the gap ahead of token i. -/
def gV (zs : List Int) (i : Nat) : Int := if 0 < zs.length then zs.getD (i % zs.length) 0 else 0
def gI (zs : List Int) (i : Nat) : Nat := if gV zs i < 0 ∨ 12 ≤ gV zs i then 0 else (gV zs i).toNat
theorem gI_lt (zs : List Int) (i : Nat) : gI zs i < 12 := by
  unfold gI
  split <;> omega
def gB (zs : List Int) (i : Nat) : List UInt8 := gapl.getD (gI zs i) []
theorem gB_size (zs : List Int) (i : Nat) : (gp (gI zs i)).size = (gB zs i).length := size_txt _
/-- The place ahead of gap k. -/
def stB (cs : List Tok) (zs : List Int) : Nat → Nat
  | 0 => 0
  | k + 1 => stB cs zs k + (gB zs k).length + (spS (cs.getD k noTok)).size
def plG (cs : List Tok) (zs : List Int) (i : Nat) : Tok := tA (cs.getD i noTok) ((stB cs zs i + (gB zs i).length : Nat) : Int)
/-- A token as it may be written. -/
def okX (t : Tok) (l : List UInt8) : Prop := if 30 ≤ t.k then l.length = (spS t).size ∧ ∀ i, i < (spS t).size → upB (l.getD i 0) = (spS t).data.getD i 0 else l = (spS t).data.toList
theorem okX_len {t : Tok} {l : List UInt8} (h : okX t l) : l.length = (spS t).size := by
  unfold okX at h
  split at h
  · exact h.1
  · rw [h]; exact Array.length_toList
/-- The text of the first k tokens. -/
def Wr (cs : List Tok) (zs : List Int) (k : Nat) (l : List UInt8) : Prop := ∃ x : Nat → List UInt8, l = txt (gB zs) x k ∧ ∀ i, i < k → okX (cs.getD i noTok) (x i)
theorem txt_congr (g x y : Nat → List UInt8) : ∀ k, (∀ i, i < k → x i = y i) → txt g x k = txt g y k := by
  intro k
  induction k with
  | zero => intro _; rfl
  | succ k ih =>
    intro h
    show txt g x k ++ g k ++ x k = txt g y k ++ g k ++ y k
    rw [ih (fun i hi => h i (by omega)), h k (by omega)]
theorem Wr.nil (cs : List Tok) (zs : List Int) : Wr cs zs 0 [] := ⟨fun _ => [], rfl, fun i hi => by omega⟩
theorem Wr.more {cs : List Tok} {zs : List Int} {k : Nat} {l l2 : List UInt8} (h : Wr cs zs k l) (h2 : okX (cs.getD k noTok) l2) : Wr cs zs (k + 1) (l ++ gB zs k ++ l2) := by
  obtain ⟨x, rfl, hx⟩ := h
  refine ⟨fun i => if i = k then l2 else x i, ?_, fun i hi => ?_⟩
  · show _ = txt _ _ k ++ gB zs k ++ (if k = k then l2 else x k)
    rw [if_pos rfl, txt_congr (gB zs) (fun i => if i = k then l2 else x i) x k (fun i hi => if_neg (by omega))]
  · dsimp only
    by_cases e : i = k
    · rw [if_pos e, e]; exact h2
    · rw [if_neg e]; exact hx i (by omega)
theorem Wr.len {cs : List Tok} {zs : List Int} : ∀ {k : Nat} {x : Nat → List UInt8}, (∀ i, i < k → okX (cs.getD i noTok) (x i)) → (txt (gB zs) x k).length = stB cs zs k := by
  intro k
  induction k with
  | zero => intro x _; rfl
  | succ k ih =>
    intro x h
    show (txt (gB zs) x k ++ gB zs k ++ x k).length = stB cs zs k + (gB zs k).length + (spS (cs.getD k noTok)).size
    rw [List.length_append, List.length_append, ih (fun i hi => h i (by omega)), okX_len (h k (by omega))]
theorem kw_letters (j : Nat) (h : j < 27) : ∀ t, t < (kw j).size → 65 ≤ ((kw j).data.getD t 0).toNat ∧ ((kw j).data.getD t 0).toNat ≤ 90 := by
  rcases (show j = 0 ∨ j = 1 ∨ j = 2 ∨ j = 3 ∨ j = 4 ∨ j = 5 ∨ j = 6 ∨ j = 7 ∨ j = 8 ∨ j = 9 ∨ j = 10 ∨ j = 11 ∨ j = 12 ∨ j = 13 ∨ j = 14 ∨ j = 15 ∨ j = 16 ∨ j = 17 ∨ j = 18 ∨ j = 19 ∨ j = 20 ∨ j = 21 ∨ j = 22 ∨ j = 23 ∨ j = 24 ∨ j = 25 ∨ j = 26 from by omega) with rfl | rfl | rfl | rfl | rfl | rfl | rfl | rfl | rfl | rfl | rfl | rfl | rfl | rfl | rfl | rfl | rfl | rfl | rfl | rfl | rfl | rfl | rfl | rfl | rfl | rfl | rfl <;> decide
theorem upB_letter {c : UInt8} (h : 65 ≤ (upB c).toNat ∧ (upB c).toNat ≤ 90) : ltB (c.toNat : Int) = true := by
  unfold upB at h
  simp only [ltB, decide_eq_true_eq]
  split at h <;> omega
/-- A keyword in letters of any case. -/
theorem At.cased {s : ByteArray} {p : Nat} {x : ByteArray} {j : Nat} (hj : j < 27) (h : At s p x) (hs : x.size = (kw j).size) (hu : ∀ i, i < (kw j).size → upB (x.data.getD i 0) = (kw j).data.getD i 0) : stI s p = 1 ∧ thing s p = (p + x.size, ⟨30 + (j : Int), ⟨#[]⟩, 0, p⟩, 0) := by
  obtain ⟨f1, f2, f3, f4⟩ := kw_first j hj
  have hlt : ∀ i, i < x.size → ltB (Go.Proofs.YtlcmfefcammklabDoor.bt x i) = true := fun i hi => by
    unfold Go.Proofs.YtlcmfefcammklabDoor.bt
    apply upB_letter
    rw [hu i (by omega)]
    exact kw_letters j hj i (by omega)
  have hup : upS x = kw j := by
    apply toList_inj
    have := wrB_true (s := x) (k := kw j) hs (fun i hi => hu i (by omega))
    exact this
  obtain ⟨e1, e2⟩ := h.word (by omega) (by omega) (hlt 0 (by omega)) (fun i hi => by unfold wdB; rw [hlt i hi]; rfl)
  refine ⟨e1, ?_⟩
  have hw : wordI x = 30 + (j : Int) := by
    rw [← wordI_kw j hj]
    unfold wordI wrB
    rw [hup, kw_up j hj]
  rw [e2, hw, if_neg (by omega)]

theorem loose_pure (cs : List Tok) (zs : List Int) (hc : ∀ k, k < cs.length → couldB (cs.getD k noTok) = true) (hn : ∀ k, (cs.getD k noTok).n ≤ 9223372036854775807) (k : Nat) (hk : k ≤ cs.length) (hl : cs.length ≤ 400) (l : List UInt8) (hW : Wr cs zs k l) (hsz : stB cs zs k ≤ 8192) :
    l.length = stB cs zs k ∧ lexO ⟨l.toArray⟩ = ((markL (plG cs zs) cs k).take k, 0, 0) := by
  obtain ⟨x, rfl, hx⟩ := hW
  have hlen : (txt (gB zs) x k).length = stB cs zs k := Wr.len hx
  refine ⟨hlen, ?_⟩
  have hWl : ((markL (plG cs zs) cs k).take k).length = k := by rw [List.length_take, markL_len]; omega
  have hat : ∀ i, i < k → ((markL (plG cs zs) cs k).take k).getD i noTok = plG cs zs i := fun i hi => by
    rw [List.getD_eq_getElem?_getD, List.getElem?_take, if_pos hi, ← List.getD_eq_getElem?_getD]
    exact markL_at _ _ k i hi (by omega)
  generalize (markL (plG cs zs) cs k).take k = W at *
  subst hWl
  refine lexO_path (by rw [size_txt, hlen]; exact hsz) ?_
  have hP := Path.txt W (by omega) (gB zs) x ⟨(txt (gB zs) x W.length).toArray⟩ rfl (fun i _ => (gap_facts _ (gI_lt zs i)).1) (fun i _ _ => (gap_facts _ (gI_lt zs i)).2.1) (fun i hi p hp ha => ?_) W.length (Nat.le_refl _)
  · rw [List.take_length] at hP
    rw [size_txt]
    exact hP
  · have hxi := hx i hi
    have hli := okX_len hxi
    have hci := hc i (by omega)
    have hpl : (txt (gB zs) x i).length = stB cs zs i := Wr.len (fun j hj => hx j (by omega))
    rw [hat i hi]
    have hpa : (plG cs zs i).a = (p : Int) := by show ((stB cs zs i + (gB zs i).length : Nat) : Int) = _; rw [hp, hpl]
    by_cases h30 : 30 ≤ (cs.getD i noTok).k
    · unfold okX at hxi
      rw [if_pos h30] at hxi
      have hni := hn i
      unfold plG at hpa ⊢
      generalize cs.getD i noTok = t at *
      obtain ⟨tk, tx, tn, ta⟩ := t
      dsimp only at h30
      unfold couldB at hci
      dsimp only at hci
      rw [if_neg (by omega)] at hci
      by_cases n0 : tn ≠ 0
      · rw [if_pos n0] at hci; cases hci
      rw [if_neg n0, if_pos (show tk ≠ 1 by omega)] at hci
      obtain ⟨h1, h2⟩ := Bool.and_eq_true_iff.1 hci
      have h2' := of_decide_eq_true h2
      have n0' : tn = 0 := by omega
      subst n0'
      have htx : tx = ⟨#[]⟩ := toList_inj (by rw [show (⟨#[]⟩ : ByteArray).toList = [] from by rw [ByteArray.toList_eq]]; exact h1)
      obtain ⟨j, rfl⟩ : ∃ j : Nat, tk = 30 + (j : Int) := ⟨(tk - 30).toNat, by omega⟩
      have hj : j < 27 := by omega
      have hsp : spS ⟨30 + (j : Int), tx, 0, ta⟩ = kw j := by unfold spS; rw [if_neg (show ¬ 30 + (j : Int) = 1 by omega), if_neg (show ¬ 30 + (j : Int) = 2 by omega), if_neg (show ¬ (3 ≤ 30 + (j : Int) ∧ 30 + (j : Int) ≤ 21) by omega), if_pos (show 30 ≤ 30 + (j : Int) ∧ 30 + (j : Int) ≤ 56 by omega)]; congr 1; show (30 + (j : Int) - 30).toNat = j; omega
      rw [hsp] at hxi hli
      have hxs : (⟨(x i).toArray⟩ : ByteArray).size = (kw j).size := by rw [size_txt]; exact hli
      obtain ⟨e1, e2⟩ := ha.cased hj hxs (fun q hq => by
        have h9 := hxi.2 q hq
        rw [← h9]
        congr 1
        show (x i).toArray.getD q 0 = _
        rw [Array.getD_eq_getD_getElem?, List.getElem?_toArray, List.getD_eq_getElem?_getD])
      refine ⟨by rw [hli]; exact (kw_first j hj).2.1, .inl e1, ?_⟩
      rw [e2, size_txt, htx]
      have : ((p : Nat) : Int) = (tA ⟨30 + (j : Int), tx, 0, ta⟩ ((stB cs zs i + (gB zs i).length : Nat) : Int)).a := hpa.symm
      rw [this]
      rfl
    · unfold okX at hxi
      rw [if_neg h30] at hxi
      rw [hxi] at ha
      have hax : (⟨((spS (cs.getD i noTok)).data.toList).toArray⟩ : ByteArray) = spS (cs.getD i noTok) := by simp
      rw [hax] at ha
      rw [hli]
      exact At.tok (t := plG cs zs i) (by show couldB (tA _ _) = true; rw [couldB_tA]; exact hci) (hn i) hpa ha

end Go.Proofs.YtlcmfefcammklabDoor
