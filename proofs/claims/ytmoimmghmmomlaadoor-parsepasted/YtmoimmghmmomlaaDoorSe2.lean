/- A text, a line feed and another text: what Lex answers. -/
import Derived.Test.YtmoimmghmmomlaaDoorSe
namespace Go.Proofs.YtmoimmghmmomlaaDoor
open Go.RowKit
set_option linter.unusedVariables false
set_option linter.unusedSimpArgs false

theorem app_size (a c : ByteArray) : (a ++ c).size = a.size + c.size := by simp
theorem app_lt (a c : ByteArray) (i : Nat) (h : i < a.size) : bt (a ++ c) i = bt a i := by
  unfold bt
  have h1 : i < a.data.size := h
  rw [Array.getD_eq_getD_getElem?, Array.getD_eq_getD_getElem?, ByteArray.data_append, Array.getElem?_append_left h1]
theorem app_ge (a c : ByteArray) (i : Nat) : bt (a ++ c) (a.size + i) = bt c i := by
  unfold bt
  have h1 : a.data.size ≤ a.size + i := Nat.le_add_right _ _
  rw [Array.getD_eq_getD_getElem?, Array.getD_eq_getD_getElem?, ByteArray.data_append, Array.getElem?_append_right h1]
  have h2 : a.size + i - a.data.size = i := Nat.add_sub_cancel_left _ _
  rw [h2]
theorem app_ext_lt (a c : ByteArray) (i j : Nat) (h : j ≤ a.size) : (a ++ c).extract i j = a.extract i j := by
  apply ByteArray.ext
  rw [ByteArray.data_extract, ByteArray.data_extract, ByteArray.data_append]
  apply Array.ext
  · have h1 : a.data.size = a.size := rfl
    simp only [Array.size_extract, Array.size_append]
    omega
  · intro k h1 h2
    have h3 : a.data.size = a.size := rfl
    simp only [Array.size_extract] at h1 h2
    rw [Array.getElem_extract, Array.getElem_extract, Array.getElem_append_left]
theorem app_ext_ge (a c : ByteArray) (i j : Nat) : (a ++ c).extract (a.size + i) (a.size + j) = c.extract i j := by
  apply ByteArray.ext
  rw [ByteArray.data_extract, ByteArray.data_extract, ByteArray.data_append]
  have h3 : a.data.size = a.size := rfl
  apply Array.ext
  · simp only [Array.size_extract, Array.size_append]
    omega
  · intro k h1 h2
    simp only [Array.size_extract, Array.size_append] at h1 h2
    rw [Array.getElem_extract, Array.getElem_extract, Array.getElem_append_right (by omega)]
    congr 1
    omega
def nlS : ByteArray := ⟨#[10]⟩
theorem nl_size : nlS.size = 1 := rfl
theorem seam_cut (a b : ByteArray) : Cut a (a ++ nlS ++ b) a.size := by
  have hs : (a ++ nlS ++ b).size = a.size + 1 + b.size := by rw [app_size, app_size, nl_size]
  refine ⟨by omega, Nat.le_refl _, fun i hi => ?_, fun i j _ hj => ?_, .inr ?_⟩
  · rw [app_lt _ b i (by rw [app_size]; omega), app_lt a nlS i hi]
  · rw [app_ext_lt _ b i j (by rw [app_size]; omega), app_ext_lt a nlS i j hj]
  · have h10 : bt (a ++ nlS ++ b) a.size = 10 := by
      rw [app_lt _ b a.size (by rw [app_size, nl_size]; omega)]
      have := app_ge a nlS 0
      rw [Nat.add_zero] at this
      rw [this]
      rfl
    rw [h10]
    exact ⟨by decide, rfl⟩
theorem seam_inn (a b : ByteArray) : Inn b (a ++ nlS ++ b) (a.size + 1) := by
  have h1 : (a ++ nlS).size = a.size + 1 := by rw [app_size, nl_size]
  refine ⟨by rw [app_size, h1], fun i hi => ?_, fun i j _ _ => ?_⟩
  · rw [← h1]; exact app_ge _ _ _
  · rw [← h1]; exact app_ext_ge _ _ _ _
theorem seam (a b : ByteArray) (h : a.size + 1 + b.size ≤ 8192) :
    (∃ c p, c ≠ 0 ∧ lexO a = ([], c, p) ∧ lexO (a ++ nlS ++ b) = ([], c, p)) ∨
    (∃ l, lexO a = (l, 0, 0) ∧ ((∃ c q, c ≠ 0 ∧ lexO b = ([], c, q) ∧ (l = [] → lexO (a ++ nlS ++ b) = ([], c, a.size + 1 + q))) ∨
      (∃ m, lexO b = (m, 0, 0) ∧ ((l.length + m.length ≤ 400 ∧ lexO (a ++ nlS ++ b) = (l ++ shL (a.size + 1) m, 0, 0)) ∨ (400 < l.length + m.length ∧ ∃ p, lexO (a ++ nlS ++ b) = ([], 34, p)))))) := by
  have hs : (a ++ nlS ++ b).size = a.size + 1 + b.size := by rw [app_size, app_size, nl_size]
  have C := seam_cut a b
  have I := seam_inn a b
  generalize a ++ nlS ++ b = t at *
  have ht : t.size ≤ 8192 := by omega
  rcases lexO_ways (s := a) (by omega) with ⟨l, hP, he⟩ | ⟨q, us, hP, hq, hn, he⟩
  · right
    refine ⟨l, he, ?_⟩
    have hl4 : l.length ≤ 400 := by have := lexO_len a; rw [he] at this; exact this
    have h10 : bt t a.size = 10 := by
      rcases C.stop with h1 | h1
      · omega
      · exact h1.2
    have hP1 : Path t 0 [] a.size l := hP.cut C (Nat.le_refl _)
    have hst : stI t a.size = 0 := by unfold stI; rw [h10]; rfl
    have hP2 : Path t 0 [] (a.size + 1) l := hP1.trans (.step _ _ _ _ _ _ (by omega) (by unfold nxt; rw [if_pos hst]) (.here _ _))
    rcases lexO_ways (s := b) (by omega) with ⟨m, hPb, heb⟩ | ⟨q, us, hPb, hq, hn, heb⟩
    · right
      refine ⟨m, heb, ?_⟩
      by_cases h4 : l.length + m.length ≤ 400
      · left
        refine ⟨h4, lexO_path ht ?_⟩
        have h5 := hPb.inn I l h4
        rw [show shL (a.size + 1) [] = [] from rfl, List.append_nil, Nat.add_zero, ← hs] at h5
        exact hP2.trans h5
      · right
        refine ⟨by omega, ?_⟩
        obtain ⟨r, hr, hPr, h0, h4', h5, h6⟩ := hPb.tok2 (400 - l.length) (Nat.zero_le _) (by omega)
        have hlen : (m.take (400 - l.length)).length = 400 - l.length := by rw [List.length_take]; omega
        have h7 := hPr.inn I l (by omega)
        rw [show shL (a.size + 1) [] = [] from rfl, List.append_nil, Nat.add_zero] at h7
        have hst2 := I.eSt hr
        obtain ⟨t1, t2, t3⟩ := I.eThing hr
        have hno : nxt t (a.size + 1 + r) (l ++ shL (a.size + 1) (m.take (400 - l.length))) = none := by
          unfold nxt
          rw [hst2, if_neg h0, if_neg h4', if_neg h5, t2, if_neg (by rw [h6]; decide), if_pos (by rw [List.length_append, shL_len]; omega)]
        refine ⟨a.size + 1 + r, ?_⟩
        rw [lexO_stop ht (hP2.trans h7) (by omega) hno]
        unfold errC
        rw [hst2, if_neg h5, t2, if_neg (by rw [h6]; decide)]
    · left
      refine ⟨errC b q, q, (errC_ne b q).1, heb, fun h0 => ?_⟩
      subst h0
      have hus : us.length ≤ 400 := by
        obtain ⟨bg, hb⟩ := hPb.run 0
        have h8 := lexA_len b (b.size - 0) 0 0 [] (by omega) (Nat.zero_le _)
        have h9 : lexR b (b.size - 0) 0 0 [] = (errC b q, q, us) := by
          show lexA b 0 0 [] = _
          rw [hb, lexA_none hq hn]
        rw [h9] at h8
        exact h8
      have h7 := hPb.inn I [] (by simpa using hus)
      rw [show shL (a.size + 1) [] = [] from rfl, List.append_nil, Nat.add_zero, List.nil_append] at h7
      obtain ⟨n1, n2⟩ := I.none (us := shL (a.size + 1) us) hq hn (shL_len _ _)
      rw [lexO_stop ht (hP2.trans h7) (by omega) n1, n2]
  · left
    obtain ⟨n1, n2⟩ := C.none rfl hq hn
    refine ⟨errC a q, q, (errC_ne a q).1, he, ?_⟩
    rw [lexO_stop ht (hP.cut C (by omega)) (by omega) n1, n2]

end Go.Proofs.YtmoimmghmmomlaaDoor
