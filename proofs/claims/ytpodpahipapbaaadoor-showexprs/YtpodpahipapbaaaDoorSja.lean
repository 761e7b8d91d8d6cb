/- The document's answer for an expression: levels and operands. -/
import Derived.Test.YtpodpahipapbaaaDoorSij
namespace Go.Proofs.YtpodpahipapbaaaDoor
open Go.RowKit Go.BigFrame Go.Shelf Go.Proofs.YtpodpahipapbaaaDoor.Ev
set_option linter.unusedVariables false
set_option linter.unusedSimpArgs false

/-- The text of tokens. -/
def jT (ts : List Tok) : ByteArray := ⟨(joinU ts ts.length).toArray⟩
def blS : ByteArray := ⟨#[32]⟩
theorem joinU_pre (a b : List Tok) : ∀ k, k ≤ a.length → joinU (a ++ b) k = joinU a k := by
  intro k
  induction k with
  | zero => intro _; rfl
  | succ k ih =>
    intro hk
    show joinU (a ++ b) k ++ (if 0 < k then [32] else []) ++ (spS ((a ++ b).getD k noTok)).data.toList = joinU a k ++ (if 0 < k then [32] else []) ++ (spS (a.getD k noTok)).data.toList
    rw [ih (by omega), show (a ++ b).getD k noTok = a.getD k noTok by rw [List.getD_eq_getElem?_getD, List.getD_eq_getElem?_getD, List.getElem?_append_left (by omega)]]
theorem joinU_app (a b : List Tok) (ha : a ≠ []) : ∀ k, 0 < k → k ≤ b.length → joinU (a ++ b) (a.length + k) = joinU a a.length ++ [32] ++ joinU b k := by
  intro k
  have hl : 0 < a.length := List.length_pos_iff.2 ha
  induction k with
  | zero => intro h; omega
  | succ k ih =>
    intro _ hk
    show joinU (a ++ b) (a.length + k) ++ (if 0 < a.length + k then [32] else []) ++ (spS ((a ++ b).getD (a.length + k) noTok)).data.toList = joinU a a.length ++ [32] ++ (joinU b k ++ (if 0 < k then [32] else []) ++ (spS (b.getD k noTok)).data.toList)
    rw [if_pos (by omega), show (a ++ b).getD (a.length + k) noTok = b.getD k noTok by rw [List.getD_eq_getElem?_getD, List.getD_eq_getElem?_getD, List.getElem?_append_right (by omega), Nat.add_sub_cancel_left]]
    rcases Nat.eq_zero_or_pos k with h0 | h0
    · subst h0
      rw [Nat.add_zero, joinU_pre a b a.length (Nat.le_refl _)]
      simp [joinU]
    · rw [ih h0 (by omega), if_pos h0]
      simp [List.append_assoc]
theorem jT_app (a b : List Tok) (ha : a ≠ []) (hb : b ≠ []) : jT (a ++ b) = jT a ++ blS ++ jT b := by
  unfold jT
  rw [List.length_append, joinU_app a b ha b.length (List.length_pos_iff.2 hb) (Nat.le_refl _)]
  apply ByteArray.ext
  simp [blS, ByteArray.data_append]
theorem jT_one (t : Tok) : jT [t] = spS t := by
  unfold jT
  apply ByteArray.ext
  simp [joinU]
/-- What is told of a piece: its text, how many tokens, how deep. -/
def tdA (p : Pce) : Array Value := #[.string (jT p.ts), .int .i64 p.ts.length, .int .i64 p.d]
set_option maxRecDepth 100000 in
set_option maxHeartbeats 4000000 in
theorem refLevel_any (op : Int) (w : World) : Calls Tryd.prog 36 #[.int .i64 op] w fun e w' => e = .returned (.int .i64 (lvl op)) ∧ w = w' := by
  by_cases h : 12 ≤ op ∧ op ≤ 26
  · have hq : op = 12 ∨ op = 13 ∨ op = 14 ∨ op = 15 ∨ op = 16 ∨ op = 17 ∨ op = 18 ∨ op = 19 ∨ op = 20 ∨ op = 21 ∨ op = 22 ∨ op = 23 ∨ op = 24 ∨ op = 25 ∨ op = 26 := by omega
    rcases hq with rfl | rfl | rfl | rfl | rfl | rfl | rfl | rfl | rfl | rfl | rfl | rfl | rfl | rfl | rfl
    all_goals
      go_enter Tryd.func36, Tryd.ntmps36
      go_wp2
      go_ret
      exact ⟨rfl, rfl⟩
  · have hv : lvl op = 8 := by
      unfold lvl
      rw [if_neg (by omega), if_neg (by omega), if_neg (by omega), if_neg (by omega), if_neg (by omega), if_neg (by omega), if_neg (by omega)]
    rw [hv]
    have b1 : (op == 26) = false := beq_eq_false_iff_ne.2 (by omega)
    have b2 : (op == 25) = false := beq_eq_false_iff_ne.2 (by omega)
    have b3 : (op == 13) = false := beq_eq_false_iff_ne.2 (by omega)
    have b4 : (op == 14) = false := beq_eq_false_iff_ne.2 (by omega)
    have b5 : (op == 15) = false := beq_eq_false_iff_ne.2 (by omega)
    have b6 : (op == 12) = false := beq_eq_false_iff_ne.2 (by omega)
    have b7 : (op == 16) = false := beq_eq_false_iff_ne.2 (by omega)
    have b8 : (op == 17) = false := beq_eq_false_iff_ne.2 (by omega)
    have b9 : (op == 18) = false := beq_eq_false_iff_ne.2 (by omega)
    by_cases h2 : op < 12
    · have d1 : decide (19 ≤ op) = false := decide_eq_false (by omega)
      go_enter Tryd.func36, Tryd.ntmps36
      go_wp2
      go_ret
      exact ⟨rfl, rfl⟩
    · have d1 : 19 ≤ op := by omega
      have d3 : decide (op ≤ 24) = false := decide_eq_false (by omega)
      go_enter Tryd.func36, Tryd.ntmps36
      go_wp2
      go_ret
      exact ⟨rfl, rfl⟩
theorem jT_open (p : Pce) (hne : p.ts ≠ []) : jT (openP [fixP [3], p, fixP [4]]).ts = ⟨#[40, 32]⟩ ++ jT p.ts ++ ⟨#[32, 41]⟩ := by
  show jT (glueP [fixP [3], p, fixP [4]]).ts = _
  rw [(glue3 _ _ _).1, jT_app _ _ (by simp [fixP, fxL]) (by simp [fixP, fxL]), jT_app _ _ (by simp [fixP, fxL]) hne]
  rw [show (fixP [3]).ts = [tkK 3] from rfl, show (fixP [4]).ts = [tkK 4] from rfl, jT_one, jT_one, show spS (tkK 3) = ⟨#[40]⟩ from rfl, show spS (tkK 4) = ⟨#[41]⟩ from rfl]
  apply ByteArray.ext
  simp only [blS, ByteArray.data_append, Array.append_assoc]
  rw [show (#[40, 32] : Array UInt8) = #[40] ++ #[32] from rfl, show (#[32, 41] : Array UInt8) = #[32] ++ #[41] from rfl, Array.append_assoc]
theorem open_nums (p : Pce) (hd : 0 ≤ p.d) : ((openP [fixP [3], p, fixP [4]]).ts.length : Int) = (p.ts.length : Int) + 2 ∧ (openP [fixP [3], p, fixP [4]]).d = p.d + 1 := by
  have e := glue3 (fixP [3]) p (fixP [4])
  refine ⟨?_, ?_⟩
  · show ((glueP [fixP [3], p, fixP [4]]).ts.length : Int) = _
    rw [e.1, List.length_append, List.length_append, (fix_d [3]).2, (fix_d [4]).2]
    simp
    omega
  · show (glueP [fixP [3], p, fixP [4]]).d + 1 = _
    rw [e.2, (fix_d [3]).1, (fix_d [4]).1]
    unfold maxI
    repeat' split
    all_goals omega
set_option maxRecDepth 100000 in
set_option maxHeartbeats 4000000 in
theorem refOperand_any (p : Pce) (hne : p.ts ≠ []) (hl : p.ts.length ≤ 1000000) (hd : 0 ≤ p.d ∧ p.d ≤ 1000000) (hs : (jT p.ts).size ≤ 1000000000) (op need : Int) (w : World) :
    Calls Tryd.prog 35 #[.agg (tdA p), .int .i64 op, .int .i64 need] w fun e w' => e = .returned (.agg (tdA (if need ≤ lvl op then p else openP [fixP [3], p, fixP [4]]))) ∧ Below w.heap.size w w' := by
  have cL := refLevel_any op
  by_cases h : need ≤ lvl op
  · rw [if_pos h]
    unfold tdA
    go_enter Tryd.func35, Tryd.ntmps35
    go_wp2_with (go_at_call 36; (with_reducible refine (cL _).mono ?_); rintro e uL ⟨rfl, rfl⟩)
    exact bodyPost_ret (v := .agg #[.string (jT p.ts), .int .i64 p.ts.length, .int .i64 p.d]) (by simp [results, Tryd.results35, go_sem]) rfl ⟨rfl, galloc (galloc (Below.refl _ _) _) _⟩
  · rw [if_neg h]
    have h' : lvl op < need := by omega
    have dh : decide (need ≤ lvl op) = false := decide_eq_false h
    obtain ⟨n1, n2⟩ := open_nums p hd.1
    have hT : Hid (tdA (openP [fixP [3], p, fixP [4]]) = #[.string (⟨#[40, 32]⟩ ++ jT p.ts ++ ⟨#[32, 41]⟩), .int .i64 ((p.ts.length : Int) + 2), .int .i64 (p.d + 1)]) := by
      show tdA _ = _
      unfold tdA
      rw [jT_open p hne, n1, n2]
    clear n1 n2
    rw [show tdA p = #[.string (jT p.ts), .int .i64 p.ts.length, .int .i64 p.d] from rfl]
    generalize jT p.ts = x at *
    obtain ⟨m, hm⟩ : ∃ m, p.ts.length = m := ⟨_, rfl⟩
    rw [hm] at hl hT ⊢
    generalize p.d = d at *
    obtain ⟨hd0, hd1⟩ := hd
    clear hm hne
    go_enter Tryd.func35, Tryd.ntmps35
    go_wp2_with (go_at_call 36; (with_reducible refine (cL _).mono ?_); rintro e uL ⟨rfl, rfl⟩)
    exact bodyPost_ret (v := .agg #[.string (⟨#[40, 32]⟩ ++ x ++ ⟨#[32, 41]⟩), .int .i64 ((m : Int) + 2), .int .i64 (d + 1)]) (by simp [results, Tryd.results35, go_sem]) rfl ⟨by rw [hT.out], galloc (galloc (Below.refl _ _) _) _⟩

end Go.Proofs.YtpodpahipapbaaaDoor
