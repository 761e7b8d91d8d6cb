/- For every number, number of zeros and byte the law LexNumbers returns true: a number in the base ten, zeros ahead of it, is a token of its value just if it is at most 2^63 - 1 and no letter stands behind it. The listed variables hold what their texts lay (the card ties that to the text). No other condition. -/
import Derived.Test.YtlcmfefcammklaaDoorSe2
import Derived.Test.YtlcmfefcammklaaDoorLx12
import Derived.Test.YtlcmfefcammklaaDoorDg
import Derived.Test.YtlcmfefcammklaaDoorEr
import Derived.Test.YtlcmfefcammklaaDoorCards
import Derived.Test.YtlcmfefcammklaaDoorTie
import Derived.Carry
import Derived.ChangeMaps5
import Derived.SizedLaws
import Derived.Lib.SmallJoins
import Derived.Deep.DeepHandedRow
import Derived.Lay
namespace Go.Proofs.YtlcmfefcammklaaDoor.lexNumbers
open Go.ChangeShapes Go.WideShapes Go.ChangeAt Go.RowKit Go.BigFrame
set_option linter.unusedVariables false
set_option linter.unusedSimpArgs false

def blS : ByteArray := ⟨#[32]⟩
theorem bl_size : blS.size = 1 := rfl
theorem bt_list (l : List UInt8) (i : Nat) : bt ⟨l.toArray⟩ i = ((l.getD i 0).toNat : Int) := by
  unfold bt
  simp [List.getD]
theorem dig_bt {l : List UInt8} (h : digL l) {i : Nat} (hi : i < l.length) : dgB (bt ⟨l.toArray⟩ i) = true := by
  rw [bt_list, List.getD_eq_getElem?_getD, List.getElem?_eq_getElem hi]
  have := h l[i] (List.getElem_mem _)
  simp only [Option.getD_some, dgB, decide_eq_true_eq]
  omega
theorem sz (l : List UInt8) : (⟨l.toArray⟩ : ByteArray).size = l.length := by show l.toArray.size = _; simp
theorem run_all {f : Int → Bool} {s : ByteArray} : ∀ n p, p + n ≤ s.size → (∀ i, p ≤ i → i < p + n → f (bt s i) = true) → (p + n < s.size → f (bt s (p + n)) = false) → runE f s p = p + n := by
  intro n
  induction n with
  | zero =>
    intro p h1 _ h3
    rw [Nat.add_zero] at h3 ⊢
    by_cases h : p < s.size
    · exact runE_stop (.inr (h3 h))
    · exact runE_stop (.inl h)
  | succ n ih =>
    intro p h1 h2 h3
    rw [runE_on (by omega) (h2 p (Nat.le_refl _) (by omega)), ih (p + 1) (by omega) (fun i h4 h5 => h2 i (by omega) (by omega)) (by rw [show p + 1 + n = p + (n + 1) by omega]; exact h3)]
    omega
theorem st_dig {s : ByteArray} {p : Nat} (h : dgB (bt s p) = true) : stI s p = 2 := by
  obtain ⟨h1, h2, h3, h4⟩ := dg_facts h
  unfold stI entI
  rw [if_neg (by rw [h3]; simp), if_neg h2, if_neg (by rw [h4]; simp), if_pos h]
/-- A blank and digits. -/
theorem lex_num (l : List UInt8) (h : digL l) (h0 : 0 < l.length) (hl : l.length ≤ 4020) :
    lexO (blS ++ ⟨l.toArray⟩) = if dv 0 l ≤ 9223372036854775807 then ([⟨2, ⟨#[]⟩, (dv 0 l : Int), 1⟩], 0, 0) else ([], 32, 1) := by
  have hs : (blS ++ (⟨l.toArray⟩ : ByteArray)).size = 1 + l.length := by rw [app_size, bl_size, sz]
  have hb : ∀ i, bt (blS ++ (⟨l.toArray⟩ : ByteArray)) (1 + i) = bt ⟨l.toArray⟩ i := fun i => app_ge blS _ i
  have hb0 : bt (blS ++ (⟨l.toArray⟩ : ByteArray)) 0 = 32 := app_lt blS _ 0 (by decide)
  have hx : (blS ++ (⟨l.toArray⟩ : ByteArray)).extract 1 (1 + l.length) = ⟨l.toArray⟩ := by
    have := app_ext_ge blS ⟨l.toArray⟩ 0 l.length
    rw [bl_size, Nat.add_zero] at this
    rw [this]
    apply ByteArray.ext
    rw [ByteArray.data_extract]
    simp
  generalize blS ++ (⟨l.toArray⟩ : ByteArray) = s at *
  have hst0 : stI s 0 = 0 := by unfold stI; rw [hb0]; rfl
  have hd1 : ∀ i, 1 ≤ i → i < 1 + l.length → dgB (bt s i) = true := fun i h1 h2 => by
    obtain ⟨j, rfl⟩ : ∃ j, i = 1 + j := ⟨i - 1, by omega⟩
    rw [hb j]
    exact dig_bt h (by omega)
  have hst1 := st_dig (hd1 1 (by omega) (by omega))
  have hrun : runE dgB s 1 = 1 + l.length := run_all l.length 1 (by omega) hd1 (fun h5 => by omega)
  have hth : thing s 1 = (1 + l.length, numT s 1 (1 + l.length)) := by unfold thing; rw [hst1, if_neg (by decide), if_pos rfl, hrun]
  have hne : (⟨l.toArray⟩ : ByteArray).data.toList ≠ [] := fun e => by
    have h5 : l = [] := by simpa using e
    rw [h5] at h0; simp at h0
  have hnv := numV_dig ⟨l.toArray⟩ hne (by simpa using h)
  have hnt : numT s 1 (1 + l.length) = match (if dv 0 l ≤ 9223372036854775807 then some (dv 0 l : Int) else none) with | some v => (⟨2, ⟨#[]⟩, v, 1⟩, 0) | none => (noTok, 32) := by
    unfold numT
    rw [if_neg (by omega), hx, hnv]
    rfl
  have hP1 : Path s 0 [] 1 [] := .step 0 1 1 [] [] [] (by omega) (by unfold nxt; rw [if_pos hst0]) (.here _ _)
  by_cases hd : dv 0 l ≤ 9223372036854775807
  · rw [if_pos hd] at hnt ⊢
    refine lexO_path (by omega) (hP1.trans (.step 1 (1 + l.length) s.size [] [⟨2, ⟨#[]⟩, (dv 0 l : Int), 1⟩] _ (by omega) ?_ (by rw [hs]; exact .here _ _)))
    unfold nxt
    rw [hst1, hth, hnt]
    rfl
  · rw [if_neg hd] at hnt ⊢
    have hno : nxt s 1 [] = none := by
      unfold nxt
      rw [hst1, hth, hnt]
      rfl
    rw [lexO_stop (by omega) hP1 (by omega) hno]
    unfold errC
    rw [hst1, hth, hnt]
    rfl
/-- Digits and a letter. -/
theorem lex_stuck (l : List UInt8) (h : digL l) (h0 : 0 < l.length) (hl : l.length ≤ 4020) (c : UInt8) (hc : ltB (c.toNat : Int) = true) : lexO (⟨l.toArray⟩ ++ ⟨#[c]⟩) = ([], 32, 0) := by
  have hs : ((⟨l.toArray⟩ : ByteArray) ++ ⟨#[c]⟩).size = l.length + 1 := by rw [app_size, sz]; rfl
  have hb : ∀ i, i < l.length → bt ((⟨l.toArray⟩ : ByteArray) ++ ⟨#[c]⟩) i = bt ⟨l.toArray⟩ i := fun i hi => app_lt _ _ i (by rw [sz]; exact hi)
  have hbl : bt ((⟨l.toArray⟩ : ByteArray) ++ ⟨#[c]⟩) l.length = (c.toNat : Int) := by
    have := app_ge (⟨l.toArray⟩ : ByteArray) ⟨#[c]⟩ 0
    rw [sz, Nat.add_zero] at this
    rw [this]
    rfl
  generalize (⟨l.toArray⟩ : ByteArray) ++ ⟨#[c]⟩ = s at *
  have hd : ∀ i, 0 ≤ i → i < 0 + l.length → dgB (bt s i) = true := fun i _ h2 => by
    rw [hb i (by omega)]
    exact dig_bt h (by omega)
  have hst := st_dig (hd 0 (by omega) (by omega))
  have hrun : runE dgB s 0 = l.length := by
    rw [run_all l.length 0 (by omega) hd (fun h5 => by rw [Nat.zero_add, hbl]; exact (lt_facts hc).2.2.2), Nat.zero_add]
  have hth : thing s 0 = (l.length, (noTok, 32)) := by
    unfold thing
    rw [hst, if_neg (by decide), if_pos rfl, hrun]
    unfold numT
    rw [if_pos ⟨by omega, by rw [hbl]; exact hc⟩]
  have hno : nxt s 0 [] = none := by
    unfold nxt
    rw [hst, hth]
    rfl
  rw [lexO_stop (by omega) (.here _ _) (by omega) hno]
  unfold errC
  rw [hst, hth]
  rfl

theorem conv1 (C : Nat) (hC : (UInt8.ofNat C).toNat = C) (v : World) : (convert 31 9 (.slice (some ⟨v.heap.size, 0, none⟩) 1 1)).run Tryd.prog (v.alloc (.cells #[.int .u8 (C : Int)] 5)) = .ok (.string ⟨#[UInt8.ofNat C]⟩) (v.alloc (.cells #[.int .u8 (C : Int)] 5)) := by
  refine run_convert_bytes_back (v.alloc (.cells #[.int .u8 (C : Int)] 5)) 31 9 5 ⟨v.heap.size, 0, none⟩ 1 [UInt8.ofNat C] (by kernel_rfl) (by kernel_rfl) (by kernel_rfl) fun j hj => ?_
  obtain rfl : j = 0 := by simpa using hj
  rw [Go.WideShapes.add_plain, Nat.zero_add, World.cell?_alloc_new]
  show some (Value.int .u8 (C : Int)) = some (.int .u8 (((UInt8.ofNat C).toNat : Nat) : Int))
  rw [hC]
set_option maxRecDepth 100000 in
set_option maxHeartbeats 8000000 in
theorem walk (n : Int) (hn : (Lit.int .u64 n).wf = true) (z : Int) (hz : (Lit.int .i64 z).wf = true) (c : Int) (hc : (Lit.int .u8 c).wf = true) (w : World) (K : KwAt w) (Sg : SgAt w) (E : ErAt w) : Calls Tryd.prog 3 #[.int .u64 n, .int .i64 z, .int .u8 c] w fun e w' => e = .returned (.bool true) ∧ Below w.heap.size w w' := by
  have cL := fun (x : ByteArray) (hx : x.size ≤ 9223372036854775807) (u : World) (g : Below w.heap.size w u) => lexLex_any x hx u (K.keep g) (Sg.keep g) (E.keep g)
  have hn2 : 0 ≤ n ∧ n ≤ 18446744073709551615 := by simpa [Lit.wf, IntKind.min, IntKind.max, IntKind.signed, IntKind.bits] using hn
  have hz2 : -9223372036854775808 ≤ z ∧ z ≤ 9223372036854775807 := by simpa [Lit.wf, IntKind.min, IntKind.max, IntKind.signed, IntKind.bits] using hz
  have hc2 : 0 ≤ c ∧ c ≤ 255 := by simpa [Lit.wf, IntKind.min, IntKind.max, IntKind.signed, IntKind.bits] using hc
  obtain ⟨N, rfl⟩ : ∃ N : Nat, n = (N : Int) := ⟨n.toNat, by omega⟩
  obtain ⟨C, rfl⟩ : ∃ C : Nat, c = (C : Int) := ⟨c.toNat, by omega⟩
  have cD := digits_any N (by omega) z hz2 w
  have hC : (UInt8.ofNat C).toNat = C := by rw [UInt8.toNat_ofNat']; omega
  have hlt : ltB (C : Int) = decide ((65 ≤ C ∧ C ≤ 90) ∨ (97 ≤ C ∧ C ≤ 122) ∨ C = 95) := by
    unfold ltB
    rw [decide_eq_decide]
    omega
  go_enter Tryd.func3, Tryd.ntmps3
  go_upto_region 2 with (go_at_call 9; (with_reducible refine cD.mono ?_); rintro e u ⟨⟨l, rfl, hl1, hl2, hl3, hl4⟩, g0⟩)
  have hx1 := lex_num l hl1 hl2 hl3
  rw [hl4] at hx1
  have hx2 := lex_stuck l hl1 hl2 hl3 (UInt8.ofNat C)
  rw [hC, hlt] at hx2
  have hsx := sz l
  obtain ⟨x, hx⟩ : ∃ x : ByteArray, x = ⟨l.toArray⟩ := ⟨_, rfl⟩
  rw [← hx] at hx1 hx2 hsx ⊢
  have hcat1 : ∀ v : World, (Op.stringOp .add ⟨#[32]⟩ x).run Tryd.prog v = .ok (.string (blS ++ x)) v := fun v => run_string_add_sum v blS x (by rw [bl_size]; omega)
  have hcat2 : ∀ v : World, (Op.stringOp .add x ⟨#[UInt8.ofNat C]⟩).run Tryd.prog v = .ok (.string (x ++ ⟨#[UInt8.ofNat C]⟩)) v := fun v => run_string_add_sum v x ⟨#[UInt8.ofNat C]⟩ (by show x.size + 1 ≤ _; omega)
  have c1 := cL (blS ++ x) (by rw [app_size, bl_size]; omega)
  have c2 := cL (x ++ ⟨#[UInt8.ofNat C]⟩) (by rw [app_size]; show x.size + 1 ≤ _; omega)
  generalize blS ++ x = x1 at *
  generalize hx2' : x ++ (⟨#[UInt8.ofNat C]⟩ : ByteArray) = x2 at *
  clear cL cD hx hx2'
  rw [hx1] at c1
  clear hx1
  by_cases hN : N ≤ 9223372036854775807
  · rw [if_pos hN] at c1
    dsimp only at c1
    have hNi : (N : Int) ≤ 9223372036854775807 := by omega
    have hA : ∀ (u' : World) (v1 : Value) (bb : Nat), u'.ownsRow bb 30 4 v1 [(⟨2, ⟨#[]⟩, (N : Int), 1⟩ : Tok)].length (toksV [(⟨2, ⟨#[]⟩, (N : Int), 1⟩ : Tok)]) → ∃ g cap, v1 = .slice (some ⟨g, 0, none⟩) 1 cap ∧ (u'.cell? ⟨g, 0, none⟩ = some (.int .i64 2) ∧ u'.cell? ⟨g, 1, none⟩ = some (.string ⟨#[]⟩) ∧ u'.cell? ⟨g, 2, none⟩ = some (.int .i64 (N : Int)) ∧ u'.cell? ⟨g, 3, none⟩ = some (.int .i64 1)) := fun u' v1 bb O => by
      rcases O.2 with ⟨_, h0⟩ | ⟨g, cap, cur, rfl, _, _, _⟩
      · exact absurd h0 (by simp)
      · have hc := fun j hj => World.ownsRow.cellAt O j hj
        exact ⟨g, cap, rfl, hc 0 (by simp), hc 1 (by simp), hc 2 (by simp), hc 3 (by simp)⟩
    have hcv := conv1 C hC
    rcases (show (C < 65) ∨ (65 ≤ C ∧ C ≤ 90) ∨ (91 ≤ C ∧ C ≤ 94 ∨ C = 96) ∨ (C = 95) ∨ (97 ≤ C ∧ C ≤ 122) ∨ (123 ≤ C) from by omega) with k0 | k1 | k2 | k3 | k4 | k5
    · skip
      have f0 : ¬ (97 : Int) ≤ (C : Int) := by omega
      have f1 : ¬ (65 : Int) ≤ (C : Int) := by omega
      have q95 : ((C : Int) == 95) = false := by simp; omega
      clear hx2 k0
      go_wp2_with (first
        | (go_at_call_of 10 x2; (with_reducible refine (c2 _ (galloc (gtrans g0 g1) _)).mono ?_); rintro e u2 ⟨v2, rfl, O2, g2⟩; obtain ⟨ao2, cap2, rfl, A2⟩ := toks_of_own O2)
        | (go_at_call_of 10 x1; (with_reducible refine (c1 _ g0).mono ?_); rintro e u1 ⟨v1, rfl, O1, g1⟩; obtain ⟨g, cap, rfl, y0, y1, y2, y3⟩ := hA _ _ _ O1))
      go_ret
      exact ⟨by first | rfl | simp, gtrans g0 g1⟩
    · skip
      have f0 : ¬ (97 : Int) ≤ (C : Int) := by omega
      have f1 : (65 : Int) ≤ (C : Int) := by omega
      have f2 : (C : Int) ≤ 90 := by omega
      rw [hx2 (decide_eq_true (by omega))] at c2
      dsimp only at c2
      clear hx2 k1
      go_wp2_with (first
        | (go_at_call_of 10 x2; (with_reducible refine (c2 _ (galloc (gtrans g0 g1) _)).mono ?_); rintro e u2 ⟨v2, rfl, O2, g2⟩; obtain ⟨ao2, cap2, rfl, A2⟩ := toks_of_own O2)
        | (go_at_call_of 10 x1; (with_reducible refine (c1 _ g0).mono ?_); rintro e u1 ⟨v1, rfl, O1, g1⟩; obtain ⟨g, cap, rfl, y0, y1, y2, y3⟩ := hA _ _ _ O1))
      go_ret
      exact ⟨by first | rfl | simp, gtrans (galloc (gtrans g0 g1) _) g2⟩
    · skip
      have f0 : ¬ (97 : Int) ≤ (C : Int) := by omega
      have f1 : (65 : Int) ≤ (C : Int) := by omega
      have f2 : ¬ (C : Int) ≤ 90 := by omega
      have d90 : decide ((C : Int) ≤ 90) = false := decide_eq_false (by omega)
      have q95 : ((C : Int) == 95) = false := by simp; omega
      clear hx2 k2
      go_wp2_with (first
        | (go_at_call_of 10 x2; (with_reducible refine (c2 _ (galloc (gtrans g0 g1) _)).mono ?_); rintro e u2 ⟨v2, rfl, O2, g2⟩; obtain ⟨ao2, cap2, rfl, A2⟩ := toks_of_own O2)
        | (go_at_call_of 10 x1; (with_reducible refine (c1 _ g0).mono ?_); rintro e u1 ⟨v1, rfl, O1, g1⟩; obtain ⟨g, cap, rfl, y0, y1, y2, y3⟩ := hA _ _ _ O1))
      go_ret
      exact ⟨by first | rfl | simp, gtrans g0 g1⟩
    · skip
      have f0 : ¬ (97 : Int) ≤ (C : Int) := by omega
      have f1 : (65 : Int) ≤ (C : Int) := by omega
      have f2 : ¬ (C : Int) ≤ 90 := by omega
      have d90 : decide ((C : Int) ≤ 90) = false := decide_eq_false (by omega)
      have q95 : ((C : Int) == 95) = true := by simp; omega
      rw [hx2 (decide_eq_true (by omega))] at c2
      dsimp only at c2
      clear hx2 k3
      go_wp2_with (first
        | (go_at_call_of 10 x2; (with_reducible refine (c2 _ (galloc (gtrans g0 g1) _)).mono ?_); rintro e u2 ⟨v2, rfl, O2, g2⟩; obtain ⟨ao2, cap2, rfl, A2⟩ := toks_of_own O2)
        | (go_at_call_of 10 x1; (with_reducible refine (c1 _ g0).mono ?_); rintro e u1 ⟨v1, rfl, O1, g1⟩; obtain ⟨g, cap, rfl, y0, y1, y2, y3⟩ := hA _ _ _ O1))
      go_ret
      exact ⟨by first | rfl | simp, gtrans (galloc (gtrans g0 g1) _) g2⟩
    · skip
      have f0 : (97 : Int) ≤ (C : Int) := by omega
      have f1 : (C : Int) ≤ 122 := by omega
      rw [hx2 (decide_eq_true (by omega))] at c2
      dsimp only at c2
      clear hx2 k4
      go_wp2_with (first
        | (go_at_call_of 10 x2; (with_reducible refine (c2 _ (galloc (gtrans g0 g1) _)).mono ?_); rintro e u2 ⟨v2, rfl, O2, g2⟩; obtain ⟨ao2, cap2, rfl, A2⟩ := toks_of_own O2)
        | (go_at_call_of 10 x1; (with_reducible refine (c1 _ g0).mono ?_); rintro e u1 ⟨v1, rfl, O1, g1⟩; obtain ⟨g, cap, rfl, y0, y1, y2, y3⟩ := hA _ _ _ O1))
      go_ret
      exact ⟨by first | rfl | simp, gtrans (galloc (gtrans g0 g1) _) g2⟩
    · skip
      have f0 : (97 : Int) ≤ (C : Int) := by omega
      have f1 : ¬ (C : Int) ≤ 122 := by omega
      have d122 : decide ((C : Int) ≤ 122) = false := decide_eq_false (by omega)
      have f2 : (65 : Int) ≤ (C : Int) := by omega
      have f3 : ¬ (C : Int) ≤ 90 := by omega
      have d90 : decide ((C : Int) ≤ 90) = false := decide_eq_false (by omega)
      have q95 : ((C : Int) == 95) = false := by simp; omega
      clear hx2 k5
      go_wp2_with (first
        | (go_at_call_of 10 x2; (with_reducible refine (c2 _ (galloc (gtrans g0 g1) _)).mono ?_); rintro e u2 ⟨v2, rfl, O2, g2⟩; obtain ⟨ao2, cap2, rfl, A2⟩ := toks_of_own O2)
        | (go_at_call_of 10 x1; (with_reducible refine (c1 _ g0).mono ?_); rintro e u1 ⟨v1, rfl, O1, g1⟩; obtain ⟨g, cap, rfl, y0, y1, y2, y3⟩ := hA _ _ _ O1))
      go_ret
      exact ⟨by first | rfl | simp, gtrans g0 g1⟩
  · rw [if_neg hN] at c1
    dsimp only at c1
    have hNi : (9223372036854775807 : Int) < (N : Int) := by omega
    have hcv := conv1 C hC
    rcases (show (C < 65) ∨ (65 ≤ C ∧ C ≤ 90) ∨ (91 ≤ C ∧ C ≤ 94 ∨ C = 96) ∨ (C = 95) ∨ (97 ≤ C ∧ C ≤ 122) ∨ (123 ≤ C) from by omega) with k0 | k1 | k2 | k3 | k4 | k5
    · skip
      have f0 : ¬ (97 : Int) ≤ (C : Int) := by omega
      have f1 : ¬ (65 : Int) ≤ (C : Int) := by omega
      have q95 : ((C : Int) == 95) = false := by simp; omega
      clear hx2 k0
      go_wp2_with (first
        | (go_at_call_of 10 x2; (with_reducible refine (c2 _ (galloc (gtrans g0 g1) _)).mono ?_); rintro e u2 ⟨v2, rfl, O2, g2⟩; obtain ⟨ao2, cap2, rfl, A2⟩ := toks_of_own O2)
        | (go_at_call_of 10 x1; (with_reducible refine (c1 _ g0).mono ?_); rintro e u1 ⟨v1, rfl, O1, g1⟩; obtain ⟨ao1, cap1, rfl, A1⟩ := toks_of_own O1))
      go_ret
      exact ⟨by first | rfl | simp, gtrans g0 g1⟩
    · skip
      have f0 : ¬ (97 : Int) ≤ (C : Int) := by omega
      have f1 : (65 : Int) ≤ (C : Int) := by omega
      have f2 : (C : Int) ≤ 90 := by omega
      rw [hx2 (decide_eq_true (by omega))] at c2
      dsimp only at c2
      clear hx2 k1
      go_wp2_with (first
        | (go_at_call_of 10 x2; (with_reducible refine (c2 _ (galloc (gtrans g0 g1) _)).mono ?_); rintro e u2 ⟨v2, rfl, O2, g2⟩; obtain ⟨ao2, cap2, rfl, A2⟩ := toks_of_own O2)
        | (go_at_call_of 10 x1; (with_reducible refine (c1 _ g0).mono ?_); rintro e u1 ⟨v1, rfl, O1, g1⟩; obtain ⟨ao1, cap1, rfl, A1⟩ := toks_of_own O1))
      go_ret
      exact ⟨by first | rfl | simp, gtrans (galloc (gtrans g0 g1) _) g2⟩
    · skip
      have f0 : ¬ (97 : Int) ≤ (C : Int) := by omega
      have f1 : (65 : Int) ≤ (C : Int) := by omega
      have f2 : ¬ (C : Int) ≤ 90 := by omega
      have d90 : decide ((C : Int) ≤ 90) = false := decide_eq_false (by omega)
      have q95 : ((C : Int) == 95) = false := by simp; omega
      clear hx2 k2
      go_wp2_with (first
        | (go_at_call_of 10 x2; (with_reducible refine (c2 _ (galloc (gtrans g0 g1) _)).mono ?_); rintro e u2 ⟨v2, rfl, O2, g2⟩; obtain ⟨ao2, cap2, rfl, A2⟩ := toks_of_own O2)
        | (go_at_call_of 10 x1; (with_reducible refine (c1 _ g0).mono ?_); rintro e u1 ⟨v1, rfl, O1, g1⟩; obtain ⟨ao1, cap1, rfl, A1⟩ := toks_of_own O1))
      go_ret
      exact ⟨by first | rfl | simp, gtrans g0 g1⟩
    · skip
      have f0 : ¬ (97 : Int) ≤ (C : Int) := by omega
      have f1 : (65 : Int) ≤ (C : Int) := by omega
      have f2 : ¬ (C : Int) ≤ 90 := by omega
      have d90 : decide ((C : Int) ≤ 90) = false := decide_eq_false (by omega)
      have q95 : ((C : Int) == 95) = true := by simp; omega
      rw [hx2 (decide_eq_true (by omega))] at c2
      dsimp only at c2
      clear hx2 k3
      go_wp2_with (first
        | (go_at_call_of 10 x2; (with_reducible refine (c2 _ (galloc (gtrans g0 g1) _)).mono ?_); rintro e u2 ⟨v2, rfl, O2, g2⟩; obtain ⟨ao2, cap2, rfl, A2⟩ := toks_of_own O2)
        | (go_at_call_of 10 x1; (with_reducible refine (c1 _ g0).mono ?_); rintro e u1 ⟨v1, rfl, O1, g1⟩; obtain ⟨ao1, cap1, rfl, A1⟩ := toks_of_own O1))
      go_ret
      exact ⟨by first | rfl | simp, gtrans (galloc (gtrans g0 g1) _) g2⟩
    · skip
      have f0 : (97 : Int) ≤ (C : Int) := by omega
      have f1 : (C : Int) ≤ 122 := by omega
      rw [hx2 (decide_eq_true (by omega))] at c2
      dsimp only at c2
      clear hx2 k4
      go_wp2_with (first
        | (go_at_call_of 10 x2; (with_reducible refine (c2 _ (galloc (gtrans g0 g1) _)).mono ?_); rintro e u2 ⟨v2, rfl, O2, g2⟩; obtain ⟨ao2, cap2, rfl, A2⟩ := toks_of_own O2)
        | (go_at_call_of 10 x1; (with_reducible refine (c1 _ g0).mono ?_); rintro e u1 ⟨v1, rfl, O1, g1⟩; obtain ⟨ao1, cap1, rfl, A1⟩ := toks_of_own O1))
      go_ret
      exact ⟨by first | rfl | simp, gtrans (galloc (gtrans g0 g1) _) g2⟩
    · skip
      have f0 : (97 : Int) ≤ (C : Int) := by omega
      have f1 : ¬ (C : Int) ≤ 122 := by omega
      have d122 : decide ((C : Int) ≤ 122) = false := decide_eq_false (by omega)
      have f2 : (65 : Int) ≤ (C : Int) := by omega
      have f3 : ¬ (C : Int) ≤ 90 := by omega
      have d90 : decide ((C : Int) ≤ 90) = false := decide_eq_false (by omega)
      have q95 : ((C : Int) == 95) = false := by simp; omega
      clear hx2 k5
      go_wp2_with (first
        | (go_at_call_of 10 x2; (with_reducible refine (c2 _ (galloc (gtrans g0 g1) _)).mono ?_); rintro e u2 ⟨v2, rfl, O2, g2⟩; obtain ⟨ao2, cap2, rfl, A2⟩ := toks_of_own O2)
        | (go_at_call_of 10 x1; (with_reducible refine (c1 _ g0).mono ?_); rintro e u1 ⟨v1, rfl, O1, g1⟩; obtain ⟨ao1, cap1, rfl, A1⟩ := toks_of_own O1))
      go_ret
      exact ⟨by first | rfl | simp, gtrans g0 g1⟩

theorem own : ownKnob Tryd.prog.godebug = none := by kernel_rfl
theorem laidOut : laidOutB Tryd.prog = true := by kernel_rfl

theorem gKw : Tryd.prog.globalNamed "sluice/api.Keywords" = some 1 := by kernel_rfl
theorem tabs {W : World} (h : laidMetH Tryd.prog Rows.lexNumbersRow.laid W) : KwAt W := by
  have h0 : laidMet Tryd.prog Rows.lexNumbersRow.laid W := (Go.MakeChecks.laidMetH_plain _ _ _ (by kernel_rfl)).mp h
  exact kwAt_of (tabS (bss := kwl) gKw (by kernel_rfl) Tryd.underlying46 Tryd.underlying9 (by kernel_rfl) (laidMet_tail (laidMet_tail (laidMet_tail (laidMet_tail (laidMet_tail h0))))))
theorem gSg : Tryd.prog.globalNamed "sluice/lex.signs" = some 0 := by kernel_rfl
theorem tabSg {W : World} (h : laidMetH Tryd.prog Rows.lexNumbersRow.laid W) : SgAt W := by
  have h0 : laidMet Tryd.prog Rows.lexNumbersRow.laid W := (Go.MakeChecks.laidMetH_plain _ _ _ (by kernel_rfl)).mp h
  exact sgAt_of (tabS (bss := sgl) gSg (by kernel_rfl) Tryd.underlying45 Tryd.underlying9 (by kernel_rfl) (laidMet_tail (laidMet_tail (laidMet_tail (laidMet_tail (laidMet_tail (laidMet_tail h0)))))))
theorem gEr : Tryd.prog.globalNamed "strconv.ErrRange" = some 6 := by kernel_rfl
theorem tabE {W : World} (h : laidMetH Tryd.prog Rows.lexNumbersRow.laid W) : ErAt W := by
  have h0 : laidMet Tryd.prog Rows.lexNumbersRow.laid W := (Go.MakeChecks.laidMetH_plain _ _ _ (by kernel_rfl)).mp h
  exact ifaceAt gEr (by kernel_rfl) ⟨_, Tryd.underlying51⟩ (laidMet_tail (laidMet_tail (laidMet_tail h0)))

set_option maxRecDepth 100000 in
theorem contract (H : Type) (enc : TypeId × Value → H) (W : World) (base : Nat) (args : Array Value) (ds gs : List (DataW H)) (before : List MemPlace)
    (hval : ∀ (j : Nat) t v, Tryd.f3.params[j]? = some t → args[j]? = some v → Value.okWide Tryd.prog W .any base t v)
    (hW : DataW.Whole enc Tryd.prog Tryd.f3.params.toList Rows.lexNumbersSpec.vars false W args.toList ds gs before) (hL : laidMetH Tryd.prog Rows.lexNumbersRow.laid W) :
    Calls Tryd.prog 3 args W fun e W' => ∃ v, e = .returned v ∧ Rows.lexNumbersSpec.post enc Tryd.prog Tryd.f3 false true false false W args v W' := by
  have hW' := hW
  obtain ⟨p, q, hA0, hV, rfl, hfz, hnd⟩ := hW
  have hA : DataW.TrodAll enc Tryd.prog W 0 (fun _ => true) true Tryd.f3.params.toList args.toList ds p := hA0
  rw [Tryd.params3] at hA hval
  obtain ⟨v0, vs0, d0, ds0, p0, q0, hargs, rfl, rfl, h0, r0⟩ := trodAll_cons hA
  obtain ⟨v1, vs1, d1, ds1, p1, q1, rfl, rfl, rfl, h1, r1⟩ := trodAll_cons r0
  obtain ⟨v2, vs2, d2, ds2, p2, q2, rfl, rfl, rfl, h2, r2⟩ := trodAll_cons r1
  obtain ⟨rfl, rfl, rfl⟩ := trodAll_nil r2
  obtain rfl : args = #[v0, v1, v2] := by cases args; simp_all
  obtain ⟨rfl, rfl⟩ := trodVars_none hV
  have k0 := h0
  have lt0 : ∀ x ∈ p0, x.block < W.heap.size := by obtain ⟨m, hm⟩ := k0; exact DataW.trod_lt m _ _ _ hm
  obtain ⟨a0, e0, _, _, w0⟩ := open_int Tryd.underlying22 (hval 0 22 v0 rfl rfl) h0
  subst e0
  have k1 := h1
  have lt1 : ∀ x ∈ p1, x.block < W.heap.size := by obtain ⟨m, hm⟩ := k1; exact DataW.trod_lt m _ _ _ hm
  obtain ⟨a1, e1, _, _, w1⟩ := open_int Tryd.underlying3 (hval 1 3 v1 rfl rfl) h1
  subst e1
  have k2 := h2
  have lt2 : ∀ x ∈ p2, x.block < W.heap.size := by obtain ⟨m, hm⟩ := k2; exact DataW.trod_lt m _ _ _ hm
  obtain ⟨a2, e2, _, _, w2⟩ := open_int Tryd.underlying5 (hval 2 5 v2 rfl rfl) h2
  subst e2
  clear hA0
  refine (walk a0 w0 a1 w1 a2 w2 W (tabs hL) (tabSg hL) (tabE hL)).mono fun e W' ⟨he, bel⟩ => ?_
  subst he
  exact ⟨_, rfl, _, _, _, [], _, [], hW', trodAll_mk1 (shut_bool Tryd.underlying4 _), (trodAll_cons_mk (Below.trod laidOut (by kernel_rfl) (of_decide_eq_true (by kernel_rfl)) k0 bel lt0) (trodAll_cons_mk (Below.trod laidOut (by kernel_rfl) (of_decide_eq_true (by kernel_rfl)) k1 bel lt1) (trodAll_cons_mk (Below.trod laidOut (by kernel_rfl) (of_decide_eq_true (by kernel_rfl)) k2 bel lt2) trodAll_mk0))), rfl, bel.frame _, fun h => by cases h⟩

/-- For the world of the witness: the settled one, the tables holding what their text lays. -/
def put (c : Array Value) : Obj → Obj
  | .cells _ t frozen => .cells c t frozen
  | x => x
theorem laid_met (os : Os) : laidMet Tryd.prog Rows.lexNumbersRow.laid ((World.laidAll Tryd.prog os Rows.lexNumbersRow.laid).forCall (fun _ _ => 0) ⟨#[], #[.int .u64 0, .int .i64 0, .int .u8 0], []⟩).memory :=
  laidMet_laidAll _ (by kernel_rfl) (by kernel_rfl)
theorem reads (os : Os) {H : Type} (enc : TypeId × Value → H) : ∃ places, DataW.whole enc Tryd.prog ((World.laidAll Tryd.prog os Rows.lexNumbersRow.laid).forCall (fun _ _ => 0) ⟨#[], #[.int .u64 0, .int .i64 0, .int .u8 0], []⟩).memory Tryd.f3.params.toList Rows.lexNumbersSpec.vars false (#[.int .u64 0, .int .i64 0, .int .u8 0] : Array Value).toList 8 = some ([.lit (.int .u64 0), .lit (.int .i64 0), .lit (.int .u8 0)], [], places) :=
  ⟨[], by kernel_rfl⟩

set_option maxRecDepth 100000 in
theorem lifted (os : Os) (started : os.Started) (H : Type) (enc : TypeId × Value → H) (F : Stop.Interp) :
    ReturnsInHanded {} Tryd.checked os 3 .any ((OpenSpec.ofChange Rows.lexNumbersSpec).preRow enc Tryd.prog Tryd.f3 Rows.lexNumbersRow.domain false Rows.lexNumbersRow.laid) (((OpenSpec.ofChange Rows.lexNumbersSpec).at F).post enc Tryd.prog Tryd.f3 false true false false) := by
  obtain ⟨places, hx⟩ := reads os enc
  refine returnsInHanded_of_row (C := Tryd.checked) (s := OpenSpec.ofChange Rows.lexNumbersSpec) own started (by kernel_rfl) Tryd.func3
    ⟨(World.laidAll Tryd.prog os Rows.lexNumbersRow.laid), fun _ _ => 0, ⟨#[], #[.int .u64 0, .int .i64 0, .int .u8 0], []⟩, World.laidAll_os _ _ _, World.shaped_of_ZipB (by kernel_rfl) (by kernel_rfl), rfl, (Input.okWide_of_okWideB (show Input.okWideB Tryd.prog ((World.laidAll Tryd.prog os Rows.lexNumbersRow.laid).forCall (fun _ _ => 0) ⟨#[], #[.int .u64 0, .int .i64 0, .int .u8 0], []⟩) 3 ⟨#[], #[.int .u64 0, .int .i64 0, .int .u8 0], []⟩ = true by kernel_rfl)).2,
      OpenSpec.preRow_of_cond 8 hx (by kernel_rfl) (fun k hk => by cases hk) (by kernel_rfl) (laid_met os),
      by simp only [Assume.holds]; exact ⟨by simp, by simp, by simp, by simp, by simp⟩⟩ ?_
  intro W base args ds gs before hval hW _ _ _ hL _ _
  exact contract H enc W base args ds gs before hval hW hL

theorem said : Rows.LexNumbersSaid :=
  OpenClaim.holds_of_cond 3 Tryd.f3 rfl rfl rfl rfl rfl rfl rfl ⟨rfl, rfl, rfl, rfl, rfl⟩ rfl rfl rfl rfl rfl (by kernel_rfl) Tryd.func3 (by kernel_rfl)
    (of_decide_eq_true (by kernel_rfl)) (by unfold Func.isWrapper; first | (rw [if_pos (by decide +kernel)]; kernel_rfl) | (rw [if_neg (by decide +kernel)]; exact ⟨rfl, rfl⟩))
    (fun os started H enc _ F => by rw [OpenClaim.pre_eq_preRow]; exact lifted os started H enc F)

theorem plain (f : FuncId) (fn : Func) (hf : Tryd.pinned.checked.prog.funcNamed "sluice/sluicelaw3.LexNumbers" = some f) (hfn : Tryd.pinned.checked.prog.funcs[f]? = some fn) :
    true = Tryd.pinned.checked.prog.looks [] ∧ ∀ (j : Nat) t, fn.params[j]? = some t → Tryd.pinned.checked.prog.wantsStandIn t = false := by
  obtain rfl : f = 3 := Option.some.inj ((show Tryd.prog.funcNamed "sluice/sluicelaw3.LexNumbers" = some 3 by kernel_rfl).symm.trans hf) |>.symm
  obtain rfl : fn = Tryd.f3 := (Option.some.inj (Tryd.func3.symm.trans hfn)).symm
  refine ⟨by kernel_rfl, fun j t ht => ?_⟩
  rw [Tryd.params3] at ht
  have hm : t = 22 ∨ t = 3 ∨ t = 5 := by simpa using Array.mem_of_getElem? ht
  rcases hm with rfl | rfl | rfl
  · exact (show Tryd.prog.wantsStandIn 22 = false by kernel_rfl)
  · exact (show Tryd.prog.wantsStandIn 3 = false by kernel_rfl)
  · exact (show Tryd.prog.wantsStandIn 5 = false by kernel_rfl)

end Go.Proofs.YtlcmfefcammklaaDoor.lexNumbers
namespace Go.Proofs.YtlcmfefcammklaaDoor
theorem lexNumbers_holds : Rows.LexNumbersCardSaid :=
  Claim7.holds_tied_plain_at .later [] _ _ _ _ lexNumbers.said (fun _ h => by cases h) (by kernel_rfl) (fun _ h => by cases h) lexNumbers_row_tie rfl ⟨rfl, rfl⟩ (by kernel_rfl) rfl lexNumbers.plain (by kernel_rfl)
#print axioms lexNumbers_holds
end Go.Proofs.YtlcmfefcammklaaDoor
