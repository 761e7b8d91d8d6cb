/- For every capacity and every number the law GateFills returns true: as many events are taken as the capacity says and one more is not, whatever its place; when some have been let through, just so many have room again. No condition. -/
import Derived.Test.YtoehkpejdpejcaaGlb
import Derived.Carry
import Derived.ChangeMaps5
import Derived.SizedLaws
import Derived.Lib.SmallJoins
import Derived.Deep.DeepHandedRow
namespace Go.Proofs.Ytoehkpejdpejcaa.gateFills
open Go.ChangeShapes Go.WideShapes Go.ChangeAt Go.RowKit Go.BigFrame Go.Maps
set_option linter.unusedVariables false
set_option linter.unusedSimpArgs false

/-- An event behind all that is held. -/
theorem push_end {s : Gs} {x : Ev} (hc : s.cl = false) (h0 : -1152921504606846976 ≤ x.ts) (h1 : x.ts ≤ 1152921504606846976) (hm : s.mark < x.ts) (hl : (s.l.length : Int) < s.cap) (hb : ∀ y ∈ s.l, y.ts < x.ts) : s.pushC x = 0 ∧ s.push x = { s with l := s.l ++ [x] } := by
  have hn : hasN s.l x.ts x.id = false := by
    cases hh : hasN s.l x.ts x.id with
    | false => rfl
    | true =>
      obtain ⟨y, h1, h2, _⟩ := hasN_true.1 hh
      have := hb y h1
      omega
  have eC : s.pushC x = 0 := by
    unfold Gs.pushC
    rw [if_neg (by rw [hc]; decide), if_neg (by omega), if_neg (by omega), if_neg (by rw [hn]; decide), if_neg (by omega)]
  refine ⟨eC, ?_⟩
  unfold Gs.push
  rw [if_pos eC, ins_end fun y hy => (evLt_iff _ _).2 (.inl (hb y hy))]
theorem push_full {s : Gs} {x : Ev} (hc : s.cl = false) (h0 : -1152921504606846976 ≤ x.ts) (h1 : x.ts ≤ 1152921504606846976) (hm : s.mark < x.ts) (hl : s.cap ≤ (s.l.length : Int)) (hb : ∀ y ∈ s.l, y.ts ≠ x.ts) : s.pushC x = 104 ∧ s.push x = s := by
  have hn : hasN s.l x.ts x.id = false := by
    cases hh : hasN s.l x.ts x.id with
    | false => rfl
    | true =>
      obtain ⟨y, h1, h2, _⟩ := hasN_true.1 hh
      exact absurd h2 (hb y h1)
  have eC : s.pushC x = 104 := by
    unfold Gs.pushC
    rw [if_neg (by rw [hc]; decide), if_neg (by omega), if_neg (by omega), if_neg (by rw [hn]; decide), if_pos hl]
  exact ⟨eC, Gs.push_no (by rw [eC]; decide)⟩
/-- The first n events. -/
def fA (n : Nat) : List Ev := (List.range n).map fun j : Nat => mkE (2 * (j : Int)) 1
theorem fA_len (n : Nat) : (fA n).length = n := by simp [fA]
theorem fA_snoc (n : Nat) : fA (n + 1) = fA n ++ [mkE (2 * (n : Int)) 1] := by simp [fA, List.range_succ]
theorem fA_mem {n : Nat} {y : Ev} (h : y ∈ fA n) : ∃ j, j < n ∧ y = mkE (2 * (j : Int)) 1 := by
  unfold fA at h
  obtain ⟨j, h1, h2⟩ := List.mem_map.1 h
  exact ⟨j, List.mem_range.1 h1, h2.symm⟩
theorem fA_at (n k : Nat) (h : k < n) : (fA n).getD k zrEv = mkE (2 * (k : Int)) 1 := by
  unfold fA
  rw [List.getD_eq_getElem?_getD, List.getElem?_map, List.getElem?_range h]
  rfl
/-- k events more. -/
def fB (c : Int) (k : Nat) : List Ev := (List.range k).map fun j : Nat => mkE (2 * (j : Int) + 2 * c) 2
theorem fB_len (c : Int) (k : Nat) : (fB c k).length = k := by simp [fB]
theorem fB_snoc (c : Int) (k : Nat) : fB c (k + 1) = fB c k ++ [mkE (2 * (k : Int) + 2 * c) 2] := by simp [fB, List.range_succ]
theorem fB_mem {c : Int} {k : Nat} {y : Ev} (h : y ∈ fB c k) : ∃ j, j < k ∧ y = mkE (2 * (j : Int) + 2 * c) 2 := by
  unfold fB at h
  obtain ⟨j, h1, h2⟩ := List.mem_map.1 h
  exact ⟨j, List.mem_range.1 h1, h2.symm⟩
/-- What is left behind the mark, and what has come since. -/
def fC (n gone k : Nat) : List Ev := (fA n).drop gone ++ fB (n : Int) k
theorem fC_len {n gone : Nat} (k : Nat) (h : gone ≤ n) : (fC n gone k).length = n - gone + k := by simp [fC, fA_len, fB_len]
theorem fC_mem {n gone k : Nat} {y : Ev} (h : y ∈ fC n gone k) : y.ts < 2 * (n : Int) ∨ ∃ j, j < k ∧ y.ts = 2 * (j : Int) + 2 * (n : Int) := by
  rcases List.mem_append.1 h with h | h
  · obtain ⟨j, h1, h2⟩ := fA_mem ((List.drop_sublist _ _).subset h)
    left
    rw [h2]
    show 2 * (j : Int) < _
    omega
  · obtain ⟨j, h1, h2⟩ := fB_mem h
    right
    exact ⟨j, h1, by rw [h2]; rfl⟩
theorem fill_cut {n gone : Nat} (h : gone ≤ n) : (fA n).takeWhile (atM (2 * (gone : Int) - 1)) = (fA n).take gone ∧ (fA n).dropWhile (atM (2 * (gone : Int) - 1)) = (fA n).drop gone := by
  obtain ⟨h1, h2⟩ := take_while (m := 2 * (gone : Int) - 1) (l := fA n) (k := gone) (by rw [fA_len]; exact h) (fun e he => by
    obtain ⟨i, hi, rfl⟩ := List.getElem_of_mem he
    rw [List.length_take, fA_len] at hi
    have := fA_at n i (by omega)
    rw [getD_of_lt (fA n) i (by rw [fA_len]; omega)] at this
    rw [List.getElem_take, this]
    show 2 * (i : Int) ≤ _
    omega) (fun hk => by
    rw [fA_len] at hk
    rw [fA_at n gone hk]
    show _ < 2 * (gone : Int)
    omega)
  exact ⟨h1.symm, h2.symm⟩
structure R1 (w : World) (g n : Nat) (vi : Value) (wr : World) : Prop where
  ex : ∃ (i : Nat) (S : Nat → Prop), i ≤ n ∧ vi = .int .i64 (i : Int) ∧ Gat wr g S ⟨(n : Int), -1152921504606846977, false, fA i⟩ i ∧ (∀ k, S k → w.heap.size ≤ k) ∧ Below w.heap.size w wr
structure R2 (w : World) (g n gone : Nat) (vi : Value) (wr : World) : Prop where
  ex : ∃ (i : Nat) (S : Nat → Prop), i ≤ gone ∧ vi = .int .i64 (i : Int) ∧ Gat wr g S ⟨(n : Int), 2 * (gone : Int) - 1, false, fC n gone i⟩ (n + 3 + i) ∧ (∀ k, S k → w.heap.size ≤ k) ∧ Below w.heap.size w wr
theorem stepG {w wr u : World} {g : Nat} {S : Nat → Prop} {s' : Gs} {t' : Nat} (P : GStep g S wr u s' t') (lo : ∀ k, S k → w.heap.size ≤ k) (B : Below w.heap.size w wr) : ∃ S', Gat u g S' s' t' ∧ (∀ k, S' k → w.heap.size ≤ k) ∧ Below w.heap.size w u := by
  obtain ⟨S', G', F, V⟩ := P.ex
  exact ⟨S', G', fun k e => (V k e).elim (lo k) fun h => Nat.le_trans B.size h, F.toBelow B (Nat.le_refl _) lo⟩
set_option maxRecDepth 100000 in
set_option maxHeartbeats 8000000 in
theorem walk (cap : Int) (hcap : (Lit.int .i64 cap).wf = true) (gone : Int) (hgone : (Lit.int .i64 gone).wf = true) (w : World) : Calls Try.prog 3 #[.int .i64 cap, .int .i64 gone] w fun e w' => e = .returned (.bool true) ∧ Below w.heap.size w w' := by
  clear hcap hgone
  by_cases hc : cap < 1 ∨ 4096 < cap
  · have cN1 := fun u : World => new_no hc u
    by_cases h1 : cap < 1
    · clear hc
      go_enter Try.func3, Try.ntmps3
      go_wp2_with (first
        | (go_at_call 9; (with_reducible refine (cN1 w).mono ?_); rintro e u1 ⟨rfl, g1⟩))
      go_ret
      exact ⟨rfl, g1⟩
    · have h2 : 4096 < cap := by omega
      clear hc
      go_enter Try.func3, Try.ntmps3
      go_wp2_with (first
        | (go_at_call 9; (with_reducible refine (cN1 w).mono ?_); rintro e u1 ⟨rfl, g1⟩))
      go_ret
      exact ⟨rfl, g1⟩
  obtain ⟨n, rfl⟩ : ∃ n : Nat, cap = (n : Int) := ⟨cap.toNat, by omega⟩
  have hn1 : 1 ≤ n := by omega
  have hn2 : n ≤ 4096 := by omega
  have cN1 := fun u : World => new_yes (cap := (n : Int)) (by omega) (by omega) u
  have hptr : ∀ (b : Nat) (W : World), (binOp .eql 22 (.pointer (some ⟨b, 0, none⟩)) (.pointer none)).run Try.prog W = .ok (.bool false) W := fun b W => by kernel_rfl
  clear hc
  go_enter Try.func3, Try.ntmps3
  go_upto_region 7 with (first
    | (go_at_call 9; (with_reducible refine (cN1 w).mono ?_); rintro e u1 ⟨g, S0, rfl, G1, Sg, Slo, g1⟩))
  clear cN1 hptr Sg
  go_loopw [7] (fun vi wr => R1 w g n vi wr) (fun vi _ => n - (intOf vi).toNat)
  case atStart => exact ⟨0, S0, Nat.zero_le _, rfl, G1, Slo, g1⟩
  case round =>
    obtain ⟨i, S, hi, rfl, G, lo, B⟩ := hrel
    clear G1 Slo g1
    by_cases hlt : i < n
    · have q1 : (i : Int) < (n : Int) := by omega
      have hi2 : (i : Int) ≤ 4096 := by omega
      have hi0 : (0 : Int) ≤ (i : Int) := by omega
      obtain ⟨eC, eS⟩ := push_end (s := ⟨(n : Int), -1152921504606846977, false, fA i⟩) (x := mkE (2 * (i : Int)) 1) rfl (by show _ ≤ 2 * (i : Int); omega) (by show 2 * (i : Int) ≤ _; omega) (by show (-1152921504606846977 : Int) < 2 * (i : Int); omega) (by rw [fA_len]; exact q1) (fun y hy => by obtain ⟨j, h1, h2⟩ := fA_mem hy; rw [h2]; show 2 * (j : Int) < 2 * (i : Int); omega)
      have c5 := push_mk g i S _ (2 * (i : Int)) 1 0 wr G ⟨by omega, by omega, by omega, by omega⟩ (by omega) eC
      rw [eS] at c5
      dsimp only at c5
      rw [← fA_snoc] at c5
      have HT : Hid (i < n) := hlt
      clear eC eS hlt
      go_wp2_with (first
        | (go_at_call 10; (with_reducible refine c5.mono ?_); rintro e u5 ⟨rfl, P5⟩; obtain ⟨S5, G5, lo5, B5⟩ := stepG P5 lo B))
      go_roundw
      case rel => have hlt : i < n := HT; exact ⟨i + 1, S5, by omega, by go_num, G5, lo5, B5⟩
      case measure => have hlt : i < n := HT; simp [intOf]; omega
    · obtain rfl : i = n := by omega
      have hki : ¬ (i : Int) < (i : Int) := by omega
      have hi2 : (i : Int) ≤ 4096 := by omega
      have hi1 : (1 : Int) ≤ (i : Int) := by omega
      obtain ⟨eC1, eS1⟩ := push_full (s := ⟨(i : Int), -1152921504606846977, false, fA i⟩) (x := mkE (-1) 1) rfl (by show (_ : Int) ≤ -1; omega) (by show (-1 : Int) ≤ _; omega) (by show (-1152921504606846977 : Int) < -1; omega) (by rw [fA_len]; exact Int.le_refl _) (fun y hy => by obtain ⟨j, h1, h2⟩ := fA_mem hy; rw [h2]; show 2 * (j : Int) ≠ -1; omega)
      obtain ⟨eC3, eS3⟩ := push_full (s := ⟨(i : Int), -1152921504606846977, false, fA i⟩) (x := mkE (2 * (i : Int)) 1) rfl (by show (_ : Int) ≤ 2 * (i : Int); omega) (by show 2 * (i : Int) ≤ _; omega) (by show (-1152921504606846977 : Int) < 2 * (i : Int); omega) (by rw [fA_len]; exact Int.le_refl _) (fun y hy => by obtain ⟨j, h1, h2⟩ := fA_mem hy; rw [h2]; show 2 * (j : Int) ≠ 2 * (i : Int); omega)
      have eC2 : Gs.pushC ⟨(i : Int), -1152921504606846977, false, fA i⟩ (mkE 0 1) = 103 := by
        unfold Gs.pushC
        rw [if_neg (by simp), if_neg (by simp [mkE]), if_neg (by simp [mkE]), if_pos]
        exact hasN_true.2 ⟨mkE 0 1, by unfold fA; exact List.mem_map.2 ⟨0, List.mem_range.2 hn1, rfl⟩, rfl, rfl⟩
      have eS2 := Gs.push_no (s := ⟨(i : Int), -1152921504606846977, false, fA i⟩) (x := mkE 0 1) (by rw [eC2]; decide)
      have c1 := push_mk g i S _ (-1) 1 104 wr G ⟨by omega, by omega, by omega, by omega⟩ (by omega) eC1
      rw [eS1] at c1
      have k2 : ∀ (Y : World) (S' : Nat → Prop) (t : Nat), Gat Y g S' ⟨(i : Int), -1152921504606846977, false, fA i⟩ t → t + 1 ≤ 140737488351232 → _ := fun Y S' t G' ht => push_mk g t S' _ 0 1 103 Y G' ⟨by omega, by omega, by omega, by omega⟩ ht eC2
      have k3 : ∀ (Y : World) (S' : Nat → Prop) (t : Nat), Gat Y g S' ⟨(i : Int), -1152921504606846977, false, fA i⟩ t → t + 1 ≤ 140737488351232 → _ := fun Y S' t G' ht => push_mk g t S' _ (2 * (i : Int)) 1 104 Y G' ⟨by omega, by omega, by omega, by omega⟩ ht eC3
      rw [eS2] at k2
      rw [eS3] at k3
      clear eC1 eC2 eC3 eS1 eS2 eS3 hlt
      go_upto_region 13 with (first
        | (go_at_call 10; (with_reducible refine c1.mono ?_); rintro e u5 ⟨rfl, P5⟩; obtain ⟨S5, G5, lo5, B5⟩ := stepG P5 lo B; have c2 := k2 u5 S5 _ G5 (by omega))
        | (go_at_call 10; (with_reducible refine c2.mono ?_); rintro e u6 ⟨rfl, P6⟩; obtain ⟨S6, G6, lo6, B6⟩ := stepG P6 lo5 B5; have c3 := k3 u6 S6 _ G6 (by omega))
        | (go_at_call 10; (with_reducible refine c3.mono ?_); rintro e u7 ⟨rfl, P7⟩; obtain ⟨S7, G7, lo7, B7⟩ := stepG P7 lo6 B6))
      clear c1 c2 c3 k2 k3 P5 P6 P7 G5 G6 lo5 lo6 B5 B6 G lo B
      obtain ⟨p7, d7, cL⟩ := G7.pile
      have cL7 := cL u7 (Below.refl _ _)
      rw [show (Gs.l ⟨(i : Int), -1152921504606846977, false, fA i⟩).length = i from fA_len i] at cL7
      by_cases hg : gone < 0 ∨ (i : Int) < gone
      · by_cases hg1 : gone < 0
        · clear hg
          go_wp2_with (first
            | (go_at_call 11; (with_reducible refine cL7.mono ?_); rintro e u8 ⟨rfl, hu⟩; have hu' := hu.symm; subst hu'))
          go_ret
          exact ⟨by simp, B7⟩
        · have hg2 : (i : Int) < gone := by omega
          clear hg
          go_wp2_with (first
            | (go_at_call 11; (with_reducible refine cL7.mono ?_); rintro e u8 ⟨rfl, hu⟩; have hu' := hu.symm; subst hu'))
          go_ret
          exact ⟨by simp, B7⟩
      obtain ⟨m, rfl⟩ : ∃ m : Nat, gone = (m : Int) := ⟨gone.toNat, by omega⟩
      have hm1 : m ≤ i := by omega
      have hm2 : (m : Int) ≤ (i : Int) := by omega
      have hm3 : (0 : Int) ≤ (m : Int) := by omega
      have hgd : decide ((i : Int) < (m : Int)) = false := decide_eq_false (by omega)
      have eC : Gs.advC ⟨(i : Int), -1152921504606846977, false, fA i⟩ (2 * (m : Int) - 1) = 0 := by
        unfold Gs.advC
        rw [if_neg (by simp), if_neg (by omega), if_neg (by show ¬ (2 * (m : Int) - 1 < -1152921504606846977); omega)]
      obtain ⟨f1, f2⟩ := fill_cut hm1
      have eL : Gs.advL ⟨(i : Int), -1152921504606846977, false, fA i⟩ (2 * (m : Int) - 1) = (fA i).take m := by unfold Gs.advL; rw [if_pos eC]; exact f1
      have eS : Gs.adv ⟨(i : Int), -1152921504606846977, false, fA i⟩ (2 * (m : Int) - 1) = ⟨(i : Int), 2 * (m : Int) - 1, false, fC i m 0⟩ := by unfold Gs.adv; rw [if_pos eC]; simp only [f2, fC, fB, List.range_zero, List.map_nil, List.append_nil]
      have c8 := adv_any g (i + 1 + 1 + 1) S7 _ (2 * (m : Int) - 1) u7 G7
      rw [eC, eL, eS, show ((fA i).take m).length = m by rw [List.length_take, fA_len]; omega] at c8
      clear eC eL eS f1 f2 hg cL cL7 d7
      go_upto_region 16 with (first
        | (go_at_call 12; (with_reducible refine c8.mono ?_); rintro e u8 ⟨a8, cp8, rfl, P8⟩; obtain ⟨S8, G8, lo8, B8⟩ := stepG P8.step lo7 B7))
      obtain ⟨p8, d8, cL⟩ := G8.pile
      have cL8 := cL u8 (Below.refl _ _)
      rw [show (Gs.l ⟨(i : Int), 2 * (m : Int) - 1, false, fC i m 0⟩).length = i - m from fC_len 0 hm1, show ((i - m : Nat) : Int) = (i : Int) - (m : Int) by omega] at cL8
      clear cL c8
      go_upto_region 19 with (first
        | (go_at_call 11; (with_reducible refine cL8.mono ?_); rintro e u9 ⟨rfl, hu⟩; have hu' := hu.symm; subst hu'))
      clear cL8 d8 P8 G7 lo7 B7
      obtain ⟨wo, hwo⟩ : ∃ wo, wo = wr := ⟨_, rfl⟩
      subst hwo
      go_loopw [10] (fun vi wr => R2 w g i m vi wr) (fun vi _ => m - (intOf vi).toNat)
      case atStart => exact ⟨0, S8, Nat.zero_le _, rfl, G8, lo8, B8⟩
      case round =>
        obtain ⟨k, S, hk, rfl, G, lo, B⟩ := hrel
        clear G8 lo8 B8
        by_cases hlt : k < m
        · have q2 : (k : Int) < (m : Int) := by omega
          have hk2 : (k : Int) ≤ 4096 := by omega
          have hk0 : (0 : Int) ≤ (k : Int) := by omega
          obtain ⟨eC, eS⟩ := push_end (s := ⟨(i : Int), 2 * (m : Int) - 1, false, fC i m k⟩) (x := mkE (2 * (k : Int) + 2 * (i : Int)) 2) rfl (by show (_ : Int) ≤ 2 * (k : Int) + 2 * (i : Int); omega) (by show 2 * (k : Int) + 2 * (i : Int) ≤ _; omega) (by show 2 * (m : Int) - 1 < 2 * (k : Int) + 2 * (i : Int); omega) (by rw [fC_len k hm1]; show ((i - m + k : Nat) : Int) < (i : Int); omega) (fun y hy => by
            show y.ts < 2 * (k : Int) + 2 * (i : Int)
            rcases fC_mem hy with h | ⟨j, h1, h2⟩
            · omega
            · omega)
          have c5 := push_mk g (i + 3 + k) S _ (2 * (k : Int) + 2 * (i : Int)) 2 0 wr G ⟨by omega, by omega, by omega, by omega⟩ (by omega) eC
          rw [eS] at c5
          dsimp only at c5
          rw [show fC i m k ++ [mkE (2 * (k : Int) + 2 * (i : Int)) 2] = fC i m (k + 1) by unfold fC; rw [fB_snoc, List.append_assoc]] at c5
          have HT : Hid (k < m) := hlt
          clear eC eS hlt
          go_wp2_with (first
            | (go_at_call 10; (with_reducible refine c5.mono ?_); rintro e u5 ⟨rfl, P5⟩; obtain ⟨S5, G5, lo5, B5⟩ := stepG P5 lo B))
          go_roundw
          case rel => have hlt : k < m := HT; exact ⟨k + 1, S5, by omega, by go_num, G5, lo5, B5⟩
          case measure => have hlt : k < m := HT; simp [intOf]; omega
        · obtain rfl : k = m := by omega
          have hkk : ¬ (k : Int) < (k : Int) := by omega
          obtain ⟨eC, eS⟩ := push_full (s := ⟨(i : Int), 2 * (k : Int) - 1, false, fC i k k⟩) (x := mkE (8 * (i : Int)) 1) rfl (by show (_ : Int) ≤ 8 * (i : Int); omega) (by show 8 * (i : Int) ≤ _; omega) (by show 2 * (k : Int) - 1 < 8 * (i : Int); omega) (by rw [fC_len k hm1]; show (i : Int) ≤ ((i - k + k : Nat) : Int); omega) (fun y hy => by
            show y.ts ≠ 8 * (i : Int)
            rcases fC_mem hy with h | ⟨j, h1, h2⟩
            · omega
            · omega)
          have c5 := push_mk g (i + 3 + k) S _ (8 * (i : Int)) 1 104 wr G ⟨by omega, by omega, by omega, by omega⟩ (by omega) eC
          rw [eS] at c5
          clear eC eS hlt
          go_wp2_with (first
            | (go_at_call 10; (with_reducible refine c5.mono ?_); rintro e u5 ⟨rfl, P5⟩; obtain ⟨S5, G5, lo5, B5⟩ := stepG P5 lo B; obtain ⟨p5, d5, cL⟩ := G5.pile; have cL5 := cL u5 (Below.refl _ _); rw [show (Gs.l ⟨(i : Int), 2 * (k : Int) - 1, false, fC i k k⟩).length = i from (fC_len k hm1).trans (by omega)] at cL5)
            | (go_at_call 11; (with_reducible refine cL5.mono ?_); rintro e u8 ⟨rfl, hu⟩; have hu' := hu.symm; subst hu'))
          go_ret
          exact ⟨by simp, B5⟩

theorem own : ownKnob Try.prog.godebug = none := by kernel_rfl
theorem laidOut : laidOutB Try.prog = true := by kernel_rfl

set_option maxRecDepth 100000 in
theorem lifted (os : Os) (started : os.Started) (H : Type) (enc : TypeId × Value → H) :
    ReturnsInHanded {} Try.checked os 3 .any (Rows.gateFillsSpec.pre6 enc Try.prog Try.f3 Rows.gateFillsRow.domain false) (Rows.gateFillsSpec.post enc Try.prog Try.f3 false true false false) := by
  refine returnsInHanded_of_change (C := Try.checked) own started (by kernel_rfl) Try.func3
    (ChangeSpec.witness6 (enc := enc) (C := Try.checked) false ⟨#[], #[.int .i64 0, .int .i64 0], []⟩ 8 (by kernel_rfl) (by kernel_rfl) (by kernel_rfl) (by kernel_rfl)) ?_
  intro W base args ds gs before hval0 hW hcnd _
  have hval : ∀ (j : Nat) t v, Try.f3.params[j]? = some t → args[j]? = some v → Value.okWide Try.prog W .any base t v := hval0
  have hW' := hW
  obtain ⟨p, q, hA0, hV, rfl, hfz, hnd⟩ := hW
  have hA : DataW.TrodAll enc Try.prog W 0 (fun _ => true) true Try.f3.params.toList args.toList ds p := hA0
  rw [Try.params3] at hA hval
  obtain ⟨v0, vs0, d0, ds0, p0, q0, hargs, rfl, rfl, h0, r0⟩ := trodAll_cons hA
  obtain ⟨v1, vs1, d1, ds1, p1, q1, rfl, rfl, rfl, h1, r1⟩ := trodAll_cons r0
  obtain ⟨rfl, rfl, rfl⟩ := trodAll_nil r1
  obtain rfl : args = #[v0, v1] := by cases args; simp_all
  obtain ⟨rfl, rfl⟩ := trodVars_none hV
  have k0 := h0
  have lt0 : ∀ x ∈ p0, x.block < W.heap.size := by obtain ⟨m, hm⟩ := k0; exact DataW.trod_lt m _ _ _ hm
  obtain ⟨a0, e0, _, _, w0⟩ := open_int Try.underlying3 (hval 0 3 v0 rfl rfl) h0
  subst e0
  have k1 := h1
  have lt1 : ∀ x ∈ p1, x.block < W.heap.size := by obtain ⟨m, hm⟩ := k1; exact DataW.trod_lt m _ _ _ hm
  obtain ⟨a1, e1, _, _, w1⟩ := open_int Try.underlying3 (hval 1 3 v1 rfl rfl) h1
  subst e1
  clear hA0 hval0
  refine (walk a0 w0 a1 w1 W).mono fun e W' ⟨he, bel⟩ => ?_
  subst he
  exact ⟨_, rfl, _, _, _, [], _, [], hW', trodAll_mk1 (shut_bool Try.underlying4 _), (trodAll_cons_mk (Below.trod laidOut (by kernel_rfl) (of_decide_eq_true (by kernel_rfl)) k0 bel lt0) (trodAll_cons_mk (Below.trod laidOut (by kernel_rfl) (of_decide_eq_true (by kernel_rfl)) k1 bel lt1) trodAll_mk0)), rfl, bel.frame _, fun h => by cases h⟩

theorem over : Rows.gateFillsRow.holds Try.pinned (OpenSpec.ofChange Rows.gateFillsSpec) :=
  OpenClaim.holds_of_wide 3 Try.f3 rfl rfl rfl rfl rfl rfl rfl ⟨rfl, rfl, rfl, rfl, rfl⟩ rfl rfl rfl rfl rfl (by kernel_rfl) Try.func3 (by kernel_rfl)
    (of_decide_eq_true (by kernel_rfl)) (by unfold Func.isWrapper; first | (rw [if_pos (by decide +kernel)]; kernel_rfl) | (rw [if_neg (by decide +kernel)]; exact ⟨rfl, rfl⟩))
    (fun os started H enc _ => lifted os started H enc)

end Go.Proofs.Ytoehkpejdpejcaa.gateFills
namespace Go.Proofs.Ytoehkpejdpejcaa
theorem gateFills_holds : Rows.GateFillsSaid := gateFills.over
#print axioms gateFills_holds
end Go.Proofs.Ytoehkpejdpejcaa
