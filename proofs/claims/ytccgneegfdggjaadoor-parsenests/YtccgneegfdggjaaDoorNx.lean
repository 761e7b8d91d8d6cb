/- The law ParseNests walked. -/
import Derived.Test.YtccgneegfdggjaaDoorNw
import Derived.Test.YtccgneegfdggjaaDoorQk
import Derived.Test.YtccgneegfdggjaaDoorOpenI
namespace Go.Proofs.YtccgneegfdggjaaDoor.parseNests
open Go.RowKit Go.BigFrame
set_option linter.unusedVariables false
set_option linter.unusedSimpArgs false

theorem tx_app (a b : List UInt8) : tx a ++ tx b = tx (a ++ b) := by
  apply ByteArray.ext
  simp [ByteArray.data_append]
theorem txO_le : ∀ ks : List Nat, (txO ks).length ≤ 4 * ks.length
  | [] => by simp [txO]
  | k :: r => by
    have h1 := txO_le r
    have : (pcO k).length ≤ 4 := by unfold pcO; split <;> (try split) <;> decide
    simp only [txO, List.length_append, List.length_cons]; omega
theorem rep_snoc (m : Nat) : tx (List.replicate m 41) ++ (⟨#[41]⟩ : ByteArray) = tx (List.replicate (m + 1) 41) := by
  rw [List.replicate_succ']
  exact tx_app _ [41]
theorem next {zs : List Int} {ks : List Nat} {b b' : Bool} {z : Int} {x k : Nat} (H : effN zs (k + 1) = stpN (ks, b) z ∧ ks.length = k) (hst : stpN (ks, b) z = (ks ++ [x], b')) :
    tx (txO ks) ++ tx (pcO x) = tx (txO (effN zs (k + 1)).1) ∧ brK (effN zs (k + 1)).1 = brK ks + (if x = 0 then 1 else 0) ∧ deepN (effN zs (k + 1)).1 = (if k = 32 then ((txO ks).length : Int) else deepN ks) ∧ (effN zs (k + 1)).2 = b' := by
  obtain ⟨h1, h2⟩ := H
  rw [h1, hst]
  refine ⟨by rw [tx_app, txO_snoc], brK_snoc _ _, ?_, rfl⟩
  unfold deepN
  simp only [List.length_append, List.length_cons, List.length_nil]
  by_cases h : k = 32
  · rw [if_pos (by omega), if_pos h, List.take_append_of_le_length (by omega), List.take_of_length_le (by omega)]
  · rw [if_neg h]
    by_cases h3 : 32 < k
    · rw [if_pos (by omega), if_pos (by omega), List.take_append_of_le_length (by omega)]
    · rw [if_neg (by omega), if_neg (by omega)]
set_option maxRecDepth 100000 in
set_option maxHeartbeats 8000000 in
theorem walk (ao : Option Addr) (cap : Nat) (zs : List Int) (cl : Bool) (w : World) (K : KwAt w) (Sg : SgAt w) (E : ErAt w) (hcap : zs.length ≤ cap) (I : IsInts w ao zs) (hz : zs.length * 8 ≤ 140737488351232) :
    Calls Tryd.prog 3 #[.slice ao zs.length cap, .bool cl] w fun e w' => e = .returned (.bool true) ∧ Below w.heap.size w w' := by
  have c0 := awake_any w K Sg E
  obtain ⟨n, hn⟩ : ∃ n, n = zs.length := ⟨_, rfl⟩
  rw [← hn] at hcap hz ⊢
  have HN : Hid (n = zs.length) := hn
  clear hn
  go_enter Tryd.func3, Tryd.ntmps3
  go_wp2_with (go_at_call 7; (with_reducible refine c0.mono ?_); rintro e V ⟨rfl, g0⟩)
  go_loopw [5, 6, 7, 8, 9, 10] (fun x1 x2 x3 x4 x5 x6 wr => ∃ k : Nat, k ≤ n ∧ k ≤ 60 ∧ x1 = .string (tx (txO (effN zs k).1)) ∧ x2 = .string (tx (List.replicate (brK (effN zs k).1) 41)) ∧ x3 = .int .i64 (deepN (effN zs k).1) ∧ x4 = .int .i64 k ∧ x5 = .bool (effN zs k).2 ∧ x6 = .int .i64 k ∧ Below w.heap.size w wr) (fun _ _ _ _ _ i _ => n - (intOf i).toNat)
  case atStart => exact ⟨0, Nat.zero_le _, Nat.zero_le _, rfl, rfl, rfl, rfl, rfl, rfl, g0⟩
  case round =>
    obtain ⟨k, hk, hk6, rfl, rfl, rfl, rfl, rfl, rfl, G⟩ := hrel
    by_cases hlt : k < n ∧ k < 60
    · obtain ⟨h1, h2⟩ := hlt
      obtain ⟨g, o, rfl, hc⟩ := I k (by rw [← HN.out]; exact h1)
      replace hc := (G.cell (p := ⟨_, _, none⟩) (lt_of_cell hc)).trans hc
      obtain ⟨z, hz'⟩ : ∃ z, z = zs.getD k 0 := ⟨_, rfl⟩
      rw [← hz'] at hc
      obtain ⟨hO, hE, hL⟩ := effN_ok zs k (by rw [← HN.out]; exact hk)
      have hS := effN_succ zs k (by rw [← HN.out]; exact h1)
      rw [← hz'] at hS
      have HS : Hid (effN zs (k + 1) = stpN (effN zs k) z ∧ (effN zs k).1.length = k) := ⟨hS, hL⟩
      clear hS hL hE hO hz' I
      generalize effN zs k = y at *
      obtain ⟨ks, b⟩ := y
      dsimp only at HS ⊢
      have ht : (txO ks).length ≤ 240 := by have := txO_le ks; have := HS.out.2; omega
      have hb : brK ks ≤ 60 := by have := brK_le ks; have := HS.out.2; omega
      have hcs : (z = 1 ∧ b = true) ∨ (z = 1 ∧ b = false) ∨ z = 2 ∨ (z ≠ 1 ∧ z ≠ 2) := by
        by_cases q1 : z = 1
        · cases b
          · exact .inr (.inl ⟨q1, rfl⟩)
          · exact .inl ⟨q1, rfl⟩
        · by_cases q2 : z = 2
          · exact .inr (.inr (.inl q2))
          · exact .inr (.inr (.inr ⟨q1, q2⟩))
      rcases hcs with ⟨rfl, rfl⟩ | ⟨rfl, rfl⟩ | rfl | ⟨e1, e2⟩
      · by_cases h33 : k = 32
        · subst h33
          go_wp2
          go_roundw
          case rel =>
            obtain ⟨n1, n2, n3, n4⟩ := next (x := 1) (b' := true) HS.out (by simp [stpN])
            exact ⟨32 + 1, by omega, by omega, congrArg Value.string n1, by rw [n2]; rfl, by rw [n3]; rfl, by go_num, by rw [n4], by go_num, G⟩
          case measure => simp [intOf]; omega
        · have f3 : (((k : Int) + 1) == 33) = false := by simp; omega
          go_wp2
          go_roundw
          case rel =>
            obtain ⟨n1, n2, n3, n4⟩ := next (x := 1) (b' := true) HS.out (by simp [stpN])
            exact ⟨k + 1, by omega, by omega, congrArg Value.string n1, by rw [n2]; rfl, by rw [n3, if_neg h33], by go_num, by rw [n4], by go_num, G⟩
          case measure => simp [intOf]; omega
      · by_cases h33 : k = 32
        · subst h33
          go_wp2
          go_roundw
          case rel =>
            obtain ⟨n1, n2, n3, n4⟩ := next (x := 0) (b' := true) HS.out (by simp [stpN])
            exact ⟨32 + 1, by omega, by omega, congrArg Value.string n1, by rw [n2, rep_snoc]; rfl, by rw [n3]; rfl, by go_num, by rw [n4], by go_num, G⟩
          case measure => simp [intOf]; omega
        · have f3 : (((k : Int) + 1) == 33) = false := by simp; omega
          go_wp2
          go_roundw
          case rel =>
            obtain ⟨n1, n2, n3, n4⟩ := next (x := 0) (b' := true) HS.out (by simp [stpN])
            exact ⟨k + 1, by omega, by omega, congrArg Value.string n1, by rw [n2, rep_snoc]; rfl, by rw [n3, if_neg h33], by go_num, by rw [n4], by go_num, G⟩
          case measure => simp [intOf]; omega
      · by_cases h33 : k = 32
        · subst h33
          go_wp2
          go_roundw
          case rel =>
            obtain ⟨n1, n2, n3, n4⟩ := next (x := 2) (b' := false) HS.out (by simp [stpN])
            exact ⟨32 + 1, by omega, by omega, congrArg Value.string n1, by rw [n2]; rfl, by rw [n3]; rfl, by go_num, by rw [n4], by go_num, G⟩
          case measure => simp [intOf]; omega
        · have f3 : (((k : Int) + 1) == 33) = false := by simp; omega
          go_wp2
          go_roundw
          case rel =>
            obtain ⟨n1, n2, n3, n4⟩ := next (x := 2) (b' := false) HS.out (by simp [stpN])
            exact ⟨k + 1, by omega, by omega, congrArg Value.string n1, by rw [n2]; rfl, by rw [n3, if_neg h33], by go_num, by rw [n4], by go_num, G⟩
          case measure => simp [intOf]; omega
      · have f1 : (z == 1) = false := by simpa using e1
        have f2 : (z == 2) = false := by simpa using e2
        by_cases h33 : k = 32
        · subst h33
          go_wp2
          go_roundw
          case rel =>
            obtain ⟨n1, n2, n3, n4⟩ := next (x := 0) (b' := true) HS.out (by simp [stpN, e1, e2])
            exact ⟨32 + 1, by omega, by omega, congrArg Value.string n1, by rw [n2, rep_snoc]; rfl, by rw [n3]; rfl, by go_num, by rw [n4], by go_num, G⟩
          case measure => simp [intOf]; omega
        · have f3 : (((k : Int) + 1) == 33) = false := by simp; omega
          go_wp2
          go_roundw
          case rel =>
            obtain ⟨n1, n2, n3, n4⟩ := next (x := 0) (b' := true) HS.out (by simp [stpN, e1, e2])
            exact ⟨k + 1, by omega, by omega, congrArg Value.string n1, by rw [n2, rep_snoc]; rfl, by rw [n3, if_neg h33], by go_num, by rw [n4], by go_num, G⟩
          case measure => simp [intOf]; omega
    · have hke : k = n ∧ k ≤ 60 ∨ k = 60 := by omega
      obtain ⟨hO, hE, hL⟩ := effN_ok zs k (by rw [← HN.out]; exact hk)
      have hX := exO_nest (effN zs k).1 (if cl then brK (effN zs k).1 else 0) hO (by have := brK_le (effN zs k).1; split <;> omega) (by cases cl <;> simp)
      have ht : (txO (effN zs k).1).length ≤ 240 := by have := txO_le (effN zs k).1; omega
      have hb : brK (effN zs k).1 ≤ 60 := by have := brK_le (effN zs k).1; omega
      rw [hL] at hX
      generalize effN zs k = y at *
      obtain ⟨ks, b⟩ := y
      dsimp only at hO hE hL hX ht hb ⊢
      have c3 := fun (s : ByteArray) (hs : s.size ≤ 140737488351232) (u : World) (g : Below w.heap.size w u) => expr_call s hs u (K.keep g) (Sg.keep g) (E.keep g)
      have z1 : ∀ m, m ≤ 60 → (tx (txO ks ++ 49 :: List.replicate m 41)).size ≤ 140737488351232 := fun m hm => by rw [szM]; simp; omega
      have hd1 : 32 < k → deepN ks = ((txO (ks.take 32)).length : Int) := fun h => by unfold deepN; rw [if_pos (by omega)]
      have hd2 : k ≤ 32 → deepN ks = -1 := fun h => by unfold deepN; rw [if_neg (by omega)]
      have s1 : tx (txO ks) ++ (⟨#[49]⟩ : ByteArray) ++ tx (List.replicate (brK ks) 41) = tx (txO ks ++ 49 :: List.replicate (brK ks) 41) := by
        rw [show (⟨#[49]⟩ : ByteArray) = tx [49] from rfl, tx_app, tx_app]; simp
      have s0 : tx (txO ks) ++ (⟨#[49]⟩ : ByteArray) = tx (txO ks ++ 49 :: List.replicate 0 41) := by
        rw [show (⟨#[49]⟩ : ByteArray) = tx [49] from rfl, tx_app]; simp
      obtain ⟨X1, X2, X3⟩ := hX
      clear HN I c0 hO hE
      cases cl
      · simp only [Bool.false_eq_true, if_false] at X1 X2 X3
        have c4 := fun u g => c3 _ (z1 0 (by omega)) u g
        rw [← s0] at X1 X2 X3 c4
        clear c3 z1 s1 s0
        by_cases h32 : 32 < k
        · rw [X1 h32] at c4
          rw [hd1 h32]
          clear X1 X2 X3 hd1 hd2
          rcases hke with ⟨rfl, _⟩ | rfl
          all_goals
            go_wp2_with (go_at_call 8; (with_reducible refine (c4 _ G).mono ?_); rintro e u ⟨v1, v2, rfl, N1, N2, g3⟩; obtain ⟨a1, k1, rfl⟩ := own_shape N1; clear N1 N2)
            all_goals
              go_ret
              exact ⟨by first | rfl | (simp; done) | (simp; omega), gtrans G g3⟩
        · have h32' : k ≤ 32 := by omega
          rw [hd2 h32']
          by_cases hb0 : brK ks = 0
          · obtain ⟨ns, sp, X4, X5⟩ := X3 h32' hb0.symm
            rw [X4] at c4
            rw [hb0] at X5 ⊢
            dsimp only at c4
            clear X1 X2 X3 X4 hd1 hd2
            have X6 : ns.length = k + 1 := by omega
            rw [X6] at c4
            clear X5 X6
            rcases hke with ⟨rfl, _⟩ | rfl
            all_goals
              go_wp2_with (go_at_call 8; (with_reducible refine (c4 _ G).mono ?_); rintro e u ⟨v1, v2, rfl, N1, N2, g3⟩; obtain ⟨a1, k1, rfl⟩ := own_shape N1; clear N1 N2)
              all_goals
                go_ret
                exact ⟨by first | rfl | (simp; done) | (simp; omega), gtrans G g3⟩
          · rw [X2 h32' (by omega)] at c4
            dsimp only at c4
            obtain ⟨m, hm⟩ : ∃ m, brK ks = m + 1 := ⟨brK ks - 1, by omega⟩
            have q1 : (tx (List.replicate (brK ks) 41)).toList = 41 :: List.replicate m 41 := by rw [ByteArray.toList_eq, hm, List.replicate_succ]
            clear hm
            clear X1 X2 X3 hd1 hd2
            rcases hke with ⟨rfl, _⟩ | rfl
            all_goals
              go_wp2_with (go_at_call 8; (with_reducible refine (c4 _ G).mono ?_); rintro e u ⟨v1, v2, rfl, N1, N2, g3⟩; obtain ⟨a1, k1, rfl⟩ := own_shape N1; clear N1 N2)
              all_goals
                go_ret
                exact ⟨by first | rfl | (simp; done) | (simp; omega), gtrans G g3⟩
      · simp only [if_true] at X1 X2 X3
        have c4 := fun u g => c3 _ (z1 (brK ks) (by omega)) u g
        rw [← s1] at X1 X2 X3 c4
        clear c3 z1 s1 s0
        by_cases h32 : 32 < k
        · rw [X1 h32] at c4
          rw [hd1 h32]
          clear X1 X2 X3 hd1 hd2
          rcases hke with ⟨rfl, _⟩ | rfl
          all_goals
            go_wp2_with (go_at_call 8; (with_reducible refine (c4 _ G).mono ?_); rintro e u ⟨v1, v2, rfl, N1, N2, g3⟩; obtain ⟨a1, k1, rfl⟩ := own_shape N1; clear N1 N2)
            all_goals
              go_ret
              exact ⟨by first | rfl | (simp; done) | (simp; omega), gtrans G g3⟩
        · have h32' : k ≤ 32 := by omega
          rw [hd2 h32']
          obtain ⟨ns, sp, X4, X5⟩ := X3 h32' trivial
          rw [X4] at c4
          dsimp only at c4
          clear X1 X2 X3 X4 hd1 hd2
          have X6 : (ns.length : Int) = 1 + k - brK ks := by omega
          rcases hke with ⟨rfl, _⟩ | rfl
          all_goals
            go_wp2_with (go_at_call 8; (with_reducible refine (c4 _ G).mono ?_); rintro e u ⟨v1, v2, rfl, N1, N2, g3⟩; obtain ⟨a1, k1, rfl⟩ := own_shape N1; clear N1 N2)
            all_goals
              go_ret
              exact ⟨by first | rfl | (simp; done) | (simp; omega), gtrans G g3⟩

end Go.Proofs.YtccgneegfdggjaaDoor.parseNests
