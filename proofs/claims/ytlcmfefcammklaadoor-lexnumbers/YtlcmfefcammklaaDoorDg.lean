/- The laws' own digits: a number in the base ten, zeros ahead. -/
import Derived.Test.YtlcmfefcammklaaDoorNb
import Derived.OwnWalk
import Derived.Test.YtlcmfefcammklaaDoorLx5
namespace Go.Proofs.YtlcmfefcammklaaDoor
open Go.RowKit Go.BigFrame
set_option linter.unusedVariables false
set_option linter.unusedSimpArgs false

def dgN (N i : Nat) : Nat := 48 + N / 10 ^ i % 10
def dgB8 (N i : Nat) : UInt8 := UInt8.ofNat (dgN N i)
theorem dgB8_val (N i : Nat) : (dgB8 N i).toNat = dgN N i := by
  unfold dgB8 dgN
  have : N / 10 ^ i % 10 < 10 := Nat.mod_lt _ (by omega)
  rw [UInt8.toNat_ofNat']
  omega
def dgL (N k : Nat) : List UInt8 := (List.range k).map (dgB8 N)
theorem dgL_len (N k : Nat) : (dgL N k).length = k := by unfold dgL; simp
theorem dgL_next (N k : Nat) : dgL N (k + 1) = dgL N k ++ [dgB8 N k] := by
  unfold dgL
  rw [List.range_succ, List.map_append]
  rfl
theorem dgL_dig (N k : Nat) : digL (dgL N k) := by
  intro c hc
  unfold dgL at hc
  obtain ⟨i, _, rfl⟩ := List.mem_map.1 hc
  rw [dgB8_val]
  unfold dgN
  have : N / 10 ^ i % 10 < 10 := Nat.mod_lt _ (by omega)
  omega
theorem dgL_dv (N k : Nat) : dv 0 (dgL N k).reverse = N % 10 ^ k := by
  induction k with
  | zero =>
    rw [show dgL N 0 = [] from rfl, List.reverse_nil, dv_nil, Nat.pow_zero, Nat.mod_one]
  | succ k ih =>
    rw [dgL_next, List.reverse_append]
    show dv 0 (dgB8 N k :: (dgL N k).reverse) = _
    rw [dv_cons, dv_acc, ih, List.length_reverse, dgL_len, dgB8_val]
    unfold dgN
    rw [Nat.mod_pow_succ, Nat.zero_mul, Nat.zero_add, Nat.add_sub_cancel_left, Nat.mul_comm, Nat.add_comm]
def zeroB (z : Nat) : List UInt8 := List.replicate z 48
theorem digits_facts (N k z : Nat) (h : N / 10 ^ k = 0) : digL (dgL N k ++ zeroB z).reverse ∧ dv 0 (dgL N k ++ zeroB z).reverse = N := by
  have hz : ∀ c ∈ (zeroB z).reverse, c.toNat = 48 := fun c hc => by
    rw [List.mem_reverse] at hc
    unfold zeroB at hc
    rw [List.eq_of_mem_replicate hc]
    rfl
  refine ⟨fun c hc => ?_, ?_⟩
  · rw [List.mem_reverse, List.mem_append] at hc
    rcases hc with hc | hc
    · exact dgL_dig N k c hc
    · have := hz c (List.mem_reverse.2 hc)
      omega
  · rw [List.reverse_append, dv_cat, show dv 0 (zeroB z).reverse = 0 from by
      generalize (zeroB z).reverse = l at hz
      induction l with
      | nil => rw [dv_nil]
      | cons c r ih => rw [dv_cons, hz c (by simp)]; exact ih (fun d hd => hz d (by simp [hd])), dgL_dv]
    have := Nat.div_add_mod N (10 ^ k)
    rw [h, Nat.mul_zero, Nat.zero_add] at this
    exact this
def lenV : Value → Nat
  | .slice _ n _ => n
  | _ => 0
theorem pow20 (N k : Nat) (hN : N < 18446744073709551616) (h : 0 < N / 10 ^ k) : k < 20 := by
  rcases Nat.lt_or_ge k 20 with h1 | h1
  · exact h1
  · have h2 : 10 ^ 20 ≤ 10 ^ k := Nat.pow_le_pow_right (by omega) h1
    have h3 : (10 : Nat) ^ 20 = 100000000000000000000 := rfl
    rw [Nat.div_eq_of_lt (by omega)] at h
    omega

set_option maxRecDepth 100000 in
set_option maxHeartbeats 4000000 in
theorem digits_any (N : Nat) (hN : N < 18446744073709551616) (z : Int) (hz : -9223372036854775808 ≤ z ∧ z ≤ 9223372036854775807) (w : World) :
    Calls Tryd.prog 9 #[.int .u64 (N : Int), .int .i64 z] w fun e w' => (∃ l : List UInt8, e = .returned (.string ⟨l.toArray⟩) ∧ digL l ∧ 0 < l.length ∧ l.length ≤ 4020 ∧ dv 0 l = N) ∧ Below w.heap.size w w' := by
  obtain ⟨i0, hi, hz0, hz1, hz2⟩ := info_partsB
  go_enter Tryd.func9, Tryd.ntmps9
  go_wp2
  go_loopw [0, 5] (fun nv v wr => ∃ k : Nat, k ≤ 20 ∧ nv = .int .u64 ((N / 10 ^ k : Nat) : Int) ∧ wr.ownsRow w.heap.size 5 1 v k (rowB (dgL N k)) ∧ Below w.heap.size w wr) (fun nv v _ => (intOf nv).toNat + (1 - lenV v))
  case atStart => exact ⟨0, Nat.zero_le _, by rw [Nat.pow_zero, Nat.div_one], World.ownsRow_nil _ _ _ _, Below.refl _ _⟩
  case round =>
    obtain ⟨k, hk, rfl, O, G⟩ := hrel
    obtain ⟨ao, cap, rfl⟩ := own_shape O
    obtain ⟨q, hq⟩ : ∃ q, N / 10 ^ k = q := ⟨_, rfl⟩
    have hq64 : q < 18446744073709551616 := by rw [← hq]; exact Nat.lt_of_le_of_lt (Nat.div_le_self _ _) hN
    rw [hq]
    by_cases hgo : 0 < q ∨ k = 0
    · have hk20 : k < 20 := by
        rcases hgo with h1 | h1
        · exact pow20 N k hN (by rw [hq]; exact h1)
        · omega
      have hGs := G.size
      have hq10 : N / 10 ^ (k + 1) = q / 10 := by rw [← hq, Nat.pow_succ, Nat.div_div_eq_div_mul]
      have hdg : byteV (dgB8 N k) = .int .u8 (48 + ((q % 10 : Nat) : Int)) := by
        unfold byteV; rw [dgB8_val]; unfold dgN; rw [hq]; congr 1
      have hmd : q % 10 < 10 := Nat.mod_lt _ (by omega)
      have HQ : Hid (N / 10 ^ (k + 1) = q / 10) := hq10
      clear hq10
      rcases hgo with hgo | hgo
      · have hgo' : (0 : Int) < (q : Int) := by omega
        go_wp2_with (at_builtin; refine wpList_append_own _ rfl (.tmp 16) (.tmp 21) 31 rfl w.heap.size 5 i0 (.int .u8 0) 1 1 Tryd.underlying31 hi hz0 hz1 hz2 rfl (by decide) _ _ _ rfl (O.alloc _) ⟨wr.heap.size, 0, none⟩ 1 1 [.int .u8 (48 + (q : Int) % 10)] (by go_num) rfl (cell_one_new _ _ _) (one_u8 _) ?c3 ?c4 ?c5 ?_)
        case c3 => unfold maxLen; omega
        case c4 => omega
        case c5 => simp; omega
        intro v' w1 hown' hgrow _
        have hown2 : w1.ownsRow w.heap.size 5 1 v' (k + 1) (rowB (dgL N (k + 1))) := by
          rw [dgL_next]; unfold rowB at hown' ⊢; rw [List.map_append]; show w1.ownsRow w.heap.size 5 1 v' (k + 1) (_ ++ [byteV (dgB8 N k)]); rw [hdg]; exact hown'
        have G' : Below w.heap.size w w1 := (galloc G _).grown hgrow (by simp; omega) (fun r e => (O.lt _ e).1)
        obtain ⟨ao2, cap2, rfl⟩ := own_shape hown2
        clear hown' hgrow O G
        go_wp2
        go_roundw
        case rel => exact ⟨k + 1, by omega, by rw [HQ.out]; first | rfl | go_num, hown2, G'⟩
        case measure => (simp [intOf, lenV]; try omega)
      · subst hgo
        by_cases hq0 : 0 < q
        · have hgo' : (0 : Int) < (q : Int) := by omega
          go_wp2_with (at_builtin; refine wpList_append_own _ rfl (.tmp 16) (.tmp 21) 31 rfl w.heap.size 5 i0 (.int .u8 0) 1 1 Tryd.underlying31 hi hz0 hz1 hz2 rfl (by decide) _ _ _ rfl (O.alloc _) ⟨wr.heap.size, 0, none⟩ 1 1 [.int .u8 (48 + (q : Int) % 10)] (by go_num) rfl (cell_one_new _ _ _) (one_u8 _) ?c3 ?c4 ?c5 ?_)
          case c3 => unfold maxLen; omega
          case c4 => omega
          case c5 => simp; omega
          intro v' w1 hown' hgrow _
          have hown2 : w1.ownsRow w.heap.size 5 1 v' (0 + 1) (rowB (dgL N (0 + 1))) := by
            rw [dgL_next]; unfold rowB at hown' ⊢; rw [List.map_append]; show w1.ownsRow w.heap.size 5 1 v' (0 + 1) (_ ++ [byteV (dgB8 N 0)]); rw [hdg]; exact hown'
          have G' : Below w.heap.size w w1 := (galloc G _).grown hgrow (by simp; omega) (fun r e => (O.lt _ e).1)
          obtain ⟨ao2, cap2, rfl⟩ := own_shape hown2
          clear hown' hgrow O G
          go_wp2
          go_roundw
          case rel => exact ⟨0 + 1, by omega, by rw [HQ.out]; first | rfl | go_num, hown2, G'⟩
          case measure => (simp [intOf, lenV]; try omega)
        · obtain rfl : q = 0 := by omega
          go_wp2_with (at_builtin; refine wpList_append_own _ rfl (.tmp 16) (.tmp 21) 31 rfl w.heap.size 5 i0 (.int .u8 0) 1 1 Tryd.underlying31 hi hz0 hz1 hz2 rfl (by decide) _ _ _ rfl (O.alloc _) ⟨wr.heap.size, 0, none⟩ 1 1 [.int .u8 48] (by go_num) rfl (cell_one_new _ _ _) (one_u8 _) ?c3 ?c4 ?c5 ?_)
          case c3 => unfold maxLen; omega
          case c4 => omega
          case c5 => simp; omega
          intro v' w1 hown' hgrow _
          have hown2 : w1.ownsRow w.heap.size 5 1 v' (0 + 1) (rowB (dgL N (0 + 1))) := by
            rw [dgL_next]; unfold rowB at hown' ⊢; rw [List.map_append]; show w1.ownsRow w.heap.size 5 1 v' (0 + 1) (_ ++ [byteV (dgB8 N 0)]); rw [hdg]; exact hown'
          have G' : Below w.heap.size w w1 := (galloc G _).grown hgrow (by simp; omega) (fun r e => (O.lt _ e).1)
          obtain ⟨ao2, cap2, rfl⟩ := own_shape hown2
          clear hown' hgrow O G
          go_wp2
          go_roundw
          case rel => exact ⟨0 + 1, by omega, by rw [HQ.out]; first | rfl | go_num, hown2, G'⟩
          case measure => (simp [intOf, lenV]; try omega)
    · have hq0 : q = 0 := by omega
      rw [show (q : Int) = 0 by omega]
      subst hq0
      have hk1 : 1 ≤ k := by omega
      have hk2 : ((k : Int) == 0) = false := by simp; omega
      go_wp2
      clear hgo hq64
      go_loopw [5, 6] (fun v x wr2 => ∃ j : Nat, j ≤ 4000 ∧ x = .int .i64 j ∧ wr2.ownsRow w.heap.size 5 1 v (k + j) (rowB (dgL N k ++ zeroB j)) ∧ Below w.heap.size w wr2) (fun _ x _ => 4000 - (intOf x).toNat)
      case atStart => exact ⟨0, Nat.zero_le _, rfl, by rw [show zeroB 0 = [] from rfl, List.append_nil]; exact O, G⟩
      case round =>
        obtain ⟨j, hj, rfl, O2, G2⟩ := hrel
        rename World => wr2
        have hs2 := G2.size
        by_cases hz5 : (j : Int) < z
        · by_cases hj5 : j < 4000
          · have hj6 : (j : Int) < 4000 := by omega
            go_wp2_with (at_builtin; refine wpList_append_own _ rfl (.tmp 34) (.tmp 35) 31 rfl w.heap.size 5 i0 (.int .u8 0) 1 1 Tryd.underlying31 hi hz0 hz1 hz2 rfl (by decide) _ _ _ rfl (O2.alloc _) ⟨wr2.heap.size, 0, none⟩ 1 1 [.int .u8 48] (by go_num) rfl (cell_one_new _ _ _) (one_u8 _) ?c3 ?c4 ?c5 ?_)
            case c3 => unfold maxLen; omega
            case c4 => omega
            case c5 => simp; omega
            intro v' w1 hown' hgrow _
            have hown2 : w1.ownsRow w.heap.size 5 1 v' (k + (j + 1)) (rowB (dgL N k ++ zeroB (j + 1))) := by
              rw [show zeroB (j + 1) = zeroB j ++ [48] from List.replicate_succ', ← List.append_assoc]
              unfold rowB at hown' ⊢
              rw [List.map_append]
              exact hown'
            have G' : Below w.heap.size w w1 := (galloc G2 _).grown hgrow (by simp; omega) (fun r e => (O2.lt _ e).1)
            clear hown' hgrow O2 G2
            go_wp2
            go_roundw
            case rel => exact ⟨j + 1, by omega, by go_num, hown2, G'⟩
            case measure => (simp [intOf]; try omega)
          · obtain rfl : j = 4000 := by omega
            have hB1 : 1 ≤ k + 4000 := by omega
            have hB2 : k + 4000 ≤ 4020 := by omega
            obtain ⟨hdl, hdv⟩ := digits_facts N k 4000 hq
            have hBl : (dgL N k ++ zeroB 4000).length = k + 4000 := by rw [List.length_append, dgL_len]; unfold zeroB; rw [List.length_replicate]
            generalize dgL N k ++ zeroB 4000 = B at *
            generalize k + 4000 = nB at *
            obtain ⟨g, capB, rfl⟩ : ∃ g capB, u5 = .slice (some ⟨g, 0, none⟩) nB capB := by
              rcases O2.2 with ⟨_, h0⟩ | ⟨g, c, cur, h0, _⟩
              · omega
              · exact ⟨g, c, h0⟩
            go_wp2
            go_loopw [7, 8] (fun v x wr => ∃ i : Nat, i ≤ nB ∧ x = .int .i64 ((nB : Int) - 1 - (i : Int)) ∧ wr.ownsRow wr2.heap.size 5 1 v i (rowB (B.reverse.take i)) ∧ Below wr2.heap.size wr2 wr) (fun _ x _ => (intOf x + 1).toNat)
            case atStart => exact ⟨0, Nat.zero_le _, by go_num, World.ownsRow_nil _ _ _ _, Below.refl _ _⟩
            case round =>
              obtain ⟨i, hi5, rfl, O3, G3⟩ := hrel
              by_cases hlt : i < nB
              · obtain ⟨t, ht⟩ : ∃ t : Nat, t = nB - 1 - i := ⟨_, rfl⟩
                have htI : (nB : Int) - 1 - (i : Int) = (t : Int) := by omega
                rw [htI]
                have htl : t < nB := by omega
                have O2' := own_keep O2 G3
                have hc := World.ownsRow.cellAt O2' t (by omega)
                have hby : (rowB B)[t]? = some (byteV (B.reverse.getD i 0)) := by
                  unfold rowB
                  rw [List.getElem?_map, List.getElem?_eq_getElem (by omega), List.getD_eq_getElem?_getD, List.getElem?_reverse (by omega), show B.length - 1 - i = t by omega, List.getElem?_eq_getElem (by omega)]
                  rfl
                rw [hby] at hc
                have hmore := rowB_more B.reverse i (by rw [List.length_reverse]; omega)
                unfold byteV at hc hmore
                generalize ((B.reverse.getD i 0).toNat : Int) = y at *
                have hs3 := G3.size
                have HTI : Hid ((nB : Int) - 1 - (i : Int) = (t : Int)) := htI
                clear ht htI
                go_wp2_with (at_builtin; refine wpList_append_own _ rfl (.tmp 44) (.tmp 49) 31 rfl wr2.heap.size 5 i0 (.int .u8 0) 1 1 Tryd.underlying31 hi hz0 hz1 hz2 rfl (by decide) _ _ _ rfl (O3.alloc _) ⟨wr.heap.size, 0, none⟩ 1 1 [.int .u8 y] (by go_num) rfl (cell_one_new _ _ _) (one_u8 _) ?c3 ?c4 ?c5 ?_)
                case c3 => unfold maxLen; omega
                case c4 => omega
                case c5 => simp; omega
                intro v' w1 hown' hgrow _
                have hown2 : w1.ownsRow wr2.heap.size 5 1 v' (i + 1) (rowB (B.reverse.take (i + 1))) := by first | exact hown' | (rw [← hmore]; exact hown')
                have G' : Below wr2.heap.size wr2 w1 := (galloc G3 _).grown hgrow (by simp; omega) (fun r e => (O3.lt _ e).1)
                clear hown' hgrow O3 G3 hmore
                go_wp2
                go_roundw
                case rel => exact ⟨i + 1, by omega, by have := HTI.out; congr 1; omega, hown2, G'⟩
                case measure => (simp [intOf]; try omega)
              · obtain rfl : i = nB := by omega
                rw [List.take_of_length_le (by rw [List.length_reverse]; omega)] at O3
                have hcv := conv_own O3
                rw [show (i : Int) - 1 - (i : Int) = -1 by omega]
                go_wp2
                go_ret
                exact ⟨⟨B.reverse, rfl, hdl, by rw [List.length_reverse]; omega, by rw [List.length_reverse]; omega, hdv⟩, gtrans G2 G3⟩
        · skip
          have hB1 : 1 ≤ k + j := by omega
          have hB2 : k + j ≤ 4020 := by omega
          obtain ⟨hdl, hdv⟩ := digits_facts N k j hq
          have hBl : (dgL N k ++ zeroB j).length = k + j := by rw [List.length_append, dgL_len]; unfold zeroB; rw [List.length_replicate]
          generalize dgL N k ++ zeroB j = B at *
          generalize k + j = nB at *
          obtain ⟨g, capB, rfl⟩ : ∃ g capB, u5 = .slice (some ⟨g, 0, none⟩) nB capB := by
            rcases O2.2 with ⟨_, h0⟩ | ⟨g, c, cur, h0, _⟩
            · omega
            · exact ⟨g, c, h0⟩
          go_wp2
          go_loopw [7, 8] (fun v x wr => ∃ i : Nat, i ≤ nB ∧ x = .int .i64 ((nB : Int) - 1 - (i : Int)) ∧ wr.ownsRow wr2.heap.size 5 1 v i (rowB (B.reverse.take i)) ∧ Below wr2.heap.size wr2 wr) (fun _ x _ => (intOf x + 1).toNat)
          case atStart => exact ⟨0, Nat.zero_le _, by go_num, World.ownsRow_nil _ _ _ _, Below.refl _ _⟩
          case round =>
            obtain ⟨i, hi5, rfl, O3, G3⟩ := hrel
            by_cases hlt : i < nB
            · obtain ⟨t, ht⟩ : ∃ t : Nat, t = nB - 1 - i := ⟨_, rfl⟩
              have htI : (nB : Int) - 1 - (i : Int) = (t : Int) := by omega
              rw [htI]
              have htl : t < nB := by omega
              have O2' := own_keep O2 G3
              have hc := World.ownsRow.cellAt O2' t (by omega)
              have hby : (rowB B)[t]? = some (byteV (B.reverse.getD i 0)) := by
                unfold rowB
                rw [List.getElem?_map, List.getElem?_eq_getElem (by omega), List.getD_eq_getElem?_getD, List.getElem?_reverse (by omega), show B.length - 1 - i = t by omega, List.getElem?_eq_getElem (by omega)]
                rfl
              rw [hby] at hc
              have hmore := rowB_more B.reverse i (by rw [List.length_reverse]; omega)
              unfold byteV at hc hmore
              generalize ((B.reverse.getD i 0).toNat : Int) = y at *
              have hs3 := G3.size
              have HTI : Hid ((nB : Int) - 1 - (i : Int) = (t : Int)) := htI
              clear ht htI
              go_wp2_with (at_builtin; refine wpList_append_own _ rfl (.tmp 44) (.tmp 49) 31 rfl wr2.heap.size 5 i0 (.int .u8 0) 1 1 Tryd.underlying31 hi hz0 hz1 hz2 rfl (by decide) _ _ _ rfl (O3.alloc _) ⟨wr.heap.size, 0, none⟩ 1 1 [.int .u8 y] (by go_num) rfl (cell_one_new _ _ _) (one_u8 _) ?c3 ?c4 ?c5 ?_)
              case c3 => unfold maxLen; omega
              case c4 => omega
              case c5 => simp; omega
              intro v' w1 hown' hgrow _
              have hown2 : w1.ownsRow wr2.heap.size 5 1 v' (i + 1) (rowB (B.reverse.take (i + 1))) := by first | exact hown' | (rw [← hmore]; exact hown')
              have G' : Below wr2.heap.size wr2 w1 := (galloc G3 _).grown hgrow (by simp; omega) (fun r e => (O3.lt _ e).1)
              clear hown' hgrow O3 G3 hmore
              go_wp2
              go_roundw
              case rel => exact ⟨i + 1, by omega, by have := HTI.out; congr 1; omega, hown2, G'⟩
              case measure => (simp [intOf]; try omega)
            · obtain rfl : i = nB := by omega
              rw [List.take_of_length_le (by rw [List.length_reverse]; omega)] at O3
              have hcv := conv_own O3
              rw [show (i : Int) - 1 - (i : Int) = -1 by omega]
              go_wp2
              go_ret
              exact ⟨⟨B.reverse, rfl, hdl, by rw [List.length_reverse]; omega, by rw [List.length_reverse]; omega, hdv⟩, gtrans G2 G3⟩

end Go.Proofs.YtlcmfefcammklaaDoor
