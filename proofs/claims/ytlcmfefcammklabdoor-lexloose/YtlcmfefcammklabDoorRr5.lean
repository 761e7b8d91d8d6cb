/- The document's Number. -/
import Derived.Test.YtlcmfefcammklabDoorRr4
import Derived.Test.YtlcmfefcammklabDoorLo
namespace Go.Proofs.YtlcmfefcammklabDoor
open Go.RowKit Go.BigFrame
set_option linter.unusedVariables false
set_option linter.unusedSimpArgs false

def allD (s : ByteArray) : Prop := ∀ i, i < s.size → dgB (bt s i) = true
theorem digL_all {s : ByteArray} (h : allD s) : digL s.data.toList := by
  intro c hc
  obtain ⟨i, hi, rfl⟩ := List.getElem_of_mem hc
  have hi' : i < s.data.size := by simpa using hi
  have h1 := h i hi'
  unfold bt at h1
  simp only [dgB, decide_eq_true_eq, Array.getD_eq_getD_getElem?, Array.getElem?_eq_getElem hi', Option.getD_some] at h1
  rw [Array.getElem_toList]
  omega
theorem bare_list (s : ByteArray) : (bareS s).data.toList = s.data.toList.drop (runE zB s 0) := by
  unfold bareS
  rw [ByteArray.data_extract, Array.toList_extract]
  show (s.data.toList.drop (runE zB s 0)).take (s.size - runE zB s 0) = _
  rw [List.take_of_length_le]
  rw [List.length_drop]
  exact Nat.le_refl _
theorem dv_zeros (l : List UInt8) (h : ∀ c ∈ l, c.toNat = 48) : dv 0 l = 0 := by
  induction l with
  | nil => rw [dv_nil]
  | cons c r ih =>
    rw [dv_cons, h c (by simp)]
    exact ih (fun d hd => h d (by simp [hd]))
theorem bare_dv (s : ByteArray) : dv 0 (bareS s).data.toList = dv 0 s.data.toList := by
  rw [bare_list]
  conv => rhs; rw [← List.take_append_drop (runE zB s 0) s.data.toList, dv_cat]
  have h0 : dv 0 (s.data.toList.take (runE zB s 0)) = 0 := by
   refine dv_zeros _ ?_
   intro c hc
   obtain ⟨i, hi, rfl⟩ := List.getElem_of_mem hc
   rw [List.length_take] at hi
   have h1 : (bt s i == 48) = true := runE_in zB s 0 i (by omega) (by omega)
   have h3 : s.data.toList.length = s.data.size := by simp
   have hi' : i < s.data.size := by omega
   unfold bt at h1
   simp only [beq_iff_eq, Array.getD_eq_getD_getElem?, Array.getElem?_eq_getElem hi', Option.getD_some] at h1
   rw [List.getElem_take, Array.getElem_toList]
   omega
  rw [h0]
theorem bare_head (s : ByteArray) : (bareS s).data.toList.getD 0 0 ≠ 48 := by
  rw [bare_list]
  by_cases h : runE zB s 0 < s.size
  · have h1 : (bt s (runE zB s 0) == 48) = false := runE_at h
    have h2 : runE zB s 0 < s.data.size := h
    generalize runE zB s 0 = q at *
    unfold bt at h1
    simp only [beq_eq_false_iff_ne, Array.getD_eq_getD_getElem?, Array.getElem?_eq_getElem h2, Option.getD_some, ne_eq] at h1
    intro e
    apply h1
    simp only [List.getD_eq_getElem?_getD, List.getElem?_drop, Nat.add_zero] at e
    rw [List.getElem?_eq_getElem (by simpa using h2), Option.getD_some, Array.getElem_toList] at e
    rw [e]
    rfl
  · have h2 : s.data.toList.length ≤ runE zB s 0 := by simpa using h
    rw [List.drop_eq_nil_of_le h2]
    decide
theorem bare_dig (s : ByteArray) (h : digL s.data.toList) : digL (bareS s).data.toList := by
  rw [bare_list]
  exact fun c hc => h c (List.mem_of_mem_drop hc)
theorem bare_size (s : ByteArray) : (bareS s).size ≤ s.size := by
  have h := congrArg List.length (bare_list s)
  rw [List.length_drop] at h
  have h1 : (bareS s).data.toList.length = (bareS s).size := by simp
  have h2 : s.data.toList.length = s.size := by simp
  omega
/-- What the document's Number answers. -/
def numP (s : ByteArray) : Int × Bool := if (∀ i, i < s.size → dgB (bt s i) = true) ∧ dv 0 s.data.toList ≤ 9223372036854775807 then ((dv 0 s.data.toList : Int), decide (0 < s.size)) else (0, false)
theorem numP_yes {s : ByteArray} (h1 : ∀ i, i < s.size → dgB (bt s i) = true) (h2 : dv 0 s.data.toList ≤ 9223372036854775807) : numP s = ((dv 0 s.data.toList : Int), decide (0 < s.size)) := if_pos ⟨h1, h2⟩
theorem numP_no {s : ByteArray} (h : ¬ ((∀ i, i < s.size → dgB (bt s i) = true) ∧ dv 0 s.data.toList ≤ 9223372036854775807)) : numP s = (0, false) := if_neg h
set_option maxRecDepth 100000 in
set_option maxHeartbeats 4000000 in
theorem refNumber_any (s : ByteArray) (hs : s.size ≤ 8192) (w : World) :
    Calls Tryd.prog 11 #[.string s] w fun e w' => e = .returned (.tuple #[.int .i64 (numP s).1, .bool (numP s).2]) ∧ w = w' := by
  obtain ⟨n, hn⟩ : ∃ n, s.size = n := ⟨_, rfl⟩
  have hby := fun t h => byteW s t h Tryd.prog 9 (by kernel_rfl)
  have cB := refBare_any s hs w
  obtain ⟨z, hz⟩ : ∃ z, z = numP s := ⟨_, rfl⟩
  rw [← hz]
  have HZ : Hid (z = numP s) := hz
  clear hz
  go_enter Tryd.func11, Tryd.ntmps11
  go_wp2
  go_loop [4] (fun x => ∃ k : Nat, k ≤ n ∧ x = .int .i64 k ∧ (∀ j, j < k → dgB (bt s j) = true)) (fun x => n - (intOf x).toNat)
  case atStart => exact ⟨0, Nat.zero_le _, rfl, fun j hj => absurd hj (Nat.not_lt_zero _)⟩
  case round =>
    obtain ⟨k, hk, rfl, hall⟩ := hrel
    by_cases hlt : k < n
    · have i1 := hby k (by omega)
      rw [show ((s.data.getD k 0).toNat : Int) = bt s k from rfl] at i1
      clear hby cB
      have cD := refDigit_any (bt s k)
      cases hd : dgB (bt s k)
      · rw [hd] at cD
        have he : Hid (z = (0, false)) := by
          show _ = _
          rw [HZ.out]
          refine numP_no ?_
          intro h3
          have := h3.1 k (by omega)
          rw [hd] at this
          exact absurd this (by decide)
        generalize bt s k = nb at *
        go_wp2_with (go_at_call 20; with_reducible refine (cD _).mono ?_; rintro e u ⟨rfl, rfl⟩)
        go_ret2
        exact ⟨by rw [he.out]; rfl, rfl⟩
      · rw [hd] at cD
        have hall2 : ∀ j, j < k + 1 → dgB (bt s j) = true := fun j hj => by
          rcases Nat.lt_or_ge j k with h5 | h5
          · exact hall j h5
          · obtain rfl : j = k := by omega
            exact hd
        generalize bt s k = nb at i1 cD hd
        go_wp2_with (go_at_call 20; with_reducible refine (cD _).mono ?_; rintro e u ⟨rfl, rfl⟩)
        go_round
        case rel => exact ⟨k + 1, by omega, by go_num, hall2⟩
        case measure => simp [intOf]; omega
    · obtain rfl : k = n := by omega
      clear hby
      have hall' : allD s := fun i hi => hall i (by omega)
      have hdl := bare_dig s (digL_all hall')
      have hbig := big_dv _ hdl (bare_head s)
      have hdv := bare_dv s
      have hbs := bare_size s
      generalize bareS s = b at *
      have hlen : b.data.toList.length = b.size := by simp
      rw [hlen, hdv] at hbig
      have hbyb := fun t h => byteW b t h Tryd.prog 9 (by kernel_rfl)
      obtain ⟨m, hm⟩ : ∃ m, b.size = m := ⟨_, rfl⟩
      rw [hm] at hbig hbs
      have hyes : ∀ h : dv 0 s.data.toList ≤ 9223372036854775807, Hid (z = ((dv 0 s.data.toList : Int), decide (0 < s.size))) := fun h => by show _ = _; rw [HZ.out]; exact numP_yes hall' h
      have hno : ∀ h : 9223372036854775807 < dv 0 s.data.toList, Hid (z = (0, false)) := fun h => by show _ = _; rw [HZ.out]; exact numP_no (fun h3 => by omega)
      have htl : b.toList = b.data.toList := ByteArray.toList_eq b
      have htop : (⟨#[57, 50, 50, 51, 51, 55, 50, 48, 51, 54, 56, 53, 52, 55, 55, 53, 56, 48, 55]⟩ : ByteArray).toList = topD := by rw [ByteArray.toList_eq]; rfl
      by_cases h19 : 19 < m
      · have he := hno (hbig.1 (.inl h19))
        have h19' : (19 : Int) < (m : Int) := by omega
        clear hbig hyes hno HZ
        go_wp2_with (go_at_call 21; with_reducible refine cB.mono ?_; rintro e u ⟨rfl, rfl⟩)
        go_ret2
        exact ⟨by rw [he.out]; rfl, rfl⟩
      by_cases hb : 9223372036854775807 < dv 0 s.data.toList
      · have he := hno hb
        obtain ⟨h19e, hgt⟩ : m = 19 ∧ (!(Op.bytesLess b.data.toList topD || b.data.toList == topD)) = true := (hbig.2 hb).resolve_left h19
        have hL : Op.bytesLess b.data.toList topD = false := by simp only [Bool.not_eq_true', Bool.or_eq_false_iff] at hgt; exact hgt.1
        have hE : (b.data.toList == topD) = false := by simp only [Bool.not_eq_true', Bool.or_eq_false_iff] at hgt; exact hgt.2
        subst h19e
        clear hbig hyes hno HZ hgt
        go_wp2_with (go_at_call 21; with_reducible refine cB.mono ?_; rintro e u ⟨rfl, rfl⟩)
        go_ret2
        exact ⟨by rw [he.out]; rfl, rfl⟩
      have he := hyes (by omega)
      have hle : dv 0 b.data.toList ≤ 9223372036854775807 := by omega
      have hlm : b.data.toList.length = m := hlen.trans hm
      have hng : ¬ (m = 19 ∧ (!(Op.bytesLess b.data.toList topD || b.data.toList == topD)) = true) := fun h => hb (hbig.1 (.inr h))
      clear hbig hyes hno HZ
      by_cases h19e : m = 19
      · have hng2 : ¬ (!(Op.bytesLess b.data.toList topD || b.data.toList == topD)) = true := fun h => hng ⟨h19e, h⟩
        have h19i : (m : Int) = 19 := by omega
        clear hng
        cases hL : Op.bytesLess b.data.toList topD <;> cases hE : (b.data.toList == topD)
        · exact absurd (by rw [hL, hE]; rfl) hng2
        all_goals
         clear hng2
         go_wp2_with (go_at_call 21; with_reducible refine cB.mono ?_; rintro e u ⟨rfl, rfl⟩)
         generalize hl5 : b.data.toList = l at *
         go_loop [6, 7] (fun nv iv => ∃ q : Nat, q ≤ m ∧ iv = .int .i64 q ∧ nv = .int .i64 (dv 0 (l.take q) : Int)) (fun _ iv => m - (intOf iv).toNat)
         case atStart => exact ⟨0, Nat.zero_le _, rfl, by rw [List.take_zero, dv_nil]; rfl⟩
         case round =>
           obtain ⟨q, hq, rfl, rfl⟩ := hrel
           by_cases hqm : q < m
           · have j1 := hbyb q (by omega)
             have hgd : b.data.getD q 0 = l.getD q 0 := by rw [← hl5]; simp
             have hx : 48 ≤ (l.getD q 0).toNat ∧ (l.getD q 0).toNat ≤ 57 := hdl _ (by rw [List.getD_eq_getElem?_getD, List.getElem?_eq_getElem (by omega)]; exact List.getElem_mem _)
             have e1 := dv_next l q (by omega)
             have e2 := dv_take l (q + 1)
             rw [hgd] at j1
             generalize (l.getD q 0).toNat = x at *
             obtain ⟨v, hv⟩ : ∃ v, v = dv 0 (l.take q) := ⟨_, rfl⟩
             rw [← hv] at e1 ⊢
             have E1 : Hid (dv 0 (l.take (q + 1)) = v * 10 + (x - 48)) := e1
             have b1 : (v : Int) * 10 + ((x : Int) - 48) ≤ 9223372036854775807 := by omega
             have b2 : (v : Int) * 10 ≤ 9223372036854775807 := by omega
             have b3 : (48 : Int) ≤ (x : Int) := by omega
             have b4 : (x : Int) ≤ 57 := by omega
             clear e1 e2 hv hbyb hdv hdl hl5 htl
             go_wp2
             go_round
             case rel => exact ⟨q + 1, by omega, by go_num, by rw [E1.out]; go_num⟩
             case measure => simp [intOf]; omega
           · obtain rfl : q = m := by omega
             rw [List.take_of_length_le (by omega), hdv]
             clear hbyb
             go_wp2
             go_ret2
             refine ⟨?_, rfl⟩
             rw [he.out, hn]
             simp
      · have h19i : ¬ (m : Int) = 19 := by omega
        clear hng
        go_wp2_with (go_at_call 21; with_reducible refine cB.mono ?_; rintro e u ⟨rfl, rfl⟩)
        generalize hl5 : b.data.toList = l at *
        go_loop [6, 7] (fun nv iv => ∃ q : Nat, q ≤ m ∧ iv = .int .i64 q ∧ nv = .int .i64 (dv 0 (l.take q) : Int)) (fun _ iv => m - (intOf iv).toNat)
        case atStart => exact ⟨0, Nat.zero_le _, rfl, by rw [List.take_zero, dv_nil]; rfl⟩
        case round =>
          obtain ⟨q, hq, rfl, rfl⟩ := hrel
          by_cases hqm : q < m
          · have j1 := hbyb q (by omega)
            have hgd : b.data.getD q 0 = l.getD q 0 := by rw [← hl5]; simp
            have hx : 48 ≤ (l.getD q 0).toNat ∧ (l.getD q 0).toNat ≤ 57 := hdl _ (by rw [List.getD_eq_getElem?_getD, List.getElem?_eq_getElem (by omega)]; exact List.getElem_mem _)
            have e1 := dv_next l q (by omega)
            have e2 := dv_take l (q + 1)
            rw [hgd] at j1
            generalize (l.getD q 0).toNat = x at *
            obtain ⟨v, hv⟩ : ∃ v, v = dv 0 (l.take q) := ⟨_, rfl⟩
            rw [← hv] at e1 ⊢
            have E1 : Hid (dv 0 (l.take (q + 1)) = v * 10 + (x - 48)) := e1
            have b1 : (v : Int) * 10 + ((x : Int) - 48) ≤ 9223372036854775807 := by omega
            have b2 : (v : Int) * 10 ≤ 9223372036854775807 := by omega
            have b3 : (48 : Int) ≤ (x : Int) := by omega
            have b4 : (x : Int) ≤ 57 := by omega
            clear e1 e2 hv hbyb hdv hdl hl5 htl
            go_wp2
            go_round
            case rel => exact ⟨q + 1, by omega, by go_num, by rw [E1.out]; go_num⟩
            case measure => simp [intOf]; omega
          · obtain rfl : q = m := by omega
            rw [List.take_of_length_le (by omega), hdv]
            clear hbyb
            go_wp2
            go_ret2
            refine ⟨?_, rfl⟩
            rw [he.out, hn]
            simp

end Go.Proofs.YtlcmfefcammklabDoor
