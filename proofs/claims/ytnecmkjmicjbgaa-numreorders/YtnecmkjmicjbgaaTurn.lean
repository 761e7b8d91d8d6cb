/- The law's helpers place and turned; what is the same of a list in any order. -/
import Derived.Test.YtnecmkjmicjbgaaFold
import Derived.OwnWalk
import Derived.Deep.Cut
namespace Go.Proofs.Ytnecmkjmicjbgaa
open Go.RowKit Go.WideShapes
set_option linter.unusedVariables false
set_option linter.unusedSimpArgs false

theorem infoI : (Try.prog.info? 2).map (fun i => (i.zero, i.size, i.bytes)) = some (some (.int .i64 0), 1, 8) := by kernel_rfl

theorem tmod_place (i n : Int) (hn : 0 < n) : (i.tmod n < 0 → i.tmod n + n = i % n) ∧ (0 ≤ i.tmod n → i.tmod n = i % n) ∧ -n < i.tmod n ∧ i.tmod n < n := by
  have h1 := Int.emod_nonneg i (show n ≠ 0 by omega)
  have h2 := Int.emod_lt_of_pos i hn
  have h3 := Int.tmod_eq_emod (a := i) (b := n)
  have h4 : (n.natAbs : Int) = n := by omega
  by_cases hc : 0 ≤ i ∨ n ∣ i
  · rw [if_pos hc] at h3
    refine ⟨fun h => ?_, fun h => ?_, ?_, ?_⟩ <;> omega
  · rw [if_neg hc, h4] at h3
    have h5 : i % n ≠ 0 := fun e => hc (.inr (Int.dvd_of_emod_eq_zero e))
    refine ⟨fun h => ?_, fun h => ?_, ?_, ?_⟩ <;> omega

set_option maxHeartbeats 400000 in
theorem place_any (i n : Int) (w : World) (hn : 0 < n) (hn2 : n ≤ 9223372036854775807) (hi : fitsB i = true) :
    Calls Try.prog 15 #[.int .i64 i, .int .i64 n] w fun e w' => e = .returned (.int .i64 (i % n)) ∧ w = w' := by
  obtain ⟨t1, t2, t3, t4⟩ := tmod_place i n hn
  obtain ⟨r, hr⟩ : ∃ r, i.tmod n = r := ⟨_, rfl⟩
  obtain ⟨q, hq⟩ : ∃ q, i % n = q := ⟨_, rfl⟩
  rw [hq] at t1 t2 ⊢
  rw [hr] at t1 t2 t3 t4
  have HQ : Hid ((r < 0 → r + n = q) ∧ (0 ≤ r → r = q)) := ⟨t1, t2⟩
  have hn0 : (n == 0) = false := by simp; omega
  have hn1 : ¬ n = -1 := by omega
  have hI := (fits_iff i).1 hi
  clear t1 t2 hq hi
  go_enter Try.func15, Try.ntmps15
  go_wp2
  all_goals
    have T : (r < 0 → r + n = q) ∧ (0 ≤ r → r = q) := HQ
    go_ret
    refine ⟨?_, rfl⟩
    first
    | exact congrArg (fun z => Ending.returned (Value.int .i64 z)) (T.1 (by assumption))
    | exact congrArg (fun z => Ending.returned (Value.int .i64 z)) (T.2 (by assumption))

def turnU (zs : List Int) (c : Nat) : Nat → List Int
  | 0 => []
  | t + 1 => turnU zs c t ++ [zs.getD ((zs.length - 1 - t + c) % zs.length) 0]
theorem turnU_len (zs : List Int) (c t : Nat) : (turnU zs c t).length = t := by
  induction t with
  | zero => rfl
  | succ t ih => simp [turnU, ih]
theorem turnU_get (zs : List Int) (c n t : Nat) (h : t < n) : (turnU zs c n)[t]? = some (zs.getD ((zs.length - 1 - t + c) % zs.length) 0) := by
  induction n with
  | zero => omega
  | succ n ih =>
    rw [turnU]
    rcases Nat.lt_or_ge t n with h1 | h1
    · rw [List.getElem?_append_left (by rw [turnU_len]; exact h1)]; exact ih h1
    · obtain rfl : t = n := by omega
      rw [List.getElem?_append_right (by rw [turnU_len]; omega), turnU_len]
      simp
theorem turnU_is (zs : List Int) (c : Nat) (hc : c < zs.length) : turnU zs c zs.length = (zs.drop c ++ zs.take c).reverse := by
  apply List.ext_getElem?
  intro t
  rcases Nat.lt_or_ge t zs.length with h | h
  · rw [turnU_get zs c _ t h, List.getElem?_reverse (by simp; omega)]
    have e : (zs.drop c ++ zs.take c).length - 1 - t = zs.length - 1 - t := by simp; omega
    rw [e]
    rcases Nat.lt_or_ge (zs.length - 1 - t + c) zs.length with h2 | h2
    · rw [Nat.mod_eq_of_lt h2, List.getElem?_append_left (by simp; omega), List.getElem?_drop]
      rw [show c + (zs.length - 1 - t) = zs.length - 1 - t + c by omega, List.getElem?_eq_getElem h2]
      simp [List.getD, List.getElem?_eq_getElem h2]
    · have e2 : (zs.length - 1 - t + c) % zs.length = zs.length - 1 - t + c - zs.length := by
        rw [Nat.mod_eq_sub_mod h2, Nat.mod_eq_of_lt (by omega)]
      have h3 : zs.length - 1 - t + c - zs.length < zs.length := by omega
      rw [e2, List.getElem?_append_right (by simp; omega)]
      simp only [List.length_drop]
      rw [show zs.length - 1 - t - (zs.length - c) = zs.length - 1 - t + c - zs.length by omega, List.getElem?_take, if_pos (by omega), List.getElem?_eq_getElem h3]
      simp [List.getD, List.getElem?_eq_getElem h3]
  · rw [List.getElem?_eq_none (by rw [turnU_len]; omega), List.getElem?_eq_none (by simp; omega)]
theorem turnU_perm (zs : List Int) (c : Nat) (hc : c < zs.length) : (turnU zs c zs.length).Perm zs := by
  rw [turnU_is zs c hc]
  refine (List.reverse_perm _).trans ?_
  have := List.perm_append_comm (l₁ := zs.drop c) (l₂ := zs.take c)
  rw [List.take_append_drop] at this
  exact this

theorem sumU_cons (z : Int) (zs : List Int) (k : Nat) : sumU (z :: zs) (k + 1) = z + sumU zs k := by
  induction k with
  | zero => simp [sumU]
  | succ k ih => rw [sumU, ih, sumU]; simp; omega
theorem sumU_sum (zs : List Int) : sumU zs zs.length = zs.sum := by
  induction zs with
  | nil => rfl
  | cons z zs ih => rw [List.length_cons, sumU_cons, ih, List.sum_cons]
theorem perm_sum {a b : List Int} (h : a.Perm b) : a.sum = b.sum := by
  induction h with
  | nil => rfl
  | cons x _ ih => simp [ih]
  | swap x y l => simp; omega
  | trans _ _ i1 i2 => exact i1.trans i2
theorem perm_sumU {a b : List Int} (h : a.Perm b) : sumU a a.length = sumU b b.length := by rw [sumU_sum, sumU_sum, perm_sum h]
theorem step_mem (g : Bool) (m y : Int) : step g m y = m ∨ step g m y = y := by unfold step; split <;> split <;> simp
theorem extU_mem (g : Bool) (zs : List Int) (k : Nat) (h : k < zs.length) : extU g zs k ∈ zs := by
  induction k with
  | zero => simp only [extU, List.getD, List.getElem?_eq_getElem h, Option.getD_some]; exact List.getElem_mem h
  | succ k ih =>
    rw [extU]
    rcases step_mem g (extU g zs k) (zs.getD (k + 1) 0) with e | e
    · rw [e]; exact ih (by omega)
    · rw [e]; simp only [List.getD, List.getElem?_eq_getElem h, Option.getD_some]; exact List.getElem_mem h
theorem extU_min (zs : List Int) (k i : Nat) (h : i ≤ k) : extU false zs k ≤ zs.getD i 0 := by
  induction k with
  | zero => obtain rfl : i = 0 := by omega
            exact Int.le_refl _
  | succ k ih =>
    rw [extU, step]
    simp only [Bool.false_eq_true, if_false]
    rcases Nat.lt_or_ge k i with h1 | h1
    · obtain rfl : i = k + 1 := by omega
      split <;> omega
    · have := ih h1
      split <;> omega
theorem extU_max (zs : List Int) (k i : Nat) (h : i ≤ k) : zs.getD i 0 ≤ extU true zs k := by
  induction k with
  | zero => obtain rfl : i = 0 := by omega
            exact Int.le_refl _
  | succ k ih =>
    rw [extU, step]
    simp only [if_true]
    rcases Nat.lt_or_ge k i with h1 | h1
    · obtain rfl : i = k + 1 := by omega
      split <;> omega
    · have := ih h1
      split <;> omega
theorem mem_getD {zs : List Int} {x : Int} (h : x ∈ zs) : ∃ i, i < zs.length ∧ zs.getD i 0 = x := by
  obtain ⟨i, hi, e⟩ := List.getElem_of_mem h
  exact ⟨i, hi, by simp [List.getD, List.getElem?_eq_getElem hi, e]⟩
theorem perm_min {a b : List Int} (h : a.Perm b) (hn : 0 < a.length) : extU false a (a.length - 1) = extU false b (b.length - 1) := by
  have hl := h.length_eq
  obtain ⟨i, hi, e1⟩ := mem_getD (h.mem_iff.1 (extU_mem false a (a.length - 1) (by omega)))
  obtain ⟨j, hj, e2⟩ := mem_getD (h.mem_iff.2 (extU_mem false b (b.length - 1) (by omega)))
  have := extU_min b (b.length - 1) i (by omega)
  have := extU_min a (a.length - 1) j (by omega)
  omega
theorem perm_max {a b : List Int} (h : a.Perm b) (hn : 0 < a.length) : extU true a (a.length - 1) = extU true b (b.length - 1) := by
  have hl := h.length_eq
  obtain ⟨i, hi, e1⟩ := mem_getD (h.mem_iff.1 (extU_mem true a (a.length - 1) (by omega)))
  obtain ⟨j, hj, e2⟩ := mem_getD (h.mem_iff.2 (extU_mem true b (b.length - 1) (by omega)))
  have := extU_max b (b.length - 1) i (by omega)
  have := extU_max a (a.length - 1) j (by omega)
  omega
theorem perm_foldK {a b : List Int} (h : a.Perm b) (op : Int) : foldK op a = foldK op b := by
  unfold foldK; rw [perm_sumU h, h.length_eq]
theorem perm_foldN {a b : List Int} (h : a.Perm b) (op : Int) (h9 : ¬ op = 9) (h10 : ¬ op = 10) : foldN op a = foldN op b := by
  unfold foldN
  rw [perm_sumU h, h.length_eq, if_neg h9, if_neg h9, if_neg h10, if_neg h10]
  by_cases hn : b.length = 0
  · simp [hn]
  · have hl := h.length_eq
    have e1 := perm_min h (by omega)
    have e2 := perm_max h (by omega)
    rw [hl] at e1 e2
    rw [e1, e2]

set_option maxHeartbeats 1000000 in
theorem turned_some (b off len cap : Nat) (zs : List Int) (kk : Int) (c : Nat) (w : World) (hb : b < w.heap.size) (hzl : zs.length = len) (hr : len * 8 ≤ 140737488351232) (hn : 0 < len) (hz : ∀ j, fitsB (zs.getD j 0) = true) (hk : fitsB kk = true) (hcc : kk % (len : Int) = (c : Int)) (hcl : c < len) (hc : ∀ j, j < len → w.cell? ⟨b, off + j, none⟩ = some (.int .i64 (zs.getD j 0))) :
    Calls Try.prog 8 #[.slice (some ⟨b, off, none⟩) len cap, .int .i64 kk] w fun e w' => ∃ v, e = .returned v ∧ w'.ownsRow w.heap.size 2 1 v len ((turnU zs c len).map (Value.int .i64)) ∧ Below w.heap.size w w' := by
  obtain ⟨i0, hi, hz0, hz1, hz2⟩ := info_parts infoI
  have cp1 : ∀ w, Calls Try.prog 15 #[.int .i64 kk, .int .i64 (len : Int)] w fun e w' => e = .returned (.int .i64 (c : Int)) ∧ w = w' := fun w => by rw [← hcc]; exact place_any kk len w (by omega) (by omega) hk
  have HC : Hid (kk % (len : Int) = (c : Int)) := hcc
  clear hcc
  go_enter Try.func8, Try.ntmps8
  go_wp2
  go_loopw [5, 6] (fun v i wr => ∃ t : Nat, ∃ iv : Int, t ≤ len ∧ iv = (len : Int) - 1 - t ∧ i = .int .i64 iv ∧ wr.ownsRow w.heap.size 2 1 v t ((turnU zs c t).map (Value.int .i64)) ∧ Below w.heap.size w wr) (fun _ i _ => (intOf i + 1).toNat)
  case atStart => exact ⟨0, (len : Int) - 1, Nat.zero_le _, by simp, rfl, World.ownsRow_nil _ _ _ _, Below.refl _ _⟩
  case round =>
    obtain ⟨t, iv, ht, hiv, rfl, hown, G⟩ := hrel
    by_cases htl : t < len
    · obtain ⟨p, hp⟩ : ∃ p : Nat, p = (len - 1 - t + c) % len := ⟨_, rfl⟩
      have hpl : p < len := by rw [hp]; exact Nat.mod_lt _ hn
      have hpe : (iv + (c : Int)) % (len : Int) = (p : Int) := by
        rw [hiv, hp, show ((len : Int) - 1 - t + c) = ((len - 1 - t + c : Nat) : Int) by omega]
        first | exact (Int.natCast_emod _ _).symm | exact (Int.ofNat_emod _ _).symm | rfl
      have b1 : 0 ≤ iv := by omega
      have b2 : iv < len := by omega
      have cp2 : ∀ w, Calls Try.prog 15 #[.int .i64 (iv + (c : Int)), .int .i64 (len : Int)] w fun e w' => e = .returned (.int .i64 (p : Int)) ∧ w = w' := fun w => by rw [← hpe]; exact place_any _ len w (by omega) (by omega) (by rw [fits_iff]; omega)
      obtain ⟨x, hx⟩ : ∃ x, x = zs.getD p 0 := ⟨_, rfl⟩
      have f1 : wr.cell? ⟨b, off + p, none⟩ = some (.int .i64 x) := by rw [(G.cell (p := ⟨b, off + p, none⟩) hb), hc p hpl, hx]
      have HX : Hid (x = zs.getD p 0) := hx
      have HP : Hid (p = (len - 1 - t + c) % len) := hp
      have HI : Hid (iv = (len : Int) - 1 - t) := hiv
      clear hx hp hiv hpe hc hz
      go_wp2_with (first
        | (go_at_call 15; with_reducible refine (cp1 _).mono ?_; rintro e u1 ⟨rfl, rfl⟩; clear cp1)
        | (go_at_call 15; with_reducible refine (cp2 _).mono ?_; rintro e u2 ⟨rfl, rfl⟩; clear cp2)
        | (at_builtin; refine wpList_append_own _ rfl (.tmp 14) (.tmp 27) 22 rfl w.heap.size 2 i0 (.int .i64 0) 1 8 Try.underlying22 hi hz0 hz1 hz2 rfl (by decide) _ _ _ rfl (hown.alloc _) ⟨wr.heap.size, 0, none⟩ 1 1 [.int .i64 x] rfl rfl (cell_one_new _ _ _) ?c2 ?c3 ?c4 ?c5 ?_))
      case c2 => intro u hu; simp at hu; subst hu; rfl
      case c3 => unfold maxLen; omega
      case c4 => omega
      case c5 => have := G.size; simp; omega
      intro v' w1 hown' hgrow _
      have hown2 : w1.ownsRow w.heap.size 2 1 v' (t + 1) ((turnU zs c (t + 1)).map (Value.int .i64)) := by
        have e : (turnU zs c (t + 1)).map (Value.int .i64) = (turnU zs c t).map (Value.int .i64) ++ [.int .i64 x] := by rw [turnU, hzl, ← HP.out, ← HX.out]; simp
        rw [e]; exact hown'
      have G' : Below w.heap.size w w1 := (G.alloc G.size _).grown hgrow (by have := G.size; simp; omega) (by intro r e; rcases hown.2 with ⟨rfl, _⟩ | ⟨g, c, cur, rfl, hg, _⟩ <;> simp [Value.ownBlock] at e; omega)
      clear hown' hgrow hown G f1
      go_wp2
      go_roundw
      case rel => first | exact ⟨t + 1, iv - 1, by omega, by have := HI.out; omega, by go_num, hown2, G'⟩ | ((repeat apply Exists.intro); exact ⟨⟨t + 1, iv - 1, by omega, by have := HI.out; omega, by go_num, hown2, G'⟩, rfl⟩)
      case measure => simp [intOf]; omega
    · obtain rfl : t = len := by omega
      have b1 : iv < 0 := by omega
      clear hiv
      go_wp2
      go_ret
      exact ⟨_, rfl, hown, G⟩

end Go.Proofs.Ytnecmkjmicjbgaa
