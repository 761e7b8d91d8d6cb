/- Lists of values in memory; the law's helper known. -/
import Derived.Test.YtompfpeankcfeaaDoorPlace
import Derived.Test.YtompfpeankcfeaaDoorRow
import Derived.Test.YtompfpeankcfeaaDoorTwo
import Derived.Test.YtompfpeankcfeaaDoorKeep
import Derived.Deep.Cut
import Derived.OwnWalk
import Derived.Deep.AppendLies
namespace Go.Proofs.YtompfpeankcfeaaDoor
open Go.RowKit Go.BigFrame
set_option linter.unusedVariables false
set_option linter.unusedSimpArgs false

def noV : Bool × Int := (false, 0)
/-- The slice that begins at ao with n elements holds the values vs. -/
def IsVals (w : World) (ao : Option Addr) (n : Nat) (vs : List (Bool × Int)) : Prop :=
  vs.length = n ∧ n ≤ 9223372036854775807 ∧ (∀ j, fitsB (vs.getD j noV).2 = true) ∧
    (n = 0 ∨ ∃ b off, ao = some ⟨b, off, none⟩ ∧ b < w.heap.size ∧ ∀ j, j < n → w.cell? ⟨b, off + j * 2, none⟩ = some (.bool (vs.getD j noV).1) ∧ w.cell? ⟨b, off + j * 2 + 1, none⟩ = some (.int .i64 (vs.getD j noV).2))
theorem IsVals.keep {w u : World} {ao : Option Addr} {n : Nat} {vs : List (Bool × Int)} (h : IsVals w ao n vs) (G : Below w.heap.size w u) : IsVals u ao n vs := by
  obtain ⟨h1, h2, h3, h4⟩ := h
  refine ⟨h1, h2, h3, ?_⟩
  rcases h4 with h4 | ⟨b, off, e, hb, hc⟩
  · exact .inl h4
  · exact .inr ⟨b, off, e, Nat.lt_of_lt_of_le hb G.size, fun j hj => ⟨(G.cell (p := ⟨b, off + j * 2, none⟩) hb).trans (hc j hj).1, (G.cell (p := ⟨b, off + j * 2 + 1, none⟩) hb).trans (hc j hj).2⟩⟩

/-- The known numbers of m values from the i-th on. -/
def knU (vs : List (Bool × Int)) (i : Nat) : Nat → List Int
  | 0 => []
  | m + 1 => knU vs i m ++ (if (vs.getD (i + m) noV).1 = true then [(vs.getD (i + m) noV).2] else [])
theorem knU_len (vs : List (Bool × Int)) (i m : Nat) : (knU vs i m).length ≤ m := by
  induction m with
  | zero => simp [knU]
  | succ m ih => unfold knU; rw [List.length_append]; split <;> simp <;> omega
theorem getD_app2 (xs ys : List Int) (h1 : ∀ j, fitsB (xs.getD j 0) = true) (h2 : ∀ j, fitsB (ys.getD j 0) = true) (j : Nat) : fitsB ((xs ++ ys).getD j 0) = true := by
  rcases Nat.lt_or_ge j xs.length with h | h
  · have e : (xs ++ ys).getD j 0 = xs.getD j 0 := by simp [List.getD, List.getElem?_append_left h]
    rw [e]; exact h1 j
  · have e : (xs ++ ys).getD j 0 = ys.getD (j - xs.length) 0 := by simp [List.getD, List.getElem?_append_right h]
    rw [e]; exact h2 _
theorem knU_fits (vs : List (Bool × Int)) (h : ∀ j, fitsB (vs.getD j noV).2 = true) (i m : Nat) : ∀ j, fitsB ((knU vs i m).getD j 0) = true := by
  induction m with
  | zero => intro j; simp [knU]; decide
  | succ m ih =>
    unfold knU
    refine getD_app2 _ _ ih ?_
    intro j
    split
    · cases j with
      | zero => exact h _
      | succ j => simp; decide
    · simp; decide
def kn (vs : List (Bool × Int)) (i j : Nat) : List Int := knU vs i (j + 1 - i)

theorem info64 : (Tryd.prog.info? 2).map (fun i => (i.zero, i.size, i.bytes)) = some (some (.int .i64 0), 1, 8) := by kernel_rfl
theorem info_parts64 : ∃ i, Tryd.prog.info? 2 = some i ∧ i.zero = some (.int .i64 0) ∧ i.size = 1 ∧ i.bytes = 8 := by
  have h := info64
  cases hq : Tryd.prog.info? 2 with
  | none => simp [hq] at h
  | some i => simp [hq] at h; exact ⟨i, rfl, h.1, h.2.1, h.2.2⟩
theorem one_i64 (y : Int) : ∀ u ∈ [Value.int .i64 y], u.oneCell' = true := by
  intro u hu; simp at hu; subst hu; rfl

set_option maxHeartbeats 1000000 in
theorem knownL_any (ao : Option Addr) (n cap i j : Nat) (vs : List (Bool × Int)) (w : World) (h : IsVals w ao n vs) (hi : i < n) (hj : j < n) (hn : n ≤ 2147483647) :
    Calls Tryd.prog 22 #[.slice ao n cap, .int .i64 i, .int .i64 j] w fun e w' => ∃ a c, e = .returned (.slice a (kn vs i j).length c) ∧ IsRow w' a (kn vs i j).length (kn vs i j) ∧ Below w.heap.size w w' := by
  obtain ⟨i0, ti, tz0, tz1, tz2⟩ := info_parts64
  have hf := h.2.2.1
  go_enter Tryd.func22, Tryd.ntmps22
  go_wp2
  go_loopw [7, 8] (fun v k wr => ∃ m : Nat, m ≤ j + 1 - i ∧ k = .int .i64 ((i + m : Nat) : Int) ∧ wr.ownsRow w.heap.size 2 1 v (knU vs i m).length ((knU vs i m).map (Value.int .i64)) ∧ Below w.heap.size w wr) (fun _ k _ => n + 1 - (intOf k).toNat)
  case atStart => exact ⟨0, Nat.zero_le _, rfl, World.ownsRow_nil _ _ _ _, Below.refl _ _⟩
  case round =>
    obtain ⟨m, hm, rfl, hown, G⟩ := hrel
    by_cases hlt : m < j + 1 - i
    · obtain ⟨q1, q2, q3, q4⟩ := h.keep G
      rcases q4 with q4 | ⟨b, off, eb, hb, hcb⟩
      · omega
      subst eb
      obtain ⟨f1, f2⟩ := hcb (i + m) (by omega)
      obtain ⟨k, hk⟩ : ∃ k, k = i + m := ⟨_, rfl⟩
      rw [← hk] at f1 f2 ⊢
      have g1 : (k : Int) ≤ (j : Int) := by omega
      have g2 : (k : Int) < (n : Int) := by omega
      have hkn := knU_len vs i m
      obtain ⟨x, hx⟩ : ∃ x, x = vs.getD k noV := ⟨_, rfl⟩
      rw [← hx] at f1 f2
      have HX : Hid (x = vs.getD (i + m) noV) := by show _ = _; rw [hx, hk]
      have HK : Hid (k = i + m) := hk
      clear hcb hx hk q1 q3 h
      obtain ⟨xk, xn⟩ := x
      cases xk
      · go_wp2
        go_roundw
        case rel => exact ⟨m + 1, by omega, by have := HK.out; go_num, by
          have e : knU vs i (m + 1) = knU vs i m := by show knU vs i m ++ _ = _; rw [← HX.out]; simp
          rw [e]; exact hown, G⟩
        case measure => have := HK.out; simp [intOf]; omega
      · go_wp2_with (at_builtin; refine wpList_append_own _ rfl (.tmp 26) (.tmp 32) 40 rfl w.heap.size 2 i0 (.int .i64 0) 1 8 Tryd.underlying40 ti tz0 tz1 tz2 rfl (by decide) _ _ _ rfl (hown.alloc _) ⟨wr.heap.size, 0, none⟩ 1 1 [.int .i64 xn] rfl rfl (cell_one_new _ _ _) (one_i64 _) ?c3 ?c4 ?c5 ?_)
        case c3 => unfold maxLen; omega
        case c4 => omega
        case c5 => have := G.size; simp; omega
        intro v' w1 hown' hgrow _
        have e : knU vs i (m + 1) = knU vs i m ++ [xn] := by show knU vs i m ++ _ = _; rw [← HX.out]; simp
        have hown2 : w1.ownsRow w.heap.size 2 1 v' (knU vs i (m + 1)).length ((knU vs i (m + 1)).map (Value.int .i64)) := by rw [e]; simpa using hown'
        have G' : Below w.heap.size w w1 := (G.alloc G.size _).grown hgrow (by have := G.size; simp; omega) (by intro r e; rcases hown.2 with ⟨rfl, _⟩ | ⟨g, c, cur, rfl, hg, _⟩ <;> simp [Value.ownBlock] at e; omega)
        clear hown' hgrow hown G f1 f2
        go_wp2
        go_roundw
        case rel => exact ⟨m + 1, by omega, by have := HK.out; go_num, hown2, G'⟩
        case measure => have := HK.out; simp [intOf]; omega
    · obtain rfl : m = j + 1 - i := by omega
      obtain ⟨a, c, rfl, hrow, _, _⟩ := isRow_own hown (knU_fits vs hf i _)
      have g1 : ¬ (((i + (j + 1 - i) : Nat) : Int) ≤ (j : Int)) := by omega
      obtain ⟨k, hk⟩ : ∃ k, k = i + (j + 1 - i) := ⟨_, rfl⟩
      rw [← hk] at g1 ⊢
      clear hk
      go_wp2
      go_ret
      first | exact ⟨a, c, rfl, hrow, G⟩ | exact ⟨a, ⟨c, rfl⟩, hrow, G⟩

end Go.Proofs.YtompfpeankcfeaaDoor
