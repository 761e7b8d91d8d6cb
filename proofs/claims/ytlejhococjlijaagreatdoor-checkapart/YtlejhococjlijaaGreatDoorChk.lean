/- What event's and the document's checks of one type come to. -/
import Derived.Test.YtlejhococjlijaaGreatDoorIsNmJ
import Derived.Test.YtlejhococjlijaaGreatDoorTwin
namespace Go.Proofs.YtlejhococjlijaaGreatDoor
open Go.RowKit Go.BigFrame
set_option linter.unusedVariables false
set_option linter.unusedSimpArgs false

/-- Is the string among these? -/
def hasN (ss : List ByteArray) (x : ByteArray) : Bool := decide (∃ j, j < ss.length ∧ hitS x (ss.getD j .empty) = true)
theorem hasN_hit (ss : List ByteArray) (x : ByteArray) (k : Nat) (hk : k < ss.length) (h : hitS x (ss.getD k .empty) = true) : hasN ss x = true := decide_eq_true ⟨k, hk, h⟩
theorem hasN_none (ss : List ByteArray) (x : ByteArray) (h : ∀ j, j < ss.length → hitS x (ss.getD j .empty) = false) : hasN ss x = false := decide_eq_false (fun ⟨j, hj, e⟩ => by rw [h j hj] at e; exact absurd e (by decide))
/-- The first of n numbers that is not 0, or 0. -/
def firstE (f : Nat → Int) (n : Nat) : Int := (((List.range n).map f).find? (fun z => !(z == 0))).getD 0
theorem firstE_hit (f : Nat → Int) (n k : Nat) (hk : k < n) (h : f k ≠ 0) (h2 : ∀ j, j < k → f j = 0) : firstE f n = f k := by
  unfold firstE
  have : ((List.range n).map f).find? (fun z => !(z == 0)) = some (f k) := by
    rw [List.find?_eq_some_iff_getElem]
    refine ⟨by simpa using h, k, by simpa using hk, by simp, fun j hj => by simpa using h2 j hj⟩
  rw [this]; rfl
theorem firstE_none (f : Nat → Int) (n : Nat) (h2 : ∀ j, j < n → f j = 0) : firstE f n = 0 := by
  unfold firstE
  have : ((List.range n).map f).find? (fun z => !(z == 0)) = none := by
    rw [List.find?_eq_none]
    intro z hz
    simp only [List.mem_map, List.mem_range] at hz
    obtain ⟨j, hj, rfl⟩ := hz
    simp [h2 j hj]
  rw [this]; rfl

def attrE (ss : List ByteArray) (k : Nat) : Int :=
  if (!(nameB (ss.getD k .empty)) || ((ss.getD k .empty).toList == [116, 115])) = true then 22 else if hasN (ss.take k) (ss.getD k .empty) = true then 25 else 0
def nameE (P : List Ty) (x : ByteArray) : Int := if nameB x = false then 22 else if 0 ≤ typeI P x then 25 else 0
def typeF (P : List Ty) (x : ByteArray) (ss : List ByteArray) : Int := if nameE P x ≠ 0 then nameE P x else if 8 < ss.length then 24 else firstE (attrE ss) ss.length
def typeE (L : List Ty) (i : Nat) : Int := typeF (L.take i) (L.getD i noTy).1 (L.getD i noTy).2
def schE (L : List Ty) : Int := if L.length = 0 ∨ 16 < L.length then 23 else firstE (typeE L) L.length

set_option maxHeartbeats 1000000 in
theorem index_any (ao : Option Addr) (n cap : Nat) (ss : List ByteArray) (x : ByteArray) (w : World) (h : IsStrs w ao n ss) :
    Calls Tryz.prog 90 #[.slice ao n cap, .string x] w fun e w' => (∃ z : Int, e = .returned (.int .i64 z) ∧ decide (0 ≤ z) = hasN ss x) ∧ w = w' := by
  have h1 := h.1
  have hn := h.2.1
  go_enter Tryz.func90, Tryz.ntmps90
  go_wp2
  go_loop [8] (fun i => ∃ k : Nat, k ≤ n ∧ i = .int .i64 k ∧ (∀ j, j < k → hitS x (ss.getD j .empty) = false)) (fun i => n - (intOf i).toNat)
  case atStart => exact ⟨0, Nat.zero_le _, rfl, fun j hj => absurd hj (Nat.not_lt_zero _)⟩
  case round =>
    obtain ⟨k, hk, rfl, hno⟩ := hrel
    by_cases hlt : k < n
    · obtain ⟨_, _, q4⟩ := h
      rcases q4 with q4 | ⟨b, off, eb, hb, hcb⟩
      · omega
      subst eb
      obtain ⟨y, hy⟩ : ∃ y, y = ss.getD k .empty := ⟨_, rfl⟩
      have f := hcb k hlt
      rw [← hy] at f
      have HH : Hid (hitS x (ss.getD k .empty) = (x.toList == y.toList)) := by show _ = _; unfold hitS; rw [hy]; exact Bool.beq_comm
      clear hcb hy
      cases hc : (x.toList == y.toList)
      · go_wp2
        go_round
        case rel => exact ⟨k + 1, by omega, by go_num, more (p := fun j => hitS x (ss.getD j .empty)) hno (HH.out.trans hc)⟩
        case measure => simp [intOf]; omega
      · go_wp2
        go_ret
        exact ⟨⟨k, rfl, by rw [hasN_hit ss x k (by omega) (HH.out.trans hc)]; exact decide_eq_true (by omega)⟩, rfl⟩
    · obtain rfl : k = n := by omega
      go_wp2
      go_ret
      exact ⟨⟨-1, rfl, by rw [hasN_none ss x (fun j hj => hno j (by omega))]; rfl⟩, rfl⟩

set_option maxHeartbeats 1000000 in
theorem contains_any (ao : Option Addr) (n cap : Nat) (ss : List ByteArray) (x : ByteArray) (w : World) (h : IsStrs w ao n ss) :
    Calls Tryz.prog 74 #[.slice ao n cap, .string x] w fun e w' => e = .returned (.bool (hasN ss x)) ∧ w = w' := by
  have c := index_any ao n cap ss x w h
  go_enter Tryz.func74, Tryz.ntmps74
  go_wp2_with (go_at_call 90; with_reducible refine c.mono ?_; rintro e u ⟨⟨z, rfl, hz⟩, rfl⟩)
  go_ret
  exact ⟨by rw [← hz]; rfl, rfl⟩

set_option maxHeartbeats 1000000 in
theorem checkAttrName_any (ao : Option Addr) (n cap : Nat) (ss : List ByteArray) (x : ByteArray) (w : World) (h : IsStrs w ao n ss) (K : KwAt w) :
    Calls Tryz.prog 67 #[.slice ao n cap, .string x] w fun e w' => e = .returned (.int .i64 (if (!(nameB x) || (x.toList == [116, 115])) = true then 22 else if hasN ss x = true then 25 else 0)) ∧ Below w.heap.size w w' := by
  have c1 := isName_any x w K
  have c2 := fun (u : World) (g : Below w.heap.size w u) => contains_any ao n cap ss x u (h.keep g)
  cases h1 : nameB x
  · rw [h1] at c1
    simp only [Bool.not_false, Bool.true_or, if_true]
    go_enter Tryz.func67, Tryz.ntmps67
    go_wp2_with (go_at_call 48; with_reducible refine c1.mono ?_; rintro e u ⟨rfl, g⟩)
    go_ret
    exact ⟨rfl, g⟩
  · rw [h1] at c1
    cases h2 : (x.toList == [116, 115])
    · cases h3 : hasN ss x
      all_goals
        simp only [h3] at c2
        simp only [Bool.not_true, Bool.false_or, if_true, Bool.false_eq_true, if_false]
        go_enter Tryz.func67, Tryz.ntmps67
        go_wp2_with (first
          | (go_at_call 48; with_reducible refine c1.mono ?_; rintro e u ⟨rfl, g⟩; replace c2 := c2 u g)
          | (go_at_call 74; with_reducible refine c2.mono ?_; rintro e u2 ⟨rfl, rfl⟩))
        go_ret
        exact ⟨rfl, g⟩
    · simp only [Bool.or_true, if_true]
      go_enter Tryz.func67, Tryz.ntmps67
      go_wp2_with (go_at_call 48; with_reducible refine c1.mono ?_; rintro e u ⟨rfl, g⟩)
      go_ret
      exact ⟨rfl, g⟩

set_option maxHeartbeats 1000000 in
theorem checkTypeName_any (ao : Option Addr) (n cap : Nat) (L : List Ty) (x : ByteArray) (w : World) (h : IsTypes w ao n L) (K : KwAt w) :
    Calls Tryz.prog 66 #[.slice ao n cap, .string x] w fun e w' => e = .returned (.int .i64 (nameE L x)) ∧ Below w.heap.size w w' := by
  unfold nameE
  have c1 := isName_any x w K
  have c2 := fun (u : World) (g : Below w.heap.size w u) => typeOf_any ao n cap L x u (h.keep g)
  generalize typeI L x = z at *
  cases h1 : nameB x
  · rw [h1] at c1
    simp only [if_true]
    go_enter Tryz.func66, Tryz.ntmps66
    go_wp2_with (go_at_call 48; with_reducible refine c1.mono ?_; rintro e u ⟨rfl, g⟩)
    go_ret
    exact ⟨rfl, g⟩
  · rw [h1] at c1
    rw [if_neg (by decide)]
    by_cases h3 : 0 ≤ z
    · rw [if_pos h3]
      go_enter Tryz.func66, Tryz.ntmps66
      go_wp2_with (first
        | (go_at_call 48; with_reducible refine c1.mono ?_; rintro e u ⟨rfl, g⟩; replace c2 := c2 u g)
        | (go_at_call 73; with_reducible refine c2.mono ?_; rintro e u2 ⟨rfl, g2⟩))
      go_ret
      exact ⟨rfl, gtrans g g2⟩
    · rw [if_neg h3]
      go_enter Tryz.func66, Tryz.ntmps66
      go_wp2_with (first
        | (go_at_call 48; with_reducible refine c1.mono ?_; rintro e u ⟨rfl, g⟩; replace c2 := c2 u g)
        | (go_at_call 73; with_reducible refine c2.mono ?_; rintro e u2 ⟨rfl, g2⟩))
      go_ret
      exact ⟨rfl, gtrans g g2⟩

end Go.Proofs.YtlejhococjlijaaGreatDoor
