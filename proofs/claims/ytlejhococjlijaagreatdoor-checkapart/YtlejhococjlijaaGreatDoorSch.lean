/- Lists of strings and schemas in memory; what event's and the document's own TypeOf come to. -/
import Derived.Test.YtlejhococjlijaaGreatDoorWb
import Derived.Deep.Cut
import Derived.Deep.QuietTactic
import Derived.BigQuiet
namespace Go.Proofs.YtlejhococjlijaaGreatDoor
open Go.RowKit Go.BigFrame
set_option linter.unusedVariables false
set_option linter.unusedSimpArgs false

/-- The slice that begins at ao with n elements holds the strings ss. -/
def IsStrs (w : World) (ao : Option Addr) (n : Nat) (ss : List ByteArray) : Prop :=
  ss.length = n ∧ n ≤ 9223372036854775807 ∧ (n = 0 ∨ ∃ b off, ao = some ⟨b, off, none⟩ ∧ b < w.heap.size ∧ ∀ j, j < n → w.cell? ⟨b, off + j, none⟩ = some (.string (ss.getD j .empty)))
theorem IsStrs.keep {w u : World} {ao : Option Addr} {n : Nat} {ss : List ByteArray} (h : IsStrs w ao n ss) (G : Below w.heap.size w u) : IsStrs u ao n ss := by
  obtain ⟨h1, h2, h4⟩ := h
  refine ⟨h1, h2, ?_⟩
  rcases h4 with h4 | ⟨b, off, e, hb, hc⟩
  · exact .inl h4
  · exact .inr ⟨b, off, e, Nat.lt_of_lt_of_le hb G.size, fun j hj => (G.cell (p := ⟨b, off + j, none⟩) hb).trans (hc j hj)⟩

theorem IsStrs.take {w : World} {ao : Option Addr} {n : Nat} {ss : List ByteArray} (h : IsStrs w ao n ss) (k : Nat) (hk : k ≤ n) : IsStrs w ao k (ss.take k) := by
  obtain ⟨h1, h2, h4⟩ := h
  refine ⟨by simp; omega, by omega, ?_⟩
  rcases h4 with h4 | ⟨b, off, e, hb, hc⟩
  · exact .inl (by omega)
  · refine .inr ⟨b, off, e, hb, fun j hj => ?_⟩
    rw [hc j (by omega)]
    simp [List.getD, List.getElem?_take, hj]

abbrev Ty := ByteArray × List ByteArray
def noTy : Ty := (.empty, [])
/-- The slice that begins at ao with n elements holds the types L. -/
def IsTypes (w : World) (ao : Option Addr) (n : Nat) (L : List Ty) : Prop :=
  L.length = n ∧ n ≤ 9223372036854775807 ∧ (n = 0 ∨ ∃ b off, ao = some ⟨b, off, none⟩ ∧ b < w.heap.size ∧ ∀ j, j < n →
    w.cell? ⟨b, off + j * 2, none⟩ = some (.string (L.getD j noTy).1) ∧ ∃ aj cj, w.cell? ⟨b, off + j * 2 + 1, none⟩ = some (.slice aj (L.getD j noTy).2.length cj) ∧ (L.getD j noTy).2.length ≤ cj ∧ IsStrs w aj (L.getD j noTy).2.length (L.getD j noTy).2)
theorem IsTypes.keep {w u : World} {ao : Option Addr} {n : Nat} {L : List Ty} (h : IsTypes w ao n L) (G : Below w.heap.size w u) : IsTypes u ao n L := by
  obtain ⟨h1, h2, h4⟩ := h
  refine ⟨h1, h2, ?_⟩
  rcases h4 with h4 | ⟨b, off, e, hb, hc⟩
  · exact .inl h4
  · refine .inr ⟨b, off, e, Nat.lt_of_lt_of_le hb G.size, fun j hj => ?_⟩
    obtain ⟨c1, aj, cj, c2, c4, c3⟩ := hc j hj
    exact ⟨(G.cell (p := ⟨b, off + j * 2, none⟩) hb).trans c1, aj, cj, (G.cell (p := ⟨b, off + j * 2 + 1, none⟩) hb).trans c2, c4, c3.keep G⟩

theorem IsTypes.take {w : World} {ao : Option Addr} {n : Nat} {L : List Ty} (h : IsTypes w ao n L) (k : Nat) (hk : k ≤ n) : IsTypes w ao k (L.take k) := by
  obtain ⟨h1, h2, h4⟩ := h
  refine ⟨by simp; omega, by omega, ?_⟩
  rcases h4 with h4 | ⟨b, off, e, hb, hc⟩
  · exact .inl (by omega)
  · refine .inr ⟨b, off, e, hb, fun j hj => ?_⟩
    have e1 : (L.take k).getD j noTy = L.getD j noTy := by simp [List.getD, List.getElem?_take, hj]
    rw [e1]
    exact hc j (by omega)
def hitB (name : ByteArray) (t : Ty) : Bool := t.1.toList == name.toList
/-- The number of the first type of that name, or -1. -/
def typeI (L : List Ty) (name : ByteArray) : Int := if L.findIdx (hitB name) < L.length then (L.findIdx (hitB name) : Int) else -1
theorem typeI_hit (L : List Ty) (name : ByteArray) (k : Nat) (hk : k < L.length) (h1 : hitB name (L.getD k noTy) = true) (h2 : ∀ j, j < k → hitB name (L.getD j noTy) = false) : typeI L name = k := by
  have e : L.findIdx (hitB name) = k := by
    rw [List.findIdx_eq hk]
    refine ⟨by simpa [List.getD, List.getElem?_eq_getElem hk] using h1, fun j hj => ?_⟩
    have := h2 j hj
    simpa [List.getD, List.getElem?_eq_getElem (show j < L.length by omega)] using this
  unfold typeI
  rw [e, if_pos hk]
theorem typeI_none (L : List Ty) (name : ByteArray) (h2 : ∀ j, j < L.length → hitB name (L.getD j noTy) = false) : typeI L name = -1 := by
  unfold typeI
  rw [if_neg]
  intro h
  have h1 := List.findIdx_getElem (xs := L) (p := hitB name) (w := h)
  have := h2 _ h
  simp only [List.getD, List.getElem?_eq_getElem h, Option.getD_some] at this
  rw [h1] at this
  exact absurd this (by decide)

theorem more {p : Nat → Bool} {k : Nat} (h : ∀ j, j < k → p j = false) (hk : p k = false) : ∀ j, j < k + 1 → p j = false := by
  intro j hj
  rcases Nat.lt_or_ge j k with h1 | h1
  · exact h j h1
  · obtain rfl : j = k := by omega
    exact hk

set_option maxHeartbeats 1000000 in
theorem typeOf_any (ao : Option Addr) (n cap : Nat) (L : List Ty) (name : ByteArray) (w : World) (h : IsTypes w ao n L) :
    Calls Tryz.prog 73 #[.agg #[.slice ao n cap], .string name] w fun e w' => e = .returned (.int .i64 (typeI L name)) ∧ Below w.heap.size w w' := by
  have hL := h.1
  have hn := h.2.1
  go_enter Tryz.func73, Tryz.ntmps73
  go_wp2
  have B := galloc (Below.refl w.heap.size w) (.cells #[.slice ao n cap] 34)
  replace h := h.keep B
  generalize hV : w.alloc (.cells #[.slice ao n cap] 34) = V at B h ⊢
  clear hV
  go_loopw [10] (fun i wr => ∃ k : Nat, k ≤ n ∧ i = .int .i64 k ∧ (∀ j, j < k → hitB name (L.getD j noTy) = false) ∧ Below V.heap.size V wr) (fun i _ => n - (intOf i).toNat)
  case atStart => exact ⟨0, Nat.zero_le _, rfl, fun j hj => absurd hj (Nat.not_lt_zero _), Below.refl _ _⟩
  case round =>
    obtain ⟨k, hk, rfl, hno, G⟩ := hrel
    by_cases hlt : k < n
    · obtain ⟨q1, q2, q4⟩ := h.keep G
      rcases q4 with q4 | ⟨b, off, eb, hb, hcb⟩
      · omega
      subst eb
      obtain ⟨f1, aj, cj, f2, _⟩ := hcb k hlt
      obtain ⟨x, hx⟩ : ∃ x, x = (L.getD k noTy).1 := ⟨_, rfl⟩
      obtain ⟨m, hm⟩ : ∃ m, m = (L.getD k noTy).2.length := ⟨_, rfl⟩
      rw [← hx] at f1
      rw [← hm] at f2
      have hh : hitB name (L.getD k noTy) = (x.toList == name.toList) := by unfold hitB; rw [hx]
      have HH : Hid _ := hh
      clear hcb hx hm hh h
      cases hc : (x.toList == name.toList)
      · go_wp2
        go_roundw
        case rel => exact ⟨k + 1, by omega, by go_num, more (p := fun j => hitB name (L.getD j noTy)) hno (HH.out.trans hc), galloc G _⟩
        case measure => simp [intOf]; omega
      · go_wp2
        go_ret
        exact ⟨by rw [typeI_hit L name k (by omega) (HH.out.trans hc) hno]; rfl, gtrans B (galloc G _)⟩
    · obtain rfl : k = n := by omega
      go_wp2
      go_ret
      exact ⟨by rw [typeI_none L name (fun j hj => hno j (by omega))]; rfl, gtrans B G⟩

def eqB (a b : List ByteArray) : Bool := decide (a.length = b.length ∧ ∀ j, j < a.length → ((a.getD j .empty).toList == (b.getD j .empty).toList) = true)

end Go.Proofs.YtlejhococjlijaaGreatDoor
