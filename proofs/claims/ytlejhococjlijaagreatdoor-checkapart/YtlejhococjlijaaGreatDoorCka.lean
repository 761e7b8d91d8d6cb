/- What package check's Check asks, as it is said: shapes, items, nodes, conjuncts, the rest; the first thing that is wrong. -/
import Derived.Test.YtlejhococjlijaaGreatDoorCkb
import Derived.Test.YtlejhococjlijaaGreatDoorUsb
import Derived.Test.YtlejhococjlijaaGreatDoorCtg
import Derived.Test.YtlejhococjlijaaGreatDoorTqa
namespace Go.Proofs.YtlejhococjlijaaGreatDoor
open Go.RowKit Go.BigFrame
set_option linter.unusedVariables false
set_option linter.unusedSimpArgs false

/-- Items. -/
def twoB (ss : List ByteArray) : Bool := (List.range ss.length).any fun k => hasN (ss.take k) (ss.getD k eS)
def itmE (L : List Ty) (M : ByteArray → Option Int) (k : Nat) (i : It) : Int :=
  if i.ty.any (fun t => decide (typeI L t < 0)) = true then 61
  else if twoB i.ty = true then 62
  else if i.lo < 1 ∨ i.hi < i.lo ∨ 4 < i.hi then 63
  else if (M i.v).getD 0 ≠ (k : Int) then 64 else 0
/-- Nodes. -/
def lacksA (L : List Ty) (x t : ByteArray) : Bool := decide (attrI L (typeI L t) x = -1)
def hasA (L : List Ty) (i : It) (x : ByteArray) : Bool := !i.ty.any (lacksA L x)
def repB (i : It) : Bool := !i.neg && decide (1 < i.hi)
def sglB (i : It) : Bool := !i.neg && decide (i.hi ≤ 1)
def mayA (op : Int) (i : It) : Bool := if agB op = true then !i.neg else (decide (op ≠ 11) || repB i)
def mayR (op : Int) (i : It) : Bool := mayA op i && (agB op || sglB i)
def kin1 (t : List Nd) (op z : Int) : Bool := decide (0 ≤ z) && (trB (t.getD z.toNat noNd).op != jnB op)
def kinE (t : List Nd) (n : Nd) : Int := if kin1 t n.op n.l = true then 75 else if kin1 t n.op n.r = true then 75 else 0
def lookE (L : List Ty) (its : List It) (M : ByteArray → Option Int) (may : Int → It → Bool) (t : List Nd) (k : Nat) : Int :=
  let n := t.getD k noNd
  if baB n.op = false ∧ agB n.op = false then kinE t n
  else match M n.v with
    | none => 68
    | some j => if n.op ≠ 5 ∧ hasA L (its.getD j.toNat noIt) n.x = false then 69 else if may n.op (its.getD j.toNat noIt) = false then 76 else 0
/-- The first place from k on at which f is not 0. -/
def fstA (f : Nat → Int) : Nat → Nat → Option Nat
  | 0, _ => none
  | m + 1, k => if f k ≠ 0 then some k else fstA f m (k + 1)
def firstAt (f : Nat → Int) (n k : Nat) : Option Nat := fstA f (n - k) k
theorem firstAt_go {f : Nat → Int} {n k : Nat} (h : k < n) (h0 : f k = 0) : firstAt f n k = firstAt f n (k + 1) := by
  unfold firstAt
  obtain ⟨m, hm⟩ : ∃ m, n - k = m + 1 := ⟨n - k - 1, by omega⟩
  rw [hm, show n - (k + 1) = m by omega, fstA, if_neg (by simpa using h0)]
theorem firstAt_hit {f : Nat → Int} {n k : Nat} (h : k < n) (h0 : f k ≠ 0) : firstAt f n k = some k := by
  unfold firstAt
  obtain ⟨m, hm⟩ : ∃ m, n - k = m + 1 := ⟨n - k - 1, by omega⟩
  rw [hm, fstA, if_pos h0]
theorem firstAt_end {f : Nat → Int} {n k : Nat} (h : ¬ k < n) : firstAt f n k = none := by
  unfold firstAt
  rw [show n - k = 0 by omega, fstA]
theorem fstA_none {f : Nat → Int} : ∀ {m k : Nat}, fstA f m k = none ↔ ∀ j, k ≤ j → j < k + m → f j = 0
  | 0, k => ⟨fun _ j h1 h2 => by omega, fun _ => rfl⟩
  | m + 1, k => by
    unfold fstA
    by_cases h : f k = 0
    · rw [if_neg (by simpa using h), fstA_none]
      refine ⟨fun hh j h1 h2 => ?_, fun hh j h1 h2 => hh j (by omega) (by omega)⟩
      rcases Nat.eq_or_lt_of_le h1 with e | e
      · rw [← e]; exact h
      · exact hh j (by omega) (by omega)
    · rw [if_pos h]
      constructor
      · intro hh; cases hh
      · intro hh; exact absurd (hh k (Nat.le_refl _) (by omega)) h
theorem fstA_some {f : Nat → Int} : ∀ {m k j : Nat}, fstA f m k = some j → f j ≠ 0
  | 0, k, j, h => by cases h
  | m + 1, k, j, h => by
    unfold fstA at h
    split at h
    · rename_i h2; cases h; exact h2
    · exact fstA_some h
theorem firstAt_none {f : Nat → Int} {n : Nat} : firstAt f n 0 = none ↔ ∀ j, j < n → f j = 0 := by
  unfold firstAt
  rw [fstA_none]
  exact ⟨fun h j hj => h j (Nat.zero_le _) (by omega), fun h j _ hj => h j (by omega)⟩
theorem firstAt_some {f : Nat → Int} {n j : Nat} (h : firstAt f n 0 = some j) : f j ≠ 0 := fstA_some h
/-- What walk answers: a place and a code. -/
def walkE (f : Nat → Int) (t : List Nd) (tr : Bool) : Nat × Int :=
  match firstAt f t.length 0 with
  | some k => (k, f k)
  | none => if 0 < t.length ∧ lastT t ≠ tr then (t.length - 1, 75) else (0, 0)
def mixB (its : List It) (M : ByteArray → Option Int) (t : List Nd) : Bool := decide (1 < ((risO (useL M baB t)).filter fun j => !sglB (its.getD j.toNat noIt)).length)

end Go.Proofs.YtlejhococjlijaaGreatDoor
