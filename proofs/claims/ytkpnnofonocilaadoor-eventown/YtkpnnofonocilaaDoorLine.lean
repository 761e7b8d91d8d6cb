/- The line of an event; what event's eventLine comes to. -/
import Derived.Test.YtkpnnofonocilaaDoorChk4
import Derived.Test.YtkpnnofonocilaaDoorFmt
import Derived.Test.YtkpnnofonocilaaDoorTt
namespace Go.Proofs.YtkpnnofonocilaaDoor
open Go.RowKit Go.BigFrame Go.Shelf
open Sk
set_option linter.unusedVariables false
set_option linter.unusedSimpArgs false

def lineH (x : ByteArray) (e : Ev) : List UInt8 := Lib.itoa e.ts ++ ([32] ++ Lib.decDigits e.id.toNat) ++ ([32] ++ x.data.toList)
def lineU (x : ByteArray) (e : Ev) : Nat → List UInt8
  | 0 => lineH x e
  | k + 1 => lineU x e k ++ ([32] ++ Lib.itoa (e.at k))
theorem lineU_len (x : ByteArray) (e : Ev) (ok : e.ok) (hx : x.size ≤ 16) (k : Nat) (hk : k ≤ 8) : (lineU x e k).length ≤ 60 + k * 22 := by
  have ex : x.data.toList.length = x.size := Array.length_toList
  have h1 := Lib.itoa_length_le e.ts ok.t0 ok.t1
  have h2 : (Lib.decDigits e.id.toNat).length ≤ 20 := by rw [Lib.decDigits_length]; exact Lib.nDigits_le20 _ (by have := ok.i1; omega)
  induction k with
  | zero => unfold lineU lineH; simp only [List.length_append, List.length_cons, List.length_nil, ex]; omega
  | succ k ih =>
    have h3 := ih (by omega)
    have h4 := Lib.itoa_length_le (e.at k) (ok.at0 k (by omega)) (ok.at1 k (by omega))
    unfold lineU
    simp only [List.length_append, List.length_cons, List.length_nil]
    omega

theorem sch_name (L : List Ty) (h : schE L = 0) (j : Nat) (hj : j < L.length) : (L.getD j noTy).1.size ≤ 16 := by
  unfold schE at h
  split at h
  · exact absurd h (by decide)
  have h1 := firstE_zero _ _ h j hj
  unfold typeE typeF at h1
  split at h1
  · rename_i h2; exact absurd h1 h2
  rename_i h2
  have hn : nameB (L.getD j noTy).1 = true := by
    cases e : nameB (L.getD j noTy).1
    · exfalso; apply h2; unfold nameE; rw [e, if_pos rfl]; decide
    · rfl
  exact name_size hn
/-- A builder of the call's own that holds a text. -/
def Bld (w : World) (b : Nat) (bs : List UInt8) : Prop := Lib.IsBuilder 106 5 b b (Lib.byteCells bs) w
theorem Bld.keep {w u : World} {b : Nat} {bs : List UInt8} (h : Bld w b bs) (G : Below w.heap.size w u) : Bld u b bs := isBuilder_keep h G
theorem wrS (b : Nat) (bs : List UInt8) (s : ByteArray) (X : World) (D : Bld X b bs) (hl : bs.length + s.size ≤ 100000) (hB : b ≤ X.heap.size) :
    Calls Tryd.prog 59 #[.pointer (some ⟨b, 0, none⟩), .string s] X fun e w' => (∃ v, e = .returned v) ∧ Bld w' b (bs ++ s.data.toList) ∧ Below b X w' := by
  refine (Any.Builder_WriteString lays_n166 bx b b (Lib.byteCells bs) s X D (by
    rw [Lib.byteCells_length]
    omega) (by omega)).mono fun e w' ⟨he, hb, hg⟩ => ⟨⟨_, he⟩, ?_, hg⟩
  refine .inr ?_
  have e5 : Lib.byteCells (bs ++ s.data.toList) = Lib.byteCells bs ++ Lib.strCells s := by simp [Lib.byteCells, Lib.strCells]
  rw [e5]
  exact hb
theorem strB (b : Nat) (bs : List UInt8) (X : World) (D : Bld X b bs) (hB : b ≤ X.heap.size) :
    Calls Tryd.prog 61 #[.pointer (some ⟨b, 0, none⟩)] X fun e w' => e = .returned (.string ⟨bs.toArray⟩) ∧ Below b X w' :=
  Any.Builder_String_any lays_n169 bx b b bs X D hB

end Go.Proofs.YtkpnnofonocilaaDoor
