/- The library's Builder: what WriteByte, WriteString and String come to, and what they leave as it was. -/
import Derived.Test.YtpodpahipapbaaaDoorShelfJ
import Derived.Test.YtpodpahipapbaaaDoorTb
import Derived.Shelf.Strings.BuilderK
namespace Go.Proofs.YtpodpahipapbaaaDoor
open Go.RowKit Go.Shelf
set_option linter.unusedVariables false

theorem ownF_keep {w u : World} {base : Nat} {e : TypeId} {size : Nat} {v : Value} {n : Nat} {xs : List Value} (h : w.ownsRowF base e size v n xs) (G : Below w.heap.size w u) : u.ownsRowF base e size v n xs := by
  obtain ⟨h1, h2⟩ := h
  refine ⟨h1, ?_⟩
  rcases h2 with h2 | ⟨g, cap, cur, fz, rfl, hb, hh, r⟩
  · exact .inl h2
  · exact .inr ⟨g, cap, cur, fz, rfl, hb, (G.block g (lt_of_block hh)).trans hh, r⟩
/-- A builder of the call's own that holds a text. -/
def Bld (w : World) (b : Nat) (bs : List UInt8) : Prop := Lib.IsBuilderF 54 5 b b (Lib.byteCells bs) w
theorem Bld.keep {w u : World} {b : Nat} {bs : List UInt8} (h : Bld w b bs) (G : Below w.heap.size w u) : Bld u b bs := by
  rcases h with h | h
  · obtain ⟨h1, v, h2, h3, h4⟩ := h
    exact .inl ⟨h1, v, (G.block b (lt_of_block h2)).trans h2, ownF_keep h3 G, h4⟩
  · obtain ⟨h1, v, h2, h3, h4⟩ := h
    exact .inr ⟨h1, v, (G.block b (lt_of_block h2)).trans h2, ownF_keep h3 G, h4⟩
theorem Bld.new (w : World) : Bld (w.alloc (.cells #[.pointer none, .slice none 0 0] 54)) w.heap.size [] :=
  .inl ⟨Nat.le_refl _, .slice none 0 0, by show (w.heap.push _)[w.heap.size]? = _; simp, ⟨rfl, .inl ⟨rfl, rfl⟩⟩, by simp [Value.ownBlock]⟩
/-- What stands in memory and is no row of bytes, nor the builder. -/
def Oth (b : Nat) (w u : World) : Prop := Lib.OthersKept 5 (some b) w u
theorem wrS (b : Nat) (bs : List UInt8) (s : ByteArray) (X : World) (D : Bld X b bs) (hl : bs.length + s.size ≤ 100000000000) (hB : b ≤ X.heap.size) :
    Calls Tryd.prog 21 #[.pointer (some ⟨b, 0, none⟩), .string s] X fun e w' => (∃ v, e = .returned v) ∧ Bld w' b (bs ++ s.data.toList) ∧ Below b X w' ∧ Oth b X w' := by
  refine (Any.Builder_WriteString_k Jn.lays_n166 Jn.bx b b (Lib.byteCells bs) s X D (by
    rw [Lib.byteCells_length]
    omega) (by omega)).mono fun e w' ⟨he, hb, hg, hk⟩ => ⟨⟨_, he⟩, ?_, hg, hk⟩
  have e5 : Lib.byteCells (bs ++ s.data.toList) = Lib.byteCells bs ++ Lib.strCells s := by simp [Lib.byteCells, Lib.strCells]
  refine .inr ?_
  rw [e5]
  exact hb
theorem wrC (b : Nat) (bs : List UInt8) (c : UInt8) (X : World) (D : Bld X b bs) (hl : bs.length + 1 ≤ 100000000000) (hB : b ≤ X.heap.size) :
    Calls Tryd.prog 20 #[.pointer (some ⟨b, 0, none⟩), .int .u8 (c.toNat : Int)] X fun e w' => (∃ v, e = .returned v) ∧ Bld w' b (bs ++ [c]) ∧ Below b X w' ∧ Oth b X w' := by
  refine (Any.Builder_WriteByte_k Jn.lays_n167 Jn.bx b b (Lib.byteCells bs) (c.toNat : Int) X D (by
    rw [Lib.byteCells_length]
    omega) (by omega)).mono fun e w' ⟨he, hb, hg, hk⟩ => ⟨⟨_, he⟩, ?_, hg, hk⟩
  have e5 : Lib.byteCells (bs ++ [c]) = Lib.byteCells bs ++ [.int .u8 (c.toNat : Int)] := by simp [Lib.byteCells]
  refine .inr ?_
  rw [e5]
  exact hb
theorem strB (b : Nat) (bs : List UInt8) (X : World) (D : Bld X b bs) (hB : b ≤ X.heap.size) :
    Calls Tryd.prog 23 #[.pointer (some ⟨b, 0, none⟩)] X fun e w' => e = .returned (.string ⟨bs.toArray⟩) ∧ Below b X w' :=
  (Any.Builder_String_any_k Jn.lays_n169 Jn.bx b b bs X D hB).mono fun e w' h => ⟨h.1, h.2.2.1⟩

end Go.Proofs.YtpodpahipapbaaaDoor
