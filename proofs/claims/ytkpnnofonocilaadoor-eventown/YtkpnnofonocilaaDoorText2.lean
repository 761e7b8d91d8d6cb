/- What the document's PrintSchema comes to. -/
import Derived.Test.YtkpnnofonocilaaDoorText
namespace Go.Proofs.YtkpnnofonocilaaDoor
open Go.RowKit Go.BigFrame Go.Shelf
open Sk
set_option linter.unusedVariables false
set_option linter.unusedSimpArgs false

/-- What PrintSchema answers: the text, the code. -/
def prS (L : List Ty) : ByteArray × Int := if schE L = 0 then (⟨(textU L L.length).toArray⟩, 0) else (⟨#[]⟩, schE L)

set_option maxRecDepth 100000 in
set_option maxHeartbeats 1000000 in
theorem printSchema_any (ao : Option Addr) (n cap : Nat) (L : List Ty) (w : World) (h : IsTypes w ao n L) (hnc : n ≤ cap) (K : KwAt w) :
    Calls Tryd.prog 19 #[.agg #[.slice ao n cap]] w fun e w' => e = .returned (.tuple #[.string (prS L).1, .int .i64 (prS L).2]) ∧ Below w.heap.size w w' := by
  have hL := h.1
  have B := galloc (Below.refl w.heap.size w) (.cells #[.slice ao n cap] 24)
  have O := One.new w (.slice ao n cap) 24
  obtain ⟨z, hz⟩ : ∃ z, z = prS L := ⟨_, rfl⟩
  rw [← hz]
  have HZ : Hid (z = prS L) := hz
  clear hz
  go_enter Tryd.func19, Tryd.ntmps19
  go_upto_region 1 with fail
  generalize hV : w.alloc (.cells #[.slice ao n cap] 24) = V at B O ⊢
  clear hV
  replace h := h.keep B
  replace K := K.keep B
  have o0 := O.at0
  have c1 := checkSchema_any ao n cap L V h hnc K
  obtain ⟨a, ha⟩ : ∃ a, a = schE L := ⟨_, rfl⟩
  rw [← ha] at c1
  by_cases h0 : a = 0
  · subst h0
    have hz : z = (⟨(textU L n).toArray⟩, 0) := by rw [HZ.out]; unfold prS; rw [if_pos ha.symm, hL]
    subst hz
    have c2 := fun (u : World) (g : Below V.heap.size V u) => schemaText_any ao n cap L u (h.keep g) ha.symm
    clear ha
    go_wp2_with (first
      | (go_at_call 15; with_reducible refine c1.mono ?_; rintro e u ⟨rfl, g⟩; have o1 := (O.keep g).at0; replace c2 := c2 u g)
      | (go_at_call 37; with_reducible refine c2.mono ?_; rintro e u2 ⟨rfl, g2⟩))
    go_ret2
    exact ⟨rfl, gtrans B (gtrans g g2)⟩
  · have q0 : (a == 0) = false := by simpa using h0
    have hz : z = (⟨#[]⟩, a) := by rw [HZ.out]; unfold prS; rw [← ha, if_neg h0]
    subst hz
    clear ha h0
    go_wp2_with (go_at_call 15; with_reducible refine c1.mono ?_; rintro e u ⟨rfl, g⟩)
    go_ret2
    exact ⟨rfl, gtrans B g⟩

theorem joinTail_append (sep : List UInt8) (a b : List (List UInt8)) : Lib.joinTail sep (a ++ b) = Lib.joinTail sep a ++ Lib.joinTail sep b := by simp [Lib.joinTail]
theorem joinT_more (ss : List ByteArray) (k : Nat) (h : k < ss.length) : joinT (ss.take (k + 1)) = joinT (ss.take k) ++ (if k = 0 then [] else [44, 32]) ++ (ss.getD k .empty).data.toList := by
  unfold joinT
  rw [List.take_add_one, List.map_append, List.getElem?_eq_getElem h]
  have e1 : ss.getD k .empty = ss[k] := by simp [List.getD, List.getElem?_eq_getElem h]
  rw [e1]
  cases k with
  | zero => simp [Lib.join, List.intercalate]
  | succ k =>
    cases ss with
    | nil => simp at h
    | cons x r =>
      simp only [List.take_succ_cons, List.map_cons, List.cons_append, Lib.join_cons, joinTail_append, Option.toList_some, List.map_nil, if_neg (Nat.succ_ne_zero k)]
      simp [Lib.joinTail]
def inner (o : List UInt8) (x : ByteArray) (ss : List ByteArray) (k : Nat) : List UInt8 := o ++ [116, 121, 112, 101, 32] ++ x.data.toList ++ [40] ++ joinT (ss.take k)
theorem inner_zero (o : List UInt8) (x : ByteArray) (ss : List ByteArray) : ((⟨o.toArray⟩ : ByteArray) ++ ⟨#[116, 121, 112, 101, 32]⟩ ++ x ++ ⟨#[40]⟩ : ByteArray) = ⟨(inner o x ss 0).toArray⟩ := by
  apply ByteArray.ext
  simp [ByteArray.data_append, inner, joinT, Lib.join]
theorem inner_more0 (o : List UInt8) (x : ByteArray) (ss : List ByteArray) (h : 0 < ss.length) : ((⟨(inner o x ss 0).toArray⟩ : ByteArray) ++ ss.getD 0 .empty : ByteArray) = ⟨(inner o x ss 1).toArray⟩ := by
  apply ByteArray.ext
  rw [ByteArray.data_append]
  unfold inner
  rw [joinT_more ss 0 h]
  simp
theorem inner_more (o : List UInt8) (x : ByteArray) (ss : List ByteArray) (k : Nat) (h : k < ss.length) (h0 : 0 < k) : ((⟨(inner o x ss k).toArray⟩ : ByteArray) ++ ⟨#[44, 32]⟩ ++ ss.getD k .empty : ByteArray) = ⟨(inner o x ss (k + 1)).toArray⟩ := by
  apply ByteArray.ext
  simp only [ByteArray.data_append]
  unfold inner
  rw [joinT_more ss k h, if_neg (by omega)]
  simp
theorem inner_end (o : List UInt8) (x : ByteArray) (ss : List ByteArray) : ((⟨(inner o x ss ss.length).toArray⟩ : ByteArray) ++ ⟨#[41, 10]⟩ : ByteArray) = ⟨(o ++ typeT (x, ss)).toArray⟩ := by
  apply ByteArray.ext
  simp only [ByteArray.data_append]
  unfold inner typeT
  rw [List.take_of_length_le (Nat.le_refl _)]
  simp
theorem inner_len (o : List UInt8) (x : ByteArray) (ss : List ByteArray) (k : Nat) (hx : x.size ≤ 16) (hm : ss.length ≤ 8) (h : ∀ i, i < ss.length → (ss.getD i .empty).size ≤ 16) : (inner o x ss k).length ≤ o.length + 166 := by
  have e : x.data.toList.length = x.size := Array.length_toList
  have h1 := joinT_len (ss.take k) (fun i hi => by
    have hi' : i < k ∧ i < ss.length := by simp at hi; omega
    have e2 : (ss.take k).getD i .empty = ss.getD i .empty := by simp [List.getD, List.getElem?_take, hi'.1]
    rw [e2]; exact h i hi'.2)
  have h2 : (ss.take k).length ≤ 8 := by simp; omega
  unfold inner
  simp only [List.length_append, List.length_cons, List.length_nil, e]
  omega


end Go.Proofs.YtkpnnofonocilaaDoor
