/- Lists of numbers, rising: what sorting and compacting come to. -/
import Derived.Test.YtlejhococjlijaaGreatDoorCpb
import Derived.Test.YtlejhococjlijaaGreatDoorShelfC
import Derived.Test.YtlejhococjlijaaGreatDoorShelfS
import Derived.Shelf.Slices.CompactI
import Derived.Shelf.Sort.Plain
import Derived.Shelf.Slices.In.SortNone
import Derived.Sort.OwnSortedInts
import Derived.Lib.RowBridge
namespace Go.Proofs.YtlejhococjlijaaGreatDoor
open Go.RowKit Go.BigFrame
set_option linter.unusedVariables false
set_option linter.unusedSimpArgs false

/-- Lists that rise and have the same numbers are the same. -/
theorem inc_eq : ∀ (a b : List Int), a.Pairwise (· < ·) → b.Pairwise (· < ·) → (∀ x, x ∈ a ↔ x ∈ b) → a = b
  | [], [], _, _, _ => rfl
  | [], y :: b, _, _, h => absurd ((h y).2 (by simp)) (by simp)
  | x :: a, [], _, _, h => absurd ((h x).1 (by simp)) (by simp)
  | x :: a, y :: b, ha, hb, h => by
    rw [List.pairwise_cons] at ha hb
    have hxy : x = y := by
      have h1 := (h x).1 (by simp)
      have h2 := (h y).2 (by simp)
      rcases List.mem_cons.1 h1 with e | h1
      · exact e
      rcases List.mem_cons.1 h2 with e | h2
      · exact e.symm
      have := hb.1 x h1
      have := ha.1 y h2
      omega
    subst hxy
    rw [inc_eq a b ha.2 hb.2 (fun z => ⟨fun hz => by
      have h1 := (h z).1 (by simp [hz])
      rcases List.mem_cons.1 h1 with e | h1
      · have := ha.1 z hz; omega
      · exact h1, fun hz => by
      have h1 := (h z).2 (by simp [hz])
      rcases List.mem_cons.1 h1 with e | h1
      · have := hb.1 z hz; omega
      · exact h1⟩)]
/-- What rising comes to. -/
def risO (zs : List Int) : List Int := Lib.compact (zs.mergeSort fun x y => decide (x ≤ y))
theorem sorted_ms (zs : List Int) : (zs.mergeSort fun x y => decide (x ≤ y)).Pairwise (fun x y => x ≤ y) := by
  have h := List.pairwise_mergeSort (le := fun x y : Int => decide (x ≤ y)) (fun a b c h1 h2 => by simp at *; omega) (fun a b => by simp; omega) zs
  exact h.imp (fun h => of_decide_eq_true h)
theorem compact_inc (ss : List Int) (hs : ss.Pairwise (fun x y => x ≤ y)) : (Lib.compact ss).Pairwise (· < ·) ∧ ∀ x, x ∈ Lib.compact ss ↔ x ∈ ss := by
  have hle : ∀ i j, i ≤ j → j < ss.length → ss.getD i 0 ≤ ss.getD j 0 := fun i j hij hj => by
    by_cases e : i = j
    · subst e; exact Int.le_refl _
    · have := List.pairwise_iff_getElem.1 hs i j (by omega) hj (by omega)
      rw [List.getD_eq_getElem?_getD, List.getD_eq_getElem?_getD, List.getElem?_eq_getElem (by omega), List.getElem?_eq_getElem hj]
      exact this
  have hget : ∀ j, j < ss.length → ss.toArray[j]! = ss.getD j 0 := fun j hj => by
    rw [List.getD_eq_getElem?_getD, List.getElem?_eq_getElem hj]
    simp [hj]
  have hc : Lib.compact ss = ((List.range ss.length).filter (fun j => decide (j = 0 ∨ ss.getD j 0 ≠ ss.getD (j - 1) 0))).map (fun j => ss.getD j 0) := by
    unfold Lib.compact
    have go : ∀ m, m ≤ ss.length → Lib.compactUpTo ss.toArray m = ((List.range m).filter (fun j => decide (j = 0 ∨ ss.getD j 0 ≠ ss.getD (j - 1) 0))).map (fun j => ss.getD j 0) := by
      intro m
      induction m with
      | zero => intro _; rfl
      | succ m ih =>
        intro hm
        rw [Lib.compactUpTo_succ, ih (by omega), List.range_succ, List.filter_append, List.map_append]
        congr 1
        have hk : Lib.keeps ss.toArray m = decide (m = 0 ∨ ss.getD m 0 ≠ ss.getD (m - 1) 0) := by
          unfold Lib.keeps
          rw [hget m (by omega)]
          cases m with
          | zero => simp
          | succ m => first | (rw [Nat.add_sub_cancel, hget m (by omega)]; done) | (rw [Nat.add_sub_cancel, hget m (by omega)]; simp)
        rw [hk, hget m (by omega)]
        simp only [List.filter_cons, List.filter_nil]
        split <;> rfl
    exact go ss.length (Nat.le_refl _)
  rw [hc]
  refine ⟨?_, fun x => ?_⟩
  · rw [List.pairwise_map]
    have h1 : ((List.range ss.length).filter (fun j => decide (j = 0 ∨ ss.getD j 0 ≠ ss.getD (j - 1) 0))).Pairwise (· < ·) := List.Pairwise.filter _ List.pairwise_lt_range
    refine h1.imp_of_mem fun {i j} hi hj hij => ?_
    obtain ⟨hj1, hj2⟩ := List.mem_filter.1 hj
    have hjl := List.mem_range.1 hj1
    have hj3 := of_decide_eq_true hj2
    have a1 := hle i (j - 1) (by omega) (by omega)
    have a2 := hle (j - 1) j (by omega) hjl
    rcases hj3 with h | h
    · omega
    · omega
  · constructor
    · intro h
      obtain ⟨j, hj, rfl⟩ := List.mem_map.1 h
      have hjl := List.mem_range.1 (List.mem_filter.1 hj).1
      rw [List.getD_eq_getElem?_getD, List.getElem?_eq_getElem hjl]
      exact List.getElem_mem hjl
    · intro h
      obtain ⟨j, hjl, hjx⟩ := List.getElem_of_mem h
      have key : ∀ j, j < ss.length → ss.getD j 0 = x → ∃ i, i < ss.length ∧ ss.getD i 0 = x ∧ (i = 0 ∨ ss.getD i 0 ≠ ss.getD (i - 1) 0) := by
        intro j
        induction j with
        | zero => intro h1 h2; exact ⟨0, h1, h2, .inl rfl⟩
        | succ j ih =>
          intro h1 h2
          by_cases e : ss.getD j 0 = x
          · exact ih (by omega) e
          · exact ⟨j + 1, h1, h2, .inr (by rw [Nat.add_sub_cancel, h2]; exact fun q => e q.symm)⟩
      obtain ⟨i, i1, i2, i3⟩ := key j hjl (by rw [List.getD_eq_getElem?_getD, List.getElem?_eq_getElem hjl]; exact hjx)
      exact List.mem_map.2 ⟨i, List.mem_filter.2 ⟨List.mem_range.2 i1, decide_eq_true i3⟩, i2⟩
theorem ris_inc (zs : List Int) : (risO zs).Pairwise (· < ·) ∧ ∀ x, x ∈ risO zs ↔ x ∈ zs := by
  obtain ⟨h1, h2⟩ := compact_inc _ (sorted_ms zs)
  exact ⟨h1, fun x => (h2 x).trans List.mem_mergeSort⟩
theorem ris_len (zs : List Int) : (risO zs).length ≤ zs.length := by
  have := Lib.compact_length_le (zs.mergeSort fun x y => decide (x ≤ y))
  rw [List.length_mergeSort] at this
  exact this
/-- The beginning of a row of one's own. -/
theorem own_take {w : World} {base : Nat} {e : TypeId} {g n cap : Nat} {xs : List Value} (h : w.ownsRow base e 1 (.slice (some ⟨g, 0, none⟩) n cap) n xs) (m : Nat) (hm : m ≤ n) : w.ownsRow base e 1 (.slice (some ⟨g, 0, none⟩) m cap) m (xs.take m) := by
  obtain ⟨h1, h2⟩ := h
  rcases h2 with ⟨h2, _⟩ | ⟨g', cap', cur, h2, hb, hh, hc, hmx, hs, ht⟩
  · cases h2
  · cases h2
    refine ⟨by rw [List.length_take]; omega, .inr ⟨g, cap, cur, rfl, hb, hh, by omega, hmx, hs, ?_⟩⟩
    rw [← ht, List.take_take]
    congr 1
    omega
theorem own_free1 {w : World} {base : Nat} {e : TypeId} {size g n cap : Nat} {xs : List Value} (h : w.ownsRow base e size (.slice (some ⟨g, 0, none⟩) n cap) n xs) (o : Nat) : w.frozen? ⟨g, o, none⟩ = false := by
  rcases h.2 with ⟨h', _⟩ | ⟨g', cap', cur, h', hb, hg, _⟩
  · simp at h'
  · simp only [Value.slice.injEq, Option.some.injEq, Addr.mk.injEq, and_true, true_and] at h'
    obtain ⟨rfl, rfl⟩ := h'
    simp [World.frozen?, hg]
theorem own_holds {w : World} {base g cap : Nat} {zs : List Int} (O : w.ownsRow base 3 1 (.slice (some ⟨g, 0, none⟩) zs.length cap) zs.length (intsV zs)) : Sort.Holds (Value.int .i64) w g 0 zs.toArray := by
  intro j hj
  have hj' : j < zs.length := by simpa using hj
  refine ⟨?_, by rw [Nat.zero_add]; exact own_free1 O _⟩
  rw [Nat.zero_add, World.ownsRow.cellAt O j (by omega)]
  simp [intsV, hj']
set_option maxRecDepth 100000 in
set_option maxHeartbeats 4000000 in
theorem rising_any (zs : List Int) (hl : zs.length * 8 ≤ 140737488351232) (base : Nat) (ao : Option Addr) (cap : Nat) (w : World) (O : w.ownsRow base 3 1 (.slice ao zs.length cap) zs.length (intsV zs)) :
    Calls Tryz.prog 63 #[.slice ao zs.length cap] w fun e w' => e = .returned (.slice ao (risO zs).length cap) ∧ w'.ownsRow base 3 1 (.slice ao (risO zs).length cap) (risO zs).length (intsV (risO zs)) ∧ w.grownBy w' (Value.slice ao zs.length cap).ownBlock := by
  rcases O.2 with ⟨h1, h0⟩ | ⟨g, cap', cur, h1, hb, hh, hc, hm, hs, ht⟩
  · have hz : zs = [] := List.length_eq_zero_iff.1 h0
    subst hz
    cases h1
    have c1 := fun u => show Calls Tryz.prog 83 #[.slice none 0 0] u _ from Any.slices_Sort_int_none So.lays_n189 none 0 u
    have c2 := fun u => show Calls Tryz.prog 84 #[.slice none 0 0] u _ from Any.slices_Compact_int_empty Cm.lays_n20 none 0 u
    rw [show risO [] = [] by decide +kernel]
    go_enter Tryz.func63, Tryz.ntmps63
    go_wp2_with (first | (go_at_call 83; (with_reducible refine (c1 _).mono ?_); rintro e u ⟨rfl, rfl⟩) | (go_at_call 84; (with_reducible refine (c2 _).mono ?_); rintro e u ⟨rfl, rfl⟩))
    go_ret
    exact ⟨rfl, World.ownsRow_nil _ _ _ _, World.grownBy.refl _ _⟩
  · cases h1
    have c1 := show Calls Tryz.prog 83 #[.slice (some ⟨g, 0, none⟩) zs.length cap] w _ from Any.slices_Sort_int So.lays_n189 g 0 cap zs w (own_holds O) (lt_of_block hh) (by omega)
    have hsl : (zs.mergeSort fun x y => decide (x ≤ y)).length = zs.length := List.length_mergeSort _
    have hcl : (Lib.compact (zs.mergeSort fun x y => decide (x ≤ y))).length ≤ (zs.mergeSort fun x y => decide (x ≤ y)).length := Lib.compact_length_le _
    have c2 := fun (u : World) (O' : u.ownsRow base 3 1 (.slice (some ⟨g, 0, none⟩) (zs.mergeSort fun x y => decide (x ≤ y)).length cap) (zs.mergeSort fun x y => decide (x ≤ y)).length (intsV (zs.mergeSort fun x y => decide (x ≤ y)))) => show Calls Tryz.prog 84 #[.slice (some ⟨g, 0, none⟩) (zs.mergeSort fun x y => decide (x ≤ y)).length cap] u _ from Any.slices_Compact_int Cm.lays_n20 g 0 cap (zs.mergeSort fun x y => decide (x ≤ y)) u (own_holds O') (by omega) (by omega)
    have key1 : ∀ n os, (Sort.grow (Sort.putRow (Value.int .i64) (Sort.ahead w n) g 0 (zs.mergeSort fun x y => decide (x ≤ y)).toArray) os).ownsRow base 3 1 (.slice (some ⟨g, 0, none⟩) (zs.mergeSort fun x y => decide (x ≤ y)).length cap) (zs.mergeSort fun x y => decide (x ≤ y)).length (intsV (zs.mergeSort fun x y => decide (x ≤ y))) := fun n os => by
      have := ownsRow_sortedI (n := n) (os := os) (ss := zs) hsl hb hh hc hm hs
      rw [hsl]
      exact this
    have key2 : ∀ (u : World) (O' : u.ownsRow base 3 1 (.slice (some ⟨g, 0, none⟩) (zs.mergeSort fun x y => decide (x ≤ y)).length cap) (zs.mergeSort fun x y => decide (x ≤ y)).length (intsV (zs.mergeSort fun x y => decide (x ≤ y)))) (q : Nat), (Sort.putRow (Value.int .i64) (Sort.ahead u q) g 0 (Lib.compact (zs.mergeSort fun x y => decide (x ≤ y)) ++ List.replicate ((zs.mergeSort fun x y => decide (x ≤ y)).length - (Lib.compact (zs.mergeSort fun x y => decide (x ≤ y))).length) 0).toArray).ownsRow base 3 1 (.slice (some ⟨g, 0, none⟩) (risO zs).length cap) (risO zs).length (intsV (risO zs)) := fun u O' q => by
      rcases O'.2 with ⟨h1, _⟩ | ⟨g', cap', cur', h1, hb', hh', hc', hm', hs', _⟩
      · cases h1
      · cases h1
        have := ownsRow_sortedI (n := q) (os := #[]) (ss := zs.mergeSort fun x y => decide (x ≤ y)) (ts := Lib.compact (zs.mergeSort fun x y => decide (x ≤ y)) ++ List.replicate ((zs.mergeSort fun x y => decide (x ≤ y)).length - (Lib.compact (zs.mergeSort fun x y => decide (x ≤ y))).length) 0) (by rw [List.length_append, List.length_replicate]; omega) hb' hh' hc' hm' hs'
        rw [Sort.grow_empty] at this
        have h2 := own_take this (risO zs).length hcl
        rw [List.map_append, List.take_left' (by rw [List.length_map]; rfl)] at h2
        exact h2
    have key3 : ∀ n os, w.grownBy (Sort.grow (Sort.putRow (Value.int .i64) (Sort.ahead w n) g 0 (zs.mergeSort fun x y => decide (x ≤ y)).toArray) os) (some g) := fun n os => grownBy_sortedI _
    have key4 : ∀ (u : World) (q : Nat) (d : Array Int), u.grownBy (Sort.putRow (Value.int .i64) (Sort.ahead u q) g 0 d) (some g) := fun u q d => by
      have := grownBy_sortedI (w := u) (g := g) (n := q) (os := #[]) d
      rw [Sort.grow_empty] at this
      exact this
    have gtr : ∀ {a b c : World}, a.grownBy b (some g) → b.grownBy c (some g) → a.grownBy c (some g) := fun {a b c} h k => ⟨k.os.trans h.os, k.tape.trans h.tape, k.output.trans h.output, Nat.le_trans h.size k.size, fun j hj hne => (k.block j (Nat.lt_of_lt_of_le hj h.size) hne).trans (h.block j hj hne)⟩
    have c3 := fun (u : World) (O' : u.ownsRow base 3 1 (.slice (some ⟨g, 0, none⟩) (zs.mergeSort fun x y => decide (x ≤ y)).length cap) (zs.mergeSort fun x y => decide (x ≤ y)).length (intsV (zs.mergeSort fun x y => decide (x ≤ y)))) => (c2 u O').mono (R' := fun e w' => e = .returned (.slice (some ⟨g, 0, none⟩) (risO zs).length cap) ∧ w'.ownsRow base 3 1 (.slice (some ⟨g, 0, none⟩) (risO zs).length cap) (risO zs).length (intsV (risO zs)) ∧ u.grownBy w' (some g)) (by
      rintro e w' ⟨rfl, q, rfl⟩
      exact ⟨rfl, key2 u O' q, key4 u q _⟩)
    clear c2 key2 key4
    rw [hsl] at c3
    have key1' := fun n os => (by have := key1 n os; rw [hsl] at this; exact this : (Sort.grow (Sort.putRow (Value.int .i64) (Sort.ahead w n) g 0 (zs.mergeSort fun x y => decide (x ≤ y)).toArray) os).ownsRow base 3 1 (.slice (some ⟨g, 0, none⟩) zs.length cap) zs.length (intsV (zs.mergeSort fun x y => decide (x ≤ y))))
    go_enter Tryz.func63, Tryz.ntmps63
    go_wp2_with (first | (go_at_call 83; (with_reducible refine c1.mono ?_); rintro e u ⟨rfl, n1, os1, rfl⟩) | (go_at_call 84; (with_reducible refine (c3 _ (key1' n1 os1)).mono ?_); rintro e u ⟨rfl, OR, gR⟩))
    go_ret
    exact ⟨rfl, OR, gtr (key3 n1 os1) gR⟩

end Go.Proofs.YtlejhococjlijaaGreatDoor
