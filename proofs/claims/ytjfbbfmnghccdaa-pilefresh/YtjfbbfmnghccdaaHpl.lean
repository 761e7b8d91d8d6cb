/- Sort. -/
import Derived.Test.YtjfbbfmnghccdaaHpk
namespace Go.Proofs.Ytjfbbfmnghccdaa
open Go.RowKit Go.BigFrame
set_option linter.unusedVariables false
set_option linter.unusedSimpArgs false

theorem Gb.toBelow {p : Nat} {v : Value} {N : Nat} {w wr u : World} (G : Gb p v wr u) (B : Below N w wr) (hN : N ≤ w.heap.size) (hp : N ≤ p) (hv : ∀ g, v.ownBlock = some g → N ≤ g) : Below N w u :=
  ⟨G.os.trans B.os, G.tape.trans B.tape, G.output.trans B.output, Nat.le_trans B.size G.size, fun k hk => (G.blk k (by have := B.size; omega) (by omega) (fun e => by have := hv k e; omega)).trans (B.block k hk)⟩
theorem Pa.low {TP TL : TypeId} {sz : Nat} {β : Type} {cv : β → Array Value} {A : β × Nat → β × Nat → Bool} {z : β × Nat} {w : World} {p base : Nat} {v : Value} {L : List (β × Nat)} {t : Nat} (P : Pa TP TL sz cv A z w p base v L t) : ∀ g, v.ownBlock = some g → base ≤ g ∧ g < w.heap.size := fun g e => by
  obtain ⟨xs, O⟩ := P.row
  exact World.ownsRow.lt O g e
theorem evPa_new (w : World) : evPa (w.alloc (.cells #[.slice none 0 0, .int .i64 0] 92)) w.heap.size (w.heap.size + 1) (.slice none 0 0) [] 0 :=
  ⟨[], ⟨Bk.new w _ _, World.ownsRow_nil _ _ _ _, fun g e => by simp [Value.ownBlock] at e⟩, List.Perm.refl _, fun i h0 h1 => by simp at h1, List.Pairwise.nil, fun y hy => by simp at hy⟩
set_option maxRecDepth 100000 in
set_option maxHeartbeats 4000000 in
theorem evSort (ao : Option Addr) (cap : Nat) (l : List Ev) (w : World) (hsl : Sl ao l.length cap) (F : Flat w ao (fl evC l)) (hl : l.length * 88 ≤ 140737488351232) : Calls Try.prog 10 #[.slice ao l.length cap] w fun e w' => ∃ g, e = .returned (.slice (some ⟨g, 0, none⟩) l.length l.length) ∧ w'.ownsRow w.heap.size 29 11 (.slice (some ⟨g, 0, none⟩) l.length l.length) l.length (fl evC ((lay evLt l).map Prod.fst)) ∧ Below w.heap.size w w' := by
  have c0 := evNew w
  have P0 := evPa_new w
  have B0 := galloc (Below.refl w.heap.size w) (.cells #[.slice none 0 0, .int .i64 0] 92)
  generalize hW0 : w.alloc (.cells #[.slice none 0 0, .int .i64 0] 92) = W0 at *
  clear hW0
  go_enter Try.func10, Try.ntmps10
  go_upto_region 3 with (first
    | (go_at_call 9; (with_reducible refine c0.mono ?_); rintro e u ⟨rfl, hu⟩; have hu' := hu.symm; subst hu'))
  go_loopw [5, 9] (fun _ vi wr => ∃ (i : Nat) (v : Value), i ≤ l.length ∧ vi = .int .i64 (i : Int) ∧ evPa wr w.heap.size (w.heap.size + 1) v (lay evLt (l.take i)) i ∧ Below w.heap.size w wr) (fun _ vi _ => l.length - (intOf vi).toNat)
  case atStart => exact ⟨0, _, Nat.zero_le _, rfl, P0, B0⟩
  case round =>
    obtain ⟨i, v, hi, rfl, P, B⟩ := hrel
    clear c0 P0 B0
    by_cases hlt : i < l.length
    · obtain ⟨g, o, rfl, hgl, _⟩ := (F.keep B).form (by rw [fl_len ev_size]; omega)
      have rx := flat_range ev_size zrEv (F.keep B) i hlt
      obtain ⟨x, hx⟩ : ∃ x, l.getD i zrEv = x := ⟨_, rfl⟩
      rw [hx] at rx
      have HX : Hid (l.getD i zrEv = x) := hx
      have HT : Hid (i < l.length) := hlt
      have sx := ev_one1 x
      have q1 : (i : Int) < (l.length : Int) := by omega
      have bz := Bk.new wr #[.int .i64 0, .int .u64 0, .int .i64 0, .int .i64 0, .int .i64 0, .int .i64 0, .int .i64 0, .int .i64 0, .int .i64 0, .int .i64 0, .int .i64 0] 29
      have th := bz.there
      have b7 := bz.setCells (cs' := evC x) rfl
      have G8 := gsetCells (galloc (Below.refl wr.heap.size wr) (.cells #[.int .i64 0, .int .u64 0, .int .i64 0, .int .i64 0, .int .i64 0, .int .i64 0, .int .i64 0, .int .i64 0, .int .i64 0, .int .i64 0, .int .i64 0] 29)) (Nat.le_refl _) (evC x).toList 0
      generalize hX3 : (wr.alloc (.cells #[.int .i64 0, .int .u64 0, .int .i64 0, .int .i64 0, .int .i64 0, .int .i64 0, .int .i64 0, .int .i64 0, .int .i64 0, .int .i64 0, .int .i64 0] 29)).setCells wr.heap.size 0 (evC x).toList = X3 at *
      have r7 := b7.range
      have hlen : (lay evLt (l.take i)).length = i := by rw [lay_len, List.length_take]; omega
      have hX3z : w.heap.size + 1 ≤ X3.heap.size := by have := P.blk.lt; have := G8.size; omega
      have c9 := evPush w.heap.size (w.heap.size + 1) i v (lay evLt (l.take i)) x X3 (P.keep G8) (by rw [hlen]; omega) hX3z (by omega) (fun e => by subst e; rfl)
      clear hx hlt hlen
      go_wp2_with (first
        | (refine wpList_load_mid rfl 29 _ rfl g (o + i * 11) rfl (evC x).toList _ rx Try.underlying29 rfl infoEv ?_)
        | (refine wpList_store_mid rfl 29 _ _ rfl wr.heap.size 0 (evC x) rfl rfl th infoEv sx ?_; rw [hX3])
        | (refine wpList_load_mid rfl 29 _ rfl wr.heap.size 0 rfl (evC x).toList _ r7 Try.underlying29 rfl infoEv ?_)
        | (go_at_call 11; (with_reducible refine c9.mono ?_); rintro e u2 ⟨rfl, v2, P9, G9, V9⟩))
      go_roundw
      case rel =>
        have hx : l.getD i zrEv = x := HX
        have hlt : i < l.length := HT
        refine ⟨i + 1, v2, by omega, by go_num, ?_, G9.toBelow (gtrans B G8) (Nat.le_refl _) (Nat.le_refl _) (fun g e => by have := (P.low g e).1; omega)⟩
        rw [take_snoc l zrEv i hlt, hx, lay_snoc, List.length_take, Nat.min_eq_left (by omega)]
        exact P9
      case measure => simp [intOf]; omega
    · obtain rfl : i = l.length := by omega
      have hki : ¬ (l.length : Int) < (l.length : Int) := by omega
      rw [List.take_length] at P
      have hlen : (lay evLt l).length = l.length := lay_len _ _
      have c9 := evDrain w.heap.size (w.heap.size + 1) l.length v (lay evLt l) wr P (by rw [hlen]; omega)
      rw [hlen] at c9
      clear hlen hlt
      go_wp2_with (first
        | (go_at_call 41; (with_reducible refine c9.mono ?_); rintro e u2 ⟨rfl, O9, G9⟩))
      go_ret
      exact ⟨_, rfl, own_mono O9 B.size, G9.toBelow B (Nat.le_refl _) (Nat.le_refl _) (fun g e => by have := (P.low g e).1; omega)⟩

end Go.Proofs.Ytjfbbfmnghccdaa
