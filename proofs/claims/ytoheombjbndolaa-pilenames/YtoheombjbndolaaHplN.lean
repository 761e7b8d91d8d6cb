/- The same of names. -/
import Derived.Test.YtoheombjbndolaaHpn
import Derived.Test.YtoheombjbndolaaHpkN
namespace Go.Proofs.Ytoheombjbndolaa
open Go.RowKit Go.BigFrame
set_option linter.unusedVariables false
set_option linter.unusedSimpArgs false

theorem nmPa_new (w : World) : nmPa (w.alloc (.cells #[.slice none 0 0, .int .i64 0] 64)) w.heap.size (w.heap.size + 1) (.slice none 0 0) [] 0 :=
  ⟨[], ⟨Bk.new w _ _, World.ownsRow_nil _ _ _ _, fun g e => by simp [Value.ownBlock] at e⟩, List.Perm.refl _, fun i h0 h1 => by simp at h1, List.Pairwise.nil, fun y hy => by simp at hy⟩
set_option maxRecDepth 100000 in
set_option maxHeartbeats 4000000 in
theorem nmSort (ao : Option Addr) (cap : Nat) (l : List Nm) (w : World) (hsl : Sl ao l.length cap) (F : Flat w ao (fl nmC l)) (hl : l.length * 16 ≤ 140737488351232) : Calls Try.prog 23 #[.slice ao l.length cap] w fun e w' => ∃ g, e = .returned (.slice (some ⟨g, 0, none⟩) l.length l.length) ∧ w'.ownsRow w.heap.size 44 2 (.slice (some ⟨g, 0, none⟩) l.length l.length) l.length (fl nmC ((lay nmLt l).map Prod.fst)) ∧ Below w.heap.size w w' := by
  have c0 := nmNew w
  have P0 := nmPa_new w
  have B0 := galloc (Below.refl w.heap.size w) (.cells #[.slice none 0 0, .int .i64 0] 64)
  generalize hW0 : w.alloc (.cells #[.slice none 0 0, .int .i64 0] 64) = W0 at *
  clear hW0
  go_enter Try.func23, Try.ntmps23
  go_upto_region 3 with (first
    | (go_at_call 20; (with_reducible refine c0.mono ?_); rintro e u ⟨rfl, hu⟩; have hu' := hu.symm; subst hu'))
  go_loopw [5, 9] (fun _ vi wr => ∃ (i : Nat) (v : Value), i ≤ l.length ∧ vi = .int .i64 (i : Int) ∧ nmPa wr w.heap.size (w.heap.size + 1) v (lay nmLt (l.take i)) i ∧ Below w.heap.size w wr) (fun _ vi _ => l.length - (intOf vi).toNat)
  case atStart => exact ⟨0, _, Nat.zero_le _, rfl, P0, B0⟩
  case round =>
    obtain ⟨i, v, hi, rfl, P, B⟩ := hrel
    clear c0 P0 B0
    by_cases hlt : i < l.length
    · obtain ⟨g, o, rfl, hgl, _⟩ := (F.keep B).form (by rw [fl_len nm_size]; omega)
      have rx := flat_range nm_size zrNm (F.keep B) i hlt
      obtain ⟨x, hx⟩ : ∃ x, l.getD i zrNm = x := ⟨_, rfl⟩
      rw [hx] at rx
      have HX : Hid (l.getD i zrNm = x) := hx
      have HT : Hid (i < l.length) := hlt
      have sx := nm_one1 x
      have q1 : (i : Int) < (l.length : Int) := by omega
      have bz := Bk.new wr #[.int .i64 0, .int .u64 0] 44
      have th := bz.there
      have b7 := bz.setCells (cs' := nmC x) rfl
      have G8 := gsetCells (galloc (Below.refl wr.heap.size wr) (.cells #[.int .i64 0, .int .u64 0] 44)) (Nat.le_refl _) (nmC x).toList 0
      generalize hX3 : (wr.alloc (.cells #[.int .i64 0, .int .u64 0] 44)).setCells wr.heap.size 0 (nmC x).toList = X3 at *
      have r7 := b7.range
      have hlen : (lay nmLt (l.take i)).length = i := by rw [lay_len, List.length_take]; omega
      have hX3z : w.heap.size + 1 ≤ X3.heap.size := by have := P.blk.lt; have := G8.size; omega
      have c9 := nmPush w.heap.size (w.heap.size + 1) i v (lay nmLt (l.take i)) x X3 (P.keep G8) (by rw [hlen]; omega) hX3z (by omega) (fun e => by subst e; rfl)
      clear hx hlt hlen
      go_wp2_with (first
        | (refine wpList_load_mid rfl 44 _ rfl g (o + i * 2) rfl (nmC x).toList _ rx Try.underlying44 rfl infoNm ?_)
        | (refine wpList_store_mid rfl 44 _ _ rfl wr.heap.size 0 (nmC x) rfl rfl th infoNm sx ?_; rw [hX3])
        | (refine wpList_load_mid rfl 44 _ rfl wr.heap.size 0 rfl (nmC x).toList _ r7 Try.underlying44 rfl infoNm ?_)
        | (go_at_call 21; (with_reducible refine c9.mono ?_); rintro e u2 ⟨rfl, v2, P9, G9, V9⟩))
      go_roundw
      case rel =>
        have hx : l.getD i zrNm = x := HX
        have hlt : i < l.length := HT
        refine ⟨i + 1, v2, by omega, by go_num, ?_, G9.toBelow (gtrans B G8) (Nat.le_refl _) (Nat.le_refl _) (fun g e => by have := (P.low g e).1; omega)⟩
        rw [take_snoc l zrNm i hlt, hx, lay_snoc, List.length_take, Nat.min_eq_left (by omega)]
        exact P9
      case measure => simp [intOf]; omega
    · obtain rfl : i = l.length := by omega
      have hki : ¬ (l.length : Int) < (l.length : Int) := by omega
      rw [List.take_length] at P
      have hlen : (lay nmLt l).length = l.length := lay_len _ _
      have c9 := nmDrain w.heap.size (w.heap.size + 1) l.length v (lay nmLt l) wr P (by rw [hlen]; omega)
      rw [hlen] at c9
      clear hlen hlt
      go_wp2_with (first
        | (go_at_call 38; (with_reducible refine c9.mono ?_); rintro e u2 ⟨rfl, O9, G9⟩))
      go_ret
      exact ⟨_, rfl, own_mono O9 B.size, G9.toBelow B (Nat.le_refl _) (Nat.le_refl _) (fun g e => by have := (P.low g e).1; omega)⟩


end Go.Proofs.Ytoheombjbndolaa
