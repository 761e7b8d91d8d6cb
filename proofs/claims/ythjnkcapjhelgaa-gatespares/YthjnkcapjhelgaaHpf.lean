/- New, Len, Peek, the top cut off. -/
import Derived.Test.YthjnkcapjhelgaaHpe
namespace Go.Proofs.Ythjnkcapjhelgaa
open Go.RowKit Go.BigFrame
set_option linter.unusedVariables false
set_option linter.unusedSimpArgs false

def zrEv : Ev := zeroE
theorem nfLdE : (Try.prog.info? 101).map (fun i => (i.zero, i.size, i.bytes)) = some (some (.agg (ldC evC (zrEv, 0))), 12, 96) := by kernel_rfl
set_option maxHeartbeats 1000000 in
theorem evNew (w : World) : Calls Try.prog 36 #[] w fun e w' => e = .returned (.pointer (some ⟨w.heap.size, 0, none⟩)) ∧ w' = w.alloc (.cells #[.slice none 0 0, .int .i64 0] 97) := by
  go_enter Try.func36, Try.ntmps36
  go_wp2
  go_ret
  exact ⟨rfl, rfl⟩
set_option maxHeartbeats 1000000 in
theorem evLen (p : Nat) (ao : Option Addr) (n cap : Nat) (y : Value) (w : World) (hb : Bk w p #[.slice ao n cap, y] 97) : Calls Try.prog 32 #[.pointer (some ⟨p, 0, none⟩)] w fun e w' => e = .returned (.int .i64 (n : Int)) ∧ w' = w := by
  have c0 := hb.at2.1
  go_enter Try.func32, Try.ntmps32
  go_wp2
  go_ret
  exact ⟨rfl, rfl⟩
/-- What Peek and Pop answer. -/
def evTopV (x : Ev) (b : Bool) : Value := .tuple #[.agg (evC x), .bool b]
set_option maxHeartbeats 1000000 in
theorem evPeek_none (p : Nat) (ao : Option Addr) (cap : Nat) (y : Value) (w : World) (hb : Bk w p #[.slice ao 0 cap, y] 97) : Calls Try.prog 53 #[.pointer (some ⟨p, 0, none⟩)] w fun e w' => e = .returned (evTopV zrEv false) ∧ Below w.heap.size w w' := by
  have c0 := hb.at2.1
  have hp := hb.lt
  have B := galloc (galloc (Below.refl w.heap.size w) (.cells #[.int .i64 0, .int .u64 0, .int .i64 0, .int .i64 0, .int .i64 0, .int .i64 0, .int .i64 0, .int .i64 0, .int .i64 0, .int .i64 0, .int .i64 0] 47)) (.cells #[.int .i64 0, .int .u64 0, .int .i64 0, .int .i64 0, .int .i64 0, .int .i64 0, .int .i64 0, .int .i64 0, .int .i64 0, .int .i64 0, .int .i64 0] 47)
  have b1 := (Bk.new w #[.int .i64 0, .int .u64 0, .int .i64 0, .int .i64 0, .int .i64 0, .int .i64 0, .int .i64 0, .int .i64 0, .int .i64 0, .int .i64 0, .int .i64 0] 47).alloc (.cells #[.int .i64 0, .int .u64 0, .int .i64 0, .int .i64 0, .int .i64 0, .int .i64 0, .int .i64 0, .int .i64 0, .int .i64 0, .int .i64 0, .int .i64 0] 47)
  have HB : Hid _ := b1
  have HG : Hid _ := B
  clear b1 B
  go_enter Try.func53, Try.ntmps53
  go_wp2
  exact bodyPost_ret (results_row_tmp rfl _ _ w.heap.size 47 #[.int .i64 0, .int .u64 0, .int .i64 0, .int .i64 0, .int .i64 0, .int .i64 0, .int .i64 0, .int .i64 0, .int .i64 0, .int .i64 0, .int .i64 0] (0, 0) _ rfl HB Try.underlying47 rfl infoEv) rfl ⟨rfl, HG⟩
set_option maxHeartbeats 1000000 in
theorem evPeek_some (p base g cap t : Nat) (h : List (Ev × Nat)) (z : Ev × Nat) (w : World) (P : Pil 97 101 12 evC w p base (.slice (some ⟨g, 0, none⟩) h.length cap) h t) (h0 : 0 < h.length) : Calls Try.prog 53 #[.pointer (some ⟨p, 0, none⟩)] w fun e w' => e = .returned (evTopV (h.getD 0 z).1 true) ∧ Below w.heap.size w w' := by
  have c0 := P.blk.at2.1
  have hp := P.blk.lt
  have r0 := own_range (cv := ldC evC) ev_lsize z P.own 0 h0
  rw [Nat.zero_mul] at r0
  generalize h.getD 0 z = x at *
  have r1 : w.rangeAt g 0 (evC x.1).toList := fun j v hv => r0 j v (by
    have hj := (List.getElem?_eq_some_iff.1 hv).1
    unfold ldC
    rw [Array.toList_append, List.getElem?_append_left hj]
    exact hv)
  clear r0
  have q0 : ((h.length : Int) == 0) = false := by rw [beq_eq_false_iff_ne]; omega
  have q1 : (0 : Int) < (h.length : Int) := by omega
  have B := galloc (Below.refl w.heap.size w) (.cells #[.int .i64 0, .int .u64 0, .int .i64 0, .int .i64 0, .int .i64 0, .int .i64 0, .int .i64 0, .int .i64 0, .int .i64 0, .int .i64 0, .int .i64 0] 47)
  have b1 := Bk.new w #[.int .i64 0, .int .u64 0, .int .i64 0, .int .i64 0, .int .i64 0, .int .i64 0, .int .i64 0, .int .i64 0, .int .i64 0, .int .i64 0, .int .i64 0] 47
  go_enter Try.func53, Try.ntmps53
  go_upto_region 1 with fail
  generalize w.alloc _ = V at *
  have r2 := rangeAt_keep r1 B
  have c1 := (P.blk.keep B).at2.1
  have b2 := b1.setCells (cs' := evC x.1) rfl
  have B2 := gsetCells B (Nat.le_refl _) (evC x.1).toList 0
  have s1 : (evC x.1).all (·.oneCell') = true := by simp [evC, Value.oneCell']
  have th := b1.there
  clear c0 r1 b1
  generalize hX : V.setCells w.heap.size 0 (evC x.1).toList = X at *
  go_wp2_with (first
    | (refine wpList_load_mid rfl 47 _ rfl g 0 rfl (evC x.1).toList _ r2 Try.underlying47 rfl infoEv ?_)
    | (refine wpList_store_mid rfl 47 _ _ rfl w.heap.size 0 (evC x.1) rfl rfl th infoEv s1 ?_; rw [hX]))
  exact bodyPost_ret (results_row_tmp rfl _ _ w.heap.size 47 (evC x.1) (0, 0) _ rfl b2 Try.underlying47 rfl infoEv) rfl ⟨rfl, B2⟩

end Go.Proofs.Ythjnkcapjhelgaa
