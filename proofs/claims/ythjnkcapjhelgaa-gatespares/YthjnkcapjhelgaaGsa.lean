/- lists: what a step tells of lists. -/
import Derived.Test.YthjnkcapjhelgaaGla
namespace Go.Proofs.Ythjnkcapjhelgaa
open Go.RowKit Go.BigFrame Go.Maps
set_option linter.unusedVariables false
set_option linter.unusedSimpArgs false

/-- The list that a step tells. -/
def lsL (s : Gs) (x : Gop) : List Ev := if x.kd = 1 then [] else if x.kd = 2 then s.advL x.m else if x.kd = 3 then s.fluL else if x.kd = 6 then s.l else []
/-- The gate behind a step. -/
def lsS (s : Gs) (x : Gop) : Gs := if x.kd = 1 then s.push x.e else if x.kd = 2 then s.adv x.m else if x.kd = 3 then s.flu else s
theorem lsL_len {s : Gs} (h : s.ok) (x : Gop) : (lsL s x).length ≤ 4096 := by
  unfold lsL
  split
  · exact Nat.zero_le _
  split
  · exact Gs.advL_len h _
  split
  · exact Gs.fluL_len h
  split
  · exact h.len'
  · exact Nat.zero_le _
theorem TellP.first {g : Nat} {S : Nat → Prop} {w V w' : World} {s' : Gs} {t t' : Nat} {l : List Ev} {ao : Option Addr} {cap : Nat} (B : Below w.heap.size w V) (P : TellP g S V s' t l ao cap w') (ht : t ≤ t') : TellP g S w s' t' l ao cap w' := ⟨own_mono P.own B.size, (GStep.first B P.step).mono ht⟩
/-- What lists answers. -/
structure LsP (g : Nat) (S : Nat → Prop) (w : World) (s' : Gs) (t : Nat) (l : List Ev) (e : Ending) (w' : World) : Prop where
  ex : ∃ a c, e = .returned (.slice a l.length c) ∧ TellP g S w s' t l a c w'
set_option maxRecDepth 100000 in
set_option maxHeartbeats 4000000 in
theorem lists_any (g t : Nat) (S : Nat → Prop) (s : Gs) (x : Gop) (w : World) (GG : Gat w g S s t) (xok : x.e.ok) (ht : t + 1 ≤ 140737488351232) :
    Calls Try.prog 18 #[.pointer (some ⟨g, 0, none⟩), .agg (gopC x)] w fun e w' => LsP g S w (lsS s x) (t + 1) (lsL s x) e w' := by
  have B := galloc (Below.refl w.heap.size w) (.cells (gopC x) 56)
  have b1 := Bk.new w (gopC x) 56
  have GV := GG.keep B
  generalize hV : w.alloc (.cells (gopC x) 56) = V at *
  have dk : V.cell? ⟨w.heap.size, 0, none⟩ = some (.int .i64 x.kd) := cell_of_row V _ 0 _ _ _ b1
  have dm : V.cell? ⟨w.heap.size, 13, none⟩ = some (.int .i64 x.m) := cell_of_row V _ 13 _ _ _ b1
  have r7 := gop_range b1.range
  unfold lsL lsS
  by_cases k1 : x.kd = 1
  · rw [if_pos k1, if_pos k1]
    rw [k1] at dk
    have c5 := push_any g t S s x.e V GV xok ht
    go_enter Try.func18, Try.ntmps18
    go_wp2_with (first
      | (refine wpList_load_mid rfl 47 _ rfl w.heap.size 2 rfl (evC x.e).toList _ r7 Try.underlying47 rfl infoEv ?_)
      | (go_at_call 14; (with_reducible refine c5.mono ?_); rintro e u5 ⟨rfl, P5⟩))
    go_ret
    exact ⟨none, 0, rfl, ⟨World.ownsRow_nil _ _ _ _, GStep.first B P5⟩⟩
  rw [if_neg k1, if_neg k1]
  have k1' : (x.kd == 1) = false := beq_eq_false_iff_ne.2 k1
  by_cases k2 : x.kd = 2
  · rw [if_pos k2, if_pos k2]
    rw [k2] at dk
    have c5 := adv_any g t S s x.m V GV
    go_enter Try.func18, Try.ntmps18
    go_wp2_with (first
      | (go_at_call 38; (with_reducible refine c5.mono ?_); rintro e u5 ⟨a5, cp5, rfl, P5⟩))
    go_ret
    exact ⟨a5, cp5, rfl, TellP.first B P5 (Nat.le_succ _)⟩
  rw [if_neg k2, if_neg k2]
  have k2' : (x.kd == 2) = false := beq_eq_false_iff_ne.2 k2
  by_cases k3 : x.kd = 3
  · rw [if_pos k3, if_pos k3]
    rw [k3] at dk
    have c5 := flu_any g t S s V GV
    go_enter Try.func18, Try.ntmps18
    go_wp2_with (first
      | (go_at_call 39; (with_reducible refine c5.mono ?_); rintro e u5 ⟨a5, cp5, rfl, P5⟩))
    go_ret
    exact ⟨a5, cp5, rfl, TellP.first B P5 (Nat.le_succ _)⟩
  rw [if_neg k3, if_neg k3]
  have k3' : (x.kd == 3) = false := beq_eq_false_iff_ne.2 k3
  by_cases k6 : x.kd = 6
  · rw [if_pos k6]
    rw [k6] at dk
    have c5 := held_any g t S s V GV
    go_enter Try.func18, Try.ntmps18
    go_wp2_with (first
      | (go_at_call 17; (with_reducible refine c5.mono ?_); rintro e u5 ⟨z5, rfl, O5, g5⟩))
    go_ret
    exact ⟨_, _, rfl, TellP.first B ⟨O5, GStep.of GV g5⟩ (Nat.le_succ _)⟩
  rw [if_neg k6]
  have k6' : (x.kd == 6) = false := beq_eq_false_iff_ne.2 k6
  go_enter Try.func18, Try.ntmps18
  go_wp2
  go_ret
  exact ⟨none, 0, rfl, ⟨World.ownsRow_nil _ _ _ _, (GStep.of GG B).mono (Nat.le_succ _)⟩⟩

end Go.Proofs.Ythjnkcapjhelgaa
