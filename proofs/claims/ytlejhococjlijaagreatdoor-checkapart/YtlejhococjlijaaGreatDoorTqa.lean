/- Whether a query's trees are nested beyond the bound. -/
import Derived.Test.YtlejhococjlijaaGreatDoorCpc
import Derived.Test.YtlejhococjlijaaGreatDoorSha
namespace Go.Proofs.YtlejhococjlijaaGreatDoor
open Go.RowKit Go.BigFrame
set_option linter.unusedVariables false
set_option linter.unusedSimpArgs false

def qyA (q : Qy) (ai : Option Addr) (ci : Nat) (aw : Option Addr) (cw : Nat) (ar : Option Addr) (cr : Nat) : Array Value := #[.slice ai q.items.length ci, .int .i64 q.mode, .int .i64 q.after, .slice aw q.wh.length cw, .int .i64 q.within, .string q.by_, .slice ar q.ret.length cr]
set_option maxRecDepth 100000 in
set_option maxHeartbeats 8000000 in
theorem qBeyond_any (q : Qy) (hq : q.fit) (cs : Array Value) (ai : Option Addr) (ci : Nat) (aw : Option Addr) (cw : Nat) (ar : Option Addr) (cr : Nat) (w : World) (A : IsQ w q cs ai ci aw cw ar cr) :
    Calls Tryz.prog 12 #[.agg cs] w fun e w' => ∃ bb, e = .returned (.bool bb) ∧ Below w.heap.size w w' := by
  obtain ⟨he, Ai, Aw, Ar, si, sw, sr⟩ := A
  subst he
  have hr := hq.r
  have c1 := fun (u : World) (g : Below w.heap.size w u) => beyond_any q.wh aw cw u (Aw.keep g) hq.wh.1 hq.wh.2
  have B0 := galloc (Below.refl w.heap.size w) (.cells #[.slice ai q.items.length ci, .int .i64 q.mode, .int .i64 q.after, .slice aw q.wh.length cw, .int .i64 q.within, .string q.by_, .slice ar q.ret.length cr] 40)
  have S0 := Bk.new w #[.slice ai q.items.length ci, .int .i64 q.mode, .int .i64 q.after, .slice aw q.wh.length cw, .int .i64 q.within, .string q.by_, .slice ar q.ret.length cr] 40
  go_enter Tryz.func12, Tryz.ntmps12
  go_wp2_with (go_at_call 7; (with_reducible refine (c1 _ B0).mono ?_); rintro e u1 ⟨b1, rfl, g1⟩)
  have G1 := gtrans B0 g1
  have S1 := S0.keep g1
  go_loopw [3, 4, 5] (fun d x _ wr => ∃ (k : Nat) (bb : Bool), k ≤ q.ret.length ∧ x = .int .i64 k ∧ d = .bool bb ∧ Bk wr w.heap.size #[.slice ai q.items.length ci, .int .i64 q.mode, .int .i64 q.after, .slice aw q.wh.length cw, .int .i64 q.within, .string q.by_, .slice ar q.ret.length cr] 40 ∧ Below w.heap.size w wr) (fun _ x _ _ => q.ret.length - (intOf x).toNat)
  case atStart => exact ⟨0, b1, Nat.zero_le _, rfl, rfl, S1, G1⟩
  case round =>
    obtain ⟨k, bb, hk, rfl, rfl, S, G⟩ := hrel
    obtain ⟨_, _, _, _, _, _, s6⟩ := S.at7
    by_cases hlt : k < q.ret.length
    · obtain ⟨g, o, a, c, rfl, x0, I, sl⟩ := (Ar.keep G) k hlt
      have hki : (k : Int) < (q.ret.length : Int) := by omega
      have c2 := beyond_any (q.ret.getD k []) a c wr I (hq.ret k).1 (hq.ret k).2
      generalize q.ret.getD k [] = rk at *
      go_wp2_with (go_at_call 7; (with_reducible refine c2.mono ?_); rintro e u2 ⟨b2, rfl, g2⟩)
      all_goals
        go_roundw
        case rel => exact ⟨k + 1, _, by omega, by go_num, rfl, S.keep g2, gtrans G g2⟩
        case measure => simp [intOf]; omega
    · have hkn : k = q.ret.length := by omega
      subst hkn
      go_wp2
      go_ret
      exact ⟨_, rfl, G⟩

end Go.Proofs.YtlejhococjlijaaGreatDoor
