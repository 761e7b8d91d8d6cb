/- Whether a query's trees are nested beyond the bound. -/
import Derived.Test.YtbedpgamjaemoaaCpc
import Derived.Test.YtbedpgamjaemoaaSha
namespace Go.Proofs.Ytbedpgamjaemoaa
open Go.RowKit Go.BigFrame
set_option linter.unusedVariables false
set_option linter.unusedSimpArgs false

/-- A local of seven cells. -/
theorem Bk.at7 {w : World} {b : Nat} {c0 c1 c2 c3 c4 c5 c6 : Value} {t : TypeId} (h : Bk w b #[c0, c1, c2, c3, c4, c5, c6] t) : w.cell? ⟨b, 0, none⟩ = some c0 ∧ w.cell? ⟨b, 1, none⟩ = some c1 ∧ w.cell? ⟨b, 2, none⟩ = some c2 ∧ w.cell? ⟨b, 3, none⟩ = some c3 ∧ w.cell? ⟨b, 4, none⟩ = some c4 ∧ w.cell? ⟨b, 5, none⟩ = some c5 ∧ w.cell? ⟨b, 6, none⟩ = some c6 :=
  ⟨cell_of_row w b 0 _ _ _ h, cell_of_row w b 1 _ _ _ h, cell_of_row w b 2 _ _ _ h, cell_of_row w b 3 _ _ _ h, cell_of_row w b 4 _ _ _ h, cell_of_row w b 5 _ _ _ h, cell_of_row w b 6 _ _ _ h⟩
theorem Bk.free {w : World} {b : Nat} {cs : Array Value} {t : TypeId} (h : Bk w b cs t) (o : Nat) : w.frozen? ⟨b, o, none⟩ = false := by unfold Bk at h; simp [World.frozen?, h]
theorem Bk.set {w : World} {b : Nat} {cs : Array Value} {t : TypeId} (h : Bk w b cs t) (o : Nat) (v : Value) : Bk (w.setCell ⟨b, o, none⟩ v) b (cs.setIfInBounds o v) t := Fv.go w cs o v h
theorem Bk.other {w : World} {b : Nat} {cs : Array Value} {t : TypeId} (h : Bk w b cs t) {b' : Nat} (hne : b' ≠ b) (o : Nat) (v : Value) : Bk (w.setCell ⟨b', o, none⟩ v) b cs t := by
  unfold Bk at h ⊢
  rw [← h]
  show (w.heap.modify b' _)[b]? = _
  rw [Array.getElem?_modify, if_neg hne]
theorem Bk.newE {w : World} {g : Nat} (hg : g = w.heap.size) (cs : Array Value) (t : TypeId) : Bk (w.alloc (.cells cs t)) g cs t := by subst hg; exact Bk.new w cs t
theorem bk_far {w u : World} {b : Nat} {cs : Array Value} {t : TypeId} (h : Bk w b cs t) {b1 : Nat} {e1 : TypeId} {s1 : Nat} {v1 : Value} {n1 : Nat} {x1 : List Value} (h1 : w.ownsRow b1 e1 s1 v1 n1 x1) (hT : t ≠ e1) (G : w.grownBy u v1.ownBlock) : Bk u b cs t := by
  refine (G.block b h.lt fun e => ?_).trans h
  rcases h1.2 with ⟨rfl, _⟩ | ⟨g1, c1, cur1, rfl, _, hh1, _⟩
  · cases e
  · cases e
    unfold Bk at h
    rw [hh1] at h
    simp only [Option.some.injEq, Obj.cells.injEq] at h
    exact hT h.2.1.symm
def qyA (q : Qy) (ai : Option Addr) (ci : Nat) (aw : Option Addr) (cw : Nat) (ar : Option Addr) (cr : Nat) : Array Value := #[.slice ai q.items.length ci, .int .i64 q.mode, .int .i64 q.after, .slice aw q.wh.length cw, .int .i64 q.within, .string q.by_, .slice ar q.ret.length cr]
set_option maxRecDepth 100000 in
set_option maxHeartbeats 8000000 in
theorem qBeyond_any (q : Qy) (hq : q.fit) (cs : Array Value) (ai : Option Addr) (ci : Nat) (aw : Option Addr) (cw : Nat) (ar : Option Addr) (cr : Nat) (w : World) (A : IsQ w q cs ai ci aw cw ar cr) :
    Calls Try.prog 9 #[.agg cs] w fun e w' => ∃ bb, e = .returned (.bool bb) ∧ Below w.heap.size w w' := by
  obtain ⟨he, Ai, Aw, Ar, si, sw, sr⟩ := A
  subst he
  have hr := hq.r
  have c1 := fun (u : World) (g : Below w.heap.size w u) => beyond_any q.wh aw cw u (Aw.keep g) hq.wh.1 hq.wh.2
  have B0 := galloc (Below.refl w.heap.size w) (.cells #[.slice ai q.items.length ci, .int .i64 q.mode, .int .i64 q.after, .slice aw q.wh.length cw, .int .i64 q.within, .string q.by_, .slice ar q.ret.length cr] 40)
  have S0 := Bk.new w #[.slice ai q.items.length ci, .int .i64 q.mode, .int .i64 q.after, .slice aw q.wh.length cw, .int .i64 q.within, .string q.by_, .slice ar q.ret.length cr] 40
  go_enter Try.func9, Try.ntmps9
  go_wp2_with (go_at_call 10; (with_reducible refine (c1 _ B0).mono ?_); rintro e u1 ⟨b1, rfl, g1⟩)
  have G1 := gtrans B0 g1
  have S1 := S0.keep g1
  go_loopw [3, 4, 5] (fun d x _ wr => ∃ (k : Nat) (bb : Bool), k ≤ q.ret.length ∧ x = .int .i64 k ∧ d = .bool bb ∧ Bk wr w.heap.size #[.slice ai q.items.length ci, .int .i64 q.mode, .int .i64 q.after, .slice aw q.wh.length cw, .int .i64 q.within, .string q.by_, .slice ar q.ret.length cr] 40 ∧ Below w.heap.size w wr) (fun _ x _ _ => q.ret.length - (intOf x).toNat)
  case atStart => exact ⟨0, b1, Nat.zero_le _, rfl, rfl, S1, G1⟩
  case round =>
    obtain ⟨k, bb, hk, rfl, rfl, S, G⟩ := hrel
    obtain ⟨_, _, _, _, _, _, s6⟩ := S.at7
    by_cases hlt : k < q.ret.length
    · obtain ⟨g, o, a, c, rfl, x0, I, sl⟩ := (Ar.keep G) k hlt
      have hki : (k : Int) < (q.ret.length : Int) := by omega
      have c2 := beyond_any (q.ret.getD k []) a c wr I (hq.ret k).1 (hq.ret k).2
      generalize q.ret.getD k [] = rk at *
      go_wp2_with (go_at_call 10; (with_reducible refine c2.mono ?_); rintro e u2 ⟨b2, rfl, g2⟩)
      all_goals
        go_roundw
        case rel => exact ⟨k + 1, _, by omega, by go_num, rfl, S.keep g2, gtrans G g2⟩
        case measure => simp [intOf]; omega
    · have hkn : k = q.ret.length := by omega
      subst hkn
      go_wp2
      go_ret
      exact ⟨_, rfl, G⟩

end Go.Proofs.Ytbedpgamjaemoaa
