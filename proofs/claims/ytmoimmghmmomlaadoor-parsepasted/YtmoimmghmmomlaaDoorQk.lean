/- What the law's awake comes to. -/
import Derived.Test.YtmoimmghmmomlaaDoorQj
namespace Go.Proofs.YtmoimmghmmomlaaDoor
open Go.RowKit Go.BigFrame
set_option linter.unusedVariables false
set_option linter.unusedSimpArgs false

def txQ : ByteArray := ⟨#[80, 65, 84, 84, 69, 82, 78, 32, 83, 69, 81, 40, 65, 32, 97, 41, 32, 87, 73, 84, 72, 73, 78, 32, 55]⟩
def txE : ByteArray := ⟨#[97, 46, 120]⟩
theorem paQ : paO txQ = (⟨[⟨false, [⟨#[65]⟩], ⟨#[97]⟩, 1, 1⟩], 0, 0, [], 7, eS, []⟩, ⟨[12], [], 24, 0, []⟩, 0, 0) := by kernel_rfl
theorem exE : exO txE = ([⟨4, 0, ⟨#[97]⟩, ⟨#[120]⟩, -1, -1⟩], [0], 0, 0) := by kernel_rfl

set_option maxRecDepth 100000 in
set_option maxHeartbeats 8000000 in
theorem awake_any (w : World) (K : KwAt w) (Sg : SgAt w) (E : ErAt w) : Calls Tryd.prog 11 #[] w fun e w' => e = .returned (.bool true) ∧ Below w.heap.size w w' := by
  have c1 := parse_call txQ (by decide) w K Sg E
  rw [paQ] at c1
  replace c1 : Calls Tryd.prog 14 #[.string ⟨#[80, 65, 84, 84, 69, 82, 78, 32, 83, 69, 81, 40, 65, 32, 97, 41, 32, 87, 73, 84, 72, 73, 78, 32, 55]⟩] w fun e w' => ∃ vi vw vr si sw sr, e = .returned (.tuple #[.agg #[vi, .int .i64 0, .int .i64 0, vw, .int .i64 7, .string ⟨#[]⟩, vr], .agg #[si, sw, .int .i64 24, .int .i64 0, sr], .int .i64 0, .int .i64 0]) ∧ QRows w' w.heap.size ⟨[⟨false, [⟨#[65]⟩], ⟨#[97]⟩, 1, 1⟩], 0, 0, [], 7, eS, []⟩ ⟨[12], [], 24, 0, []⟩ vi vw vr si sw sr ∧ Below w.heap.size w w' := c1
  have c2 : ∀ u : World, KwAt u → SgAt u → ErAt u → Calls Tryd.prog 13 #[.string ⟨#[97, 46, 120]⟩] u fun e w' => ∃ v1 v2, e = .returned (.tuple #[v1, v2, .int .i64 0, .int .i64 0]) ∧ w'.ownsRow u.heap.size 58 6 v1 1 (ndsV [⟨4, 0, ⟨#[97]⟩, ⟨#[120]⟩, -1, -1⟩]) ∧ w'.ownsRow u.heap.size 3 1 v2 1 (intsV [0]) ∧ Below u.heap.size u w' := fun u k sg er => by
    have := expr_call txE (by decide) u k sg er
    rw [exE] at this
    exact this
  go_enter Tryd.func11, Tryd.ntmps11
  go_upto_region 2 with (go_at_call 14; (with_reducible refine c1.mono ?_); rintro e u ⟨vi, vw, vr, si, sw, sr, rfl, RW, B1⟩; obtain ⟨l1, n1, e1⟩ := RW.its; obtain ⟨l2, n2, e2, e2'⟩ := RW.ret; obtain ⟨l3, n3, e3, e3'⟩ := RW.sre; have n4 := RW.wh; have n5 := RW.sit; have n6 := RW.swh; have hl1 : l1.length = 1 := (by have := congrArg List.length e1; simpa using this); have hl2 : l2.length = 0 := (by have := congrArg List.length e2; simpa using this); have hl3 : l3.length = 0 := (by have := congrArg List.length e3; simpa using this); have n1o := n1.out; have n2o := n2.out; have n3o := n3.out; rw [hl1] at n1o; rw [hl2] at n2o; rw [hl3] at n3o; obtain ⟨o1, p1, rfl⟩ := own_shape n1o; obtain ⟨o2, p2, rfl⟩ := own_shape n2o; obtain ⟨o3, p3, rfl⟩ := own_shape n3o; obtain ⟨o4, p4, rfl⟩ := own_shape n4; obtain ⟨o5, p5, rfl⟩ := own_shape n5; obtain ⟨o6, p6, rfl⟩ := own_shape n6; clear e1 e2 e3 e2' e3' n1 n2 n3 n1o n2o n3o n4 n6 hl1 hl2 hl3)
  obtain ⟨g5, rfl, hg5⟩ : ∃ g5, o5 = some ⟨g5, 0, none⟩ ∧ u.cell? ⟨g5, 0, none⟩ = some (.int .i64 12) := by
    rcases id n5.2 with ⟨h, h0⟩ | ⟨g5, c, cur, h, _⟩
    · exact absurd h0 (by decide)
    · simp only [Value.slice.injEq] at h
      obtain ⟨rfl, _, rfl⟩ := h
      exact ⟨g5, rfl, by rw [World.ownsRow.cellAt n5 0 (by decide)]; rfl⟩
  have hl := lt_of_cell hg5
  have BX := galloc (galloc (Below.refl u.heap.size u) (.cells #[.slice o1 1 p1, .int .i64 0, .int .i64 0, .slice o4 0 p4, .int .i64 7, .string ⟨#[]⟩, .slice o2 0 p2] 39)) (.cells #[.slice (some ⟨g5, 0, none⟩) 1 p5, .slice o6 0 p6, .int .i64 24, .int .i64 0, .slice o3 0 p3] 42)
  have X0 := heap_two u (.cells #[.slice o1 1 p1, .int .i64 0, .int .i64 0, .slice o4 0 p4, .int .i64 7, .string ⟨#[]⟩, .slice o2 0 p2] 39) (.cells #[.slice (some ⟨g5, 0, none⟩) 1 p5, .slice o6 0 p6, .int .i64 24, .int .i64 0, .slice o3 0 p3] 42) _ rfl
  have X1 : ((u.alloc (.cells #[.slice o1 1 p1, .int .i64 0, .int .i64 0, .slice o4 0 p4, .int .i64 7, .string ⟨#[]⟩, .slice o2 0 p2] 39)).alloc (.cells #[.slice (some ⟨g5, 0, none⟩) 1 p5, .slice o6 0 p6, .int .i64 24, .int .i64 0, .slice o3 0 p3] 42)).heap[u.heap.size + 1]? = some (.cells #[.slice (some ⟨g5, 0, none⟩) 1 p5, .slice o6 0 p6, .int .i64 24, .int .i64 0, .slice o3 0 p3] 42 (0, 0)) := by
    have hz : (u.alloc (.cells #[.slice o1 1 p1, .int .i64 0, .int .i64 0, .slice o4 0 p4, .int .i64 7, .string ⟨#[]⟩, .slice o2 0 p2] 39)).heap.size = u.heap.size + 1 := by simp
    rw [← hz]
    exact heap_alloc_new _ _
  have hg6 := (BX.cell (p := ⟨g5, 0, none⟩) hl).trans hg5
  generalize (u.alloc (.cells #[.slice o1 1 p1, .int .i64 0, .int .i64 0, .slice o4 0 p4, .int .i64 7, .string ⟨#[]⟩, .slice o2 0 p2] 39)).alloc (.cells #[.slice (some ⟨g5, 0, none⟩) 1 p5, .slice o6 0 p6, .int .i64 24, .int .i64 0, .slice o3 0 p3] 42) = X at *
  have x0 : X.cell? ⟨u.heap.size, 0, none⟩ = some (.slice o1 1 p1) := by simp [World.cell?, X0]
  have x4 : X.cell? ⟨u.heap.size, 4, none⟩ = some (.int .i64 7) := by simp [World.cell?, X0]
  have y0 : X.cell? ⟨u.heap.size + 1, 0, none⟩ = some (.slice (some ⟨g5, 0, none⟩) 1 p5) := by simp [World.cell?, X1]
  have y2 : X.cell? ⟨u.heap.size + 1, 2, none⟩ = some (.int .i64 24) := by simp [World.cell?, X1]
  have B2 := gtrans B1 BX
  have c3 := c2 X (K.keep B2) (Sg.keep B2) (E.keep B2)
  clear c1 c2 RW n5 hg5 BX X0 X1
  generalize u.heap.size = bq at *
  go_upto_region 5 with (go_at_call 13; (with_reducible refine c3.mono ?_); rintro e v ⟨v1, v2, rfl, N1, N2, B3⟩; obtain ⟨a1, k1, rfl⟩ := own_shape N1; obtain ⟨a2, k2, rfl⟩ := own_shape N2)
  obtain ⟨g7, rfl, hg7⟩ : ∃ g7, a1 = some ⟨g7, 0, none⟩ ∧ v.cell? ⟨g7, 0, none⟩ = some (.int .i64 4) := by
    rcases id N1.2 with ⟨h, h0⟩ | ⟨g7, c, cur, h, _⟩
    · exact absurd h0 (by decide)
    · simp only [Value.slice.injEq] at h
      obtain ⟨rfl, _, rfl⟩ := h
      exact ⟨g7, rfl, by rw [World.ownsRow.cellAt N1 0 (by decide)]; rfl⟩
  clear N1 N2 c3
  go_wp2
  go_ret
  exact ⟨rfl, gtrans B2 B3⟩

end Go.Proofs.YtmoimmghmmomlaaDoor
