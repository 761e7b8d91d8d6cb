/- The laws' own alive: the tokens of one known text. -/
import Derived.Test.YtlcmfefcammklaaDoorPa
import Derived.Test.YtlcmfefcammklaaDoorNb
namespace Go.Proofs.YtlcmfefcammklaaDoor
open Go.RowKit Go.BigFrame
set_option linter.unusedVariables false
set_option linter.unusedSimpArgs false

def s3 : ByteArray := ⟨#[97, 32, 55]⟩
theorem s3_size : s3.size = 3 := rfl
theorem wordI_a : wordI ⟨#[97]⟩ = 1 := by
  refine wordI_none _ fun j hj => ?_
  unfold wrB
  have hu : (upS ⟨#[97]⟩).data.toList = [65] := by simp [upS, upB]
  rw [ByteArray.toList_eq, ByteArray.toList_eq, hu]
  rcases (show j = 0 ∨ j = 1 ∨ j = 2 ∨ j = 3 ∨ j = 4 ∨ j = 5 ∨ j = 6 ∨ j = 7 ∨ j = 8 ∨ j = 9 ∨ j = 10 ∨ j = 11 ∨ j = 12 ∨ j = 13 ∨ j = 14 ∨ j = 15 ∨ j = 16 ∨ j = 17 ∨ j = 18 ∨ j = 19 ∨ j = 20 ∨ j = 21 ∨ j = 22 ∨ j = 23 ∨ j = 24 ∨ j = 25 ∨ j = 26 from by omega) with rfl | rfl | rfl | rfl | rfl | rfl | rfl | rfl | rfl | rfl | rfl | rfl | rfl | rfl | rfl | rfl | rfl | rfl | rfl | rfl | rfl | rfl | rfl | rfl | rfl | rfl | rfl <;> decide
theorem numV_7 : numV ⟨#[55]⟩ = some 7 := by
  rw [numV_dig ⟨#[55]⟩ (by simp) (fun c hc => by
    have : c = 55 := by simpa using hc
    subst this; decide)]
  show (if dv 0 [55] ≤ 9223372036854775807 then some ((dv 0 [55] : Nat) : Int) else none) = some 7
  have : dv 0 [55] = 7 := by rw [dv_cons, dv_nil]; rfl
  rw [this]
  rfl
def tA : Tok := ⟨1, ⟨#[97]⟩, 0, 0⟩
def t7 : Tok := ⟨2, ⟨#[]⟩, 7, 2⟩
theorem s3_path : Path s3 0 [] s3.size [tA, t7] := by
  have e0 : stI s3 0 = 1 := rfl
  have e1 : stI s3 1 = 0 := rfl
  have e2 : stI s3 2 = 2 := rfl
  have r0 : runE wdB s3 0 = 1 := by rw [runE_on (by decide) (by rfl), runE_stop (.inr (by rfl))]
  have r2 : runE dgB s3 2 = 3 := by rw [runE_on (by decide) (by rfl), runE_stop (.inl (by decide))]
  have x0 : s3.extract 0 1 = ⟨#[97]⟩ := one_extract s3 0 (by decide)
  have x2 : s3.extract 2 3 = ⟨#[55]⟩ := one_extract s3 2 (by decide)
  have th0 : thing s3 0 = (1, tA, 0) := by
    unfold thing
    rw [if_pos e0, r0]
    unfold wordT
    rw [x0, wordI_a]
    rfl
  have th2 : thing s3 2 = (3, t7, 0) := by
    unfold thing
    rw [e2, if_neg (by decide), if_pos rfl, r2]
    unfold numT
    rw [x2, numV_7, if_neg (by rw [s3_size]; omega)]
    rfl
  refine .step 0 1 3 [] [tA] _ (by decide) ?_ (.step 1 2 3 [tA] [tA] _ (by decide) ?_ (.step 2 3 3 [tA] [tA, t7] _ (by decide) ?_ (.here _ _)))
  · unfold nxt
    rw [e0, th0]
    rfl
  · unfold nxt
    rw [e1]
    rfl
  · unfold nxt
    rw [e2, th2]
    rfl
theorem s3_lex : lexO s3 = ([tA, t7], 0, 0) := lexO_path (by decide) s3_path

set_option maxRecDepth 100000 in
set_option maxHeartbeats 4000000 in
theorem alive_any (w : World) (K : KwAt w) (Sg : SgAt w) (E : ErAt w) :
    Calls Tryd.prog 11 #[] w fun e w' => e = .returned (.bool true) ∧ Below w.heap.size w w' := by
  have c1 := lexLex_any s3 (by decide) w K Sg E
  rw [s3_lex] at c1
  replace c1 : Calls Tryd.prog 10 #[.string ⟨#[97, 32, 55]⟩] w fun e w' => ∃ v, e = .returned (.tuple #[v, .int .i64 0, .int .i64 0]) ∧ w'.ownsRow w.heap.size 30 4 v [tA, t7].length (toksV [tA, t7]) ∧ Below w.heap.size w w' := c1
  go_enter Tryd.func11, Tryd.ntmps11
  have hA : ∀ (u : World) (v1 : Value), u.ownsRow w.heap.size 30 4 v1 [tA, t7].length (toksV [tA, t7]) → ∃ g cap, v1 = .slice (some ⟨g, 0, none⟩) 2 cap ∧ (u.cell? ⟨g, 0, none⟩ = some (.int .i64 1) ∧ u.cell? ⟨g, 1, none⟩ = some (.string ⟨#[97]⟩) ∧ u.cell? ⟨g, 2, none⟩ = some (.int .i64 0) ∧ u.cell? ⟨g, 3, none⟩ = some (.int .i64 0)) ∧ (u.cell? ⟨g, 4, none⟩ = some (.int .i64 2) ∧ u.cell? ⟨g, 5, none⟩ = some (.string ⟨#[]⟩) ∧ u.cell? ⟨g, 6, none⟩ = some (.int .i64 7) ∧ u.cell? ⟨g, 7, none⟩ = some (.int .i64 2)) := fun u v1 O => by
    rcases O.2 with ⟨_, h0⟩ | ⟨g, cap, cur, rfl, _, _, _⟩
    · exact absurd h0 (by decide)
    · have hc := fun j hj => World.ownsRow.cellAt O j hj
      exact ⟨g, cap, rfl, ⟨hc 0 (by decide), hc 1 (by decide), hc 2 (by decide), hc 3 (by decide)⟩, ⟨hc 4 (by decide), hc 5 (by decide), hc 6 (by decide), hc 7 (by decide)⟩⟩
  go_wp2_with (go_at_call 10; with_reducible refine c1.mono ?_; rintro e u ⟨v1, rfl, O1, g1⟩; obtain ⟨g, cap, rfl, ⟨x0, x1, x2, x3⟩, ⟨y0, y1, y2, y3⟩⟩ := hA u v1 O1)
  go_ret
  exact ⟨rfl, g1⟩

end Go.Proofs.YtlcmfefcammklaaDoor
