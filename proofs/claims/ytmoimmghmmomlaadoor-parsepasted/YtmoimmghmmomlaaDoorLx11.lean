/- What lex's Lex comes to. -/
import Derived.Test.YtmoimmghmmomlaaDoorLx10
import Derived.Test.YtmoimmghmmomlaaDoorLo
namespace Go.Proofs.YtmoimmghmmomlaaDoor
open Go.RowKit Go.BigFrame
set_option linter.unusedVariables false
set_option linter.unusedSimpArgs false

theorem Mach.new (w : World) (s : ByteArray) : Mach (w.alloc (.cells #[.string s, .int .i64 0, .int .i64 0, .slice none 0 0] 64)) w.heap.size s 0 0 (.slice none 0 0) := by
  show (w.heap.push _)[w.heap.size]? = _
  simp

set_option maxRecDepth 100000 in
set_option maxHeartbeats 4000000 in
theorem lexLex_any (s : ByteArray) (hs0 : s.size ≤ 9223372036854775807) (w : World) (K : KwAt w) (Sg : SgAt w) (E : ErAt w) :
    Calls Tryd.prog 12 #[.string s] w fun e w' => ∃ v, e = .returned (.tuple #[v, .int .i64 (lexO s).2.1, .int .i64 ((lexO s).2.2 : Int)]) ∧ w'.ownsRow w.heap.size 79 4 v (lexO s).1.length (toksV (lexO s).1) ∧ Below w.heap.size w w' := by
  obtain ⟨z, hz⟩ : ∃ z, z = lexO s := ⟨_, rfl⟩
  rw [← hz]
  have HZ : Hid (z = lexO s) := hz
  clear hz
  by_cases hbig : 8192 < s.size
  · have he : Hid (z = ([], 30, 8192)) := by show _ = _; rw [HZ.out]; exact if_pos hbig
    have h1 : (8192 : Int) < (s.size : Int) := by omega
    clear HZ
    go_enter Tryd.func12, Tryd.ntmps12
    go_wp2
    go_ret3
    exact ⟨_, by rw [he.out]; rfl, by rw [he.out]; exact World.ownsRow_nil _ _ _ _, Below.refl _ _⟩
  have hs : s.size ≤ 8192 := by omega
  have he : Hid (z = fin (lexA s 0 0 [])) := by show _ = _; rw [HZ.out]; exact if_neg hbig
  clear HZ
  have M := Mach.new w s
  have G0 := galloc (Below.refl w.heap.size w) (.cells #[.string s, .int .i64 0, .int .i64 0, .slice none 0 0] 64)
  have cM := mrun_any w w.heap.size (Nat.le_refl _) s _ M hs K Sg E G0
  generalize lexA s 0 0 [] = A at *
  obtain ⟨cd, bg, ts⟩ := A
  dsimp only at cM
  have h1 : (s.size : Int) ≤ 8192 := by omega
  go_enter Tryd.func12, Tryd.ntmps12
  cases hc : (cd == 0)
  · have hfin : Hid (z = ([], cd, bg)) := by show _ = _; rw [he.out]; unfold fin; rw [if_pos (show cd ≠ 0 by simpa using hc)]
    have hc2 : (cd != 0) = true := by simpa using hc
    go_wp2_with (go_at_call 24; with_reducible refine cM.mono ?_; rintro e u ⟨rfl, pos, tk, M2, O2, G2⟩; obtain ⟨m0, m1, m2, m3⟩ := M2.at)
    go_region_with fail
    all_goals
      go_wp2
      go_ret3
      exact ⟨_, by rw [hfin.out]; rfl, by rw [hfin.out]; exact World.ownsRow_nil _ _ _ _, G2.drew⟩
  · obtain rfl : cd = 0 := by simpa using hc
    have hfin : Hid (z = (ts, 0, 0)) := by show _ = _; rw [he.out]; rfl
    go_wp2_with (go_at_call 24; with_reducible refine cM.mono ?_; rintro e u ⟨rfl, pos, tk, M2, O2, G2⟩; obtain ⟨m0, m1, m2, m3⟩ := M2.at)
    go_ret3
    exact ⟨_, by rw [hfin.out]; rfl, by rw [hfin.out]; exact own_mono O2 (by simp; omega), G2⟩

end Go.Proofs.YtmoimmghmmomlaaDoor
