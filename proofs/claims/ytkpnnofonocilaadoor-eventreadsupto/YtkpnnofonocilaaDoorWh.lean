/- What the document's wordOf, placeAt and head come to at the words of a line. -/
import Derived.Test.YtkpnnofonocilaaDoorWr
import Derived.Test.YtkpnnofonocilaaDoorWi
import Derived.Test.YtkpnnofonocilaaDoorWe2
namespace Go.Proofs.YtkpnnofonocilaaDoor
open Go.RowKit Go.BigFrame
set_option linter.unusedVariables false
set_option linter.unusedSimpArgs false

def nth (s : ByteArray) (i : Nat) : Nat := itE s 0 i
/-- The words of a line in memory. -/
structure IsWs (w : World) (s : ByteArray) (B : Nat) (ao : Option Addr) (n : Nat) : Prop where
  small : n ≤ 3000000
  iff : ∀ i, i < n ↔ wA s (nth s i) < s.size
  mem : ∀ i, i < n → ∃ g, ao = some ⟨g, 0, none⟩ ∧ B ≤ g ∧ g < w.heap.size ∧ w.cell? ⟨g, i * 3, none⟩ = some (.int .i64 (wA s (nth s i) : Nat)) ∧ w.cell? ⟨g, i * 3 + 1, none⟩ = some (.int .i64 (wE s (nth s i) : Nat))
theorem IsWs.keep {w u : World} {s : ByteArray} {B : Nat} {ao : Option Addr} {n : Nat} (h : IsWs w s B ao n) (G : Below w.heap.size w u) : IsWs u s B ao n :=
  ⟨h.small, h.iff, fun i hi => by
    obtain ⟨g, e, hB, hg, c0, c1⟩ := h.mem i hi
    exact ⟨g, e, hB, Nat.lt_of_lt_of_le hg G.size, (G.cell (p := ⟨g, i * 3, none⟩) hg).trans c0, (G.cell (p := ⟨g, i * 3 + 1, none⟩) hg).trans c1⟩⟩
theorem ws_of_own {w : World} {base : Nat} {v : Value} {s : ByteArray} (hs : s.size ≤ 2000000) (hl : (wdsL s s.size 0).length ≤ s.size + 1) (h : w.ownsRow base 81 3 v (wdsL s s.size 0).length (rpV (wdsL s s.size 0))) : ∃ ao n cap, v = .slice ao n cap ∧ IsWs w s base ao n := by
  obtain ⟨ao, cap, rfl, hn, hg⟩ := own_shape h
  have hw := words_at s s.size 0 (by omega)
  refine ⟨ao, _, cap, rfl, by omega, fun i => (hw i).1, fun i hi => ?_⟩
  rcases hg with hg | ⟨g, rfl, hlt, hB⟩
  · omega
  have hc : ∀ k, k < 3 → w.cell? ⟨g, i * 3 + k, none⟩ = (rpA ((wdsL s s.size 0).getD i noRp)).toList[k]? := fun k hk => by
    rw [World.ownsRow.cellAt h (i * 3 + k) (by omega), rpV_at _ i hi k hk]
  rw [(hw i).2 hi] at hc
  exact ⟨g, rfl, hB, hlt, hc 0 (by omega), hc 1 (by omega)⟩
theorem nth_le (s : ByteArray) (i : Nat) : nth s i ≤ s.size := itE_le s i 0 (Nat.zero_le _)
theorem wd_none (s : ByteArray) (e : Nat) (he : e ≤ s.size) (h : ¬ wA s e < s.size) : wd s e = ⟨#[]⟩ := by
  have h1 := wA_le s e he
  have h2 := wE_le s e he
  have hz : (wd s e).size = 0 := by unfold wd; rw [ByteArray.size_extract]; omega
  apply ByteArray.ext
  exact Array.eq_empty_of_size_eq_zero hz

set_option maxRecDepth 100000 in
set_option maxHeartbeats 4000000 in
theorem refWordOf_any (s : ByteArray) (hs : s.size ≤ 2000000) (ao : Option Addr) (n cap i : Nat) (hi : i ≤ 100) (w : World) {B : Nat} (h : IsWs w s B ao n) :
    Calls Tryd.prog 36 #[.string s, .slice ao n cap, .int .i64 i] w fun e w' => e = .returned (.string (wd s (nth s i))) ∧ Below w.heap.size w w' := by
  have hn := h.small
  by_cases hlt : i < n
  · obtain ⟨g, rfl, _, hg, c0, c1⟩ := h.mem i hlt
    have hA := wA_le s _ (nth_le s i)
    have hE := wE_le s _ (nth_le s i)
    have hq : wd s (nth s i) = s.extract (wA s (nth s i)) (wE s (nth s i)) := rfl
    rw [hq]
    clear hq h
    generalize wA s (nth s i) = a at *
    generalize wE s (nth s i) = e at *
    have p0 := fun z : Ext w => (z.cell _ _ hg).trans c0
    have p1 := fun z : Ext w => (z.cell _ _ hg).trans c1
    have hne : Nonempty (Ext w) := ⟨⟨_, Below.refl _ _⟩⟩
    have g1 : (i : Int) < (n : Int) := by omega
    have g2 : (a : Int) ≤ (e : Int) := by omega
    have g3 : (e : Int) ≤ (s.size : Int) := by omega
    have g4 : (0 : Int) ≤ (a : Int) := by omega
    have g5 : (0 : Int) ≤ (i : Int) := by omega
    clear c0 c1
    go_enter Tryd.func36, Tryd.ntmps36
    go_wp2
    refine wp_region_ext (by kernel_rfl) (by kernel_rfl) ?_
    repeat (go_big_quiet_step (fail))
    refine wpQuiet_nil ?_
    intro _ hw'
    obtain ⟨nxw, hw''⟩ := hw'
    subst hw''
    go_wp2
    go_ret
    exact ⟨rfl, nxw.h⟩
  · rw [wd_none s _ (nth_le s i) (fun h2 => hlt ((h.iff i).2 h2))]
    have g1 : ¬ (i : Int) < (n : Int) := by omega
    go_enter Tryd.func36, Tryd.ntmps36
    go_wp2
    go_ret
    exact ⟨rfl, Below.refl _ _⟩
set_option maxRecDepth 100000 in
set_option maxHeartbeats 4000000 in
theorem wsPlaceAt_any (s : ByteArray) (hs : s.size ≤ 2000000) (ao : Option Addr) (n cap i : Nat) (hi : i ≤ 100) (w : World) {B : Nat} (h : IsWs w s B ao n) :
    Calls Tryd.prog 28 #[.string s, .slice ao n cap, .int .i64 i] w fun e w' => e = .returned (.int .i64 (wA s (nth s i) : Nat)) ∧ Below w.heap.size w w' := by
  have hn := h.small
  by_cases hlt : i < n
  · obtain ⟨g, rfl, _, hg, c0, c1⟩ := h.mem i hlt
    clear h
    generalize wA s (nth s i) = a at *
    go_enter Tryd.func28, Tryd.ntmps28
    go_wp2
    go_ret
    exact ⟨rfl, Below.refl _ _⟩
  · have hA := wA_le s _ (nth_le s i)
    have h2 : ¬ wA s (nth s i) < s.size := fun h2 => hlt ((h.iff i).2 h2)
    rw [show wA s (nth s i) = s.size by omega]
    clear hA h2 h
    go_enter Tryd.func28, Tryd.ntmps28
    go_wp2
    go_ret
    exact ⟨rfl, Below.refl _ _⟩

end Go.Proofs.YtkpnnofonocilaaDoor
