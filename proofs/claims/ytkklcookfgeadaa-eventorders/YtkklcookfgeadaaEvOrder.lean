/- What api's Before and event's Compare come to, of any two names. -/
import Derived.Test.YtkklcookfgeadaaRows
import Derived.WalkKit
import Derived.WalkSpells
import Derived.WalkLawsBesides
import Derived.Deep.RegionWith
import Derived.ProofKit
namespace Go.Proofs.Ytkklcookfgeadaa
open Go.RowKit
set_option linter.unusedVariables false

theorem bcell {W w1 : World} (hb : Below W.heap.size W w1) : (∀ b o, b < W.heap.size → w1.cell? ⟨b, o, none⟩ = W.cell? ⟨b, o, none⟩) ∧ (∀ b o, b < W.heap.size → w1.frozen? ⟨b, o, none⟩ = W.frozen? ⟨b, o, none⟩) :=
  ⟨fun b o h => hb.cell (p := ⟨b, o, none⟩) h, fun b o h => hb.frozen (p := ⟨b, o, none⟩) h⟩
theorem gtrans {a b c : World} (h : Below a.heap.size a b) (k : Below b.heap.size b c) : Below a.heap.size a c := h.trans (k.mono h.size)
theorem galloc {a w : World} (h : Below a.heap.size a w) (o : Obj) : Below a.heap.size a (w.alloc o) := h.alloc h.size o
theorem gset {a w : World} (h : Below a.heap.size a w) {p : Addr} (hp : a.heap.size ≤ p.block) (u : Value) : Below a.heap.size a (w.setCell p u) := h.setCell hp u

def befB (ta ia tb ib : Int) : Bool := decide (ta < tb ∨ ta = tb ∧ ia < ib)
def cmpI (ta ia tb ib : Int) : Int := if befB ta ia tb ib = true then -1 else if befB tb ib ta ia = true then 1 else 0

theorem cmpI_is (ta ia tb ib : Int) : (cmpI ta ia tb ib = -1 ∧ (ta < tb ∨ ta = tb ∧ ia < ib)) ∨ (cmpI ta ia tb ib = 0 ∧ ta = tb ∧ ia = ib) ∨ (cmpI ta ia tb ib = 1 ∧ (tb < ta ∨ tb = ta ∧ ib < ia)) := by
  unfold cmpI befB
  simp only [decide_eq_true_eq]
  split
  · rename_i h; exact .inl ⟨rfl, h⟩
  · split
    · rename_i h; exact .inr (.inr ⟨rfl, h⟩)
    · refine .inr (.inl ⟨rfl, ?_⟩); omega

set_option maxHeartbeats 400000 in
theorem before_any (ta ia tb ib : Int) (w : World) :
    Calls Try.prog 12 #[.agg #[.int .i64 ta, .int .u64 ia], .agg #[.int .i64 tb, .int .u64 ib]] w fun e w' => e = .returned (.bool (befB ta ia tb ib)) ∧ Below w.heap.size w w' := by
  obtain ⟨v, hv⟩ : ∃ v, befB ta ia tb ib = v := ⟨_, rfl⟩
  rw [hv]
  have HV : Hid (decide (ta < tb ∨ ta = tb ∧ ia < ib) = v) := hv
  clear hv
  go_enter Try.func12, Try.ntmps12
  go_wp2
  all_goals
    have hv : decide (ta < tb ∨ ta = tb ∧ ia < ib) = v := HV
    go_ret
    refine ⟨?_, galloc (galloc (Below.refl _ _) _) _⟩
    subst hv
    refine congrArg (fun b => Ending.returned (Value.bool b)) ?_
    first | exact (decide_eq_true (by omega)).symm | exact (decide_eq_decide.2 (by omega)) | (rw [decide_eq_false (show ¬ ta < tb by omega), decide_eq_false (by omega)])

set_option maxHeartbeats 400000 in
theorem compare_any (ta ia tb ib : Int) (w : World) :
    Calls Try.prog 5 #[.agg #[.int .i64 ta, .int .u64 ia], .agg #[.int .i64 tb, .int .u64 ib]] w fun e w' => e = .returned (.int .i64 (cmpI ta ia tb ib)) ∧ Below w.heap.size w w' := by
  obtain ⟨x, hx⟩ : ∃ x, befB ta ia tb ib = x := ⟨_, rfl⟩
  obtain ⟨y, hy⟩ : ∃ y, befB tb ib ta ia = y := ⟨_, rfl⟩
  have c1 : ∀ w, Calls Try.prog 12 #[.agg #[.int .i64 ta, .int .u64 ia], .agg #[.int .i64 tb, .int .u64 ib]] w fun e w' => e = .returned (.bool x) ∧ Below w.heap.size w w' := fun w => hx ▸ before_any ta ia tb ib w
  have c2 : ∀ w, Calls Try.prog 12 #[.agg #[.int .i64 tb, .int .u64 ib], .agg #[.int .i64 ta, .int .u64 ia]] w fun e w' => e = .returned (.bool y) ∧ Below w.heap.size w w' := fun w => hy ▸ before_any tb ib ta ia w
  obtain ⟨z, hz⟩ : ∃ z : Int, z = if x = true then -1 else if y = true then 1 else 0 := ⟨_, rfl⟩
  rw [show cmpI ta ia tb ib = z by unfold cmpI; rw [hx, hy, hz]]
  have HZ : Hid (z = if x = true then -1 else if y = true then 1 else 0) := hz
  clear hx hy hz
  go_enter Try.func5, Try.ntmps5
  go_wp2_with (first
    | (go_at_call 12; refine (c1 _).mono ?_; rintro e u ⟨rfl, g⟩; obtain ⟨hc, hf⟩ := bcell g; clear c1)
    | (go_at_call 12; refine (c2 _).mono ?_; rintro e u2 ⟨rfl, g2⟩; replace g := gtrans g g2))
  all_goals
    have hz : z = if x = true then -1 else if y = true then 1 else 0 := HZ
    go_ret
    refine ⟨?_, gtrans (galloc (galloc (Below.refl _ _) _) _) g⟩
    subst hz
    simp_all

end Go.Proofs.Ytkklcookfgeadaa
