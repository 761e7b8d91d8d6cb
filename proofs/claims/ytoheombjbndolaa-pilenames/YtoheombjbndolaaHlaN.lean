/- Rows of names. -/
import Derived.Test.YtoheombjbndolaaEve
import Derived.Test.YtoheombjbndolaaHpnN
namespace Go.Proofs.Ytoheombjbndolaa
open Go.RowKit Go.BigFrame
set_option linter.unusedVariables false
set_option linter.unusedSimpArgs false

set_option maxHeartbeats 2000000 in
/-- Rows that hold the same are the same. -/
theorem sameNames_true (a b : Option Addr) (ca cb : Nat) (l : List Nm) (w : World) (A : Flat w a (fl nmC l)) (B : Flat w b (fl nmC l)) (hl : l.length ≤ 9223372036854775807) :
    Calls Try.prog 24 #[.slice a l.length ca, .slice b l.length cb] w fun e w' => e = .returned (.bool true) ∧ Below w.heap.size w w' := by
  go_enter Try.func24, Try.ntmps24
  go_wp2
  go_loopw [5] (fun vi wr => ∃ i : Nat, i ≤ l.length ∧ vi = .int .i64 (i : Int) ∧ Below w.heap.size w wr) (fun vi _ => l.length - (intOf vi).toNat)
  case atStart => exact ⟨0, Nat.zero_le _, rfl, Below.refl _ _⟩
  case round =>
    obtain ⟨i, hi, rfl, G⟩ := hrel
    by_cases hlt : i < l.length
    · obtain ⟨g, o, rfl, hgl, _⟩ := (A.keep G).form (by rw [fl_len nm_size]; omega)
      obtain ⟨g2, o2, rfl, hgl2, _⟩ := (B.keep G).form (by rw [fl_len nm_size]; omega)
      have ra := flat_range nm_size zrNm (A.keep G) i hlt
      have rb := flat_range nm_size zrNm (B.keep G) i hlt
      generalize l.getD i zrNm = x at *
      have q1 : (i : Int) < (l.length : Int) := by omega
      have HT : Hid (i < l.length) := hlt
      have hne0 : Nonempty (Ext wr) := ⟨⟨_, Below.refl _ _⟩⟩
      clear hlt
      go_wp2
      refine wp_region_ext (by kernel_rfl) (by kernel_rfl) ?_
      repeat (first
        | (refine wpQuiet_load_mid rfl 44 (.tmp 19) rfl g (o + i * 2) rfl (nmC x) _ (fun X hX => by obtain ⟨nx, rfl⟩ := hX; exact rangeAt_keep ra nx.h) Try.underlying44 rfl infoNm _ rfl ?_; simp only [Act.put, List.setIfInBounds_toArray, List.set_cons_succ, List.set_cons_zero])
        | (refine wpQuiet_load_mid rfl 44 (.tmp 23) rfl g2 (o2 + i * 2) rfl (nmC x) _ (fun X hX => by obtain ⟨nx, rfl⟩ := hX; exact rangeAt_keep rb nx.h) Try.underlying44 rfl infoNm _ rfl ?_; simp only [Act.put, List.setIfInBounds_toArray, List.set_cons_succ, List.set_cons_zero])
        | (refine quiet_neq_same rfl (.tmp 20) (.tmp 24) 44 rfl nmGuard (nmC x) (nm_eq x) rfl rfl _ rfl ?_; simp only [Act.put, List.setIfInBounds_toArray, List.set_cons_succ, List.set_cons_zero])
        | go_big_quiet_step (fail))
      refine wpQuiet_nil ?_
      intro _ hw'
      obtain ⟨nx, hw''⟩ := hw'
      subst hw''
      go_wp2
      go_roundw
      case rel => have hlt : i < l.length := HT; exact ⟨i + 1, by omega, by go_num, gtrans G nx.h⟩
      case measure => have hlt : i < l.length := HT; simp [intOf]; omega
    · have hki : ¬ (i : Int) < (l.length : Int) := by omega
      go_wp2
      go_ret
      exact ⟨rfl, G⟩
theorem nmBuildZ (w : World) : (Instr.build 44 #[]).run Try.prog w = .ok (.agg (nmC zrNm)) w := by kernel_rfl

end Go.Proofs.Ytoheombjbndolaa
