/- What nodes mention: the program's Uses, the document's. -/
import Derived.Test.YtbedpgamjaemoaaUsb
namespace Go.Proofs.Ytbedpgamjaemoaa
open Go.RowKit Go.BigFrame
set_option linter.unusedVariables false
set_option linter.unusedSimpArgs false

theorem bytes_eqU {a b : ByteArray} : a.toList = b.toList ↔ a = b := by
  rw [ByteArray.toList_eq, ByteArray.toList_eq, Array.toList_inj]
  exact ⟨fun h => ByteArray.ext h, fun h => by rw [h]⟩
/-- The number of a variable's item; -1: none. -/
def itmI (l : List It) (s : ByteArray) : Int := (itemF l l.length s).getD (-1)
theorem itemF_some {l : List It} : ∀ {k : Nat} {s : ByteArray} {i : Int}, itemF l k s = some i → 0 ≤ i ∧ i < (k : Int) ∧ s = (l.getD i.toNat noIt).v ∧ ∀ j : Nat, (j : Int) < i → s ≠ (l.getD j noIt).v
  | 0, s, i, h => by cases h
  | k + 1, s, i, h => by
    unfold itemF at h
    cases hk : itemF l k s with
    | some j =>
      rw [hk] at h
      cases h
      obtain ⟨h1, h2, h3, h4⟩ := itemF_some hk
      exact ⟨h1, by omega, h3, h4⟩
    | none =>
      rw [hk] at h
      simp only at h
      split at h
      · rename_i e
        cases h
        refine ⟨by omega, by omega, by rw [Int.toNat_natCast]; exact e, fun j hj => ?_⟩
        exact itemF_none hk j (by omega)
      · cases h
where
  itemF_none {l : List It} : ∀ {k : Nat} {s : ByteArray}, itemF l k s = none → ∀ j, j < k → s ≠ (l.getD j noIt).v
  | 0, s, _, j, hj => by omega
  | k + 1, s, h, j, hj => by
    unfold itemF at h
    cases hk : itemF l k s with
    | some i => rw [hk] at h; cases h
    | none =>
      rw [hk] at h
      simp only at h
      split at h
      · cases h
      · rename_i e
        by_cases ej : j = k
        · subst ej; exact e
        · exact itemF_none hk j (by omega)
set_option maxRecDepth 100000 in
set_option maxHeartbeats 8000000 in
theorem refItemOf_any (q : Qy) (hq : q.fit) (s : ByteArray) (hs : s.size ≤ 140737488351232) (cs : Array Value) (ai : Option Addr) (ci : Nat) (aw : Option Addr) (cw : Nat) (ar : Option Addr) (cr : Nat) (w : World) (A : IsQ w q cs ai ci aw cw ar cr) :
    Calls Try.prog 26 #[.agg cs, .string s] w fun e w' => e = .returned (.int .i64 (itmI q.items s)) ∧ Below w.heap.size w w' := by
  obtain ⟨he, Ai, _, _, si, _, _⟩ := A
  subst he
  have hnn := hq.n
  have B0 := galloc (Below.refl w.heap.size w) (.cells #[.slice ai q.items.length ci, .int .i64 q.mode, .int .i64 q.after, .slice aw q.wh.length cw, .int .i64 q.within, .string q.by_, .slice ar q.ret.length cr] 40)
  have S0 := Bk.new w #[.slice ai q.items.length ci, .int .i64 q.mode, .int .i64 q.after, .slice aw q.wh.length cw, .int .i64 q.within, .string q.by_, .slice ar q.ret.length cr] 40
  go_enter Try.func26, Try.ntmps26
  go_wp2
  generalize w.alloc (.cells #[.slice ai q.items.length ci, .int .i64 q.mode, .int .i64 q.after, .slice aw q.wh.length cw, .int .i64 q.within, .string q.by_, .slice ar q.ret.length cr] 40) = V at *
  go_loopw [5] (fun x wr => ∃ k : Nat, k ≤ q.items.length ∧ x = .int .i64 k ∧ itemF q.items k s = none ∧ Below V.heap.size V wr) (fun x _ => q.items.length - (intOf x).toNat)
  case atStart => exact ⟨0, Nat.zero_le _, rfl, rfl, Below.refl _ _⟩
  case round =>
    obtain ⟨k, hk, rfl, hF, G⟩ := hrel
    obtain ⟨s0, _⟩ := (S0.keep G).at7
    by_cases hlt : k < q.items.length
    · have hki : (k : Int) < (q.items.length : Int) := by omega
      obtain ⟨g, o, e1, a, c, x0, x1, x2, x3, x4, I, sl⟩ := (Ai.keep (gtrans B0 G)) k hlt
      rw [e1] at s0
      have hstep : itemF q.items (k + 1) s = if s = (q.items.getD k noIt).v then some (k : Int) else none := by
        show (match itemF q.items k s with | some i => some i | none => _) = _
        rw [hF]
      have hvz := (hq.its k).v
      have hmono : itemF q.items (k + 1) s = some (k : Int) → itmI q.items s = (k : Int) := fun h => by
        have go : ∀ m, k + 1 ≤ m → itemF q.items m s = some (k : Int) := by
          intro m hm
          induction m with
          | zero => omega
          | succ m ih =>
            by_cases e : m = k
            · subst e; exact h
            · show (match itemF q.items m s with | some i => some i | none => _) = _
              rw [ih (by omega)]
        unfold itmI
        rw [go _ (by omega)]
        rfl
      generalize (q.items.getD k noIt).v = iv at *
      by_cases e : s = iv
      · rw [if_pos e] at hstep
        have hI := show Hid (_ = _) from hmono hstep
        subst e
        clear hF hstep hmono x0 x1 x3 x4
        go_wp2
        go_ret
        exact ⟨by rw [hI.out]; rfl, gtrans B0 G⟩
      · rw [if_neg e] at hstep
        have ne1 : s.toList ≠ iv.toList := fun h => e (bytes_eqU.1 h)
        have ne2 : iv.toList ≠ s.toList := fun h => e (bytes_eqU.1 h.symm)
        have nb1 : (s.toList == iv.toList) = false := beq_eq_false_iff_ne.2 ne1
        have nb2 : (iv.toList == s.toList) = false := beq_eq_false_iff_ne.2 ne2
        have hS := show Hid (_ = _) from hstep
        clear hF hstep hmono x0 x1 x3 x4
        go_wp2
        go_roundw
        case rel => exact ⟨k + 1, by omega, by go_num, hS.out, by first | exact G | exact G.drew | (trace_state; sorry)⟩
        case measure => simp [intOf]; omega
    · have hkn : k = q.items.length := by omega
      subst hkn
      have hI : Hid (itmI q.items s = -1) := by show _ = _; unfold itmI; rw [hF]; rfl
      clear hF
      go_wp2
      go_ret
      exact ⟨by rw [hI.out]; rfl, gtrans B0 G⟩

end Go.Proofs.Ytbedpgamjaemoaa
