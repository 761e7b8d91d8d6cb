/- What lex's Join comes to. -/
import Derived.Test.YtpodpahipapbaaaDoorJb
import Derived.Test.YtpodpahipapbaaaDoorSp
namespace Go.Proofs.YtpodpahipapbaaaDoor
open Go.RowKit Go.BigFrame Go.Shelf
set_option linter.unusedVariables false
set_option linter.unusedSimpArgs false

/-- The text of the first k tokens. -/
def joinU (ts : List Tok) : Nat → List UInt8
  | 0 => []
  | k + 1 => joinU ts k ++ (if 0 < k then [32] else []) ++ (spS (ts.getD k noTok)).data.toList
theorem joinU_mono (ts : List Tok) (k : Nat) : ∀ n, (joinU ts k).length ≤ (joinU ts (k + n)).length := by
  intro n
  induction n with
  | zero => exact Nat.le_refl _
  | succ n ih =>
    show _ ≤ (joinU ts (k + n) ++ (if 0 < k + n then [32] else []) ++ (spS (ts.getD (k + n) noTok)).data.toList).length
    rw [List.length_append, List.length_append]
    omega
def okN (t : Tok) : Prop := -9223372036854775808 ≤ t.n ∧ t.n ≤ 9223372036854775807

set_option maxRecDepth 100000 in
set_option maxHeartbeats 4000000 in
theorem join_any (ts : List Tok) (ao : Option Addr) (cap : Nat) (hl : ts.length ≤ 10000000000) (hN : ∀ k, k < ts.length → okN (ts.getD k noTok)) (hT : (joinU ts ts.length).length ≤ 100000000000) (w : World) (A : IsToks w ao ts) (K : KwAt w) (Sg : SgAt w) (P : PwAt w) :
    Calls Tryd.prog 15 #[.slice ao ts.length cap] w fun e w' => e = .returned (.string ⟨(joinU ts ts.length).toArray⟩) ∧ Below w.heap.size w w' := by
  obtain ⟨n, hn⟩ : ∃ n, ts.length = n := ⟨_, rfl⟩
  rw [hn] at hT ⊢
  go_enter Tryd.func15, Tryd.ntmps15
  go_wp2
  have D0 := Bld.new w
  have G0 := galloc (Below.refl w.heap.size w) (.cells #[.pointer none, .slice none 0 0] 54)
  have z0 : (w.alloc (.cells #[.pointer none, .slice none 0 0] 54)).heap.size = w.heap.size + 1 := by simp
  go_loopw [8] (fun i wr => ∃ k : Nat, k ≤ n ∧ i = .int .i64 k ∧ Bld wr w.heap.size (joinU ts k) ∧ Below w.heap.size w wr ∧ w.heap.size + 1 ≤ wr.heap.size) (fun i _ => n - (intOf i).toNat)
  case atStart => exact ⟨0, Nat.zero_le _, rfl, D0, G0, by omega⟩
  case round =>
    obtain ⟨k, hk, rfl, D, G, hz⟩ := hrel
    by_cases hlt : k < n
    · obtain ⟨g, o, rfl, x0, x1, x2, x3⟩ := (A.keep G) k (by omega)
      have hN' := hN k (by omega)
      have hnext : joinU ts (k + 1) = joinU ts k ++ (if 0 < k then [32] else []) ++ (spS (ts.getD k noTok)).data.toList := rfl
      have hm := joinU_mono ts (k + 1) (n - (k + 1))
      rw [show k + 1 + (n - (k + 1)) = n by omega, hnext, List.length_append, List.length_append] at hm
      have cS := fun (u : World) (g5 : Below w.heap.size w u) => spell_any (ts.getD k noTok) hN' u (K.keep g5) (Sg.keep g5) (P.keep g5)
      have hsl : (spS (ts.getD k noTok)).data.toList.length = (spS (ts.getD k noTok)).size := Array.length_toList
      have HX : Hid (joinU ts (k + 1) = joinU ts k ++ (if 0 < k then [32] else []) ++ (spS (ts.getD k noTok)).data.toList) := hnext
      clear hnext
      generalize hy : ts.getD k noTok = y at *
      obtain ⟨t, ht⟩ : ∃ t, spS y = t := ⟨_, rfl⟩
      rw [ht] at cS hsl hm HX
      have T1 := TokAt.new wr y
      have GA := galloc (Below.refl wr.heap.size wr) (.cells (tokA y) 57)
      have D1 := D.keep GA
      obtain ⟨bs, hbs⟩ : ∃ bs, joinU ts k = bs := ⟨_, rfl⟩
      rw [hbs] at D1 hm HX
      have zA : (wr.alloc (.cells (tokA y) 57)).heap.size = wr.heap.size + 1 := by simp
      by_cases hk0 : 0 < k
      · have hki : (0 : Int) < (k : Int) := by omega
        rw [if_pos hk0] at hm HX
        rw [List.length_singleton] at hm
        have cC := wrC w.heap.size bs 32 _ D1 (by omega) (by omega)
        replace cC : Calls Tryd.prog 20 #[.pointer (some ⟨w.heap.size, 0, none⟩), .int .u8 32] (wr.alloc (.cells #[.int .i64 y.k, .string y.t, .int .i64 y.n, .int .i64 y.a] 57)) fun e w' => (∃ v, e = .returned v) ∧ Bld w' w.heap.size (bs ++ [32]) ∧ Below w.heap.size (wr.alloc (.cells (tokA y) 57)) w' ∧ Oth w.heap.size (wr.alloc (.cells (tokA y) 57)) w' := cC
        replace cS : ∀ u, Below w.heap.size w u → Calls Tryd.prog 22 #[.agg #[.int .i64 y.k, .string y.t, .int .i64 y.n, .int .i64 y.a]] u fun e w' => e = .returned (.string t) ∧ Below u.heap.size u w' := cS
        have GW := G.trans (GA.mono G.size)
        go_wp2_with (first
          | (go_at_call 20; (with_reducible refine cC.mono ?_); rintro e5 u5 ⟨⟨v5, rfl⟩, D5, g5, k5⟩; have T5 : TokAt u5 wr.heap.size y := k5 _ _ T1 (by simp; omega) (by intro c fz h; cases h); obtain ⟨t0, t1, t2, t3⟩ := T5.at)
          | (go_at_call 22; (with_reducible refine (cS _ (GW.trans g5)).mono ?_); rintro e6 u6 ⟨rfl, g6⟩; have c7 := wrS w.heap.size (bs ++ [32]) t u6 (D5.keep g6) (by rw [List.length_append, List.length_singleton]; omega) (by have := g6.size; have := g5.size; omega))
          | (go_at_call 21; (with_reducible refine c7.mono ?_); rintro e7 u7 ⟨⟨v7, rfl⟩, D7, g7, k7⟩))
        go_roundw
        case rel => exact ⟨k + 1, by omega, by go_num, by rw [HX.out]; exact D7, ((GW.trans g5).trans (g6.mono (by have := (GW.trans g5).size; omega))).trans g7, by have := g5.size; have := g6.size; have := g7.size; omega⟩
        case measure => simp [intOf]; omega
      · have hki : ¬ (0 : Int) < (k : Int) := by omega
        have dki : decide ((0 : Int) < (k : Int)) = false := decide_eq_false hki
        have hk00 : (k : Int) ≤ 0 := by omega
        rw [if_neg (by omega)] at hm HX
        rw [List.length_nil] at hm
        replace cS : ∀ u, Below w.heap.size w u → Calls Tryd.prog 22 #[.agg #[.int .i64 y.k, .string y.t, .int .i64 y.n, .int .i64 y.a]] u fun e w' => e = .returned (.string t) ∧ Below u.heap.size u w' := cS
        have GW : Below w.heap.size w (wr.alloc (.cells #[.int .i64 y.k, .string y.t, .int .i64 y.n, .int .i64 y.a] 57)) := G.trans (GA.mono G.size)
        go_wp2_with (first
          | (go_at_call 22; (with_reducible refine (cS _ GW).mono ?_); rintro e6 u6 ⟨rfl, g6⟩; have c7 := wrS w.heap.size bs t u6 (D1.keep g6) (by omega) (by have h1 : (wr.alloc (.cells (tokA y) 57)).heap.size ≤ u6.heap.size := g6.size; omega))
          | (go_at_call 21; (with_reducible refine c7.mono ?_); rintro e7 u7 ⟨⟨v7, rfl⟩, D7, g7, k7⟩))
        go_roundw
        case rel => exact ⟨k + 1, by omega, by go_num, by rw [HX.out, List.append_nil]; exact D7, (GW.trans (g6.mono (by show w.heap.size ≤ (wr.alloc (.cells (tokA y) 57)).heap.size; omega))).trans g7, by have h1 : (wr.alloc (.cells (tokA y) 57)).heap.size ≤ u6.heap.size := g6.size; have := g7.size; omega⟩
        case measure => simp [intOf]; omega
    · obtain rfl : k = n := by omega
      have c9 := strB w.heap.size (joinU ts k) wr D (by omega)
      go_wp2_with (go_at_call 23; (with_reducible refine c9.mono ?_); rintro e9 u9 ⟨rfl, g9⟩)
      go_ret
      exact ⟨rfl, G.trans g9⟩

end Go.Proofs.YtpodpahipapbaaaDoor
