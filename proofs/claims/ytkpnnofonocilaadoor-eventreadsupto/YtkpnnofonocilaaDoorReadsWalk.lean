/- The walk of the law EventReads. -/
import Derived.Test.YtkpnnofonocilaaDoorWh3
import Derived.ChangeKeysEq
namespace Go.Proofs.YtkpnnofonocilaaDoor.eventReads
open Go.RowKit Go.BigFrame
set_option linter.unusedVariables false
set_option linter.unusedSimpArgs false

theorem eqS_self (L : List Ty) : eqS L L = true := by
  unfold eqS
  refine decide_eq_true ⟨rfl, fun j hj => ⟨by simp, ?_⟩⟩
  unfold eqB
  simp
theorem cells2 : Tryd.prog.cellsOf 2 = 1 := by kernel_rfl
theorem plain2 : Tryd.prog.plainKey 2 = true := by kernel_rfl
theorem arr_eq (a0 a1 a2 a3 a4 a5 a6 a7 : Int) (u : World) : (Op.equalIn 9999 42 (.agg #[.int .i64 a0, .int .i64 a1, .int .i64 a2, .int .i64 a3, .int .i64 a4, .int .i64 a5, .int .i64 a6, .int .i64 a7]) (.agg #[.int .i64 a0, .int .i64 a1, .int .i64 a2, .int .i64 a3, .int .i64 a4, .int .i64 a5, .int .i64 a6, .int .i64 a7])).run Tryd.prog u = .ok true u := by
  obtain ⟨i0, hi⟩ : ∃ i, Tryd.prog.info? 2 = some i := by
    cases h : Tryd.prog.info? 2 with
    | none => exact absurd h (by have : (Tryd.prog.info? 2).isSome = true := by kernel_rfl
                                 intro h2; rw [h2] at this; cases this)
    | some i => exact ⟨i, rfl⟩
  have one : ∀ (j : Nat) (x : Int), (#[.int .i64 a0, .int .i64 a1, .int .i64 a2, .int .i64 a3, .int .i64 a4, .int .i64 a5, .int .i64 a6, .int .i64 a7] : Array Value)[j]? = some (.int .i64 x) → (part 2 #[.int .i64 a0, .int .i64 a1, .int .i64 a2, .int .i64 a3, .int .i64 a4, .int .i64 a5, .int .i64 a6, .int .i64 a7] j).run Tryd.prog u = .ok (.int .i64 x) u := fun j x h => run_part_plain u plain2 h
  have e0 := one 0 a0 rfl
  have e1 := one 1 a1 rfl
  have e2 := one 2 a2 rfl
  have e3 := one 3 a3 rfl
  have e4 := one 4 a4 rfl
  have e5 := one 5 a5 rfl
  have e6 := one 6 a6 rfl
  have e7 := one 7 a7 rfl
  have eq : ∀ x : Int, (Op.equalIn 9998 2 (.int .i64 x) (.int .i64 x)).run Tryd.prog u = .ok true u := fun x => by
    rw [run_equalIn_int u 9997 2 .i64 .i64 x x Tryd.underlying2]
    simp
  rw [show (9999 : Nat) = 9998 + 1 from rfl, run_equalIn_array u 9998 _ _ Tryd.underlying42 hi, cells2]
  rw [show List.range 8 = [0, 1, 2, 3, 4, 5, 6, 7] from rfl]
  simp only [Op.eqItems, Sem.run_bind, Nat.zero_mul, Nat.mul_one, e0, e1, e2, e3, e4, e5, e6, e7, Result.andThen_ok, eq, Bool.not_true, Bool.false_eq_true, if_false, Sem.run_pure]
set_option maxRecDepth 100000 in
set_option maxHeartbeats 8000000 in
theorem walk (ao : Option Addr) (n cap : Nat) (L : List Ty) (hnc : n ≤ cap) (s : ByteArray) (hs : s.size ≤ 2000000) (w : World) (K : KwAt w) (E : ErAt w) (h : IsTypes w ao n L) (hr : n * 40 ≤ 140737488351232) (hrs : ∀ j, (L.getD j noTy).2.length * 16 ≤ 140737488351232) :
    Calls Tryd.prog 6 #[.agg #[.slice ao n cap], .string s] w fun en w' => en = .returned (.bool true) ∧ Below w.heap.size w w' := by
  have hn := h.2.1
  have B := galloc (Below.refl w.heap.size w) (.cells #[.slice ao n cap] 24)
  have O := One.new w (.slice ao n cap) 24
  go_enter Tryd.func6, Tryd.ntmps6
  go_upto_region 1 with fail
  generalize hV : w.alloc (.cells #[.slice ao n cap] 24) = V at B O ⊢
  clear hV
  replace h := h.keep B
  replace K := K.keep B
  replace E := E.keep B
  have o0 := O.at0
  have c := twin_any ao n cap L V h hr hrs
  go_upto_region 2 with (go_at_call 13; with_reducible refine c.mono ?_; rintro en u ⟨v, rfl, T, g⟩; obtain ⟨av, cv, rfl, hTy⟩ := T.types)
  clear c T
  have O1 := One.new u (.slice av n cv) 24
  replace O := (O.keep g).alloc (.cells #[.slice av n cv] 24)
  replace B := galloc (gtrans B g) (.cells #[.slice av n cv] 24)
  have q1 := galloc (Below.refl u.heap.size u) (.cells #[.slice av n cv] 24)
  replace h := (h.keep g).keep q1
  replace K := (K.keep g).keep q1
  replace E := (E.keep g).keep q1
  replace hTy := hTy.keep q1
  generalize hW1 : u.alloc (.cells #[.slice av n cv] 24) = W1 at O O1 B h K E hTy ⊢
  generalize hbu : u.heap.size = bu at O1 ⊢
  clear hW1 g o0 q1 hbu
  have o0 := O.at0
  have c1 := parseEvent_any ao n cap L s (by omega) W1 h hnc K E
  have c2 := fun u (g : Below W1.heap.size W1 u) => refParseEvent_any av n cv L s hs u (hTy.keep g) (K.keep g)
  have c3 := fun u (g : Below W1.heap.size W1 u) => sameSchema_any ao av n n cap cv L L u (h.keep g) (hTy.keep g)
  simp only [eqS_self L] at c3
  generalize pE L s = z at c1 c2
  obtain ⟨⟨t, i, y, a0, a1, a2, a3, a4, a5, a6, a7⟩, zc, zp⟩ := z
  dsimp only [evC] at c1 c2
  go_upto_region 3 with (first
    | (go_at_call 17; with_reducible refine c1.mono ?_; rintro en u2 ⟨rfl, g2⟩))
  have q2 := galloc g2 (.cells #[.int .i64 t, .int .u64 i, .int .i64 y, .int .i64 a0, .int .i64 a1, .int .i64 a2, .int .i64 a3, .int .i64 a4, .int .i64 a5, .int .i64 a6, .int .i64 a7] 44)
  have E2 : Evt (u2.alloc (.cells #[.int .i64 t, .int .u64 i, .int .i64 y, .int .i64 a0, .int .i64 a1, .int .i64 a2, .int .i64 a3, .int .i64 a4, .int .i64 a5, .int .i64 a6, .int .i64 a7] 44)) u2.heap.size ⟨t, i, y, a0, a1, a2, a3, a4, a5, a6, a7⟩ := Evt.new u2 ⟨t, i, y, a0, a1, a2, a3, a4, a5, a6, a7⟩
  generalize u2.alloc (.cells #[.int .i64 t, .int .u64 i, .int .i64 y, .int .i64 a0, .int .i64 a1, .int .i64 a2, .int .i64 a3, .int .i64 a4, .int .i64 a5, .int .i64 a6, .int .i64 a7] 44) = X2 at *
  have o1 := (O.keep q2).at0
  have o2 := (O1.keep q2).at0
  have c4 := c2 X2 q2
  go_upto_region 4 with (first
    | (go_at_call 18; with_reducible refine c4.mono ?_; rintro en u3 ⟨rfl, g3⟩))
  have q3 := galloc (gtrans q2 g3) (.cells #[.int .i64 t, .int .u64 i, .int .i64 y, .int .i64 a0, .int .i64 a1, .int .i64 a2, .int .i64 a3, .int .i64 a4, .int .i64 a5, .int .i64 a6, .int .i64 a7] 44)
  have E3 := (E2.keep g3).alloc (.cells #[.int .i64 t, .int .u64 i, .int .i64 y, .int .i64 a0, .int .i64 a1, .int .i64 a2, .int .i64 a3, .int .i64 a4, .int .i64 a5, .int .i64 a6, .int .i64 a7] 44)
  have F3 : Evt (u3.alloc (.cells #[.int .i64 t, .int .u64 i, .int .i64 y, .int .i64 a0, .int .i64 a1, .int .i64 a2, .int .i64 a3, .int .i64 a4, .int .i64 a5, .int .i64 a6, .int .i64 a7] 44)) u3.heap.size ⟨t, i, y, a0, a1, a2, a3, a4, a5, a6, a7⟩ := Evt.new u3 ⟨t, i, y, a0, a1, a2, a3, a4, a5, a6, a7⟩
  generalize u3.alloc (.cells #[.int .i64 t, .int .u64 i, .int .i64 y, .int .i64 a0, .int .i64 a1, .int .i64 a2, .int .i64 a3, .int .i64 a4, .int .i64 a5, .int .i64 a6, .int .i64 a7] 44) = X3 at *
  have r1 := (O.keep q3).at0
  have r2 := (O1.keep q3).at0
  obtain ⟨m0, m1, m2, m3, m4, m5, m6, m7, m8, m9, m10⟩ := E3.all
  obtain ⟨p0, p1, p2, p3, p4, p5, p6, p7, p8, p9, p10⟩ := F3.all
  have c5 := c3 X3 q3
  have ae := arr_eq a0 a1 a2 a3 a4 a5 a6 a7
  go_wp2_with (first
    | (go_at_call 11; with_reducible refine c5.mono ?_; rintro en u4 ⟨rfl, g4⟩))
  go_ret
  exact ⟨rfl, gtrans B (gtrans q3 g4)⟩

end Go.Proofs.YtkpnnofonocilaaDoor.eventReads
