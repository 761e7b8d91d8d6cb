/- The document's answer for one node with one operand. -/
import Derived.Test.YtpodpahipapbaaaDoorSjc
namespace Go.Proofs.YtpodpahipapbaaaDoor
open Go.RowKit Go.BigFrame Go.Shelf Go.Proofs.YtpodpahipapbaaaDoor.Ev
set_option linter.unusedVariables false
set_option linter.unusedSimpArgs false

theorem jT_un (k : Int) (sk : ByteArray) (hk : spS (tkK k) = sk) (q : Pce) (hq : q.ts ≠ []) : jT (openP [fixP [k], q]).ts = sk ++ blS ++ jT q.ts := by
  show jT (glueP [fixP [k], q]).ts = _
  rw [(glue2 _ _).1, jT_app _ _ (by simp [fixP, fxL]) hq, show (fixP [k]).ts = [tkK k] from rfl, jT_one, hk]
theorem un_nums (k : Int) (q : Pce) (hd : 0 ≤ q.d) : ((openP [fixP [k], q]).ts.length : Int) = (q.ts.length : Int) + 1 ∧ (openP [fixP [k], q]).d = q.d + 1 := by
  have e := glue2 (fixP [k]) q
  refine ⟨?_, ?_⟩
  · show ((glueP [fixP [k], q]).ts.length : Int) = _
    rw [e.1, List.length_append, (fix_d [k]).2]
    simp
    omega
  · show (glueP [fixP [k], q]).d + 1 = _
    rw [e.2, (fix_d [k]).1]
    unfold maxI
    repeat' split
    all_goals omega
set_option maxRecDepth 100000 in
set_option maxHeartbeats 8000000 in
theorem told_un (n : Nd) (hop : n.op = 12 ∨ n.op = 13) (pa q : Pce) (hne : pa.ts ≠ []) (hl : pa.ts.length ≤ 1000000) (hd : 0 ≤ pa.d ∧ pa.d ≤ 1000000) (hs : (jT pa.ts).size ≤ 1000000000) (o : Int) (hqd : q = if (if n.op = 12 then 7 else 3) ≤ lvl o then pa else openP [fixP [3], pa, fixP [4]]) (hqn : q.ts ≠ []) (hql : q.ts.length ≤ 2000000) (hqz : 0 ≤ q.d ∧ q.d ≤ 2000000) (hqs : (jT q.ts).size ≤ 2000000000) (xb : ByteArray) (tb db p : Int) (w : World) :
    Calls Tryd.prog 18 #[.agg (ndA n), .agg (tdA pa), .int .i64 o, .agg #[.string xb, .int .i64 tb, .int .i64 db], .int .i64 p] w fun e w' => e = .returned (.agg (tdA (openP [fixP [if n.op = 12 then 12 else 43], q]))) ∧ Below w.heap.size w w' := by
  have cO := fun need u => refOperand_any pa hne hl hd hs o need u
  rw [show tdA pa = #[.string (jT pa.ts), .int .i64 pa.ts.length, .int .i64 pa.d] from rfl] at cO ⊢
  obtain ⟨xa, hxa⟩ : ∃ xa, jT pa.ts = xa := ⟨_, rfl⟩
  obtain ⟨ta, hta⟩ : ∃ ta : Int, (pa.ts.length : Int) = ta := ⟨_, rfl⟩
  obtain ⟨da, hda⟩ : ∃ da, pa.d = da := ⟨_, rfl⟩
  rw [hxa, hta, hda] at cO ⊢
  have N0 := (((NlAt.new w n).keep (galloc (Below.refl _ _) (.cells #[.string xa, .int .i64 ta, .int .i64 da] 39))).keep (galloc (Below.refl _ _) (.cells #[.string xb, .int .i64 tb, .int .i64 db] 39))).keep (galloc (Below.refl _ _) (.cells #[.string ⟨#[]⟩, .int .i64 0, .int .i64 0] 39))
  have B0 := galloc (galloc (galloc (galloc (Below.refl w.heap.size w) (.cells (ndA n) 32)) (.cells #[.string xa, .int .i64 ta, .int .i64 da] 39)) (.cells #[.string xb, .int .i64 tb, .int .i64 db] 39)) (.cells #[.string ⟨#[]⟩, .int .i64 0, .int .i64 0] 39)
  have R0 := Tri.new (((w.alloc (.cells (ndA n) 32)).alloc (.cells #[.string xa, .int .i64 ta, .int .i64 da] 39)).alloc (.cells #[.string xb, .int .i64 tb, .int .i64 db] 39)) (.string ⟨#[]⟩) (.int .i64 0) (.int .i64 0) 39
  rw [show (((w.alloc (.cells (ndA n) 32)).alloc (.cells #[.string xa, .int .i64 ta, .int .i64 da] 39)).alloc (.cells #[.string xb, .int .i64 tb, .int .i64 db] 39)).heap.size = w.heap.size + 1 + 1 + 1 by simp] at R0
  have A0 := ((Tri.new (w.alloc (.cells (ndA n) 32)) (.string xa) (.int .i64 ta) (.int .i64 da) 39).alloc (.cells #[.string xb, .int .i64 tb, .int .i64 db] 39)).alloc (.cells #[.string ⟨#[]⟩, .int .i64 0, .int .i64 0] 39)
  rw [show (w.alloc (.cells (ndA n) 32)).heap.size = w.heap.size + 1 by simp] at A0
  obtain ⟨r, hr⟩ : ∃ r, tdA (openP [fixP [if n.op = 12 then 12 else 43], q]) = r := ⟨_, rfl⟩
  rw [hr]
  have t12 : n.op = 12 → r = #[.string (⟨#[45, 32]⟩ ++ jT q.ts), .int .i64 ((q.ts.length : Int) + 1), .int .i64 (q.d + 1)] := fun h => by
    rw [← hr, if_pos h]
    unfold tdA
    rw [jT_un 12 ⟨#[45]⟩ rfl q hqn, (un_nums 12 q hqz.1).1, (un_nums 12 q hqz.1).2]
    rw [show (⟨#[45]⟩ : ByteArray) ++ blS = ⟨#[45, 32]⟩ from rfl]
  have t13 : n.op = 13 → r = #[.string (⟨#[78, 79, 84, 32]⟩ ++ jT q.ts), .int .i64 ((q.ts.length : Int) + 1), .int .i64 (q.d + 1)] := fun h => by
    rw [← hr, if_neg (show ¬ n.op = 12 by omega)]
    unfold tdA
    rw [jT_un 43 ⟨#[78, 79, 84]⟩ (by kernel_rfl) q hqn, (un_nums 43 q hqz.1).1, (un_nums 43 q hqz.1).2]
    rw [show (⟨#[78, 79, 84]⟩ : ByteArray) ++ blS = ⟨#[78, 79, 84, 32]⟩ from rfl]
  clear hr
  have c12 : n.op = 12 → ∀ u, Calls Tryd.prog 35 #[.agg #[.string xa, .int .i64 ta, .int .i64 da], .int .i64 o, .int .i64 7] u fun e w' => e = .returned (.agg #[.string (jT q.ts), .int .i64 q.ts.length, .int .i64 q.d]) ∧ Below u.heap.size u w' := fun h u => by
    have := cO 7 u
    rw [if_pos h] at hqd
    rw [← hqd] at this
    exact this
  have c13 : n.op = 13 → ∀ u, Calls Tryd.prog 35 #[.agg #[.string xa, .int .i64 ta, .int .i64 da], .int .i64 o, .int .i64 3] u fun e w' => e = .returned (.agg #[.string (jT q.ts), .int .i64 q.ts.length, .int .i64 q.d]) ∧ Below u.heap.size u w' := fun h u => by
    have := cO 3 u
    rw [if_neg (show ¬ n.op = 12 by omega)] at hqd
    rw [← hqd] at this
    exact this
  obtain ⟨qx, hqx⟩ : ∃ qx, jT q.ts = qx := ⟨_, rfl⟩
  obtain ⟨qt, hqt⟩ : ∃ qt : Nat, q.ts.length = qt := ⟨_, rfl⟩
  obtain ⟨qd, hqd2⟩ : ∃ qd, q.d = qd := ⟨_, rfl⟩
  rw [hqx, hqt, hqd2] at c12 c13 t12 t13
  rw [hqt] at hql
  rw [hqd2] at hqz
  rw [hqx] at hqs
  obtain ⟨hz0, hz1⟩ := hqz
  clear hqd hqx hqt hqd2 hqn cO hxa hta hda hne hl hd hs
  obtain ⟨yo, yn, yv, yx, yl, yr⟩ := n
  dsimp only at hop t12 t13 c12 c13
  go_enter Tryd.func18, Tryd.ntmps18
  go_upto_region 1 with fail
  generalize (((w.alloc (.cells (ndA ⟨yo, yn, yv, yx, yl, yr⟩) 32)).alloc (.cells #[.string xa, .int .i64 ta, .int .i64 da] 39)).alloc (.cells #[.string xb, .int .i64 tb, .int .i64 db] 39)).alloc (.cells #[.string ⟨#[]⟩, .int .i64 0, .int .i64 0] 39) = V at *
  obtain ⟨a0, a1, a2, a3, a4, a5⟩ := N0.at
  obtain ⟨r0, r1, r2⟩ := R0.at
  have f0 := R0.free 0
  have f1 := R0.free 1
  have f2 := R0.free 2
  obtain ⟨b0, b1, b2⟩ := A0.at
  dsimp only at a0 a1 a2 a3 a4 a5
  rcases hop with rfl | rfl
  · have HT := show Hid (r = _) from t12 rfl
    have cO := c12 rfl
    clear t12 t13 c12 c13
    go_wp2_with (go_at_call 35; (with_reducible refine (cO _).mono ?_); rintro e u ⟨rfl, g⟩; have R1 := (R0.keep g).alloc (.cells #[.string qx, .int .i64 qt, .int .i64 qd] 39); obtain ⟨r3, r4, r5⟩ := R1.at; have f3 := R1.free 0; have f4 := R1.free 1; have f5 := R1.free 2)
    obtain ⟨e1, e2⟩ := tri_end (w := w) (a := .string (⟨#[45, 32]⟩ ++ qx)) (b := .int .i64 ((qt : Int) + 1)) (c := .int .i64 (qd + 1)) (by omega) R1 (galloc (gtrans B0 g) _)
    obtain ⟨s3, s4, s5⟩ := e2.at
    exact bodyPost_ret (v := .agg #[.string (⟨#[45, 32]⟩ ++ qx), .int .i64 ((qt : Int) + 1), .int .i64 (qd + 1)]) (by simp [results, Tryd.results18, go_sem, s3, s4, s5]) rfl ⟨by rw [HT.out], e1⟩
  · have HT := show Hid (r = _) from t13 rfl
    have cO := c13 rfl
    clear t12 t13 c12 c13
    go_wp2_with (go_at_call 35; (with_reducible refine (cO _).mono ?_); rintro e u ⟨rfl, g⟩; have R1 := (R0.keep g).alloc (.cells #[.string qx, .int .i64 qt, .int .i64 qd] 39); obtain ⟨r3, r4, r5⟩ := R1.at; have f3 := R1.free 0; have f4 := R1.free 1; have f5 := R1.free 2)
    obtain ⟨e1, e2⟩ := tri_end (w := w) (a := .string (⟨#[78, 79, 84, 32]⟩ ++ qx)) (b := .int .i64 ((qt : Int) + 1)) (c := .int .i64 (qd + 1)) (by omega) R1 (galloc (gtrans B0 g) _)
    obtain ⟨s3, s4, s5⟩ := e2.at
    exact bodyPost_ret (v := .agg #[.string (⟨#[78, 79, 84, 32]⟩ ++ qx), .int .i64 ((qt : Int) + 1), .int .i64 (qd + 1)]) (by simp [results, Tryd.results18, go_sem, s3, s4, s5]) rfl ⟨by rw [HT.out], e1⟩

end Go.Proofs.YtpodpahipapbaaaDoor
