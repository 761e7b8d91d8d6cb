/- The document's answer for one node without operands, walked. -/
import Derived.Test.YtpodpahipapbaaaDoorSjb
namespace Go.Proofs.YtpodpahipapbaaaDoor
open Go.RowKit Go.BigFrame Go.Shelf Go.Proofs.YtpodpahipapbaaaDoor.Ev
set_option linter.unusedVariables false
set_option linter.unusedSimpArgs false

/-- The end of a call whose result is of three cells. -/
theorem tri_end {w u : World} {rb : Nat} {x y z a b c : Value} {t : TypeId} (hr : w.heap.size ≤ rb) (R : Tri u rb x y z t) (G : Below w.heap.size w u) :
    Below w.heap.size w (((u.setCell ⟨rb, 0, none⟩ a).setCell ⟨rb, 1, none⟩ b).setCell ⟨rb, 2, none⟩ c) ∧ Tri (((u.setCell ⟨rb, 0, none⟩ a).setCell ⟨rb, 1, none⟩ b).setCell ⟨rb, 2, none⟩ c) rb a b c t :=
  ⟨gset (gset (gset G (p := ⟨rb, 0, none⟩) hr _) (p := ⟨rb, 1, none⟩) hr _) (p := ⟨rb, 2, none⟩) hr _, R.set _ _ _⟩
set_option maxRecDepth 100000 in
set_option maxHeartbeats 8000000 in
theorem told_leaf (n : Nd) (hf : n.fit) (hop : 1 ≤ n.op ∧ n.op ≤ 5) (xa xb : ByteArray) (ta da tb db o p : Int) (w : World) (P : PwAt w) :
    Calls Tryd.prog 18 #[.agg (ndA n), .agg #[.string xa, .int .i64 ta, .int .i64 da], .int .i64 o, .agg #[.string xb, .int .i64 tb, .int .i64 db], .int .i64 p] w fun e w' => e = .returned (.agg (tdA (lfP n))) ∧ Below w.heap.size w w' := by
  have N0 := (((NlAt.new w n).keep (galloc (Below.refl _ _) (.cells #[.string xa, .int .i64 ta, .int .i64 da] 39))).keep (galloc (Below.refl _ _) (.cells #[.string xb, .int .i64 tb, .int .i64 db] 39))).keep (galloc (Below.refl _ _) (.cells #[.string ⟨#[]⟩, .int .i64 0, .int .i64 0] 39))
  have B0 := galloc (galloc (galloc (galloc (Below.refl w.heap.size w) (.cells (ndA n) 32)) (.cells #[.string xa, .int .i64 ta, .int .i64 da] 39)) (.cells #[.string xb, .int .i64 tb, .int .i64 db] 39)) (.cells #[.string ⟨#[]⟩, .int .i64 0, .int .i64 0] 39)
  have R0 := Tri.new (((w.alloc (.cells (ndA n) 32)).alloc (.cells #[.string xa, .int .i64 ta, .int .i64 da] 39)).alloc (.cells #[.string xb, .int .i64 tb, .int .i64 db] 39)) (.string ⟨#[]⟩) (.int .i64 0) (.int .i64 0) 39
  rw [show (((w.alloc (.cells (ndA n) 32)).alloc (.cells #[.string xa, .int .i64 ta, .int .i64 da] 39)).alloc (.cells #[.string xb, .int .i64 tb, .int .i64 db] 39)).heap.size = w.heap.size + 1 + 1 + 1 by simp] at R0
  obtain ⟨q, hq⟩ : ∃ q, tdA (lfP n) = q := ⟨_, rfl⟩
  rw [hq]
  have hf0 := hf.n
  have hv := hf.v
  have hx := hf.x
  have t1 : n.op = 1 → q = #[.string ⟨(Lib.itoa n.n).toArray⟩, .int .i64 1, .int .i64 0] := fun h => by rw [← hq]; unfold lfP; rw [if_pos h]; unfold tdA nbP; rw [jT_one]; rfl
  have t2 : n.op = 2 → q = #[.string ⟨#[84, 82, 85, 69]⟩, .int .i64 1, .int .i64 0] := fun h => by rw [← hq]; unfold lfP; rw [if_neg (by omega), if_pos h]; kernel_rfl
  have t3 : n.op = 3 → q = #[.string ⟨#[70, 65, 76, 83, 69]⟩, .int .i64 1, .int .i64 0] := fun h => by rw [← hq]; unfold lfP; rw [if_neg (by omega), if_neg (by omega), if_pos h]; kernel_rfl
  have t4 : n.op = 4 → q = #[.string (n.v ++ ⟨#[32, 46, 32]⟩ ++ n.x), .int .i64 3, .int .i64 0] := fun h => by rw [← hq]; unfold lfP; rw [if_neg (by omega), if_neg (by omega), if_neg (by omega), if_pos h]; unfold tdA; rw [jT_at]; unfold atP; rw [(glue3 _ _ _).1, (glue3 _ _ _).2]; rfl
  have t5 : n.op = 5 → q = #[.string (⟨#[67, 79, 85, 78, 84, 32, 40, 32]⟩ ++ n.v ++ ⟨#[32, 41]⟩), .int .i64 4, .int .i64 0] := fun h => by rw [← hq]; unfold lfP; rw [if_neg (by omega), if_neg (by omega), if_neg (by omega), if_neg (by omega), if_pos h]; unfold tdA; rw [jT_count]; rw [(glue3 _ _ _).1, (glue3 _ _ _).2]; rfl
  clear hq
  obtain ⟨yo, yn, yv, yx, yl, yr⟩ := n
  dsimp only at hop hf0 hv hx t1 t2 t3 t4 t5
  go_enter Tryd.func18, Tryd.ntmps18
  go_upto_region 1 with fail
  generalize (((w.alloc (.cells (ndA ⟨yo, yn, yv, yx, yl, yr⟩) 32)).alloc (.cells #[.string xa, .int .i64 ta, .int .i64 da] 39)).alloc (.cells #[.string xb, .int .i64 tb, .int .i64 db] 39)).alloc (.cells #[.string ⟨#[]⟩, .int .i64 0, .int .i64 0] 39) = V at *
  obtain ⟨a0, a1, a2, a3, a4, a5⟩ := N0.at
  obtain ⟨r0, r1, r2⟩ := R0.at
  have f0 := R0.free 0
  have f1 := R0.free 1
  have f2 := R0.free 2
  dsimp only at a0 a1 a2 a3 a4 a5
  rcases (show yo = 1 ∨ yo = 2 ∨ yo = 3 ∨ yo = 4 ∨ yo = 5 by omega) with rfl | rfl | rfl | rfl | rfl
  · have HT := show Hid (q = _) from t1 rfl
    clear t1 t2 t3 t4 t5
    have cF := fun (u : World) (g : Below w.heap.size w u) => formatInt_any yn hf0.1 hf0.2 u (P.keep g)
    go_wp2_with (go_at_call 34; (with_reducible refine (cF _ B0).mono ?_); rintro e u ⟨rfl, g⟩; have R1 := R0.keep g; obtain ⟨r3, r4, r5⟩ := R1.at; have f3 := R1.free 0; have f4 := R1.free 1; have f5 := R1.free 2)
    obtain ⟨e1, e2⟩ := tri_end (w := w) (a := .string ⟨(Lib.itoa yn).toArray⟩) (b := .int .i64 1) (c := .int .i64 0) (by omega) R1 (gtrans B0 g)
    obtain ⟨s3, s4, s5⟩ := e2.at
    exact bodyPost_ret (v := .agg #[.string ⟨(Lib.itoa yn).toArray⟩, .int .i64 1, .int .i64 0]) (by simp [results, Tryd.results18, go_sem, s3, s4, s5]) rfl ⟨by rw [HT.out], e1⟩
  · have HT := show Hid (q = _) from t2 rfl
    clear t1 t2 t3 t4 t5
    go_wp2
    obtain ⟨e1, e2⟩ := tri_end (w := w) (a := .string ⟨#[84, 82, 85, 69]⟩) (b := .int .i64 1) (c := .int .i64 0) (by omega) R0 B0
    obtain ⟨s3, s4, s5⟩ := e2.at
    exact bodyPost_ret (v := .agg #[.string ⟨#[84, 82, 85, 69]⟩, .int .i64 1, .int .i64 0]) (by simp [results, Tryd.results18, go_sem, s3, s4, s5]) rfl ⟨by rw [HT.out], e1⟩
  · have HT := show Hid (q = _) from t3 rfl
    clear t1 t2 t3 t4 t5
    go_wp2
    obtain ⟨e1, e2⟩ := tri_end (w := w) (a := .string ⟨#[70, 65, 76, 83, 69]⟩) (b := .int .i64 1) (c := .int .i64 0) (by omega) R0 B0
    obtain ⟨s3, s4, s5⟩ := e2.at
    exact bodyPost_ret (v := .agg #[.string ⟨#[70, 65, 76, 83, 69]⟩, .int .i64 1, .int .i64 0]) (by simp [results, Tryd.results18, go_sem, s3, s4, s5]) rfl ⟨by rw [HT.out], e1⟩
  · have HT := show Hid (q = _) from t4 rfl
    clear t1 t2 t3 t4 t5
    go_wp2
    obtain ⟨e1, e2⟩ := tri_end (w := w) (a := .string (yv ++ ⟨#[32, 46, 32]⟩ ++ yx)) (b := .int .i64 3) (c := .int .i64 0) (by omega) R0 B0
    obtain ⟨s3, s4, s5⟩ := e2.at
    exact bodyPost_ret (v := .agg #[.string (yv ++ ⟨#[32, 46, 32]⟩ ++ yx), .int .i64 3, .int .i64 0]) (by simp [results, Tryd.results18, go_sem, s3, s4, s5]) rfl ⟨by rw [HT.out], e1⟩
  · have HT := show Hid (q = _) from t5 rfl
    clear t1 t2 t3 t4 t5
    go_wp2
    obtain ⟨e1, e2⟩ := tri_end (w := w) (a := .string (⟨#[67, 79, 85, 78, 84, 32, 40, 32]⟩ ++ yv ++ ⟨#[32, 41]⟩)) (b := .int .i64 4) (c := .int .i64 0) (by omega) R0 B0
    obtain ⟨s3, s4, s5⟩ := e2.at
    exact bodyPost_ret (v := .agg #[.string (⟨#[67, 79, 85, 78, 84, 32, 40, 32]⟩ ++ yv ++ ⟨#[32, 41]⟩), .int .i64 4, .int .i64 0]) (by simp [results, Tryd.results18, go_sem, s3, s4, s5]) rfl ⟨by rw [HT.out], e1⟩

end Go.Proofs.YtpodpahipapbaaaDoor
