/- The document's answer for one node: the two tables, a function's application. -/
import Derived.Test.YtpodpahipapbaaaDoorSjd
import Derived.Test.YtpodpahipapbaaaDoorQt
namespace Go.Proofs.YtpodpahipapbaaaDoor
open Go.RowKit Go.BigFrame Go.Shelf Go.Proofs.YtpodpahipapbaaaDoor.Ev
set_option linter.unusedVariables false
set_option linter.unusedSimpArgs false

/-- The operators' bytes, in their order. -/
def osl : List (List UInt8) := [[43], [45], [42], [47], [37], [61], [33, 61], [60], [60, 61], [62], [62, 61], [65, 78, 68], [79, 82]]
def os (j : Nat) : ByteArray := ⟨(osl.getD j []).toArray⟩
def OsAt (w : World) : Prop := 1 < w.heap.size ∧ ∀ j, j < 13 → w.cell? ⟨1, j, none⟩ = some (.string (os j))
theorem OsAt.keep {w u : World} (h : OsAt w) (G : Below w.heap.size w u) : OsAt u :=
  ⟨Nat.lt_of_lt_of_le h.1 G.size, fun j hj => (G.cell (p := ⟨_, j, none⟩) h.1).trans (h.2 j hj)⟩
theorem os_len : osl.length = 13 := rfl
theorem osAt_of {W : World} (h : ∀ i bs, osl[i]? = some bs → W.cell? ⟨1, i, none⟩ = some (.string ⟨bs.toArray⟩)) : OsAt W := by
  have hc : ∀ j, j < 13 → W.cell? ⟨1, j, none⟩ = some (.string (os j)) := fun j hj => by
    have hl : j < osl.length := by rw [os_len]; exact hj
    rw [h j osl[j] (List.getElem?_eq_getElem hl)]
    simp [os, List.getD, List.getElem?_eq_getElem hl]
  exact ⟨lt_of_cell (hc 0 (by omega)), hc⟩
/-- The functions' bytes, in their order. -/
def cal : List (List UInt8) := [[67, 79, 85, 78, 84], [83, 85, 77], [77, 73, 78], [77, 65, 88], [70, 73, 82, 83, 84], [76, 65, 83, 84], [80, 82, 69, 86]]
def ca (j : Nat) : ByteArray := ⟨(cal.getD j []).toArray⟩
def CaAt (w : World) : Prop := 0 < w.heap.size ∧ ∀ j, j < 7 → w.cell? ⟨0, j, none⟩ = some (.string (ca j))
theorem CaAt.keep {w u : World} (h : CaAt w) (G : Below w.heap.size w u) : CaAt u :=
  ⟨Nat.lt_of_lt_of_le h.1 G.size, fun j hj => (G.cell (p := ⟨_, j, none⟩) h.1).trans (h.2 j hj)⟩
theorem ca_len : cal.length = 7 := rfl
theorem caAt_of {W : World} (h : ∀ i bs, cal[i]? = some bs → W.cell? ⟨0, i, none⟩ = some (.string ⟨bs.toArray⟩)) : CaAt W := by
  have hc : ∀ j, j < 7 → W.cell? ⟨0, j, none⟩ = some (.string (ca j)) := fun j hj => by
    have hl : j < cal.length := by rw [ca_len]; exact hj
    rw [h j cal[j] (List.getElem?_eq_getElem hl)]
    simp [ca, List.getD, List.getElem?_eq_getElem hl]
  exact ⟨lt_of_cell (hc 0 (by omega)), hc⟩

theorem jT_call (n : Nd) (k : Int) (s : ByteArray) (hk : spS (tkK k) = s) : jT (glueP [fixP [k, 3], atP n, fixP [4]]).ts = s ++ ⟨#[32, 40, 32]⟩ ++ n.v ++ ⟨#[32, 46, 32]⟩ ++ n.x ++ ⟨#[32, 41]⟩ := by
  have ha : (atP n).ts ≠ [] := by unfold atP; rw [(glue3 _ _ _).1]; simp [nmP]
  rw [(glue3 _ _ _).1, jT_app _ _ (by simp [ha]) (by simp [fixP, fxL]), jT_app _ _ (by simp [fixP, fxL]) ha, jT_at]
  rw [show (fixP [k, 3]).ts = [tkK k] ++ [tkK 3] from rfl, jT_app _ _ (by simp) (by simp), show (fixP [4]).ts = [tkK 4] from rfl, jT_one, jT_one, jT_one, hk, show spS (tkK 4) = ⟨#[41]⟩ from rfl, show spS (tkK 3) = ⟨#[40]⟩ from rfl]
  apply ByteArray.ext
  simp only [blS, ByteArray.data_append, Array.append_assoc]
  rw [show (#[32, 40, 32] : Array UInt8) = #[32] ++ (#[40] ++ #[32]) from rfl, show (#[32, 41] : Array UInt8) = #[32] ++ #[41] from rfl]
  simp only [Array.append_assoc]
theorem call_nums (n : Nd) (k : Int) : ((glueP [fixP [k, 3], atP n, fixP [4]]).ts.length : Int) = 6 ∧ (glueP [fixP [k, 3], atP n, fixP [4]]).d = 0 := by
  unfold atP
  rw [(glue3 _ _ _).1, (glue3 _ _ _).2, (glue3 _ _ _).1, (glue3 _ _ _).2]
  exact ⟨rfl, rfl⟩
set_option maxRecDepth 100000 in
set_option maxHeartbeats 8000000 in
theorem told_call (n : Nd) (hf : n.fit) (hop : 6 ≤ n.op ∧ n.op ≤ 11) (xa xb : ByteArray) (ta da tb db o p : Int) (w : World) (C : CaAt w) :
    Calls Tryd.prog 18 #[.agg (ndA n), .agg #[.string xa, .int .i64 ta, .int .i64 da], .int .i64 o, .agg #[.string xb, .int .i64 tb, .int .i64 db], .int .i64 p] w fun e w' => e = .returned (.agg (tdA (lfP n))) ∧ Below w.heap.size w w' := by
  have N0 := (((NlAt.new w n).keep (galloc (Below.refl _ _) (.cells #[.string xa, .int .i64 ta, .int .i64 da] 39))).keep (galloc (Below.refl _ _) (.cells #[.string xb, .int .i64 tb, .int .i64 db] 39))).keep (galloc (Below.refl _ _) (.cells #[.string ⟨#[]⟩, .int .i64 0, .int .i64 0] 39))
  have B0 := galloc (galloc (galloc (galloc (Below.refl w.heap.size w) (.cells (ndA n) 32)) (.cells #[.string xa, .int .i64 ta, .int .i64 da] 39)) (.cells #[.string xb, .int .i64 tb, .int .i64 db] 39)) (.cells #[.string ⟨#[]⟩, .int .i64 0, .int .i64 0] 39)
  have R0 := Tri.new (((w.alloc (.cells (ndA n) 32)).alloc (.cells #[.string xa, .int .i64 ta, .int .i64 da] 39)).alloc (.cells #[.string xb, .int .i64 tb, .int .i64 db] 39)) (.string ⟨#[]⟩) (.int .i64 0) (.int .i64 0) 39
  rw [show (((w.alloc (.cells (ndA n) 32)).alloc (.cells #[.string xa, .int .i64 ta, .int .i64 da] 39)).alloc (.cells #[.string xb, .int .i64 tb, .int .i64 db] 39)).heap.size = w.heap.size + 1 + 1 + 1 by simp] at R0
  have C0 := C.keep B0
  obtain ⟨q, hq⟩ : ∃ q, tdA (lfP n) = q := ⟨_, rfl⟩
  rw [hq]
  have hv := hf.v
  have hx := hf.x
  have tt : ∀ s, spS (tkK (47 + (n.op - 6))) = s → q = #[.string (s ++ ⟨#[32, 40, 32]⟩ ++ n.v ++ ⟨#[32, 46, 32]⟩ ++ n.x ++ ⟨#[32, 41]⟩), .int .i64 6, .int .i64 0] := fun s h => by
    rw [← hq]
    unfold lfP
    rw [if_neg (by omega), if_neg (by omega), if_neg (by omega), if_neg (by omega), if_neg (by omega)]
    unfold tdA
    rw [jT_call n _ s h, (call_nums n _).1, (call_nums n _).2]
  clear hq
  obtain ⟨yo, yn, yv, yx, yl, yr⟩ := n
  dsimp only at hop hv hx tt
  go_enter Tryd.func18, Tryd.ntmps18
  go_upto_region 1 with fail
  generalize (((w.alloc (.cells (ndA ⟨yo, yn, yv, yx, yl, yr⟩) 32)).alloc (.cells #[.string xa, .int .i64 ta, .int .i64 da] 39)).alloc (.cells #[.string xb, .int .i64 tb, .int .i64 db] 39)).alloc (.cells #[.string ⟨#[]⟩, .int .i64 0, .int .i64 0] 39) = V at *
  obtain ⟨a0, a1, a2, a3, a4, a5⟩ := N0.at
  obtain ⟨r0, r1, r2⟩ := R0.at
  have f0 := R0.free 0
  have f1 := R0.free 1
  have f2 := R0.free 2
  dsimp only at a0 a1 a2 a3 a4 a5
  rcases (show yo = 6 ∨ yo = 7 ∨ yo = 8 ∨ yo = 9 ∨ yo = 10 ∨ yo = 11 by omega) with rfl | rfl | rfl | rfl | rfl | rfl
  · have HT := show Hid (q = _) from tt ⟨#[83, 85, 77]⟩ (by kernel_rfl)
    have k0 : V.cell? ⟨0, 1, none⟩ = some (.string ⟨#[83, 85, 77]⟩) := C0.2 1 (by omega)
    clear tt
    go_wp2
    have hne : Nonempty (Ext V) := ⟨⟨_, Below.refl _ _⟩⟩
    have p0 := fun z : Ext V => (z.cell _ _ (lt_of_cell a0)).trans a0
    have p2 := fun z : Ext V => (z.cell _ _ (lt_of_cell a2)).trans a2
    have p3 := fun z : Ext V => (z.cell _ _ (lt_of_cell a3)).trans a3
    have pk := fun z : Ext V => (z.cell _ _ (lt_of_cell k0)).trans k0
    refine wp_region_ext_tail 15 (by kernel_rfl) (by kernel_rfl) ?_
    simp only [List.take_succ_cons, List.take_zero, List.drop_succ_cons, List.drop_zero]
    repeat (go_big_quiet_step (fail))
    refine wpQuiet_nil ?_
    intro _ hw'
    obtain ⟨nx2, hw''⟩ := hw'
    subst hw''
    have R3 := R0.keep nx2.h
    obtain ⟨r3, r4, r5⟩ := R3.at
    have f3 := R3.free 0
    have f4 := R3.free 1
    have f5 := R3.free 2
    go_wp2
    obtain ⟨e1, e2⟩ := tri_end (w := w) (a := .string ((⟨#[83, 85, 77]⟩ : ByteArray) ++ ⟨#[32, 40, 32]⟩ ++ yv ++ ⟨#[32, 46, 32]⟩ ++ yx ++ ⟨#[32, 41]⟩)) (b := .int .i64 6) (c := .int .i64 0) (by omega) R3 (gtrans B0 nx2.h)
    obtain ⟨s3, s4, s5⟩ := e2.at
    exact bodyPost_ret (v := .agg #[.string ((⟨#[83, 85, 77]⟩ : ByteArray) ++ ⟨#[32, 40, 32]⟩ ++ yv ++ ⟨#[32, 46, 32]⟩ ++ yx ++ ⟨#[32, 41]⟩), .int .i64 6, .int .i64 0]) (by simp [results, Tryd.results18, go_sem, s3, s4, s5]) rfl ⟨by rw [HT.out], e1⟩
  · have HT := show Hid (q = _) from tt ⟨#[77, 73, 78]⟩ (by kernel_rfl)
    have k0 : V.cell? ⟨0, 2, none⟩ = some (.string ⟨#[77, 73, 78]⟩) := C0.2 2 (by omega)
    clear tt
    go_wp2
    have hne : Nonempty (Ext V) := ⟨⟨_, Below.refl _ _⟩⟩
    have p0 := fun z : Ext V => (z.cell _ _ (lt_of_cell a0)).trans a0
    have p2 := fun z : Ext V => (z.cell _ _ (lt_of_cell a2)).trans a2
    have p3 := fun z : Ext V => (z.cell _ _ (lt_of_cell a3)).trans a3
    have pk := fun z : Ext V => (z.cell _ _ (lt_of_cell k0)).trans k0
    refine wp_region_ext_tail 15 (by kernel_rfl) (by kernel_rfl) ?_
    simp only [List.take_succ_cons, List.take_zero, List.drop_succ_cons, List.drop_zero]
    repeat (go_big_quiet_step (fail))
    refine wpQuiet_nil ?_
    intro _ hw'
    obtain ⟨nx2, hw''⟩ := hw'
    subst hw''
    have R3 := R0.keep nx2.h
    obtain ⟨r3, r4, r5⟩ := R3.at
    have f3 := R3.free 0
    have f4 := R3.free 1
    have f5 := R3.free 2
    go_wp2
    obtain ⟨e1, e2⟩ := tri_end (w := w) (a := .string ((⟨#[77, 73, 78]⟩ : ByteArray) ++ ⟨#[32, 40, 32]⟩ ++ yv ++ ⟨#[32, 46, 32]⟩ ++ yx ++ ⟨#[32, 41]⟩)) (b := .int .i64 6) (c := .int .i64 0) (by omega) R3 (gtrans B0 nx2.h)
    obtain ⟨s3, s4, s5⟩ := e2.at
    exact bodyPost_ret (v := .agg #[.string ((⟨#[77, 73, 78]⟩ : ByteArray) ++ ⟨#[32, 40, 32]⟩ ++ yv ++ ⟨#[32, 46, 32]⟩ ++ yx ++ ⟨#[32, 41]⟩), .int .i64 6, .int .i64 0]) (by simp [results, Tryd.results18, go_sem, s3, s4, s5]) rfl ⟨by rw [HT.out], e1⟩
  · have HT := show Hid (q = _) from tt ⟨#[77, 65, 88]⟩ (by kernel_rfl)
    have k0 : V.cell? ⟨0, 3, none⟩ = some (.string ⟨#[77, 65, 88]⟩) := C0.2 3 (by omega)
    clear tt
    go_wp2
    have hne : Nonempty (Ext V) := ⟨⟨_, Below.refl _ _⟩⟩
    have p0 := fun z : Ext V => (z.cell _ _ (lt_of_cell a0)).trans a0
    have p2 := fun z : Ext V => (z.cell _ _ (lt_of_cell a2)).trans a2
    have p3 := fun z : Ext V => (z.cell _ _ (lt_of_cell a3)).trans a3
    have pk := fun z : Ext V => (z.cell _ _ (lt_of_cell k0)).trans k0
    refine wp_region_ext_tail 15 (by kernel_rfl) (by kernel_rfl) ?_
    simp only [List.take_succ_cons, List.take_zero, List.drop_succ_cons, List.drop_zero]
    repeat (go_big_quiet_step (fail))
    refine wpQuiet_nil ?_
    intro _ hw'
    obtain ⟨nx2, hw''⟩ := hw'
    subst hw''
    have R3 := R0.keep nx2.h
    obtain ⟨r3, r4, r5⟩ := R3.at
    have f3 := R3.free 0
    have f4 := R3.free 1
    have f5 := R3.free 2
    go_wp2
    obtain ⟨e1, e2⟩ := tri_end (w := w) (a := .string ((⟨#[77, 65, 88]⟩ : ByteArray) ++ ⟨#[32, 40, 32]⟩ ++ yv ++ ⟨#[32, 46, 32]⟩ ++ yx ++ ⟨#[32, 41]⟩)) (b := .int .i64 6) (c := .int .i64 0) (by omega) R3 (gtrans B0 nx2.h)
    obtain ⟨s3, s4, s5⟩ := e2.at
    exact bodyPost_ret (v := .agg #[.string ((⟨#[77, 65, 88]⟩ : ByteArray) ++ ⟨#[32, 40, 32]⟩ ++ yv ++ ⟨#[32, 46, 32]⟩ ++ yx ++ ⟨#[32, 41]⟩), .int .i64 6, .int .i64 0]) (by simp [results, Tryd.results18, go_sem, s3, s4, s5]) rfl ⟨by rw [HT.out], e1⟩
  · have HT := show Hid (q = _) from tt ⟨#[70, 73, 82, 83, 84]⟩ (by kernel_rfl)
    have k0 : V.cell? ⟨0, 4, none⟩ = some (.string ⟨#[70, 73, 82, 83, 84]⟩) := C0.2 4 (by omega)
    clear tt
    go_wp2
    have hne : Nonempty (Ext V) := ⟨⟨_, Below.refl _ _⟩⟩
    have p0 := fun z : Ext V => (z.cell _ _ (lt_of_cell a0)).trans a0
    have p2 := fun z : Ext V => (z.cell _ _ (lt_of_cell a2)).trans a2
    have p3 := fun z : Ext V => (z.cell _ _ (lt_of_cell a3)).trans a3
    have pk := fun z : Ext V => (z.cell _ _ (lt_of_cell k0)).trans k0
    refine wp_region_ext_tail 15 (by kernel_rfl) (by kernel_rfl) ?_
    simp only [List.take_succ_cons, List.take_zero, List.drop_succ_cons, List.drop_zero]
    repeat (go_big_quiet_step (fail))
    refine wpQuiet_nil ?_
    intro _ hw'
    obtain ⟨nx2, hw''⟩ := hw'
    subst hw''
    have R3 := R0.keep nx2.h
    obtain ⟨r3, r4, r5⟩ := R3.at
    have f3 := R3.free 0
    have f4 := R3.free 1
    have f5 := R3.free 2
    go_wp2
    obtain ⟨e1, e2⟩ := tri_end (w := w) (a := .string ((⟨#[70, 73, 82, 83, 84]⟩ : ByteArray) ++ ⟨#[32, 40, 32]⟩ ++ yv ++ ⟨#[32, 46, 32]⟩ ++ yx ++ ⟨#[32, 41]⟩)) (b := .int .i64 6) (c := .int .i64 0) (by omega) R3 (gtrans B0 nx2.h)
    obtain ⟨s3, s4, s5⟩ := e2.at
    exact bodyPost_ret (v := .agg #[.string ((⟨#[70, 73, 82, 83, 84]⟩ : ByteArray) ++ ⟨#[32, 40, 32]⟩ ++ yv ++ ⟨#[32, 46, 32]⟩ ++ yx ++ ⟨#[32, 41]⟩), .int .i64 6, .int .i64 0]) (by simp [results, Tryd.results18, go_sem, s3, s4, s5]) rfl ⟨by rw [HT.out], e1⟩
  · have HT := show Hid (q = _) from tt ⟨#[76, 65, 83, 84]⟩ (by kernel_rfl)
    have k0 : V.cell? ⟨0, 5, none⟩ = some (.string ⟨#[76, 65, 83, 84]⟩) := C0.2 5 (by omega)
    clear tt
    go_wp2
    have hne : Nonempty (Ext V) := ⟨⟨_, Below.refl _ _⟩⟩
    have p0 := fun z : Ext V => (z.cell _ _ (lt_of_cell a0)).trans a0
    have p2 := fun z : Ext V => (z.cell _ _ (lt_of_cell a2)).trans a2
    have p3 := fun z : Ext V => (z.cell _ _ (lt_of_cell a3)).trans a3
    have pk := fun z : Ext V => (z.cell _ _ (lt_of_cell k0)).trans k0
    refine wp_region_ext_tail 15 (by kernel_rfl) (by kernel_rfl) ?_
    simp only [List.take_succ_cons, List.take_zero, List.drop_succ_cons, List.drop_zero]
    repeat (go_big_quiet_step (fail))
    refine wpQuiet_nil ?_
    intro _ hw'
    obtain ⟨nx2, hw''⟩ := hw'
    subst hw''
    have R3 := R0.keep nx2.h
    obtain ⟨r3, r4, r5⟩ := R3.at
    have f3 := R3.free 0
    have f4 := R3.free 1
    have f5 := R3.free 2
    go_wp2
    obtain ⟨e1, e2⟩ := tri_end (w := w) (a := .string ((⟨#[76, 65, 83, 84]⟩ : ByteArray) ++ ⟨#[32, 40, 32]⟩ ++ yv ++ ⟨#[32, 46, 32]⟩ ++ yx ++ ⟨#[32, 41]⟩)) (b := .int .i64 6) (c := .int .i64 0) (by omega) R3 (gtrans B0 nx2.h)
    obtain ⟨s3, s4, s5⟩ := e2.at
    exact bodyPost_ret (v := .agg #[.string ((⟨#[76, 65, 83, 84]⟩ : ByteArray) ++ ⟨#[32, 40, 32]⟩ ++ yv ++ ⟨#[32, 46, 32]⟩ ++ yx ++ ⟨#[32, 41]⟩), .int .i64 6, .int .i64 0]) (by simp [results, Tryd.results18, go_sem, s3, s4, s5]) rfl ⟨by rw [HT.out], e1⟩
  · have HT := show Hid (q = _) from tt ⟨#[80, 82, 69, 86]⟩ (by kernel_rfl)
    have k0 : V.cell? ⟨0, 6, none⟩ = some (.string ⟨#[80, 82, 69, 86]⟩) := C0.2 6 (by omega)
    clear tt
    go_wp2
    have hne : Nonempty (Ext V) := ⟨⟨_, Below.refl _ _⟩⟩
    have p0 := fun z : Ext V => (z.cell _ _ (lt_of_cell a0)).trans a0
    have p2 := fun z : Ext V => (z.cell _ _ (lt_of_cell a2)).trans a2
    have p3 := fun z : Ext V => (z.cell _ _ (lt_of_cell a3)).trans a3
    have pk := fun z : Ext V => (z.cell _ _ (lt_of_cell k0)).trans k0
    refine wp_region_ext_tail 15 (by kernel_rfl) (by kernel_rfl) ?_
    simp only [List.take_succ_cons, List.take_zero, List.drop_succ_cons, List.drop_zero]
    repeat (go_big_quiet_step (fail))
    refine wpQuiet_nil ?_
    intro _ hw'
    obtain ⟨nx2, hw''⟩ := hw'
    subst hw''
    have R3 := R0.keep nx2.h
    obtain ⟨r3, r4, r5⟩ := R3.at
    have f3 := R3.free 0
    have f4 := R3.free 1
    have f5 := R3.free 2
    go_wp2
    obtain ⟨e1, e2⟩ := tri_end (w := w) (a := .string ((⟨#[80, 82, 69, 86]⟩ : ByteArray) ++ ⟨#[32, 40, 32]⟩ ++ yv ++ ⟨#[32, 46, 32]⟩ ++ yx ++ ⟨#[32, 41]⟩)) (b := .int .i64 6) (c := .int .i64 0) (by omega) R3 (gtrans B0 nx2.h)
    obtain ⟨s3, s4, s5⟩ := e2.at
    exact bodyPost_ret (v := .agg #[.string ((⟨#[80, 82, 69, 86]⟩ : ByteArray) ++ ⟨#[32, 40, 32]⟩ ++ yv ++ ⟨#[32, 46, 32]⟩ ++ yx ++ ⟨#[32, 41]⟩), .int .i64 6, .int .i64 0]) (by simp [results, Tryd.results18, go_sem, s3, s4, s5]) rfl ⟨by rw [HT.out], e1⟩

end Go.Proofs.YtpodpahipapbaaaDoor
