/- The methods of lex's machine: word, sign, take. -/
import Derived.Test.YtmoimmghmmomlaaDoorLx2
import Derived.Deep.AppendLies
import Derived.Laws.Rows
import Derived.Laws.Tables
import Derived.Laws.CopyOwn
namespace Go.Proofs.YtmoimmghmmomlaaDoor
open Go.RowKit Go.BigFrame
set_option linter.unusedVariables false
set_option linter.unusedSimpArgs false

structure Tok where
  k : Int
  t : ByteArray
  n : Int
  a : Int
def tokA (t : Tok) : Array Value := #[.int .i64 t.k, .string t.t, .int .i64 t.n, .int .i64 t.a]
def noTok : Tok := ⟨0, ⟨#[]⟩, 0, 0⟩
def TokAt (w : World) (b : Nat) (t : Tok) : Prop := w.heap[b]? = some (.cells (tokA t) 79 (0, 0))
theorem TokAt.lt {w : World} {b : Nat} {t : Tok} (h : TokAt w b t) : b < w.heap.size := lt_of_block h
theorem TokAt.keep {w u : World} {b : Nat} {t : Tok} (h : TokAt w b t) (G : Below w.heap.size w u) : TokAt u b t := (G.block b h.lt).trans h
theorem TokAt.new (w : World) (t : Tok) : TokAt (w.alloc (.cells (tokA t) 79)) w.heap.size t := by
  show (w.heap.push _)[w.heap.size]? = _
  simp
theorem TokAt.at {w : World} {b : Nat} {t : Tok} (h : TokAt w b t) : w.cell? ⟨b, 0, none⟩ = some (.int .i64 t.k) ∧ w.cell? ⟨b, 1, none⟩ = some (.string t.t) ∧ w.cell? ⟨b, 2, none⟩ = some (.int .i64 t.n) ∧ w.cell? ⟨b, 3, none⟩ = some (.int .i64 t.a) := by
  unfold TokAt tokA at h
  refine ⟨?_, ?_, ?_, ?_⟩ <;> simp [World.cell?, h]
theorem TokAt.free {w : World} {b : Nat} {t : Tok} (h : TokAt w b t) (o : Nat) : w.frozen? ⟨b, o, none⟩ = false := by
  unfold TokAt at h
  simp [World.frozen?, h]
theorem results_row_tmp {P : Program} {fn : Func} {p q : Tmp} {ty : TypeId} (h : fn.results = #[.cell p ty, .tmp q]) (tmps : Array Value) (w : World) (g : Nat) (t : TypeId) (cs : Array Value) (fr : Nat × Nat) (d : TypeDesc)
    (hp : tmps.getD p undef = .pointer (some ⟨g, 0, none⟩)) (hg : w.heap[g]? = some (.cells cs t fr))
    (hu : P.underlying ty = some d) (hd : (match d with | .struct _ | .array _ _ => true | _ => false) = true) (hi : (P.info? ty).map (·.size) = some cs.size) :
    (results fn tmps).run P w = .ok (.tuple #[.agg cs, tmps.getD q undef]) w := by
  have hp' : tmps[p]?.getD undef = .pointer (some ⟨g, 0, none⟩) := by simpa using hp
  simp [results, h, hp', asAddr, run_loadVar_row w g t ty cs fr d hg hu hd hi]
theorem TokAt.set4 {w : World} {b : Nat} {t : Tok} (h : TokAt w b t) (a0 a1 a2 a3 : Value) : ((((w.setCell ⟨b, 0, none⟩ a0).setCell ⟨b, 1, none⟩ a1).setCell ⟨b, 2, none⟩ a2).setCell ⟨b, 3, none⟩ a3).heap[b]? = some (.cells #[a0, a1, a2, a3] 79 (0, 0)) := by
  unfold TokAt tokA at h
  have h1 := heap_setCell_same w b 0 _ _ a0 h
  have h2 := heap_setCell_same _ b 1 _ _ a1 h1
  have h3 := heap_setCell_same _ b 2 _ _ a2 h2
  have h4 := heap_setCell_same _ b 3 _ _ a3 h3
  exact h4
theorem set4B {w0 w : World} (h : Below w0.heap.size w0 w) (a0 a1 a2 a3 : Value) : Below w0.heap.size w0 ((((w.setCell ⟨w0.heap.size, 0, none⟩ a0).setCell ⟨w0.heap.size, 1, none⟩ a1).setCell ⟨w0.heap.size, 2, none⟩ a2).setCell ⟨w0.heap.size, 3, none⟩ a3) :=
  gset (gset (gset (gset h (Nat.le_refl _) _) (Nat.le_refl _) _) (Nat.le_refl _) _) (Nat.le_refl _) _
theorem infoTok : (Tryd.prog.info? 79).map (·.size) = some 4 := by kernel_rfl
/-- What the method word answers. -/
def wordT (s : ByteArray) (bg pos : Nat) : Tok × Int := if 16 < (s.extract bg pos).size then (noTok, 33) else (⟨wordI (s.extract bg pos), if wordI (s.extract bg pos) = 1 then s.extract bg pos else ⟨#[]⟩, 0, bg⟩, 0)

set_option maxRecDepth 100000 in
set_option maxHeartbeats 4000000 in
theorem mword_any (b : Nat) (s : ByteArray) (bg pos : Nat) (tk : Value) (w : World) (M : Mach w b s bg pos tk) (hp : pos ≤ s.size) (hb : bg ≤ pos) (hs : s.size ≤ 8192) (K : KwAt w) :
    Calls Tryd.prog 39 #[.pointer (some ⟨b, 0, none⟩)] w fun e w' => e = .returned (.tuple #[.agg (tokA (wordT s bg pos).1), .int .i64 (wordT s bg pos).2]) ∧ Below w.heap.size w w' := by
  obtain ⟨z, hz⟩ : ∃ z, z = wordT s bg pos := ⟨_, rfl⟩
  rw [← hz]
  have HZ : Hid (z = wordT s bg pos) := hz
  clear hz
  have i0 : (pos : Int) ≤ (s.size : Int) := by omega
  have i1 : (bg : Int) ≤ (pos : Int) := by omega
  have B := galloc (Below.refl w.heap.size w) (.cells (tokA noTok) 79)
  have R := TokAt.new w noTok
  go_enter Tryd.func39, Tryd.ntmps39
  go_upto_region 1 with fail
  replace M := M.keep B
  replace K := K.keep B
  generalize hV : w.alloc (.cells (tokA noTok) 79) = V at B R M K
  rw [show w.alloc (.cells #[.int .i64 0, .string ⟨#[]⟩, .int .i64 0, .int .i64 0] 79) = V from hV]
  clear hV
  have p0 := fun z : Ext V => (z.cell _ _ M.lt).trans M.at.1
  have p1 := fun z : Ext V => (z.cell _ _ M.lt).trans M.at.2.1
  have p2 := fun z : Ext V => (z.cell _ _ M.lt).trans M.at.2.2.1
  have p3 := fun z : Ext V => (z.cell _ _ M.lt).trans M.at.2.2.2
  have hne : Nonempty (Ext V) := ⟨⟨_, Below.refl _ _⟩⟩
  refine wp_region_ext (by kernel_rfl) (by kernel_rfl) ?_
  repeat (go_big_quiet_step (fail))
  refine wpQuiet_nil ?_
  intro _ hw'
  obtain ⟨nxw, hw''⟩ := hw'
  subst hw''
  replace M := M.keep nxw.h
  replace K := K.keep nxw.h
  replace R := R.keep nxw.h
  have hB := gtrans B nxw.h
  generalize nxw.X = X at M K R hB ⊢
  clear hne p0 p1 p2 p3 nxw
  obtain ⟨x, hx⟩ : ∃ x, x = s.extract bg pos := ⟨_, rfl⟩
  rw [← hx]
  have HZ2 : Hid (z = if 16 < x.size then (noTok, 33) else (⟨wordI x, if wordI x = 1 then x else ⟨#[]⟩, 0, bg⟩, 0)) := by show _ = _; rw [HZ.out, hx]; rfl
  have hxs : x.size ≤ 8192 := by rw [hx, ByteArray.size_extract]; omega
  clear hx HZ
  by_cases h16 : 16 < x.size
  · have hz : z = (noTok, 33) := by rw [HZ2.out, if_pos h16]
    subst hz
    have i3 : (16 : Int) < (x.size : Int) := by omega
    obtain ⟨r0, r1, r2, r3⟩ := R.at
    have rf := R.free
    go_wp2
    (try simp only [Exit.inBlock, Exit.then])
    refine bodyPost_ret (results_row_tmp rfl _ _ w.heap.size 79 (tokA noTok) (0, 0) _ rfl (R.set4 _ _ _ _) Tryd.underlying79 rfl infoTok) rfl ⟨rfl, set4B hB _ _ _ _⟩
  · have hz : z = (⟨wordI x, if wordI x = 1 then x else ⟨#[]⟩, 0, bg⟩, 0) := by rw [HZ2.out, if_neg h16]
    have i3 : ¬ (16 : Int) < (x.size : Int) := by omega
    have c := word_any x (by omega) X K
    generalize wordI x = k at c hz
    have HZ3 : Hid (z = (⟨k, if k = 1 then x else ⟨#[]⟩, 0, bg⟩, 0)) := hz
    clear hz HZ2
    cases hk : (k == 1)
    · have hz : z = (⟨k, ⟨#[]⟩, 0, bg⟩, 0) := by rw [HZ3.out, if_neg (by simpa using hk)]
      subst hz
      go_wp2_with (
        (go_at_call 63; with_reducible refine c.mono ?_; rintro e u ⟨rfl, g⟩; have m1 := (M.keep g).at.2.1; have R2 := R.keep g; obtain ⟨r0, r1, r2, r3⟩ := R2.at; have rf := R2.free))
      (try simp only [Exit.inBlock, Exit.then])
      refine bodyPost_ret (results_row_tmp rfl _ _ w.heap.size 79 (tokA ⟨k, ⟨#[]⟩, 0, bg⟩) (0, 0) _ rfl (R2.set4 _ _ _ _) Tryd.underlying79 rfl infoTok) rfl ⟨rfl, set4B (gtrans hB g) _ _ _ _⟩
    · have hz : z = (⟨k, x, 0, bg⟩, 0) := by rw [HZ3.out, if_pos (by simpa using hk)]
      subst hz
      go_wp2_with (
        (go_at_call 63; with_reducible refine c.mono ?_; rintro e u ⟨rfl, g⟩; have m1 := (M.keep g).at.2.1; have R2 := R.keep g; obtain ⟨r0, r1, r2, r3⟩ := R2.at; have rf := R2.free))
      (try simp only [Exit.inBlock, Exit.then])
      refine bodyPost_ret (results_row_tmp rfl _ _ w.heap.size 79 (tokA ⟨k, x, 0, bg⟩) (0, 0) _ rfl (R2.set4 _ _ _ _) Tryd.underlying79 rfl infoTok) rfl ⟨rfl, set4B (gtrans hB g) _ _ _ _⟩

end Go.Proofs.YtmoimmghmmomlaaDoor
