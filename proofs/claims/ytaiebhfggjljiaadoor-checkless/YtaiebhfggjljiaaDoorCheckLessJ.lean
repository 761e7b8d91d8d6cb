/- The law CheckLess: what is well formed stays so without WHERE, without PARTITION BY, without the last result, with a smaller window. For every schema, every query and every window the law CheckLess returns true: what is well formed stays so without WHERE, without PARTITION BY, without its last result, with a smaller window. The listed variables hold what their texts lay (the card ties that to the text). No other condition. -/
import Derived.Test.YtaiebhfggjljiaaDoorCkn
import Derived.Test.YtaiebhfggjljiaaDoorOpenS
import Derived.Test.YtaiebhfggjljiaaDoorCards
import Derived.Test.YtaiebhfggjljiaaDoorTie
import Derived.Carry
import Derived.ChangeMaps5
import Derived.SizedLaws
import Derived.Lib.SmallJoins
import Derived.Deep.DeepHandedRow
import Derived.Lay
namespace Go.Proofs.YtaiebhfggjljiaaDoor
open Go.RowKit Go.BigFrame
set_option linter.unusedVariables false
set_option linter.unusedSimpArgs false

/-- Four queries of one's own. -/
structure LsR (qc : Array Value) (X wx : World) (s8 s9 s10 s11 : Value) : Prop where
  ex : ∃ b8 b9 b10 b11, s8 = .pointer (some ⟨b8, 0, none⟩) ∧ s9 = .pointer (some ⟨b9, 0, none⟩) ∧ s10 = .pointer (some ⟨b10, 0, none⟩) ∧ s11 = .pointer (some ⟨b11, 0, none⟩) ∧ (X.heap.size ≤ b8 ∧ X.heap.size ≤ b9 ∧ X.heap.size ≤ b10 ∧ X.heap.size ≤ b11) ∧ (b8 ≠ b9 ∧ b8 ≠ b10 ∧ b8 ≠ b11 ∧ b9 ≠ b10 ∧ b9 ≠ b11 ∧ b10 ≠ b11) ∧ Bk wx b8 qc 31 ∧ Bk wx b9 qc 31 ∧ Bk wx b10 qc 31 ∧ Bk wx b11 qc 31 ∧ Below X.heap.size X wx
theorem nss_take {w : World} {ao : Option Addr} {l : List (List Nd)} (h : IsNss w ao l) (n : Nat) : IsNss w ao (l.take n) := fun i hi => by
  simp only [List.length_take] at hi
  have e : (l.take n).getD i [] = l.getD i [] := by simp [List.getD, List.getElem?_take, show i < n by omega]
  rw [e]
  exact h i (by omega)
theorem take_fit {q : Qy} (h : q.fit) (n : Nat) : ({ q with ret := q.ret.take n } : Qy).fit := ⟨h.n, h.its, h.mode, h.after, h.within, h.by_, h.wh, by have := h.r; simp only [List.length_take]; omega, fun k => by
  by_cases hk : k < n
  · have e : (q.ret.take n).getD k [] = q.ret.getD k [] := by simp [List.getD, List.getElem?_take, hk]
    show ndsFit ((q.ret.take n).getD k [])
    rw [e]; exact h.ret k
  · have e : (q.ret.take n).getD k [] = [] := by rw [List.getD_eq_getElem?_getD, List.getElem?_eq_none (by simp; omega)]; rfl
    show ndsFit ((q.ret.take n).getD k [])
    rw [e]; exact ⟨by simp, fun j => by simp; exact noNd_fit⟩⟩

set_option maxRecDepth 100000 in
set_option maxHeartbeats 32000000 in
theorem checkLess_walk (L : List Ty) (sa : Option Addr) (sc : Nat) (hsc : L.length ≤ sc) (q : Qy) (hq : q.fit) (cs : Array Value) (ai : Option Addr) (ci : Nat) (aw : Option Addr) (cw : Nat) (ar : Option Addr) (cr : Nat) (x : Int) (w : World) (K : KwAt w) (A : IsTypes w sa L.length L) (IQ : IsQ w q cs ai ci aw cw ar cr) :
    Calls Tryd.prog 3 #[.agg #[.slice sa L.length sc], .agg cs, .int .i64 x] w fun e w' => e = .returned (.bool true) ∧ Below w.heap.size w w' := by
  have hcs := IQ.eq
  subst hcs
  have hrl := hq.r
  have hsr := IQ.sr.1
  have S0 := (Bk.new w #[.slice sa L.length sc] 24).alloc (.cells #[.slice ai q.items.length ci, .int .i64 q.mode, .int .i64 q.after, .slice aw q.wh.length cw, .int .i64 q.within, .string q.by_, .slice ar q.ret.length cr] 31)
  have Q0 := Bk.newE (w := w.alloc (.cells #[.slice sa L.length sc] 24)) (g := w.heap.size + 1) (by simp) #[.slice ai q.items.length ci, .int .i64 q.mode, .int .i64 q.after, .slice aw q.wh.length cw, .int .i64 q.within, .string q.by_, .slice ar q.ret.length cr] 31
  have B0 := galloc (galloc (Below.refl w.heap.size w) (.cells #[.slice sa L.length sc] 24)) (.cells #[.slice ai q.items.length ci, .int .i64 q.mode, .int .i64 q.after, .slice aw q.wh.length cw, .int .i64 q.within, .string q.by_, .slice ar q.ret.length cr] 31)
  obtain ⟨⟨z, zp, zi, zs⟩, hfl⟩ : ∃ f, chkE L q = f := ⟨_, rfl⟩
  have ca := fun Y (G : Below w.heap.size w Y) => alive_any Y (K.keep G)
  have cb := fun Y (G : Below w.heap.size w Y) => qBeyond_any q hq _ ai ci aw cw ar cr Y (IQ.keep G)
  have cc := fun Y (G : Below w.heap.size w Y) => check_any L q hq sa sc _ ai ci aw cw ar cr Y (K.keep G) (A.keep G) hsc (IQ.keep G)
  rw [hfl] at cc
  dsimp only [flV] at cc
  go_enter Tryd.func3, Tryd.ntmps3
  go_upto_region 1 with fail
  generalize (w.alloc (.cells #[.slice sa L.length sc] 24)).alloc (.cells #[.slice ai q.items.length ci, .int .i64 q.mode, .int .i64 q.after, .slice aw q.wh.length cw, .int .i64 q.within, .string q.by_, .slice ar q.ret.length cr] 31) = V at *
  have ARMS0 : True := trivial
  by_cases hz : z = 0
  rotate_left
  · have d : (z != 0) = true := by simpa using hz
    go_wp2_with (first
      | (go_at_call 4; (with_reducible refine (ca _ B0).mono ?_); rintro _ u1 ⟨rfl, g1⟩; have B1 := gtrans B0 g1; obtain ⟨p0, p1, p2, p3, p4, p5, p6⟩ := (Q0.keep g1).at7)
      | (go_at_call 5; (with_reducible refine (cb _ B1).mono ?_); rintro _ u2 ⟨bb, rfl, g2⟩; have B2 := gtrans B1 g2; obtain ⟨r0, r1, r2, r3, r4, r5, r6⟩ := (Q0.keep (gtrans g1 g2)).at7; have s0 : u2.cell? ⟨w.heap.size, 0, none⟩ = some (.slice sa L.length sc) := cell_of_row u2 _ 0 _ _ _ (S0.keep (gtrans g1 g2)); cases bb)
      | (go_at_call 6; (with_reducible refine (cc _ B2).mono ?_); rintro _ u3 ⟨rfl, g3⟩))
    · go_ret
      exact ⟨rfl, galloc (gtrans B2 g3) _⟩
    · go_ret
      exact ⟨rfl, B2⟩
  subst hz
  go_upto_region 8 with (first
    | (go_at_call 4; (with_reducible refine (ca _ B0).mono ?_); rintro _ u1 ⟨rfl, g1⟩; have B1 := gtrans B0 g1; obtain ⟨p0, p1, p2, p3, p4, p5, p6⟩ := (Q0.keep g1).at7)
    | (go_at_call 5; (with_reducible refine (cb _ B1).mono ?_); rintro _ u2 ⟨bb, rfl, g2⟩; have B2 := gtrans B1 g2; obtain ⟨r0, r1, r2, r3, r4, r5, r6⟩ := (Q0.keep (gtrans g1 g2)).at7; have s0 : u2.cell? ⟨w.heap.size, 0, none⟩ = some (.slice sa L.length sc) := cell_of_row u2 _ 0 _ _ _ (S0.keep (gtrans g1 g2)); cases bb)
    | (go_at_call 6; (with_reducible refine (cc _ B2).mono ?_); rintro _ u3 ⟨rfl, g3⟩))
  rotate_left
  · go_ret
    exact ⟨rfl, B2⟩
  have gX := galloc (gtrans (gtrans g1 g2) g3) (.cells #[.int .i64 0, .int .i64 zp, .int .i64 zi, .int .i64 zs] 37)
  have S1 := S0.keep gX
  have Q1 := Q0.keep gX
  have B3 := gtrans B0 gX
  clear S0 Q0 B0 B1 B2 g1 g2 g3 gX p0 p1 p2 p3 p4 p5 p6 r0 r1 r2 r3 r4 r5 r6 s0 ca cb cc
  generalize u3.alloc (.cells #[.int .i64 0, .int .i64 zp, .int .i64 zi, .int .i64 zs] 37) = X at *
  have hXl : w.heap.size + 1 < X.heap.size := Q1.lt
  have hSn : ∀ Y, Below X.heap.size X Y → Y.cell? ⟨w.heap.size + 1, 0, none⟩ = some (.slice ai q.items.length ci) ∧ Y.cell? ⟨w.heap.size + 1, 1, none⟩ = some (.int .i64 q.mode) ∧ Y.cell? ⟨w.heap.size + 1, 2, none⟩ = some (.int .i64 q.after) ∧ Y.cell? ⟨w.heap.size + 1, 3, none⟩ = some (.slice aw q.wh.length cw) ∧ Y.cell? ⟨w.heap.size + 1, 4, none⟩ = some (.int .i64 q.within) ∧ Y.cell? ⟨w.heap.size + 1, 5, none⟩ = some (.string q.by_) ∧ Y.cell? ⟨w.heap.size + 1, 6, none⟩ = some (.slice ar q.ret.length cr) := fun Y G => (Q1.keep G).at7
  have k0 : Bk ((((X.alloc (.cells #[.slice ai q.items.length ci, .int .i64 q.mode, .int .i64 q.after, .slice aw q.wh.length cw, .int .i64 q.within, .string q.by_, .slice ar q.ret.length cr] 31)).alloc (.cells #[.slice ai q.items.length ci, .int .i64 q.mode, .int .i64 q.after, .slice aw q.wh.length cw, .int .i64 q.within, .string q.by_, .slice ar q.ret.length cr] 31)).alloc (.cells #[.slice ai q.items.length ci, .int .i64 q.mode, .int .i64 q.after, .slice aw q.wh.length cw, .int .i64 q.within, .string q.by_, .slice ar q.ret.length cr] 31)).alloc (.cells #[.slice ai q.items.length ci, .int .i64 q.mode, .int .i64 q.after, .slice aw q.wh.length cw, .int .i64 q.within, .string q.by_, .slice ar q.ret.length cr] 31)) X.heap.size #[.slice ai q.items.length ci, .int .i64 q.mode, .int .i64 q.after, .slice aw q.wh.length cw, .int .i64 q.within, .string q.by_, .slice ar q.ret.length cr] 31 := (((Bk.new X #[.slice ai q.items.length ci, .int .i64 q.mode, .int .i64 q.after, .slice aw q.wh.length cw, .int .i64 q.within, .string q.by_, .slice ar q.ret.length cr] 31).alloc _).alloc _).alloc _
  have k1 : Bk ((((X.alloc (.cells #[.slice ai q.items.length ci, .int .i64 q.mode, .int .i64 q.after, .slice aw q.wh.length cw, .int .i64 q.within, .string q.by_, .slice ar q.ret.length cr] 31)).alloc (.cells #[.slice ai q.items.length ci, .int .i64 q.mode, .int .i64 q.after, .slice aw q.wh.length cw, .int .i64 q.within, .string q.by_, .slice ar q.ret.length cr] 31)).alloc (.cells #[.slice ai q.items.length ci, .int .i64 q.mode, .int .i64 q.after, .slice aw q.wh.length cw, .int .i64 q.within, .string q.by_, .slice ar q.ret.length cr] 31)).alloc (.cells #[.slice ai q.items.length ci, .int .i64 q.mode, .int .i64 q.after, .slice aw q.wh.length cw, .int .i64 q.within, .string q.by_, .slice ar q.ret.length cr] 31)) (X.heap.size + 1) #[.slice ai q.items.length ci, .int .i64 q.mode, .int .i64 q.after, .slice aw q.wh.length cw, .int .i64 q.within, .string q.by_, .slice ar q.ret.length cr] 31 := ((Bk.newE (w := X.alloc (.cells #[.slice ai q.items.length ci, .int .i64 q.mode, .int .i64 q.after, .slice aw q.wh.length cw, .int .i64 q.within, .string q.by_, .slice ar q.ret.length cr] 31)) (by simp) #[.slice ai q.items.length ci, .int .i64 q.mode, .int .i64 q.after, .slice aw q.wh.length cw, .int .i64 q.within, .string q.by_, .slice ar q.ret.length cr] 31).alloc _).alloc _
  have k2 : Bk ((((X.alloc (.cells #[.slice ai q.items.length ci, .int .i64 q.mode, .int .i64 q.after, .slice aw q.wh.length cw, .int .i64 q.within, .string q.by_, .slice ar q.ret.length cr] 31)).alloc (.cells #[.slice ai q.items.length ci, .int .i64 q.mode, .int .i64 q.after, .slice aw q.wh.length cw, .int .i64 q.within, .string q.by_, .slice ar q.ret.length cr] 31)).alloc (.cells #[.slice ai q.items.length ci, .int .i64 q.mode, .int .i64 q.after, .slice aw q.wh.length cw, .int .i64 q.within, .string q.by_, .slice ar q.ret.length cr] 31)).alloc (.cells #[.slice ai q.items.length ci, .int .i64 q.mode, .int .i64 q.after, .slice aw q.wh.length cw, .int .i64 q.within, .string q.by_, .slice ar q.ret.length cr] 31)) (X.heap.size + 1 + 1) #[.slice ai q.items.length ci, .int .i64 q.mode, .int .i64 q.after, .slice aw q.wh.length cw, .int .i64 q.within, .string q.by_, .slice ar q.ret.length cr] 31 := (Bk.newE (w := (X.alloc (.cells #[.slice ai q.items.length ci, .int .i64 q.mode, .int .i64 q.after, .slice aw q.wh.length cw, .int .i64 q.within, .string q.by_, .slice ar q.ret.length cr] 31)).alloc (.cells #[.slice ai q.items.length ci, .int .i64 q.mode, .int .i64 q.after, .slice aw q.wh.length cw, .int .i64 q.within, .string q.by_, .slice ar q.ret.length cr] 31)) (by simp) #[.slice ai q.items.length ci, .int .i64 q.mode, .int .i64 q.after, .slice aw q.wh.length cw, .int .i64 q.within, .string q.by_, .slice ar q.ret.length cr] 31).alloc _
  have k3 : Bk ((((X.alloc (.cells #[.slice ai q.items.length ci, .int .i64 q.mode, .int .i64 q.after, .slice aw q.wh.length cw, .int .i64 q.within, .string q.by_, .slice ar q.ret.length cr] 31)).alloc (.cells #[.slice ai q.items.length ci, .int .i64 q.mode, .int .i64 q.after, .slice aw q.wh.length cw, .int .i64 q.within, .string q.by_, .slice ar q.ret.length cr] 31)).alloc (.cells #[.slice ai q.items.length ci, .int .i64 q.mode, .int .i64 q.after, .slice aw q.wh.length cw, .int .i64 q.within, .string q.by_, .slice ar q.ret.length cr] 31)).alloc (.cells #[.slice ai q.items.length ci, .int .i64 q.mode, .int .i64 q.after, .slice aw q.wh.length cw, .int .i64 q.within, .string q.by_, .slice ar q.ret.length cr] 31)) (X.heap.size + 1 + 1 + 1) #[.slice ai q.items.length ci, .int .i64 q.mode, .int .i64 q.after, .slice aw q.wh.length cw, .int .i64 q.within, .string q.by_, .slice ar q.ret.length cr] 31 := Bk.newE (w := ((X.alloc (.cells #[.slice ai q.items.length ci, .int .i64 q.mode, .int .i64 q.after, .slice aw q.wh.length cw, .int .i64 q.within, .string q.by_, .slice ar q.ret.length cr] 31)).alloc (.cells #[.slice ai q.items.length ci, .int .i64 q.mode, .int .i64 q.after, .slice aw q.wh.length cw, .int .i64 q.within, .string q.by_, .slice ar q.ret.length cr] 31)).alloc (.cells #[.slice ai q.items.length ci, .int .i64 q.mode, .int .i64 q.after, .slice aw q.wh.length cw, .int .i64 q.within, .string q.by_, .slice ar q.ret.length cr] 31)) (by simp) #[.slice ai q.items.length ci, .int .i64 q.mode, .int .i64 q.after, .slice aw q.wh.length cw, .int .i64 q.within, .string q.by_, .slice ar q.ret.length cr] 31
  have kb : Below X.heap.size X ((((X.alloc (.cells #[.slice ai q.items.length ci, .int .i64 q.mode, .int .i64 q.after, .slice aw q.wh.length cw, .int .i64 q.within, .string q.by_, .slice ar q.ret.length cr] 31)).alloc (.cells #[.slice ai q.items.length ci, .int .i64 q.mode, .int .i64 q.after, .slice aw q.wh.length cw, .int .i64 q.within, .string q.by_, .slice ar q.ret.length cr] 31)).alloc (.cells #[.slice ai q.items.length ci, .int .i64 q.mode, .int .i64 q.after, .slice aw q.wh.length cw, .int .i64 q.within, .string q.by_, .slice ar q.ret.length cr] 31)).alloc (.cells #[.slice ai q.items.length ci, .int .i64 q.mode, .int .i64 q.after, .slice aw q.wh.length cw, .int .i64 q.within, .string q.by_, .slice ar q.ret.length cr] 31)) := galloc (galloc (galloc (galloc (Below.refl _ _) _) _) _) _
  go_cut [8, 9, 10, 11] from 26 to 30 (fun s8 s9 s10 s11 wx => LsR #[.slice ai q.items.length ci, .int .i64 q.mode, .int .i64 q.after, .slice aw q.wh.length cw, .int .i64 q.within, .string q.by_, .slice ar q.ret.length cr] X wx s8 s9 s10 s11)
  case first =>
    go_region_held3 (fun Y : World => Y.cell? ⟨w.heap.size + 1, 0, none⟩ = some (.slice ai q.items.length ci) ∧ Y.cell? ⟨w.heap.size + 1, 1, none⟩ = some (.int .i64 q.mode) ∧ Y.cell? ⟨w.heap.size + 1, 2, none⟩ = some (.int .i64 q.after) ∧ Y.cell? ⟨w.heap.size + 1, 3, none⟩ = some (.slice aw q.wh.length cw) ∧ Y.cell? ⟨w.heap.size + 1, 4, none⟩ = some (.int .i64 q.within) ∧ Y.cell? ⟨w.heap.size + 1, 5, none⟩ = some (.string q.by_) ∧ Y.cell? ⟨w.heap.size + 1, 6, none⟩ = some (.slice ar q.ret.length cr)) (first | (with_reducible exact hSn _ ((Below.refl _ _)).drew) | (with_reducible exact hSn _ (Below.refl _ _)) | (with_reducible exact hSn _ ((galloc (Below.refl _ _) _)).drew) | (with_reducible exact hSn _ (galloc (Below.refl _ _) _)) | (with_reducible exact hSn _ ((galloc (galloc (Below.refl _ _) _) _)).drew) | (with_reducible exact hSn _ (galloc (galloc (Below.refl _ _) _) _)) | (with_reducible exact hSn _ ((galloc (galloc (galloc (Below.refl _ _) _) _) _)).drew) | (with_reducible exact hSn _ (galloc (galloc (galloc (Below.refl _ _) _) _) _)) | (with_reducible exact hSn _ ((galloc (galloc (galloc (galloc (Below.refl _ _) _) _) _) _)).drew) | (with_reducible exact hSn _ (galloc (galloc (galloc (galloc (Below.refl _ _) _) _) _) _)) | go_keep) (fail)
    all_goals
      go_wp2
      go_meet
      case rel => exact ⟨⟨_, _, _, _, rfl, rfl, rfl, rfl, ⟨by omega, by omega, by omega, by omega⟩, ⟨by omega, by omega, by omega, by omega, by omega, by omega⟩, by first | exact k0 | exact k1 | exact k2 | exact k3, by first | exact k0 | exact k1 | exact k2 | exact k3, by first | exact k0 | exact k1 | exact k2 | exact k3, by first | exact k0 | exact k1 | exact k2 | exact k3, by first | exact kb | exact kb.drew⟩⟩
  case rest =>
    obtain ⟨⟨b8, b9, b10, b11, rfl, rfl, rfl, rfl, ⟨l8, l9, l10, l11⟩, ⟨n1, n2, n3, n4, n5, n6⟩, C8, C9, C10, C11, GQ⟩⟩ := hcut
    have S2 := S1.keep GQ
    have Q2 := Q1.keep GQ
    have B4 := gtrans B3 GQ
    have lw : w.heap.size ≤ X.heap.size := by omega
    clear hSn k0 k1 k2 k3 kb S1 Q1 GQ
    obtain ⟨a80, a81, a82, a83, a84, a85, a86⟩ := C8.at7
    obtain ⟨a90, a91, a92, a93, a94, a95, a96⟩ := C9.at7
    obtain ⟨d0, d1, d2, d3, d4, d5, d6⟩ := C10.at7
    obtain ⟨e0, e1, e2, e3, e4, e5, e6⟩ := C11.at7
    obtain ⟨p0, p1, p2, p3, p4, p5, p6⟩ := Q2.at7
    have fr8 := C8.free
    have fr9 := C9.free
    have fr10 := C10.free
    have fr11 := C11.free
    have D8 := (C8.set 3 (.slice none 0 0)).other (b' := b9) (fun h => n1 h.symm) 5 (.string ⟨#[]⟩)
    have D9 := (C9.other (b' := b8) n1 3 (.slice none 0 0)).set 5 (.string ⟨#[]⟩)
    have D10 := (C10.other (b' := b8) n2 3 (.slice none 0 0)).other (b' := b9) n4 5 (.string ⟨#[]⟩)
    have D11 := (C11.other (b' := b8) n3 3 (.slice none 0 0)).other (b' := b9) n5 5 (.string ⟨#[]⟩)
    have S3 := (S2.other (b' := b8) (by omega) 3 (.slice none 0 0)).other (b' := b9) (by omega) 5 (.string ⟨#[]⟩)
    have B5 := gset (gset B4 (p := ⟨b8, 3, none⟩) (show _ ≤ b8 by omega) (.slice none 0 0)) (p := ⟨b9, 5, none⟩) (show _ ≤ b9 by omega) (.string ⟨#[]⟩)
    have h0 : (chkE L q).code = 0 := by rw [hfl]
    clear C8 C9 C10 C11 S2
    by_cases hr : 0 < q.ret.length
    · have hri : (0 : Int) < (q.ret.length : Int) := by omega
      obtain ⟨gr, ro, _, _, rfl, _⟩ := IQ.ret 0 hr
      have hle : (q.ret.length : Int) - 1 ≤ (cr : Int) := by omega
      have hge : 0 ≤ (q.ret.length : Int) - 1 := by omega
      have hc0 : ¬ cr = 0 := by omega
      have hwr : IntKind.i64.wrap ((q.ret.length : Int) - 1) = (q.ret.length : Int) - 1 := by rw [IntKind.wrap_i64]; omega
      have E8 := D8.other (b' := b10) (fun h => n2 h.symm) 6 (.slice (some ⟨gr, ro, none⟩) (q.ret.length - 1) cr)
      have E9 := D9.other (b' := b10) (fun h => n4 h.symm) 6 (.slice (some ⟨gr, ro, none⟩) (q.ret.length - 1) cr)
      have E10 := D10.set 6 (.slice (some ⟨gr, ro, none⟩) (q.ret.length - 1) cr)
      have E11 := D11.other (b' := b10) n6 6 (.slice (some ⟨gr, ro, none⟩) (q.ret.length - 1) cr)
      have S4 := S3.other (b' := b10) (by omega) 6 (.slice (some ⟨gr, ro, none⟩) (q.ret.length - 1) cr)
      have B6 := gset B5 (p := ⟨b10, 6, none⟩) (show _ ≤ b10 by omega) (.slice (some ⟨gr, ro, none⟩) (q.ret.length - 1) cr)
      by_cases hx0 : 0 ≤ x
      · by_cases hxw : x < q.within
        · have G8 := E8.other (b' := b11) (fun h => n3 h.symm) 4 (.int .i64 x)
          have G9 := E9.other (b' := b11) (fun h => n5 h.symm) 4 (.int .i64 x)
          have G10 := E10.other (b' := b11) (fun h => n6 h.symm) 4 (.int .i64 x)
          have G11 := E11.set 4 (.int .i64 x)
          have S5 := S4.other (b' := b11) (by omega) 4 (.int .i64 x)
          have B7 := gset B6 (p := ⟨b11, 4, none⟩) (show _ ≤ b11 by omega) (.int .i64 x)
          go_upto_region 15 with fail
          generalize (((wc.setCell ⟨b8, 3, none⟩ (.slice none 0 0)).setCell ⟨b9, 5, none⟩ (.string ⟨#[]⟩)).setCell ⟨b10, 6, none⟩ (.slice (some ⟨gr, ro, none⟩) (q.ret.length - 1) cr)).setCell ⟨b11, 4, none⟩ (.int .i64 x) = Z at *
          obtain ⟨nn, hnn, hnl⟩ : ∃ nn, q.ret.length - 1 = nn ∧ nn ≤ q.ret.length := ⟨_, rfl, by omega⟩
          obtain ⟨yy, hyy, hyl⟩ : ∃ yy, x = yy ∧ (yy = q.within ∨ (0 ≤ yy ∧ yy < q.within)) := ⟨_, rfl, .inr ⟨hx0, hxw⟩⟩
          have J8 : Bk Z b8 #[.slice ai q.items.length ci, .int .i64 q.mode, .int .i64 q.after, .slice none 0 0, .int .i64 q.within, .string q.by_, .slice (some ⟨gr, ro, none⟩) q.ret.length cr] 31 := G8
          have J9 : Bk Z b9 #[.slice ai q.items.length ci, .int .i64 q.mode, .int .i64 q.after, .slice aw q.wh.length cw, .int .i64 q.within, .string ⟨#[]⟩, .slice (some ⟨gr, ro, none⟩) q.ret.length cr] 31 := G9
          have J10 : Bk Z b10 #[.slice ai q.items.length ci, .int .i64 q.mode, .int .i64 q.after, .slice aw q.wh.length cw, .int .i64 q.within, .string q.by_, .slice (some ⟨gr, ro, none⟩) nn cr] 31 := by rw [← hnn]; exact G10
          have J11 : Bk Z b11 #[.slice ai q.items.length ci, .int .i64 q.mode, .int .i64 q.after, .slice aw q.wh.length cw, .int .i64 yy, .string q.by_, .slice (some ⟨gr, ro, none⟩) q.ret.length cr] 31 := by rw [← hyy]; exact G11
          have JS := S5
          have JB := B7
          clear D8 D9 D10 D11 S3 B5 B4 Q2 a80 a81 a82 a83 a84 a85 a86 a90 a91 a92 a93 a94 a95 a96 d0 d1 d2 d3 d4 d5 d6 e0 e1 e2 e3 e4 e5 e6 p0 p1 p2 p3 p4 p5 p6 fr8 fr9 fr10 fr11 hnn hyy E8 E9 E10 E11 S4 B6 G8 G9 G10 G11 S5 B7
          have HC8 := less_wh L q h0
          have HC9 := less_by L q h0
          have HC10 := less_ret L q nn hnl h0
          have HC11 : (chkE L { q with within := yy }).code = 0 := by
            rcases hyl with e | ⟨e1, e2⟩
            · rw [e]; exact h0
            · exact less_win L q yy e1 e2 h0
          have hf11 : fI yy := by
            rcases hyl with e | ⟨e1, e2⟩
            · rw [e]; exact hq.within
            · have := hq.within; unfold fI at this ⊢; omega
          obtain ⟨⟨z8, p8', i8, s8⟩, hf8⟩ : ∃ f, chkE L { q with wh := [] } = f := ⟨_, rfl⟩
          obtain ⟨⟨z9, p9', i9, s9⟩, hf9⟩ : ∃ f, chkE L { q with by_ := ⟨#[]⟩ } = f := ⟨_, rfl⟩
          obtain ⟨⟨z10, p10', i10, s10⟩, hf10⟩ : ∃ f, chkE L { q with ret := q.ret.take nn } = f := ⟨_, rfl⟩
          obtain ⟨⟨z11, p11', i11, s11⟩, hf11'⟩ : ∃ f, chkE L { q with within := yy } = f := ⟨_, rfl⟩
          rw [hf8] at HC8
          rw [hf9] at HC9
          rw [hf10] at HC10
          rw [hf11'] at HC11
          dsimp only at HC8 HC9 HC10 HC11
          subst HC8 HC9 HC10 HC11
          have IZ := fun Y (G : Below Z.heap.size Z Y) => IQ.keep (gtrans JB G)
          have ck8 : ∀ Y, Below Z.heap.size Z Y → Calls Tryd.prog 6 #[.agg #[.slice sa L.length sc], .agg #[.slice ai q.items.length ci, .int .i64 q.mode, .int .i64 q.after, .slice none 0 0, .int .i64 q.within, .string q.by_, .slice (some ⟨gr, ro, none⟩) q.ret.length cr]] Y fun e w' => e = .returned (.agg #[.int .i64 0, .int .i64 p8', .int .i64 i8, .int .i64 s8]) ∧ Below Y.heap.size Y w' := fun Y G => by
            have h := check_any L { q with wh := [] } ⟨hq.n, hq.its, hq.mode, hq.after, hq.within, hq.by_, ⟨by simp, fun k => by simp; exact noNd_fit⟩, hq.r, hq.ret⟩ sa sc _ ai ci none 0 (some ⟨gr, ro, none⟩) cr Y (K.keep (gtrans JB G)) (A.keep (gtrans JB G)) hsc ⟨rfl, (IZ Y G).its, fun i hi => absurd hi (Nat.not_lt_zero _), (IZ Y G).ret, IQ.si, ⟨Nat.le_refl _, fun _ => ⟨rfl, rfl⟩⟩, IQ.sr⟩
            rw [hf8] at h
            exact h
          have ck9 : ∀ Y, Below Z.heap.size Z Y → Calls Tryd.prog 6 #[.agg #[.slice sa L.length sc], .agg #[.slice ai q.items.length ci, .int .i64 q.mode, .int .i64 q.after, .slice aw q.wh.length cw, .int .i64 q.within, .string ⟨#[]⟩, .slice (some ⟨gr, ro, none⟩) q.ret.length cr]] Y fun e w' => e = .returned (.agg #[.int .i64 0, .int .i64 p9', .int .i64 i9, .int .i64 s9]) ∧ Below Y.heap.size Y w' := fun Y G => by
            have h := check_any L { q with by_ := ⟨#[]⟩ } ⟨hq.n, hq.its, hq.mode, hq.after, hq.within, by show (0 : Nat) ≤ 140737488351232; omega, hq.wh, hq.r, hq.ret⟩ sa sc _ ai ci aw cw (some ⟨gr, ro, none⟩) cr Y (K.keep (gtrans JB G)) (A.keep (gtrans JB G)) hsc ⟨rfl, (IZ Y G).its, (IZ Y G).wh, (IZ Y G).ret, IQ.si, IQ.sw, IQ.sr⟩
            rw [hf9] at h
            exact h
          have ck10 : ∀ Y, Below Z.heap.size Z Y → Calls Tryd.prog 6 #[.agg #[.slice sa L.length sc], .agg #[.slice ai q.items.length ci, .int .i64 q.mode, .int .i64 q.after, .slice aw q.wh.length cw, .int .i64 q.within, .string q.by_, .slice (some ⟨gr, ro, none⟩) nn cr]] Y fun e w' => e = .returned (.agg #[.int .i64 0, .int .i64 p10', .int .i64 i10, .int .i64 s10]) ∧ Below Y.heap.size Y w' := fun Y G => by
            have hl : (q.ret.take nn).length = nn := by rw [List.length_take]; omega
            have h := check_any L { q with ret := q.ret.take nn } (take_fit hq nn) sa sc #[.slice ai q.items.length ci, .int .i64 q.mode, .int .i64 q.after, .slice aw q.wh.length cw, .int .i64 q.within, .string q.by_, .slice (some ⟨gr, ro, none⟩) nn cr] ai ci aw cw (some ⟨gr, ro, none⟩) cr Y (K.keep (gtrans JB G)) (A.keep (gtrans JB G)) hsc ⟨by show _ = _; dsimp only; rw [hl], (IZ Y G).its, (IZ Y G).wh, nss_take (IZ Y G).ret nn, IQ.si, IQ.sw, ⟨by show (q.ret.take nn).length ≤ cr; rw [hl]; omega, fun e => ⟨by have := (IQ.sr.2 e).1; show (q.ret.take nn).length = 0; rw [hl]; omega, (IQ.sr.2 e).2⟩⟩⟩
            rw [hf10] at h
            exact h
          have ck11 : ∀ Y, Below Z.heap.size Z Y → Calls Tryd.prog 6 #[.agg #[.slice sa L.length sc], .agg #[.slice ai q.items.length ci, .int .i64 q.mode, .int .i64 q.after, .slice aw q.wh.length cw, .int .i64 yy, .string q.by_, .slice (some ⟨gr, ro, none⟩) q.ret.length cr]] Y fun e w' => e = .returned (.agg #[.int .i64 0, .int .i64 p11', .int .i64 i11, .int .i64 s11]) ∧ Below Y.heap.size Y w' := fun Y G => by
            have h := check_any L { q with within := yy } ⟨hq.n, hq.its, hq.mode, hq.after, hf11, hq.by_, hq.wh, hq.r, hq.ret⟩ sa sc _ ai ci aw cw (some ⟨gr, ro, none⟩) cr Y (K.keep (gtrans JB G)) (A.keep (gtrans JB G)) hsc ⟨rfl, (IZ Y G).its, (IZ Y G).wh, (IZ Y G).ret, IQ.si, IQ.sw, IQ.sr⟩
            rw [hf11'] at h
            exact h
          obtain ⟨s0⟩ : PLift (Z.cell? ⟨w.heap.size, 0, none⟩ = some (.slice sa L.length sc)) := ⟨cell_of_row Z _ 0 _ _ _ JS⟩
          obtain ⟨a0, a1, a2, a3, a4, a5, a6⟩ := J8.at7
          go_wp2_with (first
            | (go_at_call 6; (with_reducible refine (ck8 _ (Below.refl _ _)).mono ?_); rintro _ v1 ⟨rfl, g1⟩; have H1 := galloc g1 (.cells #[.int .i64 0, .int .i64 p8', .int .i64 i8, .int .i64 s8] 37); have K8 := Bk.new v1 #[.int .i64 0, .int .i64 p8', .int .i64 i8, .int .i64 s8] 37; have sx : (v1.alloc (.cells #[.int .i64 0, .int .i64 p8', .int .i64 i8, .int .i64 s8] 37)).cell? ⟨w.heap.size, 0, none⟩ = some (.slice sa L.length sc) := cell_of_row _ _ 0 _ _ _ (JS.keep H1); obtain ⟨x0, x1, x2, x3, x4, x5, x6⟩ := (J9.keep H1).at7)
            | (go_at_call 6; (with_reducible refine (ck9 _ H1).mono ?_); rintro _ v2 ⟨rfl, g2⟩; have H2 := galloc (gtrans H1 g2) (.cells #[.int .i64 0, .int .i64 p9', .int .i64 i9, .int .i64 s9] 37); have K9 := Bk.new v2 #[.int .i64 0, .int .i64 p9', .int .i64 i9, .int .i64 s9] 37; have K82 := (K8.keep g2).alloc (.cells #[.int .i64 0, .int .i64 p9', .int .i64 i9, .int .i64 s9] 37); have sy : (v2.alloc (.cells #[.int .i64 0, .int .i64 p9', .int .i64 i9, .int .i64 s9] 37)).cell? ⟨w.heap.size, 0, none⟩ = some (.slice sa L.length sc) := cell_of_row _ _ 0 _ _ _ (JS.keep H2); obtain ⟨y0, y1, y2, y3, y4, y5, y6⟩ := (J10.keep H2).at7)
            | (go_at_call 6; (with_reducible refine (ck10 _ H2).mono ?_); rintro _ v3 ⟨rfl, g3⟩; have H3 := galloc (gtrans H2 g3) (.cells #[.int .i64 0, .int .i64 p10', .int .i64 i10, .int .i64 s10] 37); have K10 := Bk.new v3 #[.int .i64 0, .int .i64 p10', .int .i64 i10, .int .i64 s10] 37; have K83 := (K82.keep g3).alloc (.cells #[.int .i64 0, .int .i64 p10', .int .i64 i10, .int .i64 s10] 37); have K93 := (K9.keep g3).alloc (.cells #[.int .i64 0, .int .i64 p10', .int .i64 i10, .int .i64 s10] 37); have sz : (v3.alloc (.cells #[.int .i64 0, .int .i64 p10', .int .i64 i10, .int .i64 s10] 37)).cell? ⟨w.heap.size, 0, none⟩ = some (.slice sa L.length sc) := cell_of_row _ _ 0 _ _ _ (JS.keep H3); obtain ⟨t0, t1, t2, t3, t4, t5, t6⟩ := (J11.keep H3).at7)
            | (go_at_call 6; (with_reducible refine (ck11 _ H3).mono ?_); rintro _ v4 ⟨rfl, g4⟩; have H4 := galloc (gtrans H3 g4) (.cells #[.int .i64 0, .int .i64 p11', .int .i64 i11, .int .i64 s11] 37); obtain ⟨m80, _⟩ := ((K83.keep g4).alloc (.cells #[.int .i64 0, .int .i64 p11', .int .i64 i11, .int .i64 s11] 37)).at4; obtain ⟨m90, _⟩ := ((K93.keep g4).alloc (.cells #[.int .i64 0, .int .i64 p11', .int .i64 i11, .int .i64 s11] 37)).at4; obtain ⟨m10, _⟩ := ((K10.keep g4).alloc (.cells #[.int .i64 0, .int .i64 p11', .int .i64 i11, .int .i64 s11] 37)).at4))
          go_ret
          exact ⟨rfl, gtrans JB H4⟩
        · have dxw := decide_eq_false hxw
          go_upto_region 15 with fail
          generalize ((wc.setCell ⟨b8, 3, none⟩ (.slice none 0 0)).setCell ⟨b9, 5, none⟩ (.string ⟨#[]⟩)).setCell ⟨b10, 6, none⟩ (.slice (some ⟨gr, ro, none⟩) (q.ret.length - 1) cr) = Z at *
          obtain ⟨nn, hnn, hnl⟩ : ∃ nn, q.ret.length - 1 = nn ∧ nn ≤ q.ret.length := ⟨_, rfl, by omega⟩
          obtain ⟨yy, hyy, hyl⟩ : ∃ yy, q.within = yy ∧ (yy = q.within ∨ (0 ≤ yy ∧ yy < q.within)) := ⟨_, rfl, .inl rfl⟩
          have J8 : Bk Z b8 #[.slice ai q.items.length ci, .int .i64 q.mode, .int .i64 q.after, .slice none 0 0, .int .i64 q.within, .string q.by_, .slice (some ⟨gr, ro, none⟩) q.ret.length cr] 31 := E8
          have J9 : Bk Z b9 #[.slice ai q.items.length ci, .int .i64 q.mode, .int .i64 q.after, .slice aw q.wh.length cw, .int .i64 q.within, .string ⟨#[]⟩, .slice (some ⟨gr, ro, none⟩) q.ret.length cr] 31 := E9
          have J10 : Bk Z b10 #[.slice ai q.items.length ci, .int .i64 q.mode, .int .i64 q.after, .slice aw q.wh.length cw, .int .i64 q.within, .string q.by_, .slice (some ⟨gr, ro, none⟩) nn cr] 31 := by rw [← hnn]; exact E10
          have J11 : Bk Z b11 #[.slice ai q.items.length ci, .int .i64 q.mode, .int .i64 q.after, .slice aw q.wh.length cw, .int .i64 yy, .string q.by_, .slice (some ⟨gr, ro, none⟩) q.ret.length cr] 31 := by rw [← hyy]; exact E11
          have JS := S4
          have JB := B6
          clear D8 D9 D10 D11 S3 B5 B4 Q2 a80 a81 a82 a83 a84 a85 a86 a90 a91 a92 a93 a94 a95 a96 d0 d1 d2 d3 d4 d5 d6 e0 e1 e2 e3 e4 e5 e6 p0 p1 p2 p3 p4 p5 p6 fr8 fr9 fr10 fr11 hnn hyy E8 E9 E10 E11 S4 B6
          have HC8 := less_wh L q h0
          have HC9 := less_by L q h0
          have HC10 := less_ret L q nn hnl h0
          have HC11 : (chkE L { q with within := yy }).code = 0 := by
            rcases hyl with e | ⟨e1, e2⟩
            · rw [e]; exact h0
            · exact less_win L q yy e1 e2 h0
          have hf11 : fI yy := by
            rcases hyl with e | ⟨e1, e2⟩
            · rw [e]; exact hq.within
            · have := hq.within; unfold fI at this ⊢; omega
          obtain ⟨⟨z8, p8', i8, s8⟩, hf8⟩ : ∃ f, chkE L { q with wh := [] } = f := ⟨_, rfl⟩
          obtain ⟨⟨z9, p9', i9, s9⟩, hf9⟩ : ∃ f, chkE L { q with by_ := ⟨#[]⟩ } = f := ⟨_, rfl⟩
          obtain ⟨⟨z10, p10', i10, s10⟩, hf10⟩ : ∃ f, chkE L { q with ret := q.ret.take nn } = f := ⟨_, rfl⟩
          obtain ⟨⟨z11, p11', i11, s11⟩, hf11'⟩ : ∃ f, chkE L { q with within := yy } = f := ⟨_, rfl⟩
          rw [hf8] at HC8
          rw [hf9] at HC9
          rw [hf10] at HC10
          rw [hf11'] at HC11
          dsimp only at HC8 HC9 HC10 HC11
          subst HC8 HC9 HC10 HC11
          have IZ := fun Y (G : Below Z.heap.size Z Y) => IQ.keep (gtrans JB G)
          have ck8 : ∀ Y, Below Z.heap.size Z Y → Calls Tryd.prog 6 #[.agg #[.slice sa L.length sc], .agg #[.slice ai q.items.length ci, .int .i64 q.mode, .int .i64 q.after, .slice none 0 0, .int .i64 q.within, .string q.by_, .slice (some ⟨gr, ro, none⟩) q.ret.length cr]] Y fun e w' => e = .returned (.agg #[.int .i64 0, .int .i64 p8', .int .i64 i8, .int .i64 s8]) ∧ Below Y.heap.size Y w' := fun Y G => by
            have h := check_any L { q with wh := [] } ⟨hq.n, hq.its, hq.mode, hq.after, hq.within, hq.by_, ⟨by simp, fun k => by simp; exact noNd_fit⟩, hq.r, hq.ret⟩ sa sc _ ai ci none 0 (some ⟨gr, ro, none⟩) cr Y (K.keep (gtrans JB G)) (A.keep (gtrans JB G)) hsc ⟨rfl, (IZ Y G).its, fun i hi => absurd hi (Nat.not_lt_zero _), (IZ Y G).ret, IQ.si, ⟨Nat.le_refl _, fun _ => ⟨rfl, rfl⟩⟩, IQ.sr⟩
            rw [hf8] at h
            exact h
          have ck9 : ∀ Y, Below Z.heap.size Z Y → Calls Tryd.prog 6 #[.agg #[.slice sa L.length sc], .agg #[.slice ai q.items.length ci, .int .i64 q.mode, .int .i64 q.after, .slice aw q.wh.length cw, .int .i64 q.within, .string ⟨#[]⟩, .slice (some ⟨gr, ro, none⟩) q.ret.length cr]] Y fun e w' => e = .returned (.agg #[.int .i64 0, .int .i64 p9', .int .i64 i9, .int .i64 s9]) ∧ Below Y.heap.size Y w' := fun Y G => by
            have h := check_any L { q with by_ := ⟨#[]⟩ } ⟨hq.n, hq.its, hq.mode, hq.after, hq.within, by show (0 : Nat) ≤ 140737488351232; omega, hq.wh, hq.r, hq.ret⟩ sa sc _ ai ci aw cw (some ⟨gr, ro, none⟩) cr Y (K.keep (gtrans JB G)) (A.keep (gtrans JB G)) hsc ⟨rfl, (IZ Y G).its, (IZ Y G).wh, (IZ Y G).ret, IQ.si, IQ.sw, IQ.sr⟩
            rw [hf9] at h
            exact h
          have ck10 : ∀ Y, Below Z.heap.size Z Y → Calls Tryd.prog 6 #[.agg #[.slice sa L.length sc], .agg #[.slice ai q.items.length ci, .int .i64 q.mode, .int .i64 q.after, .slice aw q.wh.length cw, .int .i64 q.within, .string q.by_, .slice (some ⟨gr, ro, none⟩) nn cr]] Y fun e w' => e = .returned (.agg #[.int .i64 0, .int .i64 p10', .int .i64 i10, .int .i64 s10]) ∧ Below Y.heap.size Y w' := fun Y G => by
            have hl : (q.ret.take nn).length = nn := by rw [List.length_take]; omega
            have h := check_any L { q with ret := q.ret.take nn } (take_fit hq nn) sa sc #[.slice ai q.items.length ci, .int .i64 q.mode, .int .i64 q.after, .slice aw q.wh.length cw, .int .i64 q.within, .string q.by_, .slice (some ⟨gr, ro, none⟩) nn cr] ai ci aw cw (some ⟨gr, ro, none⟩) cr Y (K.keep (gtrans JB G)) (A.keep (gtrans JB G)) hsc ⟨by show _ = _; dsimp only; rw [hl], (IZ Y G).its, (IZ Y G).wh, nss_take (IZ Y G).ret nn, IQ.si, IQ.sw, ⟨by show (q.ret.take nn).length ≤ cr; rw [hl]; omega, fun e => ⟨by have := (IQ.sr.2 e).1; show (q.ret.take nn).length = 0; rw [hl]; omega, (IQ.sr.2 e).2⟩⟩⟩
            rw [hf10] at h
            exact h
          have ck11 : ∀ Y, Below Z.heap.size Z Y → Calls Tryd.prog 6 #[.agg #[.slice sa L.length sc], .agg #[.slice ai q.items.length ci, .int .i64 q.mode, .int .i64 q.after, .slice aw q.wh.length cw, .int .i64 yy, .string q.by_, .slice (some ⟨gr, ro, none⟩) q.ret.length cr]] Y fun e w' => e = .returned (.agg #[.int .i64 0, .int .i64 p11', .int .i64 i11, .int .i64 s11]) ∧ Below Y.heap.size Y w' := fun Y G => by
            have h := check_any L { q with within := yy } ⟨hq.n, hq.its, hq.mode, hq.after, hf11, hq.by_, hq.wh, hq.r, hq.ret⟩ sa sc _ ai ci aw cw (some ⟨gr, ro, none⟩) cr Y (K.keep (gtrans JB G)) (A.keep (gtrans JB G)) hsc ⟨rfl, (IZ Y G).its, (IZ Y G).wh, (IZ Y G).ret, IQ.si, IQ.sw, IQ.sr⟩
            rw [hf11'] at h
            exact h
          obtain ⟨s0⟩ : PLift (Z.cell? ⟨w.heap.size, 0, none⟩ = some (.slice sa L.length sc)) := ⟨cell_of_row Z _ 0 _ _ _ JS⟩
          obtain ⟨a0, a1, a2, a3, a4, a5, a6⟩ := J8.at7
          go_wp2_with (first
            | (go_at_call 6; (with_reducible refine (ck8 _ (Below.refl _ _)).mono ?_); rintro _ v1 ⟨rfl, g1⟩; have H1 := galloc g1 (.cells #[.int .i64 0, .int .i64 p8', .int .i64 i8, .int .i64 s8] 37); have K8 := Bk.new v1 #[.int .i64 0, .int .i64 p8', .int .i64 i8, .int .i64 s8] 37; have sx : (v1.alloc (.cells #[.int .i64 0, .int .i64 p8', .int .i64 i8, .int .i64 s8] 37)).cell? ⟨w.heap.size, 0, none⟩ = some (.slice sa L.length sc) := cell_of_row _ _ 0 _ _ _ (JS.keep H1); obtain ⟨x0, x1, x2, x3, x4, x5, x6⟩ := (J9.keep H1).at7)
            | (go_at_call 6; (with_reducible refine (ck9 _ H1).mono ?_); rintro _ v2 ⟨rfl, g2⟩; have H2 := galloc (gtrans H1 g2) (.cells #[.int .i64 0, .int .i64 p9', .int .i64 i9, .int .i64 s9] 37); have K9 := Bk.new v2 #[.int .i64 0, .int .i64 p9', .int .i64 i9, .int .i64 s9] 37; have K82 := (K8.keep g2).alloc (.cells #[.int .i64 0, .int .i64 p9', .int .i64 i9, .int .i64 s9] 37); have sy : (v2.alloc (.cells #[.int .i64 0, .int .i64 p9', .int .i64 i9, .int .i64 s9] 37)).cell? ⟨w.heap.size, 0, none⟩ = some (.slice sa L.length sc) := cell_of_row _ _ 0 _ _ _ (JS.keep H2); obtain ⟨y0, y1, y2, y3, y4, y5, y6⟩ := (J10.keep H2).at7)
            | (go_at_call 6; (with_reducible refine (ck10 _ H2).mono ?_); rintro _ v3 ⟨rfl, g3⟩; have H3 := galloc (gtrans H2 g3) (.cells #[.int .i64 0, .int .i64 p10', .int .i64 i10, .int .i64 s10] 37); have K10 := Bk.new v3 #[.int .i64 0, .int .i64 p10', .int .i64 i10, .int .i64 s10] 37; have K83 := (K82.keep g3).alloc (.cells #[.int .i64 0, .int .i64 p10', .int .i64 i10, .int .i64 s10] 37); have K93 := (K9.keep g3).alloc (.cells #[.int .i64 0, .int .i64 p10', .int .i64 i10, .int .i64 s10] 37); have sz : (v3.alloc (.cells #[.int .i64 0, .int .i64 p10', .int .i64 i10, .int .i64 s10] 37)).cell? ⟨w.heap.size, 0, none⟩ = some (.slice sa L.length sc) := cell_of_row _ _ 0 _ _ _ (JS.keep H3); obtain ⟨t0, t1, t2, t3, t4, t5, t6⟩ := (J11.keep H3).at7)
            | (go_at_call 6; (with_reducible refine (ck11 _ H3).mono ?_); rintro _ v4 ⟨rfl, g4⟩; have H4 := galloc (gtrans H3 g4) (.cells #[.int .i64 0, .int .i64 p11', .int .i64 i11, .int .i64 s11] 37); obtain ⟨m80, _⟩ := ((K83.keep g4).alloc (.cells #[.int .i64 0, .int .i64 p11', .int .i64 i11, .int .i64 s11] 37)).at4; obtain ⟨m90, _⟩ := ((K93.keep g4).alloc (.cells #[.int .i64 0, .int .i64 p11', .int .i64 i11, .int .i64 s11] 37)).at4; obtain ⟨m10, _⟩ := ((K10.keep g4).alloc (.cells #[.int .i64 0, .int .i64 p11', .int .i64 i11, .int .i64 s11] 37)).at4))
          go_ret
          exact ⟨rfl, gtrans JB H4⟩
      · have dx0 := decide_eq_false hx0
        go_upto_region 15 with fail
        generalize ((wc.setCell ⟨b8, 3, none⟩ (.slice none 0 0)).setCell ⟨b9, 5, none⟩ (.string ⟨#[]⟩)).setCell ⟨b10, 6, none⟩ (.slice (some ⟨gr, ro, none⟩) (q.ret.length - 1) cr) = Z at *
        obtain ⟨nn, hnn, hnl⟩ : ∃ nn, q.ret.length - 1 = nn ∧ nn ≤ q.ret.length := ⟨_, rfl, by omega⟩
        obtain ⟨yy, hyy, hyl⟩ : ∃ yy, q.within = yy ∧ (yy = q.within ∨ (0 ≤ yy ∧ yy < q.within)) := ⟨_, rfl, .inl rfl⟩
        have J8 : Bk Z b8 #[.slice ai q.items.length ci, .int .i64 q.mode, .int .i64 q.after, .slice none 0 0, .int .i64 q.within, .string q.by_, .slice (some ⟨gr, ro, none⟩) q.ret.length cr] 31 := E8
        have J9 : Bk Z b9 #[.slice ai q.items.length ci, .int .i64 q.mode, .int .i64 q.after, .slice aw q.wh.length cw, .int .i64 q.within, .string ⟨#[]⟩, .slice (some ⟨gr, ro, none⟩) q.ret.length cr] 31 := E9
        have J10 : Bk Z b10 #[.slice ai q.items.length ci, .int .i64 q.mode, .int .i64 q.after, .slice aw q.wh.length cw, .int .i64 q.within, .string q.by_, .slice (some ⟨gr, ro, none⟩) nn cr] 31 := by rw [← hnn]; exact E10
        have J11 : Bk Z b11 #[.slice ai q.items.length ci, .int .i64 q.mode, .int .i64 q.after, .slice aw q.wh.length cw, .int .i64 yy, .string q.by_, .slice (some ⟨gr, ro, none⟩) q.ret.length cr] 31 := by rw [← hyy]; exact E11
        have JS := S4
        have JB := B6
        clear D8 D9 D10 D11 S3 B5 B4 Q2 a80 a81 a82 a83 a84 a85 a86 a90 a91 a92 a93 a94 a95 a96 d0 d1 d2 d3 d4 d5 d6 e0 e1 e2 e3 e4 e5 e6 p0 p1 p2 p3 p4 p5 p6 fr8 fr9 fr10 fr11 hnn hyy E8 E9 E10 E11 S4 B6
        have HC8 := less_wh L q h0
        have HC9 := less_by L q h0
        have HC10 := less_ret L q nn hnl h0
        have HC11 : (chkE L { q with within := yy }).code = 0 := by
          rcases hyl with e | ⟨e1, e2⟩
          · rw [e]; exact h0
          · exact less_win L q yy e1 e2 h0
        have hf11 : fI yy := by
          rcases hyl with e | ⟨e1, e2⟩
          · rw [e]; exact hq.within
          · have := hq.within; unfold fI at this ⊢; omega
        obtain ⟨⟨z8, p8', i8, s8⟩, hf8⟩ : ∃ f, chkE L { q with wh := [] } = f := ⟨_, rfl⟩
        obtain ⟨⟨z9, p9', i9, s9⟩, hf9⟩ : ∃ f, chkE L { q with by_ := ⟨#[]⟩ } = f := ⟨_, rfl⟩
        obtain ⟨⟨z10, p10', i10, s10⟩, hf10⟩ : ∃ f, chkE L { q with ret := q.ret.take nn } = f := ⟨_, rfl⟩
        obtain ⟨⟨z11, p11', i11, s11⟩, hf11'⟩ : ∃ f, chkE L { q with within := yy } = f := ⟨_, rfl⟩
        rw [hf8] at HC8
        rw [hf9] at HC9
        rw [hf10] at HC10
        rw [hf11'] at HC11
        dsimp only at HC8 HC9 HC10 HC11
        subst HC8 HC9 HC10 HC11
        have IZ := fun Y (G : Below Z.heap.size Z Y) => IQ.keep (gtrans JB G)
        have ck8 : ∀ Y, Below Z.heap.size Z Y → Calls Tryd.prog 6 #[.agg #[.slice sa L.length sc], .agg #[.slice ai q.items.length ci, .int .i64 q.mode, .int .i64 q.after, .slice none 0 0, .int .i64 q.within, .string q.by_, .slice (some ⟨gr, ro, none⟩) q.ret.length cr]] Y fun e w' => e = .returned (.agg #[.int .i64 0, .int .i64 p8', .int .i64 i8, .int .i64 s8]) ∧ Below Y.heap.size Y w' := fun Y G => by
          have h := check_any L { q with wh := [] } ⟨hq.n, hq.its, hq.mode, hq.after, hq.within, hq.by_, ⟨by simp, fun k => by simp; exact noNd_fit⟩, hq.r, hq.ret⟩ sa sc _ ai ci none 0 (some ⟨gr, ro, none⟩) cr Y (K.keep (gtrans JB G)) (A.keep (gtrans JB G)) hsc ⟨rfl, (IZ Y G).its, fun i hi => absurd hi (Nat.not_lt_zero _), (IZ Y G).ret, IQ.si, ⟨Nat.le_refl _, fun _ => ⟨rfl, rfl⟩⟩, IQ.sr⟩
          rw [hf8] at h
          exact h
        have ck9 : ∀ Y, Below Z.heap.size Z Y → Calls Tryd.prog 6 #[.agg #[.slice sa L.length sc], .agg #[.slice ai q.items.length ci, .int .i64 q.mode, .int .i64 q.after, .slice aw q.wh.length cw, .int .i64 q.within, .string ⟨#[]⟩, .slice (some ⟨gr, ro, none⟩) q.ret.length cr]] Y fun e w' => e = .returned (.agg #[.int .i64 0, .int .i64 p9', .int .i64 i9, .int .i64 s9]) ∧ Below Y.heap.size Y w' := fun Y G => by
          have h := check_any L { q with by_ := ⟨#[]⟩ } ⟨hq.n, hq.its, hq.mode, hq.after, hq.within, by show (0 : Nat) ≤ 140737488351232; omega, hq.wh, hq.r, hq.ret⟩ sa sc _ ai ci aw cw (some ⟨gr, ro, none⟩) cr Y (K.keep (gtrans JB G)) (A.keep (gtrans JB G)) hsc ⟨rfl, (IZ Y G).its, (IZ Y G).wh, (IZ Y G).ret, IQ.si, IQ.sw, IQ.sr⟩
          rw [hf9] at h
          exact h
        have ck10 : ∀ Y, Below Z.heap.size Z Y → Calls Tryd.prog 6 #[.agg #[.slice sa L.length sc], .agg #[.slice ai q.items.length ci, .int .i64 q.mode, .int .i64 q.after, .slice aw q.wh.length cw, .int .i64 q.within, .string q.by_, .slice (some ⟨gr, ro, none⟩) nn cr]] Y fun e w' => e = .returned (.agg #[.int .i64 0, .int .i64 p10', .int .i64 i10, .int .i64 s10]) ∧ Below Y.heap.size Y w' := fun Y G => by
          have hl : (q.ret.take nn).length = nn := by rw [List.length_take]; omega
          have h := check_any L { q with ret := q.ret.take nn } (take_fit hq nn) sa sc #[.slice ai q.items.length ci, .int .i64 q.mode, .int .i64 q.after, .slice aw q.wh.length cw, .int .i64 q.within, .string q.by_, .slice (some ⟨gr, ro, none⟩) nn cr] ai ci aw cw (some ⟨gr, ro, none⟩) cr Y (K.keep (gtrans JB G)) (A.keep (gtrans JB G)) hsc ⟨by show _ = _; dsimp only; rw [hl], (IZ Y G).its, (IZ Y G).wh, nss_take (IZ Y G).ret nn, IQ.si, IQ.sw, ⟨by show (q.ret.take nn).length ≤ cr; rw [hl]; omega, fun e => ⟨by have := (IQ.sr.2 e).1; show (q.ret.take nn).length = 0; rw [hl]; omega, (IQ.sr.2 e).2⟩⟩⟩
          rw [hf10] at h
          exact h
        have ck11 : ∀ Y, Below Z.heap.size Z Y → Calls Tryd.prog 6 #[.agg #[.slice sa L.length sc], .agg #[.slice ai q.items.length ci, .int .i64 q.mode, .int .i64 q.after, .slice aw q.wh.length cw, .int .i64 yy, .string q.by_, .slice (some ⟨gr, ro, none⟩) q.ret.length cr]] Y fun e w' => e = .returned (.agg #[.int .i64 0, .int .i64 p11', .int .i64 i11, .int .i64 s11]) ∧ Below Y.heap.size Y w' := fun Y G => by
          have h := check_any L { q with within := yy } ⟨hq.n, hq.its, hq.mode, hq.after, hf11, hq.by_, hq.wh, hq.r, hq.ret⟩ sa sc _ ai ci aw cw (some ⟨gr, ro, none⟩) cr Y (K.keep (gtrans JB G)) (A.keep (gtrans JB G)) hsc ⟨rfl, (IZ Y G).its, (IZ Y G).wh, (IZ Y G).ret, IQ.si, IQ.sw, IQ.sr⟩
          rw [hf11'] at h
          exact h
        obtain ⟨s0⟩ : PLift (Z.cell? ⟨w.heap.size, 0, none⟩ = some (.slice sa L.length sc)) := ⟨cell_of_row Z _ 0 _ _ _ JS⟩
        obtain ⟨a0, a1, a2, a3, a4, a5, a6⟩ := J8.at7
        go_wp2_with (first
          | (go_at_call 6; (with_reducible refine (ck8 _ (Below.refl _ _)).mono ?_); rintro _ v1 ⟨rfl, g1⟩; have H1 := galloc g1 (.cells #[.int .i64 0, .int .i64 p8', .int .i64 i8, .int .i64 s8] 37); have K8 := Bk.new v1 #[.int .i64 0, .int .i64 p8', .int .i64 i8, .int .i64 s8] 37; have sx : (v1.alloc (.cells #[.int .i64 0, .int .i64 p8', .int .i64 i8, .int .i64 s8] 37)).cell? ⟨w.heap.size, 0, none⟩ = some (.slice sa L.length sc) := cell_of_row _ _ 0 _ _ _ (JS.keep H1); obtain ⟨x0, x1, x2, x3, x4, x5, x6⟩ := (J9.keep H1).at7)
          | (go_at_call 6; (with_reducible refine (ck9 _ H1).mono ?_); rintro _ v2 ⟨rfl, g2⟩; have H2 := galloc (gtrans H1 g2) (.cells #[.int .i64 0, .int .i64 p9', .int .i64 i9, .int .i64 s9] 37); have K9 := Bk.new v2 #[.int .i64 0, .int .i64 p9', .int .i64 i9, .int .i64 s9] 37; have K82 := (K8.keep g2).alloc (.cells #[.int .i64 0, .int .i64 p9', .int .i64 i9, .int .i64 s9] 37); have sy : (v2.alloc (.cells #[.int .i64 0, .int .i64 p9', .int .i64 i9, .int .i64 s9] 37)).cell? ⟨w.heap.size, 0, none⟩ = some (.slice sa L.length sc) := cell_of_row _ _ 0 _ _ _ (JS.keep H2); obtain ⟨y0, y1, y2, y3, y4, y5, y6⟩ := (J10.keep H2).at7)
          | (go_at_call 6; (with_reducible refine (ck10 _ H2).mono ?_); rintro _ v3 ⟨rfl, g3⟩; have H3 := galloc (gtrans H2 g3) (.cells #[.int .i64 0, .int .i64 p10', .int .i64 i10, .int .i64 s10] 37); have K10 := Bk.new v3 #[.int .i64 0, .int .i64 p10', .int .i64 i10, .int .i64 s10] 37; have K83 := (K82.keep g3).alloc (.cells #[.int .i64 0, .int .i64 p10', .int .i64 i10, .int .i64 s10] 37); have K93 := (K9.keep g3).alloc (.cells #[.int .i64 0, .int .i64 p10', .int .i64 i10, .int .i64 s10] 37); have sz : (v3.alloc (.cells #[.int .i64 0, .int .i64 p10', .int .i64 i10, .int .i64 s10] 37)).cell? ⟨w.heap.size, 0, none⟩ = some (.slice sa L.length sc) := cell_of_row _ _ 0 _ _ _ (JS.keep H3); obtain ⟨t0, t1, t2, t3, t4, t5, t6⟩ := (J11.keep H3).at7)
          | (go_at_call 6; (with_reducible refine (ck11 _ H3).mono ?_); rintro _ v4 ⟨rfl, g4⟩; have H4 := galloc (gtrans H3 g4) (.cells #[.int .i64 0, .int .i64 p11', .int .i64 i11, .int .i64 s11] 37); obtain ⟨m80, _⟩ := ((K83.keep g4).alloc (.cells #[.int .i64 0, .int .i64 p11', .int .i64 i11, .int .i64 s11] 37)).at4; obtain ⟨m90, _⟩ := ((K93.keep g4).alloc (.cells #[.int .i64 0, .int .i64 p11', .int .i64 i11, .int .i64 s11] 37)).at4; obtain ⟨m10, _⟩ := ((K10.keep g4).alloc (.cells #[.int .i64 0, .int .i64 p11', .int .i64 i11, .int .i64 s11] 37)).at4))
        go_ret
        exact ⟨rfl, gtrans JB H4⟩
    · have hri : ¬ (0 : Int) < (q.ret.length : Int) := by omega
      by_cases hx0 : 0 ≤ x
      · by_cases hxw : x < q.within
        · have G8 := D8.other (b' := b11) (fun h => n3 h.symm) 4 (.int .i64 x)
          have G9 := D9.other (b' := b11) (fun h => n5 h.symm) 4 (.int .i64 x)
          have G10 := D10.other (b' := b11) (fun h => n6 h.symm) 4 (.int .i64 x)
          have G11 := D11.set 4 (.int .i64 x)
          have S5 := S3.other (b' := b11) (by omega) 4 (.int .i64 x)
          have B7 := gset B5 (p := ⟨b11, 4, none⟩) (show _ ≤ b11 by omega) (.int .i64 x)
          go_upto_region 15 with fail
          generalize ((wc.setCell ⟨b8, 3, none⟩ (.slice none 0 0)).setCell ⟨b9, 5, none⟩ (.string ⟨#[]⟩)).setCell ⟨b11, 4, none⟩ (.int .i64 x) = Z at *
          obtain ⟨nn, hnn, hnl⟩ : ∃ nn, q.ret.length = nn ∧ nn ≤ q.ret.length := ⟨_, rfl, by omega⟩
          obtain ⟨yy, hyy, hyl⟩ : ∃ yy, x = yy ∧ (yy = q.within ∨ (0 ≤ yy ∧ yy < q.within)) := ⟨_, rfl, .inr ⟨hx0, hxw⟩⟩
          have J8 : Bk Z b8 #[.slice ai q.items.length ci, .int .i64 q.mode, .int .i64 q.after, .slice none 0 0, .int .i64 q.within, .string q.by_, .slice ar q.ret.length cr] 31 := G8
          have J9 : Bk Z b9 #[.slice ai q.items.length ci, .int .i64 q.mode, .int .i64 q.after, .slice aw q.wh.length cw, .int .i64 q.within, .string ⟨#[]⟩, .slice ar q.ret.length cr] 31 := G9
          have J10 : Bk Z b10 #[.slice ai q.items.length ci, .int .i64 q.mode, .int .i64 q.after, .slice aw q.wh.length cw, .int .i64 q.within, .string q.by_, .slice ar nn cr] 31 := by rw [← hnn]; exact G10
          have J11 : Bk Z b11 #[.slice ai q.items.length ci, .int .i64 q.mode, .int .i64 q.after, .slice aw q.wh.length cw, .int .i64 yy, .string q.by_, .slice ar q.ret.length cr] 31 := by rw [← hyy]; exact G11
          have JS := S5
          have JB := B7
          clear D8 D9 D10 D11 S3 B5 B4 Q2 a80 a81 a82 a83 a84 a85 a86 a90 a91 a92 a93 a94 a95 a96 d0 d1 d2 d3 d4 d5 d6 e0 e1 e2 e3 e4 e5 e6 p0 p1 p2 p3 p4 p5 p6 fr8 fr9 fr10 fr11 hnn hyy G8 G9 G10 G11 S5 B7
          have HC8 := less_wh L q h0
          have HC9 := less_by L q h0
          have HC10 := less_ret L q nn hnl h0
          have HC11 : (chkE L { q with within := yy }).code = 0 := by
            rcases hyl with e | ⟨e1, e2⟩
            · rw [e]; exact h0
            · exact less_win L q yy e1 e2 h0
          have hf11 : fI yy := by
            rcases hyl with e | ⟨e1, e2⟩
            · rw [e]; exact hq.within
            · have := hq.within; unfold fI at this ⊢; omega
          obtain ⟨⟨z8, p8', i8, s8⟩, hf8⟩ : ∃ f, chkE L { q with wh := [] } = f := ⟨_, rfl⟩
          obtain ⟨⟨z9, p9', i9, s9⟩, hf9⟩ : ∃ f, chkE L { q with by_ := ⟨#[]⟩ } = f := ⟨_, rfl⟩
          obtain ⟨⟨z10, p10', i10, s10⟩, hf10⟩ : ∃ f, chkE L { q with ret := q.ret.take nn } = f := ⟨_, rfl⟩
          obtain ⟨⟨z11, p11', i11, s11⟩, hf11'⟩ : ∃ f, chkE L { q with within := yy } = f := ⟨_, rfl⟩
          rw [hf8] at HC8
          rw [hf9] at HC9
          rw [hf10] at HC10
          rw [hf11'] at HC11
          dsimp only at HC8 HC9 HC10 HC11
          subst HC8 HC9 HC10 HC11
          have IZ := fun Y (G : Below Z.heap.size Z Y) => IQ.keep (gtrans JB G)
          have ck8 : ∀ Y, Below Z.heap.size Z Y → Calls Tryd.prog 6 #[.agg #[.slice sa L.length sc], .agg #[.slice ai q.items.length ci, .int .i64 q.mode, .int .i64 q.after, .slice none 0 0, .int .i64 q.within, .string q.by_, .slice ar q.ret.length cr]] Y fun e w' => e = .returned (.agg #[.int .i64 0, .int .i64 p8', .int .i64 i8, .int .i64 s8]) ∧ Below Y.heap.size Y w' := fun Y G => by
            have h := check_any L { q with wh := [] } ⟨hq.n, hq.its, hq.mode, hq.after, hq.within, hq.by_, ⟨by simp, fun k => by simp; exact noNd_fit⟩, hq.r, hq.ret⟩ sa sc _ ai ci none 0 ar cr Y (K.keep (gtrans JB G)) (A.keep (gtrans JB G)) hsc ⟨rfl, (IZ Y G).its, fun i hi => absurd hi (Nat.not_lt_zero _), (IZ Y G).ret, IQ.si, ⟨Nat.le_refl _, fun _ => ⟨rfl, rfl⟩⟩, IQ.sr⟩
            rw [hf8] at h
            exact h
          have ck9 : ∀ Y, Below Z.heap.size Z Y → Calls Tryd.prog 6 #[.agg #[.slice sa L.length sc], .agg #[.slice ai q.items.length ci, .int .i64 q.mode, .int .i64 q.after, .slice aw q.wh.length cw, .int .i64 q.within, .string ⟨#[]⟩, .slice ar q.ret.length cr]] Y fun e w' => e = .returned (.agg #[.int .i64 0, .int .i64 p9', .int .i64 i9, .int .i64 s9]) ∧ Below Y.heap.size Y w' := fun Y G => by
            have h := check_any L { q with by_ := ⟨#[]⟩ } ⟨hq.n, hq.its, hq.mode, hq.after, hq.within, by show (0 : Nat) ≤ 140737488351232; omega, hq.wh, hq.r, hq.ret⟩ sa sc _ ai ci aw cw ar cr Y (K.keep (gtrans JB G)) (A.keep (gtrans JB G)) hsc ⟨rfl, (IZ Y G).its, (IZ Y G).wh, (IZ Y G).ret, IQ.si, IQ.sw, IQ.sr⟩
            rw [hf9] at h
            exact h
          have ck10 : ∀ Y, Below Z.heap.size Z Y → Calls Tryd.prog 6 #[.agg #[.slice sa L.length sc], .agg #[.slice ai q.items.length ci, .int .i64 q.mode, .int .i64 q.after, .slice aw q.wh.length cw, .int .i64 q.within, .string q.by_, .slice ar nn cr]] Y fun e w' => e = .returned (.agg #[.int .i64 0, .int .i64 p10', .int .i64 i10, .int .i64 s10]) ∧ Below Y.heap.size Y w' := fun Y G => by
            have hl : (q.ret.take nn).length = nn := by rw [List.length_take]; omega
            have h := check_any L { q with ret := q.ret.take nn } (take_fit hq nn) sa sc #[.slice ai q.items.length ci, .int .i64 q.mode, .int .i64 q.after, .slice aw q.wh.length cw, .int .i64 q.within, .string q.by_, .slice ar nn cr] ai ci aw cw ar cr Y (K.keep (gtrans JB G)) (A.keep (gtrans JB G)) hsc ⟨by show _ = _; dsimp only; rw [hl], (IZ Y G).its, (IZ Y G).wh, nss_take (IZ Y G).ret nn, IQ.si, IQ.sw, ⟨by show (q.ret.take nn).length ≤ cr; rw [hl]; omega, fun e => ⟨by have := (IQ.sr.2 e).1; show (q.ret.take nn).length = 0; rw [hl]; omega, (IQ.sr.2 e).2⟩⟩⟩
            rw [hf10] at h
            exact h
          have ck11 : ∀ Y, Below Z.heap.size Z Y → Calls Tryd.prog 6 #[.agg #[.slice sa L.length sc], .agg #[.slice ai q.items.length ci, .int .i64 q.mode, .int .i64 q.after, .slice aw q.wh.length cw, .int .i64 yy, .string q.by_, .slice ar q.ret.length cr]] Y fun e w' => e = .returned (.agg #[.int .i64 0, .int .i64 p11', .int .i64 i11, .int .i64 s11]) ∧ Below Y.heap.size Y w' := fun Y G => by
            have h := check_any L { q with within := yy } ⟨hq.n, hq.its, hq.mode, hq.after, hf11, hq.by_, hq.wh, hq.r, hq.ret⟩ sa sc _ ai ci aw cw ar cr Y (K.keep (gtrans JB G)) (A.keep (gtrans JB G)) hsc ⟨rfl, (IZ Y G).its, (IZ Y G).wh, (IZ Y G).ret, IQ.si, IQ.sw, IQ.sr⟩
            rw [hf11'] at h
            exact h
          obtain ⟨s0⟩ : PLift (Z.cell? ⟨w.heap.size, 0, none⟩ = some (.slice sa L.length sc)) := ⟨cell_of_row Z _ 0 _ _ _ JS⟩
          obtain ⟨a0, a1, a2, a3, a4, a5, a6⟩ := J8.at7
          go_wp2_with (first
            | (go_at_call 6; (with_reducible refine (ck8 _ (Below.refl _ _)).mono ?_); rintro _ v1 ⟨rfl, g1⟩; have H1 := galloc g1 (.cells #[.int .i64 0, .int .i64 p8', .int .i64 i8, .int .i64 s8] 37); have K8 := Bk.new v1 #[.int .i64 0, .int .i64 p8', .int .i64 i8, .int .i64 s8] 37; have sx : (v1.alloc (.cells #[.int .i64 0, .int .i64 p8', .int .i64 i8, .int .i64 s8] 37)).cell? ⟨w.heap.size, 0, none⟩ = some (.slice sa L.length sc) := cell_of_row _ _ 0 _ _ _ (JS.keep H1); obtain ⟨x0, x1, x2, x3, x4, x5, x6⟩ := (J9.keep H1).at7)
            | (go_at_call 6; (with_reducible refine (ck9 _ H1).mono ?_); rintro _ v2 ⟨rfl, g2⟩; have H2 := galloc (gtrans H1 g2) (.cells #[.int .i64 0, .int .i64 p9', .int .i64 i9, .int .i64 s9] 37); have K9 := Bk.new v2 #[.int .i64 0, .int .i64 p9', .int .i64 i9, .int .i64 s9] 37; have K82 := (K8.keep g2).alloc (.cells #[.int .i64 0, .int .i64 p9', .int .i64 i9, .int .i64 s9] 37); have sy : (v2.alloc (.cells #[.int .i64 0, .int .i64 p9', .int .i64 i9, .int .i64 s9] 37)).cell? ⟨w.heap.size, 0, none⟩ = some (.slice sa L.length sc) := cell_of_row _ _ 0 _ _ _ (JS.keep H2); obtain ⟨y0, y1, y2, y3, y4, y5, y6⟩ := (J10.keep H2).at7)
            | (go_at_call 6; (with_reducible refine (ck10 _ H2).mono ?_); rintro _ v3 ⟨rfl, g3⟩; have H3 := galloc (gtrans H2 g3) (.cells #[.int .i64 0, .int .i64 p10', .int .i64 i10, .int .i64 s10] 37); have K10 := Bk.new v3 #[.int .i64 0, .int .i64 p10', .int .i64 i10, .int .i64 s10] 37; have K83 := (K82.keep g3).alloc (.cells #[.int .i64 0, .int .i64 p10', .int .i64 i10, .int .i64 s10] 37); have K93 := (K9.keep g3).alloc (.cells #[.int .i64 0, .int .i64 p10', .int .i64 i10, .int .i64 s10] 37); have sz : (v3.alloc (.cells #[.int .i64 0, .int .i64 p10', .int .i64 i10, .int .i64 s10] 37)).cell? ⟨w.heap.size, 0, none⟩ = some (.slice sa L.length sc) := cell_of_row _ _ 0 _ _ _ (JS.keep H3); obtain ⟨t0, t1, t2, t3, t4, t5, t6⟩ := (J11.keep H3).at7)
            | (go_at_call 6; (with_reducible refine (ck11 _ H3).mono ?_); rintro _ v4 ⟨rfl, g4⟩; have H4 := galloc (gtrans H3 g4) (.cells #[.int .i64 0, .int .i64 p11', .int .i64 i11, .int .i64 s11] 37); obtain ⟨m80, _⟩ := ((K83.keep g4).alloc (.cells #[.int .i64 0, .int .i64 p11', .int .i64 i11, .int .i64 s11] 37)).at4; obtain ⟨m90, _⟩ := ((K93.keep g4).alloc (.cells #[.int .i64 0, .int .i64 p11', .int .i64 i11, .int .i64 s11] 37)).at4; obtain ⟨m10, _⟩ := ((K10.keep g4).alloc (.cells #[.int .i64 0, .int .i64 p11', .int .i64 i11, .int .i64 s11] 37)).at4))
          go_ret
          exact ⟨rfl, gtrans JB H4⟩
        · have dxw := decide_eq_false hxw
          go_upto_region 15 with fail
          generalize (wc.setCell ⟨b8, 3, none⟩ (.slice none 0 0)).setCell ⟨b9, 5, none⟩ (.string ⟨#[]⟩) = Z at *
          obtain ⟨nn, hnn, hnl⟩ : ∃ nn, q.ret.length = nn ∧ nn ≤ q.ret.length := ⟨_, rfl, by omega⟩
          obtain ⟨yy, hyy, hyl⟩ : ∃ yy, q.within = yy ∧ (yy = q.within ∨ (0 ≤ yy ∧ yy < q.within)) := ⟨_, rfl, .inl rfl⟩
          have J8 : Bk Z b8 #[.slice ai q.items.length ci, .int .i64 q.mode, .int .i64 q.after, .slice none 0 0, .int .i64 q.within, .string q.by_, .slice ar q.ret.length cr] 31 := D8
          have J9 : Bk Z b9 #[.slice ai q.items.length ci, .int .i64 q.mode, .int .i64 q.after, .slice aw q.wh.length cw, .int .i64 q.within, .string ⟨#[]⟩, .slice ar q.ret.length cr] 31 := D9
          have J10 : Bk Z b10 #[.slice ai q.items.length ci, .int .i64 q.mode, .int .i64 q.after, .slice aw q.wh.length cw, .int .i64 q.within, .string q.by_, .slice ar nn cr] 31 := by rw [← hnn]; exact D10
          have J11 : Bk Z b11 #[.slice ai q.items.length ci, .int .i64 q.mode, .int .i64 q.after, .slice aw q.wh.length cw, .int .i64 yy, .string q.by_, .slice ar q.ret.length cr] 31 := by rw [← hyy]; exact D11
          have JS := S3
          have JB := B5
          clear D8 D9 D10 D11 S3 B5 B4 Q2 a80 a81 a82 a83 a84 a85 a86 a90 a91 a92 a93 a94 a95 a96 d0 d1 d2 d3 d4 d5 d6 e0 e1 e2 e3 e4 e5 e6 p0 p1 p2 p3 p4 p5 p6 fr8 fr9 fr10 fr11 hnn hyy
          have HC8 := less_wh L q h0
          have HC9 := less_by L q h0
          have HC10 := less_ret L q nn hnl h0
          have HC11 : (chkE L { q with within := yy }).code = 0 := by
            rcases hyl with e | ⟨e1, e2⟩
            · rw [e]; exact h0
            · exact less_win L q yy e1 e2 h0
          have hf11 : fI yy := by
            rcases hyl with e | ⟨e1, e2⟩
            · rw [e]; exact hq.within
            · have := hq.within; unfold fI at this ⊢; omega
          obtain ⟨⟨z8, p8', i8, s8⟩, hf8⟩ : ∃ f, chkE L { q with wh := [] } = f := ⟨_, rfl⟩
          obtain ⟨⟨z9, p9', i9, s9⟩, hf9⟩ : ∃ f, chkE L { q with by_ := ⟨#[]⟩ } = f := ⟨_, rfl⟩
          obtain ⟨⟨z10, p10', i10, s10⟩, hf10⟩ : ∃ f, chkE L { q with ret := q.ret.take nn } = f := ⟨_, rfl⟩
          obtain ⟨⟨z11, p11', i11, s11⟩, hf11'⟩ : ∃ f, chkE L { q with within := yy } = f := ⟨_, rfl⟩
          rw [hf8] at HC8
          rw [hf9] at HC9
          rw [hf10] at HC10
          rw [hf11'] at HC11
          dsimp only at HC8 HC9 HC10 HC11
          subst HC8 HC9 HC10 HC11
          have IZ := fun Y (G : Below Z.heap.size Z Y) => IQ.keep (gtrans JB G)
          have ck8 : ∀ Y, Below Z.heap.size Z Y → Calls Tryd.prog 6 #[.agg #[.slice sa L.length sc], .agg #[.slice ai q.items.length ci, .int .i64 q.mode, .int .i64 q.after, .slice none 0 0, .int .i64 q.within, .string q.by_, .slice ar q.ret.length cr]] Y fun e w' => e = .returned (.agg #[.int .i64 0, .int .i64 p8', .int .i64 i8, .int .i64 s8]) ∧ Below Y.heap.size Y w' := fun Y G => by
            have h := check_any L { q with wh := [] } ⟨hq.n, hq.its, hq.mode, hq.after, hq.within, hq.by_, ⟨by simp, fun k => by simp; exact noNd_fit⟩, hq.r, hq.ret⟩ sa sc _ ai ci none 0 ar cr Y (K.keep (gtrans JB G)) (A.keep (gtrans JB G)) hsc ⟨rfl, (IZ Y G).its, fun i hi => absurd hi (Nat.not_lt_zero _), (IZ Y G).ret, IQ.si, ⟨Nat.le_refl _, fun _ => ⟨rfl, rfl⟩⟩, IQ.sr⟩
            rw [hf8] at h
            exact h
          have ck9 : ∀ Y, Below Z.heap.size Z Y → Calls Tryd.prog 6 #[.agg #[.slice sa L.length sc], .agg #[.slice ai q.items.length ci, .int .i64 q.mode, .int .i64 q.after, .slice aw q.wh.length cw, .int .i64 q.within, .string ⟨#[]⟩, .slice ar q.ret.length cr]] Y fun e w' => e = .returned (.agg #[.int .i64 0, .int .i64 p9', .int .i64 i9, .int .i64 s9]) ∧ Below Y.heap.size Y w' := fun Y G => by
            have h := check_any L { q with by_ := ⟨#[]⟩ } ⟨hq.n, hq.its, hq.mode, hq.after, hq.within, by show (0 : Nat) ≤ 140737488351232; omega, hq.wh, hq.r, hq.ret⟩ sa sc _ ai ci aw cw ar cr Y (K.keep (gtrans JB G)) (A.keep (gtrans JB G)) hsc ⟨rfl, (IZ Y G).its, (IZ Y G).wh, (IZ Y G).ret, IQ.si, IQ.sw, IQ.sr⟩
            rw [hf9] at h
            exact h
          have ck10 : ∀ Y, Below Z.heap.size Z Y → Calls Tryd.prog 6 #[.agg #[.slice sa L.length sc], .agg #[.slice ai q.items.length ci, .int .i64 q.mode, .int .i64 q.after, .slice aw q.wh.length cw, .int .i64 q.within, .string q.by_, .slice ar nn cr]] Y fun e w' => e = .returned (.agg #[.int .i64 0, .int .i64 p10', .int .i64 i10, .int .i64 s10]) ∧ Below Y.heap.size Y w' := fun Y G => by
            have hl : (q.ret.take nn).length = nn := by rw [List.length_take]; omega
            have h := check_any L { q with ret := q.ret.take nn } (take_fit hq nn) sa sc #[.slice ai q.items.length ci, .int .i64 q.mode, .int .i64 q.after, .slice aw q.wh.length cw, .int .i64 q.within, .string q.by_, .slice ar nn cr] ai ci aw cw ar cr Y (K.keep (gtrans JB G)) (A.keep (gtrans JB G)) hsc ⟨by show _ = _; dsimp only; rw [hl], (IZ Y G).its, (IZ Y G).wh, nss_take (IZ Y G).ret nn, IQ.si, IQ.sw, ⟨by show (q.ret.take nn).length ≤ cr; rw [hl]; omega, fun e => ⟨by have := (IQ.sr.2 e).1; show (q.ret.take nn).length = 0; rw [hl]; omega, (IQ.sr.2 e).2⟩⟩⟩
            rw [hf10] at h
            exact h
          have ck11 : ∀ Y, Below Z.heap.size Z Y → Calls Tryd.prog 6 #[.agg #[.slice sa L.length sc], .agg #[.slice ai q.items.length ci, .int .i64 q.mode, .int .i64 q.after, .slice aw q.wh.length cw, .int .i64 yy, .string q.by_, .slice ar q.ret.length cr]] Y fun e w' => e = .returned (.agg #[.int .i64 0, .int .i64 p11', .int .i64 i11, .int .i64 s11]) ∧ Below Y.heap.size Y w' := fun Y G => by
            have h := check_any L { q with within := yy } ⟨hq.n, hq.its, hq.mode, hq.after, hf11, hq.by_, hq.wh, hq.r, hq.ret⟩ sa sc _ ai ci aw cw ar cr Y (K.keep (gtrans JB G)) (A.keep (gtrans JB G)) hsc ⟨rfl, (IZ Y G).its, (IZ Y G).wh, (IZ Y G).ret, IQ.si, IQ.sw, IQ.sr⟩
            rw [hf11'] at h
            exact h
          obtain ⟨s0⟩ : PLift (Z.cell? ⟨w.heap.size, 0, none⟩ = some (.slice sa L.length sc)) := ⟨cell_of_row Z _ 0 _ _ _ JS⟩
          obtain ⟨a0, a1, a2, a3, a4, a5, a6⟩ := J8.at7
          go_wp2_with (first
            | (go_at_call 6; (with_reducible refine (ck8 _ (Below.refl _ _)).mono ?_); rintro _ v1 ⟨rfl, g1⟩; have H1 := galloc g1 (.cells #[.int .i64 0, .int .i64 p8', .int .i64 i8, .int .i64 s8] 37); have K8 := Bk.new v1 #[.int .i64 0, .int .i64 p8', .int .i64 i8, .int .i64 s8] 37; have sx : (v1.alloc (.cells #[.int .i64 0, .int .i64 p8', .int .i64 i8, .int .i64 s8] 37)).cell? ⟨w.heap.size, 0, none⟩ = some (.slice sa L.length sc) := cell_of_row _ _ 0 _ _ _ (JS.keep H1); obtain ⟨x0, x1, x2, x3, x4, x5, x6⟩ := (J9.keep H1).at7)
            | (go_at_call 6; (with_reducible refine (ck9 _ H1).mono ?_); rintro _ v2 ⟨rfl, g2⟩; have H2 := galloc (gtrans H1 g2) (.cells #[.int .i64 0, .int .i64 p9', .int .i64 i9, .int .i64 s9] 37); have K9 := Bk.new v2 #[.int .i64 0, .int .i64 p9', .int .i64 i9, .int .i64 s9] 37; have K82 := (K8.keep g2).alloc (.cells #[.int .i64 0, .int .i64 p9', .int .i64 i9, .int .i64 s9] 37); have sy : (v2.alloc (.cells #[.int .i64 0, .int .i64 p9', .int .i64 i9, .int .i64 s9] 37)).cell? ⟨w.heap.size, 0, none⟩ = some (.slice sa L.length sc) := cell_of_row _ _ 0 _ _ _ (JS.keep H2); obtain ⟨y0, y1, y2, y3, y4, y5, y6⟩ := (J10.keep H2).at7)
            | (go_at_call 6; (with_reducible refine (ck10 _ H2).mono ?_); rintro _ v3 ⟨rfl, g3⟩; have H3 := galloc (gtrans H2 g3) (.cells #[.int .i64 0, .int .i64 p10', .int .i64 i10, .int .i64 s10] 37); have K10 := Bk.new v3 #[.int .i64 0, .int .i64 p10', .int .i64 i10, .int .i64 s10] 37; have K83 := (K82.keep g3).alloc (.cells #[.int .i64 0, .int .i64 p10', .int .i64 i10, .int .i64 s10] 37); have K93 := (K9.keep g3).alloc (.cells #[.int .i64 0, .int .i64 p10', .int .i64 i10, .int .i64 s10] 37); have sz : (v3.alloc (.cells #[.int .i64 0, .int .i64 p10', .int .i64 i10, .int .i64 s10] 37)).cell? ⟨w.heap.size, 0, none⟩ = some (.slice sa L.length sc) := cell_of_row _ _ 0 _ _ _ (JS.keep H3); obtain ⟨t0, t1, t2, t3, t4, t5, t6⟩ := (J11.keep H3).at7)
            | (go_at_call 6; (with_reducible refine (ck11 _ H3).mono ?_); rintro _ v4 ⟨rfl, g4⟩; have H4 := galloc (gtrans H3 g4) (.cells #[.int .i64 0, .int .i64 p11', .int .i64 i11, .int .i64 s11] 37); obtain ⟨m80, _⟩ := ((K83.keep g4).alloc (.cells #[.int .i64 0, .int .i64 p11', .int .i64 i11, .int .i64 s11] 37)).at4; obtain ⟨m90, _⟩ := ((K93.keep g4).alloc (.cells #[.int .i64 0, .int .i64 p11', .int .i64 i11, .int .i64 s11] 37)).at4; obtain ⟨m10, _⟩ := ((K10.keep g4).alloc (.cells #[.int .i64 0, .int .i64 p11', .int .i64 i11, .int .i64 s11] 37)).at4))
          go_ret
          exact ⟨rfl, gtrans JB H4⟩
      · have dx0 := decide_eq_false hx0
        go_upto_region 15 with fail
        generalize (wc.setCell ⟨b8, 3, none⟩ (.slice none 0 0)).setCell ⟨b9, 5, none⟩ (.string ⟨#[]⟩) = Z at *
        obtain ⟨nn, hnn, hnl⟩ : ∃ nn, q.ret.length = nn ∧ nn ≤ q.ret.length := ⟨_, rfl, by omega⟩
        obtain ⟨yy, hyy, hyl⟩ : ∃ yy, q.within = yy ∧ (yy = q.within ∨ (0 ≤ yy ∧ yy < q.within)) := ⟨_, rfl, .inl rfl⟩
        have J8 : Bk Z b8 #[.slice ai q.items.length ci, .int .i64 q.mode, .int .i64 q.after, .slice none 0 0, .int .i64 q.within, .string q.by_, .slice ar q.ret.length cr] 31 := D8
        have J9 : Bk Z b9 #[.slice ai q.items.length ci, .int .i64 q.mode, .int .i64 q.after, .slice aw q.wh.length cw, .int .i64 q.within, .string ⟨#[]⟩, .slice ar q.ret.length cr] 31 := D9
        have J10 : Bk Z b10 #[.slice ai q.items.length ci, .int .i64 q.mode, .int .i64 q.after, .slice aw q.wh.length cw, .int .i64 q.within, .string q.by_, .slice ar nn cr] 31 := by rw [← hnn]; exact D10
        have J11 : Bk Z b11 #[.slice ai q.items.length ci, .int .i64 q.mode, .int .i64 q.after, .slice aw q.wh.length cw, .int .i64 yy, .string q.by_, .slice ar q.ret.length cr] 31 := by rw [← hyy]; exact D11
        have JS := S3
        have JB := B5
        clear D8 D9 D10 D11 S3 B5 B4 Q2 a80 a81 a82 a83 a84 a85 a86 a90 a91 a92 a93 a94 a95 a96 d0 d1 d2 d3 d4 d5 d6 e0 e1 e2 e3 e4 e5 e6 p0 p1 p2 p3 p4 p5 p6 fr8 fr9 fr10 fr11 hnn hyy
        have HC8 := less_wh L q h0
        have HC9 := less_by L q h0
        have HC10 := less_ret L q nn hnl h0
        have HC11 : (chkE L { q with within := yy }).code = 0 := by
          rcases hyl with e | ⟨e1, e2⟩
          · rw [e]; exact h0
          · exact less_win L q yy e1 e2 h0
        have hf11 : fI yy := by
          rcases hyl with e | ⟨e1, e2⟩
          · rw [e]; exact hq.within
          · have := hq.within; unfold fI at this ⊢; omega
        obtain ⟨⟨z8, p8', i8, s8⟩, hf8⟩ : ∃ f, chkE L { q with wh := [] } = f := ⟨_, rfl⟩
        obtain ⟨⟨z9, p9', i9, s9⟩, hf9⟩ : ∃ f, chkE L { q with by_ := ⟨#[]⟩ } = f := ⟨_, rfl⟩
        obtain ⟨⟨z10, p10', i10, s10⟩, hf10⟩ : ∃ f, chkE L { q with ret := q.ret.take nn } = f := ⟨_, rfl⟩
        obtain ⟨⟨z11, p11', i11, s11⟩, hf11'⟩ : ∃ f, chkE L { q with within := yy } = f := ⟨_, rfl⟩
        rw [hf8] at HC8
        rw [hf9] at HC9
        rw [hf10] at HC10
        rw [hf11'] at HC11
        dsimp only at HC8 HC9 HC10 HC11
        subst HC8 HC9 HC10 HC11
        have IZ := fun Y (G : Below Z.heap.size Z Y) => IQ.keep (gtrans JB G)
        have ck8 : ∀ Y, Below Z.heap.size Z Y → Calls Tryd.prog 6 #[.agg #[.slice sa L.length sc], .agg #[.slice ai q.items.length ci, .int .i64 q.mode, .int .i64 q.after, .slice none 0 0, .int .i64 q.within, .string q.by_, .slice ar q.ret.length cr]] Y fun e w' => e = .returned (.agg #[.int .i64 0, .int .i64 p8', .int .i64 i8, .int .i64 s8]) ∧ Below Y.heap.size Y w' := fun Y G => by
          have h := check_any L { q with wh := [] } ⟨hq.n, hq.its, hq.mode, hq.after, hq.within, hq.by_, ⟨by simp, fun k => by simp; exact noNd_fit⟩, hq.r, hq.ret⟩ sa sc _ ai ci none 0 ar cr Y (K.keep (gtrans JB G)) (A.keep (gtrans JB G)) hsc ⟨rfl, (IZ Y G).its, fun i hi => absurd hi (Nat.not_lt_zero _), (IZ Y G).ret, IQ.si, ⟨Nat.le_refl _, fun _ => ⟨rfl, rfl⟩⟩, IQ.sr⟩
          rw [hf8] at h
          exact h
        have ck9 : ∀ Y, Below Z.heap.size Z Y → Calls Tryd.prog 6 #[.agg #[.slice sa L.length sc], .agg #[.slice ai q.items.length ci, .int .i64 q.mode, .int .i64 q.after, .slice aw q.wh.length cw, .int .i64 q.within, .string ⟨#[]⟩, .slice ar q.ret.length cr]] Y fun e w' => e = .returned (.agg #[.int .i64 0, .int .i64 p9', .int .i64 i9, .int .i64 s9]) ∧ Below Y.heap.size Y w' := fun Y G => by
          have h := check_any L { q with by_ := ⟨#[]⟩ } ⟨hq.n, hq.its, hq.mode, hq.after, hq.within, by show (0 : Nat) ≤ 140737488351232; omega, hq.wh, hq.r, hq.ret⟩ sa sc _ ai ci aw cw ar cr Y (K.keep (gtrans JB G)) (A.keep (gtrans JB G)) hsc ⟨rfl, (IZ Y G).its, (IZ Y G).wh, (IZ Y G).ret, IQ.si, IQ.sw, IQ.sr⟩
          rw [hf9] at h
          exact h
        have ck10 : ∀ Y, Below Z.heap.size Z Y → Calls Tryd.prog 6 #[.agg #[.slice sa L.length sc], .agg #[.slice ai q.items.length ci, .int .i64 q.mode, .int .i64 q.after, .slice aw q.wh.length cw, .int .i64 q.within, .string q.by_, .slice ar nn cr]] Y fun e w' => e = .returned (.agg #[.int .i64 0, .int .i64 p10', .int .i64 i10, .int .i64 s10]) ∧ Below Y.heap.size Y w' := fun Y G => by
          have hl : (q.ret.take nn).length = nn := by rw [List.length_take]; omega
          have h := check_any L { q with ret := q.ret.take nn } (take_fit hq nn) sa sc #[.slice ai q.items.length ci, .int .i64 q.mode, .int .i64 q.after, .slice aw q.wh.length cw, .int .i64 q.within, .string q.by_, .slice ar nn cr] ai ci aw cw ar cr Y (K.keep (gtrans JB G)) (A.keep (gtrans JB G)) hsc ⟨by show _ = _; dsimp only; rw [hl], (IZ Y G).its, (IZ Y G).wh, nss_take (IZ Y G).ret nn, IQ.si, IQ.sw, ⟨by show (q.ret.take nn).length ≤ cr; rw [hl]; omega, fun e => ⟨by have := (IQ.sr.2 e).1; show (q.ret.take nn).length = 0; rw [hl]; omega, (IQ.sr.2 e).2⟩⟩⟩
          rw [hf10] at h
          exact h
        have ck11 : ∀ Y, Below Z.heap.size Z Y → Calls Tryd.prog 6 #[.agg #[.slice sa L.length sc], .agg #[.slice ai q.items.length ci, .int .i64 q.mode, .int .i64 q.after, .slice aw q.wh.length cw, .int .i64 yy, .string q.by_, .slice ar q.ret.length cr]] Y fun e w' => e = .returned (.agg #[.int .i64 0, .int .i64 p11', .int .i64 i11, .int .i64 s11]) ∧ Below Y.heap.size Y w' := fun Y G => by
          have h := check_any L { q with within := yy } ⟨hq.n, hq.its, hq.mode, hq.after, hf11, hq.by_, hq.wh, hq.r, hq.ret⟩ sa sc _ ai ci aw cw ar cr Y (K.keep (gtrans JB G)) (A.keep (gtrans JB G)) hsc ⟨rfl, (IZ Y G).its, (IZ Y G).wh, (IZ Y G).ret, IQ.si, IQ.sw, IQ.sr⟩
          rw [hf11'] at h
          exact h
        obtain ⟨s0⟩ : PLift (Z.cell? ⟨w.heap.size, 0, none⟩ = some (.slice sa L.length sc)) := ⟨cell_of_row Z _ 0 _ _ _ JS⟩
        obtain ⟨a0, a1, a2, a3, a4, a5, a6⟩ := J8.at7
        go_wp2_with (first
          | (go_at_call 6; (with_reducible refine (ck8 _ (Below.refl _ _)).mono ?_); rintro _ v1 ⟨rfl, g1⟩; have H1 := galloc g1 (.cells #[.int .i64 0, .int .i64 p8', .int .i64 i8, .int .i64 s8] 37); have K8 := Bk.new v1 #[.int .i64 0, .int .i64 p8', .int .i64 i8, .int .i64 s8] 37; have sx : (v1.alloc (.cells #[.int .i64 0, .int .i64 p8', .int .i64 i8, .int .i64 s8] 37)).cell? ⟨w.heap.size, 0, none⟩ = some (.slice sa L.length sc) := cell_of_row _ _ 0 _ _ _ (JS.keep H1); obtain ⟨x0, x1, x2, x3, x4, x5, x6⟩ := (J9.keep H1).at7)
          | (go_at_call 6; (with_reducible refine (ck9 _ H1).mono ?_); rintro _ v2 ⟨rfl, g2⟩; have H2 := galloc (gtrans H1 g2) (.cells #[.int .i64 0, .int .i64 p9', .int .i64 i9, .int .i64 s9] 37); have K9 := Bk.new v2 #[.int .i64 0, .int .i64 p9', .int .i64 i9, .int .i64 s9] 37; have K82 := (K8.keep g2).alloc (.cells #[.int .i64 0, .int .i64 p9', .int .i64 i9, .int .i64 s9] 37); have sy : (v2.alloc (.cells #[.int .i64 0, .int .i64 p9', .int .i64 i9, .int .i64 s9] 37)).cell? ⟨w.heap.size, 0, none⟩ = some (.slice sa L.length sc) := cell_of_row _ _ 0 _ _ _ (JS.keep H2); obtain ⟨y0, y1, y2, y3, y4, y5, y6⟩ := (J10.keep H2).at7)
          | (go_at_call 6; (with_reducible refine (ck10 _ H2).mono ?_); rintro _ v3 ⟨rfl, g3⟩; have H3 := galloc (gtrans H2 g3) (.cells #[.int .i64 0, .int .i64 p10', .int .i64 i10, .int .i64 s10] 37); have K10 := Bk.new v3 #[.int .i64 0, .int .i64 p10', .int .i64 i10, .int .i64 s10] 37; have K83 := (K82.keep g3).alloc (.cells #[.int .i64 0, .int .i64 p10', .int .i64 i10, .int .i64 s10] 37); have K93 := (K9.keep g3).alloc (.cells #[.int .i64 0, .int .i64 p10', .int .i64 i10, .int .i64 s10] 37); have sz : (v3.alloc (.cells #[.int .i64 0, .int .i64 p10', .int .i64 i10, .int .i64 s10] 37)).cell? ⟨w.heap.size, 0, none⟩ = some (.slice sa L.length sc) := cell_of_row _ _ 0 _ _ _ (JS.keep H3); obtain ⟨t0, t1, t2, t3, t4, t5, t6⟩ := (J11.keep H3).at7)
          | (go_at_call 6; (with_reducible refine (ck11 _ H3).mono ?_); rintro _ v4 ⟨rfl, g4⟩; have H4 := galloc (gtrans H3 g4) (.cells #[.int .i64 0, .int .i64 p11', .int .i64 i11, .int .i64 s11] 37); obtain ⟨m80, _⟩ := ((K83.keep g4).alloc (.cells #[.int .i64 0, .int .i64 p11', .int .i64 i11, .int .i64 s11] 37)).at4; obtain ⟨m90, _⟩ := ((K93.keep g4).alloc (.cells #[.int .i64 0, .int .i64 p11', .int .i64 i11, .int .i64 s11] 37)).at4; obtain ⟨m10, _⟩ := ((K10.keep g4).alloc (.cells #[.int .i64 0, .int .i64 p11', .int .i64 i11, .int .i64 s11] 37)).at4))
        go_ret
        exact ⟨rfl, gtrans JB H4⟩

end Go.Proofs.YtaiebhfggjljiaaDoor
namespace Go.Proofs.YtaiebhfggjljiaaDoor.checkLess
open Go.ChangeShapes Go.WideShapes Go.ChangeAt Go.RowKit Go.BigFrame
set_option linter.unusedVariables false
set_option linter.unusedSimpArgs false

theorem walk (ao : Option Addr) (n cap : Nat) (L : List Ty) (wc : n ≤ cap) (q : Qy) (cs : Array Value) (ai : Option Addr) (ci : Nat) (aw : Option Addr) (cw : Nat) (ar : Option Addr) (cr : Nat) (x : Int) (hx : (Lit.int .i64 x).wf = true) (W : World) (K : KwAt W) (A : IsTypes W ao n L) (h40 : n * 40 ≤ 140737488351232) (h16 : ∀ j, (L.getD j noTy).2.length * 16 ≤ 140737488351232) (IQ : IsQ W q cs ai ci aw cw ar cr) (hq : q.fit) :
    Calls Tryd.prog 3 #[.agg #[.slice ao n cap], .agg cs, .int .i64 x] W fun e w' => e = .returned (.bool true) ∧ Below W.heap.size W w' := by
  have hn := A.1
  subst hn
  exact checkLess_walk L ao cap wc q hq cs ai ci aw cw ar cr x W K A IQ

theorem own : ownKnob Tryd.prog.godebug = none := by kernel_rfl
theorem laidOut : laidOutB Tryd.prog = true := by kernel_rfl
theorem cellsSchema : Tryd.prog.cellsOf 24 = 1 := by kernel_rfl

theorem gKw : Tryd.prog.globalNamed "sluice/api.Keywords" = some 0 := by kernel_rfl
theorem tabs {W : World} (h : laidMetH Tryd.prog Rows.checkLessRow.laid W) : KwAt W := by
  have h0 : laidMet Tryd.prog Rows.checkLessRow.laid W := (Go.MakeChecks.laidMetH_plain _ _ _ (by kernel_rfl)).mp h
  exact kwAt_of (tabS (bss := kwl) gKw (by kernel_rfl) Tryd.underlying94 Tryd.underlying9 (by kernel_rfl) (laidMet_tail h0))

set_option maxRecDepth 100000 in
theorem contract (H : Type) (enc : TypeId × Value → H) (W : World) (base : Nat) (args : Array Value) (ds gs : List (DataW H)) (before : List MemPlace)
    (hval : ∀ (j : Nat) t v, Tryd.f3.params[j]? = some t → args[j]? = some v → Value.okWide Tryd.prog W .any base t v)
    (hsz : (DataW.weightsEach Tryd.prog (Tryd.f3.params.toList ++ Rows.checkLessSpec.plain.varTypes Tryd.prog) (ds ++ gs)).all (· ≤ reachBytes) = true)
    (hW : DataW.Whole enc Tryd.prog Tryd.f3.params.toList Rows.checkLessSpec.vars false W args.toList ds gs before) (hL : laidMetH Tryd.prog Rows.checkLessRow.laid W) :
    Calls Tryd.prog 3 args W fun e W' => ∃ v, e = .returned v ∧ Rows.checkLessSpec.post enc Tryd.prog Tryd.f3 false true false false W args v W' := by
  have hW' := hW
  obtain ⟨p, q, hA0, hV, rfl, hfz, hnd⟩ := hW
  have hA : DataW.TrodAll enc Tryd.prog W 0 (fun _ => true) true Tryd.f3.params.toList args.toList ds p := hA0
  rw [Tryd.params3] at hA hval hsz
  obtain ⟨v0, vs0, d0, ds0, p0, q0, hargs, rfl, rfl, h0, r0⟩ := trodAll_cons hA
  obtain ⟨v1, vs1, d1, ds1, p1, q1, rfl, rfl, rfl, h1, r1⟩ := trodAll_cons r0
  obtain ⟨v2, vs2, d2, ds2, p2, q2, rfl, rfl, rfl, h2, r2⟩ := trodAll_cons r1
  obtain ⟨rfl, rfl, rfl⟩ := trodAll_nil r2
  obtain rfl : args = #[v0, v1, v2] := by cases args; simp_all
  obtain ⟨rfl, rfl⟩ := trodVars_none hV
  have k0 := h0
  have lt0 : ∀ x ∈ p0, x.block < W.heap.size := by obtain ⟨m, hm⟩ := k0; exact DataW.trod_lt m _ _ _ hm
  obtain ⟨ao0, n0, cap0, L0, e0, wc0, w0, wr0, ws0⟩ : ∃ ao n cap L, v0 = .agg #[.slice ao n cap] ∧ n ≤ cap ∧ IsTypes W ao n L ∧ n * 40 ≤ 140737488351232 ∧ ∀ j, (L.getD j noTy).2.length * 16 ≤ 140737488351232 := by
    obtain ⟨fuel, hf⟩ := h0
    obtain ⟨y0, m, e1, hl, g0⟩ := trod_struct1 Tryd.underlying24 hf
    obtain ⟨cs, hcs, hcz⟩ := okWide_struct Tryd.underlying24 (hval 0 24 v0 rfl rfl)
    subst hcs
    obtain ⟨c, hc⟩ := Array.size_eq_one_iff.1 (hcz.trans cellsSchema)
    subst hc
    have g0' : DataW.trod enc Tryd.prog W 0 (fun _ => true) true m 22 [c] = some y0 := g0
    obtain ⟨ao, n, cap, L, e2, e6, e3, e4, e5⟩ := open_types g0' (fun b hb => by
      have h1 := List.all_eq_true.1 hsz b (DataW.weights_mem_each (j := 0) (t := 24) rfl (congrArg some (congrArg Prod.fst e1)) b (by
        simp only [DataW.weights, Tryd.underlying24, DataW.weightsEach, List.mem_append]
        simp [DataW.weightsEach, hb]))
      simpa using h1)
    subst e2
    exact ⟨ao, n, cap, L, rfl, e6, e3, e4, e5⟩
  subst e0
  have k1 := h1
  have lt1 : ∀ x ∈ p1, x.block < W.heap.size := by obtain ⟨m, hm⟩ := k1; exact DataW.trod_lt m _ _ _ hm
  obtain ⟨q1, cs1, ai1, ci1, aw1, cw1, ar1, cr1, e1, w1, ws1⟩ : ∃ q cs ai ci aw cw ar cr, v1 = .agg cs ∧ IsQ W q cs ai ci aw cw ar cr ∧ q.fit := by
    obtain ⟨cs, hcs, hcz⟩ := okWide_struct Tryd.underlying31 (hval 1 31 v1 rfl rfl)
    subst hcs
    obtain ⟨fuel, hf⟩ := h1
    have hf' : DataW.trod enc Tryd.prog W 0 (fun _ => true) true fuel 31 cs.toList = some (d1, p1) := hf
    obtain ⟨q, ai, ci, aw, cw, ar, cr, h1, h2⟩ := open_query (hcz.trans cellsQy) hf' (fun b hb => by
      have h1 := List.all_eq_true.1 hsz b (DataW.weights_mem_each (j := 1) (t := 31) rfl rfl b hb)
      simpa using h1)
    exact ⟨q, cs, ai, ci, aw, cw, ar, cr, rfl, h1, h2⟩
  subst e1
  have k2 := h2
  have lt2 : ∀ x ∈ p2, x.block < W.heap.size := by obtain ⟨m, hm⟩ := k2; exact DataW.trod_lt m _ _ _ hm
  obtain ⟨a2, e2, _, _, w2⟩ := open_int Tryd.underlying2 (hval 2 2 v2 rfl rfl) h2
  subst e2
  clear hA0
  refine (walk ao0 n0 cap0 L0 wc0 q1 cs1 ai1 ci1 aw1 cw1 ar1 cr1 a2 w2 W (tabs hL) w0 wr0 ws0 w1 ws1).mono fun e W' ⟨he, bel⟩ => ?_
  subst he
  exact ⟨_, rfl, _, _, _, [], _, [], hW', trodAll_mk1 (shut_bool Tryd.underlying4 _), (trodAll_cons_mk (Below.trod laidOut (by kernel_rfl) (of_decide_eq_true (by kernel_rfl)) k0 bel lt0) (trodAll_cons_mk (Below.trod laidOut (by kernel_rfl) (of_decide_eq_true (by kernel_rfl)) k1 bel lt1) (trodAll_cons_mk (Below.trod laidOut (by kernel_rfl) (of_decide_eq_true (by kernel_rfl)) k2 bel lt2) trodAll_mk0))), rfl, bel.frame _, fun h => by cases h⟩

/-- For the world of the witness: the settled one, the tables holding what their text lays. -/
def put (c : Array Value) : Obj → Obj
  | .cells _ t frozen => .cells c t frozen
  | x => x
theorem laid_met (os : Os) : laidMet Tryd.prog Rows.checkLessRow.laid ((World.laidAll Tryd.prog os Rows.checkLessRow.laid).forCall (fun _ _ => 0) ⟨#[], #[.agg #[.slice none 0 0], .agg #[.slice none 0 0, .int .i64 0, .int .i64 0, .slice none 0 0, .int .i64 0, .string ByteArray.empty, .slice none 0 0], .int .i64 0], []⟩).memory :=
  laidMet_laidAll _ (by kernel_rfl) (by kernel_rfl)
theorem reads (os : Os) {H : Type} (enc : TypeId × Value → H) : ∃ places, DataW.whole enc Tryd.prog ((World.laidAll Tryd.prog os Rows.checkLessRow.laid).forCall (fun _ _ => 0) ⟨#[], #[.agg #[.slice none 0 0], .agg #[.slice none 0 0, .int .i64 0, .int .i64 0, .slice none 0 0, .int .i64 0, .string ByteArray.empty, .slice none 0 0], .int .i64 0], []⟩).memory Tryd.f3.params.toList Rows.checkLessSpec.vars false (#[.agg #[.slice none 0 0], .agg #[.slice none 0 0, .int .i64 0, .int .i64 0, .slice none 0 0, .int .i64 0, .string ByteArray.empty, .slice none 0 0], .int .i64 0] : Array Value).toList 8 = some ([.agg [.nil], .agg [.nil, .lit (.int .i64 0), .lit (.int .i64 0), .nil, .lit (.int .i64 0), .lit (.string []), .nil], .lit (.int .i64 0)], [], places) :=
  ⟨[], by kernel_rfl⟩

set_option maxRecDepth 100000 in
theorem lifted (os : Os) (started : os.Started) (H : Type) (enc : TypeId × Value → H) (F : Stop.Interp) :
    ReturnsInHanded {} Tryd.checked os 3 .any ((OpenSpec.ofChange Rows.checkLessSpec).preRow enc Tryd.prog Tryd.f3 Rows.checkLessRow.domain false Rows.checkLessRow.laid) (((OpenSpec.ofChange Rows.checkLessSpec).at F).post enc Tryd.prog Tryd.f3 false true false false) := by
  obtain ⟨places, hx⟩ := reads os enc
  refine returnsInHanded_of_row (C := Tryd.checked) (s := OpenSpec.ofChange Rows.checkLessSpec) own started (by kernel_rfl) Tryd.func3
    ⟨(World.laidAll Tryd.prog os Rows.checkLessRow.laid), fun _ _ => 0, ⟨#[], #[.agg #[.slice none 0 0], .agg #[.slice none 0 0, .int .i64 0, .int .i64 0, .slice none 0 0, .int .i64 0, .string ByteArray.empty, .slice none 0 0], .int .i64 0], []⟩, World.laidAll_os _ _ _, World.shaped_of_ZipB (by kernel_rfl) (by kernel_rfl), rfl, (Input.okWide_of_okWideB (show Input.okWideB Tryd.prog ((World.laidAll Tryd.prog os Rows.checkLessRow.laid).forCall (fun _ _ => 0) ⟨#[], #[.agg #[.slice none 0 0], .agg #[.slice none 0 0, .int .i64 0, .int .i64 0, .slice none 0 0, .int .i64 0, .string ByteArray.empty, .slice none 0 0], .int .i64 0], []⟩) 3 ⟨#[], #[.agg #[.slice none 0 0], .agg #[.slice none 0 0, .int .i64 0, .int .i64 0, .slice none 0 0, .int .i64 0, .string ByteArray.empty, .slice none 0 0], .int .i64 0], []⟩ = true by kernel_rfl)).2,
      OpenSpec.preRow_of_cond 8 hx (by kernel_rfl) (fun k hk => by cases hk) (by kernel_rfl) (laid_met os),
      by simp only [Assume.holds]; exact ⟨by simp, by simp, by simp, by simp, by simp⟩⟩ ?_
  intro W base args ds gs before hval hW _ _ hsz hL _ _
  exact contract H enc W base args ds gs before hval hsz hW hL

theorem said : Rows.CheckLessSaid :=
  OpenClaim.holds_of_cond 3 Tryd.f3 rfl rfl rfl rfl rfl rfl rfl ⟨rfl, rfl, rfl, rfl, rfl⟩ rfl rfl rfl rfl rfl (by kernel_rfl) Tryd.func3 (by kernel_rfl)
    (of_decide_eq_true (by kernel_rfl)) (by unfold Func.isWrapper; first | (rw [if_pos (by decide +kernel)]; kernel_rfl) | (rw [if_neg (by decide +kernel)]; exact ⟨rfl, rfl⟩))
    (fun os started H enc _ F => by rw [OpenClaim.pre_eq_preRow]; exact lifted os started H enc F)

theorem plain (f : FuncId) (fn : Func) (hf : Tryd.pinned.checked.prog.funcNamed "sluice/sluicelaw6.CheckLess" = some f) (hfn : Tryd.pinned.checked.prog.funcs[f]? = some fn) :
    false = Tryd.pinned.checked.prog.looks [] ∧ ∀ (j : Nat) t, fn.params[j]? = some t → Tryd.pinned.checked.prog.wantsStandIn t = false := by
  obtain rfl : f = 3 := Option.some.inj ((show Tryd.prog.funcNamed "sluice/sluicelaw6.CheckLess" = some 3 by kernel_rfl).symm.trans hf) |>.symm
  obtain rfl : fn = Tryd.f3 := (Option.some.inj (Tryd.func3.symm.trans hfn)).symm
  refine ⟨by kernel_rfl, fun j t ht => ?_⟩
  rw [Tryd.params3] at ht
  have hm : t = 24 ∨ t = 31 ∨ t = 2 := by simpa using Array.mem_of_getElem? ht
  rcases hm with rfl | rfl | rfl
  · exact (show Tryd.prog.wantsStandIn 24 = false by kernel_rfl)
  · exact (show Tryd.prog.wantsStandIn 31 = false by kernel_rfl)
  · exact (show Tryd.prog.wantsStandIn 2 = false by kernel_rfl)

end Go.Proofs.YtaiebhfggjljiaaDoor.checkLess
namespace Go.Proofs.YtaiebhfggjljiaaDoor
theorem checkLess_holds : Rows.CheckLessCardSaid :=
  Claim7.holds_tied_plain_at .later [] _ _ _ _ checkLess.said (fun _ h => by cases h) (by kernel_rfl) (fun _ h => by cases h) checkLess_row_tie rfl ⟨rfl, rfl⟩ (by kernel_rfl) rfl checkLess.plain (by kernel_rfl)
#print axioms checkLess_holds
end Go.Proofs.YtaiebhfggjljiaaDoor
