/- For every list of events and every script of pops the law PileLeast returns true: what Pop answers is held, is before or even with all that stay, and just it is gone. No condition. -/
import Derived.Test.YtoheombjbndolaaHll
import Derived.Carry
import Derived.ChangeMaps5
import Derived.SizedLaws
import Derived.Lib.SmallJoins
import Derived.Deep.DeepHandedRow
namespace Go.Proofs.Ytoheombjbndolaa.pileLeast
open Go.ChangeShapes Go.WideShapes Go.ChangeAt Go.RowKit Go.BigFrame
set_option linter.unusedVariables false
set_option linter.unusedSimpArgs false

abbrev zA : Array Value := #[.int .i64 0, .int .u64 0, .int .i64 0, .int .i64 0, .int .i64 0, .int .i64 0, .int .i64 0, .int .i64 0, .int .i64 0, .int .i64 0, .int .i64 0]
/-- At the round i: L is held. -/
structure Lst (M : List Ev) (u : World) (pp : Nat) (vn vi : Value) (wr : World) : Prop where
  ex : ∃ (i : Nat) (v : Value) (L : List (Ev × Nat)), i ≤ M.length ∧ vi = .int .i64 (i : Int) ∧ vn = .int .i64 (L.length : Int) ∧ L.length ≤ i ∧ In M i L ∧ evPa wr pp (pp + 1) v L i ∧ wr.rowIs (pp + 1) 4 M.length (fun k => .bool (hel L k)) ∧ Below pp u wr
set_option maxRecDepth 100000 in
set_option maxHeartbeats 4000000 in
theorem walk (ao : Option Addr) (cap : Nat) (l : List Ev) (aq : Option Addr) (cq : Nat) (pl : List Bool) (w : World) (hsl : Sl ao l.length cap) (F : Flat w ao (fl evC l)) (hl : l.length * 88 ≤ 140737488351232) (ok : ∀ k, (l.getD k zeroE).ok) (hsq : Sl aq pl.length cq) (Fq : Flat w aq (fl blC pl)) (hlq : pl.length * 1 ≤ 140737488351232) (okq : ∀ k, (fun _ => True) (pl.getD k false)) : Calls Try.prog 3 #[.slice ao l.length cap, .slice aq pl.length cq] w fun e w' => e = .returned (.bool true) ∧ Below w.heap.size w w' := by
  have c1 := marked_any ao cap l w F hl
  have hml := mkd_len l
  have hMt := mkd_at l
  generalize mkd l = M at *
  rw [← hml] at c1 hl ⊢
  clear hml hsl F ok hsq okq
  have hptr : ∀ (b : Nat) (W : World), (binOp .eql 25 (.pointer (some ⟨b, 0, none⟩)) (.pointer none)).run Try.prog W = .ok (.bool false) W := fun b W => by kernel_rfl
  go_enter Try.func3, Try.ntmps3
  go_upto_region 5 with (first
    | (go_at_call 9; (with_reducible refine c1.mono ?_); rintro e u ⟨a, c, rfl, O1, G1⟩; have c0 := evNew u; have P0 := evPa_new u; have B0 := galloc (Below.refl u.heap.size u) (.cells #[.slice none 0 0, .int .i64 0] 57); have hW0s : (u.alloc (.cells #[.slice none 0 0, .int .i64 0] 57)).heap.size = u.heap.size + 1 := Array.size_push _; generalize hW0 : u.alloc (.cells #[.slice none 0 0, .int .i64 0] 57) = W0 at *)
    | (go_at_call 10; (with_reducible refine c0.mono ?_); rintro e u1 ⟨rfl, hu⟩; have hu' := hu.symm; subst hu'))
  have hmk := run_make_row' (P := Try.prog) 23 4 (.bool false) 1 Try.underlying23 infoB rfl .i64 .i64 M.length (by omega) (by omega) W0
  have R0 := World.rowIs_made W0 (.bool false) M.length 4
  have G0 := galloc (Below.refl W0.heap.size W0) (.cells (madeCells #[.bool false] M.length) 4)
  have P1 := P0.keep G0
  have B1 := gtrans B0 (G0.mono (by omega))
  generalize hpp : u.heap.size = pp at *
  rw [hW0s] at hmk R0
  generalize hW1 : W0.alloc (.cells (madeCells #[.bool false] M.length) 4) = W1 at *
  have R0 : W1.rowIs (pp + 1) 4 M.length (fun k => .bool (hel [] k)) := R0
  clear P0 B0 G0 hW0 hW1 c0 c1 hW0s
  go_upto_region 8 with fail
  go_loopw [8, 9, 10, 11, 12, 13, 14] (fun vn vi _ _ _ _ _ wr => Lst M u pp vn vi wr) (fun _ vi _ _ _ _ _ _ => M.length - (intOf vi).toNat)
  case atStart => exact ⟨0, _, [], Nat.zero_le _, rfl, rfl, Nat.le_refl _, fun y hy => by simp at hy, P1, R0, B1⟩
  case round =>
    obtain ⟨⟨i, v, L, hi, rfl, rfl, hLi, hIn, P, R, B⟩⟩ := hrel
    clear P1 R0 B1 hmk
    have B' : Below u.heap.size u wr := by rw [hpp]; exact B
    have O2 := own_keep O1 B'
    by_cases hlt : i < M.length
    · obtain ⟨g, o, rfl, hgl, _⟩ := (own_flat O2).form (by rw [fl_len ev_size]; omega)
      have rx := flat_range ev_size zrEv (own_flat O2) i hlt
      have hIn1 := hIn.ins (ahd evLt) hlt
      obtain ⟨x, hx⟩ : ∃ x, M.getD i zrEv = x := ⟨_, rfl⟩
      rw [hx] at rx hIn1
      have HT : Hid (i < M.length) := hlt
      have HL : Hid (L.length ≤ i) := hLi
      have q1 : (i : Int) < (M.length : Int) := by omega
      have hz : pp + 1 ≤ wr.heap.size := P.blk.lt
      have c9 := evPush pp (pp + 1) i v L x wr P (by omega) hz (by omega) (fun e => by subst e; exact List.length_eq_zero_iff.1 (by omega))
      have hl2 : (ins (ahd evLt) (x, i) L).length = L.length + 1 := ins_len _ _
      have hel2 := hel_ins (ahd evLt) x i L
      have HL2 : Hid ((ins (ahd evLt) (x, i) L).length = L.length + 1) := hl2
      clear hlt hx hIn hl2
      go_upto_region 13 with (first
        | (refine wpList_load_mid rfl 30 _ rfl g (o + i * 11) rfl (evC x).toList _ rx Try.underlying30 rfl infoEv ?_)
        | (go_at_call 11; (with_reducible refine c9.mono ?_); rintro e u2 ⟨rfl, v2, P9, G9, V9⟩; have R9 := G9.rowIs P R (by decide) (by decide); have hlt : i < M.length := HT; have f9 := R9.frozen i; have d9 := R9.cell hlt; clear hlt))
      have B2 := G9.toBelow B (by omega) (Nat.le_refl _) (fun g e => by have := (P.low g e).1; omega)
      have P2 := P9.setRow R9 (by decide) (by decide) i (.bool true)
      have R2 := (R9.set i (.bool true)).congr (g := fun k => .bool (hel (ins (ahd evLt) (x, i) L) k)) (fun j hj => by rw [hel2]; split <;> rfl)
      have B3 : Below pp u (u2.setCell ⟨pp + 1, i, none⟩ (.bool true)) := by
        have B2' : Below u.heap.size u u2 := by rw [hpp]; exact B2
        have := gset B2' (p := ⟨pp + 1, i, none⟩) (by rw [hpp]; exact Nat.le_succ _) (.bool true)
        rwa [hpp] at this
      generalize u2.setCell ⟨pp + 1, i, none⟩ (.bool true) = X1 at *
      generalize ins (ahd evLt) (x, i) L = L2 at *
      clear P9 G9 V9 R9 f9 d9 B2 c9 P R B B' O2 rx hel2 hgl hz
      have B4 : Below u.heap.size u X1 := by rw [hpp]; exact B3
      have hsz2 : 0 < L2.length := by have : L2.length = L.length + 1 := HL2; omega
      have hl2 : L2.length = L.length + 1 := HL2
      have hlt : i < M.length := HT
      have E2 : (L.length : Int) + 1 = (L2.length : Int) := by omega
      by_cases hq : i < pl.length
      · obtain ⟨gq, oq, rfl, hgq, hcq⟩ := (Fq.keep (gtrans G1 B4)).form (by rw [fl_len (sz := 1) (fun _ => rfl)]; omega)
        have dq := hcq i (.bool (pl.getD i false)) (by have := fl_at (cv := blC) (sz := 1) (fun _ => rfl) false pl i 0 hq (by omega); rw [Nat.mul_one, Nat.add_zero] at this; rw [this]; rfl)
        have k1 : decide ((pl.length : Int) ≤ (i : Int)) = false := by simp; omega
        have k2 : decide (pl.length ≤ i) = false := by simp; omega
        have k3 : (i : Int) < (pl.length : Int) := by omega
        clear hcq
        cases hb : pl.getD i false with
        | false =>
          rw [hb] at dq
          clear hl2 hlt hq hsz2 E2 hb
          go_wp2
          go_roundw
          case rel =>
            have hl2 : L2.length = L.length + 1 := HL2
            have hLi : L.length ≤ i := HL
            have hlt : i < M.length := HT
            exact ⟨i + 1, v2, L2, by omega, by go_num, by go_num, by omega, hIn1, P2, R2, B3⟩
          case measure => have hlt : i < M.length := HT; simp [intOf]; omega
        | true =>
          rw [hb] at dq
          obtain ⟨⟨y, k⟩, T, rfl⟩ : ∃ y T, L2 = y :: T := head_some (z := (zrEv, 0)) hsz2
          have hs := P2.sorted.1
          have hk : M[k]? = some y ∧ k < i + 1 := hIn1 (y, k) List.mem_cons_self
          have hty : y.typ = (k : Int) := hMt k y hk.1
          have hkM : k < M.length := by omega
          have hMk : M.getD k zrEv = y := by rw [List.getD_eq_getElem?_getD, hk.1]; rfl
          have hTl : T.length = L.length := by simpa using hl2
          have cpop : Calls Try.prog 12 #[.pointer (some ⟨pp, 0, none⟩)] X1 fun e w' => e = .returned (.tuple #[.agg (evC y), .bool true]) ∧ ∃ v', evPa w' pp (pp + 1) v' T (i + 1) ∧ Gb pp v2 X1 w' ∧ (∀ g, v'.ownBlock = some g → v2.ownBlock = some g) := by
            have := evPopA pp (pp + 1) (i + 1) v2 ((y, k) :: T) X1 P2 (by omega)
            have e : decide (0 < ((y, k) :: T).length) = true := decide_eq_true (by simp)
            rw [e] at this
            exact this
          have sx := ev_one1 y
          have hx7 : hel ((y, k) :: T) k = true := hel_true.2 ⟨_, List.mem_cons_self, rfl⟩
          have HTL : Hid (T.length = L.length) := hTl
          have HTY : Hid (y.typ = (k : Int)) := hty
          clear hl2 hlt hq hsz2 E2 hb hTl
          go_upto_region 15 with (first
            | (go_at_call 12; (with_reducible refine cpop.mono ?_); rintro e u5 ⟨rfl, v5, P5, G5, V5⟩; have bz := Bk.new u5 zA 30; have th := bz.there; have b5 := bz.setCells (cs' := evC y) rfl; have G6 := gsetCells (galloc (Below.refl u5.heap.size u5) (.cells zA 30)) (Nat.le_refl _) (evC y).toList 0; generalize hX5 : (u5.alloc (.cells zA 30)).setCells u5.heap.size 0 (evC y).toList = X5 at *)
            | (refine wpList_store_mid rfl 30 _ _ rfl u5.heap.size 0 (evC y) rfl rfl th infoEv sx ?_; rw [hX5]))
          have R4 := G5.rowIs P2 R2 (by decide) (by decide)
          have hpu := R4.lt
          have R5 := R4.of_block (G6.block _ hpu)
          have B5 : Below u.heap.size u u5 := by
            rw [hpp]; exact G5.toBelow B3 (by omega) (Nat.le_refl _) (fun g e => by have := (P2.low g e).1; omega)
          have B6 := gtrans B5 G6
          have P6 := P5.keep G6
          have rk := flat_range ev_size zrEv ((own_flat O1).keep B6) k hkM
          rw [hMk] at rk
          have r5 := b5.range
          have ty : X5.cell? ⟨u5.heap.size, 2, none⟩ = some (.int .i64 y.typ) := cell_of_row X5 _ 2 _ _ _ b5
          rw [hty] at ty
          have cs := R5.cell hkM
          rw [hx7] at cs
          have d1 : decide ((k : Int) < 0) = false := by simp
          have d2 : decide ((M.length : Int) ≤ (k : Int)) = false := by simp; omega
          have d3 : decide (M.length ≤ k) = false := by simp; omega
          have q2 : (k : Int) < (M.length : Int) := by omega
          have hRl := R5.lt
          have p0 := fun z : Ext X5 => (z.cell _ _ hRl).trans cs
          have p1 := fun z : Ext X5 => (z.cell _ _ b5.lt).trans ty
          have hne0 : Nonempty (Ext X5) := ⟨⟨_, Below.refl _ _⟩⟩
          clear hX5 th bz cpop P2 R2 B3 B4 G5 V5 R4 P5 G6 dq hty hMk hx7
          refine wp_region_ext (by kernel_rfl) (by kernel_rfl) ?_
          repeat (first
            | (refine wpQuiet_load_mid rfl 30 (.tmp 10) rfl u5.heap.size 0 rfl (evC y) _ (fun X hX => by obtain ⟨nx, rfl⟩ := hX; exact rangeAt_keep r5 nx.h) Try.underlying30 rfl infoEv _ rfl ?_; simp only [Act.put, List.setIfInBounds_toArray, List.set_cons_succ, List.set_cons_zero])
            | (refine wpQuiet_load_mid rfl 30 (.tmp 83) rfl g (o + k * 11) rfl (evC y) _ (fun X hX => by obtain ⟨nx, rfl⟩ := hX; exact rangeAt_keep rk nx.h) Try.underlying30 rfl infoEv _ rfl ?_; simp only [Act.put, List.setIfInBounds_toArray, List.set_cons_succ, List.set_cons_zero])
            | (refine quiet_neq_same rfl (.tmp 79) (.tmp 84) 30 rfl evGuard (evC y) (ev_eq y) rfl rfl _ rfl ?_; simp only [Act.put, List.setIfInBounds_toArray, List.set_cons_succ, List.set_cons_zero])
            | go_big_quiet_step (fail))
          refine wpQuiet_nil ?_
          intro _ hw'
          obtain ⟨nx, hw''⟩ := hw'
          subst hw''
          have R6 := R5.of_block (nx.h.block _ hRl)
          have b6 := b5.keep nx.h
          have B7 := gtrans B6 nx.h
          have P7 := P6.keep nx.h
          have t6 : nx.X.cell? ⟨u5.heap.size, 2, none⟩ = some (.int .i64 (k : Int)) := by
            have : nx.X.cell? ⟨u5.heap.size, 2, none⟩ = some (.int .i64 y.typ) := cell_of_row nx.X _ 2 _ _ _ b6
            rwa [show y.typ = (k : Int) from HTY] at this
          have f6 := R6.frozen k
          have c6 := R6.cell hkM
          have P8 := P7.setRow R6 (by decide) (by decide) k (.bool false)
          have R7 := (R6.set k (.bool false)).congr (g := fun j => .bool (hel T j)) (fun j hj => by rw [hel_tail hIn1 hs j]; split <;> rfl)
          have b7 := b6.other (b' := pp + 1) (by omega) k (.bool false)
          have B8 := gset B7 (p := ⟨pp + 1, k, none⟩) (by rw [hpp]; exact Nat.le_succ _) (.bool false)
          generalize hX7 : nx.X.setCell ⟨pp + 1, k, none⟩ (.bool false) = X7 at *
          clear p0 p1 cs ty r5 rk R5 b5 B6 P6 hRl hpu
          go_upto_region 20 with fail
          clear R6 b6 B7 P7 t6 f6 c6 hX7
          go_loopw [12, 13, 14] (fun vj _ _ wx => ∃ j : Nat, j ≤ i + 1 ∧ vj = .int .i64 (j : Int) ∧ Below X7.heap.size X7 wx) (fun vj _ _ _ => i + 1 - (intOf vj).toNat)
          case atStart => exact ⟨0, Nat.zero_le _, rfl, Below.refl _ _⟩
          case round =>
            obtain ⟨j, hj, rfl, GJ⟩ := hrel
            have hlt : i < M.length := HT
            by_cases hji : j ≤ i
            · have k5 : (j : Int) ≤ (i : Int) := by omega
              have k6 : decide ((j : Int) ≤ (i : Int)) = true := by simp; omega
              have k7 : decide (j ≤ i) = true := by simp; omega
              have hjM : j < M.length := by omega
              have q3 : (j : Int) < (M.length : Int) := by omega
              have RJ := R7.of_block (GJ.block _ R7.lt)
              have dj := RJ.cell hjM
              cases hh : hel T j with
              | false =>
                rw [hh] at dj
                have HJ : Hid (j ≤ i) := hji
                clear hji hh
                go_wp2
                go_roundw
                case rel => have hji : j ≤ i := HJ; exact ⟨j + 1, by omega, by go_num, GJ⟩
                case measure => have hji : j ≤ i := HJ; simp [intOf]; omega
              | true =>
                rw [hh] at dj
                have hst := stays hIn1 hs j hh
                have BJ := gtrans B8 GJ
                have rj := flat_range ev_size zrEv ((own_flat O1).keep BJ) j hjM
                obtain ⟨z, hz⟩ : ∃ z, M.getD j zrEv = z := ⟨_, rfl⟩
                rw [hz] at rj hst
                have bJ := b7.keep GJ
                have ry := bJ.range
                obtain ⟨bl, hbl⟩ : ∃ bl, evLt y z = bl := ⟨_, rfl⟩
                have cA := fun U : World => lawBefore_any z y U
                have cB := fun U : World => lawBefore_any y z U
                rw [hst.1] at cA
                rw [hbl] at cB hst
                have HO : Hid (bl = true ∨ k ≤ j) := hst.2
                have HJ : Hid (j ≤ i) := hji
                clear hji hh hst hz hbl
                go_upto_region 23 with fail
                have hneX : Nonempty (Ext wr) := ⟨⟨_, Below.refl _ _⟩⟩
                have c1 : ∀ z1 : Ext wr, Calls Try.prog 13 #[.agg (evC z), .agg (evC y)] z1.X (fun e w'' => e = .returned (.bool false) ∧ ∃ m : Ext wr, w'' = m.X) := fun z1 => ext_of (cA z1.X)
                refine wp_region_ext (by kernel_rfl) (by kernel_rfl) ?_
                repeat (first
                  | (refine wpQuiet_load_mid rfl 30 (.tmp 104) rfl g (o + j * 11) rfl (evC z) _ (fun X hX => by obtain ⟨nx, rfl⟩ := hX; exact rangeAt_keep rj nx.h) Try.underlying30 rfl infoEv _ rfl ?_; simp only [Act.put, List.setIfInBounds_toArray, List.set_cons_succ, List.set_cons_zero])
                  | (refine wpQuiet_load_mid rfl 30 (.tmp 10) rfl u5.heap.size 0 rfl (evC y) _ (fun X hX => by obtain ⟨nx, rfl⟩ := hX; exact rangeAt_keep ry nx.h) Try.underlying30 rfl infoEv _ rfl ?_; simp only [Act.put, List.setIfInBounds_toArray, List.set_cons_succ, List.set_cons_zero])
                  | go_big_quiet_step (first | (go_at_call 13; with_reducible exact c1 _)))
                refine wpQuiet_nil ?_
                intro _ hw'
                obtain ⟨nx2, hw''⟩ := hw'
                subst hw''
                have rj2 := rangeAt_keep rj nx2.h
                have ry2 := rangeAt_keep ry nx2.h
                have bJ2 := bJ.keep nx2.h
                have GJ2 := gtrans GJ nx2.h
                generalize nx2.X = X8 at *
                clear c1 hneX
                go_upto_region 24 with fail
                have hneX : Nonempty (Ext X8) := ⟨⟨_, Below.refl _ _⟩⟩
                have c2 : ∀ z1 : Ext X8, Calls Try.prog 13 #[.agg (evC y), .agg (evC z)] z1.X (fun e w'' => e = .returned (.bool bl) ∧ ∃ m : Ext X8, w'' = m.X) := fun z1 => ext_of (cB z1.X)
                refine wp_region_ext (by kernel_rfl) (by kernel_rfl) ?_
                repeat (first
                  | (refine wpQuiet_load_mid rfl 30 (.tmp 10) rfl u5.heap.size 0 rfl (evC y) _ (fun X hX => by obtain ⟨nx, rfl⟩ := hX; exact rangeAt_keep ry2 nx.h) Try.underlying30 rfl infoEv _ rfl ?_; simp only [Act.put, List.setIfInBounds_toArray, List.set_cons_succ, List.set_cons_zero])
                  | (refine wpQuiet_load_mid rfl 30 (.tmp 111) rfl g (o + j * 11) rfl (evC z) _ (fun X hX => by obtain ⟨nx, rfl⟩ := hX; exact rangeAt_keep rj2 nx.h) Try.underlying30 rfl infoEv _ rfl ?_; simp only [Act.put, List.setIfInBounds_toArray, List.set_cons_succ, List.set_cons_zero])
                  | go_big_quiet_step (first | (go_at_call 13; with_reducible exact c2 _)))
                refine wpQuiet_nil ?_
                intro _ hw'
                obtain ⟨nx3, hw''⟩ := hw'
                subst hw''
                have bJ3 := bJ2.keep nx3.h
                have GJ3 := gtrans GJ2 nx3.h
                generalize nx3.X = X9 at *
                have t9 : X9.cell? ⟨u5.heap.size, 2, none⟩ = some (.int .i64 (k : Int)) := by
                  have : X9.cell? ⟨u5.heap.size, 2, none⟩ = some (.int .i64 y.typ) := cell_of_row X9 _ 2 _ _ _ bJ3
                  rwa [show y.typ = (k : Int) from HTY] at this
                clear c2 hneX cA cB
                cases bl
                · have hle : k ≤ j := by have : false = true ∨ k ≤ j := HO; simpa using this
                  have k8 : decide ((j : Int) < (k : Int)) = false := by simp; omega
                  have k9 : decide (j < k) = false := by simp; omega
                  clear hle
                  go_wp2
                  go_roundw
                  case rel => have hji : j ≤ i := HJ; exact ⟨j + 1, by omega, by go_num, GJ3⟩
                  case measure => have hji : j ≤ i := HJ; simp [intOf]; omega
                · go_wp2
                  go_roundw
                  case rel => have hji : j ≤ i := HJ; exact ⟨j + 1, by omega, by go_num, GJ3⟩
                  case measure => have hji : j ≤ i := HJ; simp [intOf]; omega
            · have k5 : ¬ (j : Int) ≤ (i : Int) := by omega
              have k6 : decide ((j : Int) ≤ (i : Int)) = false := by simp; omega
              have k7 : decide (j ≤ i) = false := by simp; omega
              have PJ := P8.keep GJ
              have cL := evLenA pp (pp + 1) (i + 1) v5 T wr PJ
              rw [show T.length = L.length from HTL] at cL
              have RJ := R7.of_block (GJ.block _ R7.lt)
              have BJ := gtrans B8 GJ
              clear hlt hji hj
              go_wp2_with (first
                | (go_at_call 14; (with_reducible refine cL.mono ?_); rintro e u6 ⟨rfl, hu6⟩; have hu6' := hu6.symm; subst hu6'))
              go_roundw
              case rel =>
                have hTl : T.length = L.length := HTL
                have hlt : i < M.length := HT
                rw [hpp] at BJ
                exact ⟨i + 1, v5, T, by omega, by go_num, by rw [hTl], by omega, hIn1.tail, PJ, RJ, BJ⟩
              case measure => have hlt : i < M.length := HT; simp [intOf]; omega
      · have k1 : decide ((pl.length : Int) ≤ (i : Int)) = true := by simp; omega
        have k2 : decide (pl.length ≤ i) = true := by simp; omega
        clear hl2 hlt hq hsz2 E2
        go_wp2
        go_roundw
        case rel =>
          have hl2 : L2.length = L.length + 1 := HL2
          have hLi : L.length ≤ i := HL
          have hlt : i < M.length := HT
          exact ⟨i + 1, v2, L2, by omega, by go_num, by go_num, by omega, hIn1, P2, R2, B3⟩
        case measure => have hlt : i < M.length := HT; simp [intOf]; omega
    · obtain rfl : i = M.length := by omega
      have hki : ¬ (M.length : Int) < (M.length : Int) := by omega
      have cL := evLenA pp (pp + 1) M.length v L wr P
      go_wp2_with (first
        | (go_at_call 14; (with_reducible refine cL.mono ?_); rintro e u3 ⟨rfl, hu3⟩; have hu3' := hu3.symm; subst hu3'))
      go_ret
      exact ⟨rfl, gtrans G1 B'⟩

theorem own : ownKnob Try.prog.godebug = none := by kernel_rfl
theorem laidOut : laidOutB Try.prog = true := by kernel_rfl

set_option maxRecDepth 100000 in
theorem lifted (os : Os) (started : os.Started) (H : Type) (enc : TypeId × Value → H) :
    ReturnsInHanded {} Try.checked os 3 .any (Rows.pileLeastSpec.pre6 enc Try.prog Try.f3 Rows.pileLeastRow.domain false) (Rows.pileLeastSpec.post enc Try.prog Try.f3 false true false false) := by
  refine returnsInHanded_of_change_sized (C := Try.checked) own started (by kernel_rfl) Try.func3
    (ChangeSpec.witness6 (enc := enc) (C := Try.checked) false ⟨#[], #[.slice none 0 0, .slice none 0 0], []⟩ 8 (by kernel_rfl) (by kernel_rfl) (by kernel_rfl) (by kernel_rfl)) ?_
  intro W base args ds gs before hval0 hW hcnd hsz0 _
  have hsz : (DataW.weightsEach Try.prog (Try.f3.params.toList ++ Rows.pileLeastSpec.plain.varTypes Try.prog) (ds ++ gs)).all (· ≤ reachBytes) = true := hsz0
  have hval : ∀ (j : Nat) t v, Try.f3.params[j]? = some t → args[j]? = some v → Value.okWide Try.prog W .any base t v := hval0
  have hW' := hW
  obtain ⟨p, q, hA0, hV, rfl, hfz, hnd⟩ := hW
  have hA : DataW.TrodAll enc Try.prog W 0 (fun _ => true) true Try.f3.params.toList args.toList ds p := hA0
  rw [Try.params3] at hA hval hsz
  obtain ⟨v0, vs0, d0, ds0, p0, q0, hargs, rfl, rfl, h0, r0⟩ := trodAll_cons hA
  obtain ⟨v1, vs1, d1, ds1, p1, q1, rfl, rfl, rfl, h1, r1⟩ := trodAll_cons r0
  obtain ⟨rfl, rfl, rfl⟩ := trodAll_nil r1
  obtain rfl : args = #[v0, v1] := by cases args; simp_all
  obtain ⟨rfl, rfl⟩ := trodVars_none hV
  have k0 := h0
  have lt0 : ∀ x ∈ p0, x.block < W.heap.size := by obtain ⟨m, hm⟩ := k0; exact DataW.trod_lt m _ _ _ hm
  obtain ⟨ao0, cap0, l0, e0, wc0, w0, wr0, ws0⟩ : ∃ ao cap l, v0 = .slice ao (l : List Ev).length cap ∧ Sl ao l.length cap ∧ Flat W ao (fl evC l) ∧ l.length * 88 ≤ 140737488351232 ∧ ∀ k, (l.getD k zeroE).ok := by
    obtain ⟨a, len, cap, e⟩ := okWide_slice Try.underlying22 (hval 0 22 v0 rfl rfl)
    subst e
    obtain ⟨fuel, hf⟩ := h0
    have hf' : DataW.trod enc Try.prog W 0 (fun _ => true) true fuel 22 [.slice a len cap] = some (d0, p0) := hf
    exact open_evrow hf' (fun b hb => by
      have h1 := List.all_eq_true.1 hsz b (DataW.weights_mem_each (j := 0) (t := 22) rfl rfl b hb)
      simpa using h1)
  subst e0
  have k1 := h1
  have lt1 : ∀ x ∈ p1, x.block < W.heap.size := by obtain ⟨m, hm⟩ := k1; exact DataW.trod_lt m _ _ _ hm
  obtain ⟨ao1, cap1, l1, e1, wc1, w1, wr1, ws1⟩ : ∃ ao cap l, v1 = .slice ao (l : List Bool).length cap ∧ Sl ao l.length cap ∧ Flat W ao (fl blC l) ∧ l.length * 1 ≤ 140737488351232 ∧ ∀ k, (fun _ => True) (l.getD k false) := by
    obtain ⟨a, len, cap, e⟩ := okWide_slice Try.underlying23 (hval 1 23 v1 rfl rfl)
    subst e
    obtain ⟨fuel, hf⟩ := h1
    have hf' : DataW.trod enc Try.prog W 0 (fun _ => true) true fuel 23 [.slice a len cap] = some (d1, p1) := hf
    exact open_blrow hf' (fun b hb => by
      have h1 := List.all_eq_true.1 hsz b (DataW.weights_mem_each (j := 1) (t := 23) rfl rfl b hb)
      simpa using h1)
  subst e1
  clear hA0 hval0
  refine (walk ao0 cap0 l0 ao1 cap1 l1 W wc0 w0 wr0 ws0 wc1 w1 wr1 ws1).mono fun e W' ⟨he, bel⟩ => ?_
  subst he
  exact ⟨_, rfl, _, _, _, [], _, [], hW', trodAll_mk1 (shut_bool Try.underlying4 _), (trodAll_cons_mk (Below.trod laidOut (by kernel_rfl) (of_decide_eq_true (by kernel_rfl)) k0 bel lt0) (trodAll_cons_mk (Below.trod laidOut (by kernel_rfl) (of_decide_eq_true (by kernel_rfl)) k1 bel lt1) trodAll_mk0)), rfl, bel.frame _, fun h => by cases h⟩

theorem over : Rows.pileLeastRow.holds Try.pinned (OpenSpec.ofChange Rows.pileLeastSpec) :=
  OpenClaim.holds_of_wide 3 Try.f3 rfl rfl rfl rfl rfl rfl rfl ⟨rfl, rfl, rfl, rfl, rfl⟩ rfl rfl rfl rfl rfl (by kernel_rfl) Try.func3 (by kernel_rfl)
    (of_decide_eq_true (by kernel_rfl)) (by unfold Func.isWrapper; first | (rw [if_pos (by decide +kernel)]; kernel_rfl) | (rw [if_neg (by decide +kernel)]; exact ⟨rfl, rfl⟩))
    (fun os started H enc _ => lifted os started H enc)

end Go.Proofs.Ytoheombjbndolaa.pileLeast
namespace Go.Proofs.Ytoheombjbndolaa
theorem pileLeast_holds : Rows.PileLeastSaid := pileLeast.over
#print axioms pileLeast_holds
end Go.Proofs.Ytoheombjbndolaa
