/- Rows of nodes: appended, cut, copied. And what goes with it: 2 texts in one. -/
import Derived.Test.YtnolbpekdikamaaGreatDoorJb20
import Derived.Deep.CutRange
namespace Go.Proofs.YtnolbpekdikamaaGreatDoor
open Go.RowKit Go.BigFrame
set_option linter.unusedVariables false
set_option linter.unusedSimpArgs false

theorem nds_len : ∀ ns : List Nd, (ndsV ns).length = ns.length * 6
  | [] => rfl
  | n :: t => by
    show ((ndA n).toList ++ ndsV t).length = _
    rw [List.length_append, nds_len t, List.length_cons, show (ndA n).toList.length = 6 from rfl]
    omega
theorem nds_cells {w : World} {ad : Addr} {ns : List Nd} (A : IsNds w (some ad) ns) (j : Nat) (u : Value) (hj : (ndsV ns)[j]? = some u) : w.cell? (ad.add j) = some u := by
  have hjl := (List.getElem?_eq_some_iff.1 hj).1
  rw [nds_len] at hjl
  obtain ⟨q, r, rfl, hr⟩ : ∃ q r, j = q * 6 + r ∧ r < 6 := ⟨j / 6, j % 6, by omega, by omega⟩
  rw [nds_at ns q (by omega) r hr] at hj
  obtain ⟨g, off, e, c0, c1, c2, c3, c4, c5⟩ := A q (by omega)
  cases e
  rw [Go.WideShapes.add_plain]
  rcases (show r = 0 ∨ r = 1 ∨ r = 2 ∨ r = 3 ∨ r = 4 ∨ r = 5 from by omega) with rfl | rfl | rfl | rfl | rfl | rfl
  · rw [← Nat.add_assoc, Nat.add_zero, c0, ← hj]; rfl
  · rw [← Nat.add_assoc, c1, ← hj]; rfl
  · rw [← Nat.add_assoc, c2, ← hj]; rfl
  · rw [← Nat.add_assoc, c3, ← hj]; rfl
  · rw [← Nat.add_assoc, c4, ← hj]; rfl
  · rw [← Nat.add_assoc, c5, ← hj]; rfl
theorem nds_ones (ns : List Nd) : ∀ u ∈ ndsV ns, u.oneCell' = true := by
  intro u hu
  unfold ndsV at hu
  obtain ⟨y, _, hy⟩ := List.mem_flatMap.1 hu
  exact nd_one y u hy
theorem nds_set : ∀ (ns : List Nd) (k j : Nat), k < ns.length → j < 6 → ∀ (u : Value) (n' : Nd), (ndA (ns.getD k noNd)).toList.set j u = (ndA n').toList → (ndsV ns).set (k * 6 + j) u = ndsV (ns.set k n')
  | [], k, j, hk, _, _, _, _ => by simp at hk
  | n :: t, 0, j, _, hj, u, n', h => by
    show ((ndA n).toList ++ ndsV t).set (0 * 6 + j) u = (ndA n').toList ++ ndsV t
    rw [Nat.zero_mul, Nat.zero_add, List.set_append_left _ _ (show j < (ndA n).toList.length from hj)]
    rw [show (ndA n).toList.set j u = (ndA n').toList from h]
  | n :: t, k + 1, j, hk, hj, u, n', h => by
    have hlen : (ndA n).toList.length = 6 := rfl
    show ((ndA n).toList ++ ndsV t).set ((k + 1) * 6 + j) u = (ndA n).toList ++ ndsV (t.set k n')
    rw [List.set_append_right _ _ (by omega), hlen, show (k + 1) * 6 + j - 6 = k * 6 + j by omega, nds_set t k j (by simpa using hk) hj u n' h]
/-- append of a whole row of nodes onto a row of one's own. -/
theorem wpList_append_nds {w : World} {ops : Array Oper} {rest : List Oper} {o : Oper} {a : Act} {Q : Exit → Act → World → Prop} (hgd : o.guard = none) (s x : Operand)
    (ho : o.op = .call { callee := .builtin .append, args := #[s, x], argTypes := #[28, 28] }) (v : Value) (base n : Nat) (xs : List Value) (hs : a.eval s = v) (O : w.ownsRow base 64 6 v n xs) (hb : base ≤ w.heap.size)
    (ao : Option Addr) (cap : Nat) (ts : List Nd) (hx : a.eval x = .slice ao ts.length cap) (hnone : ao = none → ts.length = 0 ∧ cap = 0) (A : IsNds w ao ts) (hl : (n + ts.length) * 64 ≤ 140737488351232)
    (h : ∀ v' w', w'.ownsRow base 64 6 v' (n + ts.length) (xs ++ ndsV ts) → w.grownBy w' v.ownBlock → wpList Tryz.prog ops Q rest (a.put o.dst v') w') : wpList Tryz.prog ops Q (o :: rest) a w := by
  obtain ⟨i3, ti, tz0, tz1, tz2⟩ := of_info nd_info
  have hlen := nds_len ts
  cases ao with
  | none =>
    obtain ⟨h0, rfl⟩ := hnone rfl
    refine wpList_plain hgd fun K hK' => ?_
    have hrun := run_append_owned_none (P := Tryz.prog) w base 28 o.type 64 i3 6 Tryz.underlying28 ti v n xs O
    have hts : ts = [] := List.length_eq_zero_iff.1 h0
    subst hts
    replace hx : a.eval x = .slice none 0 0 := hx
    unfold Oper.wp
    simp [execOp, ho, resolve, invoke, builtin, hs, hx, hrun, Result.andThen]
    refine hK' _ _ (h _ _ ?_ (World.grownBy.refl _ _))
    rw [show ndsV [] = [] from rfl, List.append_nil]
    exact O
  | some ad =>
    exact wpList_append_own (w := w) hgd s x 28 ho base 64 i3 (.agg (ndA noNd)) 6 64 Tryz.underlying28 ti tz0 tz1 tz2 rfl (by decide) v n xs hs O ad ts.length cap (ndsV ts) hx hlen (nds_cells A) (nds_ones ts) (by unfold maxLen; omega) (by omega) hb (fun v' w' h1 h2 _ => h v' w' h1 h2)
theorem nds_sub {w : World} {g o : Nat} {ns : List Nd} (A : IsNds w (some ⟨g, o, none⟩) ns) (f m : Nat) (h : f + m ≤ ns.length) : IsNds w (some ⟨g, o + f * 6, none⟩) ((ns.drop f).take m) := fun i hi => by
  have hi' : i < m := by simp at hi; omega
  obtain ⟨g', o', e, c0, c1, c2, c3, c4, c5⟩ := A (f + i) (by omega)
  cases e
  have hget : ((ns.drop f).take m).getD i noNd = ns.getD (f + i) noNd := by
    rw [List.getD_eq_getElem?_getD, List.getD_eq_getElem?_getD, List.getElem?_take, if_pos hi', List.getElem?_drop]
  rw [hget]
  refine ⟨g, o + f * 6, rfl, ?_⟩
  rw [show o + f * 6 + i * 6 = o + (f + i) * 6 by omega]
  exact ⟨c0, c1, c2, c3, c4, c5⟩
end Go.Proofs.YtnolbpekdikamaaGreatDoor
namespace Go.Proofs.YtnolbpekdikamaaGreatDoor
open Go.RowKit Go.BigFrame
set_option linter.unusedVariables false
set_option linter.unusedSimpArgs false

def jW (n : Nat) (z : Int) : Int := if 0 ≤ z then wrap64 (z + (n : Int)) else z
def jN (n : Nat) (x : Nd) : Nd := ⟨x.op, x.n, x.v, x.x, jW n x.l, jW n x.r⟩
def joinE (op : Int) (a b : List Nd) : Nd := if op = 12 ∨ op = 13 then ⟨op, 0, eS, eS, (a.length : Int) - 1, -1⟩ else ⟨op, 0, eS, eS, (a.length : Int) - 1, (a.length : Int) + (b.length : Int) - 1⟩
def joinL (op : Int) (a b : List Nd) : List Nd := (if op = 12 ∨ op = 13 then a else a ++ b.map (jN a.length)) ++ [joinE op a b]
theorem ndsV_app (a b : List Nd) : ndsV (a ++ b) = ndsV a ++ ndsV b := by unfold ndsV; rw [List.flatMap_append]
theorem bldNd (x : Nd) (w : World) : (Instr.buildSlice 28 1 #[(0, .agg (ndA x))]).run Tryz.prog w = .ok (.slice (some ⟨w.heap.size, 0, none⟩) 1 1) (w.alloc (.cells (ndA x) 64)) := by kernel_rfl
theorem nds_new (x : Nd) (w : World) : IsNds (w.alloc (.cells (ndA x) 64)) (some ⟨w.heap.size, 0, none⟩) [x] := fun i hi => by
  have : i = 0 := by simp at hi; omega
  subst this
  obtain ⟨m0, m1, m2, m3, m4, m5⟩ := (Bk.new w (ndA x) 64).at6
  exact ⟨_, _, rfl, m0, m1, m2, m3, m4, m5⟩
set_option maxRecDepth 100000 in
set_option maxHeartbeats 4000000 in
theorem leaf_any (x : Nd) (w : World) :
    Calls Tryz.prog 18 #[.agg (ndA x)] w fun e w' => ∃ v, e = .returned v ∧ w'.ownsRow w.heap.size 64 6 v 1 (ndsV [⟨x.op, x.n, x.v, x.x, -1, -1⟩]) ∧ Below w.heap.size w w' := by
  obtain ⟨yop, yn, yv, yx, yl, yr⟩ := x
  have B0 := galloc (Below.refl w.heap.size w) (.cells (ndA ⟨yop, yn, yv, yx, yl, yr⟩) 64)
  have N0 := Bk.new w (ndA ⟨yop, yn, yv, yx, yl, yr⟩) 64
  have hb := bldNd ⟨yop, yn, yv, yx, -1, -1⟩
  unfold ndA at *
  dsimp only at *
  go_enter Tryz.func18, Tryz.ntmps18
  go_upto_region 1 with fail
  generalize w.alloc _ = V at *
  have N1 := N0.set 4 (.int .i64 (-1))
  have N2 := N1.set 5 (.int .i64 (-1))
  have B2 := gset (gset B0 (p := ⟨w.heap.size, 4, none⟩) (Nat.le_refl _) (.int .i64 (-1))) (p := ⟨w.heap.size, 5, none⟩) (Nat.le_refl _) (.int .i64 (-1))
  have f0 := N0.free
  have hzV := N0.lt
  obtain ⟨m0, m1, m2, m3, m4, m5⟩ := N0.at6
  have O := World.ownsRow_lit (base := w.heap.size) (e := 64) (size := 6) ((V.setCell ⟨w.heap.size, 4, none⟩ (.int .i64 (-1))).setCell ⟨w.heap.size, 5, none⟩ (.int .i64 (-1))) #[.int .i64 yop, .int .i64 yn, .string yv, .string yx, .int .i64 (-1), .int .i64 (-1)] 1 B2.size (by decide) rfl
  have GA := galloc B2 (.cells #[.int .i64 yop, .int .i64 yn, .string yv, .string yx, .int .i64 (-1), .int .i64 (-1)] 64)
  have hzz : ((V.setCell ⟨w.heap.size, 4, none⟩ (.int .i64 (-1))).setCell ⟨w.heap.size, 5, none⟩ (.int .i64 (-1))).heap.size = V.heap.size := by simp
  rw [hzz] at O
  have HO := show Hid _ from O
  clear O hzz
  go_wp2
  go_ret
  exact ⟨_, rfl, HO.out, GA⟩

theorem jn_len (x : Nd) : ([x] : List Nd).length = 1 := rfl
theorem jn_le {a b : Nat} (h : a ≤ b) {C : Nat} (hb : b * 64 ≤ C) : a * 64 ≤ C := Nat.le_trans (Nat.mul_le_mul_right 64 h) hb
theorem jn_room {n k m : Nat} (h : (n + m + 1) * 64 ≤ 140737488351232) (hk : k ≤ m) (x : Nd) : (n + k + ([x] : List Nd).length) * 64 ≤ 140737488351232 :=
  jn_le (by have := jn_len x; omega) h
theorem jn_room0 {n m : Nat} (h : (n + m + 1) * 64 ≤ 140737488351232) (x : Nd) : (n + ([x] : List Nd).length) * 64 ≤ 140737488351232 :=
  jn_le (by have := jn_len x; omega) h
/-- At the round k. -/
structure JnI (w : World) (a b : List Nd) (v7 x : Value) (wr : World) : Prop where
  ex : ∃ k : Nat, k ≤ b.length ∧ x = .int .i64 (k : Int) ∧ wr.ownsRow w.heap.size 64 6 v7 (a.length + k) (ndsV (a ++ (b.take k).map (jN a.length))) ∧ Below w.heap.size w wr
set_option maxRecDepth 100000 in
set_option maxHeartbeats 8000000 in
theorem joined_any (op : Int) (a b : List Nd) (ao : Option Addr) (ca : Nat) (bo : Option Addr) (cb : Nat) (w : World) (hno : ao = none → a.length = 0 ∧ ca = 0) (A : IsNds w ao a) (B : IsNds w bo b) (hr : (a.length + b.length + 1) * 64 ≤ 140737488351232) :
    Calls Tryz.prog 17 #[.int .i64 op, .slice ao a.length ca, .slice bo b.length cb] w fun e w' => ∃ v, e = .returned v ∧ w'.ownsRow w.heap.size 64 6 v (joinL op a b).length (ndsV (joinL op a b)) ∧ Below w.heap.size w w' := by
  obtain ⟨n, hn⟩ : ∃ n, a.length = n := ⟨_, rfl⟩
  obtain ⟨m, hm⟩ : ∃ m, b.length = m := ⟨_, rfl⟩
  have hrn : (n : Int) ≤ 2199023255552 := by omega
  have hrm : (m : Int) ≤ 2199023255552 := by omega
  have hrr : (n + m + 1) * 64 ≤ 140737488351232 := by rw [hn, hm] at hr; exact hr
  have HR0 : Hid (∀ x : Nd, (n + ([x] : List Nd).length) * 64 ≤ 140737488351232) := fun x => jn_room0 hrr x
  have HRk : Hid (∀ (k : Nat), k ≤ m → ∀ x : Nd, (n + k + ([x] : List Nd).length) * 64 ≤ 140737488351232) := fun k hk x => jn_room hrr hk x
  clear hrr
  go_enter Tryz.func17, Tryz.ntmps17
  go_upto_region 3 with (at_builtin; refine wpList_append_nds rfl _ _ rfl _ w.heap.size 0 [] rfl (World.ownsRow_nil _ _ _ _) (Nat.le_refl _) ao ca a rfl hno A (by omega) ?_; intro v1 w1 O1 g1)
  rw [Nat.zero_add, List.nil_append] at O1
  have G1 : Below w.heap.size w w1 := (Below.refl _ _).grown g1 (Nat.le_refl _) (fun k e => by cases e)
  by_cases hu : op = 12 ∨ op = 13
  · have hL : joinL op a b = a ++ [⟨op, 0, eS, eS, (a.length : Int) - 1, -1⟩] := by unfold joinL joinE; rw [if_pos hu, if_pos hu]
    have HL := show Hid (_ = _) from hL
    have hb := bldNd ⟨op, 0, eS, eS, (n : Int) - 1, -1⟩
    have AN := nds_new ⟨op, 0, eS, eS, (n : Int) - 1, -1⟩ w1
    have G2 := galloc G1 (.cells (ndA ⟨op, 0, eS, eS, (n : Int) - 1, -1⟩) 64)
    have O2 := own_keep O1 (galloc (Below.refl w1.heap.size w1) (.cells (ndA ⟨op, 0, eS, eS, (n : Int) - 1, -1⟩) 64))
    have hz2 := G2.size
    have hlen : (joinL op a b).length = n + 1 := by rw [hL, List.length_append, hn]; rfl
    rw [hn] at O2
    clear hL
    rw [hn] at HL
    unfold ndA at hb AN G2 O2 hz2
    dsimp only at hb AN G2 O2 hz2
    have fin : ∀ (v' : Value) (w2 : World), w2.ownsRow w.heap.size 64 6 v' (n + 1) (ndsV a ++ ndsV [⟨op, 0, eS, eS, (n : Int) - 1, -1⟩]) → w2.ownsRow w.heap.size 64 6 v' (joinL op a b).length (ndsV (joinL op a b)) := fun v' w2 O3 => by
      rw [hlen, HL.out, ndsV_app]
      exact O3
    have HF := show Hid _ from fin
    clear fin hlen
    rcases hu with rfl | rfl
    all_goals
      go_wp2_with (at_builtin; refine wpList_append_nds rfl _ _ rfl v1 w.heap.size n (ndsV a) rfl O2 hz2 (some ⟨w1.heap.size, 0, none⟩) 1 [⟨_, 0, eS, eS, (n : Int) - 1, -1⟩] rfl (fun h => by cases h) AN (HR0.out _) ?_; intro v3 w3 O3 g3)
      go_ret
      exact ⟨_, rfl, HF.out _ _ O3, G2.grown g3 hz2 (fun k e => (World.ownsRow.lt O1 k e).1)⟩
  · have hL : joinL op a b = a ++ b.map (jN a.length) ++ [⟨op, 0, eS, eS, (a.length : Int) - 1, (a.length : Int) + (b.length : Int) - 1⟩] := by unfold joinL joinE; rw [if_neg hu, if_neg hu]
    have HL := show Hid (_ = _) from hL
    clear hL
    have e12 : (op == 12) = false := beq_eq_false_iff_ne.2 (by omega)
    have e13 : (op == 13) = false := beq_eq_false_iff_ne.2 (by omega)
    clear hu
    go_upto_region 6 with fail
    go_loopw [7, 8, 9] (fun v7 x _ wr => JnI w a b v7 x wr) (fun _ x _ _ => b.length - (intOf x).toNat)
    case atStart => exact ⟨0, Nat.zero_le _, rfl, by rw [List.take_zero, List.map_nil, List.append_nil]; exact O1, G1⟩
    case round =>
      obtain ⟨k, hk, rfl, O, G⟩ := hrel
      by_cases hlt : k < b.length
      · have hki : (k : Int) < (m : Int) := by omega
        have hkm : k ≤ m := by omega
        obtain ⟨g, o, rfl, x0, x1, x2, x3, x4, x5⟩ := (B.keep G) k hlt
        have hstep : a ++ (b.take (k + 1)).map (jN a.length) = (a ++ (b.take k).map (jN a.length)) ++ [jN a.length (b.getD k noNd)] := by
          rw [List.take_add_one, List.getElem?_eq_getElem hlt, Option.toList_some, List.map_append, ← List.append_assoc, List.getD_eq_getElem?_getD, List.getElem?_eq_getElem hlt]
          rfl
        have HS := show Hid (_ = _) from hstep
        have N1 := Bk.new wr (ndA (b.getD k noNd)) 64
        have B1 := galloc (Below.refl wr.heap.size wr) (.cells (ndA (b.getD k noNd)) 64)
        clear hstep
        rw [hn] at HS O
        generalize b.getD k noNd = y at *
        obtain ⟨yop, yn, yv, yx, yl, yr⟩ := y
        unfold ndA at *
        dsimp only at *
        rw [hm]
        go_upto_region 9 with fail
        generalize wr.alloc _ = V at *
        obtain ⟨m0, m1, m2, m3, m4, m5⟩ := N1.at6
        have nf := N1.free
        obtain ⟨bl, hbl⟩ : ∃ b, decide (0 ≤ yl) = b := ⟨_, rfl⟩
        obtain ⟨br, hbr⟩ : ∃ b, decide (0 ≤ yr) = b := ⟨_, rfl⟩
        have HBL := show Hid (_ = _) from hbl
        have HBR := show Hid (_ = _) from hbr
        clear hbr
        go_upto_if 39 with fail
        go_cut [] from 40 to 45 (fun wx => Bk wx wr.heap.size #[.int .i64 yop, .int .i64 yn, .string yv, .string yx, .int .i64 (jW n yl), .int .i64 yr] 64 ∧ Below wr.heap.size wr wx)
        case first =>
          cases bl with
          | true =>
            have eL : jW n yl = wrap64 (yl + (n : Int)) := if_pos (of_decide_eq_true HBL.out)
            have N2 := N1.set 4 (.int .i64 (jW n yl))
            have B2 := gset B1 (p := ⟨wr.heap.size, 4, none⟩) (Nat.le_refl _) (.int .i64 (jW n yl))
            rw [eL] at N2 B2
            have HN := show Hid _ from N2
            clear N2 hbl
            go_wp2
            go_meet
            case rel => exact ⟨by rw [eL]; exact HN.out, B2⟩
          | false =>
            have eL : jW n yl = yl := if_neg (of_decide_eq_false HBL.out)
            clear hbl
            go_wp2
            go_meet
            case rel => exact ⟨by rw [eL]; exact N1, B1⟩
        case rest =>
          obtain ⟨N1', B1'⟩ := hcut
          clear N1 B1 m0 m1 m2 m3 m4 m5 nf hbl
          obtain ⟨m0, m1, m2, m3, m4, m5⟩ := N1'.at6
          have nf := N1'.free
          have hbr := HBR.out
          go_upto_if 48 with fail
          go_cut [] from 49 to 54 (fun wx => Bk wx wr.heap.size (ndA (jN n ⟨yop, yn, yv, yx, yl, yr⟩)) 64 ∧ Below wr.heap.size wr wx)
          case first =>
            cases br with
            | true =>
              have eR : jW n yr = wrap64 (yr + (n : Int)) := if_pos (of_decide_eq_true HBR.out)
              have N2 := N1'.set 5 (.int .i64 (jW n yr))
              have B2 := gset B1' (p := ⟨wr.heap.size, 5, none⟩) (Nat.le_refl _) (.int .i64 (jW n yr))
              rw [eR] at N2 B2
              have HN := show Hid _ from N2
              clear N2 hbr
              go_wp2
              go_meet
              case rel => exact ⟨by unfold jN ndA; dsimp only; rw [eR]; exact HN.out, B2⟩
            | false =>
              have eR : jW n yr = yr := if_neg (of_decide_eq_false HBR.out)
              clear hbr
              go_wp2
              go_meet
              case rel => exact ⟨by unfold jN ndA; dsimp only; rw [eR]; exact N1', B1'⟩
          case rest =>
            obtain ⟨N2, G2⟩ := hcut
            clear m0 m1 m2 m3 m4 m5 nf hbr N1' B1'
            have GA := gtrans G G2
            obtain ⟨c0, c1, c2, c3, c4, c5⟩ := N2.at6
            have hb := bldNd (jN n ⟨yop, yn, yv, yx, yl, yr⟩)
            have AN := nds_new (jN n ⟨yop, yn, yv, yx, yl, yr⟩) wc
            have O2 := own_keep (own_keep O G2) (galloc (Below.refl wc.heap.size wc) (.cells (ndA (jN n ⟨yop, yn, yv, yx, yl, yr⟩)) 64))
            have G3 := galloc GA (.cells (ndA (jN n ⟨yop, yn, yv, yx, yl, yr⟩)) 64)
            have hz3 := G3.size
            have HF : Hid (∀ (v' : Value) (w2 : World), w2.ownsRow w.heap.size 64 6 v' (n + k + 1) (ndsV (a ++ (b.take k).map (jN n)) ++ ndsV [jN n ⟨yop, yn, yv, yx, yl, yr⟩]) → w2.ownsRow w.heap.size 64 6 v' (n + (k + 1)) (ndsV (a ++ (b.take (k + 1)).map (jN n)))) := fun v' w2 h => by
              rw [HS.out, ndsV_app]
              exact h
            generalize hjn : jN n ⟨yop, yn, yv, yx, yl, yr⟩ = z at *
            obtain ⟨zop, zn, zv, zx, zl, zr⟩ := z
            unfold ndA at *
            dsimp only at *
            clear hjn HS
            go_wp2_with (at_builtin; refine wpList_append_nds rfl _ _ rfl _ w.heap.size (n + k) _ rfl O2 hz3 (some ⟨wc.heap.size, 0, none⟩) 1 [⟨zop, zn, zv, zx, zl, zr⟩] rfl (fun h => by cases h) AN (HRk.out k hkm _) ?_; intro v3 w3 O3 g3)
            have fin : JnI w a b v3 (.int .i64 ((k : Int) + 1)) w3 := ⟨k + 1, by omega, by go_num, by rw [hn]; exact HF.out _ _ O3, G3.grown g3 hz3 (fun r e => (World.ownsRow.lt O r e).1)⟩
            have HX := show Hid _ from fin
            clear fin O3 O2 O
            go_wp2
            go_roundw
            case rel => exact HX.out
            case measure => simp [intOf]; omega
      · obtain rfl : k = b.length := by omega
        rw [List.take_of_length_le (Nat.le_refl _), hn] at O
        have hmm : ¬ (m : Int) < (m : Int) := by omega
        have hb := bldNd ⟨op, 0, eS, eS, (n : Int) - 1, (n : Int) + (m : Int) - 1⟩
        have AN := nds_new ⟨op, 0, eS, eS, (n : Int) - 1, (n : Int) + (m : Int) - 1⟩ wr
        have G2 := galloc G (.cells (ndA ⟨op, 0, eS, eS, (n : Int) - 1, (n : Int) + (m : Int) - 1⟩) 64)
        have O2 := own_keep O (galloc (Below.refl wr.heap.size wr) (.cells (ndA ⟨op, 0, eS, eS, (n : Int) - 1, (n : Int) + (m : Int) - 1⟩) 64))
        have hz2 := G2.size
        have hlen : (joinL op a b).length = n + m + 1 := by rw [HL.out]; simp; omega
        have hLL := HL.out
        rw [hn, hm] at hLL
        rw [hm] at O2
        have fin : ∀ (v' : Value) (w2 : World), w2.ownsRow w.heap.size 64 6 v' (n + m + 1) (ndsV (a ++ b.map (jN n)) ++ ndsV [⟨op, 0, eS, eS, (n : Int) - 1, (n : Int) + (m : Int) - 1⟩]) → w2.ownsRow w.heap.size 64 6 v' (joinL op a b).length (ndsV (joinL op a b)) := fun v' w2 O3 => by
          rw [hlen, hLL, ndsV_app]
          exact O3
        have HF := show Hid _ from fin
        have hnm : (n : Int) + (m : Int) ≤ 4398046511104 := by omega
        clear fin hlen hLL HL hlt
        unfold ndA at hb AN G2 O2 hz2
        dsimp only at hb AN G2 O2 hz2
        rw [hm]
        go_wp2_with (at_builtin; refine wpList_append_nds rfl _ _ rfl _ w.heap.size (n + m) _ rfl O2 hz2 (some ⟨wr.heap.size, 0, none⟩) 1 [⟨op, 0, eS, eS, (n : Int) - 1, (n : Int) + (m : Int) - 1⟩] rfl (fun h => by cases h) AN (HRk.out m (Nat.le_refl m) _) ?_; intro v3 w3 O3 g3)
        go_ret
        exact ⟨_, rfl, HF.out _ _ O3, G2.grown g3 hz2 (fun r e => (World.ownsRow.lt O r e).1)⟩

end Go.Proofs.YtnolbpekdikamaaGreatDoor
