/- Rows of nodes: appended, cut, copied. And what goes with it: 6 texts in one. -/
import Derived.Test.YtnmppmmanigpcaaDoorJa01
import Derived.Deep.CutRange
import Derived.WalkKit
import Derived.WalkSpells
import Derived.WalkLawsBesides
import Derived.Deep.RegionWith
import Derived.ProofKit
import Derived.Shelf.Spec.BitsCarry
namespace Go.Proofs.YtnmppmmanigpcaaDoor
open Go.RowKit Go.BigFrame
set_option linter.unusedVariables false
set_option linter.unusedSimpArgs false

theorem nds_len : ∀ ns : List Nd, (ndsV ns).length = ns.length * 6
  | [] => rfl
  | n :: t => by
    show ((ndA n).toList ++ ndsV t).length = _
    rw [List.length_append, nds_len t, List.length_cons, show (ndA n).toList.length = 6 from rfl]
    omega
theorem nds_cells {w : World} {ad : Addr} {ns : List Nd} (A : IsNds w (some ad) ns) (j : Nat) (u : Value) (hj : (ndsV ns)[j]? = some u) : w.cell? (ad.add j) = some u := by
  have hjl := (List.getElem?_eq_some_iff.1 hj).1
  rw [nds_len] at hjl
  obtain ⟨q, r, rfl, hr⟩ : ∃ q r, j = q * 6 + r ∧ r < 6 := ⟨j / 6, j % 6, by omega, by omega⟩
  rw [nds_at ns q (by omega) r hr] at hj
  obtain ⟨g, off, e, c0, c1, c2, c3, c4, c5⟩ := A q (by omega)
  cases e
  rw [Go.WideShapes.add_plain]
  rcases (show r = 0 ∨ r = 1 ∨ r = 2 ∨ r = 3 ∨ r = 4 ∨ r = 5 from by omega) with rfl | rfl | rfl | rfl | rfl | rfl
  · rw [← Nat.add_assoc, Nat.add_zero, c0, ← hj]; rfl
  · rw [← Nat.add_assoc, c1, ← hj]; rfl
  · rw [← Nat.add_assoc, c2, ← hj]; rfl
  · rw [← Nat.add_assoc, c3, ← hj]; rfl
  · rw [← Nat.add_assoc, c4, ← hj]; rfl
  · rw [← Nat.add_assoc, c5, ← hj]; rfl
theorem nds_ones (ns : List Nd) : ∀ u ∈ ndsV ns, u.oneCell' = true := by
  intro u hu
  unfold ndsV at hu
  obtain ⟨y, _, hy⟩ := List.mem_flatMap.1 hu
  exact nd_one y u hy
theorem nds_set : ∀ (ns : List Nd) (k j : Nat), k < ns.length → j < 6 → ∀ (u : Value) (n' : Nd), (ndA (ns.getD k noNd)).toList.set j u = (ndA n').toList → (ndsV ns).set (k * 6 + j) u = ndsV (ns.set k n')
  | [], k, j, hk, _, _, _, _ => by simp at hk
  | n :: t, 0, j, _, hj, u, n', h => by
    show ((ndA n).toList ++ ndsV t).set (0 * 6 + j) u = (ndA n').toList ++ ndsV t
    rw [Nat.zero_mul, Nat.zero_add, List.set_append_left _ _ (show j < (ndA n).toList.length from hj)]
    rw [show (ndA n).toList.set j u = (ndA n').toList from h]
  | n :: t, k + 1, j, hk, hj, u, n', h => by
    have hlen : (ndA n).toList.length = 6 := rfl
    show ((ndA n).toList ++ ndsV t).set ((k + 1) * 6 + j) u = (ndA n).toList ++ ndsV (t.set k n')
    rw [List.set_append_right _ _ (by omega), hlen, show (k + 1) * 6 + j - 6 = k * 6 + j by omega, nds_set t k j (by simpa using hk) hj u n' h]
/-- append of a whole row of nodes onto a row of one's own. -/
theorem wpList_append_nds {w : World} {ops : Array Oper} {rest : List Oper} {o : Oper} {a : Act} {Q : Exit → Act → World → Prop} (hgd : o.guard = none) (s x : Operand)
    (ho : o.op = .call { callee := .builtin .append, args := #[s, x], argTypes := #[28, 28] }) (v : Value) (base n : Nat) (xs : List Value) (hs : a.eval s = v) (O : w.ownsRow base 63 6 v n xs) (hb : base ≤ w.heap.size)
    (ao : Option Addr) (cap : Nat) (ts : List Nd) (hx : a.eval x = .slice ao ts.length cap) (hnone : ao = none → ts.length = 0 ∧ cap = 0) (A : IsNds w ao ts) (hl : (n + ts.length) * 64 ≤ 140737488351232)
    (h : ∀ v' w', w'.ownsRow base 63 6 v' (n + ts.length) (xs ++ ndsV ts) → w.grownBy w' v.ownBlock → wpList Tryd.prog ops Q rest (a.put o.dst v') w') : wpList Tryd.prog ops Q (o :: rest) a w := by
  obtain ⟨i3, ti, tz0, tz1, tz2⟩ := of_info nd_info
  have hlen := nds_len ts
  cases ao with
  | none =>
    obtain ⟨h0, rfl⟩ := hnone rfl
    refine wpList_plain hgd fun K hK' => ?_
    have hrun := run_append_owned_none (P := Tryd.prog) w base 28 o.type 63 i3 6 Tryd.underlying28 ti v n xs O
    have hts : ts = [] := List.length_eq_zero_iff.1 h0
    subst hts
    replace hx : a.eval x = .slice none 0 0 := hx
    unfold Oper.wp
    simp [execOp, ho, resolve, invoke, builtin, hs, hx, hrun, Result.andThen]
    refine hK' _ _ (h _ _ ?_ (World.grownBy.refl _ _))
    rw [show ndsV [] = [] from rfl, List.append_nil]
    exact O
  | some ad =>
    exact wpList_append_own (w := w) hgd s x 28 ho base 63 i3 (.agg (ndA noNd)) 6 64 Tryd.underlying28 ti tz0 tz1 tz2 rfl (by decide) v n xs hs O ad ts.length cap (ndsV ts) hx hlen (nds_cells A) (nds_ones ts) (by unfold maxLen; omega) (by omega) hb (fun v' w' h1 h2 _ => h v' w' h1 h2)
theorem nds_sub {w : World} {g o : Nat} {ns : List Nd} (A : IsNds w (some ⟨g, o, none⟩) ns) (f m : Nat) (h : f + m ≤ ns.length) : IsNds w (some ⟨g, o + f * 6, none⟩) ((ns.drop f).take m) := fun i hi => by
  have hi' : i < m := by simp at hi; omega
  obtain ⟨g', o', e, c0, c1, c2, c3, c4, c5⟩ := A (f + i) (by omega)
  cases e
  have hget : ((ns.drop f).take m).getD i noNd = ns.getD (f + i) noNd := by
    rw [List.getD_eq_getElem?_getD, List.getD_eq_getElem?_getD, List.getElem?_take, if_pos hi', List.getElem?_drop]
  rw [hget]
  refine ⟨g, o + f * 6, rfl, ?_⟩
  rw [show o + f * 6 + i * 6 = o + (f + i) * 6 by omega]
  exact ⟨c0, c1, c2, c3, c4, c5⟩
end Go.Proofs.YtnmppmmanigpcaaDoor
namespace Go.Proofs.YtnmppmmanigpcaaDoor
open Go.RowKit Go.BigFrame
set_option linter.unusedVariables false
set_option linter.unusedSimpArgs false

def jW (n : Nat) (z : Int) : Int := if 0 ≤ z then wrap64 (z + (n : Int)) else z
def jN (n : Nat) (x : Nd) : Nd := ⟨x.op, x.n, x.v, x.x, jW n x.l, jW n x.r⟩
def joinE (op : Int) (a b : List Nd) : Nd := if op = 12 ∨ op = 13 then ⟨op, 0, eS, eS, (a.length : Int) - 1, -1⟩ else ⟨op, 0, eS, eS, (a.length : Int) - 1, (a.length : Int) + (b.length : Int) - 1⟩
def joinL (op : Int) (a b : List Nd) : List Nd := (if op = 12 ∨ op = 13 then a else a ++ b.map (jN a.length)) ++ [joinE op a b]
theorem ndsV_app (a b : List Nd) : ndsV (a ++ b) = ndsV a ++ ndsV b := by unfold ndsV; rw [List.flatMap_append]
theorem bldNd (x : Nd) (w : World) : (Instr.buildSlice 28 1 #[(0, .agg (ndA x))]).run Tryd.prog w = .ok (.slice (some ⟨w.heap.size, 0, none⟩) 1 1) (w.alloc (.cells (ndA x) 63)) := by kernel_rfl
theorem nds_new (x : Nd) (w : World) : IsNds (w.alloc (.cells (ndA x) 63)) (some ⟨w.heap.size, 0, none⟩) [x] := fun i hi => by
  have : i = 0 := by simp at hi; omega
  subst this
  obtain ⟨m0, m1, m2, m3, m4, m5⟩ := (Bk.new w (ndA x) 63).at6
  exact ⟨_, _, rfl, m0, m1, m2, m3, m4, m5⟩
set_option maxRecDepth 100000 in
set_option maxHeartbeats 4000000 in
theorem leaf_any (x : Nd) (w : World) :
    Calls Tryd.prog 31 #[.agg (ndA x)] w fun e w' => ∃ v, e = .returned v ∧ w'.ownsRow w.heap.size 63 6 v 1 (ndsV [⟨x.op, x.n, x.v, x.x, -1, -1⟩]) ∧ Below w.heap.size w w' := by
  obtain ⟨yop, yn, yv, yx, yl, yr⟩ := x
  have B0 := galloc (Below.refl w.heap.size w) (.cells (ndA ⟨yop, yn, yv, yx, yl, yr⟩) 63)
  have N0 := Bk.new w (ndA ⟨yop, yn, yv, yx, yl, yr⟩) 63
  have hb := bldNd ⟨yop, yn, yv, yx, -1, -1⟩
  unfold ndA at *
  dsimp only at *
  go_enter Tryd.func31, Tryd.ntmps31
  go_upto_region 1 with fail
  generalize w.alloc _ = V at *
  have N1 := N0.set 4 (.int .i64 (-1))
  have N2 := N1.set 5 (.int .i64 (-1))
  have B2 := gset (gset B0 (p := ⟨w.heap.size, 4, none⟩) (Nat.le_refl _) (.int .i64 (-1))) (p := ⟨w.heap.size, 5, none⟩) (Nat.le_refl _) (.int .i64 (-1))
  have f0 := N0.free
  have hzV := N0.lt
  obtain ⟨m0, m1, m2, m3, m4, m5⟩ := N0.at6
  have O := World.ownsRow_lit (base := w.heap.size) (e := 63) (size := 6) ((V.setCell ⟨w.heap.size, 4, none⟩ (.int .i64 (-1))).setCell ⟨w.heap.size, 5, none⟩ (.int .i64 (-1))) #[.int .i64 yop, .int .i64 yn, .string yv, .string yx, .int .i64 (-1), .int .i64 (-1)] 1 B2.size (by decide) rfl
  have GA := galloc B2 (.cells #[.int .i64 yop, .int .i64 yn, .string yv, .string yx, .int .i64 (-1), .int .i64 (-1)] 63)
  have hzz : ((V.setCell ⟨w.heap.size, 4, none⟩ (.int .i64 (-1))).setCell ⟨w.heap.size, 5, none⟩ (.int .i64 (-1))).heap.size = V.heap.size := by simp
  rw [hzz] at O
  have HO := show Hid _ from O
  clear O hzz
  go_wp2
  go_ret
  exact ⟨_, rfl, HO.out, GA⟩

theorem jn_len (x : Nd) : ([x] : List Nd).length = 1 := rfl
theorem jn_le {a b : Nat} (h : a ≤ b) {C : Nat} (hb : b * 64 ≤ C) : a * 64 ≤ C := Nat.le_trans (Nat.mul_le_mul_right 64 h) hb
theorem jn_room {n k m : Nat} (h : (n + m + 1) * 64 ≤ 140737488351232) (hk : k ≤ m) (x : Nd) : (n + k + ([x] : List Nd).length) * 64 ≤ 140737488351232 :=
  jn_le (by have := jn_len x; omega) h
theorem jn_room0 {n m : Nat} (h : (n + m + 1) * 64 ≤ 140737488351232) (x : Nd) : (n + ([x] : List Nd).length) * 64 ≤ 140737488351232 :=
  jn_le (by have := jn_len x; omega) h
/-- At the round k. -/
structure JnI (w : World) (a b : List Nd) (v7 x : Value) (wr : World) : Prop where
  ex : ∃ k : Nat, k ≤ b.length ∧ x = .int .i64 (k : Int) ∧ wr.ownsRow w.heap.size 63 6 v7 (a.length + k) (ndsV (a ++ (b.take k).map (jN a.length))) ∧ Below w.heap.size w wr
set_option maxRecDepth 100000 in
set_option maxHeartbeats 8000000 in
theorem joined_any (op : Int) (a b : List Nd) (ao : Option Addr) (ca : Nat) (bo : Option Addr) (cb : Nat) (w : World) (hno : ao = none → a.length = 0 ∧ ca = 0) (A : IsNds w ao a) (B : IsNds w bo b) (hr : (a.length + b.length + 1) * 64 ≤ 140737488351232) :
    Calls Tryd.prog 30 #[.int .i64 op, .slice ao a.length ca, .slice bo b.length cb] w fun e w' => ∃ v, e = .returned v ∧ w'.ownsRow w.heap.size 63 6 v (joinL op a b).length (ndsV (joinL op a b)) ∧ Below w.heap.size w w' := by
  obtain ⟨n, hn⟩ : ∃ n, a.length = n := ⟨_, rfl⟩
  obtain ⟨m, hm⟩ : ∃ m, b.length = m := ⟨_, rfl⟩
  have hrn : (n : Int) ≤ 2199023255552 := by omega
  have hrm : (m : Int) ≤ 2199023255552 := by omega
  have hrr : (n + m + 1) * 64 ≤ 140737488351232 := by rw [hn, hm] at hr; exact hr
  have HR0 : Hid (∀ x : Nd, (n + ([x] : List Nd).length) * 64 ≤ 140737488351232) := fun x => jn_room0 hrr x
  have HRk : Hid (∀ (k : Nat), k ≤ m → ∀ x : Nd, (n + k + ([x] : List Nd).length) * 64 ≤ 140737488351232) := fun k hk x => jn_room hrr hk x
  clear hrr
  go_enter Tryd.func30, Tryd.ntmps30
  go_upto_region 3 with (at_builtin; refine wpList_append_nds rfl _ _ rfl _ w.heap.size 0 [] rfl (World.ownsRow_nil _ _ _ _) (Nat.le_refl _) ao ca a rfl hno A (by omega) ?_; intro v1 w1 O1 g1)
  rw [Nat.zero_add, List.nil_append] at O1
  have G1 : Below w.heap.size w w1 := (Below.refl _ _).grown g1 (Nat.le_refl _) (fun k e => by cases e)
  by_cases hu : op = 12 ∨ op = 13
  · have hL : joinL op a b = a ++ [⟨op, 0, eS, eS, (a.length : Int) - 1, -1⟩] := by unfold joinL joinE; rw [if_pos hu, if_pos hu]
    have HL := show Hid (_ = _) from hL
    have hb := bldNd ⟨op, 0, eS, eS, (n : Int) - 1, -1⟩
    have AN := nds_new ⟨op, 0, eS, eS, (n : Int) - 1, -1⟩ w1
    have G2 := galloc G1 (.cells (ndA ⟨op, 0, eS, eS, (n : Int) - 1, -1⟩) 63)
    have O2 := own_keep O1 (galloc (Below.refl w1.heap.size w1) (.cells (ndA ⟨op, 0, eS, eS, (n : Int) - 1, -1⟩) 63))
    have hz2 := G2.size
    have hlen : (joinL op a b).length = n + 1 := by rw [hL, List.length_append, hn]; rfl
    rw [hn] at O2
    clear hL
    rw [hn] at HL
    unfold ndA at hb AN G2 O2 hz2
    dsimp only at hb AN G2 O2 hz2
    have fin : ∀ (v' : Value) (w2 : World), w2.ownsRow w.heap.size 63 6 v' (n + 1) (ndsV a ++ ndsV [⟨op, 0, eS, eS, (n : Int) - 1, -1⟩]) → w2.ownsRow w.heap.size 63 6 v' (joinL op a b).length (ndsV (joinL op a b)) := fun v' w2 O3 => by
      rw [hlen, HL.out, ndsV_app]
      exact O3
    have HF := show Hid _ from fin
    clear fin hlen
    rcases hu with rfl | rfl
    all_goals
      go_wp2_with (at_builtin; refine wpList_append_nds rfl _ _ rfl v1 w.heap.size n (ndsV a) rfl O2 hz2 (some ⟨w1.heap.size, 0, none⟩) 1 [⟨_, 0, eS, eS, (n : Int) - 1, -1⟩] rfl (fun h => by cases h) AN (HR0.out _) ?_; intro v3 w3 O3 g3)
      go_ret
      exact ⟨_, rfl, HF.out _ _ O3, G2.grown g3 hz2 (fun k e => (World.ownsRow.lt O1 k e).1)⟩
  · have hL : joinL op a b = a ++ b.map (jN a.length) ++ [⟨op, 0, eS, eS, (a.length : Int) - 1, (a.length : Int) + (b.length : Int) - 1⟩] := by unfold joinL joinE; rw [if_neg hu, if_neg hu]
    have HL := show Hid (_ = _) from hL
    clear hL
    have e12 : (op == 12) = false := beq_eq_false_iff_ne.2 (by omega)
    have e13 : (op == 13) = false := beq_eq_false_iff_ne.2 (by omega)
    clear hu
    go_upto_region 6 with fail
    go_loopw [7, 8, 9] (fun v7 x _ wr => JnI w a b v7 x wr) (fun _ x _ _ => b.length - (intOf x).toNat)
    case atStart => exact ⟨0, Nat.zero_le _, rfl, by rw [List.take_zero, List.map_nil, List.append_nil]; exact O1, G1⟩
    case round =>
      obtain ⟨k, hk, rfl, O, G⟩ := hrel
      by_cases hlt : k < b.length
      · have hki : (k : Int) < (m : Int) := by omega
        have hkm : k ≤ m := by omega
        obtain ⟨g, o, rfl, x0, x1, x2, x3, x4, x5⟩ := (B.keep G) k hlt
        have hstep : a ++ (b.take (k + 1)).map (jN a.length) = (a ++ (b.take k).map (jN a.length)) ++ [jN a.length (b.getD k noNd)] := by
          rw [List.take_add_one, List.getElem?_eq_getElem hlt, Option.toList_some, List.map_append, ← List.append_assoc, List.getD_eq_getElem?_getD, List.getElem?_eq_getElem hlt]
          rfl
        have HS := show Hid (_ = _) from hstep
        have N1 := Bk.new wr (ndA (b.getD k noNd)) 63
        have B1 := galloc (Below.refl wr.heap.size wr) (.cells (ndA (b.getD k noNd)) 63)
        clear hstep
        rw [hn] at HS O
        generalize b.getD k noNd = y at *
        obtain ⟨yop, yn, yv, yx, yl, yr⟩ := y
        unfold ndA at *
        dsimp only at *
        rw [hm]
        go_upto_region 9 with fail
        generalize wr.alloc _ = V at *
        obtain ⟨m0, m1, m2, m3, m4, m5⟩ := N1.at6
        have nf := N1.free
        obtain ⟨bl, hbl⟩ : ∃ b, decide (0 ≤ yl) = b := ⟨_, rfl⟩
        obtain ⟨br, hbr⟩ : ∃ b, decide (0 ≤ yr) = b := ⟨_, rfl⟩
        have HBL := show Hid (_ = _) from hbl
        have HBR := show Hid (_ = _) from hbr
        clear hbr
        go_upto_if 39 with fail
        go_cut [] from 40 to 45 (fun wx => Bk wx wr.heap.size #[.int .i64 yop, .int .i64 yn, .string yv, .string yx, .int .i64 (jW n yl), .int .i64 yr] 63 ∧ Below wr.heap.size wr wx)
        case first =>
          cases bl with
          | true =>
            have eL : jW n yl = wrap64 (yl + (n : Int)) := if_pos (of_decide_eq_true HBL.out)
            have N2 := N1.set 4 (.int .i64 (jW n yl))
            have B2 := gset B1 (p := ⟨wr.heap.size, 4, none⟩) (Nat.le_refl _) (.int .i64 (jW n yl))
            rw [eL] at N2 B2
            have HN := show Hid _ from N2
            clear N2 hbl
            go_wp2
            go_meet
            case rel => exact ⟨by rw [eL]; exact HN.out, B2⟩
          | false =>
            have eL : jW n yl = yl := if_neg (of_decide_eq_false HBL.out)
            clear hbl
            go_wp2
            go_meet
            case rel => exact ⟨by rw [eL]; exact N1, B1⟩
        case rest =>
          obtain ⟨N1', B1'⟩ := hcut
          clear N1 B1 m0 m1 m2 m3 m4 m5 nf hbl
          obtain ⟨m0, m1, m2, m3, m4, m5⟩ := N1'.at6
          have nf := N1'.free
          have hbr := HBR.out
          go_upto_if 48 with fail
          go_cut [] from 49 to 54 (fun wx => Bk wx wr.heap.size (ndA (jN n ⟨yop, yn, yv, yx, yl, yr⟩)) 63 ∧ Below wr.heap.size wr wx)
          case first =>
            cases br with
            | true =>
              have eR : jW n yr = wrap64 (yr + (n : Int)) := if_pos (of_decide_eq_true HBR.out)
              have N2 := N1'.set 5 (.int .i64 (jW n yr))
              have B2 := gset B1' (p := ⟨wr.heap.size, 5, none⟩) (Nat.le_refl _) (.int .i64 (jW n yr))
              rw [eR] at N2 B2
              have HN := show Hid _ from N2
              clear N2 hbr
              go_wp2
              go_meet
              case rel => exact ⟨by unfold jN ndA; dsimp only; rw [eR]; exact HN.out, B2⟩
            | false =>
              have eR : jW n yr = yr := if_neg (of_decide_eq_false HBR.out)
              clear hbr
              go_wp2
              go_meet
              case rel => exact ⟨by unfold jN ndA; dsimp only; rw [eR]; exact N1', B1'⟩
          case rest =>
            obtain ⟨N2, G2⟩ := hcut
            clear m0 m1 m2 m3 m4 m5 nf hbr N1' B1'
            have GA := gtrans G G2
            obtain ⟨c0, c1, c2, c3, c4, c5⟩ := N2.at6
            have hb := bldNd (jN n ⟨yop, yn, yv, yx, yl, yr⟩)
            have AN := nds_new (jN n ⟨yop, yn, yv, yx, yl, yr⟩) wc
            have O2 := own_keep (own_keep O G2) (galloc (Below.refl wc.heap.size wc) (.cells (ndA (jN n ⟨yop, yn, yv, yx, yl, yr⟩)) 63))
            have G3 := galloc GA (.cells (ndA (jN n ⟨yop, yn, yv, yx, yl, yr⟩)) 63)
            have hz3 := G3.size
            have HF : Hid (∀ (v' : Value) (w2 : World), w2.ownsRow w.heap.size 63 6 v' (n + k + 1) (ndsV (a ++ (b.take k).map (jN n)) ++ ndsV [jN n ⟨yop, yn, yv, yx, yl, yr⟩]) → w2.ownsRow w.heap.size 63 6 v' (n + (k + 1)) (ndsV (a ++ (b.take (k + 1)).map (jN n)))) := fun v' w2 h => by
              rw [HS.out, ndsV_app]
              exact h
            generalize hjn : jN n ⟨yop, yn, yv, yx, yl, yr⟩ = z at *
            obtain ⟨zop, zn, zv, zx, zl, zr⟩ := z
            unfold ndA at *
            dsimp only at *
            clear hjn HS
            go_wp2_with (at_builtin; refine wpList_append_nds rfl _ _ rfl _ w.heap.size (n + k) _ rfl O2 hz3 (some ⟨wc.heap.size, 0, none⟩) 1 [⟨zop, zn, zv, zx, zl, zr⟩] rfl (fun h => by cases h) AN (HRk.out k hkm _) ?_; intro v3 w3 O3 g3)
            have fin : JnI w a b v3 (.int .i64 ((k : Int) + 1)) w3 := ⟨k + 1, by omega, by go_num, by rw [hn]; exact HF.out _ _ O3, G3.grown g3 hz3 (fun r e => (World.ownsRow.lt O r e).1)⟩
            have HX := show Hid _ from fin
            clear fin O3 O2 O
            go_wp2
            go_roundw
            case rel => exact HX.out
            case measure => simp [intOf]; omega
      · obtain rfl : k = b.length := by omega
        rw [List.take_of_length_le (Nat.le_refl _), hn] at O
        have hmm : ¬ (m : Int) < (m : Int) := by omega
        have hb := bldNd ⟨op, 0, eS, eS, (n : Int) - 1, (n : Int) + (m : Int) - 1⟩
        have AN := nds_new ⟨op, 0, eS, eS, (n : Int) - 1, (n : Int) + (m : Int) - 1⟩ wr
        have G2 := galloc G (.cells (ndA ⟨op, 0, eS, eS, (n : Int) - 1, (n : Int) + (m : Int) - 1⟩) 63)
        have O2 := own_keep O (galloc (Below.refl wr.heap.size wr) (.cells (ndA ⟨op, 0, eS, eS, (n : Int) - 1, (n : Int) + (m : Int) - 1⟩) 63))
        have hz2 := G2.size
        have hlen : (joinL op a b).length = n + m + 1 := by rw [HL.out]; simp; omega
        have hLL := HL.out
        rw [hn, hm] at hLL
        rw [hm] at O2
        have fin : ∀ (v' : Value) (w2 : World), w2.ownsRow w.heap.size 63 6 v' (n + m + 1) (ndsV (a ++ b.map (jN n)) ++ ndsV [⟨op, 0, eS, eS, (n : Int) - 1, (n : Int) + (m : Int) - 1⟩]) → w2.ownsRow w.heap.size 63 6 v' (joinL op a b).length (ndsV (joinL op a b)) := fun v' w2 O3 => by
          rw [hlen, hLL, ndsV_app]
          exact O3
        have HF := show Hid _ from fin
        have hnm : (n : Int) + (m : Int) ≤ 4398046511104 := by omega
        clear fin hlen hLL HL hlt
        unfold ndA at hb AN G2 O2 hz2
        dsimp only at hb AN G2 O2 hz2
        rw [hm]
        go_wp2_with (at_builtin; refine wpList_append_nds rfl _ _ rfl _ w.heap.size (n + m) _ rfl O2 hz2 (some ⟨wr.heap.size, 0, none⟩) 1 [⟨op, 0, eS, eS, (n : Int) - 1, (n : Int) + (m : Int) - 1⟩] rfl (fun h => by cases h) AN (HRk.out m (Nat.le_refl m) _) ?_; intro v3 w3 O3 g3)
        go_ret
        exact ⟨_, rfl, HF.out _ _ O3, G2.grown g3 hz2 (fun r e => (World.ownsRow.lt O r e).1)⟩

end Go.Proofs.YtnmppmmanigpcaaDoor
namespace Go.Proofs.YtnmppmmanigpcaaDoor
open Go.RowKit
set_option linter.unusedVariables false

def hiOf (x : Int) : Int := (x / 18446744073709551616) % 18446744073709551616
def loOf (x : Int) : Int := x % 18446744073709551616
def carry (x y : Int) : Int := (loOf x + loOf y) / 18446744073709551616
def borrow (x y : Int) : Int := if loOf x < loOf y then 1 else 0
def fitsB (x : Int) : Bool := decide (-9223372036854775808 ≤ x ∧ x ≤ 9223372036854775807)

def fitN (x : Int) : Int := if fitsB x = true then x else 0
theorem fitN_yes (x : Int) (h : fitsB x = true) : fitN x = x := by simp [fitN, h]
theorem fitN_no (x : Int) (h : fitsB x = false) : fitN x = 0 := by simp [fitN, h]
theorem fits_iff (x : Int) : fitsB x = true ↔ -9223372036854775808 ≤ x ∧ x ≤ 9223372036854775807 := by simp [fitsB]
theorem fits_not (x : Int) : fitsB x = false ↔ ¬ (-9223372036854775808 ≤ x ∧ x ≤ 9223372036854775807) := by simp [fitsB]

theorem hi_nn (x : Int) : 0 ≤ hiOf x := by unfold hiOf; omega
theorem lo_nn (x : Int) : 0 ≤ loOf x := by unfold loOf; omega
theorem hi_lt (x : Int) : hiOf x < 18446744073709551616 := by unfold hiOf; omega
theorem lo_lt (x : Int) : loOf x < 18446744073709551616 := by unfold loOf; omega
theorem carry_nn (x y : Int) : 0 ≤ carry x y := by unfold carry loOf; omega
theorem carry_le (x y : Int) : carry x y ≤ 1 := by unfold carry loOf; omega
theorem borrow_nn (x y : Int) : 0 ≤ borrow x y := by unfold borrow; split <;> omega
theorem borrow_le (x y : Int) : borrow x y ≤ 1 := by unfold borrow; split <;> omega

theorem add_lo (x y : Int) : (loOf x + loOf y + 0) % 18446744073709551616 = loOf (x + y) := by unfold loOf; omega
theorem add_ca (x y : Int) : (loOf x + loOf y + 0) / 18446744073709551616 = carry x y := by unfold carry; rw [Int.add_zero]
theorem add_hi (x y : Int) : (hiOf x + hiOf y + carry x y) % 18446744073709551616 = hiOf (x + y) := by unfold hiOf carry loOf; omega

theorem sub_lo (x y : Int) (X Y : Nat) (hX : loOf x = X) (hY : loOf y = Y) : (((X + 18446744073709551616 - Y - 0) % 18446744073709551616 : Nat) : Int) = loOf (x - y) := by
  unfold loOf at *; omega
theorem sub_bo (x y : Int) (X Y : Nat) (hX : loOf x = X) (hY : loOf y = Y) : ((if X < Y + 0 then 1 else 0 : Nat) : Int) = borrow x y := by
  unfold borrow; rw [hX, hY]
  by_cases h : X < Y
  · rw [if_pos (by omega), if_pos (by omega)]; rfl
  · rw [if_neg (by omega), if_neg (by omega)]; rfl
theorem sub_hi (x y : Int) (X Y B : Nat) (hX : hiOf x = X) (hY : hiOf y = Y) (hB : borrow x y = B) : (((X + 18446744073709551616 - Y - B) % 18446744073709551616 : Nat) : Int) = hiOf (x - y) := by
  unfold borrow at hB
  unfold hiOf loOf at *
  split at hB <;> omega

theorem hi_small (n : Int) (h1 : -9223372036854775808 ≤ n) (h2 : n ≤ 9223372036854775807) : IntKind.u64.wrap (n / 9223372036854775808) = hiOf n := by
  rw [IntKind.wrap_u64]; unfold hiOf; omega
theorem lo_small (n : Int) : IntKind.u64.wrap n = loOf n := by
  rw [IntKind.wrap_u64]; unfold loOf; omega
/-- The number whose low half is x's, read as a signed one. -/
theorem wrap_lo (x : Int) : wrap64 (loOf x) = (x + 9223372036854775808) % 18446744073709551616 - 9223372036854775808 := by
  unfold wrap64 loOf; omega
theorem lo_back (x : Int) (h : fitsB x = true) : wrap64 (loOf x) = x := by
  rw [fits_iff] at h; rw [wrap_lo]; omega
theorem wrap_lo_lo (x : Int) : loOf (wrap64 (loOf x)) = loOf x := by rw [wrap_lo]; unfold loOf; omega
theorem wrap_lo_hi (x : Int) (h : fitsB x = false) (h1 : -170141183460469231731687303715884105728 ≤ x) (h2 : x < 170141183460469231731687303715884105728) : ¬ hiOf (wrap64 (loOf x)) = hiOf x := by
  rw [fits_not] at h; rw [wrap_lo]; unfold hiOf; omega
theorem wrap_ge (x : Int) : -9223372036854775808 ≤ wrap64 x := by unfold wrap64; omega
theorem wrap_le (x : Int) : wrap64 x ≤ 9223372036854775807 := by unfold wrap64; omega

/-- A known result, or none: of two operands (known or not) and the number that the document names. -/
def opK (ka kb : Bool) (x : Int) : Bool := ka && (kb && fitsB x)
def opN (ka kb : Bool) (x : Int) : Int := if ka = true ∧ kb = true then fitN x else 0
theorem opK_tt (x : Int) : opK true true x = fitsB x := rfl
theorem opN_tt (x : Int) : opN true true x = fitN x := by simp [opN]
theorem opK_f1 (kb : Bool) (x : Int) : opK false kb x = false := rfl
theorem opN_f1 (kb : Bool) (x : Int) : opN false kb x = 0 := by simp [opN]
theorem opK_f2 (ka : Bool) (x : Int) : opK ka false x = false := by cases ka <;> rfl
theorem opN_f2 (ka : Bool) (x : Int) : opN ka false x = 0 := by simp [opN]
theorem opK_no (ka kb : Bool) (x : Int) (h : (ka && kb) = false) : opK ka kb x = false := by cases ka <;> cases kb <;> simp_all [opK]
theorem opN_no (ka kb : Bool) (x : Int) (h : (ka && kb) = false) : opN ka kb x = 0 := by cases ka <;> cases kb <;> simp_all [opN]
theorem fitN_fits (x : Int) : fitsB (fitN x) = true := by
  unfold fitN; split
  · assumption
  · rfl
theorem opN_fits (ka kb : Bool) (x : Int) : fitsB (opN ka kb x) = true := by
  unfold opN; split
  · exact fitN_fits x
  · rfl

end Go.Proofs.YtnmppmmanigpcaaDoor
namespace Go.Proofs.YtnmppmmanigpcaaDoor
open Go.RowKit
set_option linter.unusedVariables false

theorem fits_wf {a : Int} (h : (Lit.int .i64 a).wf = true) : fitsB a = true := by
  rw [fits_iff]; simp [Lit.wf] at h; exact h

set_option maxHeartbeats 400000 in
theorem known_any (n : Int) (w : World) :
    Calls Tryd.prog 66 #[.int .i64 n] w fun e w' => e = .returned (.agg #[.bool true, .int .i64 n]) ∧ Below w.heap.size w w' := by
  go_enter Tryd.func66, Tryd.ntmps66
  go_wp2
  exact bodyPost_ret (v := .agg #[.bool true, .int .i64 n]) (by simp [results, Tryd.results66, go_sem]) rfl ⟨rfl, (Below.refl _ _).alloc (Nat.le_refl _) _⟩

end Go.Proofs.YtnmppmmanigpcaaDoor
namespace Go.Proofs.YtnmppmmanigpcaaDoor
open Go.RowKit
set_option linter.unusedVariables false

theorem add64_lo (x y : Int) (w : World) :
    (callFunc 108 #[.int .u64 (loOf x), .int .u64 (loOf y), .int .u64 0]).run Tryd.prog w = .ok (.value (.tuple #[.int .u64 (loOf (x + y)), .int .u64 (carry x y)])) w := by
  rw [run_callFunc_extern Tryd.func108 (by kernel_rfl) (by kernel_rfl) (by kernel_rfl) (e := add64Entry) (by kernel_rfl), run_add64 _ _ _ (lo_nn x) (lo_nn y) (by omega) (by omega), add_lo, add_ca]
  rfl

theorem add64_hi (x y : Int) (w : World) :
    (callFunc 108 #[.int .u64 (hiOf x), .int .u64 (hiOf y), .int .u64 (carry x y)]).run Tryd.prog w = .ok (.value (.tuple #[.int .u64 (hiOf (x + y)), .int .u64 ((hiOf x + hiOf y + carry x y) / 18446744073709551616)])) w := by
  rw [run_callFunc_extern Tryd.func108 (by kernel_rfl) (by kernel_rfl) (by kernel_rfl) (e := add64Entry) (by kernel_rfl), run_add64 _ _ _ (hi_nn x) (hi_nn y) (carry_nn x y) (carry_le x y), add_hi]
  rfl

theorem sub64_lo (x y : Int) (w : World) :
    (callFunc 107 #[.int .u64 (loOf x), .int .u64 (loOf y), .int .u64 0]).run Tryd.prog w = .ok (.value (.tuple #[.int .u64 (loOf (x - y)), .int .u64 (borrow x y)])) w := by
  rw [run_callFunc_extern Tryd.func107 (by kernel_rfl) (by kernel_rfl) (by kernel_rfl) (e := sub64Entry) (by kernel_rfl)]
  obtain ⟨X, hX⟩ := Int.eq_ofNat_of_zero_le (lo_nn x)
  obtain ⟨Y, hY⟩ := Int.eq_ofNat_of_zero_le (lo_nn y)
  have h0 := run_sub64 (P := Tryd.prog) X Y 0 (by omega) w
  have e0 : ((0 : Nat) : Int) = 0 := rfl
  rw [sub_lo x y X Y hX hY, sub_bo x y X Y hX hY, e0] at h0
  rw [hX, hY, h0]
  rfl

theorem sub64_hi (x y : Int) : ∃ j, ∀ w,
    (callFunc 107 #[.int .u64 (hiOf x), .int .u64 (hiOf y), .int .u64 (borrow x y)]).run Tryd.prog w = .ok (.value (.tuple #[.int .u64 (hiOf (x - y)), .int .u64 j])) w := by
  obtain ⟨X, hX⟩ := Int.eq_ofNat_of_zero_le (hi_nn x)
  obtain ⟨Y, hY⟩ := Int.eq_ofNat_of_zero_le (hi_nn y)
  obtain ⟨B, hB⟩ := Int.eq_ofNat_of_zero_le (borrow_nn x y)
  refine ⟨((if X < Y + B then 1 else 0 : Nat) : Int), fun w => ?_⟩
  rw [run_callFunc_extern Tryd.func107 (by kernel_rfl) (by kernel_rfl) (by kernel_rfl) (e := sub64Entry) (by kernel_rfl)]
  have h0 := run_sub64 (P := Tryd.prog) X Y B (by have := borrow_le x y; omega) w
  rw [sub_hi x y X Y B hX hY hB] at h0
  rw [hX, hY, hB, h0]
  rfl

set_option maxHeartbeats 400000 in
theorem both_any (ka kb : Bool) (a b : Int) (w : World) :
    Calls Tryd.prog 89 #[.agg #[.bool ka, .int .i64 a], .agg #[.bool kb, .int .i64 b]] w fun e w' => e = .returned (.bool (ka && kb)) ∧ Below w.heap.size w w' := by
  cases ka
  all_goals
    go_enter Tryd.func89, Tryd.ntmps89
    go_wp2
    go_ret
    exact ⟨rfl, ((Below.refl _ _).alloc (Nat.le_refl _) _).alloc (by simp) _⟩

set_option maxHeartbeats 400000 in
theorem widen_any (n : Int) (w : World) (h1 : -9223372036854775808 ≤ n) (h2 : n ≤ 9223372036854775807) :
    Calls Tryd.prog 90 #[.int .i64 n] w fun e w' => e = .returned (.agg #[.int .u64 (hiOf n), .int .u64 (loOf n)]) ∧ Below w.heap.size w w' := by
  have e1 := hi_small n h1 h2
  have e2 := lo_small n
  go_enter Tryd.func90, Tryd.ntmps90
  go_wp2
  refine bodyPost_ret (v := .agg #[.int .u64 (hiOf n), .int .u64 (loOf n)]) (by simp [results, Tryd.results90, go_sem]) rfl ⟨rfl, (Below.refl _ _).alloc (Nat.le_refl _) _⟩

set_option maxHeartbeats 400000 in
theorem plus_any (x y : Int) (w : World) :
    Calls Tryd.prog 94 #[.agg #[.int .u64 (hiOf x), .int .u64 (loOf x)], .agg #[.int .u64 (hiOf y), .int .u64 (loOf y)]] w fun e w' => e = .returned (.agg #[.int .u64 (hiOf (x + y)), .int .u64 (loOf (x + y))]) ∧ Below w.heap.size w w' := by
  have e1 := add64_lo x y
  have e2 := add64_hi x y
  go_enter Tryd.func94, Tryd.ntmps94
  go_wp2
  exact bodyPost_ret (v := .agg #[.int .u64 (hiOf (x + y)), .int .u64 (loOf (x + y))]) (by simp [results, Tryd.results94, go_sem]) rfl ⟨rfl, (((Below.refl _ _).alloc (Nat.le_refl _) _).alloc (by simp) _).alloc (by simp; omega) _⟩

set_option maxHeartbeats 400000 in
theorem minus_any (x y : Int) (w : World) :
    Calls Tryd.prog 91 #[.agg #[.int .u64 (hiOf x), .int .u64 (loOf x)], .agg #[.int .u64 (hiOf y), .int .u64 (loOf y)]] w fun e w' => e = .returned (.agg #[.int .u64 (hiOf (x - y)), .int .u64 (loOf (x - y))]) ∧ Below w.heap.size w w' := by
  have e1 := sub64_lo x y
  obtain ⟨j, e2⟩ := sub64_hi x y
  go_enter Tryd.func91, Tryd.ntmps91
  go_wp2
  exact bodyPost_ret (v := .agg #[.int .u64 (hiOf (x - y)), .int .u64 (loOf (x - y))]) (by simp [results, Tryd.results91, go_sem]) rfl ⟨rfl, (((Below.refl _ _).alloc (Nat.le_refl _) _).alloc (by simp) _).alloc (by simp; omega) _⟩

set_option maxHeartbeats 400000 in
theorem narrow_yes (x : Int) (w : World) (h : fitsB x = true) :
    Calls Tryd.prog 92 #[.agg #[.int .u64 (hiOf x), .int .u64 (loOf x)]] w fun e w' => e = .returned (.agg #[.bool true, .int .i64 x]) ∧ Below w.heap.size w w' := by
  have hx := (fits_iff x).1 h
  have e1 := lo_back x h
  go_enter Tryd.func92, Tryd.ntmps92
  go_wp2
  go_region_with (go_at_call 90; refine (widen_any _ _ hx.1 hx.2).mono ?_; rintro e w1 ⟨rfl, hb⟩; obtain ⟨hc, hf⟩ := bcell hb)
  all_goals
    obtain ⟨hc, hf⟩ := bcell hb
    have hz : w.heap.size + 1 < w1.heap.size := by have := hb.size; simp at this; omega
    go_wp2_with (go_at_call 66; refine (known_any _ _).mono ?_; rintro e w2 ⟨rfl, hb2⟩; obtain ⟨hc2, hf2⟩ := bcell hb2; have hz2 := hb2.size)
    refine bodyPost_ret (v := .agg #[.bool true, .int .i64 x]) (by simp [results, Tryd.results92, go_sem, hc, hc2, hz]) rfl ⟨rfl, ?_⟩
    exact ((((((Below.refl _ _).alloc (Nat.le_refl _) _).alloc (by simp) _).drew.trans (hb.mono (by simp; omega))).trans (hb2.mono (by omega))).setCell (by simp) _).setCell (by simp) _

set_option maxHeartbeats 400000 in
theorem narrow_no (x : Int) (w : World) (h : fitsB x = false) (h1 : -170141183460469231731687303715884105728 ≤ x) (h2 : x < 170141183460469231731687303715884105728) :
    Calls Tryd.prog 92 #[.agg #[.int .u64 (hiOf x), .int .u64 (loOf x)]] w fun e w' => e = .returned (.agg #[.bool false, .int .i64 0]) ∧ Below w.heap.size w w' := by
  have e1 := wrap_ge (loOf x)
  have e2 := wrap_le (loOf x)
  have e3 := wrap_lo_hi x h h1 h2
  go_enter Tryd.func92, Tryd.ntmps92
  go_wp2
  go_region_with (go_at_call 90; refine (widen_any _ _ e1 e2).mono ?_; rintro e w1 ⟨rfl, hb⟩; obtain ⟨hc, hf⟩ := bcell hb)
  all_goals
    obtain ⟨hc, hf⟩ := bcell hb
    have hz : w.heap.size + 1 < w1.heap.size := by have := hb.size; simp at this; omega
    go_wp2_with (go_at_call 66; refine (known_any _ _).mono ?_; rintro e w2 ⟨rfl, hb2⟩; obtain ⟨hc2, hf2⟩ := bcell hb2; have hz2 := hb2.size)
    refine bodyPost_ret (v := .agg #[.bool false, .int .i64 0]) (by simp [results, Tryd.results92, go_sem, hc]) rfl ⟨rfl, ?_⟩
    exact (((((Below.refl _ _).alloc (Nat.le_refl _) _).alloc (by simp) _).drew.trans (hb.mono (by simp; omega))).setCell (by simp) _).setCell (by simp) _

theorem narrow_any (x : Int) (w : World) (h1 : -170141183460469231731687303715884105728 ≤ x) (h2 : x < 170141183460469231731687303715884105728) :
    Calls Tryd.prog 92 #[.agg #[.int .u64 (hiOf x), .int .u64 (loOf x)]] w fun e w' => e = .returned (.agg #[.bool (fitsB x), .int .i64 (fitN x)]) ∧ Below w.heap.size w w' := by
  cases h : fitsB x
  · rw [fitN_no x h]; exact narrow_no x w h h1 h2
  · rw [fitN_yes x h]; exact narrow_yes x w h

end Go.Proofs.YtnmppmmanigpcaaDoor
namespace Go.Proofs.YtnmppmmanigpcaaDoor
open Go.RowKit
set_option linter.unusedVariables false

set_option maxHeartbeats 1000000 in
theorem add_yes (a b : Int) (w : World) (ha : fitsB a = true) (hb : fitsB b = true) :
    Calls Tryd.prog 69 #[.agg #[.bool true, .int .i64 a], .agg #[.bool true, .int .i64 b]] w fun e w' => e = .returned (.agg #[.bool (fitsB (a + b)), .int .i64 (fitN (a + b))]) ∧ Below w.heap.size w w' := by
  have ha' := (fits_iff a).1 ha
  have hb' := (fits_iff b).1 hb
  go_enter Tryd.func69, Tryd.ntmps69
  go_wp2_with (go_at_call 89; refine (both_any _ _ _ _ _).mono ?_; rintro e w0 ⟨rfl, h0⟩; obtain ⟨hc0, hf0⟩ := bcell h0)
  replace h0 := h0.drew
  go_region_with (first
    | (go_at_call 90; refine (widen_any _ _ (by omega) (by omega)).mono ?_; rintro e w1 ⟨rfl, h1⟩; replace h0 := gtrans h0 h1; obtain ⟨hc1, hf1⟩ := bcell h0)
    | (go_at_call 94; refine (plus_any _ _ _).mono ?_; rintro e w1 ⟨rfl, h1⟩; replace h0 := gtrans h0 h1; obtain ⟨hc1, hf1⟩ := bcell h0)
    | (go_at_call 92; refine (narrow_any _ _ (by omega) (by omega)).mono ?_; rintro e w1 ⟨rfl, h1⟩; replace h0 := gtrans h0 h1; obtain ⟨hc1, hf1⟩ := bcell h0))
  all_goals
    obtain ⟨hc, hf⟩ := bcell h0
    go_wp2
    refine bodyPost_ret (v := .agg #[.bool (fitsB (a + b)), .int .i64 (fitN (a + b))]) (by simp [results, Tryd.results69, go_sem, hc]) rfl ⟨rfl, ?_⟩
    exact gset (gset (gtrans (galloc (galloc (galloc (Below.refl _ _) _) _) _) h0) (by simp; omega) _) (by simp; omega) _

set_option maxHeartbeats 400000 in
theorem add_no (ka kb : Bool) (a b : Int) (w : World) (h : (ka && kb) = false) :
    Calls Tryd.prog 69 #[.agg #[.bool ka, .int .i64 a], .agg #[.bool kb, .int .i64 b]] w fun e w' => e = .returned (.agg #[.bool false, .int .i64 0]) ∧ Below w.heap.size w w' := by
  go_enter Tryd.func69, Tryd.ntmps69
  go_wp2_with (go_at_call 89; refine (both_any _ _ _ _ _).mono ?_; rintro e w0 ⟨rfl, h0⟩; obtain ⟨hc0, hf0⟩ := bcell h0)
  refine bodyPost_ret (v := .agg #[.bool false, .int .i64 0]) (by simp [results, Tryd.results69, go_sem, hc0]) rfl ⟨rfl, ?_⟩
  exact gset (gset (gtrans (galloc (galloc (galloc (Below.refl _ _) _) _) _) h0) (by simp; omega) _) (by simp; omega) _

theorem add_any (ka kb : Bool) (a b : Int) (w : World) (ha : fitsB a = true) (hb : fitsB b = true) :
    Calls Tryd.prog 69 #[.agg #[.bool ka, .int .i64 a], .agg #[.bool kb, .int .i64 b]] w fun e w' => e = .returned (.agg #[.bool (opK ka kb (a + b)), .int .i64 (opN ka kb (a + b))]) ∧ Below w.heap.size w w' := by
  cases h : (ka && kb)
  · have e1 : opK ka kb (a + b) = false := opK_no ka kb _ h
    have e2 : opN ka kb (a + b) = 0 := opN_no ka kb _ h
    rw [e1, e2]; exact add_no ka kb a b w h
  · simp only [Bool.and_eq_true] at h
    obtain ⟨rfl, rfl⟩ := h
    rw [opK_tt, opN_tt]; exact add_yes a b w ha hb

set_option maxHeartbeats 1000000 in
theorem sub_yes (a b : Int) (w : World) (ha : fitsB a = true) (hb : fitsB b = true) :
    Calls Tryd.prog 65 #[.agg #[.bool true, .int .i64 a], .agg #[.bool true, .int .i64 b]] w fun e w' => e = .returned (.agg #[.bool (fitsB (a - b)), .int .i64 (fitN (a - b))]) ∧ Below w.heap.size w w' := by
  have ha' := (fits_iff a).1 ha
  have hb' := (fits_iff b).1 hb
  go_enter Tryd.func65, Tryd.ntmps65
  go_wp2_with (go_at_call 89; refine (both_any _ _ _ _ _).mono ?_; rintro e w0 ⟨rfl, h0⟩; obtain ⟨hc0, hf0⟩ := bcell h0)
  replace h0 := h0.drew
  go_region_with (first
    | (go_at_call 90; refine (widen_any _ _ (by omega) (by omega)).mono ?_; rintro e w1 ⟨rfl, h1⟩; replace h0 := gtrans h0 h1; obtain ⟨hc1, hf1⟩ := bcell h0)
    | (go_at_call 91; refine (minus_any _ _ _).mono ?_; rintro e w1 ⟨rfl, h1⟩; replace h0 := gtrans h0 h1; obtain ⟨hc1, hf1⟩ := bcell h0)
    | (go_at_call 92; refine (narrow_any _ _ (by omega) (by omega)).mono ?_; rintro e w1 ⟨rfl, h1⟩; replace h0 := gtrans h0 h1; obtain ⟨hc1, hf1⟩ := bcell h0))
  all_goals
    obtain ⟨hc, hf⟩ := bcell h0
    go_wp2
    refine bodyPost_ret (v := .agg #[.bool (fitsB (a - b)), .int .i64 (fitN (a - b))]) (by simp [results, Tryd.results65, go_sem, hc]) rfl ⟨rfl, ?_⟩
    exact gset (gset (gtrans (galloc (galloc (galloc (Below.refl _ _) _) _) _) h0) (by simp; omega) _) (by simp; omega) _

set_option maxHeartbeats 400000 in
theorem sub_no (ka kb : Bool) (a b : Int) (w : World) (h : (ka && kb) = false) :
    Calls Tryd.prog 65 #[.agg #[.bool ka, .int .i64 a], .agg #[.bool kb, .int .i64 b]] w fun e w' => e = .returned (.agg #[.bool false, .int .i64 0]) ∧ Below w.heap.size w w' := by
  go_enter Tryd.func65, Tryd.ntmps65
  go_wp2_with (go_at_call 89; refine (both_any _ _ _ _ _).mono ?_; rintro e w0 ⟨rfl, h0⟩; obtain ⟨hc0, hf0⟩ := bcell h0)
  refine bodyPost_ret (v := .agg #[.bool false, .int .i64 0]) (by simp [results, Tryd.results65, go_sem, hc0]) rfl ⟨rfl, ?_⟩
  exact gset (gset (gtrans (galloc (galloc (galloc (Below.refl _ _) _) _) _) h0) (by simp; omega) _) (by simp; omega) _

theorem sub_any (ka kb : Bool) (a b : Int) (w : World) (ha : fitsB a = true) (hb : fitsB b = true) :
    Calls Tryd.prog 65 #[.agg #[.bool ka, .int .i64 a], .agg #[.bool kb, .int .i64 b]] w fun e w' => e = .returned (.agg #[.bool (opK ka kb (a - b)), .int .i64 (opN ka kb (a - b))]) ∧ Below w.heap.size w w' := by
  cases h : (ka && kb)
  · have e1 : opK ka kb (a - b) = false := opK_no ka kb _ h
    have e2 : opN ka kb (a - b) = 0 := opN_no ka kb _ h
    rw [e1, e2]; exact sub_no ka kb a b w h
  · simp only [Bool.and_eq_true] at h
    obtain ⟨rfl, rfl⟩ := h
    rw [opK_tt, opN_tt]; exact sub_yes a b w ha hb

set_option maxHeartbeats 400000 in
theorem neg_any (ka : Bool) (a : Int) (w : World) (ha : fitsB a = true) :
    Calls Tryd.prog 43 #[.agg #[.bool ka, .int .i64 a]] w fun e w' => e = .returned (.agg #[.bool (opK true ka (0 - a)), .int .i64 (opN true ka (0 - a))]) ∧ Below w.heap.size w w' := by
  go_enter Tryd.func43, Tryd.ntmps43
  go_wp2
  go_region_with (first
    | (go_at_call 66; refine (known_any _ _).mono ?_; rintro e w0 ⟨rfl, h0⟩; obtain ⟨hc0, hf0⟩ := bcell h0)
    | (go_at_call 65; refine (sub_any _ _ _ _ _ rfl ha).mono ?_; rintro e w1 ⟨rfl, h1⟩; replace h0 := gtrans h0 h1; obtain ⟨hc1, hf1⟩ := bcell h0))
  all_goals
    obtain ⟨hc, hf⟩ := bcell h0
    go_wp2
    refine bodyPost_ret (v := .agg #[.bool (opK true ka (0 - a)), .int .i64 (opN true ka (0 - a))]) (by simp [results, Tryd.results43, go_sem, hc]) rfl ⟨rfl, ?_⟩
    exact gset (gset (gtrans (galloc (galloc (Below.refl _ _) _) _).drew h0) (by simp) _) (by simp) _

end Go.Proofs.YtnmppmmanigpcaaDoor
