/- The document's sizes. And what goes with it: 3 texts in one. -/
import Derived.Test.YtnmppmmanigpcaaDoorJa25
import Derived.OrdersHeld
import Derived.Deep.MidRow
namespace Go.Proofs.YtnmppmmanigpcaaDoor
open Go.RowKit Go.BigFrame Go.Proofs.YtnmppmmanigpcaaDoor.Ev
set_option linter.unusedVariables false
set_option linter.unusedSimpArgs false

/-- How many instructions the node i has. -/
def szN (L : List Ty) (M : ByteArray → Option Int) (ns : List Nd) (i : Nat) : Int := (posN L M ns i : Int) + 1 - (posN L M ns (bg (bsOf ns) i) : Int)
section
variable {L : List Ty} {M : ByteArray → Option Int} {ns : List Nd}
theorem pos_after {i j : Nat} (K : ∀ i, i < ns.length → Kin ns (bsOf ns) i) (hi : i < ns.length) (hj : (ns.getD i noNd).r = (j : Int) ∨ ((ns.getD i noNd).l = (j : Int) ∧ aoB (ns.getD i noNd) = false)) : posN L M ns (j + 1) = posN L M ns j + 1 := by
  have hno : jmpF ns ns.length j = 0 := jmpF_no fun p hp ha hl => by
    rcases hj with hj | ⟨hj, hb⟩
    · have := kin_uniq K hp hi (.inl hl) (.inr hj)
      subst this
      have k := K p hp
      have h2 := of_decide_eq_true ha
      rcases k.how with ⟨q, _⟩ | ⟨q, _⟩ | ⟨_, q0, q1, q2, q3, q4⟩
      · omega
      · omega
      · have := (K (p - 1) (by omega)).le
        omega
    · have := kin_uniq K hp hi (.inl hl) (.inl hj)
      subst this
      rw [ha] at hb
      cases hb
  rw [pos_succ, hno, if_pos rfl]
theorem pos_jump {i j : Nat} (K : ∀ i, i < ns.length → Kin ns (bsOf ns) i) (hi : i < ns.length) (hj : (ns.getD i noNd).l = (j : Int)) (ha : aoB (ns.getD i noNd) = true) : posN L M ns (j + 1) = posN L M ns j + 2 := by
  have hv := jmpF_val ns j i hj ha ns.length hi fun q hq hqa hql => kin_uniq K hq hi (.inl hql) (.inl hj)
  have h2 := of_decide_eq_true ha
  rw [pos_succ, if_neg (by rw [hv]; omega)]
/-- What the sizes and the places of a node and its operands have to do with each other. -/
theorem sz_leaf {i : Nat} (k : Kin ns (bsOf ns) i) (h : (ns.getD i noNd).op ≤ 11) : szN L M ns i = 1 := by
  rcases k.how with ⟨_, e, _⟩ | ⟨q, _⟩ | ⟨q, _⟩
  · unfold szN; rw [e]; omega
  · omega
  · omega
theorem sz_one {i : Nat} (K : ∀ i, i < ns.length → Kin ns (bsOf ns) i) (hi : i < ns.length) (h : (ns.getD i noNd).op = 12 ∨ (ns.getD i noNd).op = 13) : ∃ a : Nat, (ns.getD i noNd).l = (a : Int) ∧ a < i ∧ szN L M ns i = szN L M ns a + 1 ∧ bg (bsOf ns) i = bg (bsOf ns) a := by
  rcases (K i hi).how with ⟨q, _⟩ | ⟨_, h0, e1, e2, e⟩ | ⟨q, _⟩
  · omega
  · have hp := pos_after (L := L) (M := M) K hi (j := i - 1) (.inr ⟨e1, decide_eq_false (by omega)⟩)
    rw [Nat.sub_add_cancel h0] at hp
    refine ⟨i - 1, e1, by omega, ?_, e⟩
    unfold szN
    rw [e]
    omega
  · omega
theorem sz_two {i : Nat} (K : ∀ i, i < ns.length → Kin ns (bsOf ns) i) (hi : i < ns.length) (h : 14 ≤ (ns.getD i noNd).op) : ∃ a b : Nat, (ns.getD i noNd).l = (a : Int) ∧ (ns.getD i noNd).r = (b : Int) ∧ a < i ∧ b < i ∧ a ≠ b ∧ bg (bsOf ns) i = bg (bsOf ns) a ∧ bg (bsOf ns) b = a + 1 ∧
    (aoB (ns.getD i noNd) = false → szN L M ns i = szN L M ns a + szN L M ns b + 1 ∧ posN L M ns (bg (bsOf ns) b) = posN L M ns a + 1) ∧ (aoB (ns.getD i noNd) = true → szN L M ns i = szN L M ns a + szN L M ns b + 2 ∧ posN L M ns (bg (bsOf ns) b) = posN L M ns a + 2) := by
  rcases (K i hi).how with ⟨q, _⟩ | ⟨q, _⟩ | ⟨_, h0, h1, e2, e3, e⟩
  · omega
  · omega
  · have kb := (K (i - 1) (by omega)).le
    have ka := (K (bg (bsOf ns) (i - 1) - 1) (by omega)).le
    have hb := pos_after (L := L) (M := M) K hi (j := i - 1) (.inl e2)
    rw [Nat.sub_add_cancel h0] at hb
    have hs : bg (bsOf ns) (i - 1) = bg (bsOf ns) (i - 1) - 1 + 1 := by omega
    refine ⟨bg (bsOf ns) (i - 1) - 1, i - 1, e3, e2, by omega, by omega, by omega, e, hs, fun ha => ?_, fun ha => ?_⟩
    · have hp := pos_after (L := L) (M := M) K hi (j := bg (bsOf ns) (i - 1) - 1) (.inr ⟨e3, ha⟩)
      rw [← hs] at hp
      refine ⟨?_, hp⟩
      unfold szN
      rw [e]
      omega
    · have hp := pos_jump (L := L) (M := M) K hi (j := bg (bsOf ns) (i - 1) - 1) e3 ha
      rw [← hs] at hp
      refine ⟨?_, hp⟩
      unfold szN
      rw [e]
      omega
theorem pos_le (k : Nat) : posN L M ns k ≤ 2 * k := (treK_in L M ns k).2
theorem sz_pos {i : Nat} (k : Kin ns (bsOf ns) i) : 1 ≤ szN L M ns i ∧ szN L M ns i ≤ 2 * i + 1 := by
  have := pos_mono (L := L) (M := M) (ns := ns) k.le
  have h2 := pos_le (L := L) (M := M) (ns := ns) i
  unfold szN
  omega
end
def szL (L : List Ty) (M : ByteArray → Option Int) (ns : List Nd) (k : Nat) : List Int := (List.range k).map (szN L M ns)
theorem szL_len (L : List Ty) (M : ByteArray → Option Int) (ns : List Nd) (k : Nat) : (szL L M ns k).length = k := by unfold szL; rw [List.length_map, List.length_range]
theorem szL_at (L : List Ty) (M : ByteArray → Option Int) (ns : List Nd) {k j : Nat} (h : j < k) : (szL L M ns k).getD j 0 = szN L M ns j := by
  unfold szL
  rw [List.getD_eq_getElem?_getD, List.getElem?_map, List.getElem?_range h]
  rfl
theorem szL_succ (L : List Ty) (M : ByteArray → Option Int) (ns : List Nd) (k : Nat) : szL L M ns (k + 1) = szL L M ns k ++ [szN L M ns k] := by
  unfold szL
  rw [List.range_succ, List.map_append]
  rfl
theorem ints_cell {w : World} {b : Nat} {ao : Option Addr} {n c : Nat} {l : List Int} (h : w.ownsRow b 3 1 (.slice ao n c) n (intsV l)) (hl : l.length = n) {j : Nat} (hj : j < n) : ∃ g, ao = some ⟨g, 0, none⟩ ∧ w.cell? ⟨g, j, none⟩ = some (.int .i64 (l.getD j 0)) := by
  obtain ⟨ao', c', e', _, _, hh⟩ := own_form h
  cases e'
  rcases hh with hh | ⟨g, rfl, _⟩
  · omega
  · refine ⟨g, rfl, ?_⟩
    rw [World.ownsRow.cellAt h j (by omega)]
    unfold intsV
    rw [List.getElem?_map, List.getElem?_eq_getElem (by omega), List.getD_eq_getElem?_getD, List.getElem?_eq_getElem (by omega)]
    rfl
set_option maxRecDepth 100000 in
set_option maxHeartbeats 8000000 in
theorem refSizes_any (L : List Ty) (M : ByteArray → Option Int) (ns : List Nd) (ht : treeB ns = true) (ao : Option Addr) (cap : Nat) (w : World) (A : IsNds w ao ns) (hr : ns.length * 64 ≤ 140737488351232) :
    Calls Tryd.prog 57 #[.slice ao ns.length cap] w fun e w' => ∃ v, e = .returned v ∧ w'.ownsRow w.heap.size 3 1 v ns.length (intsV (szL L M ns ns.length)) ∧ Below w.heap.size w w' := by
  obtain ⟨i0, hi, hz0, hz1, hz2⟩ := nf_info nf_int
  obtain ⟨_, _, _, K⟩ := tree_bs ht
  obtain ⟨n, hn⟩ : ∃ n, ns.length = n := ⟨_, rfl⟩
  have HN := show Hid (_ = _) from hn
  have HK := show Hid (∀ i, i < ns.length → Kin ns (bsOf ns) i) from K
  rw [hn] at hr ⊢
  clear hn K
  go_enter Tryd.func57, Tryd.ntmps57
  go_wp2
  go_loopw [3, 4, 5, 6] (fun v i _ _ wr => (∃ k : Nat, k ≤ n ∧ i = .int .i64 (k : Int) ∧ wr.ownsRow w.heap.size 3 1 v k (intsV (szL L M ns k))) ∧ Below w.heap.size w wr) (fun _ i _ _ _ => n - (intOf i).toNat)
  case atStart => exact ⟨⟨0, Nat.zero_le _, rfl, World.ownsRow_nil _ _ _ _⟩, Below.refl _ _⟩
  case round =>
    obtain ⟨⟨k, hk, rfl, O⟩, G⟩ := hrel
    by_cases hlt : k < n
    · have hki : (k : Int) < (n : Int) := by omega
      have hkn : k < ns.length := by rw [HN.out]; exact hlt
      have kk := HK.out k hkn
      obtain ⟨g, o, rfl, x0, x1, x2, x3, x4, x5⟩ := (A.keep G) k hkn
      obtain ⟨oa, oc, rfl, _, _, _⟩ := own_form O
      have hsz := sz_pos (L := L) (M := M) kk
      have hzz := G.size
      have step : ∀ (v' : Value) (w1 : World) (wx : World) (O1 : wx.ownsRow w.heap.size 3 1 (.slice oa k oc) k (intsV (szL L M ns k))) (h : w1.ownsRow w.heap.size 3 1 v' (k + 1) (intsV (szL L M ns k) ++ [.int .i64 (szN L M ns k)])), w1.ownsRow w.heap.size 3 1 v' (k + 1) (intsV (szL L M ns (k + 1))) := fun v' w1 wx O1 h => by
        rw [szL_succ]
        unfold intsV at h ⊢
        rw [List.map_append]
        exact h
      have HST := show Hid (∀ (v' : Value) (w1 : World) (wx : World) (O1 : wx.ownsRow w.heap.size 3 1 (.slice oa k oc) k (intsV (szL L M ns k))) (h : w1.ownsRow w.heap.size 3 1 v' (k + 1) (intsV (szL L M ns k) ++ [.int .i64 (szN L M ns k)])), w1.ownsRow w.heap.size 3 1 v' (k + 1) (intsV (szL L M ns (k + 1)))) from step
      clear step
      have cm := fun u => refMentions_any (ns.getD k noNd).op u
      -- what the switch leaves
      have hleaf := fun h => sz_leaf (L := L) (M := M) kk h
      have hone := fun h => sz_one (L := L) (M := M) HK.out hkn h
      have htwo := fun h => sz_two (L := L) (M := M) HK.out hkn h
      have hcell := fun (j : Nat) (hj : j < k) => ints_cell O (szL_len L M ns k) hj
      have hval := fun (j : Nat) (hj : j < k) => szL_at L M ns hj
      have hbnd := fun (j : Nat) (hj : j < k) => sz_pos (L := L) (M := M) (HK.out j (by rw [HN.out]; omega))
      obtain ⟨ho1, ho2⟩ := kk.op
      obtain ⟨sz, hszv⟩ : ∃ sz, szN L M ns k = sz := ⟨_, rfl⟩
      rw [hszv] at hleaf hone htwo hsz HST
      have aoB_def : ∀ n : Nd, aoB n = decide (n.op = 25 ∨ n.op = 26) := fun n => rfl
      have hAO := aoB_def (ns.getD k noNd)
      clear kk aoB_def
      generalize aoB (ns.getD k noNd) = ab at *
      generalize ns.getD k noNd = y at *
      obtain ⟨yop, yn, yv, yx, yl, yr⟩ := y
      dsimp only at *
      go_upto_region 6 with fail
      go_cut [6] from 6 to 6 (fun s wx => s = .int .i64 1 ∧ wx = wr)
      case first =>
        go_wp2
        go_meet
        case rel => exact ⟨rfl, rfl⟩
      case rest =>
        obtain ⟨rfl, hwx⟩ := hcut
        have hwx' := hwx.symm
        subst hwx'
        clear hwx
        go_step
        go_step
        go_cut [6] from 18 to 91 (fun s wx => s = .int .i64 sz ∧ Below wr.heap.size wr wx)
        case first =>
          by_cases h11 : yop ≤ 11
          · have hs1 := hleaf h11
            have HSZ := show Hid (_ = _) from hs1
            clear hleaf hone htwo hcell hval hbnd hAO hs1 hsz HST O
            by_cases h1 : yop = 1
            · subst h1
              go_wp2
              go_meet
              case rel => exact ⟨by rw [HSZ.out], Below.refl _ _⟩
            have e1 : (yop == 1) = false := beq_eq_false_iff_ne.2 h1
            by_cases h2 : yop = 2
            · subst h2
              go_wp2
              go_meet
              case rel => exact ⟨by rw [HSZ.out], Below.refl _ _⟩
            have e2 : (yop == 2) = false := beq_eq_false_iff_ne.2 h2
            by_cases h3 : yop = 3
            · subst h3
              go_wp2
              go_meet
              case rel => exact ⟨by rw [HSZ.out], Below.refl _ _⟩
            have e3 : (yop == 3) = false := beq_eq_false_iff_ne.2 h3
            have hm : kMent yop = true := decide_eq_true (by omega)
            rw [hm] at cm
            clear hm
            go_wp2_with (go_at_call 53; (with_reducible refine (cm _).mono ?_); rintro e u ⟨rfl, hu⟩; have hu' := hu.symm; subst hu')
            go_meet
            case rel => exact ⟨by rw [HSZ.out], Below.refl _ _⟩
          have e1 : (yop == 1) = false := beq_eq_false_iff_ne.2 (by omega)
          have e2 : (yop == 2) = false := beq_eq_false_iff_ne.2 (by omega)
          have e3 : (yop == 3) = false := beq_eq_false_iff_ne.2 (by omega)
          have hm : kMent yop = false := decide_eq_false (by omega)
          rw [hm] at cm
          by_cases h13 : yop = 12 ∨ yop = 13
          · obtain ⟨a, rfl, ha, hs1, _⟩ := hone h13
            obtain ⟨g2, hg2, c0⟩ := hcell a ha
            cases hg2
            rw [hval a ha] at c0
            have hb := hbnd a ha
            generalize szN L M ns a = za at *
            have HSZ := show Hid (_ = _) from hs1
            have hai : (a : Int) < (k : Int) := by omega
            clear hleaf hone htwo hcell hval hbnd hAO hs1 HST O hm
            rcases h13 with rfl | rfl
            all_goals
              go_wp2_with (go_at_call 53; (with_reducible refine (cm _).mono ?_); rintro e u ⟨rfl, hu⟩; have hu' := hu.symm; subst hu')
              go_meet
              case rel => exact ⟨by rw [HSZ.out], Below.refl _ _⟩
          · have e12 : (yop == 12) = false := beq_eq_false_iff_ne.2 (by omega)
            have e13 : (yop == 13) = false := beq_eq_false_iff_ne.2 (by omega)
            obtain ⟨a, b, rfl, rfl, ha, hb, hab, _, _, t1, t2⟩ := htwo (by omega)
            obtain ⟨g2, hg2, c0⟩ := hcell a ha
            cases hg2
            obtain ⟨g3, hg3, c1⟩ := hcell b hb
            cases hg3
            rw [hval a ha] at c0
            rw [hval b hb] at c1
            have hba := hbnd a ha
            have hbb := hbnd b hb
            generalize szN L M ns a = za at *
            generalize szN L M ns b = zb at *
            have hai : (a : Int) < (k : Int) := by omega
            have hbi : (b : Int) < (k : Int) := by omega
            have hne0 : Nonempty (Ext wr) := ⟨⟨_, Below.refl _ _⟩⟩
            have p4 := fun e : Ext wr => (e.cell _ _ (lt_of_cell x4)).trans x4
            have p5 := fun e : Ext wr => (e.cell _ _ (lt_of_cell x5)).trans x5
            have q0 := fun e : Ext wr => (e.cell _ _ (lt_of_cell c0)).trans c0
            have q1 := fun e : Ext wr => (e.cell _ _ (lt_of_cell c1)).trans c1
            by_cases h25 : yop = 25 ∨ yop = 26
            · rw [decide_eq_true h25] at hAO
              have hs1 := (t2 hAO).1
              have HSZ := show Hid (_ = _) from hs1
              clear hleaf hone htwo hcell hval hbnd hAO hs1 HST O hm t1 t2
              rcases h25 with rfl | rfl
              all_goals
              · go_upto_region 12 with (go_at_call 53; (with_reducible refine (cm _).mono ?_); rintro e u ⟨rfl, hu⟩; have hu' := hu.symm; subst hu')
                refine wp_region_ext (by kernel_rfl) (by kernel_rfl) ?_
                repeat (go_big_quiet_step (fail))
                refine wpQuiet_nil ?_
                intro _ hw'
                obtain ⟨nz, hw''⟩ := hw'
                subst hw''
                have GX := nz.h
                generalize nz.X = X at *
                clear p4 p5 q0 q1 hne0
                go_wp2
                go_meet
                case rel => exact ⟨by first | rw [HSZ.out] | (rw [HSZ.out]; rfl) | (congr 1; rw [HSZ.out]; omega), GX⟩
            · rw [decide_eq_false h25] at hAO
              have e25 : (yop == 25) = false := beq_eq_false_iff_ne.2 (by omega)
              have e26 : (yop == 26) = false := beq_eq_false_iff_ne.2 (by omega)
              have hs1 := (t1 hAO).1
              have HSZ := show Hid (_ = _) from hs1
              clear hleaf hone htwo hcell hval hbnd hAO hs1 HST O hm t1 t2
              go_upto_region 7 with (go_at_call 53; (with_reducible refine (cm _).mono ?_); rintro e u ⟨rfl, hu⟩; have hu' := hu.symm; subst hu')
              refine wp_region_ext (by kernel_rfl) (by kernel_rfl) ?_
              repeat (go_big_quiet_step (fail))
              refine wpQuiet_nil ?_
              intro _ hw'
              obtain ⟨nz, hw''⟩ := hw'
              subst hw''
              have GX := nz.h
              generalize nz.X = X at *
              clear p4 p5 q0 q1 hne0
              go_wp2
              go_meet
              case rel => exact ⟨by first | rw [HSZ.out] | (rw [HSZ.out]; rfl) | (congr 1; rw [HSZ.out]; omega), GX⟩
        case rest =>
          obtain ⟨rfl, GW⟩ := hcut
          have O1 := own_keep O GW
          have G1 := gtrans G GW
          have hzw := GW.size
          clear hleaf hone htwo hcell hval hbnd hAO O
          go_wp2_with (at_builtin; refine wpList_append_own _ rfl (.tmp 92) (.tmp 94) 60 rfl w.heap.size 3 i0 (.int .i64 0) 1 8 Tryd.underlying60 hi hz0 hz1 hz2 rfl (by decide) _ _ _ rfl (O1.alloc _) ⟨wc.heap.size, 0, none⟩ 1 1 [.int .i64 sz] rfl rfl (one_newE rfl _ _) (fun u hu => by simp at hu; subst hu; rfl) ?c3 ?c4 ?c5 ?_)
          case c3 => unfold maxLen; omega
          case c4 => omega
          case c5 => simp; omega
          intro v' w1 own' hgrow _
          have O2 := HST.out v' w1 wc O1 own'
          have G2 := (galloc G1 (.cells #[.int .i64 sz] 3)).grown hgrow (by simp; omega) (fun r e => by have := (O1.lt _ e).1; omega)
          have HO := show Hid _ from O2
          clear own' hgrow O2 O1 HST
          go_wp2
          go_roundw
          case rel => exact ⟨⟨k + 1, by omega, by go_num, HO.out⟩, G2⟩
          case measure => simp [intOf]; omega
    · obtain rfl : k = n := by omega
      go_wp2
      go_ret
      exact ⟨_, rfl, O, G⟩

end Go.Proofs.YtnmppmmanigpcaaDoor
namespace Go.Proofs.YtnmppmmanigpcaaDoor
open Go.RowKit Go.BigFrame Go.Proofs.YtnmppmmanigpcaaDoor.Ev
set_option linter.unusedVariables false
set_option linter.unusedSimpArgs false

/-- What the document makes of a mention. -/
def menI (q : Qy) (l : List ByteArray) (n : Nd) : Ins := ⟨kCod n.op, itmI q.items n.v, if n.op = 5 then 0 else colI l n.x, 0, 0⟩
set_option maxRecDepth 100000 in
set_option maxHeartbeats 8000000 in
theorem refMention_any (q : Qy) (hq : q.fit) (cs : Array Value) (ai : Option Addr) (ci : Nat) (aw : Option Addr) (cw : Nat) (ar : Option Addr) (cr : Nat) (l : List ByteArray) (U : Uniq l) (hl : l.length ≤ 140737488351232) (lo : Option Addr) (lc : Nat) (n : Nd) (hn : n.fit) (hm : kMent n.op = true) (w : World) (AQ : IsQ w q cs ai ci aw cw ar cr) (AS : IsSs w lo l) :
    Calls Tryd.prog 58 #[.agg cs, .slice lo l.length lc, .agg (ndA n)] w fun e w' => e = .returned (.agg (insC (menI q l n))) ∧ Below w.heap.size w w' := by
  obtain ⟨he, _⟩ := id AQ
  subst he
  have B0 := galloc (galloc (galloc (Below.refl w.heap.size w) (.cells #[.slice ai q.items.length ci, .int .i64 q.mode, .int .i64 q.after, .slice aw q.wh.length cw, .int .i64 q.within, .string q.by_, .slice ar q.ret.length cr] 31)) (.cells (ndA n) 63)) (.cells #[.int .i64 0, .int .i64 0, .int .i64 0, .int .i64 0, .int .i64 0] 74)
  have b0 := ((Bk.new w #[.slice ai q.items.length ci, .int .i64 q.mode, .int .i64 q.after, .slice aw q.wh.length cw, .int .i64 q.within, .string q.by_, .slice ar q.ret.length cr] 31).alloc (.cells (ndA n) 63)).alloc (.cells #[.int .i64 0, .int .i64 0, .int .i64 0, .int .i64 0, .int .i64 0] 74)
  have b1 := (Bk.newE (w := w.alloc (.cells #[.slice ai q.items.length ci, .int .i64 q.mode, .int .i64 q.after, .slice aw q.wh.length cw, .int .i64 q.within, .string q.by_, .slice ar q.ret.length cr] 31)) (g := w.heap.size + 1) (by simp) (ndA n) 63).alloc (.cells #[.int .i64 0, .int .i64 0, .int .i64 0, .int .i64 0, .int .i64 0] 74)
  have b2 := Bk.newE (w := (w.alloc (.cells #[.slice ai q.items.length ci, .int .i64 q.mode, .int .i64 q.after, .slice aw q.wh.length cw, .int .i64 q.within, .string q.by_, .slice ar q.ret.length cr] 31)).alloc (.cells (ndA n) 63)) (g := w.heap.size + 2) (by simp) #[.int .i64 0, .int .i64 0, .int .i64 0, .int .i64 0, .int .i64 0] 74
  have zV : (((w.alloc (.cells #[.slice ai q.items.length ci, .int .i64 q.mode, .int .i64 q.after, .slice aw q.wh.length cw, .int .i64 q.within, .string q.by_, .slice ar q.ret.length cr] 31)).alloc (.cells (ndA n) 63)).alloc (.cells #[.int .i64 0, .int .i64 0, .int .i64 0, .int .i64 0, .int .i64 0] 74)).heap.size = w.heap.size + 3 := by simp
  have cI := fun (u : World) (g : Below w.heap.size w u) => refItemOf7_any q hq n.v hn.v _ ai ci aw cw ar cr u (AQ.keep g)
  have cC := fun (u : World) (g : Below w.heap.size w u) => refColumn_any l U n.x lo lc u (AS.keep g) hl
  obtain ⟨iv, hiv⟩ : ∃ iv, itmI q.items n.v = iv := ⟨_, rfl⟩
  obtain ⟨cv, hcv⟩ : ∃ cv, colI l n.x = cv := ⟨_, rfl⟩
  obtain ⟨res, hres⟩ : ∃ r, menI q l n = r := ⟨_, rfl⟩
  rw [hres]
  have HRES : Hid ((⟨kCod n.op, iv, if n.op = 5 then 0 else cv, 0, 0⟩ : Ins) = res) := by
    show _ = _
    rw [← hres]
    unfold menI
    rw [hiv, hcv]
  rw [hiv] at cI
  rw [hcv] at cC
  obtain ⟨hm1, hm2⟩ := of_decide_eq_true hm
  clear hres hiv hcv hm hn
  obtain ⟨nop, nn, nv, nx, nl, nr⟩ := n
  unfold ndA at *
  dsimp only at *
  obtain ⟨rc, ri, rcol, rn, rt⟩ := res
  obtain ⟨h1, h2, h3, h4, h5⟩ : kCod nop = rc ∧ iv = ri ∧ (if nop = 5 then 0 else cv) = rcol ∧ (0 : Int) = rn ∧ (0 : Int) = rt := by
    have := HRES.out
    cases this
    exact ⟨rfl, rfl, rfl, rfl, rfl⟩
  subst h2 h4 h5
  have HC := show Hid (_ = _) from h1
  have HL := show Hid (_ = _) from h3
  clear h1 h3 HRES
  unfold insC
  dsimp only
  go_enter Tryd.func58, Tryd.ntmps58
  go_upto_region 1 with fail
  generalize ((w.alloc _).alloc _).alloc _ = V at *
  obtain ⟨q0, q1, q2, q3, q4, q5, q6⟩ := b0.at7
  obtain ⟨m0, m1, m2, m3, m4, m5⟩ := b1.at6
  go_upto_region 4 with (go_at_call 54; (with_reducible refine (cI V B0).mono ?_); rintro e u1 ⟨rfl, g1⟩)
  have I0 := Bk.new u1 #[.int .i64 0, .int .i64 iv, .int .i64 0, .int .i64 0, .int .i64 0] 74
  have N0 := (b1.keep g1).alloc (.cells #[.int .i64 0, .int .i64 iv, .int .i64 0, .int .i64 0, .int .i64 0] 74)
  have R0 := (b2.keep g1).alloc (.cells #[.int .i64 0, .int .i64 iv, .int .i64 0, .int .i64 0, .int .i64 0] 74)
  have G0 := galloc (gtrans B0 g1) (.cells #[.int .i64 0, .int .i64 iv, .int .i64 0, .int .i64 0, .int .i64 0] 74)
  have hzu := g1.size
  clear b0 b1 b2 q0 q1 q2 q3 q4 q5 q6 m0 m1 m2 m3 m4 m5 cI B0 AQ AS
  generalize u1.alloc _ = X at *
  obtain ⟨bi, hbi⟩ : ∃ bi, u1.heap.size = bi := ⟨_, rfl⟩
  rw [hbi] at I0 hzu ⊢
  clear g1 hbi
  have hbb : w.heap.size + 2 < bi := by omega
  obtain ⟨m0, m1, m2, m3, m4, m5⟩ := N0.at6
  have fi := I0.free 0
  obtain ⟨j0, j1, j2, j3, j4⟩ := I0.at5
  have setc : ∀ c : Int, Bk (X.setCell ⟨bi, 0, none⟩ (.int .i64 c)) bi #[.int .i64 c, .int .i64 iv, .int .i64 0, .int .i64 0, .int .i64 0] 74 ∧ Bk (X.setCell ⟨bi, 0, none⟩ (.int .i64 c)) (w.heap.size + 1) #[.int .i64 nop, .int .i64 nn, .string nv, .string nx, .int .i64 nl, .int .i64 nr] 63 ∧ Bk (X.setCell ⟨bi, 0, none⟩ (.int .i64 c)) (w.heap.size + 2) #[.int .i64 0, .int .i64 0, .int .i64 0, .int .i64 0, .int .i64 0] 74 ∧ Below w.heap.size w (X.setCell ⟨bi, 0, none⟩ (.int .i64 c)) := fun c =>
    ⟨I0.set 0 (.int .i64 c), ((But.refl bi X).set 0 (.int .i64 c) (w.heap.size + 1) (by omega)).trans N0, ((But.refl bi X).set 0 (.int .i64 c) (w.heap.size + 2) (by omega)).trans R0, gset G0 (p := ⟨bi, 0, none⟩) (by dsimp only; omega) (.int .i64 c)⟩
  by_cases h5 : nop = 5
  · subst h5
    obtain ⟨I1, N1, R1, G1⟩ := setc 4
    clear setc
    go_upto_region 6 with fail
    generalize X.setCell ⟨bi, 0, none⟩ (.int .i64 4) = Y at *
    clear j0 j1 j2 j3 j4 m0 m1 m2 m3 m4 m5 fi
    obtain ⟨i0, i1, i2, i3, i4⟩ := I1.at5
    obtain ⟨r0, r1, r2, r3, r4⟩ := R1.at5
    have f0 := R1.free 0
    have f1 := R1.free 1
    have f2 := R1.free 2
    have f3 := R1.free 3
    have f4 := R1.free 4
    have RE : Bk (((((Y.setCell ⟨w.heap.size + 2, 0, none⟩ (.int .i64 4)).setCell ⟨w.heap.size + 2, 1, none⟩ (.int .i64 iv)).setCell ⟨w.heap.size + 2, 2, none⟩ (.int .i64 0)).setCell ⟨w.heap.size + 2, 3, none⟩ (.int .i64 0)).setCell ⟨w.heap.size + 2, 4, none⟩ (.int .i64 0)) (w.heap.size + 2) #[.int .i64 4, .int .i64 iv, .int .i64 0, .int .i64 0, .int .i64 0] 74 := sets5 R1 (.int .i64 4) (.int .i64 iv) (.int .i64 0) (.int .i64 0) (.int .i64 0)
    obtain ⟨e0, e1, e2, e3, e4⟩ := RE.at5
    have GE := gset (gset (gset (gset (gset (G1) (p := ⟨w.heap.size + 2, 0, none⟩) (by dsimp only; omega) (.int .i64 4)) (p := ⟨w.heap.size + 2, 1, none⟩) (by dsimp only; omega) (.int .i64 iv)) (p := ⟨w.heap.size + 2, 2, none⟩) (by dsimp only; omega) (.int .i64 0)) (p := ⟨w.heap.size + 2, 3, none⟩) (by dsimp only; omega) (.int .i64 0)) (p := ⟨w.heap.size + 2, 4, none⟩) (by dsimp only; omega) (.int .i64 0)
    clear RE
    go_wp2
    exact bodyPost_ret (v := .agg #[.int .i64 4, .int .i64 iv, .int .i64 0, .int .i64 0, .int .i64 0]) (by simp [results, Tryd.results58, go_sem, e0, e1, e2, e3, e4]) rfl ⟨by rw [← HC.out, ← HL.out]; rfl, GE⟩
  have e5 : (nop == 5) = false := beq_eq_false_iff_ne.2 h5
  rw [if_neg h5] at HL
  have rest : ∀ (c : Int) (Y : World) (hc : c = kCod nop) (I1 : Bk Y bi #[.int .i64 c, .int .i64 iv, .int .i64 0, .int .i64 0, .int .i64 0] 74), True := fun _ _ _ _ => trivial
  clear rest
  have cCc := cC
  by_cases h4 : nop = 4
  · subst h4
    obtain ⟨I1, N1, R1, G1⟩ := setc 2
    clear setc
    go_upto_region 11 with fail
    generalize X.setCell ⟨bi, 0, none⟩ (.int .i64 2) = Y at *
    clear j0 j1 j2 j3 j4 m0 m1 m2 m3 m4 m5 fi
    obtain ⟨m0, m1, m2, m3, m4, m5⟩ := N1.at6
    go_upto_region 12 with (go_at_call 56; (with_reducible refine (cC Y G1).mono ?_); rintro e Z ⟨rfl, gZ⟩; have IZ := I1.keep gZ; have fz := IZ.free 2; obtain ⟨k0, k1, k2, k3, k4⟩ := IZ.at5)
    have I2 := IZ.set 2 (.int .i64 cv)
    replace I2 : Bk (Z.setCell ⟨bi, 2, none⟩ (.int .i64 cv)) bi #[.int .i64 2, .int .i64 iv, .int .i64 cv, .int .i64 0, .int .i64 0] 74 := I2
    have R2 : Bk (Z.setCell ⟨bi, 2, none⟩ (.int .i64 cv)) (w.heap.size + 2) #[.int .i64 0, .int .i64 0, .int .i64 0, .int .i64 0, .int .i64 0] 74 := ((But.refl bi Z).set 2 (.int .i64 cv) (w.heap.size + 2) (by omega)).trans (R1.keep gZ)
    have G2 := gset (gtrans G1 gZ) (p := ⟨bi, 2, none⟩) (by dsimp only; omega) (.int .i64 cv)
    clear I1 N1 R1 G1 IZ fz k0 k1 k2 k3 k4 gZ m0 m1 m2 m3 m4 m5
    generalize Z.setCell ⟨bi, 2, none⟩ (.int .i64 cv) = Y2 at *
    obtain ⟨i0, i1, i2, i3, i4⟩ := I2.at5
    obtain ⟨r0, r1, r2, r3, r4⟩ := R2.at5
    have f0 := R2.free 0
    have f1 := R2.free 1
    have f2 := R2.free 2
    have f3 := R2.free 3
    have f4 := R2.free 4
    have RE : Bk (((((Y2.setCell ⟨w.heap.size + 2, 0, none⟩ (.int .i64 2)).setCell ⟨w.heap.size + 2, 1, none⟩ (.int .i64 iv)).setCell ⟨w.heap.size + 2, 2, none⟩ (.int .i64 cv)).setCell ⟨w.heap.size + 2, 3, none⟩ (.int .i64 0)).setCell ⟨w.heap.size + 2, 4, none⟩ (.int .i64 0)) (w.heap.size + 2) #[.int .i64 2, .int .i64 iv, .int .i64 cv, .int .i64 0, .int .i64 0] 74 := sets5 R2 (.int .i64 2) (.int .i64 iv) (.int .i64 cv) (.int .i64 0) (.int .i64 0)
    obtain ⟨e0, e1, e2, e3, e4⟩ := RE.at5
    have GE := gset (gset (gset (gset (gset (G2) (p := ⟨w.heap.size + 2, 0, none⟩) (by dsimp only; omega) (.int .i64 2)) (p := ⟨w.heap.size + 2, 1, none⟩) (by dsimp only; omega) (.int .i64 iv)) (p := ⟨w.heap.size + 2, 2, none⟩) (by dsimp only; omega) (.int .i64 cv)) (p := ⟨w.heap.size + 2, 3, none⟩) (by dsimp only; omega) (.int .i64 0)) (p := ⟨w.heap.size + 2, 4, none⟩) (by dsimp only; omega) (.int .i64 0)
    clear RE
    go_wp2
    exact bodyPost_ret (v := .agg #[.int .i64 2, .int .i64 iv, .int .i64 cv, .int .i64 0, .int .i64 0]) (by simp [results, Tryd.results58, go_sem, e0, e1, e2, e3, e4]) rfl ⟨by rw [← HC.out, ← HL.out]; rfl, GE⟩
  have e4' : (nop == 4) = false := beq_eq_false_iff_ne.2 h4
  by_cases h11 : nop = 11
  · subst h11
    obtain ⟨I1, N1, R1, G1⟩ := setc 3
    clear setc
    go_upto_region 11 with fail
    generalize X.setCell ⟨bi, 0, none⟩ (.int .i64 3) = Y at *
    clear j0 j1 j2 j3 j4 m0 m1 m2 m3 m4 m5 fi
    obtain ⟨m0, m1, m2, m3, m4, m5⟩ := N1.at6
    go_upto_region 12 with (go_at_call 56; (with_reducible refine (cC Y G1).mono ?_); rintro e Z ⟨rfl, gZ⟩; have IZ := I1.keep gZ; have fz := IZ.free 2; obtain ⟨k0, k1, k2, k3, k4⟩ := IZ.at5)
    have I2 := IZ.set 2 (.int .i64 cv)
    replace I2 : Bk (Z.setCell ⟨bi, 2, none⟩ (.int .i64 cv)) bi #[.int .i64 3, .int .i64 iv, .int .i64 cv, .int .i64 0, .int .i64 0] 74 := I2
    have R2 : Bk (Z.setCell ⟨bi, 2, none⟩ (.int .i64 cv)) (w.heap.size + 2) #[.int .i64 0, .int .i64 0, .int .i64 0, .int .i64 0, .int .i64 0] 74 := ((But.refl bi Z).set 2 (.int .i64 cv) (w.heap.size + 2) (by omega)).trans (R1.keep gZ)
    have G2 := gset (gtrans G1 gZ) (p := ⟨bi, 2, none⟩) (by dsimp only; omega) (.int .i64 cv)
    clear I1 N1 R1 G1 IZ fz k0 k1 k2 k3 k4 gZ m0 m1 m2 m3 m4 m5
    generalize Z.setCell ⟨bi, 2, none⟩ (.int .i64 cv) = Y2 at *
    obtain ⟨i0, i1, i2, i3, i4⟩ := I2.at5
    obtain ⟨r0, r1, r2, r3, r4⟩ := R2.at5
    have f0 := R2.free 0
    have f1 := R2.free 1
    have f2 := R2.free 2
    have f3 := R2.free 3
    have f4 := R2.free 4
    have RE : Bk (((((Y2.setCell ⟨w.heap.size + 2, 0, none⟩ (.int .i64 3)).setCell ⟨w.heap.size + 2, 1, none⟩ (.int .i64 iv)).setCell ⟨w.heap.size + 2, 2, none⟩ (.int .i64 cv)).setCell ⟨w.heap.size + 2, 3, none⟩ (.int .i64 0)).setCell ⟨w.heap.size + 2, 4, none⟩ (.int .i64 0)) (w.heap.size + 2) #[.int .i64 3, .int .i64 iv, .int .i64 cv, .int .i64 0, .int .i64 0] 74 := sets5 R2 (.int .i64 3) (.int .i64 iv) (.int .i64 cv) (.int .i64 0) (.int .i64 0)
    obtain ⟨e0, e1, e2, e3, e4⟩ := RE.at5
    have GE := gset (gset (gset (gset (gset (G2) (p := ⟨w.heap.size + 2, 0, none⟩) (by dsimp only; omega) (.int .i64 3)) (p := ⟨w.heap.size + 2, 1, none⟩) (by dsimp only; omega) (.int .i64 iv)) (p := ⟨w.heap.size + 2, 2, none⟩) (by dsimp only; omega) (.int .i64 cv)) (p := ⟨w.heap.size + 2, 3, none⟩) (by dsimp only; omega) (.int .i64 0)) (p := ⟨w.heap.size + 2, 4, none⟩) (by dsimp only; omega) (.int .i64 0)
    clear RE
    go_wp2
    exact bodyPost_ret (v := .agg #[.int .i64 3, .int .i64 iv, .int .i64 cv, .int .i64 0, .int .i64 0]) (by simp [results, Tryd.results58, go_sem, e0, e1, e2, e3, e4]) rfl ⟨by rw [← HC.out, ← HL.out]; rfl, GE⟩
  have e11 : (nop == 11) = false := beq_eq_false_iff_ne.2 h11
  have hk : kCod nop = nop - 6 + 5 := by
    unfold kCod
    rw [if_neg (by omega), if_neg h4, if_neg h11, if_pos (by omega)]
    omega
  obtain ⟨I1, N1, R1, G1⟩ := setc (nop - 6 + 5)
  clear setc
  go_upto_region 11 with fail
  generalize X.setCell ⟨bi, 0, none⟩ (.int .i64 (nop - 6 + 5)) = Y at *
  clear j0 j1 j2 j3 j4 m0 m1 m2 m3 m4 m5 fi
  obtain ⟨m0, m1, m2, m3, m4, m5⟩ := N1.at6
  go_upto_region 12 with (go_at_call 56; (with_reducible refine (cC Y G1).mono ?_); rintro e Z ⟨rfl, gZ⟩; have IZ := I1.keep gZ; have fz := IZ.free 2; obtain ⟨k0, k1, k2, k3, k4⟩ := IZ.at5)
  have I2 := IZ.set 2 (.int .i64 cv)
  replace I2 : Bk (Z.setCell ⟨bi, 2, none⟩ (.int .i64 cv)) bi #[.int .i64 (nop - 6 + 5), .int .i64 iv, .int .i64 cv, .int .i64 0, .int .i64 0] 74 := I2
  have R2 : Bk (Z.setCell ⟨bi, 2, none⟩ (.int .i64 cv)) (w.heap.size + 2) #[.int .i64 0, .int .i64 0, .int .i64 0, .int .i64 0, .int .i64 0] 74 := ((But.refl bi Z).set 2 (.int .i64 cv) (w.heap.size + 2) (by omega)).trans (R1.keep gZ)
  have G2 := gset (gtrans G1 gZ) (p := ⟨bi, 2, none⟩) (by dsimp only; omega) (.int .i64 cv)
  clear I1 N1 R1 G1 IZ fz k0 k1 k2 k3 k4 gZ m0 m1 m2 m3 m4 m5
  generalize Z.setCell ⟨bi, 2, none⟩ (.int .i64 cv) = Y2 at *
  obtain ⟨i0, i1, i2, i3, i4⟩ := I2.at5
  obtain ⟨r0, r1, r2, r3, r4⟩ := R2.at5
  have f0 := R2.free 0
  have f1 := R2.free 1
  have f2 := R2.free 2
  have f3 := R2.free 3
  have f4 := R2.free 4
  have RE : Bk (((((Y2.setCell ⟨w.heap.size + 2, 0, none⟩ (.int .i64 (nop - 6 + 5))).setCell ⟨w.heap.size + 2, 1, none⟩ (.int .i64 iv)).setCell ⟨w.heap.size + 2, 2, none⟩ (.int .i64 cv)).setCell ⟨w.heap.size + 2, 3, none⟩ (.int .i64 0)).setCell ⟨w.heap.size + 2, 4, none⟩ (.int .i64 0)) (w.heap.size + 2) #[.int .i64 (nop - 6 + 5), .int .i64 iv, .int .i64 cv, .int .i64 0, .int .i64 0] 74 := sets5 R2 (.int .i64 (nop - 6 + 5)) (.int .i64 iv) (.int .i64 cv) (.int .i64 0) (.int .i64 0)
  obtain ⟨e0, e1, e2, e3, e4⟩ := RE.at5
  have GE := gset (gset (gset (gset (gset (G2) (p := ⟨w.heap.size + 2, 0, none⟩) (by dsimp only; omega) (.int .i64 (nop - 6 + 5))) (p := ⟨w.heap.size + 2, 1, none⟩) (by dsimp only; omega) (.int .i64 iv)) (p := ⟨w.heap.size + 2, 2, none⟩) (by dsimp only; omega) (.int .i64 cv)) (p := ⟨w.heap.size + 2, 3, none⟩) (by dsimp only; omega) (.int .i64 0)) (p := ⟨w.heap.size + 2, 4, none⟩) (by dsimp only; omega) (.int .i64 0)
  clear RE
  go_wp2
  exact bodyPost_ret (v := .agg #[.int .i64 (nop - 6 + 5), .int .i64 iv, .int .i64 cv, .int .i64 0, .int .i64 0]) (by simp [results, Tryd.results58, go_sem, e0, e1, e2, e3, e4]) rfl ⟨by rw [← HC.out, ← HL.out]; rw [hk], GE⟩

end Go.Proofs.YtnmppmmanigpcaaDoor
namespace Go.Proofs.YtnmppmmanigpcaaDoor
open Go.RowKit
set_option linter.unusedVariables false
set_option linter.unusedSimpArgs false

/-- Operations that yield a value and call nothing. -/
def plainH : Op → Bool
  | .lookup .. | .assign _ | .pick .. | .binOp .. | .unOp .. | .extract .. | .slice .. => true
  | o => plainB o
theorem plainH_value {P : Program} {o : Oper} {ρ : Operand → Value} {w w' : World} {r : Next} (h : plainH o.op = true) (hr : (execOp ρ o).run P w = .ok r w') : ∃ v, r = .value v := by
  have key : ∀ s : Sem Value, (do let x ← s; pure (Next.value x) : Sem Next).run P w = .ok r w' → ∃ v, r = .value v := fun s h => by
    rw [Sem.run_bind] at h
    cases hs : s.run P w with
    | ok x u => rw [hs] at h; simp at h; exact ⟨x, h.1.symm⟩
    | halt x u => rw [hs] at h; simp at h
  unfold plainH at h
  split at h
  · rename_i e
    unfold execOp at hr
    rw [e] at hr
    exact key _ hr
  · rename_i e
    unfold execOp at hr
    rw [e] at hr
    simp at hr
    exact ⟨_, hr.1.symm⟩
  · rename_i e
    unfold execOp at hr
    rw [e] at hr
    obtain ⟨x, u, _, h2⟩ := run_bind_ok hr
    simp at h2
    exact ⟨_, h2.1.symm⟩
  · rename_i e
    unfold execOp at hr
    rw [e] at hr
    exact key _ hr
  · rename_i e
    unfold execOp at hr
    rw [e] at hr
    exact key _ hr
  · rename_i e
    unfold execOp at hr
    rw [e] at hr
    exact key _ hr
  · rename_i e
    unfold execOp at hr
    rw [e] at hr
    first | exact key _ hr | (simp at hr; obtain ⟨x, u, _, h2⟩ := run_bind_ok hr; simp at h2; exact ⟨_, h2.1.symm⟩)
  · exact plain_value h hr
section
variable {P : Program} {ops : Array Oper} {md : Region.Mode} {S : World → Prop} {Q : Exit → Act → World → Prop}
theorem yieldsIf_ofH {o : Oper} {v : Value} {a : Act} (h : plainH o.op = true) (hy : YieldsIn P ops S o v a) : YieldsIf P ops S o v a := by
  rcases hy with ⟨hw, hv⟩ | ⟨hw, rfl⟩
  · refine .inl ⟨hw, fun w hS => ?_⟩
    have h1 := hv w hS
    unfold Oper.quietAt at h1
    cases hr : (execOp a.eval o).run P w with
    | ok r w' =>
      obtain ⟨u, rfl⟩ := plainH_value h hr
      rw [hr] at h1
      obtain ⟨rfl, rfl⟩ := h1
      rfl
    | halt x w' => rw [hr] at h1; exact h1.elim
  · exact .inr ⟨hw, rfl⟩
def lexH (md : Region.Mode) (ops : Array Oper) : List Nat → Array Bool → Bool
  | [], _ => true
  | k :: ks, listed => (Region.ready md ops listed).contains k && Region.free md ops listed k && (match ops[k]? with | some o => plainH o.op | none => false) && lexH md ops ks (listed.setIfInBounds k true)
def setAll : List Nat → Array Bool → Array Bool
  | [], listed => listed
  | k :: ks, listed => setAll ks (listed.setIfInBounds k true)
def pickL (ops : Array Oper) (ks : List Nat) : List Oper := ks.filterMap fun k => ops[k]?
/-- What only reads is taken first. -/
theorem anyH_lex (hsel : Region.noSelect ops = true) (hQ : ∀ c (a : Act) (d : Option Tmp) (v : Value) (w : World), Q (.panic c) (a.put d v) w → Q (.panic c) a w) {g : Nat} :
    ∀ (ks : List Nat) (l : List Oper) (listed : Array Bool) (a : Act) (w : World), S w → l.map some = ks.map (fun k => ops[k]?) → lexH md ops ks listed = true →
    wpQuiet P ops S (fun a' => wpAnyH P md ops Q S g (setAll ks listed) a' w) l a → wpAnyH P md ops Q S (ks.length + g) listed a w
  | [], l, listed, a, w, hS, hl, hB, h => by
    have : l = [] := by simpa using hl
    subst this
    rw [List.length_nil, Nat.zero_add]
    exact h
  | k :: ks, [], listed, a, w, hS, hl, hB, h => by simp at hl
  | k :: ks, o :: l, listed, a, w, hS, hl, hB, h => by
    simp only [List.map_cons, List.cons.injEq] at hl
    have h0 : ops[k]? = some o := hl.1.symm
    simp only [lexH, Bool.and_eq_true, h0] at hB
    obtain ⟨⟨⟨hr, hf⟩, hp⟩, hB'⟩ := hB
    have hst : qOp P ops S k (wpQuiet P ops S (fun a' => wpAnyH P md ops Q S g (setAll ks (listed.setIfInBounds k true)) a' w) l) a := by unfold qOp; simp only [h0]; exact h
    obtain ⟨v, hy, hK⟩ := yieldsIn_of_qOp h0 hst
    rw [show (k :: ks).length + g = (ks.length + g) + 1 by simp; omega]
    exact wpAnyH_take h0 hsel hf hr (fun c a w h => hQ c a _ _ w h) (yieldsIf_ofH hp hy) hS (anyH_lex hsel hQ ks l _ _ w hS hl.2 hB' hK)
theorem anyH_pick {g : Nat} (ks : List Nat) {listed : Array Bool} {a : Act} {w : World} (hsel : Region.noSelect ops = true) (hQ : ∀ c (a : Act) (d : Option Tmp) (v : Value) (w : World), Q (.panic c) (a.put d v) w → Q (.panic c) a w) (hS : S w) (hl : (pickL ops ks).map some = ks.map (fun k => ops[k]?)) (hB : lexH md ops ks listed = true)
    (h : wpQuiet P ops S (fun a' => wpAnyH P md ops Q S g (setAll ks listed) a' w) (pickL ops ks) a) : wpAnyH P md ops Q S (ks.length + g) listed a w := anyH_lex hsel hQ ks _ _ _ _ hS hl hB h
/-- One that makes memory or writes: its own step. -/
theorem wpOp_val {b : Nat} {ob : Oper} {a : Act} {w w' : World} {K : Act → World → Prop} {v : Value} (d : Option Tmp) (hob : ops[b]? = some ob) (hd : ob.dst = d) (hgd : ob.guard = none) (hrun : (execOp a.eval ob).run P w = .ok (.value v) w') (h : K (a.put d v) w') : wpOp P ops Q b K a w := by
  subst hd
  unfold wpOp
  have hwd : Region.wanted ob (yielded ops a.tmps) = true := by simp [Region.wanted, hgd]
  simp only [hob, hwd, if_true]
  refine .inl ?_
  unfold Oper.wp
  rw [hrun, Oper.upon_value]
  exact h
theorem wpOp_skip {b : Nat} {ob : Oper} {a : Act} {w w' : World} {K : Act → World → Prop} (d : Option Tmp) (hob : ops[b]? = some ob) (hd : ob.dst = d) (hgd : ob.guard = none) (hrun : (execOp a.eval ob).run P w = .ok .skip w') (h : K (a.put d undef) w') : wpOp P ops Q b K a w := by
  subst hd
  unfold wpOp
  have hwd : Region.wanted ob (yielded ops a.tmps) = true := by simp [Region.wanted, hgd]
  simp only [hob, hwd, if_true]
  refine .inl ?_
  unfold Oper.wp
  rw [hrun, Oper.upon_skip]
  exact h
theorem wpOp_callG {b : Nat} {ob : Oper} {a : Act} {w : World} {K : Act → World → Prop} (d : Option Tmp) (hob : ops[b]? = some ob) (hd : ob.dst = d) (hwd : Region.wanted ob (yielded ops a.tmps) = true) (f : FuncId) (args : Array Value) (hrun : (execOp a.eval ob).run P w = .ok (.enter f args) w) (R : Ending → World → Prop) (hc : Calls P f args w R) (h : ∀ e w', R e w' → ∃ v, e = .returned v ∧ K (a.put d v) w') : wpOp P ops Q b K a w := by
  subst hd
  unfold wpOp
  simp only [hob, hwd, if_true]
  refine .inl ?_
  unfold Oper.wp
  rw [hrun, Oper.upon_enter]
  refine hc.mono fun e w' hR => ?_
  obtain ⟨v, rfl, hh⟩ := h e w' hR
  exact hh
theorem wpOp_store {b : Nat} {ob : Oper} {a : Act} {w : World} {K : Act → World → Prop} (d : Option Tmp) (hob : ops[b]? = some ob) (hd : ob.dst = d) (hgd : ob.guard = none) (ty : TypeId) (x y : Operand) (ho : ob.op = .store ty x y) (g o : Nat) (cells : Array Value) (hx : a.eval x = .pointer (some ⟨g, o, none⟩)) (hy : a.eval y = .agg cells)
    (ht : w.there g o cells.size) (hi : (P.info? ty).map (·.size) = some cells.size) (h1 : cells.all (·.oneCell') = true) (h : K (a.put d undef) (w.setCells g o cells.toList)) : wpOp P ops Q b K a w := by
  subst hd
  unfold wpOp
  have hwd : Region.wanted ob (yielded ops a.tmps) = true := by simp [Region.wanted, hgd]
  simp only [hob, hwd, if_true]
  exact .inl (wp_store_mid ty x y ho g o cells hx hy ht hi h1 h)
end

end Go.Proofs.YtnmppmmanigpcaaDoor
