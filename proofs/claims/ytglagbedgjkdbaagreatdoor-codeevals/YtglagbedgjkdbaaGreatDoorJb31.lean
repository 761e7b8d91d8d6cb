/- The law's turned: the nodes of the tree's copy written over. And what goes with it: 1 texts in one. -/
import Derived.Test.YtglagbedgjkdbaaGreatDoorJb30
import Derived.Deep.CutRange
namespace Go.Proofs.YtglagbedgjkdbaaGreatDoor
open Go.RowKit Go.BigFrame Go.Proofs.YtglagbedgjkdbaaGreatDoor.Ev
set_option linter.unusedVariables false
set_option linter.unusedSimpArgs false

/-- Since w nothing but nodes has turned, and nothing below base; the row at g holds nodes. -/
structure TuS (w : World) (g base N c : Nat) (wr : World) : Prop where
  ex : ∃ ms : List Nd, ms.length = N ∧ (∀ k, (ms.getD k noNd).fit) ∧ wr.ownsRow base 64 6 (.slice (some ⟨g, 0, none⟩) N c) N (ndsV ms)
  kt : KT 64 w wr
  low : Below base w wr
theorem own_base {w : World} {base : Nat} {e : TypeId} {s : Nat} {g n c : Nat} {xs : List Value} (h : w.ownsRow base e s (.slice (some ⟨g, 0, none⟩) n c) n xs) : base ≤ g ∧ g < w.heap.size ∧ ∃ cs, w.heap[g]? = some (.cells cs e (0, 0)) := by
  rcases h.2 with ⟨h', _⟩ | ⟨g', cap', cur, h', hb, hg, _⟩
  · simp at h'
  · simp only [Value.slice.injEq, Option.some.injEq, Addr.mk.injEq, and_true, true_and] at h'
    obtain ⟨rfl, rfl⟩ := h'
    exact ⟨hb, lt_of_block hg, cur, hg⟩
theorem fit_set {ms : List Nd} (h : ∀ k, (ms.getD k noNd).fit) {i : Nat} {y : Nd} (hy : y.fit) : ∀ k, ((ms.set i y).getD k noNd).fit := fun k => by
  rw [List.getD_eq_getElem?_getD, List.getElem?_set]
  split
  · split
    · exact hy
    · exact noNd_fit
  · rw [← List.getD_eq_getElem?_getD]; exact h k
theorem TuS.put {w wr : World} {g base N c : Nat} (kt : KT 64 w wr) (low : Below base w wr) {ms : List Nd} (hl : ms.length = N) (hf : ∀ k, (ms.getD k noNd).fit) (O : wr.ownsRow base 64 6 (.slice (some ⟨g, 0, none⟩) N c) N (ndsV ms)) {i : Nat} (hi : i < N) {r : Nat} (hr : r < 6) (u : Value) (y : Nd) (h : (ndA (ms.getD i noNd)).toList.set r u = (ndA y).toList) (hy : y.fit) : TuS w g base N c (wr.setCell ⟨g, i * 6 + r, none⟩ u) := by
  obtain ⟨h1, h2, cs, h3⟩ := own_base O
  have O1 := (O.stored (i * 6 + r) u).1
  rw [nds_set ms i r (by omega) hr u y h] at O1
  exact ⟨⟨ms.set i y, by rw [List.length_set]; exact hl, fit_set hf hy, O1⟩, kt.set h3 _ _, low.setCell (p := ⟨g, i * 6 + r, none⟩) h1 u⟩
theorem TuS.ext {w wr X : World} {g base N c : Nat} (h : TuS w g base N c wr) (G : Below wr.heap.size wr X) : TuS w g base N c X := by
  obtain ⟨⟨ms, h1, h2, O⟩, kt, low⟩ := h
  obtain ⟨h3, h4, _⟩ := own_base O
  exact ⟨⟨ms, h1, h2, own_keep O G⟩, kt.ext G, low.trans (G.mono (by omega))⟩
/-- The cells of the node i. -/
theorem row_nd {wr : World} {g base N c : Nat} {ms : List Nd} (hl : ms.length = N) (O : wr.ownsRow base 64 6 (.slice (some ⟨g, 0, none⟩) N c) N (ndsV ms)) {i : Nat} (hi : i < N) :
    wr.cell? ⟨g, i * 6, none⟩ = some (.int .i64 (ms.getD i noNd).op) ∧ wr.cell? ⟨g, i * 6 + 1, none⟩ = some (.int .i64 (ms.getD i noNd).n) ∧ wr.cell? ⟨g, i * 6 + 3, none⟩ = some (.string (ms.getD i noNd).x) := by
  subst hl
  obtain ⟨g', o', e', x0, x1, x2, x3, x4, x5⟩ := nds_of_own O i hi
  cases e'
  rw [Nat.zero_add] at x0 x1 x3
  exact ⟨x0, x1, x3⟩
set_option maxRecDepth 100000 in
set_option maxHeartbeats 8000000 in
theorem turned_any (ms : List Nd) (g base N c n cap : Nat) (hn : n ≤ N) (hN : N * 64 ≤ 140737488355328) (w : World) (hl : ms.length = N) (hf : ∀ k, (ms.getD k noNd).fit) (O : w.ownsRow base 64 6 (.slice (some ⟨g, 0, none⟩) N c) N (ndsV ms)) :
    Calls Tryz.prog 26 #[.slice (some ⟨g, 0, none⟩) n cap] w fun e w' => (∃ v, e = .returned v) ∧ TuS w g base N c w' := by
  have hbw : base ≤ w.heap.size := by obtain ⟨h1, h2, _⟩ := own_base O; omega
  have T0 : TuS w g base N c w := ⟨⟨ms, hl, hf, O⟩, KT.refl _ _, (Below.refl w.heap.size w).mono hbw⟩
  clear hl hf O
  go_enter Tryz.func26, Tryz.ntmps26
  go_wp2
  go_loopw [2, 3] (fun x _ wr => (∃ i : Nat, i ≤ n ∧ x = .int .i64 (i : Int)) ∧ TuS w g base N c wr) (fun x _ _ => n - (intOf x).toNat)
  case atStart => exact ⟨⟨0, Nat.zero_le _, rfl⟩, T0⟩
  case round =>
    clear T0
    obtain ⟨⟨i, hi, rfl⟩, T⟩ := hrel
    by_cases hlt : i < n
    · have hii : (i : Int) < (n : Int) := by omega
      have hiN : i < N := by omega
      obtain ⟨⟨ms, hl, hf, O⟩, kt, low⟩ := id T
      obtain ⟨x0, x1, x3⟩ := row_nd hl O hiN
      have f0 := own_free O (i * 6)
      have f1 := own_free O (i * 6 + 1)
      have hy := hf i
      have put1 := fun (z : Int) (hz : fI z) => TuS.put kt low hl hf O hiN (r := 1) (by omega) (.int .i64 z) ⟨(ms.getD i noNd).op, z, (ms.getD i noNd).v, (ms.getD i noNd).x, (ms.getD i noNd).l, (ms.getD i noNd).r⟩ rfl ⟨hy.op, hz, hy.l, hy.r, hy.v, hy.x⟩
      have put0 := fun (z : Int) (hz : fI z) => TuS.put kt low hl hf O hiN (r := 0) (by omega) (.int .i64 z) ⟨z, (ms.getD i noNd).n, (ms.getD i noNd).v, (ms.getD i noNd).x, (ms.getD i noNd).l, (ms.getD i noNd).r⟩ rfl ⟨hz, hy.n, hy.l, hy.r, hy.v, hy.x⟩
      have TT : TuS w g base N c wr := ⟨⟨ms, hl, hf, O⟩, kt, low⟩
      generalize ms.getD i noNd = y at *
      obtain ⟨yop, yn, yv, yx, yl, yr⟩ := y
      dsimp only at *
      clear hf O kt low hy T
      go_upto_region 3 with fail
      go_cut [14] from 10 to 14 (fun s wx => s = .int .i64 yop ∧ wx = wr)
      case first =>
        go_wp2
        go_meet
        case rel => exact ⟨rfl, rfl⟩
      case rest =>
        obtain ⟨rfl, hwx⟩ := hcut
        have hwx' := hwx.symm
        subst hwx'
        clear hwx
        go_step
        go_cut [] from 15 to 39 (fun wx => TuS w g base N c wx)
        case first =>
          by_cases h1 : yop = 1
          · subst h1
            have hz := xor_fits yn 1
            have P := put1 _ hz
            have HP := show Hid _ from P
            clear P put0 put1 TT
            go_wp2
            go_meet
            case rel => exact HP.out
          have e1 : (yop == 1) = false := beq_eq_false_iff_ne.2 h1
          by_cases h2 : yop = 2
          · subst h2
            have P := put0 3 ⟨by decide, by decide⟩
            rw [Nat.add_zero] at P
            have HP := show Hid _ from P
            clear P put0 put1 TT
            go_wp2
            go_meet
            case rel => exact HP.out
          have e2 : (yop == 2) = false := beq_eq_false_iff_ne.2 h2
          by_cases h3 : yop = 3
          · subst h3
            have P := put0 2 ⟨by decide, by decide⟩
            rw [Nat.add_zero] at P
            have HP := show Hid _ from P
            clear P put0 put1 TT
            go_wp2
            go_meet
            case rel => exact HP.out
          have e3 : (yop == 3) = false := beq_eq_false_iff_ne.2 h3
          have HT := show Hid _ from TT
          clear put0 put1 TT h1 h2 h3
          go_wp2
          go_meet
          case rel => exact HT.out
        case rest =>
          clear put0 put1 TT x0 x1 x3 f0 f1
          have T := hcut
          clear hcut
          go_upto_region 10 with fail
          go_loopw [3] (fun x wr => (∃ k : Nat, k ≤ n ∧ x = .int .i64 (k : Int)) ∧ TuS w g base N c wr) (fun x _ => n - (intOf x).toNat)
          case atStart => exact ⟨⟨i + 1, by omega, by go_num⟩, T⟩
          case round =>
            clear T
            obtain ⟨⟨k, hk, rfl⟩, T⟩ := hrel
            by_cases hkt : k < n
            · have hki : (k : Int) < (n : Int) := by omega
              have hkN : k < N := by omega
              have TT := T
              obtain ⟨⟨ms, hl, hf, O⟩, kt, low⟩ := T
              obtain ⟨_, _, x3⟩ := row_nd hl O hiN
              obtain ⟨_, _, z3⟩ := row_nd hl O hkN
              have hy := hf i
              have hz := (hf k).x
              clear hl O kt low
              by_cases hye : (ms.getD i noNd).x = eS
              · have e1 : (ms.getD i noNd).x.toList = [] := by rw [hye, ByteArray.toList_eq]
                have e0 : (ms.getD i noNd).x.toList.isEmpty = true := by rw [e1]; rfl
                generalize (ms.getD i noNd).x = yx at *
                have HT := show Hid _ from TT
                clear TT hf hy hz e1 hye z3
                go_wp2
                go_roundw
                case rel => exact ⟨⟨i + 1, by omega, by go_num⟩, HT.out⟩
                case measure => simp [intOf]; omega
              · have e1 : (ms.getD i noNd).x.toList ≠ [] := fun h => hye (bytes_inj.1 (h.trans (by rw [ByteArray.toList_eq])))
                have e0 : (ms.getD i noNd).x.toList.isEmpty = false := by cases h : (ms.getD i noNd).x.toList with
                  | nil => exact absurd h e1
                  | cons _ _ => rfl
                have hne0 : Nonempty (Ext wr) := ⟨⟨_, Below.refl _ _⟩⟩
                have p0 := fun e : Ext wr => (e.cell _ _ (lt_of_cell x3)).trans x3
                have p1 := fun e : Ext wr => (e.cell _ _ (lt_of_cell z3)).trans z3
                by_cases hze : (ms.getD k noNd).x = eS
                · have e3 : (ms.getD k noNd).x.toList = [] := by rw [hze, ByteArray.toList_eq]
                  have e2 : (ms.getD k noNd).x.toList.isEmpty = true := by rw [e3]; rfl
                  generalize (ms.getD i noNd).x = yx at *
                  generalize (ms.getD k noNd).x = zx at *
                  have HT := show Hid _ from TT
                  clear TT hf hy hz e3 hze
                  go_upto_region 12 with fail
                  refine wp_region_ext (by kernel_rfl) (by kernel_rfl) ?_
                  repeat (go_big_quiet_step (fail))
                  refine wpQuiet_nil ?_
                  intro _ hw'
                  obtain ⟨ny, hw''⟩ := hw'
                  subst hw''
                  have TX := HT.out.ext ny.h
                  have HX := show Hid _ from TX
                  generalize ny.X = Y at *
                  clear p0 p1 hne0 TX HT
                  go_wp2
                  go_roundw
                  case rel => exact ⟨⟨k + 1, by omega, by go_num⟩, HX.out⟩
                  case measure => simp [intOf]; omega
                · have e3 : (ms.getD k noNd).x.toList ≠ [] := fun h => hze (bytes_inj.1 (h.trans (by rw [ByteArray.toList_eq])))
                  have e2 : (ms.getD k noNd).x.toList.isEmpty = false := by cases h : (ms.getD k noNd).x.toList with
                    | nil => exact absurd h e3
                    | cons _ _ => rfl
                  by_cases hzy : (ms.getD k noNd).x = (ms.getD i noNd).x
                  · rw [hzy] at p1 e2 e3
                    generalize (ms.getD i noNd).x = yx at *
                    have HT := show Hid _ from TT
                    clear TT hf hy hz e3 hze hzy
                    go_upto_region 12 with fail
                    refine wp_region_ext (by kernel_rfl) (by kernel_rfl) ?_
                    repeat (go_big_quiet_step (fail))
                    refine wpQuiet_nil ?_
                    intro _ hw'
                    obtain ⟨ny, hw''⟩ := hw'
                    subst hw''
                    have TX := HT.out.ext ny.h
                    have HX := show Hid _ from TX
                    generalize ny.X = Y at *
                    clear p0 p1 hne0 TX HT
                    go_wp2
                    go_roundw
                    case rel => exact ⟨⟨k + 1, by omega, by go_num⟩, HX.out⟩
                    case measure => simp [intOf]; omega
                  · have ne1 : (ms.getD k noNd).x.toList ≠ (ms.getD i noNd).x.toList := fun h => hzy (bytes_inj.1 h)
                    have nb1 : ((ms.getD k noNd).x.toList == (ms.getD i noNd).x.toList) = false := beq_eq_false_iff_ne.2 ne1
                    obtain ⟨yx, hyx⟩ : ∃ z, (ms.getD i noNd).x = z := ⟨_, rfl⟩
                    obtain ⟨zx, hzx⟩ : ∃ z, (ms.getD k noNd).x = z := ⟨_, rfl⟩
                    rw [hyx] at p0 e0 e1 ne1 nb1 x3 hye hzy
                    rw [hzx] at p1 e2 e3 ne1 nb1 z3 hze hzy hz
                    have HZ := show Hid (_ ≤ _) from hz
                    have HT := show Hid (TuS w g base N c wr) from TT
                    clear TT hf hy hz hyx hzx hzy hze hye
                    go_upto_region 12 with fail
                    refine wp_region_ext (by kernel_rfl) (by kernel_rfl) ?_
                    repeat (go_big_quiet_step (fail))
                    refine wpQuiet_nil ?_
                    intro _ hw'
                    obtain ⟨ny, hw''⟩ := hw'
                    subst hw''
                    have TX := HT.out.ext ny.h
                    have v3 := (ny.cell _ _ (lt_of_cell x3)).trans x3
                    have v4 := (ny.cell _ _ (lt_of_cell z3)).trans z3
                    generalize ny.X = Y at *
                    clear p0 p1 hne0 HT
                    obtain ⟨⟨ms2, hl2, hf2, O2⟩, kt2, low2⟩ := TX
                    have f3 := own_free O2 (i * 6 + 3)
                    have P := TuS.put kt2 low2 hl2 hf2 O2 hiN (r := 3) (by omega) (.string zx) ⟨(ms2.getD i noNd).op, (ms2.getD i noNd).n, (ms2.getD i noNd).v, zx, (ms2.getD i noNd).l, (ms2.getD i noNd).r⟩ rfl ⟨(hf2 i).op, (hf2 i).n, (hf2 i).l, (hf2 i).r, (hf2 i).v, HZ.out⟩
                    have HP := show Hid _ from P
                    clear P O2 kt2 low2 hf2 hl2 x3 z3
                    go_wp2
                    go_roundw
                    case rel => exact ⟨⟨k + 1, by omega, by go_num⟩, HP.out⟩
                    case measure => simp [intOf]; omega
            · obtain rfl : k = n := by omega
              have HT := show Hid _ from T
              clear T
              have hnk : ¬ ((k : Int) < (k : Int)) := by omega
              go_wp2
              go_roundw
              case rel => exact ⟨⟨i + 1, by omega, by go_num⟩, HT.out⟩
              case measure => simp [intOf]; omega
    · obtain rfl : i = n := by omega
      have hnk : ¬ ((i : Int) < (i : Int)) := by omega
      go_wp2
      exact bodyPost_end (results_none rfl _ _ _) rfl ⟨⟨_, rfl⟩, T⟩

end Go.Proofs.YtglagbedgjkdbaaGreatDoor
