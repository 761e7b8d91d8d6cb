/- For every capacity and every script the law GateSorts returns true: at every time what has been let through, one list behind the other, is strictly rising by name, and is just those of the accepted events that are at or below the mark, behind a Flush all of them; an event is accepted just if it must be. No condition. -/
import Derived.Test.YtoehkpejdpejcaaGle2
import Derived.Carry
import Derived.ChangeMaps5
import Derived.SizedLaws
import Derived.Lib.SmallJoins
import Derived.Deep.DeepHandedRow
namespace Go.Proofs.Ytoehkpejdpejcaa.gateSorts
open Go.ChangeShapes Go.WideShapes Go.ChangeAt Go.RowKit Go.BigFrame Go.Maps
set_option linter.unusedVariables false
set_option linter.unusedSimpArgs false

def cntL (l : List Ev) (M : Int) (C : Bool) : Nat := (l.filter fun e => decide (e.ts ≤ M ∨ C = true)).length
theorem cntL_snoc (l : List Ev) (x : Ev) (M : Int) (C : Bool) : cntL (l ++ [x]) M C = cntL l M C + if x.ts ≤ M ∨ C = true then 1 else 0 := by
  unfold cntL
  rw [List.filter_append, List.length_append]
  by_cases h : x.ts ≤ M ∨ C = true
  · rw [if_pos h, List.filter_cons, if_pos (decide_eq_true h)]; rfl
  · rw [if_neg h, List.filter_cons, if_neg (fun e => h (of_decide_eq_true e))]; rfl
theorem cntL_le (l : List Ev) (M : Int) (C : Bool) : cntL l M C ≤ l.length := List.length_filter_le _ _
theorem inv_not {A T : List Ev} {M : Int} {C : Bool} {s : Gs} (I : TInv A T M C s) (hs : s.ok) {e : Ev} (he : e ∈ s.l) : ¬ (e.ts ≤ M ∨ C = true) := by
  cases C with
  | true =>
    have := hs.none (hs.shut I.cl)
    rw [this] at he
    simp at he
  | false =>
    have h1 := hs.hi e he
    have h2 := I.mrk rfl
    simp; omega
theorem inv_yes {A T : List Ev} {M : Int} {C : Bool} {s : Gs} (I : TInv A T M C s) {e : Ev} (he : e ∈ T) : e.ts ≤ M ∨ C = true := by
  cases C with
  | true => exact .inr rfl
  | false => have := I.low e he; rw [I.mrk rfl] at this; exact .inl this
theorem inv_in {A T : List Ev} {M : Int} {C : Bool} {s : Gs} (I : TInv A T M C s) (hs : s.ok) {e : Ev} (he : e ∈ A) (h : e.ts ≤ M ∨ C = true) : e ∈ T := by
  rcases List.mem_append.1 (I.perm.mem_iff.2 he) with h1 | h1
  · exact h1
  · exact absurd h (inv_not I hs h1)
theorem inv_cnt {A T : List Ev} {M : Int} {C : Bool} {s : Gs} (I : TInv A T M C s) (hs : s.ok) : cntL A M C = T.length := by
  unfold cntL
  rw [← (I.perm.filter _).length_eq, List.filter_append, List.filter_eq_self.2 (fun a ha => decide_eq_true (inv_yes I ha)), List.filter_eq_nil_iff.2 (fun a ha => by have := inv_not I hs ha; simpa using this), List.append_nil]
theorem step_any (N tb g n t : Nat) (cap : Int) (A T : List Ev) (M : Int) (C : Bool) (aA aT : Option Addr) (cA cT : Nat) (S : Nat → Prop) (s : Gs) (x : Gop) (w : World)
    (tl : Tl w tb N A T M C aA aT cA cT) (GG : Gat w g S s t) (I : TInv A T M C s) (hcap : s.cap = cap) (hn : A.length ≤ n) (hnl : (n + 1) * 112 ≤ 140737488351232) (ht : t + 1 ≤ 140737488351232) (hS : ∀ k, S k → N ≤ k) (hN : N ≤ w.heap.size) (xok : x.e.ok) :
    Calls Try.prog 21 #[.pointer (some ⟨tb, 0, none⟩), .pointer (some ⟨g, 0, none⟩), .int .i64 cap, .agg (gopC x)] w fun e w' => e = .returned (.bool true) ∧ StpP N tb g (n + 1) (t + 1) cap w w' := by
  by_cases k1 : x.kd = 1
  · exact stp1 N tb g n t cap A T M C aA aT cA cT S s x w tl GG I hcap hn hnl ht hS hN xok k1
  by_cases k2 : x.kd = 2
  · exact stp2 N tb g n t cap A T M C aA aT cA cT S s x w tl GG I hcap hn hnl ht hS hN xok k2
  by_cases k3 : x.kd = 3
  · exact stp3 N tb g n t cap A T M C aA aT cA cT S s x w tl GG I hcap hn hnl ht hS hN xok k3
  exact stp0 N tb g n t cap A T M C aA aT cA cT S s x w tl GG I hcap hn hnl ht hS hN xok k1 k2 k3
theorem buildT (w : World) : (Instr.build 59 #[(2, .int .i64 (-1152921504606846977))]).run Try.prog w = .ok (.agg #[.slice none 0 0, .slice none 0 0, .int .i64 (-1152921504606846977), .bool false]) w := by kernel_rfl
/-- At the round i. -/
structure Rnd (N tb g n : Nat) (cap : Int) (w : World) (vi : Value) (wr : World) : Prop where
  ex : ∃ i : Nat, i ≤ n ∧ vi = .int .i64 (i : Int) ∧ StpP N tb g i i cap w wr
/-- At the head of the count. -/
structure Cnt (A : List Ev) (M : Int) (C : Bool) (u : World) (vn vj : Value) (wr : World) : Prop where
  ex : ∃ j : Nat, j ≤ A.length ∧ vj = .int .i64 (j : Int) ∧ vn = .int .i64 (cntL (A.take j) M C : Int) ∧ Below u.heap.size u wr
set_option maxRecDepth 100000 in
set_option maxHeartbeats 8000000 in
theorem walk (cap : Int) (hcap : (Lit.int .i64 cap).wf = true) (ao : Option Addr) (ca : Nat) (l : List Gop) (w : World) (hsl : Sl ao l.length ca) (F : Flat w ao (fl gopC l)) (hl : l.length * 112 ≤ 140737488351232) (ok : ∀ k, (fun o : Gop => o.e.ok) (l.getD k zeroGo)) : Calls Try.prog 7 #[.int .i64 cap, .slice ao l.length ca] w fun e w' => e = .returned (.bool true) ∧ Below w.heap.size w w' := by
  clear hsl hcap
  by_cases hc : cap < 1 ∨ 4096 < cap
  · have cN1 := fun u : World => new_no hc u
    by_cases h1 : cap < 1
    · clear hc
      go_enter Try.func7, Try.ntmps7
      go_wp2_with (first
        | (go_at_call 9; (with_reducible refine (cN1 w).mono ?_); rintro e u1 ⟨rfl, g1⟩))
      go_ret
      exact ⟨rfl, g1⟩
    · have h2 : 4096 < cap := by omega
      clear hc
      go_enter Try.func7, Try.ntmps7
      go_wp2_with (first
        | (go_at_call 9; (with_reducible refine (cN1 w).mono ?_); rintro e u1 ⟨rfl, g1⟩))
      go_ret
      exact ⟨rfl, g1⟩
  have h1 : 1 ≤ cap := by omega
  have h2 : cap ≤ 4096 := by omega
  have cN1 := fun u : World => new_yes h1 h2 u
  have hptr : ∀ (b : Nat) (W : World), (binOp .eql 22 (.pointer (some ⟨b, 0, none⟩)) (.pointer none)).run Try.prog W = .ok (.bool false) W := fun b W => by kernel_rfl
  have hbT := fun W : World => buildT W
  clear hc
  go_enter Try.func7, Try.ntmps7
  go_upto_region 6 with (first
    | (go_at_call 9; (with_reducible refine (cN1 w).mono ?_); rintro e u1 ⟨g, S0, rfl, G1, Sg, Slo, g1⟩))
  have bT := Bk.new u1 #[.slice none 0 0, .slice none 0 0, .int .i64 (-1152921504606846977), .bool false] 59
  have BT := galloc (Below.refl u1.heap.size u1) (.cells #[.slice none 0 0, .slice none 0 0, .int .i64 (-1152921504606846977), .bool false] 59)
  generalize hV : u1.alloc (.cells #[.slice none 0 0, .slice none 0 0, .int .i64 (-1152921504606846977), .bool false] 59) = V at *
  have SP0 : StpP w.heap.size u1.heap.size g 0 0 cap w V := ⟨[], [], -1152921504606846977, false, none, none, 0, 0, S0, _, ⟨bT, World.ownsRow_nil _ _ _ _, World.ownsRow_nil _ _ _ _, fun k e => by simp [Value.ownBlock] at e, g1.size⟩, G1.keep BT, ⟨List.Perm.refl _, List.Pairwise.nil, fun e he => by simp at he, rfl, fun _ => rfl⟩, rfl, Nat.le_refl _, gtrans g1 BT, Slo⟩
  go_upto_region 8 with fail
  clear cN1 hptr hbT G1 Sg Slo g1 bT BT hV
  generalize htb : u1.heap.size = tb at *
  go_loopw [8, 9, 10, 11, 12] (fun vi _ _ _ _ wr => Rnd w.heap.size tb g l.length cap w vi wr) (fun vi _ _ _ _ _ => l.length - (intOf vi).toNat)
  case atStart => exact ⟨0, Nat.zero_le _, rfl, SP0⟩
  case round =>
    obtain ⟨i, hi, rfl, SP⟩ := hrel
    obtain ⟨A, T, M, C, aA, aT, cA, cT, S, s, tl, GG, I, hcp, hAi, B, lo⟩ := SP.ex
    clear SP0 SP
    by_cases hlt : i < l.length
    · obtain ⟨gl, o, rfl, hgl, _⟩ := (F.keep B).form (by rw [fl_len gop_size]; omega)
      have rx := flat_range gop_size zeroGo (F.keep B) i hlt
      have xok : (l.getD i zeroGo).e.ok := ok i
      generalize l.getD i zeroGo = x at *
      have q1 : (i : Int) < (l.length : Int) := by omega
      have c5 := step_any w.heap.size tb g i i cap A T M C aA aT cA cT S s x wr tl GG I hcp hAi (by omega) (by omega) lo B.size xok
      have HT : Hid (i < l.length) := hlt
      clear hlt tl GG I hcp hAi lo
      go_upto_region 15 with (first
        | (refine wpList_load_mid rfl 54 _ rfl gl (o + i * 14) rfl (gopC x).toList _ rx Try.underlying54 rfl infoGop ?_)
        | (go_at_call 21; (with_reducible refine c5.mono ?_); rintro e u5 ⟨rfl, P5⟩))
      obtain ⟨A, T, M, C, aA, aT, cA, cT, S, s, tl, GG, I, hcp, hAi, B5, lo⟩ := P5.ex
      clear c5 P5 rx
      have BU : Below w.heap.size w u5 := B.trans B5
      have hlen : A.length ≤ 1256584717421 := by have := HT.out; omega
      have hTl : T.length ≤ A.length := by have := I.perm.length_eq; rw [List.length_append] at this; omega
      obtain ⟨wo, hwo⟩ : ∃ wo, wo = wr := ⟨_, rfl⟩
      subst hwo
      go_loopw [10, 11, 12] (fun vn vj _ wr => Cnt A M C u5 vn vj wr) (fun _ vj _ _ => A.length - (intOf vj).toNat)
      case atStart => exact ⟨0, Nat.zero_le _, rfl, rfl, Below.refl _ _⟩
      case round =>
        obtain ⟨j, hj, rfl, rfl, BJ⟩ := hrel
        have tJ := tl.keep BJ
        have d0 := tJ.blk.at4.1
        have hcl := cntL_le (A.take j) M C
        have htl : (A.take j).length ≤ A.length := by rw [List.length_take]; omega
        by_cases hlt : j < A.length
        · have FA := own_flat tJ.oA
          obtain ⟨ga, oa, rfl, hga, _⟩ := FA.form (by rw [fl_len ev_size]; omega)
          have ra := flat_range ev_size zrEv FA j hlt
          have hsn := cntL_snoc (A.take j) (A.getD j zrEv) M C
          rw [← take_snoc A zrEv j hlt] at hsn
          have hin : (A.getD j zrEv).ts ≤ M ∨ C = true → A.getD j zrEv ∈ T := inv_in I GG.1 (by rw [getD_of_lt A j hlt]; exact List.getElem_mem hlt)
          generalize A.getD j zrEv = y at *
          have sy := ev_one1 y
          have q2 : (j : Int) < (A.length : Int) := by omega
          have bz := Bk.new wr zAg 30
          have th := bz.there
          have b7 := bz.setCells (cs' := evC y) rfl
          have G8 := gsetCells (galloc (Below.refl wr.heap.size wr) (.cells zAg 30)) (Nat.le_refl _) (evC y).toList 0
          generalize hX3 : (wr.alloc (.cells zAg 30)).setCells wr.heap.size 0 (evC y).toList = X3 at *
          have tX := tJ.keep G8
          have hne0 : Nonempty (Ext X3) := ⟨⟨_, Below.refl _ _⟩⟩
          have y0 := fun z : Ext X3 => (z.cell _ _ b7.lt).trans (show X3.cell? ⟨wr.heap.size, 0, none⟩ = some (.int .i64 y.ts) from cell_of_row X3 _ 0 _ _ _ b7)
          have x2 := fun z : Ext X3 => (z.cell _ _ tX.blk.lt).trans tX.blk.at4.2.2.1
          have x3 := fun z : Ext X3 => (z.cell _ _ tX.blk.lt).trans tX.blk.at4.2.2.2
          have HS : Hid (cntL (A.take (j + 1)) M C = cntL (A.take j) M C + if y.ts ≤ M ∨ C = true then 1 else 0) := hsn
          have HT2 : Hid (j < A.length) := hlt
          have hnn : (cntL (A.take j) M C : Int) ≤ 1256584717421 := by omega
          generalize cntL (A.take j) M C = nn at *
          clear hsn hlt hcl
          by_cases hy : y.ts ≤ M ∨ C = true
          · have HN : Hid (cntL (A.take (j + 1)) M C = nn + 1) := by have := HS.out; rw [if_pos hy] at this; exact this
            have hyT := hin hy
            have HD : Hid (y.ts ≤ M ∨ C = true) := hy
            clear hin HS hy
            by_cases hy1 : y.ts ≤ M
            all_goals
              first
              | (have hyc : C = true := HD.out.resolve_left hy1
                 have hy1' : decide (y.ts ≤ M) = false := decide_eq_false hy1
                 subst hyc)
              | skip
              go_upto_region 18 with (first
                | (refine wpList_load_mid rfl 30 _ rfl ga (oa + j * 11) rfl (evC y).toList _ ra Try.underlying30 rfl infoEv ?_)
                | (refine wpList_store_mid rfl 30 _ _ rfl wr.heap.size 0 (evC y) rfl rfl th infoEv sy ?_; rw [hX3]))
              go_frame
              refine wp_region_ext (by kernel_rfl) (by kernel_rfl) ?_
              repeat go_big_quiet_step (fail)
              refine wpQuiet_nil ?_
              intro _ hw'
              obtain ⟨n1, hw''⟩ := hw'
              subst hw''
              have t1 := tX.keep n1.h
              have b8 := b7.keep n1.h
              have hne1 : Nonempty (Ext n1.X) := ⟨⟨_, Below.refl _ _⟩⟩
              have z1 := fun z : Ext n1.X => (z.cell _ _ t1.blk.lt).trans t1.blk.at4.2.1
              have c6 : ∀ z : Ext n1.X, Calls Try.prog 17 #[.slice aT T.length cT, .agg (evC y)] z.X (fun e w'' => e = .returned (.bool true) ∧ ∃ m : Ext n1.X, w'' = m.X) := fun z => ext_of (in_true aT cT T y z.X (own_flat (t1.keep z.h).oT) (by omega) hyT)
              clear y0 x2 x3 hne0
              go_upto_region 20 with fail
              refine wp_region_ext (by kernel_rfl) (by kernel_rfl) ?_
              repeat (first
                | (refine wpQuiet_load_mid rfl 30 _ rfl wr.heap.size 0 rfl (evC y) _ (fun X hX => by obtain ⟨nx, rfl⟩ := hX; exact rangeAt_keep b8.range nx.h) Try.underlying30 rfl infoEv _ rfl ?_; simp only [Act.put, List.setIfInBounds_toArray, List.set_cons_succ, List.set_cons_zero])
                | go_big_quiet_step (first | (go_at_call 17; with_reducible exact c6 _)))
              refine wpQuiet_nil ?_
              intro _ hw'
              obtain ⟨n2, hw''⟩ := hw'
              subst hw''
              go_wp2
              go_roundw
              case rel => have hlt : j < A.length := HT2; exact ⟨j + 1, by omega, by go_num, by rw [HN.out]; go_num, gtrans (gtrans (gtrans BJ G8) n1.h) n2.h⟩
              case measure => have hlt : j < A.length := HT2; simp [intOf]; omega
          · have HN : Hid (cntL (A.take (j + 1)) M C = nn) := by have := HS.out; rw [if_neg hy] at this; exact this
            have hy1 : decide (y.ts ≤ M) = false := decide_eq_false fun e => hy (.inl e)
            obtain rfl : C = false := by cases C with | true => exact absurd (.inr rfl) hy | false => rfl
            clear hin HS hy
            go_upto_region 18 with (first
              | (refine wpList_load_mid rfl 30 _ rfl ga (oa + j * 11) rfl (evC y).toList _ ra Try.underlying30 rfl infoEv ?_)
              | (refine wpList_store_mid rfl 30 _ _ rfl wr.heap.size 0 (evC y) rfl rfl th infoEv sy ?_; rw [hX3]))
            go_frame
            refine wp_region_ext (by kernel_rfl) (by kernel_rfl) ?_
            repeat go_big_quiet_step (fail)
            refine wpQuiet_nil ?_
            intro _ hw'
            obtain ⟨n1, hw''⟩ := hw'
            subst hw''
            go_wp2
            go_roundw
            case rel => have hlt : j < A.length := HT2; exact ⟨j + 1, by omega, by go_num, by rw [HN.out], gtrans (gtrans BJ G8) n1.h⟩
            case measure => have hlt : j < A.length := HT2; simp [intOf]; omega
        · obtain rfl : j = A.length := by omega
          rw [List.take_length, inv_cnt I GG.1]
          have d1 := tJ.blk.at4.2.1
          have c7 := rises_true aT cT T wr (own_flat tJ.oT) (by omega) (List.pairwise_append.1 I.ris).1
          have GF := GG.keep BJ
          clear hlt hcl htl
          go_wp2_with (first
            | (go_at_call 22; (with_reducible refine c7.mono ?_); rintro e u7 ⟨rfl, g7⟩))
          go_roundw
          case rel => have hlt : i < l.length := HT; exact ⟨i + 1, by omega, by go_num, A, T, M, C, aA, aT, cA, cT, S, s, tJ.keep g7, GF.keep g7, I, hcp, hAi, (BU.trans (BJ.mono BU.size)).trans (g7.mono (Nat.le_trans BU.size BJ.size)), lo⟩
          case measure => have hlt : i < l.length := HT; simp [intOf]; omega
    · have hki : ¬ (i : Int) < (l.length : Int) := by omega
      clear hlt
      go_wp2
      go_ret
      exact ⟨rfl, B⟩

theorem own : ownKnob Try.prog.godebug = none := by kernel_rfl
theorem laidOut : laidOutB Try.prog = true := by kernel_rfl

set_option maxRecDepth 100000 in
theorem lifted (os : Os) (started : os.Started) (H : Type) (enc : TypeId × Value → H) :
    ReturnsInHanded {} Try.checked os 7 .any (Rows.gateSortsSpec.pre6 enc Try.prog Try.f7 Rows.gateSortsRow.domain false) (Rows.gateSortsSpec.post enc Try.prog Try.f7 false true false false) := by
  refine returnsInHanded_of_change_sized (C := Try.checked) own started (by kernel_rfl) Try.func7
    (ChangeSpec.witness6 (enc := enc) (C := Try.checked) false ⟨#[], #[.int .i64 0, .slice none 0 0], []⟩ 8 (by kernel_rfl) (by kernel_rfl) (by kernel_rfl) (by kernel_rfl)) ?_
  intro W base args ds gs before hval0 hW hcnd hsz0 _
  have hsz : (DataW.weightsEach Try.prog (Try.f7.params.toList ++ Rows.gateSortsSpec.plain.varTypes Try.prog) (ds ++ gs)).all (· ≤ reachBytes) = true := hsz0
  have hval : ∀ (j : Nat) t v, Try.f7.params[j]? = some t → args[j]? = some v → Value.okWide Try.prog W .any base t v := hval0
  have hW' := hW
  obtain ⟨p, q, hA0, hV, rfl, hfz, hnd⟩ := hW
  have hA : DataW.TrodAll enc Try.prog W 0 (fun _ => true) true Try.f7.params.toList args.toList ds p := hA0
  rw [Try.params7] at hA hval hsz
  obtain ⟨v0, vs0, d0, ds0, p0, q0, hargs, rfl, rfl, h0, r0⟩ := trodAll_cons hA
  obtain ⟨v1, vs1, d1, ds1, p1, q1, rfl, rfl, rfl, h1, r1⟩ := trodAll_cons r0
  obtain ⟨rfl, rfl, rfl⟩ := trodAll_nil r1
  obtain rfl : args = #[v0, v1] := by cases args; simp_all
  obtain ⟨rfl, rfl⟩ := trodVars_none hV
  have k0 := h0
  have lt0 : ∀ x ∈ p0, x.block < W.heap.size := by obtain ⟨m, hm⟩ := k0; exact DataW.trod_lt m _ _ _ hm
  obtain ⟨a0, e0, _, _, w0⟩ := open_int Try.underlying3 (hval 0 3 v0 rfl rfl) h0
  subst e0
  have k1 := h1
  have lt1 : ∀ x ∈ p1, x.block < W.heap.size := by obtain ⟨m, hm⟩ := k1; exact DataW.trod_lt m _ _ _ hm
  obtain ⟨ao1, cap1, l1, e1, wc1, w1, wr1, ws1⟩ : ∃ ao cap l, v1 = .slice ao (l : List Gop).length cap ∧ Sl ao l.length cap ∧ Flat W ao (fl gopC l) ∧ l.length * 112 ≤ 140737488351232 ∧ ∀ k, (fun o : Gop => o.e.ok) (l.getD k zeroGo) := by
    obtain ⟨a, len, cap, e⟩ := okWide_slice Try.underlying52 (hval 1 52 v1 rfl rfl)
    subst e
    obtain ⟨fuel, hf⟩ := h1
    have hf' : DataW.trod enc Try.prog W 0 (fun _ => true) true fuel 52 [.slice a len cap] = some (d1, p1) := hf
    exact open_goprow hf' (fun b hb => by
      have h1 := List.all_eq_true.1 hsz b (DataW.weights_mem_each (j := 1) (t := 52) rfl rfl b hb)
      simpa using h1)
  subst e1
  clear hA0 hval0
  refine (walk a0 w0 ao1 cap1 l1 W wc1 w1 wr1 ws1).mono fun e W' ⟨he, bel⟩ => ?_
  subst he
  exact ⟨_, rfl, _, _, _, [], _, [], hW', trodAll_mk1 (shut_bool Try.underlying4 _), (trodAll_cons_mk (Below.trod laidOut (by kernel_rfl) (of_decide_eq_true (by kernel_rfl)) k0 bel lt0) (trodAll_cons_mk (Below.trod laidOut (by kernel_rfl) (of_decide_eq_true (by kernel_rfl)) k1 bel lt1) trodAll_mk0)), rfl, bel.frame _, fun h => by cases h⟩

theorem over : Rows.gateSortsRow.holds Try.pinned (OpenSpec.ofChange Rows.gateSortsSpec) :=
  OpenClaim.holds_of_wide 7 Try.f7 rfl rfl rfl rfl rfl rfl rfl ⟨rfl, rfl, rfl, rfl, rfl⟩ rfl rfl rfl rfl rfl (by kernel_rfl) Try.func7 (by kernel_rfl)
    (of_decide_eq_true (by kernel_rfl)) (by unfold Func.isWrapper; first | (rw [if_pos (by decide +kernel)]; kernel_rfl) | (rw [if_neg (by decide +kernel)]; exact ⟨rfl, rfl⟩))
    (fun os started H enc _ => lifted os started H enc)

end Go.Proofs.Ytoehkpejdpejcaa.gateSorts
namespace Go.Proofs.Ytoehkpejdpejcaa
theorem gateSorts_holds : Rows.GateSortsSaid := gateSorts.over
#print axioms gateSorts_holds
end Go.Proofs.Ytoehkpejdpejcaa
