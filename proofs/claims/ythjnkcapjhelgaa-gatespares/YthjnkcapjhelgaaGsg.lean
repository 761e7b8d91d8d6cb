/- apart of the gate's statements, walked. -/
import Derived.Test.YthjnkcapjhelgaaGsf
namespace Go.Proofs.Ythjnkcapjhelgaa
open Go.RowKit Go.BigFrame Go.Maps
set_option linter.unusedVariables false
set_option linter.unusedSimpArgs false

theorem Rws.len' {w wr : World} {b : Nat} {H : List Hd} {C : Nat → List Ev} {D : Nat → List Ev} (R' : Rws wr b H D) (R : Rws w b H C) {j : Nat} (hj : j < H.length) : (C j).length = (H.getD j zeroHd).n := R.len hj
theorem LgI.more {w : World} {b : Nat} {H X : List Hd} {i : Nat} {vl : Value} {W wr W6 w8 : World} {x : Hd} {g8 c8 : Nat} (hb : b ≤ w.heap.size) (hi : i < H.length) (hX : X.length = i) (OL : W.ownsRow w.heap.size 39 1 vl i (fl hdC X))
    (OH : ∀ j, i ≤ j → j < H.length → W.ownsRow b 47 11 (hdV (H.getD j zeroHd)) (H.getD j zeroHd).n (fl evC (dM H j))) (PL : ∀ j, j < i → Pl W H X j)
    (PF : ∀ j j' g, j < i → i ≤ j' → j' < H.length → (hdV (H.getD j' zeroHd)).ownBlock = some g → Pf H X j g) (FW : Frm (rBlk H) w W)
    (ap : ∀ i j q, i < H.length → j < H.length → (hdV (H.getD i zeroHd)).ownBlock = some q → (hdV (H.getD j zeroHd)).ownBlock = some q → i = j)
    (hxn : x.n = (H.getD i zeroHd).n + 70) (OX : wr.ownsRow b 47 11 (hdV x) x.n (fl evC (List.replicate (H.getD i zeroHd).n (eM i) ++ List.replicate 70 (fM i))))
    (RX : RE wr (H.getD i zeroHd).a (fl evC (List.replicate (H.getD i zeroHd).n (eM i)))) (al : (hdV x).ownBlock = (hdV (H.getD i zeroHd)).ownBlock ∨ ∀ q, (hdV x).ownBlock = some q → W.heap.size ≤ q)
    (FX : Frm (fun q => (hdV (H.getD i zeroHd)).ownBlock = some q) W wr) (B6 : Below wr.heap.size wr W6) (OL6 : W6.ownsRow w.heap.size 39 1 vl i (fl hdC X))
    (O8 : w8.ownsRow w.heap.size 39 1 (.slice (some ⟨g8, 0, none⟩) (i + 1) c8) (i + 1) (fl hdC X ++ (hdC x).toList)) (Q8 : W6.grownBy w8 vl.ownBlock) : LgI w b H (.slice (some ⟨g8, 0, none⟩) (i + 1) c8) (.int .i64 ((i : Int) + 1)) w8 := by
  have K6 : EvK wr w8 := (EvK.below B6).trans (EvK.grown OL6 (by decide) Q8)
  have e1 : fl hdC X ++ (hdC x).toList = fl hdC (X ++ [x]) := by rw [fl_app]; simp [fl]
  rw [e1] at O8
  have OI := OH i (Nat.le_refl _) hi
  have xi : (X ++ [x]).getD i zeroHd = x := by rw [List.getD_eq_getElem?_getD, List.getElem?_append_right (by omega), hX, Nat.sub_self]; rfl
  have xj : ∀ j, j < i → (X ++ [x]).getD j zeroHd = X.getD j zeroHd := fun j hj => by rw [List.getD_eq_getElem?_getD, List.getElem?_append_left (by omega), ← List.getD_eq_getElem?_getD]
  refine ⟨i + 1, X ++ [x], hi, rfl, by rw [List.length_append, hX]; rfl, O8, fun j h1 h2 => ?_, fun j hj => ?_, fun j j' g hj h1 h2 e2 => ?_, ?_⟩
  · refine K6.own (own_same (OH j (by omega) h2) fun g e => FX.blk g (World.ownsRow.lt (OH j (by omega) h2) g e).2 fun e2 => ?_)
    have := ap i j g hi h2 e2 e
    omega
  · by_cases e2 : j < i
    · have P := (PL j e2).keep (u := wr) fun g cs hp hh => FX.blk g (lt_of_block hh) fun e3 => hp (PF j i g e2 (Nat.le_refl _) hi e3)
      exact ⟨K6.re P.r, by rw [xj j e2]; exact P.n, by rw [xj j e2]; exact K6.re P.l⟩
    · obtain rfl : j = i := by omega
      refine ⟨K6.re RX, by rw [xi]; exact hxn, ?_⟩
      rw [xi]
      exact K6.re (RE.of_own OX)
  · have hgl := (World.ownsRow.lt (OH j' (by omega) h2) g e2).2
    by_cases e3 : j < i
    · have := PF j j' g e3 (by omega) h2 e2
      exact ⟨this.1, by rw [xj j e3]; exact this.2⟩
    · obtain rfl : j = i := by omega
      refine ⟨fun e4 => ?_, fun e4 => ?_⟩
      · have := ap j j' g hi h2 (hd_blk e4) e2
        omega
      · rw [xi] at e4
        have e5 := hd_blk e4
        rcases al with al | al
        · have := ap j j' g hi h2 (by rw [← al]; exact e5) e2
          omega
        · have := al g e5
          omega
  · have F1 : Frm (rBlk H) w wr := FW.trans FX fun q e => .inl ⟨i, hi, e⟩
    refine (F1.below B6).trans (Frm.grown Q8) fun q e => .inr ?_
    exact (World.ownsRow.lt OL6 q e).1
theorem quiet_b1 {P : Program} {o : Oper} {a : Act} {C : World → Prop} {w : World} {v : Value} {T : TypeId} {x : Operand} {vx : Value} {f0 : Nat} (h : (Instr.build T #[(f0, vx)]).run P w = .ok v w) (ho : o.op = .build T #[(f0, x)]) (hx : a.eval x = vx) : o.quietAt P a C w v := by
  unfold Oper.quietAt execOp
  simp only [ho, List.map_toArray, List.map_cons, List.map_nil, hx, Sem.run_bind, h, Result.andThen_ok, Sem.run_pure]
  exact ⟨rfl, rfl⟩
theorem quiet_b2 {P : Program} {o : Oper} {a : Act} {C : World → Prop} {w : World} {v : Value} {T : TypeId} {x y : Operand} {vx vy : Value} {f0 f1 : Nat} (h : (Instr.build T #[(f0, vx), (f1, vy)]).run P w = .ok v w) (ho : o.op = .build T #[(f0, x), (f1, y)]) (hx : a.eval x = vx) (hy : a.eval y = vy) : o.quietAt P a C w v := by
  unfold Oper.quietAt execOp
  simp only [ho, List.map_toArray, List.map_cons, List.map_nil, hx, hy, Sem.run_bind, h, Result.andThen_ok, Sem.run_pure]
  exact ⟨rfl, rfl⟩
theorem quiet_op {P : Program} {o : Oper} {a : Act} {C : World → Prop} {w : World} {b : BinOp} {T U : TypeId} {x y : Operand} {v0 v1 v : Value} (hg : (eqGuard b T x y v0 v1).run P w = .ok () w) (hr : (binOp b T v0 v1).run P w = .ok v w) (ho : o.op = .binOp b T x y U) (h0 : a.eval x = v0) (h1 : a.eval y = v1) : o.quietAt P a C w v := by
  unfold Oper.quietAt execOp
  simp only [ho, h0, h1, Sem.run_bind, hg, hr, Result.andThen_ok, Sem.run_pure]
  exact ⟨rfl, rfl⟩
set_option maxRecDepth 100000 in
set_option maxHeartbeats 4000000 in
theorem apart_true (ao : Option Addr) (co b : Nat) (H : List Hd) (C : Nat → List Ev) (w : World) (F : Flat w ao (fl hdC H)) (hgo : ∀ g o, ao = some ⟨g, o, none⟩ → g < w.heap.size ∧ ¬ rBlk H g) (R : Rws w b H C) (hb : b ≤ w.heap.size) (hl : H.length * 24 ≤ 140737488351232) (hn : ∀ j, (H.getD j zeroHd).n ≤ 4096) :
    Calls Try.prog 21 #[.slice ao H.length co] w fun e w' => e = .returned (.bool true) ∧ Frm (rBlk H) w w' := by
  go_enter Try.func21, Try.ntmps21
  go_upto_region 2 with fail
  go_loopw [3, 4] (fun vi _ wr => ApI w b H C vi wr) (fun vi _ _ => H.length - (intOf vi).toNat)
  case atStart => exact ⟨0, Nat.zero_le _, rfl, R.congr fun j _ => by unfold apC; rw [if_neg (by omega)], Frm.refl _ _⟩
  case round =>
    obtain ⟨i, hi, rfl, RW, FW⟩ := hrel
    by_cases hlt : i < H.length
    · obtain ⟨go, oo, rfl, _, hce⟩ := F.form (by rw [fl_len hd_size]; omega)
      obtain ⟨hg1, hg2⟩ := hgo go oo rfl
      have dC : ∀ X, Frm (rBlk H) w X → X.cell? ⟨go, oo + i, none⟩ = some (hdV (H.getD i zeroHd)) := fun X FX => (cell_blk (FX.blk go hg1 hg2)).trans (hce i _ (by have := fl_at hd_size zeroHd H i 0 hlt (by omega); rw [Nat.mul_one, Nat.add_zero] at this; rw [this]; rfl))
      have hni := hn i
      have hCl := R.len hlt
      obtain ⟨hd, hhd⟩ : ∃ hd, H.getD i zeroHd = hd := ⟨_, rfl⟩
      rw [hhd] at dC hni hCl
      obtain ⟨ha, n, hc⟩ := hd
      unfold hdV at dC
      dsimp only at dC hni hCl
      have q1 : (i : Int) < (H.length : Int) := by omega
      have HT : Hid (i < H.length) := hlt
      obtain ⟨wo, hwo⟩ : ∃ wo, wo = wr := ⟨_, rfl⟩
      subst hwo
      go_upto_region 5 with fail
      go_loopw [4] (fun vk wr => ApK w b H C i n vk wr) (fun vk _ => n - (intOf vk).toNat)
      case atStart => exact ⟨0, Nat.zero_le _, rfl, RW.congr fun j hj => by
        by_cases e : j = i
        · rw [if_pos e, e]; unfold apC ovy; rw [if_neg (by omega)]
        · rw [if_neg e], FW⟩
      case round =>
        obtain ⟨k, hk, rfl, RK, FK⟩ := hrel
        have dx := dC wr FK
        by_cases hkl : k < n
        · have hrow := RK.row i HT.out
          rw [hhd] at hrow
          obtain ⟨g, cap, e, hbg, hgl⟩ := World.ownsRow.form hrow (show 0 < n by omega)
          unfold hdV at e
          cases e
          unfold hdV at hrow
          have q2 : (k : Int) < (n : Int) := by omega
          have th := own_there hrow k hkl
          have sx := ev_one1 (mkE (1000 + (i : Int)) 0)
          have R2 := RK.put HT.out hhd hkl (mkE (1000 + (i : Int)) 0)
          have F2 := FK.put (g := g) ⟨i, HT.out, by rw [hhd]; rfl⟩ (k * 11) (evC (mkE (1000 + (i : Int)) 0)).toList
          have hbd := bldX (1000 + (i : Int)) wr
          have hio : (i : Int) ≤ 5864062014634 := by omega
          generalize hX : wr.setCells g (k * 11) (evC (mkE (1000 + (i : Int)) 0)).toList = X at *
          go_upto_region 7 with fail
          refine wp_region_lit ?_
          refine wpL_mv rfl (.tmp 0) rfl rfl ?_
          simp only [Act.put, List.setIfInBounds_toArray, List.set_cons_succ, List.set_cons_zero]
          refine wpL_mv rfl (.tmp 3) rfl rfl ?_
          simp only [Act.put, List.setIfInBounds_toArray, List.set_cons_succ, List.set_cons_zero]
          refine wpL_ix rfl (.tmp 26) (.tmp 27) rfl rfl rfl (ixN_run HT.out wr) ?_
          simp only [Act.put, List.setIfInBounds_toArray, List.set_cons_succ, List.set_cons_zero]
          refine wpL_ld rfl (.tmp 28) rfl rfl (ld_run dx) ?_
          simp only [Act.put, List.setIfInBounds_toArray, List.set_cons_succ, List.set_cons_zero]
          refine wpL_mv rfl (.tmp 4) rfl rfl ?_
          simp only [Act.put, List.setIfInBounds_toArray, List.set_cons_succ, List.set_cons_zero]
          refine wpL_mv rfl (.tmp 3) rfl rfl ?_
          simp only [Act.put, List.setIfInBounds_toArray, List.set_cons_succ, List.set_cons_zero]
          refine wpL_op rfl (.const (.int .i64 1000)) (.tmp 31) rfl rfl rfl (by kernel_rfl) (add_run 1000 i (by omega) (by omega) wr) ?_
          simp only [Act.put, List.setIfInBounds_toArray, List.set_cons_succ, List.set_cons_zero]
          refine wpL_b1 rfl (.tmp 32) rfl rfl hbd ?_
          simp only [Act.put, List.setIfInBounds_toArray, List.set_cons_succ, List.set_cons_zero]
          refine wpL_ix rfl (.tmp 29) (.tmp 30) rfl rfl rfl (ix_run hkl wr) ?_
          simp only [Act.put, List.setIfInBounds_toArray, List.set_cons_succ, List.set_cons_zero]
          refine wpList_store_mid rfl 47 (.tmp 34) (.tmp 33) rfl g (k * 11) (evC (mkE (1000 + (i : Int)) 0)) rfl rfl th infoEv sx ?_
          rw [hX]
          go_frame
          have HP : Hid (ApK w b H C i n (.int .i64 ((k : Int) + 1)) X) := ⟨k + 1, hkl, rfl, R2.congr fun j hj => by
            by_cases e : j = i
            · rw [if_pos e, if_pos e, if_pos rfl]; rfl
            · rw [if_neg e, if_neg e, if_neg e], F2⟩
          clear R2 F2 RK FK th hX hbd hrow
          go_wp2
          go_roundw
          case rel => exact HP.out
          case measure => simp [intOf]; omega
        · have q2 : ¬ (k : Int) < (n : Int) := by omega
          obtain rfl : n = k := by omega
          have HP : Hid (ApI w b H C (.int .i64 ((i : Int) + 1)) wr) := ⟨i + 1, HT.out, rfl, RK.congr fun j hj => by
            unfold apC
            by_cases e : j = i
            · rw [if_pos e, e, if_pos (by omega), ← hCl, ovy_end]
            · rw [if_neg e]
              by_cases e2 : j < i
              · rw [if_pos e2, if_pos (by omega)]
              · rw [if_neg e2, if_neg (by omega)], FK⟩
          clear RK FK hkl
          go_wp2
          go_roundw
          case rel => exact HP.out
          case measure => have hlt := HT.out; simp [intOf]; omega
    · obtain rfl : i = H.length := by omega
      have q1 : ¬ (H.length : Int) < (H.length : Int) := by omega
      clear hlt
      have RW2 := RW.congr (D := dM H) fun j hj => by unfold apC dM eM; rw [if_pos hj, RW.len' R hj]
      clear RW
      go_upto_region 10 with fail
      go_loopw [5, 6, 7, 8] (fun vl vi _ _ wr => LgI w b H vl vi wr) (fun _ vi _ _ _ => H.length - (intOf vi).toNat)
      case atStart => exact ⟨0, [], Nat.zero_le _, rfl, rfl, World.ownsRow_nil _ _ _ _, fun j _ hj => RW2.row j hj, fun j hj => absurd hj (Nat.not_lt_zero _), fun j _ _ hj => absurd hj (Nat.not_lt_zero _), FW⟩
      case round =>
        have ap := R.ap
        clear RW2 FW
        obtain ⟨i, X, hi, rfl, hX, OL, OH, PL, PF, FW⟩ := hrel
        by_cases hlt : i < H.length
        · obtain ⟨go, oo, rfl, _, hce⟩ := F.form (by rw [fl_len hd_size]; omega)
          obtain ⟨hg1, hg2⟩ := hgo go oo rfl
          have dC : wr.cell? ⟨go, oo + i, none⟩ = some (hdV (H.getD i zeroHd)) := (cell_blk (FW.blk go hg1 hg2)).trans (hce i _ (by have := fl_at hd_size zeroHd H i 0 hlt (by omega); rw [Nat.mul_one, Nat.add_zero] at this; rw [this]; rfl))
          have q1 : (i : Int) < (H.length : Int) := by omega
          have hio : (i : Int) ≤ 5864062014634 := by omega
          have hni := hn i
          have OI := OH i (Nat.le_refl _) hlt
          have HT : Hid (i < H.length) := hlt
          obtain ⟨W, hW⟩ : ∃ W, W = wr := ⟨_, rfl⟩
          subst hW
          have hbW : b ≤ W.heap.size := Nat.le_trans hb FW.size
          go_upto_region 14 with (first
            | (refine wpL_mv rfl (.tmp 0) rfl rfl ?_; simp only [Act.put, List.setIfInBounds_toArray, List.set_cons_succ, List.set_cons_zero]; refine wpL_mv rfl (.tmp 6) rfl rfl ?_; simp only [Act.put, List.setIfInBounds_toArray, List.set_cons_succ, List.set_cons_zero]; refine wpL_ix rfl (.tmp 41) (.tmp 42) rfl rfl rfl (ixN_run HT.out W) ?_; simp only [Act.put, List.setIfInBounds_toArray, List.set_cons_succ, List.set_cons_zero]; refine wpL_ld rfl (.tmp 43) rfl rfl (ld_run dC) ?_; simp only [Act.put, List.setIfInBounds_toArray, List.set_cons_succ, List.set_cons_zero]))
          go_loopw [7, 8] (fun vx vk wr => XI W b (H.getD i zeroHd) (eM i) (fM i) vx vk wr) (fun _ vk _ => 70 - (intOf vk).toNat)
          case atStart => exact ⟨0, H.getD i zeroHd, Nat.zero_le _, rfl, rfl, rfl, by rw [List.replicate_zero, List.append_nil]; exact OI, RE.of_own OI, .inl rfl, Frm.refl _ _⟩
          case round =>
            obtain ⟨k, x, hk, rfl, rfl, hxn, OX, RX, al, FX⟩ := hrel
            by_cases hkl : k < 70
            · have q2 : (k : Int) < 70 := by omega
              have hnews := World.news_of_block (Bk.new wr (evC (fM i)) 47)
              have hbs := evBuildE (fM i) wr
              have hbd := buildE2 (500000 + (i : Int)) 1 wr
              have G6 := galloc (Below.refl wr.heap.size wr) (.cells (evC (fM i)) 47)
              have hb6 : b ≤ (wr.alloc (.cells (evC (fM i)) 47)).heap.size := Nat.le_trans hbW (Nat.le_trans FX.size G6.size)
              have O6 := own_keep OX G6
              have hr1 : x.n + 1 ≤ 9223372036854775807 := by omega
              have hr2 : ((x.n + 1) + (x.n + 1) / 4 + 192) * 88 ≤ 281474976710656 := roomK2 (by omega)
              go_upto_region 16 with fail
              refine wp_region_lit ?_
              refine wpL_mv rfl (.tmp 7) rfl rfl ?_
              simp only [Act.put, List.setIfInBounds_toArray, List.set_cons_succ, List.set_cons_zero]
              refine wpL_mv rfl (.tmp 6) rfl rfl ?_
              simp only [Act.put, List.setIfInBounds_toArray, List.set_cons_succ, List.set_cons_zero]
              refine wpL_op rfl (.const (.int .i64 500000)) (.tmp 50) rfl rfl rfl (by kernel_rfl) (add_run 500000 i (by omega) (by omega) wr) ?_
              simp only [Act.put, List.setIfInBounds_toArray, List.set_cons_succ, List.set_cons_zero]
              refine wpL_b2 rfl (.tmp 51) (.const (.int .u64 1)) rfl rfl rfl hbd ?_
              simp only [Act.put, List.setIfInBounds_toArray, List.set_cons_succ, List.set_cons_zero]
              refine wpList_build1 rfl (.tmp 52) rfl rfl hbs ?_
              simp only [Act.put, List.setIfInBounds_toArray, List.set_cons_succ, List.set_cons_zero]
              refine wpL_two rfl (.tmp 49) (.tmp 53) rfl Try.underlying39 nfEv rfl (by decide) (hdV x) b x.n _ rfl O6 hb6 ⟨wr.heap.size, 0, none⟩ 1 (evC (fM i)).toList rfl rfl hnews (ev_ones1 _) hr1 hr2 ?_
              intro g8 c8 w8 O8 Q8 L8
              simp only [Act.put, List.setIfInBounds_toArray, List.set_cons_succ, List.set_cons_zero]
              have HP : Hid (XI W b (H.getD i zeroHd) (eM i) (fM i) (.slice (some ⟨g8, 0, none⟩) (x.n + 1) c8) (.int .i64 ((k : Int) + 1)) w8) := XI.more hbW hxn hkl OX RX al FX G6 O8 Q8 L8
              clear OX RX al FX G6 hb6 O6 O8 Q8 L8 hr1 hr2 hbd hbs hnews
              go_wp2
              go_roundw
              case rel => exact HP.out
              case measure => simp [intOf]; omega
            · have q2 : ¬ (k : Int) < 70 := by omega
              obtain rfl : k = 70 := by omega
              have hnews := World.news_of_block (Bk.new wr (hdC x) 39)
              have hbs := bldH x wr
              have G6 := galloc (Below.refl wr.heap.size wr) (.cells (hdC x) 39)
              have OL6 := own_keep (Frm.owns OI FX (by decide) OL) G6
              have hb6 : w.heap.size ≤ (wr.alloc (.cells (hdC x) 39)).heap.size := Nat.le_trans FW.size (Nat.le_trans FX.size G6.size)
              have hr1 : i + 1 ≤ 9223372036854775807 := by omega
              have hr2 : ((i + 1) + (i + 1) / 4 + 192) * 24 ≤ 281474976710656 := roomH (by omega)
              go_upto_region 17 with fail
              refine wp_region_lit ?_
              refine wpL_mv rfl (.tmp 5) rfl rfl ?_
              simp only [Act.put, List.setIfInBounds_toArray, List.set_cons_succ, List.set_cons_zero]
              refine wpL_mv rfl (.tmp 7) rfl rfl ?_
              simp only [Act.put, List.setIfInBounds_toArray, List.set_cons_succ, List.set_cons_zero]
              refine wpList_build1 rfl (.tmp 56) rfl rfl hbs ?_
              simp only [Act.put, List.setIfInBounds_toArray, List.set_cons_succ, List.set_cons_zero]
              refine wpL_two rfl (.tmp 55) (.tmp 57) rfl Try.underlying53 nfHd rfl (by decide) _ w.heap.size i _ rfl OL6 hb6 ⟨wr.heap.size, 0, none⟩ 1 (hdC x).toList rfl rfl hnews (hd_ones _) hr1 hr2 ?_
              intro g8 c8 w8 O8 Q8 L8
              simp only [Act.put, List.setIfInBounds_toArray, List.set_cons_succ, List.set_cons_zero]
              have HP : Hid (LgI w b H (.slice (some ⟨g8, 0, none⟩) (i + 1) c8) (.int .i64 ((i : Int) + 1)) w8) := LgI.more hb HT.out hX OL OH PL PF FW ap hxn OX RX al FX G6 OL6 O8 Q8
              clear OX RX al FX G6 hb6 OL6 O8 Q8 L8 hr1 hr2 hbs hnews OL OH PL PF FW ap dC
              go_wp2
              go_roundw
              case rel => exact HP.out
              case measure => have hlt := HT.out; simp [intOf]; omega
        · obtain rfl : i = H.length := by omega
          have q1 : ¬ (H.length : Int) < (H.length : Int) := by omega
          clear hlt
          go_upto_region 19 with fail
          obtain ⟨W, hW⟩ : ∃ W, W = wr := ⟨_, rfl⟩
          subst hW
          go_loopw [9, 10] (fun vi _ wr => ∃ i : Nat, i ≤ H.length ∧ vi = .int .i64 (i : Int) ∧ Below W.heap.size W wr) (fun vi _ _ => H.length - (intOf vi).toNat)
          case atStart => exact ⟨0, Nat.zero_le _, rfl, Below.refl _ _⟩
          case round =>
            obtain ⟨i, hi, rfl, BW⟩ := hrel
            by_cases hlt : i < H.length
            · obtain ⟨go, oo, rfl, _, hce⟩ := F.form (by rw [fl_len hd_size]; omega)
              obtain ⟨hg1, hg2⟩ := hgo go oo rfl
              obtain ⟨gl, cl, rfl, _, _⟩ := World.ownsRow.form OL (by omega)
              have hH0 : W.cell? ⟨go, oo + i, none⟩ = some (hdV (H.getD i zeroHd)) := (cell_blk (FW.blk go hg1 hg2)).trans (hce i _ (by have := fl_at hd_size zeroHd H i 0 hlt (by omega); rw [Nat.mul_one, Nat.add_zero] at this; rw [this]; rfl))
              have hX0 : W.cell? ⟨gl, i, none⟩ = some (hdV (X.getD i zeroHd)) := by
                rw [World.ownsRow.cellAt OL _ (by omega)]
                have := fl_at hd_size zeroHd X i 0 (by omega) (by omega)
                rw [Nat.mul_one, Nat.add_zero] at this
                rw [this]; rfl
              have hH : wr.cell? ⟨go, oo + i, none⟩ = some (hdV (H.getD i zeroHd)) := (BW.cell (p := ⟨_, _, none⟩) (lt_of_cell hH0)).trans hH0
              have hXx : wr.cell? ⟨gl, i, none⟩ = some (hdV (X.getD i zeroHd)) := (BW.cell (p := ⟨_, _, none⟩) (lt_of_cell hX0)).trans hX0
              have P := PL i hlt
              have q3 : (i : Int) < (H.length : Int) := by omega
              have hio : (i : Int) ≤ 5864062014634 := by omega
              have hni := hn i
              have hdm := fun k => dM_at H (j := i) (k := k)
              have hdl := fun k => dL_lo H (j := i) (k := k)
              have hdh := fun k => dL_hi H (j := i) (k := k)
              have hml := dM_len H i
              have hll := dL_len H i
              obtain ⟨Pr, Pn, Pq⟩ := P
              generalize dM H i = DM at *
              generalize dL H i = DL at *
              generalize H.getD i zeroHd = hh at *
              generalize X.getD i zeroHd = xx at *
              obtain ⟨ha, n, hc⟩ := hh
              obtain ⟨xa, m, xc⟩ := xx
              unfold hdV at hH hXx
              dsimp only at hH hXx Pr Pn Pq hni hdm hdl hdh hml hll
              subst Pn
              have HT : Hid (i < H.length) := hlt
              obtain ⟨wo, hwo⟩ : ∃ wo, wo = wr := ⟨_, rfl⟩
              subst hwo
              go_upto_region 22 with fail
              go_loopw [10] (fun vk wr => ∃ k : Nat, k ≤ n + 70 ∧ vk = .int .i64 (k : Int) ∧ Below wo.heap.size wo wr) (fun vk _ => n + 70 - (intOf vk).toNat)
              case atStart => exact ⟨0, Nat.zero_le _, rfl, Below.refl _ _⟩
              case round =>
                obtain ⟨k, hk, rfl, BK⟩ := hrel
                have dH : wr.cell? ⟨go, oo + i, none⟩ = some (.slice ha n hc) := (BK.cell (p := ⟨_, _, none⟩) (lt_of_cell hH)).trans hH
                have dX : wr.cell? ⟨gl, i, none⟩ = some (.slice xa (n + 70) xc) := (BK.cell (p := ⟨_, _, none⟩) (lt_of_cell hXx)).trans hXx
                by_cases hkl : k < n + 70
                · have q4 : (k : Int) < ((n + 70 : Nat) : Int) := by omega
                  have q4' : (k : Int) < (n : Int) + 70 := by omega
                  obtain ⟨gx, ox, rfl, _, _⟩ := Pq.flat.form (by rw [fl_len ev_size]; omega)
                  have hox : ox = 0 := by
                    rcases Pq with h | ⟨g, cs, e, _⟩
                    · have := congrArg List.length h; rw [fl_len ev_size] at this; simp at this; omega
                    · cases e; rfl
                  subst hox
                  have rX := flat_range ev_size zeroE (((Pq.flat.keep BW).keep BK)) k (by omega)
                  have p1 := fun z : Ext wr => (z.cell _ _ (lt_of_cell dH)).trans dH
                  have p2 := fun z : Ext wr => (z.cell _ _ (lt_of_cell dX)).trans dX
                  have hne0 : Nonempty (Ext wr) := ⟨⟨_, Below.refl _ _⟩⟩
                  have hb1 := fun u : World => bldX (1000 + (i : Int)) u
                  have hb2 := fun u : World => buildE2 (500000 + (i : Int)) 1 u
                  have ha1 := fun u : World => add_run 1000 i (by omega) (by omega) u
                  have ha2 := fun u : World => add_run 500000 i (by omega) (by omega) u
                  have HK : Hid (k < n + 70) := hkl
                  by_cases hkn : k < n
                  · obtain ⟨gh, oh, rfl, _, _⟩ := Pr.flat.form (by rw [fl_len ev_size]; omega)
                    have hoh : oh = 0 := by
                      rcases Pr with h | ⟨g, cs, e, _⟩
                      · have := congrArg List.length h; rw [fl_len ev_size] at this; simp at this; omega
                      · cases e; rfl
                    subst hoh
                    have rH := flat_range ev_size zeroE (((Pr.flat.keep BW).keep BK)) k (by omega)
                    rw [hdm k hkn] at rH
                    rw [hdl k hkn] at rX
                    rw [Nat.zero_add] at rH rX
                    have k1 : (k : Int) < (n : Int) := by omega
                    have k1d : decide ((k : Int) < (n : Int)) = true := decide_eq_true k1
                    have k2d : decide ((n : Int) ≤ (k : Int)) = false := decide_eq_false (by omega)
                    have k2i : ¬ (n : Int) ≤ (k : Int) := by omega
                    have k2n : decide (n ≤ k) = false := decide_eq_false (by omega)
                    have k2e : decide ((k : Int) ≥ (n : Int)) = false := decide_eq_false (by omega)
                    clear hkl hkn hdm hdl hdh Pr Pq hml hll
                    go_upto_region 24 with fail
                    clear dH dX
                    refine wp_region_ext (by kernel_rfl) (by kernel_rfl) ?_
                    iterate 14 go_big_quiet_step (fail)
                    refine wpQuiet_load_mid rfl 47 (.tmp 87) rfl gh (k * 11) rfl (evC (eM i)) _ (fun X hX => by obtain ⟨nx, rfl⟩ := hX; exact rangeAt_keep rH nx.h) Try.underlying47 rfl infoEv _ rfl ?_
                    simp only [Act.put, List.setIfInBounds_toArray, List.set_cons_succ, List.set_cons_zero]
                    iterate 1 go_big_quiet_step (fail)
                    refine wpQuiet_want rfl fun K hK => ⟨.int .i64 (1000 + (i : Int)), fun u hC => quiet_op (by kernel_rfl) (ha1 u) rfl rfl rfl, hK _ ?_⟩
                    simp only [Act.put, List.setIfInBounds_toArray, List.set_cons_succ, List.set_cons_zero]
                    refine wpQuiet_want rfl fun K hK => ⟨.agg (evC (eM i)), fun u hC => quiet_b1 (hb1 u) rfl rfl, hK _ ?_⟩
                    simp only [Act.put, List.setIfInBounds_toArray, List.set_cons_succ, List.set_cons_zero]
                    refine quiet_neq_same rfl (.tmp 88) (.tmp 91) 47 rfl evGuard (evC (eM i)) (ev_eq (eM i)) rfl rfl _ rfl ?_
                    simp only [Act.put, List.setIfInBounds_toArray, List.set_cons_succ, List.set_cons_zero]
                    iterate 7 go_big_quiet_step (fail)
                    refine wpQuiet_load_mid rfl 47 (.tmp 99) rfl gx (k * 11) rfl (evC (eM i)) _ (fun X hX => by obtain ⟨nx, rfl⟩ := hX; exact rangeAt_keep rX nx.h) Try.underlying47 rfl infoEv _ rfl ?_
                    simp only [Act.put, List.setIfInBounds_toArray, List.set_cons_succ, List.set_cons_zero]
                    iterate 6 go_big_quiet_step (fail)
                    refine wpQuiet_load_mid rfl 47 (.tmp 106) rfl gh (k * 11) rfl (evC (eM i)) _ (fun X hX => by obtain ⟨nx, rfl⟩ := hX; exact rangeAt_keep rH nx.h) Try.underlying47 rfl infoEv _ rfl ?_
                    simp only [Act.put, List.setIfInBounds_toArray, List.set_cons_succ, List.set_cons_zero]
                    refine quiet_neq_same rfl (.tmp 100) (.tmp 107) 47 rfl evGuard (evC (eM i)) (ev_eq (eM i)) rfl rfl _ rfl ?_
                    simp only [Act.put, List.setIfInBounds_toArray, List.set_cons_succ, List.set_cons_zero]
                    iterate 11 go_big_quiet_step (fail)
                    iterate 13 go_big_quiet_step (fail)
                    refine wpQuiet_nil ?_
                    intro _ hw'
                    obtain ⟨nx, hw''⟩ := hw'
                    subst hw''
                    go_wp2
                    go_roundw
                    case rel => have hk := HK.out; exact ⟨k + 1, hk, rfl, gtrans BK nx.h⟩
                    case measure => have hk := HK.out; simp [intOf]; omega
                  · rw [hdh k (by omega) hkl] at rX
                    rw [Nat.zero_add] at rX
                    have k1 : ¬ (k : Int) < (n : Int) := by omega
                    have k1d : decide ((k : Int) < (n : Int)) = false := decide_eq_false k1
                    have k2d : decide ((n : Int) ≤ (k : Int)) = true := decide_eq_true (by omega)
                    have k2i : (n : Int) ≤ (k : Int) := by omega
                    have k2n : decide (n ≤ k) = true := decide_eq_true (by omega)
                    have k2m : n ≤ k := by omega
                    clear hkl hkn hdm hdl hdh Pr Pq hml hll
                    go_upto_region 24 with fail
                    clear dH dX
                    refine wp_region_ext (by kernel_rfl) (by kernel_rfl) ?_
                    iterate 52 go_big_quiet_step (fail)
                    refine wpQuiet_load_mid rfl 47 (.tmp 125) rfl gx (k * 11) rfl (evC (fM i)) _ (fun X hX => by obtain ⟨nx, rfl⟩ := hX; exact rangeAt_keep rX nx.h) Try.underlying47 rfl infoEv _ rfl ?_
                    simp only [Act.put, List.setIfInBounds_toArray, List.set_cons_succ, List.set_cons_zero]
                    iterate 1 go_big_quiet_step (fail)
                    refine wpQuiet_want rfl fun K hK => ⟨.int .i64 (500000 + (i : Int)), fun u hC => quiet_op (by kernel_rfl) (ha2 u) rfl rfl rfl, hK _ ?_⟩
                    simp only [Act.put, List.setIfInBounds_toArray, List.set_cons_succ, List.set_cons_zero]
                    refine wpQuiet_want rfl fun K hK => ⟨.agg (evC (fM i)), fun u hC => quiet_b2 (hb2 u) rfl rfl rfl, hK _ ?_⟩
                    simp only [Act.put, List.setIfInBounds_toArray, List.set_cons_succ, List.set_cons_zero]
                    refine quiet_neq_same rfl (.tmp 126) (.tmp 129) 47 rfl evGuard (evC (fM i)) (ev_eq (fM i)) rfl rfl _ rfl ?_
                    simp only [Act.put, List.setIfInBounds_toArray, List.set_cons_succ, List.set_cons_zero]
                    iterate 2 go_big_quiet_step (fail)
                    refine wpQuiet_nil ?_
                    intro _ hw'
                    obtain ⟨nx, hw''⟩ := hw'
                    subst hw''
                    go_wp2
                    go_roundw
                    case rel => have hk := HK.out; exact ⟨k + 1, hk, rfl, gtrans BK nx.h⟩
                    case measure => have hk := HK.out; simp [intOf]; omega
                · obtain rfl : k = n + 70 := by omega
                  have q4 : ¬ ((n + 70 : Nat) : Int) < ((n + 70 : Nat) : Int) := by omega
                  have q4' : ¬ (n : Int) + 70 < (n : Int) + 70 := by omega
                  clear hkl
                  go_wp2
                  go_roundw
                  case rel => have hlt := HT.out; exact ⟨i + 1, hlt, rfl, gtrans BW BK⟩
                  case measure => have hlt := HT.out; simp [intOf]; omega
            · obtain rfl : i = H.length := by omega
              have q3 : ¬ (H.length : Int) < (H.length : Int) := by omega
              clear hlt
              go_wp2
              go_ret
              exact ⟨rfl, FW.below BW⟩

end Go.Proofs.Ythjnkcapjhelgaa
