/- For every row of epochs and every two numbers the law GateArrival returns true: in whatever order the events of an epoch come, the gate lets the same through at its mark, and at the Flush. No condition. -/
import Derived.Test.YtjfbbfmnghccdaaGau
import Derived.Test.YtjfbbfmnghccdaaGld
import Derived.Carry
import Derived.ChangeMaps5
import Derived.SizedLaws
import Derived.Lib.SmallJoins
import Derived.Deep.DeepHandedRow
import Derived.Deep.RegionHeld3
import Derived.Deep.CutRange
namespace Go.Proofs.Ytjfbbfmnghccdaa.gateArrival
open Go.ChangeShapes Go.WideShapes Go.ChangeAt Go.RowKit Go.BigFrame Go.Maps
set_option linter.unusedVariables false
set_option linter.unusedSimpArgs false

theorem adv_split (s : Gs) (m : Int) : s.advL m ++ (s.adv m).l = s.l := by
  unfold Gs.advL Gs.adv
  split
  · exact List.takeWhile_append_dropWhile
  · rfl
theorem adv_same (s : Gs) (m : Int) : (s.adv m).cl = s.cl ∧ (s.adv m).cap = s.cap := by
  unfold Gs.adv
  split <;> exact ⟨rfl, rfl⟩
/-- The event that is pushed first. -/
abbrev eF : Ev := mkE 1152921504606846976 7
/-- At the round i. -/
structure Rnd (w : World) (n g h : Nat) (vh vt vi : Value) (wr : World) : Prop where
  ex : ∃ (i hd t : Nat) (S R : Nat → Prop) (s : Gs) (T : List Ev) (a : Option Addr) (c : Nat), i ≤ n ∧ vi = .int .i64 (i : Int) ∧ vh = .int .i64 (hd : Int) ∧ vt = .slice a T.length c ∧ hd ≤ 4096 ∧ T.length + s.l.length ≤ hd ∧ t ≤ 2 * hd ∧ s.cl = false ∧ s.cap = 4096 ∧ (eF ∈ T ∨ eF ∈ s.l) ∧ Gt2 w.heap.size wr g h S R s s t ∧ wr.ownsRow w.heap.size 29 11 (.slice a T.length c) T.length (fl evC T) ∧ Below w.heap.size w wr
/-- At the round j of what is laid down once. -/
structure Onc (wo : World) (hd n : Nat) (vo vj : Value) (wr : World) : Prop where
  ex : ∃ (j : Nat) (O : List Ev) (a : Option Addr) (c : Nat), j ≤ n ∧ vj = .int .i64 (j : Int) ∧ vo = .slice a O.length c ∧ unl O ∧ (∀ e ∈ O, e.ok) ∧ hd + O.length ≤ 4096 ∧ wr.ownsRow wo.heap.size 29 11 (.slice a O.length c) O.length (fl evC O) ∧ Below wo.heap.size wo wr
theorem room_of {n : Nat} (h : n ≤ 4096) : ((n + 1) + (n + 1) / 4 + 192) * 88 ≤ 281474976710656 := small_room (by omega)
theorem room_n {n : Nat} (h : n ≤ 4096) : (n + n / 4 + 192) * 88 ≤ 281474976710656 := by
  have h1 : n / 4 ≤ 4096 := Nat.div_le_of_le_mul (by omega)
  have h2 : n + n / 4 + 192 ≤ 20000 := by omega
  exact Nat.le_trans (Nat.mul_le_mul_right 88 h2) (by decide)
/-- At the round j of the pushes. -/
structure Psd (w : World) (g h : Nat) (s : Gs) (O P T : List Ev) (vO vP vT : Value) (t0 bO bP : Nat) (vn vj : Value) (wr : World) : Prop where
  ex : ∃ (j : Nat) (S R : Nat → Prop) (q r : Gs) (nz : Int), j ≤ O.length ∧ vj = .int .i64 (j : Int) ∧ vn = .int .i64 nz ∧ nz = (cntK s (O.take j) : Int) - (cntK s (P.take j) : Int) ∧ Gt2 w.heap.size wr g h S R q r (t0 + 2 * j) ∧ Psh s (O.take j) q ∧ Psh s (P.take j) r ∧ wr.ownsRow bO 29 11 vO O.length (fl evC O) ∧ wr.ownsRow bP 29 11 vP O.length (fl evC P) ∧ wr.ownsRow w.heap.size 29 11 vT T.length (fl evC T) ∧ Below w.heap.size w wr
theorem in_lit (ao : Option Addr) (cap n : Nat) (l : List Ev) (u : World) (F : Flat u ao (fl evC l)) (hl : l.length ≤ 9000000000000000000) (hm : eF ∈ l) (hn : l.length = n) : Calls Try.prog 32 #[.slice ao n cap, .agg #[.int .i64 1152921504606846976, .int .u64 7, .int .i64 0, .int .i64 0, .int .i64 0, .int .i64 0, .int .i64 0, .int .i64 0, .int .i64 0, .int .i64 0, .int .i64 0]] u fun r w' => r = .returned (.bool true) ∧ Below u.heap.size u w' := by
  subst hn
  exact in_true ao cap l eF u F hl hm
set_option maxRecDepth 100000 in
set_option maxHeartbeats 16000000 in
theorem walk (ao : Option Addr) (ca : Nat) (l : List Epo) (k : Int) (hk : (Lit.int .i64 k).wf = true) (d : Int) (hd : (Lit.int .i64 d).wf = true) (w : World) (hsl : Sl ao l.length ca) (F : Flat w ao (fl epoC l)) (hl : l.length * 32 ≤ 140737488351232) (ok : ∀ k, EpoOk w (l.getD k zeroEp)) : Calls Try.prog 5 #[.slice ao l.length ca, .int .i64 k, .int .i64 d] w fun e w' => e = .returned (.bool true) ∧ Below w.heap.size w w' := by
  clear hsl hk hd
  have cN1 := fun u : World => new_yes (cap := 4096) (by omega) (by omega) u
  have fok : okN 1152921504606846976 7 := ⟨by omega, by omega, by omega, by omega⟩
  have hC0 : Gs.pushC ⟨4096, -1152921504606846977, false, []⟩ (mkE 1152921504606846976 7) = 0 := by
    unfold Gs.pushC
    rw [if_neg (by simp), if_neg (by simp [mkE]), if_neg (by simp [mkE]), if_neg (by simp [hasN]), if_neg (by simp)]
  have hptr : ∀ (b : Nat) (W : World), (binOp .eql 53 (.pointer (some ⟨b, 0, none⟩)) (.pointer none)).run Try.prog W = .ok (.bool false) W := fun b W => by kernel_rfl
  have hs1 : Gs.push ⟨4096, -1152921504606846977, false, []⟩ (mkE 1152921504606846976 7) = ⟨4096, -1152921504606846977, false, [eF]⟩ := by
    unfold Gs.push
    rw [if_pos hC0]
    rfl
  go_enter Try.func5, Try.ntmps5
  go_upto_region 8 with (first
    | (go_at_call 24; (with_reducible refine (cN1 w).mono ?_); rintro e u1 ⟨g, S0, rfl, G1, Sg, Slo, g1⟩)
    | (go_at_call 24; (with_reducible refine (cN1 u1).mono ?_); rintro e u2 ⟨h, R0, rfl, H2, Rh, Rlo, g2⟩; have T2 : Gt2 w.heap.size u2 g h S0 R0 ⟨4096, -1152921504606846977, false, []⟩ ⟨4096, -1152921504606846977, false, []⟩ 0 := ⟨G1.keep g2, H2, fun k e1 e2 => by have := G1.lt k e1; have := Rlo k e2; omega, Slo, fun k e => Nat.le_trans g1.size (Rlo k e)⟩; have B2 := gtrans g1 g2; have c3 := push_mk g 0 S0 _ _ _ 0 u2 T2.G fok (by omega) hC0)
    | (go_at_call 25; (with_reducible refine c3.mono ?_); rintro e u3 ⟨rfl, P3⟩; obtain ⟨S1, T3, F3⟩ := T2.step B2.size P3 (Nat.zero_le _); have B3 := F3.toBelow B2 (Nat.le_refl _) T2.lo; have c4 := push_mk h 1 R0 _ _ _ 0 u3 T3.H fok (by omega) hC0)
    | (go_at_call 25; (with_reducible refine c4.mono ?_); rintro e u4 ⟨rfl, P4⟩; obtain ⟨R1, T4, F4⟩ := T3.stepR B3.size P4 (Nat.le_succ _); have B4 := F4.toBelow B3 (Nat.le_refl _) T3.lo'))
  rw [hs1] at T4
  clear c3 c4 cN1 hptr T2 T3 B2 B3 F3 F4 P3 P4 G1 H2 Sg Slo Rh Rlo g1 g2 fok hC0 hs1
  go_loopw [11, 12, 13, 14, 15, 16, 17, 18, 19, 20, 21, 22, 23, 24, 25] (fun vh vt vi _ _ _ _ _ _ _ _ _ _ _ _ wr => Rnd w l.length g h vh vt vi wr) (fun _ _ vi _ _ _ _ _ _ _ _ _ _ _ _ _ => l.length - (intOf vi).toNat)
  case atStart => exact ⟨0, 1, 2, S1, R1, _, [], none, 0, Nat.zero_le _, rfl, rfl, rfl, by omega, by simp, by omega, rfl, rfl, .inr (by simp), T4, World.ownsRow_nil _ _ _ _, B4⟩
  case round =>
    obtain ⟨i, hd, t, S, R, s, T, aT, cT, hi, rfl, rfl, rfl, hd1, hTl, ht, hcl, hcp, hE, TT, OT, B⟩ := hrel
    clear T4 B4
    by_cases hlt : i < l.length
    · obtain ⟨gl, o, rfl, hgl, _⟩ := F.form (by rw [fl_len epo_size]; omega)
      have rx := flat_range epo_size zeroEp F i hlt
      have xok := ok i
      generalize l.getD i zeroEp = x at *
      have dS : ∀ X, Below w.heap.size w X → X.cell? ⟨gl, o + i * 2, none⟩ = some (.slice x.ao x.l.length x.cap) := fun X BX => (BX.cell (p := ⟨gl, o + i * 2, none⟩) hgl).trans (by have := rx 0 _ rfl; simpa using this)
      have dM : ∀ X, Below w.heap.size w X → X.cell? ⟨gl, o + i * 2 + 1, none⟩ = some (.int .i64 x.m) := fun X BX => (BX.cell (p := ⟨gl, o + i * 2 + 1, none⟩) hgl).trans (rx 1 _ rfl)
      have q1 : (i : Int) < (l.length : Int) := by omega
      have HT : Hid (i < l.length) := hlt
      obtain ⟨wo, hwo⟩ : ∃ wo, wo = wr := ⟨_, rfl⟩
      subst hwo
      clear hlt rx
      go_upto_region 12 with fail
      go_loopw [14, 15, 16] (fun vo vj _ wr => Onc wo hd x.l.length vo vj wr) (fun _ vj _ _ => x.l.length - (intOf vj).toNat)
      case atStart => exact ⟨0, [], none, 0, Nat.zero_le _, rfl, rfl, List.Pairwise.nil, fun e he => by simp at he, by simpa using hd1, World.ownsRow_nil _ _ _ _, Below.refl _ _⟩
      case round =>
        obtain ⟨j, O, aO, cO, hj, rfl, rfl, hU, hOk, hr, OO, BO⟩ := hrel
        have BW := gtrans B BO
        have dx := dS wr BW
        go_upto_region 12 with fail
        go_cut [84] from 70 to 102 (fun s wx => ∃ b : Bool, s = .bool b ∧ (b = true → (j < x.l.length ∧ hd + O.length < 4096)) ∧ wr = wx)
        case first =>
          by_cases hb1 : j < x.l.length
          · have p1 : (j : Int) < (x.l.length : Int) := by omega
            by_cases hb2 : hd + O.length < 4096
            · have p2 : (hd : Int) + (O.length : Int) < 4096 := by omega
              go_wp2
              go_meet
              case rel => exact ⟨true, rfl, fun _ => ⟨hb1, hb2⟩, rfl⟩
            · have p2 : ¬ (hd : Int) + (O.length : Int) < 4096 := by omega
              go_wp2
              go_meet
              case rel => exact ⟨false, rfl, (fun e => by cases e), rfl⟩
          · have p1 : ¬ (j : Int) < (x.l.length : Int) := by omega
            go_wp2
            go_meet
            case rel => exact ⟨false, rfl, (fun e => by cases e), rfl⟩
        case rest =>
          obtain ⟨b, rfl, hb, rfl⟩ := hcut
          cases b with
          | true =>
            obtain ⟨hb1, hb2⟩ := hb rfl
            obtain ⟨xa, xc, xl, xm⟩ := x
            obtain ⟨xsl, xfl, xhl, xev⟩ := xok
            dsimp only at *
            obtain ⟨gx, ox, rfl, hgx, _⟩ := (xfl.keep BW).form (by rw [fl_len ev_size]; omega)
            have ry := flat_range ev_size zeroE (xfl.keep BW) j hb1
            have yok := xev j
            generalize xl.getD j zeroE = y at *
            have p1 : (j : Int) < (xl.length : Int) := by omega
            have sx := ev_one1 y
            have bz := Bk.new wr zAg 29
            have th := bz.there
            have b7 := bz.setCells (cs' := evC y) rfl
            have G8 := gsetCells (galloc (Below.refl wr.heap.size wr) (.cells zAg 29)) (Nat.le_refl _) (evC y).toList 0
            generalize hX3 : (wr.alloc (.cells zAg 29)).setCells wr.heap.size 0 (evC y).toList = X3 at *
            have r7 := b7.range
            have OO3 := own_keep OO G8
            have c5 := named_any aO cO O y X3 (own_flat OO3) (by omega)
            have hcn := cntN_pos O y.ts y.id
            have HB1 : Hid (j < xl.length) := hb1
            have HB2 : Hid (hd + O.length < 4096) := hb2
            clear hb hb1 hb2
            by_cases hN : cntN O y.ts y.id = 0
            · rw [hN] at c5
              rw [hN] at hcn
              have hnn : hasN O y.ts y.id = false := by rw [← hcn]; rfl
              go_upto_region 16 with (first
                | (refine wpList_load_mid rfl 29 (.tmp 93) rfl gx (ox + j * 11) rfl (evC y).toList _ ry Try.underlying29 rfl infoEv ?_)
                | (refine wpList_store_mid rfl 29 _ _ rfl wr.heap.size 0 (evC y) rfl rfl th infoEv sx ?_; rw [hX3])
                | (refine wpList_load_mid rfl 29 (.tmp 16) rfl wr.heap.size 0 rfl (evC y).toList _ r7 Try.underlying29 rfl infoEv ?_)
                | (go_at_call 26; (with_reducible refine c5.mono ?_); rintro e u5 ⟨rfl, g5⟩))
              have r8 := (b7.keep g5).range
              have hbs := evBuildE y u5
              have G10 := galloc (Below.refl u5.heap.size u5) (.cells (evC y) 29)
              have bn := Bk.new u5 (evC y) 29
              have hnews := World.news_of_block bn
              generalize hWA : u5.alloc (.cells (evC y) 29) = WA at *
              have G11 := gtrans (gtrans G8 g5) G10
              have OA := own_keep OO G11
              have BA := gtrans BO G11
              have hr1 : Hid (O.length + 1 ≤ 9223372036854775807) := by have := HB2.out; unfold Hid; omega
              have hr2 : Hid (((O.length + 1) + (O.length + 1) / 4 + 192) * 88 ≤ 281474976710656) := room_of (by have := HB2.out; omega)
              clear hWA c5 hcn
              go_upto_region 13 with (first
                | (refine wpList_load_mid rfl 29 (.tmp 16) rfl wr.heap.size 0 rfl (evC y).toList _ r8 Try.underlying29 rfl infoEv ?_; refine wpList_build1 rfl (.tmp 100) rfl rfl hbs ?_; refine wpList_append_one rfl (.tmp 99) (.tmp 101) rfl Try.underlying22 nfEv rfl (by decide) _ wo.heap.size O.length _ rfl OA BA.size ⟨u5.heap.size, 0, none⟩ 1 (evC y).toList rfl rfl hnews (ev_ones1 y) hr1.out hr2.out ?_; intro gz cz w6 O6 G6 hg))
              have B6 : Below wo.heap.size wo w6 := BA.grown G6 BA.size (fun k e => (World.ownsRow.lt OA k e).1)
              have HP : Hid (Onc wo hd xl.length (.slice (some ⟨gz, 0, none⟩) (O.length + 1) cz) (.int .i64 ((j : Int) + 1)) w6) := ⟨j + 1, O ++ [y], some ⟨gz, 0, none⟩, cz, HB1.out, rfl, by simp, unl_snoc hU hnn, fun e he => by
                rcases List.mem_append.1 he with h | h
                · exact hOk e h
                · rw [List.mem_singleton.1 h]; exact yok, by rw [List.length_append]; have := HB2.out; simp; omega, by
                rw [fl_app, List.length_append]
                simpa [fl] using O6, B6⟩
              clear O6 OA G6 hnews bn OO OO3 b7 r7 r8 ry th bz
              go_wp2
              go_roundw
              case rel => exact HP.out
              case measure => have hlt := HB1.out; simp [intOf]; omega
            · have hN' : ((cntN O y.ts y.id : Int) == 0) = false := by rw [beq_eq_false_iff_ne]; omega
              have hN2 : (cntN O y.ts y.id == 0) = false := by rw [beq_eq_false_iff_ne]; exact hN
              clear hcn
              generalize cntN O y.ts y.id = nn at *
              go_upto_region 13 with (first
                | (refine wpList_load_mid rfl 29 (.tmp 93) rfl gx (ox + j * 11) rfl (evC y).toList _ ry Try.underlying29 rfl infoEv ?_)
                | (refine wpList_store_mid rfl 29 _ _ rfl wr.heap.size 0 (evC y) rfl rfl th infoEv sx ?_; rw [hX3])
                | (refine wpList_load_mid rfl 29 (.tmp 16) rfl wr.heap.size 0 rfl (evC y).toList _ r7 Try.underlying29 rfl infoEv ?_)
                | (go_at_call 26; (with_reducible refine c5.mono ?_); rintro e u5 ⟨rfl, g5⟩))
              have HP : Hid (Onc wo hd xl.length (.slice aO O.length cO) (.int .i64 ((j : Int) + 1)) u5) := ⟨j + 1, O, aO, cO, HB1.out, rfl, rfl, hU, hOk, hr, own_keep OO (gtrans G8 g5), gtrans BO (gtrans G8 g5)⟩
              clear OO OO3 b7 r7 ry th bz c5
              go_wp2
              go_roundw
              case rel => exact HP.out
              case measure => have hlt := HB1.out; simp [intOf]; omega
          | false =>
            obtain ⟨wr0, hwr0⟩ : ∃ wr0, wr0 = wr := ⟨_, rfl⟩
            subst hwr0
            have c5 := fun z : Int => shufG_any aO cO O z d wr0 (own_flat OO) (by omega)
            clear hb hj
            go_upto_region 21 with (first
              | (go_at_call 27; (with_reducible refine (c5 _).mono ?_); rintro e u5 ⟨aP, cP, P, rfl, hPm, OP, g5⟩))
            have TT5 := TT.keep (gtrans BO g5)
            have OT5 := own_keep OT (gtrans BO g5)
            have OO5 := own_keep OO g5
            have B5 := gtrans BW g5
            have hPl := hPm.length_eq
            clear c5
            have hPok : ∀ e ∈ P, e.ok := fun e he => hOk e (hPm.mem_iff.1 he)
            have hUP := unl_perm hU hPm
            have hq0 := Psh.nil hcl
            clear dx xok dS
            go_loopw [18, 19, 20, 21] (fun vn vj _ _ wr => Psd w g h s O P T (.slice aO O.length cO) (.slice aP O.length cP) (.slice aT T.length cT) t wo.heap.size wr0.heap.size vn vj wr) (fun _ vj _ _ _ => O.length - (intOf vj).toNat)
            case atStart => exact ⟨0, S, R, s, s, 0, Nat.zero_le _, rfl, rfl, by simp [cntK], TT5, hq0, hq0, OO5, OP, OT5, B5⟩
            case round =>
              obtain ⟨j, S, R, q, r, nz, hj, rfl, rfl, hnz, TT, hq, hr', OO, OP, OT, B⟩ := hrel
              have hk1 := cntK_le s (O.take j)
              have hk2 := cntK_le s (P.take j)
              have hl1 : (O.take j).length ≤ O.length := by rw [List.length_take]; omega
              have hl2 : (P.take j).length ≤ O.length := by rw [List.length_take]; omega
              have hnb1 : nz ≤ 4096 := by omega
              have hnb2 : -4096 ≤ nz := by omega
              by_cases hlt : j < O.length
              · obtain ⟨gO, oO, eO, hgO, _⟩ := (own_flat OO).form (by rw [fl_len ev_size]; omega)
                obtain ⟨gP, oP, eP, hgP, _⟩ := (own_flat OP).form (by rw [fl_len ev_size]; omega)
                subst eO eP
                have ry := flat_range ev_size zeroE (own_flat OO) j hlt
                have hy1 := take_snoc O zeroE j hlt
                have hz1 := take_snoc P zeroE j (by omega)
                have hstp := fun (hn) => hq.step (x := O.getD j zeroE) hn (by rw [List.length_take]; omega)
                have hst1 := hstp (unl_at hU hlt)
                have hst2 := hr'.step (x := P.getD j zeroE) (unl_at hUP (by omega)) (by rw [List.length_take]; omega)
                have hc1 := cntK_snoc s (O.take j) (O.getD j zeroE)
                have hc2 := cntK_snoc s (P.take j) (P.getD j zeroE)
                rw [← hy1] at hc1 hst1
                rw [← hz1] at hc2 hst2
                have yok : (O.getD j zeroE).ok := hOk _ (by rw [getD_of_lt O j hlt]; exact List.getElem_mem hlt)
                have zok : (P.getD j zeroE).ok := hPok _ (by rw [getD_of_lt P j (by omega)]; exact List.getElem_mem (by omega))
                clear hstp hy1 hz1
                obtain ⟨y, hy⟩ : ∃ y, O.getD j zeroE = y := ⟨_, rfl⟩
                obtain ⟨z, hz⟩ : ∃ z, P.getD j zeroE = z := ⟨_, rfl⟩
                rw [hy] at ry hst1 hc1 yok
                rw [hz] at hst2 hc2 zok
                have p1 : (j : Int) < (O.length : Int) := by omega
                have c6 := push_any g _ S q y wr TT.G yok (by omega)
                have HT3 : Hid (j < O.length) := hlt
                have HC : Hid (((cntK s (O.take (j + 1)) : Int) - (cntK s (P.take (j + 1)) : Int)) = nz + (if okb s y = true then 1 else 0) - (if okb s z = true then 1 else 0)) := by
                  unfold Hid
                  rw [hc1, hc2, hnz]
                  split <;> split <;> simp <;> omega
                have HZ : Hid (P.getD j zeroE = z) := hz
                clear hlt hc1 hc2 hy hz hnz
                go_upto_region 24 with (first
                  | (refine wpList_load_mid rfl 29 _ rfl gO (oO + j * 11) rfl (evC y).toList _ ry Try.underlying29 rfl infoEv ?_)
                  | (go_at_call 25; (with_reducible refine c6.mono ?_); rintro e u6 ⟨rfl, P6⟩))
                obtain ⟨S6, T6, F6⟩ := TT.step B.size P6 (Nat.le_succ _)
                have B6 := F6.toBelow B (Nat.le_refl _) TT.lo
                have OO6 := F6.own TT.G OO (by decide) (by decide) (by decide)
                have OP6 := F6.own TT.G OP (by decide) (by decide) (by decide)
                have OT6 := F6.own TT.G OT (by decide) (by decide) (by decide)
                have rz := flat_range ev_size zeroE (own_flat OP6) j (by have := HT3.out; omega)
                rw [HZ.out] at rz
                have c7 := push_any h _ R r z u6 T6.H zok (by omega)
                clear c6 ry
                go_upto_region 25 with (first
                  | (refine wpList_load_mid rfl 29 _ rfl gP (oP + j * 11) rfl (evC z).toList _ rz Try.underlying29 rfl infoEv ?_)
                  | (go_at_call 25; (with_reducible refine c7.mono ?_); rintro e u7 ⟨rfl, P7⟩))
                obtain ⟨R7, T7, F7⟩ := T6.stepR B6.size P7 (Nat.le_succ _)
                have B7 := F7.toBelow B6 (Nat.le_refl _) T6.lo'
                have OO7 := F7.own T6.H OO6 (by decide) (by decide) (by decide)
                have OP7 := F7.own T6.H OP6 (by decide) (by decide) (by decide)
                have OT7 := F7.own T6.H OT6 (by decide) (by decide) (by decide)
                have HP : Hid (∀ nz' : Int, nz' = nz + (if okb s y = true then 1 else 0) - (if okb s z = true then 1 else 0) → Psd w g h s O P T (.slice (some ⟨gO, oO, none⟩) O.length cO) (.slice (some ⟨gP, oP, none⟩) O.length cP) (.slice aT T.length cT) t wo.heap.size wr0.heap.size (.int .i64 nz') (.int .i64 ((j : Int) + 1)) u7) := fun nz' e => ⟨j + 1, S6, R7, _, _, nz', HT3.out, rfl, rfl, by rw [HC.out]; exact e, T7, hst1.1, hst2.1, OO7, OP7, OT7, B7⟩
                have k1 := hst1.2
                have k2 := hst2.2
                clear c7 rz hst1 hst2 OO7 OP7 OT7 OO6 OP6 OT6 OO OP OT T6 T7 TT P6 P7 F6 F7
                by_cases e1 : q.pushC y = 0
                · have f1 := k1.1 e1
                  have e1' : (q.pushC y == 0) = true := beq_iff_eq.2 e1
                  by_cases e2 : r.pushC z = 0
                  · have f2 := k2.1 e2
                    have e2' : (r.pushC z == 0) = true := beq_iff_eq.2 e2
                    clear e1 e2 k1 k2
                    go_wp2
                    go_roundw
                    case rel => exact HP.out _ (by rw [if_pos f1, if_pos f2]; omega)
                    case measure => have hlt := HT3.out; simp [intOf]; omega
                  · have f2 : ¬ okb s z = true := fun e => e2 (k2.2 e)
                    have e2' : (r.pushC z == 0) = false := beq_eq_false_iff_ne.2 e2
                    clear e1 e2 k1 k2
                    go_wp2
                    go_roundw
                    case rel => exact HP.out _ (by rw [if_pos f1, if_neg f2]; omega)
                    case measure => have hlt := HT3.out; simp [intOf]; omega
                · have f1 : ¬ okb s y = true := fun e => e1 (k1.2 e)
                  have e1' : (q.pushC y == 0) = false := beq_eq_false_iff_ne.2 e1
                  by_cases e2 : r.pushC z = 0
                  · have f2 := k2.1 e2
                    have e2' : (r.pushC z == 0) = true := beq_iff_eq.2 e2
                    clear e1 e2 k1 k2
                    go_wp2
                    go_roundw
                    case rel => exact HP.out _ (by rw [if_neg f1, if_pos f2]; omega)
                    case measure => have hlt := HT3.out; simp [intOf]; omega
                  · have f2 : ¬ okb s z = true := fun e => e2 (k2.2 e)
                    have e2' : (r.pushC z == 0) = false := beq_eq_false_iff_ne.2 e2
                    clear e1 e2 k1 k2
                    go_wp2
                    go_roundw
                    case rel => exact HP.out _ (by rw [if_neg f1, if_neg f2]; omega)
                    case measure => have hlt := HT3.out; simp [intOf]; omega
              · obtain rfl : j = O.length := by omega
                have eP : P.take O.length = P := by rw [← hPl]; exact List.take_length
                rw [List.take_length, eP, cntK_perm hPm, Int.sub_self] at hnz
                rw [List.take_length] at hq
                rw [eP] at hr'
                obtain rfl := hq.same hr' hPm TT.G.1 TT.H.1
                subst hnz
                have p1 : ¬ (O.length : Int) < (O.length : Int) := by omega
                have dm := dM wr B
                have hll := Gs.advL_len TT.G.1 x.m
                have c8 := adv_any g _ S r x.m wr TT.G
                clear TT5 OT5 OO5 B5 hnb1 hnb2 hk1 hk2 hl1 hl2 hlt hq0 hr' OO OP
                go_upto_region 30 with (first
                  | (go_at_call 28; (with_reducible refine c8.mono ?_); rintro e u8 ⟨a8, cp8, rfl, P8⟩))
                obtain ⟨S8, T8, F8⟩ := TT.step B.size P8.step (Nat.le_refl _)
                have B8 := F8.toBelow B (Nat.le_refl _) TT.lo
                have OT8 := F8.own TT.G OT (by decide) (by decide) (by decide)
                have dm8 := dM u8 B8
                have c9 := adv_any h _ R r x.m u8 T8.H
                clear c8
                go_upto_region 31 with (first
                  | (go_at_call 28; (with_reducible refine c9.mono ?_); rintro e u9 ⟨a9, cp9, rfl, P9⟩))
                obtain ⟨R9, T9, F9⟩ := T8.stepR B8.size P9.step (Nat.le_refl _)
                have B9 := F9.toBelow B8 (Nat.le_refl _) T8.lo'
                have OT9 := F9.own T8.H OT8 (by decide) (by decide) (by decide)
                have O8 := F9.own T8.H P8.own (by decide) (by decide) (by decide)
                have O9 := P9.own
                have Gd := (Below.refl u9.heap.size u9).drew
                have TD := T9.keep Gd
                obtain ⟨p1, dp1, cl1⟩ := TD.G.pile
                obtain ⟨p2, dp2, cl2⟩ := TD.H.pile
                have c10 := sameEvG_true a8 a9 cp8 cp9 (r.advL x.m) u9.drew ((own_flat O8).keep Gd) ((own_flat O9).keep Gd) (by omega)
                have hS0 : u9.drew.cell? ⟨g, 0, none⟩ = some (.pointer (some ⟨p1, 0, none⟩)) ∧ u9.drew.cell? ⟨h, 0, none⟩ = some (.pointer (some ⟨p2, 0, none⟩)) := ⟨dp1, dp2⟩
                have hSn : ∀ Y, Below u9.drew.heap.size u9.drew Y → Y.cell? ⟨g, 0, none⟩ = some (.pointer (some ⟨p1, 0, none⟩)) ∧ Y.cell? ⟨h, 0, none⟩ = some (.pointer (some ⟨p2, 0, none⟩)) := fun Y G => ⟨(G.cell (p := ⟨g, 0, none⟩) (TD.G.lt g TD.G.self)).trans dp1, (G.cell (p := ⟨h, 0, none⟩) (TD.H.lt h TD.H.self)).trans dp2⟩
                clear c9 dm dm8
                go_region_held3 (fun Y : World => Y.cell? ⟨g, 0, none⟩ = some (.pointer (some ⟨p1, 0, none⟩)) ∧ Y.cell? ⟨h, 0, none⟩ = some (.pointer (some ⟨p2, 0, none⟩))) (first | (with_reducible exact hS0) | (with_reducible exact hS1) | go_keep) (first
                  | (go_at_call 29; (with_reducible refine c10.mono ?_); rintro _ v10 ⟨rfl, g10⟩; have hS1 := hSn _ g10; have cn1 := cl1 v10 g10; have cn2 := cl2 v10 g10)
                  | (go_at_call 30; (with_reducible refine cn1.mono ?_); rintro _ v5 ⟨rfl, rfl⟩)
                  | (go_at_call 30; (with_reducible refine cn2.mono ?_); rintro _ v6 ⟨rfl, rfl⟩))
                all_goals
                  have G10 := gtrans Gd g10
                  have T10 := T9.keep G10
                  have OT10 := own_keep OT9 G10
                  have O10 := own_keep O8 G10
                  have B10 := gtrans B9 G10
                  have hsp := adv_split r x.m
                  have hsm := adv_same r x.m
                  have hlq := hq.len
                  have hls : (r.advL x.m).length + (r.adv x.m).l.length = r.l.length := by rw [← List.length_append, hsp]
                  have hcl' : (r.adv x.m).cl = false := hsm.1.trans hq.cl
                  have hcp' : (r.adv x.m).cap = 4096 := hsm.2.trans (hq.cap.trans hcp)
                  have hE' : eF ∈ T ++ r.advL x.m ∨ eF ∈ (r.adv x.m).l := by
                    rcases hE with h | h
                    · exact .inl (List.mem_append_left _ h)
                    · have h1 : eF ∈ r.l := hq.l.mem_iff.2 (List.mem_append_left _ h)
                      rw [← hsp] at h1
                      rcases List.mem_append.1 h1 with h2 | h2
                      · exact .inl (List.mem_append_right _ h2)
                      · exact .inr h2
                  have hr1 : Hid (((T.length + (r.advL x.m).length) + (T.length + (r.advL x.m).length) / 4 + 192) * 88 ≤ 281474976710656) := room_n (by omega)
                  have hr2 : Hid (T.length + (r.advL x.m).length ≤ 9223372036854775807) := by unfold Hid; omega
                  have hlen : T.length + (r.advL x.m).length + (r.adv x.m).l.length ≤ hd + O.length := by omega
                  have HL : Hid (T.length + (r.advL x.m).length + (r.adv x.m).l.length ≤ hd + O.length) := hlen
                  have HR : Hid (hd + O.length ≤ 4096) := hr
                  have H2 : Hid (t + 2 * O.length ≤ 2 * (hd + O.length)) := by unfold Hid; omega
                  clear hsp hsm hlq hls hlen c10 cl1 cl2 hSn hS0 T8 F8 F9 O8 O9 OT8 OT9 TD dp1 dp2 P8 P9 OT hE hTl
                  generalize r.advL x.m = L at *
                  generalize r.adv x.m = r2 at *
                  go_upto_region 9 with (first
                    | (at_builtin; refine wpList_append_flatw rfl (.tmp 185) (.tmp 186) rfl Try.underlying22 nfEv rfl (by decide) (.slice aT T.length cT) w.heap.size T.length (fl evC T) rfl OT10 B10.size a8 L.length cp8 (fl evC L) rfl (own_sl O10) (own_flat O10) (fl_len ev_size L) (fl_one ev_ones1 L) hr1.out hr2.out ?_; intro v12 w12 O12 G12; obtain ⟨a12, p12, rfl, _⟩ := own_form O12))
                  have T12 : Gt2 w.heap.size w12 g h S8 R9 r2 r2 (t + 2 * O.length) := ⟨T10.G.grown OT10 (by decide) (by decide) (by decide) G12, T10.H.grown OT10 (by decide) (by decide) (by decide) G12, T10.d, T10.lo, T10.lo'⟩
                  have B12 : Below w.heap.size w w12 := B10.grown G12 B10.size (fun k e => (World.ownsRow.lt OT10 k e).1)
                  have HP : Hid (Rnd w l.length g h (.int .i64 ((hd : Int) + (O.length : Int))) (.slice a12 (T.length + L.length) p12) (.int .i64 ((i : Int) + 1)) w12) := ⟨i + 1, hd + O.length, t + 2 * O.length, S8, R9, r2, T ++ L, a12, p12, HT.out, rfl, rfl, by rw [List.length_append], HR.out, by rw [List.length_append]; exact HL.out, H2.out, hcl', hcp', hE', T12, by rw [List.length_append, fl_app]; exact O12, B12⟩
                  clear OT10 O10 O12 G12 T10 T12 T9 TT
                  go_wp2
                  go_roundw
                  case rel => exact HP.out
                  case measure => have hlt := HT.out; simp [intOf]; omega
    · have q1 : ¬ (i : Int) < (l.length : Int) := by omega
      have hll := Gs.fluL_len TT.G.1
      have hfc : s.fluC = 0 := by unfold Gs.fluC; rw [if_neg (by rw [hcl]; decide)]
      have hfl : s.fluL = s.l := by unfold Gs.fluL; rw [if_neg (by rw [hcl]; decide)]
      have c5 := flu_any g t S s wr TT.G
      rw [hfc] at c5
      clear hlt
      go_upto_region 35 with (first
        | (go_at_call 31; (with_reducible refine c5.mono ?_); rintro e u5 ⟨a5, cp5, rfl, P5⟩))
      obtain ⟨S5, T5, F5⟩ := TT.step B.size P5.step (Nat.le_refl _)
      have B5 := F5.toBelow B (Nat.le_refl _) TT.lo
      have OT5 := F5.own TT.G OT (by decide) (by decide) (by decide)
      have c6 := flu_any h t R s u5 T5.H
      rw [hfc] at c6
      clear c5
      go_upto_region 36 with (first
        | (go_at_call 31; (with_reducible refine c6.mono ?_); rintro e u6 ⟨a6, cp6, rfl, P6⟩))
      obtain ⟨R6, T6, F6⟩ := T5.stepR B5.size P6.step (Nat.le_refl _)
      have B6 := F6.toBelow B5 (Nat.le_refl _) T5.lo'
      have OT6 := F6.own T5.H OT5 (by decide) (by decide) (by decide)
      have O5 := F6.own T5.H P5.own (by decide) (by decide) (by decide)
      have O6 := P6.own
      rw [hfl] at O5 O6 hll
      have hlow : ∀ q, (Value.slice aT T.length cT).ownBlock = some q → q < wr.heap.size := fun q e => (World.ownsRow.lt OT q e).2
      have hr1 : Hid (((T.length + s.l.length) + (T.length + s.l.length) / 4 + 192) * 88 ≤ 281474976710656) := room_n (by omega)
      have hr2 : Hid (T.length + s.l.length ≤ 9223372036854775807) := by unfold Hid; omega
      have hE' : eF ∈ T ++ s.l := List.mem_append.2 hE
      have hq : Hid (T.length + s.l.length ≤ hd) := hTl
      have hwz : wr.heap.size ≤ u5.heap.size := P5.step.ex.choose_spec.2.1.size
      clear c6 P5 P6 T5 T6 F5 F6 OT OT5 hTl
      go_upto_region 37 with (first
        | (at_builtin; refine wpList_append_flatw rfl (.tmp 198) (.tmp 199) rfl Try.underlying22 nfEv rfl (by decide) (.slice aT T.length cT) w.heap.size T.length (fl evC T) rfl OT6 B6.size a5 s.l.length cp5 (fl evC s.l) rfl (own_sl O5) (own_flat O5) (fl_len ev_size _) (fl_one ev_ones1 _) hr1.out hr2.out ?_; intro v12 w12 O12 G12; obtain ⟨a12, p12, rfl, _⟩ := own_form O12))
      have B12 : Below w.heap.size w w12 := B6.grown G12 B6.size (fun k e => (World.ownsRow.lt OT6 k e).1)
      have F5 := own_flat (own_same O5 fun q e => G12.block q (World.ownsRow.lt O5 q e).2 fun e2 => by
        have h1 := (World.ownsRow.lt O5 q e).1
        have h2 := hlow q e2.symm
        omega)
      have F6 := own_flat (own_same O6 fun q e => G12.block q (World.ownsRow.lt O6 q e).2 fun e2 => by
        have h1 := (World.ownsRow.lt O6 q e).1
        have h2 := hlow q e2.symm
        have h3 := hwz
        omega)
      have F12 := own_flat O12
      rw [← fl_app] at F12
      have c7 := sameEvG_true a5 a6 cp5 cp6 s.l w12 F5 F6 (by omega)
      clear hlow O5 O6 O12 G12 OT6
      go_upto_region 38 with (first
        | (go_at_call 29; (with_reducible refine c7.mono ?_); rintro e u7 ⟨rfl, g7⟩; have c8 := in_lit a12 p12 (T.length + s.l.length) (T ++ s.l) u7 (F12.keep g7) (by rw [List.length_append]; have := hq.out; omega) hE' (List.length_append ..))
        | (go_at_call 32; (with_reducible refine c8.mono ?_); rintro e u8 ⟨rfl, g8⟩))
      go_ret
      exact ⟨rfl, gtrans (gtrans B12 g7) g8⟩

theorem own : ownKnob Try.prog.godebug = none := by kernel_rfl
theorem laidOut : laidOutB Try.prog = true := by kernel_rfl

set_option maxRecDepth 100000 in
theorem lifted (os : Os) (started : os.Started) (H : Type) (enc : TypeId × Value → H) :
    ReturnsInHanded {} Try.checked os 5 .any (Rows.gateArrivalSpec.pre6 enc Try.prog Try.f5 Rows.gateArrivalRow.domain false) (Rows.gateArrivalSpec.post enc Try.prog Try.f5 false true false false) := by
  refine returnsInHanded_of_change_sized (C := Try.checked) own started (by kernel_rfl) Try.func5
    (ChangeSpec.witness6 (enc := enc) (C := Try.checked) false ⟨#[], #[.slice none 0 0, .int .i64 0, .int .i64 0], []⟩ 8 (by kernel_rfl) (by kernel_rfl) (by kernel_rfl) (by kernel_rfl)) ?_
  intro W base args ds gs before hval0 hW hcnd hsz0 _
  have hsz : (DataW.weightsEach Try.prog (Try.f5.params.toList ++ Rows.gateArrivalSpec.plain.varTypes Try.prog) (ds ++ gs)).all (· ≤ reachBytes) = true := hsz0
  have hval : ∀ (j : Nat) t v, Try.f5.params[j]? = some t → args[j]? = some v → Value.okWide Try.prog W .any base t v := hval0
  have hW' := hW
  obtain ⟨p, q, hA0, hV, rfl, hfz, hnd⟩ := hW
  have hA : DataW.TrodAll enc Try.prog W 0 (fun _ => true) true Try.f5.params.toList args.toList ds p := hA0
  rw [Try.params5] at hA hval hsz
  obtain ⟨v0, vs0, d0, ds0, p0, q0, hargs, rfl, rfl, h0, r0⟩ := trodAll_cons hA
  obtain ⟨v1, vs1, d1, ds1, p1, q1, rfl, rfl, rfl, h1, r1⟩ := trodAll_cons r0
  obtain ⟨v2, vs2, d2, ds2, p2, q2, rfl, rfl, rfl, h2, r2⟩ := trodAll_cons r1
  obtain ⟨rfl, rfl, rfl⟩ := trodAll_nil r2
  obtain rfl : args = #[v0, v1, v2] := by cases args; simp_all
  obtain ⟨rfl, rfl⟩ := trodVars_none hV
  have k0 := h0
  have lt0 : ∀ x ∈ p0, x.block < W.heap.size := by obtain ⟨m, hm⟩ := k0; exact DataW.trod_lt m _ _ _ hm
  obtain ⟨ao0, cap0, l0, e0, wc0, w0, wr0, ws0⟩ : ∃ ao cap l, v0 = .slice ao (l : List Epo).length cap ∧ Sl ao l.length cap ∧ Flat W ao (fl epoC l) ∧ l.length * 32 ≤ 140737488351232 ∧ ∀ k, EpoOk W (l.getD k zeroEp) := by
    obtain ⟨a, len, cap, e⟩ := okWide_slice Try.underlying52 (hval 0 52 v0 rfl rfl)
    subst e
    obtain ⟨fuel, hf⟩ := h0
    have hf' : DataW.trod enc Try.prog W 0 (fun _ => true) true fuel 52 [.slice a len cap] = some (d0, p0) := hf
    exact open_eprow hf' (fun b hb => by
      have h1 := List.all_eq_true.1 hsz b (DataW.weights_mem_each (j := 0) (t := 52) rfl rfl b hb)
      simpa using h1)
  subst e0
  have k1 := h1
  have lt1 : ∀ x ∈ p1, x.block < W.heap.size := by obtain ⟨m, hm⟩ := k1; exact DataW.trod_lt m _ _ _ hm
  obtain ⟨a1, e1, _, _, w1⟩ := open_int Try.underlying3 (hval 1 3 v1 rfl rfl) h1
  subst e1
  have k2 := h2
  have lt2 : ∀ x ∈ p2, x.block < W.heap.size := by obtain ⟨m, hm⟩ := k2; exact DataW.trod_lt m _ _ _ hm
  obtain ⟨a2, e2, _, _, w2⟩ := open_int Try.underlying3 (hval 2 3 v2 rfl rfl) h2
  subst e2
  clear hA0 hval0
  refine (walk ao0 cap0 l0 a1 w1 a2 w2 W wc0 w0 wr0 ws0).mono fun e W' ⟨he, bel⟩ => ?_
  subst he
  exact ⟨_, rfl, _, _, _, [], _, [], hW', trodAll_mk1 (shut_bool Try.underlying4 _), (trodAll_cons_mk (Below.trod laidOut (by kernel_rfl) (of_decide_eq_true (by kernel_rfl)) k0 bel lt0) (trodAll_cons_mk (Below.trod laidOut (by kernel_rfl) (of_decide_eq_true (by kernel_rfl)) k1 bel lt1) (trodAll_cons_mk (Below.trod laidOut (by kernel_rfl) (of_decide_eq_true (by kernel_rfl)) k2 bel lt2) trodAll_mk0))), rfl, bel.frame _, fun h => by cases h⟩

theorem over : Rows.gateArrivalRow.holds Try.pinned (OpenSpec.ofChange Rows.gateArrivalSpec) :=
  OpenClaim.holds_of_wide 5 Try.f5 rfl rfl rfl rfl rfl rfl rfl ⟨rfl, rfl, rfl, rfl, rfl⟩ rfl rfl rfl rfl rfl (by kernel_rfl) Try.func5 (by kernel_rfl)
    (of_decide_eq_true (by kernel_rfl)) (by unfold Func.isWrapper; first | (rw [if_pos (by decide +kernel)]; kernel_rfl) | (rw [if_neg (by decide +kernel)]; exact ⟨rfl, rfl⟩))
    (fun os started H enc _ => lifted os started H enc)

end Go.Proofs.Ytjfbbfmnghccdaa.gateArrival
namespace Go.Proofs.Ytjfbbfmnghccdaa
theorem gateArrival_holds : Rows.GateArrivalSaid := gateArrival.over
#print axioms gateArrival_holds
end Go.Proofs.Ytjfbbfmnghccdaa
