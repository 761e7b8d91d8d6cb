/- For every list of events and every two marks the law GateJoins returns true: two marks, one behind the other, let through together what the second alone does; a mark that is reached already lets nothing through. No condition. -/
import Derived.Test.YtoehkpejdpejcaaGlb
import Derived.Test.YtoehkpejdpejcaaGld
import Derived.Carry
import Derived.ChangeMaps5
import Derived.SizedLaws
import Derived.Lib.SmallJoins
import Derived.Deep.DeepHandedRow
import Derived.Deep.RegionHeld3
namespace Go.Proofs.Ytoehkpejdpejcaa.gateJoins
open Go.ChangeShapes Go.WideShapes Go.ChangeAt Go.RowKit Go.BigFrame Go.Maps
set_option linter.unusedVariables false
set_option linter.unusedSimpArgs false

/-- The gates' common state: no mark yet. -/
structure Jst (v : Prop) (low : Int) (s : Gs) : Prop where
  mrk : s.mark = -1152921504606846977
  cl : s.cl = false
  has : v → hasN s.l low 3 = true
theorem Jst.push {v : Prop} {low : Int} {s : Gs} (h : Jst v low s) (e : Ev) : Jst v low (s.push e) := by
  unfold Gs.push
  split
  · refine ⟨h.mrk, h.cl, fun hv => ?_⟩
    show hasN (ins evLt e s.l) low 3 = true
    rw [hasN_perm (ins_perm e s.l)]
    unfold hasN
    rw [List.any_cons]
    have := h.has hv
    unfold hasN at this
    rw [this, Bool.or_true]
  · exact h
theorem takeD {p q : Ev → Bool} (hpq : ∀ e, p e = true → q e = true) : ∀ l : List Ev, l.takeWhile q = l.takeWhile p ++ (l.dropWhile p).takeWhile q ∧ (l.dropWhile p).dropWhile q = l.dropWhile q
  | [] => ⟨rfl, rfl⟩
  | y :: l => by
    obtain ⟨h1, h2⟩ := takeD hpq l
    by_cases hp : p y = true
    · have hq := hpq y hp
      rw [List.takeWhile_cons, List.takeWhile_cons, List.dropWhile_cons, List.dropWhile_cons, if_pos hp, if_pos hp, if_pos hq, if_pos hq, List.cons_append, ← h1]
      exact ⟨rfl, h2⟩
    · rw [List.takeWhile_cons (p := p), List.dropWhile_cons (p := p), if_neg hp, if_neg hp]
      exact ⟨rfl, rfl⟩
theorem atM_mono {a b : Int} (h : a ≤ b) (e : Ev) (he : atM a e = true) : atM b e = true := decide_eq_true (Int.le_trans (of_decide_eq_true he) h)
theorem first_in {l : List Ev} {low : Int} (hr : l.Pairwise fun a b => evLt a b = true) (h : hasN l low 3 = true) : 0 < (l.takeWhile (atM low)).length := by
  obtain ⟨y, hy, e1, _⟩ := hasN_true.1 h
  cases l with
  | nil => simp at hy
  | cons z l =>
    have hz : atM low z = true := by
      rcases List.mem_cons.1 hy with e | e
      · rw [← e]; exact decide_eq_true (by omega)
      · have := (evLt_iff _ _).1 ((List.pairwise_cons.1 hr).1 y e)
        exact decide_eq_true (by omega)
    rw [List.takeWhile_cons, if_pos hz]
    simp
theorem none_at {l : List Ev} {m : Int} (h : ∀ e ∈ l, m < e.ts) : l.takeWhile (atM m) = [] ∧ l.dropWhile (atM m) = l := by
  cases l with
  | nil => exact ⟨rfl, rfl⟩
  | cons z l =>
    have hz : ¬ atM m z = true := fun e => by have := of_decide_eq_true e; have := h z List.mem_cons_self; omega
    rw [List.takeWhile_cons, List.dropWhile_cons, if_neg hz, if_neg hz]
    exact ⟨rfl, rfl⟩
theorem two_marks {s : Gs} {low high : Int} (hr : s.l.Pairwise fun a b => evLt a b = true) (hcl : s.cl = false) (hmk : s.mark = -1152921504606846977) (v1 : -1152921504606846976 ≤ low) (v2 : low ≤ high) (v3 : high ≤ 1152921504606846976) :
    s.advC low = 0 ∧ s.advL low = s.l.takeWhile (atM low) ∧ (s.adv low).advC low = 0 ∧ (s.adv low).advL low = [] ∧ (s.adv low).adv low = s.adv low ∧ (s.adv low).advC high = 0 ∧ s.advC high = 0 ∧ s.advL low ++ (s.adv low).advL high = s.advL high ∧ (s.adv low).adv high = s.adv high ∧ (s.adv high).mark = high := by
  have eC1 : s.advC low = 0 := by unfold Gs.advC; rw [if_neg (by rw [hcl]; decide), if_neg (by omega), if_neg (by omega)]
  have eL1 : s.advL low = s.l.takeWhile (atM low) := by unfold Gs.advL; rw [if_pos eC1]
  have eS1 : s.adv low = { s with mark := low, l := s.l.dropWhile (atM low) } := by unfold Gs.adv; rw [if_pos eC1]
  have eC4 : s.advC high = 0 := by unfold Gs.advC; rw [if_neg (by rw [hcl]; decide), if_neg (by omega), if_neg (by omega)]
  have eS4 : s.adv high = { s with mark := high, l := s.l.dropWhile (atM high) } := by unfold Gs.adv; rw [if_pos eC4]
  have eL4 : s.advL high = s.l.takeWhile (atM high) := by unfold Gs.advL; rw [if_pos eC4]
  obtain ⟨n1, n2⟩ := none_at (l := s.l.dropWhile (atM low)) (m := low) (drop_at hr)
  obtain ⟨m1, m2⟩ := takeD (atM_mono v2) s.l
  have eC2 : Gs.advC { s with mark := low, l := s.l.dropWhile (atM low) } low = 0 := by unfold Gs.advC; rw [if_neg (by simp [hcl]), if_neg (by omega), if_neg (by simp)]
  have eC3 : Gs.advC { s with mark := low, l := s.l.dropWhile (atM low) } high = 0 := by unfold Gs.advC; rw [if_neg (by simp [hcl]), if_neg (by omega), if_neg (by show ¬ high < low; omega)]
  rw [eS1, eS4, eL1, eL4]
  refine ⟨eC1, rfl, eC2, ?_, ?_, eC3, eC4, ?_, ?_, rfl⟩
  · unfold Gs.advL; rw [if_pos eC2]; exact n1
  · unfold Gs.adv; rw [if_pos eC2]; simp only [n2]
  · unfold Gs.advL; rw [if_pos eC3]; exact m1.symm
  · unfold Gs.adv; rw [if_pos eC3]; simp only [m2]
theorem small_room {n : Nat} (h : n ≤ 4096) : (n + n / 4 + 192) * 88 ≤ 281474976710656 := by
  have h1 : n / 4 ≤ 4096 := Nat.le_trans (Nat.div_le_self _ _) h
  refine Nat.le_trans (Nat.mul_le_mul_right 88 (show n + n / 4 + 192 ≤ 4096 + 4096 + 192 from Nat.add_le_add_right (Nat.add_le_add h h1) _)) (by decide)
/-- At the round i. -/
structure Rnd (N : Nat) (w : World) (n g h : Nat) (v : Prop) (low : Int) (vi : Value) (wr : World) : Prop where
  ex : ∃ (i t : Nat) (S R : Nat → Prop) (s : Gs), i ≤ n ∧ vi = .int .i64 (i : Int) ∧ t ≤ 2 * i + 2 ∧ Gt2 N wr g h S R s s t ∧ Jst v low s ∧ Below N w wr
set_option maxRecDepth 100000 in
set_option maxHeartbeats 8000000 in
theorem walk (ao : Option Addr) (ca : Nat) (l : List Ev) (low : Int) (hlow : (Lit.int .i64 low).wf = true) (high : Int) (hhigh : (Lit.int .i64 high).wf = true) (w : World) (hsl : Sl ao l.length ca) (F : Flat w ao (fl evC l)) (hl : l.length * 88 ≤ 140737488351232) (ok : ∀ k, (l.getD k zeroE).ok) : Calls Try.prog 5 #[.slice ao l.length ca, .int .i64 low, .int .i64 high] w fun e w' => e = .returned (.bool true) ∧ Below w.heap.size w w' := by
  clear hsl
  have wl := wfI7 hlow
  clear hlow hhigh
  have cN1 := fun u : World => new_yes (cap := 4096) (by omega) (by omega) u
  have hptr : ∀ (b : Nat) (W : World), (binOp .eql 22 (.pointer (some ⟨b, 0, none⟩)) (.pointer none)).run Try.prog W = .ok (.bool false) W := fun b W => by kernel_rfl
  have fok : okN low 3 := ⟨wl.1, wl.2, by omega, by omega⟩
  go_enter Try.func5, Try.ntmps5
  go_upto_region 5 with (first
    | (go_at_call 9; (with_reducible refine (cN1 w).mono ?_); rintro e u1 ⟨g, S0, rfl, G1, Sg, Slo, g1⟩)
    | (go_at_call 9; (with_reducible refine (cN1 u1).mono ?_); rintro e u2 ⟨h, R0, rfl, H2, Rh, Rlo, g2⟩; have T2 : Gt2 w.heap.size u2 g h S0 R0 ⟨4096, -1152921504606846977, false, []⟩ ⟨4096, -1152921504606846977, false, []⟩ 0 := ⟨G1.keep g2, H2, fun k e1 e2 => by have := G1.lt k e1; have := Rlo k e2; omega, Slo, fun k e => Nat.le_trans g1.size (Rlo k e)⟩; have B2 := gtrans g1 g2))
  clear cN1 hptr
  have sx := ev_one1 (mkE low 3)
  have hbE := fun W : World => buildE2 low 3 W
  have bz := Bk.new u2 zAg 30
  have th := bz.there
  have b7 := bz.setCells (cs' := evC (mkE low 3)) rfl
  have G8 := gsetCells (galloc (Below.refl u2.heap.size u2) (.cells zAg 30)) (Nat.le_refl _) (evC (mkE low 3)).toList 0
  have hwb : ∀ {ops : Array Oper} {rest : List Oper} {op : Oper} {a : Act} {Q : Exit → Act → World → Prop} {W : World} (x : Operand) (y : Operand), op.guard = none → op.op = .build 30 #[(0, x), (1, y)] → a.eval x = .int .i64 low → a.eval y = .int .u64 3 → wpList Try.prog ops Q rest (a.put op.dst (.agg (evC (mkE low 3)))) W → wpList Try.prog ops Q (op :: rest) a W := fun x y h1 h2 h3 h4 h5 => wpList_plain h1 fun K hK => by
    unfold Oper.wp execOp
    simp only [h2, List.map_toArray, List.map_cons, List.map_nil, h3, h4, Sem.run_bind, hbE, Result.andThen_ok, Sem.run_pure]
    exact hK _ _ h5
  generalize hX3 : (u2.alloc (.cells zAg 30)).setCells u2.heap.size 0 (evC (mkE low 3)).toList = X3 at *
  have T3 := T2.keep G8
  have B3 := gtrans B2 G8
  clear bz hbE
  go_upto_region 6 with (first
    | (refine hwb (.tmp 44) (.const (.int .u64 3)) rfl rfl rfl rfl ?_)
    | (refine wpList_store_mid rfl 30 _ _ rfl u2.heap.size 0 (evC (mkE low 3)) rfl rfl th infoEv sx ?_; rw [hX3]))
  go_frame
  clear hwb hX3 th sx T2 B2 G8 G1 H2 Sg Slo Rh Rlo g1 g2
  by_cases hv : -1152921504606846976 ≤ low ∧ low ≤ high ∧ high ≤ 1152921504606846976
  · obtain ⟨v1, v2, v3⟩ := id hv
    have HVV : Hid (-1152921504606846976 ≤ low ∧ low ≤ high ∧ high ≤ 1152921504606846976) := hv
    clear hv
    have hC0 : Gs.pushC ⟨4096, -1152921504606846977, false, []⟩ (mkE low 3) = 0 := by
      unfold Gs.pushC
      rw [if_neg (by simp), if_neg (by simp only [mkE]; omega), if_neg (by simp only [mkE]; omega), if_neg (by simp [hasN]), if_neg (by simp)]
    have hP0 : Gs.push ⟨4096, -1152921504606846977, false, []⟩ (mkE low 3) = ⟨4096, -1152921504606846977, false, [mkE low 3]⟩ := by unfold Gs.push; rw [if_pos hC0]; rfl
    have r7 := b7.range
    have c3 := push_any g 0 S0 _ (mkE low 3) X3 T3.G (mkE_ok fok) (by omega)
    rw [hC0, hP0] at c3
    go_upto_region 9 with (first
      | (refine wpList_load_midw rfl 30 _ rfl u2.heap.size 0 rfl (evC (mkE low 3)) _ r7 Try.underlying30 rfl infoEv ?_)
      | (refine wpList_load_midw rfl 30 _ rfl u2.heap.size 0 rfl (evC (mkE low 3)) _ r8 Try.underlying30 rfl infoEv ?_)
      | (go_at_call 10; (with_reducible refine c3.mono ?_); rintro e u3 ⟨rfl, P3⟩; obtain ⟨S1, T4, F3⟩ := T3.step B3.size P3 (Nat.zero_le _); have B4 := F3.toBelow B3 (Nat.le_refl _) T3.lo; have r8 := (F3.loc T3.G b7 (by decide) (by decide) (by decide)).range; have c4 := push_any h 1 R0 _ (mkE low 3) u3 T4.H (mkE_ok fok) (by omega); rw [hC0, hP0] at c4)
      | (go_at_call 10; (with_reducible refine c4.mono ?_); rintro e u4 ⟨rfl, P4⟩; obtain ⟨R1, T5, F4⟩ := T4.stepR B4.size P4 (Nat.le_succ _); have B5 := F4.toBelow B4 (Nat.le_refl _) T4.lo'))
    have J5 : Jst (-1152921504606846976 ≤ low ∧ low ≤ high ∧ high ≤ 1152921504606846976) low ⟨4096, -1152921504606846977, false, [mkE low 3]⟩ := ⟨rfl, rfl, fun _ => by simp [hasN, mkE]⟩
    clear c3 c4 P3 P4 F3 F4 T3 B3 r7 r8 b7 hC0 hP0 T4 B4 fok
    go_loopw [12] (fun vi wr => Rnd w.heap.size w l.length g h (-1152921504606846976 ≤ low ∧ low ≤ high ∧ high ≤ 1152921504606846976) low vi wr) (fun vi _ => l.length - (intOf vi).toNat)
    case atStart => exact ⟨0, 2, _, _, _, Nat.zero_le _, rfl, by omega, T5, J5, B5⟩
    case round =>
      obtain ⟨i, t, S, R, s, hi, rfl, ht, T, J, B⟩ := hrel
      by_cases hlt : i < l.length
      · obtain ⟨gl, o, rfl, hgl, _⟩ := (F.keep B).form (by rw [fl_len ev_size]; omega)
        have xok : (l.getD i zeroE).ok := ok i
        have rx0 : ∀ Y, Below w.heap.size w Y → Y.rangeAt gl (o + i * 11) (evC (l.getD i zeroE)).toList := fun Y G => flat_range ev_size zeroE (F.keep G) i hlt
        generalize l.getD i zeroE = x at *
        have hSn : ∀ Y, Below w.heap.size w Y → Y.cell? ⟨gl, o + i * 11, none⟩ = some (.int .i64 x.ts) ∧ Y.cell? ⟨gl, o + i * 11 + 1, none⟩ = some (.int .u64 x.id) ∧ Y.cell? ⟨gl, o + i * 11 + 2, none⟩ = some (.int .i64 x.typ) ∧ Y.cell? ⟨gl, o + i * 11 + 3, none⟩ = some (.int .i64 x.a0) ∧ Y.cell? ⟨gl, o + i * 11 + 4, none⟩ = some (.int .i64 x.a1) ∧ Y.cell? ⟨gl, o + i * 11 + 5, none⟩ = some (.int .i64 x.a2) ∧ Y.cell? ⟨gl, o + i * 11 + 6, none⟩ = some (.int .i64 x.a3) ∧ Y.cell? ⟨gl, o + i * 11 + 7, none⟩ = some (.int .i64 x.a4) ∧ Y.cell? ⟨gl, o + i * 11 + 8, none⟩ = some (.int .i64 x.a5) ∧ Y.cell? ⟨gl, o + i * 11 + 9, none⟩ = some (.int .i64 x.a6) ∧ Y.cell? ⟨gl, o + i * 11 + 10, none⟩ = some (.int .i64 x.a7) := fun Y G => ⟨by have := rx0 Y G 0 _ rfl; simpa using this, rx0 Y G 1 _ rfl, rx0 Y G 2 _ rfl, rx0 Y G 3 _ rfl, rx0 Y G 4 _ rfl, rx0 Y G 5 _ rfl, rx0 Y G 6 _ rfl, rx0 Y G 7 _ rfl, rx0 Y G 8 _ rfl, rx0 Y G 9 _ rfl, rx0 Y G 10 _ rfl⟩
        have q1 : (i : Int) < (l.length : Int) := by omega
        have HT : Hid (i < l.length) := hlt
        have Gd := (Below.refl wr.heap.size wr).drew
        have TD := T.keep Gd
        have BD : Below w.heap.size w wr.drew := gtrans B Gd
        have hS0 := hSn _ BD
        have c5 : Calls Try.prog 10 #[.pointer (some ⟨g, 0, none⟩), .agg #[.int .i64 x.ts, .int .u64 x.id, .int .i64 x.typ, .int .i64 x.a0, .int .i64 x.a1, .int .i64 x.a2, .int .i64 x.a3, .int .i64 x.a4, .int .i64 x.a5, .int .i64 x.a6, .int .i64 x.a7]] wr.drew fun e w' => e = .returned (.int .i64 (s.pushC x)) ∧ GStep g S wr.drew w' (s.push x) (t + 1) := push_any g t S s x wr.drew TD.G xok (by omega)
        have J2 := J.push x
        have hc6 : ∀ (Y : World) (S5 : Nat → Prop), Gt2 w.heap.size Y g h S5 R (s.push x) s (t + 1) → Calls Try.prog 10 #[.pointer (some ⟨h, 0, none⟩), .agg #[.int .i64 x.ts, .int .u64 x.id, .int .i64 x.typ, .int .i64 x.a0, .int .i64 x.a1, .int .i64 x.a2, .int .i64 x.a3, .int .i64 x.a4, .int .i64 x.a5, .int .i64 x.a6, .int .i64 x.a7]] Y fun e w' => e = .returned (.int .i64 (s.pushC x)) ∧ GStep h R Y w' (s.push x) (t + 2) := fun Y S5 T5 => push_any h (t + 1) R s x Y T5.H xok (by omega)
        generalize s.pushC x = cc at *
        clear hlt rx0
        go_upto_region 11 with fail
        go_region_held3 (fun Y : World => Y.cell? ⟨gl, o + i * 11, none⟩ = some (.int .i64 x.ts) ∧ Y.cell? ⟨gl, o + i * 11 + 1, none⟩ = some (.int .u64 x.id) ∧ Y.cell? ⟨gl, o + i * 11 + 2, none⟩ = some (.int .i64 x.typ) ∧ Y.cell? ⟨gl, o + i * 11 + 3, none⟩ = some (.int .i64 x.a0) ∧ Y.cell? ⟨gl, o + i * 11 + 4, none⟩ = some (.int .i64 x.a1) ∧ Y.cell? ⟨gl, o + i * 11 + 5, none⟩ = some (.int .i64 x.a2) ∧ Y.cell? ⟨gl, o + i * 11 + 6, none⟩ = some (.int .i64 x.a3) ∧ Y.cell? ⟨gl, o + i * 11 + 7, none⟩ = some (.int .i64 x.a4) ∧ Y.cell? ⟨gl, o + i * 11 + 8, none⟩ = some (.int .i64 x.a5) ∧ Y.cell? ⟨gl, o + i * 11 + 9, none⟩ = some (.int .i64 x.a6) ∧ Y.cell? ⟨gl, o + i * 11 + 10, none⟩ = some (.int .i64 x.a7)) (first | (with_reducible exact hS0) | (with_reducible exact hS1) | (with_reducible exact hS2) | go_keep) (first
          | (go_at_call 10; (with_reducible refine c5.mono ?_); rintro _ u5 ⟨rfl, P5⟩; obtain ⟨S5, T5, F5⟩ := TD.step BD.size P5 (Nat.le_succ _); have B5 := F5.toBelow BD (Nat.le_refl _) TD.lo; have hS1 := hSn _ B5; have c6 := hc6 u5 S5 T5)
          | (go_at_call 10; (with_reducible refine c6.mono ?_); rintro _ u6 ⟨rfl, P6⟩; obtain ⟨R6, T6, F6⟩ := T5.stepR B5.size P6 (Nat.le_succ _); have B6 := F6.toBelow B5 (Nat.le_refl _) T5.lo'; have hS2 := hSn _ B6))
        all_goals
          go_wp2
          go_roundw
          case rel => have hlt : i < l.length := HT; exact ⟨i + 1, t + 2, S5, R6, _, by omega, by go_num, by omega, T6, J2, B6⟩
          case measure => have hlt : i < l.length := HT; simp [intOf]; omega
      · have hki : ¬ (i : Int) < (l.length : Int) := by omega
        clear hlt
        have hmk := J.mrk
        have hcl := J.cl
        have hfst := first_in T.G.1.ris (J.has HVV.out)
        obtain ⟨eC1, eL1, eC2, eL2, eS2, eC3, eC4, eL4, eS4, eM⟩ := two_marks (s := s) (low := low) (high := high) T.G.1.ris hcl hmk v1 v2 v3
        have hl1 := Gs.advL_len T.G.1 low
        have hl4 := Gs.advL_len T.G.1 high
        rw [← eL1] at hfst
        have hlen4 : (s.advL low).length + ((s.adv low).advL high).length = (s.advL high).length := by rw [← eL4, List.length_append]
        have c1 := adv_any g t S s low wr T.G
        rw [eC1] at c1
        have sok1 := Gs.adv_ok T.G.1 low
        have sok4 := Gs.adv_ok T.G.1 high
        have HE4 : Hid ((s.advL low).length + ((s.adv low).advL high).length = (s.advL high).length) := hlen4
        have hlen5 : (s.advL low).length + ((s.adv low).advL high).length ≤ 4096 := by omega
        clear hlen4
        have HL4 : Hid (s.advL low ++ (s.adv low).advL high = s.advL high) := eL4
        have cc2 : ∀ (Y : World) (S' : Nat → Prop), Gat Y g S' (s.adv low) t → Calls Try.prog 12 #[.pointer (some ⟨g, 0, none⟩), .int .i64 low] Y fun e w' => ∃ ao cap, e = .returned (.tuple #[.slice ao ([] : List Ev).length cap, .int .i64 0]) ∧ TellP g S' Y (s.adv low) t [] ao cap w' := fun Y S' G => by
          have := adv_any g t S' (s.adv low) low Y G
          rw [eC2, eL2, eS2] at this
          exact this
        have cc3 : ∀ (Y : World) (S' : Nat → Prop), Gat Y g S' (s.adv low) t → Calls Try.prog 12 #[.pointer (some ⟨g, 0, none⟩), .int .i64 high] Y fun e w' => ∃ ao cap, e = .returned (.tuple #[.slice ao ((s.adv low).advL high).length cap, .int .i64 0]) ∧ TellP g S' Y (s.adv high) t ((s.adv low).advL high) ao cap w' := fun Y S' G => by
          have := adv_any g t S' (s.adv low) high Y G
          rw [eC3, eS4] at this
          exact this
        have cc4 : ∀ (Y : World) (R' : Nat → Prop), Gat Y h R' s t → Calls Try.prog 12 #[.pointer (some ⟨h, 0, none⟩), .int .i64 high] Y fun e w' => ∃ ao cap, e = .returned (.tuple #[.slice ao (s.advL high).length cap, .int .i64 0]) ∧ TellP h R' Y (s.adv high) t (s.advL high) ao cap w' := fun Y R' G => by
          have := adv_any h t R' s high Y G
          rw [eC4] at this
          exact this
        generalize s.advL low = l1 at *
        generalize (s.adv low).advL high = l3 at *
        generalize s.advL high = l4 at *
        generalize s.adv low = s1 at *
        generalize s.adv high = s4 at *
        obtain ⟨mm, emm⟩ : ∃ mm, s4.mark = mm := ⟨_, rfl⟩
        rw [emm] at eM
        subst eM
        clear eC1 eL1 eC2 eL2 eS2 eC3 eC4 eL4 eS4 hmk hcl J
        go_upto_region 16 with (first
          | (go_at_call 12; (with_reducible refine c1.mono ?_); rintro e u5 ⟨a5, cp5, rfl, P5⟩))
        obtain ⟨S5, T5, F5⟩ := T.step B.size P5.step (Nat.le_refl _)
        have B5 := F5.toBelow B (Nat.le_refl _) T.lo
        have c2 := cc2 u5 S5 T5.G
        clear c1 cc2
        go_upto_region 17 with (first
          | (go_at_call 12; (with_reducible refine c2.mono ?_); rintro e u6 ⟨a6, cp6, rfl, P6⟩))
        obtain ⟨S6, T6, F6⟩ := T5.step B5.size P6.step (Nat.le_refl _)
        have B6 := F6.toBelow B5 (Nat.le_refl _) T5.lo
        have O56 := F6.own T5.G P5.own (by decide) (by decide) (by decide)
        have c3 := cc3 u6 S6 T6.G
        clear c2 cc3
        go_upto_region 18 with (first
          | (go_at_call 12; (with_reducible refine c3.mono ?_); rintro e u7 ⟨a7, cp7, rfl, P7⟩))
        obtain ⟨S7, T7, F7⟩ := T6.step B6.size P7.step (Nat.le_refl _)
        have B7 := F7.toBelow B6 (Nat.le_refl _) T6.lo
        have O57 := F7.own T6.G O56 (by decide) (by decide) (by decide)
        have c4 := cc4 u7 R T7.H
        clear c3 cc4
        go_upto_region 19 with (first
          | (go_at_call 12; (with_reducible refine c4.mono ?_); rintro e u8 ⟨a8, cp8, rfl, P8⟩))
        obtain ⟨R8, T8, F8⟩ := T7.stepR B7.size P8.step (Nat.le_refl _)
        have B8 := F8.toBelow B7 (Nat.le_refl _) T7.lo'
        have O58 := F8.own T7.H O57 (by decide) (by decide) (by decide)
        have O78 := F8.own T7.H P7.own (by decide) (by decide) (by decide)
        have O88 := P8.own
        have cm := mark_any g t S7 s4 u8 T8.G
        rw [emm] at cm
        have hfst' : ((l1.length : Int) == 0) = false := beq_eq_false_iff_ne.2 (by omega)
        have F1 := own_flat O58
        have Z1 := own_sl O58
        have hb1 : Hid (((0 + l1.length) + (0 + l1.length) / 4 + 192) * 88 ≤ 281474976710656) := small_room (by omega)
        have hb2 : Hid (((l1.length + l3.length) + (l1.length + l3.length) / 4 + 192) * 88 ≤ 281474976710656) := small_room (by omega)
        have hb3 : Hid (0 + l1.length ≤ 9223372036854775807) := by unfold Hid; omega
        have hb4 : Hid (l1.length + l3.length ≤ 9223372036854775807) := by unfold Hid; omega
        have B88 := B8.size
        clear c4 P5 P6 P7 P8 F5 F6 F7 F8 T5 T6 T7 O56 O57 B5 B6 B7 hfst
        go_upto_region 24 with (first
          | (go_at_call 18; (with_reducible refine cm.mono ?_); rintro e u9 ⟨rfl, hu9⟩; have hu9' := hu9.symm; subst hu9')
          | (at_builtin; refine wpList_append_flatw rfl (.tmp 153) (.tmp 154) rfl Try.underlying36 nfEv rfl (by decide) (.slice none 0 0) u8.heap.size 0 [] rfl (World.ownsRow_nil _ _ _ _) (Nat.le_refl _) a5 l1.length cp5 (fl evC l1) rfl Z1 F1 (fl_len ev_size l1) (fl_one ev_ones1 l1) hb1.out hb3.out ?_; intro v9 w9 O9 Q9; rw [Nat.zero_add, List.nil_append] at O9; obtain ⟨a9, cp9, rfl, _⟩ := own_form O9; have G9 : Below u8.heap.size u8 w9 := (Below.refl _ _).grown Q9 (Nat.le_refl _) (fun k e => by simp [Value.ownBlock] at e); have F3 := (own_flat O78).keep G9; have Z3 := own_sl O78; have hz9 := G9.size)
          | (at_builtin; refine wpList_append_flatw rfl (.tmp 156) (.tmp 157) rfl Try.underlying36 nfEv rfl (by decide) (.slice a9 l1.length cp9) u8.heap.size l1.length _ rfl O9 hz9 a7 l3.length cp7 (fl evC l3) rfl Z3 F3 (fl_len ev_size l3) (fl_one ev_ones1 l3) hb2.out hb4.out ?_; intro v10 w10 O10 Q10; obtain ⟨a10, cp10, rfl, _⟩ := own_form O10; have G10 : Below u8.heap.size u8 w10 := G9.grown Q10 hz9 (fun k e => (World.ownsRow.lt O9 k e).1)))
        have hlen4 := HE4.out
        have O11 : w10.ownsRow u8.heap.size 30 11 (.slice a10 l4.length cp10) l4.length (fl evC l4) := by
          have := O10
          rw [← fl_app, HL4.out, hlen4] at this
          exact this
        rw [hlen4]
        have TF := T8.keep G10
        have c10 := sameEvents_true a10 a8 cp10 cp8 l4 w10 (own_flat O11) ((own_flat O88).keep G10) (by omega)
        have hll := TF.G.1.len'
        clear O9 O10 hb1 hb2 hb3 hb4
        go_wp2_with (first
          | (go_at_call 15; (with_reducible refine c10.mono ?_); rintro _ u11 ⟨rfl, g11⟩; have ch1 := held_any g t S7 s4 u11 (TF.G.keep g11))
          | (go_at_call 19; (with_reducible refine ch1.mono ?_); rintro _ u12 ⟨z12, rfl, O12, g12⟩; have ch2 := held_any h t R8 s4 u12 ((TF.H.keep g11).keep g12))
          | (go_at_call 19; (with_reducible refine ch2.mono ?_); rintro _ u13 ⟨z13, rfl, O13, g13⟩; have c14 := sameEvents_true (some ⟨z12, 0, none⟩) (some ⟨z13, 0, none⟩) s4.l.length s4.l.length s4.l u13 (own_flat (own_keep O12 g13)) (own_flat O13) (by omega))
          | (go_at_call 15; (with_reducible refine c14.mono ?_); rintro _ u14 ⟨rfl, g14⟩))
        go_ret
        exact ⟨rfl, gtrans (gtrans (gtrans (gtrans (gtrans B8 G10) g11) g12) g13) g14⟩
  · have hv3 : low < -1152921504606846976 ∨ (-1152921504606846976 ≤ low ∧ high < low) ∨ (-1152921504606846976 ≤ low ∧ low ≤ high ∧ 1152921504606846976 < high) := by omega
    clear hv b7
    have J3 : Jst False low ⟨4096, -1152921504606846977, false, []⟩ := ⟨rfl, rfl, fun e => e.elim⟩
    have step := fun (A : Prop) => A
    rcases hv3 with hv | ⟨hv, hv2⟩ | ⟨hv, hv2, hv4⟩
    all_goals
      go_upto_region 9 with fail
      go_loopw [12] (fun vi wr => Rnd w.heap.size w l.length g h (False) low vi wr) (fun vi _ => l.length - (intOf vi).toNat)
      case atStart => exact ⟨0, 0, _, _, _, Nat.zero_le _, rfl, by omega, T3, J3, B3⟩
      case round =>
        obtain ⟨i, t, S, R, s, hi, rfl, ht, T, J, B⟩ := hrel
        by_cases hlt : i < l.length
        · obtain ⟨gl, o, rfl, hgl, _⟩ := (F.keep B).form (by rw [fl_len ev_size]; omega)
          have xok : (l.getD i zeroE).ok := ok i
          have rx0 : ∀ Y, Below w.heap.size w Y → Y.rangeAt gl (o + i * 11) (evC (l.getD i zeroE)).toList := fun Y G => flat_range ev_size zeroE (F.keep G) i hlt
          generalize l.getD i zeroE = x at *
          have hSn : ∀ Y, Below w.heap.size w Y → Y.cell? ⟨gl, o + i * 11, none⟩ = some (.int .i64 x.ts) ∧ Y.cell? ⟨gl, o + i * 11 + 1, none⟩ = some (.int .u64 x.id) ∧ Y.cell? ⟨gl, o + i * 11 + 2, none⟩ = some (.int .i64 x.typ) ∧ Y.cell? ⟨gl, o + i * 11 + 3, none⟩ = some (.int .i64 x.a0) ∧ Y.cell? ⟨gl, o + i * 11 + 4, none⟩ = some (.int .i64 x.a1) ∧ Y.cell? ⟨gl, o + i * 11 + 5, none⟩ = some (.int .i64 x.a2) ∧ Y.cell? ⟨gl, o + i * 11 + 6, none⟩ = some (.int .i64 x.a3) ∧ Y.cell? ⟨gl, o + i * 11 + 7, none⟩ = some (.int .i64 x.a4) ∧ Y.cell? ⟨gl, o + i * 11 + 8, none⟩ = some (.int .i64 x.a5) ∧ Y.cell? ⟨gl, o + i * 11 + 9, none⟩ = some (.int .i64 x.a6) ∧ Y.cell? ⟨gl, o + i * 11 + 10, none⟩ = some (.int .i64 x.a7) := fun Y G => ⟨by have := rx0 Y G 0 _ rfl; simpa using this, rx0 Y G 1 _ rfl, rx0 Y G 2 _ rfl, rx0 Y G 3 _ rfl, rx0 Y G 4 _ rfl, rx0 Y G 5 _ rfl, rx0 Y G 6 _ rfl, rx0 Y G 7 _ rfl, rx0 Y G 8 _ rfl, rx0 Y G 9 _ rfl, rx0 Y G 10 _ rfl⟩
          have q1 : (i : Int) < (l.length : Int) := by omega
          have HT : Hid (i < l.length) := hlt
          have Gd := (Below.refl wr.heap.size wr).drew
          have TD := T.keep Gd
          have BD : Below w.heap.size w wr.drew := gtrans B Gd
          have hS0 := hSn _ BD
          have c5 : Calls Try.prog 10 #[.pointer (some ⟨g, 0, none⟩), .agg #[.int .i64 x.ts, .int .u64 x.id, .int .i64 x.typ, .int .i64 x.a0, .int .i64 x.a1, .int .i64 x.a2, .int .i64 x.a3, .int .i64 x.a4, .int .i64 x.a5, .int .i64 x.a6, .int .i64 x.a7]] wr.drew fun e w' => e = .returned (.int .i64 (s.pushC x)) ∧ GStep g S wr.drew w' (s.push x) (t + 1) := push_any g t S s x wr.drew TD.G xok (by omega)
          have J2 := J.push x
          have hc6 : ∀ (Y : World) (S5 : Nat → Prop), Gt2 w.heap.size Y g h S5 R (s.push x) s (t + 1) → Calls Try.prog 10 #[.pointer (some ⟨h, 0, none⟩), .agg #[.int .i64 x.ts, .int .u64 x.id, .int .i64 x.typ, .int .i64 x.a0, .int .i64 x.a1, .int .i64 x.a2, .int .i64 x.a3, .int .i64 x.a4, .int .i64 x.a5, .int .i64 x.a6, .int .i64 x.a7]] Y fun e w' => e = .returned (.int .i64 (s.pushC x)) ∧ GStep h R Y w' (s.push x) (t + 2) := fun Y S5 T5 => push_any h (t + 1) R s x Y T5.H xok (by omega)
          generalize s.pushC x = cc at *
          clear hlt rx0
          go_upto_region 11 with fail
          go_region_held3 (fun Y : World => Y.cell? ⟨gl, o + i * 11, none⟩ = some (.int .i64 x.ts) ∧ Y.cell? ⟨gl, o + i * 11 + 1, none⟩ = some (.int .u64 x.id) ∧ Y.cell? ⟨gl, o + i * 11 + 2, none⟩ = some (.int .i64 x.typ) ∧ Y.cell? ⟨gl, o + i * 11 + 3, none⟩ = some (.int .i64 x.a0) ∧ Y.cell? ⟨gl, o + i * 11 + 4, none⟩ = some (.int .i64 x.a1) ∧ Y.cell? ⟨gl, o + i * 11 + 5, none⟩ = some (.int .i64 x.a2) ∧ Y.cell? ⟨gl, o + i * 11 + 6, none⟩ = some (.int .i64 x.a3) ∧ Y.cell? ⟨gl, o + i * 11 + 7, none⟩ = some (.int .i64 x.a4) ∧ Y.cell? ⟨gl, o + i * 11 + 8, none⟩ = some (.int .i64 x.a5) ∧ Y.cell? ⟨gl, o + i * 11 + 9, none⟩ = some (.int .i64 x.a6) ∧ Y.cell? ⟨gl, o + i * 11 + 10, none⟩ = some (.int .i64 x.a7)) (first | (with_reducible exact hS0) | (with_reducible exact hS1) | (with_reducible exact hS2) | go_keep) (first
            | (go_at_call 10; (with_reducible refine c5.mono ?_); rintro _ u5 ⟨rfl, P5⟩; obtain ⟨S5, T5, F5⟩ := TD.step BD.size P5 (Nat.le_succ _); have B5 := F5.toBelow BD (Nat.le_refl _) TD.lo; have hS1 := hSn _ B5; have c6 := hc6 u5 S5 T5)
            | (go_at_call 10; (with_reducible refine c6.mono ?_); rintro _ u6 ⟨rfl, P6⟩; obtain ⟨R6, T6, F6⟩ := T5.stepR B5.size P6 (Nat.le_succ _); have B6 := F6.toBelow B5 (Nat.le_refl _) T5.lo'; have hS2 := hSn _ B6))
          all_goals
            go_wp2
            go_roundw
            case rel => have hlt : i < l.length := HT; exact ⟨i + 1, t + 2, S5, R6, _, by omega, by go_num, by omega, T6, J2, B6⟩
            case measure => have hlt : i < l.length := HT; simp [intOf]; omega
        · have hki : ¬ (i : Int) < (l.length : Int) := by omega
          clear hlt
          go_wp2
          go_ret
          exact ⟨rfl, B⟩

theorem own : ownKnob Try.prog.godebug = none := by kernel_rfl
theorem laidOut : laidOutB Try.prog = true := by kernel_rfl

set_option maxRecDepth 100000 in
theorem lifted (os : Os) (started : os.Started) (H : Type) (enc : TypeId × Value → H) :
    ReturnsInHanded {} Try.checked os 5 .any (Rows.gateJoinsSpec.pre6 enc Try.prog Try.f5 Rows.gateJoinsRow.domain false) (Rows.gateJoinsSpec.post enc Try.prog Try.f5 false true false false) := by
  refine returnsInHanded_of_change_sized (C := Try.checked) own started (by kernel_rfl) Try.func5
    (ChangeSpec.witness6 (enc := enc) (C := Try.checked) false ⟨#[], #[.slice none 0 0, .int .i64 0, .int .i64 0], []⟩ 8 (by kernel_rfl) (by kernel_rfl) (by kernel_rfl) (by kernel_rfl)) ?_
  intro W base args ds gs before hval0 hW hcnd hsz0 _
  have hsz : (DataW.weightsEach Try.prog (Try.f5.params.toList ++ Rows.gateJoinsSpec.plain.varTypes Try.prog) (ds ++ gs)).all (· ≤ reachBytes) = true := hsz0
  have hval : ∀ (j : Nat) t v, Try.f5.params[j]? = some t → args[j]? = some v → Value.okWide Try.prog W .any base t v := hval0
  have hW' := hW
  obtain ⟨p, q, hA0, hV, rfl, hfz, hnd⟩ := hW
  have hA : DataW.TrodAll enc Try.prog W 0 (fun _ => true) true Try.f5.params.toList args.toList ds p := hA0
  rw [Try.params5] at hA hval hsz
  obtain ⟨v0, vs0, d0, ds0, p0, q0, hargs, rfl, rfl, h0, r0⟩ := trodAll_cons hA
  obtain ⟨v1, vs1, d1, ds1, p1, q1, rfl, rfl, rfl, h1, r1⟩ := trodAll_cons r0
  obtain ⟨v2, vs2, d2, ds2, p2, q2, rfl, rfl, rfl, h2, r2⟩ := trodAll_cons r1
  obtain ⟨rfl, rfl, rfl⟩ := trodAll_nil r2
  obtain rfl : args = #[v0, v1, v2] := by cases args; simp_all
  obtain ⟨rfl, rfl⟩ := trodVars_none hV
  have k0 := h0
  have lt0 : ∀ x ∈ p0, x.block < W.heap.size := by obtain ⟨m, hm⟩ := k0; exact DataW.trod_lt m _ _ _ hm
  obtain ⟨ao0, cap0, l0, e0, wc0, w0, wr0, ws0⟩ : ∃ ao cap l, v0 = .slice ao (l : List Ev).length cap ∧ Sl ao l.length cap ∧ Flat W ao (fl evC l) ∧ l.length * 88 ≤ 140737488351232 ∧ ∀ k, (l.getD k zeroE).ok := by
    obtain ⟨a, len, cap, e⟩ := okWide_slice Try.underlying36 (hval 0 36 v0 rfl rfl)
    subst e
    obtain ⟨fuel, hf⟩ := h0
    have hf' : DataW.trod enc Try.prog W 0 (fun _ => true) true fuel 36 [.slice a len cap] = some (d0, p0) := hf
    exact open_evrow hf' (fun b hb => by
      have h1 := List.all_eq_true.1 hsz b (DataW.weights_mem_each (j := 0) (t := 36) rfl rfl b hb)
      simpa using h1)
  subst e0
  have k1 := h1
  have lt1 : ∀ x ∈ p1, x.block < W.heap.size := by obtain ⟨m, hm⟩ := k1; exact DataW.trod_lt m _ _ _ hm
  obtain ⟨a1, e1, _, _, w1⟩ := open_int Try.underlying2 (hval 1 2 v1 rfl rfl) h1
  subst e1
  have k2 := h2
  have lt2 : ∀ x ∈ p2, x.block < W.heap.size := by obtain ⟨m, hm⟩ := k2; exact DataW.trod_lt m _ _ _ hm
  obtain ⟨a2, e2, _, _, w2⟩ := open_int Try.underlying2 (hval 2 2 v2 rfl rfl) h2
  subst e2
  clear hA0 hval0
  refine (walk ao0 cap0 l0 a1 w1 a2 w2 W wc0 w0 wr0 ws0).mono fun e W' ⟨he, bel⟩ => ?_
  subst he
  exact ⟨_, rfl, _, _, _, [], _, [], hW', trodAll_mk1 (shut_bool Try.underlying4 _), (trodAll_cons_mk (Below.trod laidOut (by kernel_rfl) (of_decide_eq_true (by kernel_rfl)) k0 bel lt0) (trodAll_cons_mk (Below.trod laidOut (by kernel_rfl) (of_decide_eq_true (by kernel_rfl)) k1 bel lt1) (trodAll_cons_mk (Below.trod laidOut (by kernel_rfl) (of_decide_eq_true (by kernel_rfl)) k2 bel lt2) trodAll_mk0))), rfl, bel.frame _, fun h => by cases h⟩

theorem over : Rows.gateJoinsRow.holds Try.pinned (OpenSpec.ofChange Rows.gateJoinsSpec) :=
  OpenClaim.holds_of_wide 5 Try.f5 rfl rfl rfl rfl rfl rfl rfl ⟨rfl, rfl, rfl, rfl, rfl⟩ rfl rfl rfl rfl rfl (by kernel_rfl) Try.func5 (by kernel_rfl)
    (of_decide_eq_true (by kernel_rfl)) (by unfold Func.isWrapper; first | (rw [if_pos (by decide +kernel)]; kernel_rfl) | (rw [if_neg (by decide +kernel)]; exact ⟨rfl, rfl⟩))
    (fun os started H enc _ => lifted os started H enc)

end Go.Proofs.Ytoehkpejdpejcaa.gateJoins
namespace Go.Proofs.Ytoehkpejdpejcaa
theorem gateJoins_holds : Rows.GateJoinsSaid := gateJoins.over
#print axioms gateJoins_holds
end Go.Proofs.Ytoehkpejdpejcaa
