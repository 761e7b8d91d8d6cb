/- The document's Push. -/
import Derived.Test.YtjfbbfmnghccdaaGrb
namespace Go.Proofs.Ytjfbbfmnghccdaa
open Go.RowKit Go.BigFrame Go.Maps
set_option linter.unusedVariables false
set_option linter.unusedSimpArgs false

set_option maxHeartbeats 1000000 in
theorem refBefG_any (x y : Ev) (w : World) :
    Calls Try.prog 81 #[.agg (evC x), .agg (evC y)] w fun e w' => e = .returned (.bool (evLt x y)) ∧ Below w.heap.size w w' := by
  obtain ⟨v, hv⟩ : ∃ v, evLt x y = v := ⟨_, rfl⟩
  rw [hv]
  have HV : Hid (decide (x.ts < y.ts ∨ x.ts = y.ts ∧ x.id < y.id) = v) := hv
  clear hv
  unfold evC
  go_enter Try.func81, Try.ntmps81
  go_wp2
  all_goals
    have hv : decide (x.ts < y.ts ∨ x.ts = y.ts ∧ x.id < y.id) = v := HV
    go_ret
    refine ⟨?_, galloc (galloc (Below.refl _ _) _) _⟩
    subst hv
    refine congrArg (fun b => Ending.returned (Value.bool b)) ?_
    first | exact (decide_eq_true (by omega)).symm | exact (decide_eq_decide.2 (by omega)) | (rw [decide_eq_false (show ¬ x.ts < y.ts by omega), decide_eq_false (by omega)])
def laidB (e : Ev) (l : List Ev) : Bool := l.any (evLt e)
def putI (e : Ev) (l : List Ev) : List Ev := if laidB e l = true then ins evLt e l else l
theorem laidB_snoc (e f : Ev) (l : List Ev) : laidB e (l ++ [f]) = (laidB e l || evLt e f) := by unfold laidB; rw [List.any_append]; simp
theorem ins_laid {e : Ev} (f : Ev) : ∀ {l : List Ev}, laidB e l = true → ins evLt e (l ++ [f]) = ins evLt e l ++ [f]
  | [], h => by cases h
  | y :: l, h => by
    rw [List.cons_append]
    unfold ins
    by_cases hy : evLt e y = true
    · rw [if_pos hy, if_pos hy]; rfl
    · rw [if_neg hy, if_neg hy, ins_laid f (by unfold laidB at *; rw [List.any_cons] at h; simpa [hy] using h)]; rfl
theorem ins_unlaid {e : Ev} : ∀ {l : List Ev} (r : List Ev), laidB e l = false → ins evLt e (l ++ r) = l ++ ins evLt e r
  | [], r, _ => rfl
  | y :: l, r, h => by
    unfold laidB at h
    rw [List.any_cons, Bool.or_eq_false_iff] at h
    rw [List.cons_append]
    rw [show ins evLt e (y :: (l ++ r)) = if evLt e y = true then e :: y :: (l ++ r) else y :: ins evLt e (l ++ r) from rfl]
    rw [if_neg (by rw [h.1]; decide), ins_unlaid r (by unfold laidB; exact h.2)]
    rfl
theorem putI_laid {e f : Ev} {l : List Ev} (h : laidB e l = true) : putI e (l ++ [f]) = putI e l ++ [f] := by
  unfold putI
  rw [laidB_snoc, h, Bool.true_or, if_pos rfl, if_pos rfl, ins_laid f h]
theorem putI_here {e f : Ev} {l : List Ev} (h : laidB e l = false) (hf : evLt e f = true) : putI e (l ++ [f]) = (putI e l ++ [e]) ++ [f] := by
  unfold putI
  rw [laidB_snoc, h, hf, Bool.false_or, if_pos rfl, if_neg (by decide), ins_unlaid [f] h]
  rw [show ins evLt e [f] = if evLt e f = true then [e, f] else f :: ins evLt e [] from rfl, if_pos hf, List.append_assoc]
  rfl
theorem putI_not {e f : Ev} {l : List Ev} (h : laidB e l = false) (hf : evLt e f = false) : putI e (l ++ [f]) = putI e l ++ [f] := by
  unfold putI
  rw [laidB_snoc, h, hf, Bool.false_or, if_neg (by decide), if_neg (by decide)]
theorem putI_end {e : Ev} {l : List Ev} (h : laidB e l = false) : ins evLt e l = putI e l ++ [e] := by
  have := ins_unlaid (e := e) (l := l) [] h
  rw [List.append_nil] at this
  unfold putI
  rw [if_neg (by rw [h]; decide), this]
  rfl
theorem putI_full {e : Ev} {l : List Ev} (h : laidB e l = true) : ins evLt e l = putI e l := by unfold putI; rw [if_pos h]
theorem putI_len (e : Ev) (l : List Ev) : (putI e l).length ≤ l.length + 1 := by
  unfold putI
  split
  · rw [ins_len]; exact Nat.le_refl _
  · omega
theorem hasN_snoc (l : List Ev) (f : Ev) (ts id : Int) : hasN (l ++ [f]) ts id = (hasN l ts id || decide (f.ts = ts ∧ f.id = id)) := by unfold hasN; rw [List.any_append]; simp
/-- At the head of the document's loop. -/
structure Pu2 (V : World) (e : Ev) (l : List Ev) (vl vb vi : Value) (wr : World) : Prop where
  ex : ∃ (i : Nat) (al : Option Addr) (cl : Nat), i ≤ l.length ∧ vi = .int .i64 (i : Int) ∧ hasN (l.take i) e.ts e.id = false ∧ vb = .bool (laidB e (l.take i)) ∧ vl = .slice al (putI e (l.take i)).length cl ∧
    wr.ownsRow V.heap.size 29 11 (.slice al (putI e (l.take i)).length cl) (putI e (l.take i)).length (fl evC (putI e (l.take i))) ∧ Below V.heap.size V wr
/-- What the document's Push leaves. -/
structure PuP (m : Nat) (w : World) (s' : Gs) (w' : World) : Prop where
  mod : Mog w' m s'
  frm : Frm (fun k => k = m) w w'
theorem Mog.ofRow {w wr : World} {m base : Nat} {s : Gs} {l : List Ev} {al : Option Addr} {cl : Nat} {ao : Option Addr} {cp : Nat} (b : Bk wr m #[.int .i64 s.cap, .int .i64 s.mark, .bool s.cl, .slice ao s.l.length cp] 117) (O : wr.ownsRow base 29 11 (.slice al l.length cl) l.length (fl evC l)) (B : Below w.heap.size w wr) : PuP m w { s with l := l } (wr.setCell ⟨m, 3, none⟩ (.slice al l.length cl)) := by
  have O2 := ty_set O b (by decide) 3 (.slice al l.length cl)
  refine ⟨⟨al, cl, b.set 3 _, own_sl O2, own_flat O2, fun b o e => ?_⟩, B.os, B.tape, B.output, by simpa using B.size, fun k hk hn => by rw [Below.heap_setCell _ _ _ k (by exact hn), B.block k hk]⟩
  rcases O2.2 with ⟨h1, _⟩ | ⟨g1, c1, cur1, h1, _, hh1, _⟩
  · simp only [Value.slice.injEq] at h1
    rw [h1.1] at e
    cases e
  · simp only [Value.slice.injEq] at h1
    rw [h1.1] at e
    cases e
    exact ⟨_, _, hh1⟩
set_option maxRecDepth 100000 in
set_option maxHeartbeats 8000000 in
theorem refPushM (mb : Nat) (s : Gs) (e : Ev) (w : World) (M : Mog w mb s) (hs : s.ok) : Calls Try.prog 63 #[.pointer (some ⟨mb, 0, none⟩), .agg (evC e)] w fun r w' => r = .returned (.int .i64 (s.pushC e)) ∧ PuP mb w (s.push e) w' := by
  have hl := hs.len'
  have B0 := galloc (Below.refl w.heap.size w) (.cells (evC e) 29)
  have b3 := Bk.new w (evC e) 29
  have hz0 : (w.alloc (.cells (evC e) 29)).heap.size = w.heap.size + 1 := Array.size_push _
  have MV := M.keep B0
  generalize hV : w.alloc (.cells (evC e) 29) = V at *
  obtain ⟨ao, cp, b, hsl, F, ht⟩ := id MV
  have c3 := b.at4.2.2.2
  have c2 := b.at4.2.2.1
  have c1 := b.at4.2.1
  have e0 : V.cell? ⟨w.heap.size, 0, none⟩ = some (.int .i64 e.ts) := cell_of_row V _ 0 _ _ _ b3
  have HZ : Hid (V.heap.size = w.heap.size + 1) := hz0
  clear hz0
  have no : ∀ (u : World), Below V.heap.size V u → PuP mb w s u := fun u G => ⟨MV.keep G, Frm.of (gtrans B0 G)⟩
  cases hc : s.cl with
  | true =>
    have eC : s.pushC e = 101 := by unfold Gs.pushC; rw [if_pos hc]
    rw [Gs.push_no (by rw [eC]; decide), eC]
    rw [hc] at c2
    have HP : Hid (PuP mb w s V) := no V (Below.refl _ _)
    clear eC no
    go_enter Try.func63, Try.ntmps63
    go_wp2
    go_ret
    exact ⟨rfl, HP⟩
  | false =>
    rw [hc] at c2
    by_cases h1 : e.ts < -1152921504606846976 ∨ 1152921504606846976 < e.ts
    · have eC : s.pushC e = 29 := by unfold Gs.pushC; rw [if_neg (by rw [hc]; decide), if_pos h1]
      rw [Gs.push_no (by rw [eC]; decide), eC]
      have HP : Hid (PuP mb w s V) := no V (Below.refl _ _)
      clear eC no
      by_cases h1a : e.ts < -1152921504606846976
      · clear h1
        go_enter Try.func63, Try.ntmps63
        go_wp2
        go_ret
        exact ⟨rfl, HP⟩
      · have h1b : 1152921504606846976 < e.ts := by omega
        clear h1
        go_enter Try.func63, Try.ntmps63
        go_wp2
        go_ret
        exact ⟨rfl, HP⟩
    have h1a : -1152921504606846976 ≤ e.ts := by omega
    have h1b : e.ts ≤ 1152921504606846976 := by omega
    have hne0 : Nonempty (Ext V) := ⟨⟨_, Below.refl _ _⟩⟩
    have x0 := fun z : Ext V => (z.cell _ _ b3.lt).trans e0
    have x1 := fun z : Ext V => (z.cell _ _ b.lt).trans c1
    by_cases h2 : e.ts ≤ s.mark
    · have eC : s.pushC e = 102 := by unfold Gs.pushC; rw [if_neg (by rw [hc]; decide), if_neg h1, if_pos h2]
      rw [Gs.push_no (by rw [eC]; decide), eC]
      clear eC h1
      go_enter Try.func63, Try.ntmps63
      go_upto_region 5 with fail
      refine wp_region_ext (by kernel_rfl) (by kernel_rfl) ?_
      repeat go_big_quiet_step (fail)
      refine wpQuiet_nil ?_
      intro _ hw'
      obtain ⟨n1, hw''⟩ := hw'
      subst hw''
      have HP : Hid (PuP mb w s n1.X) := no n1.X n1.h
      go_wp2
      go_ret
      exact ⟨rfl, HP⟩
    have h2' : decide (e.ts ≤ s.mark) = false := decide_eq_false h2
    have HC1 : Hid (hasN s.l e.ts e.id = true → s.pushC e = 103) := fun h => by unfold Gs.pushC; rw [if_neg (by rw [hc]; decide), if_neg h1, if_neg h2, if_pos h]
    have HC2 : Hid (hasN s.l e.ts e.id = false → s.cap ≤ (s.l.length : Int) → s.pushC e = 104) := fun h h' => by unfold Gs.pushC; rw [if_neg (by rw [hc]; decide), if_neg h1, if_neg h2, if_neg (by rw [h]; decide), if_pos h']
    have HC3 : Hid (hasN s.l e.ts e.id = false → ¬ s.cap ≤ (s.l.length : Int) → s.pushC e = 0) := fun h h' => by unfold Gs.pushC; rw [if_neg (by rw [hc]; decide), if_neg h1, if_neg h2, if_neg (by rw [h]; decide), if_neg h']
    have NO : Hid (∀ (u : World), Below V.heap.size V u → PuP mb w s u) := no
    clear h1 h2 no
    go_enter Try.func63, Try.ntmps63
    go_upto_region 5 with fail
    refine wp_region_ext (by kernel_rfl) (by kernel_rfl) ?_
    repeat go_big_quiet_step (fail)
    refine wpQuiet_nil ?_
    intro _ hw'
    obtain ⟨n1, hw''⟩ := hw'
    subst hw''
    clear x0 x1 hne0
    have BN := n1.h
    go_upto_region 10 with fail
    go_loopw [5, 6, 7, 8] (fun vl vb vi _ wr => Pu2 V e s.l vl vb vi wr) (fun _ _ vi _ _ => s.l.length - (intOf vi).toNat)
    case atStart => exact ⟨0, none, 0, Nat.zero_le _, rfl, rfl, rfl, rfl, World.ownsRow_nil _ _ _ _, BN⟩
    case round =>
      obtain ⟨i, al, cl, hi, rfl, hno, rfl, rfl, Ol, B⟩ := hrel
      clear BN
      have bR := b.keep B
      have d3 := bR.at4.2.2.2
      have b3R := b3.keep B
      have hpl := putI_len e (s.l.take i)
      have htl : (s.l.take i).length ≤ 4096 := by rw [List.length_take]; omega
      by_cases hlt : i < s.l.length
      · obtain ⟨g, o, rfl, hgl, _⟩ := (F.keep B).form (by rw [fl_len ev_size]; omega)
        have rx := flat_range ev_size zrEv (F.keep B) i hlt
        have hsn := take_snoc s.l zrEv i hlt
        have hin : s.l.getD i zrEv ∈ s.l := by rw [getD_of_lt s.l i hlt]; exact List.getElem_mem hlt
        generalize s.l.getD i zrEv = f at *
        have sf := ev_one1 f
        have q1 : (i : Int) < (s.l.length : Int) := by omega
        have bz := Bk.new wr zAg 29
        have th := bz.there
        have b7 := bz.setCells (cs' := evC f) rfl
        have G8 := gsetCells (galloc (Below.refl wr.heap.size wr) (.cells zAg 29)) (Nat.le_refl _) (evC f).toList 0
        generalize hX3 : (wr.alloc (.cells zAg 29)).setCells wr.heap.size 0 (evC f).toList = X3 at *
        have O3 := own_keep Ol G8
        have b3X := b3R.keep G8
        have B3 := gtrans B G8
        have r3 := b3X.range
        have r7 := b7.range
        have f0 : X3.cell? ⟨wr.heap.size, 0, none⟩ = some (.int .i64 f.ts) := cell_of_row X3 _ 0 _ _ _ b7
        have f1 : X3.cell? ⟨wr.heap.size, 1, none⟩ = some (.int .u64 f.id) := cell_of_row X3 _ 1 _ _ _ b7
        have y0 : X3.cell? ⟨w.heap.size, 0, none⟩ = some (.int .i64 e.ts) := cell_of_row X3 _ 0 _ _ _ b3X
        have y1 : X3.cell? ⟨w.heap.size, 1, none⟩ = some (.int .u64 e.id) := cell_of_row X3 _ 1 _ _ _ b3X
        have HT : Hid (i < s.l.length) := hlt
        by_cases hsame : f.ts = e.ts ∧ f.id = e.id
        · have hyes : hasN s.l e.ts e.id = true := hasN_true.2 ⟨f, hin, hsame⟩
          have eC := HC1.out hyes
          have g1 : (f.ts == e.ts) = true := beq_iff_eq.2 hsame.1
          have g2 : (f.id == e.id) = true := beq_iff_eq.2 hsame.2
          have HP : Hid (PuP mb w s X3) := NO.out X3 B3
          have eS := Gs.push_no (s := s) (x := e) (by rw [eC]; decide)
          clear hsame hlt hsn hno
          go_wp2_with (first
            | (refine wpList_load_mid rfl 29 _ rfl g (o + i * 11) rfl (evC f).toList _ rx Try.underlying29 rfl infoEv ?_)
            | (refine wpList_store_mid rfl 29 _ _ rfl wr.heap.size 0 (evC f) rfl rfl th infoEv sf ?_; rw [hX3]))
          go_ret
          exact ⟨by rw [eC]; rfl, by rw [eS]; exact HP⟩
        have hno2 : hasN (s.l.take (i + 1)) e.ts e.id = false := by rw [hsn, hasN_snoc, hno, decide_eq_false hsame]; rfl
        have cB := refBefG_any e f X3
        have hts : (f.ts == e.ts) = false ∨ ((f.ts == e.ts) = true ∧ (f.id == e.id) = false) := by
          by_cases h : f.ts = e.ts
          · exact .inr ⟨beq_iff_eq.2 h, beq_eq_false_iff_ne.2 fun h' => hsame ⟨h, h'⟩⟩
          · exact .inl (beq_eq_false_iff_ne.2 h)
        have hlow : w.heap.size < V.heap.size := by rw [HZ.out]; omega
        have hfb : ∀ k, (Value.slice al (putI e (s.l.take i)).length cl).ownBlock = some k → k < wr.heap.size ∧ V.heap.size ≤ k := fun k e' => ⟨(World.ownsRow.lt Ol k e').2, (World.ownsRow.lt Ol k e').1⟩
        have hbp : (putI e (s.l.take i)).length ≤ 4097 := by omega
        cases hld : laidB e (s.l.take i) with
        | true =>
          have HP1 : Hid (putI e (s.l.take (i + 1)) = putI e (s.l.take i) ++ [f]) := by rw [hsn]; exact putI_laid hld
          have HL1 : Hid (laidB e (s.l.take (i + 1)) = true) := by rw [hsn, laidB_snoc, hld]; rfl
          generalize putI e (s.l.take i) = P at *
          have hb2 : Hid (((P.length + 1) + (P.length + 1) / 4 + 192) * 88 ≤ 281474976710656) := tiny_room (by omega)
          have hb3 : Hid (P.length + 1 ≤ 9223372036854775807) := by unfold Hid; omega
          have hbs := evBuildE f X3
          have hnews := World.news_of_block (Bk.new X3 (evC f) 29)
          have hA := galloc (Below.refl X3.heap.size X3) (.cells (evC f) 29)
          have OA := O3.alloc (.cells (evC f) 29)
          generalize X3.alloc (.cells (evC f) 29) = WA at *
          have BA := gtrans B3 hA
          clear hsame hlt hsn hno hpl htl
          rcases hts with g1 | ⟨g1, g2⟩
          all_goals
            go_wp2_with (first
              | (refine wpList_load_mid rfl 29 _ rfl g (o + i * 11) rfl (evC f).toList _ rx Try.underlying29 rfl infoEv ?_)
              | (refine wpList_store_mid rfl 29 _ _ rfl wr.heap.size 0 (evC f) rfl rfl th infoEv sf ?_; rw [hX3])
              | (refine wpList_load_mid rfl 29 (.tmp 8) rfl wr.heap.size 0 rfl (evC f).toList _ r7 Try.underlying29 rfl infoEv ?_; refine wpList_build1 rfl (.tmp 71) rfl rfl hbs ?_; refine wpList_append_one rfl (.tmp 70) (.tmp 72) rfl Try.underlying22 nfEv rfl (by decide) (.slice al P.length cl) V.heap.size P.length _ rfl OA BA.size ⟨X3.heap.size, 0, none⟩ 1 (evC f).toList rfl rfl hnews (ev_ones1 f) hb3.out hb2.out ?_; intro g8 cap8 w8 O8 Q8 L8))
            go_roundw
            case rel =>
              have hlt : i < s.l.length := HT
              have hz1 : (P ++ [f]).length = P.length + 1 := by simp
              refine ⟨i + 1, some ⟨g8, 0, none⟩, cap8, by omega, by go_num, hno2, by rw [HL1.out], by rw [HP1.out, hz1], ?_, BA.grown Q8 BA.size fun k e => (World.ownsRow.lt OA k e).1⟩
              rw [HP1.out, hz1, fl_app]
              simpa [fl] using O8
            case measure => have hlt : i < s.l.length := HT; simp [intOf]; omega
        | false =>
          cases hef : evLt e f with
          | false =>
            rw [hef] at cB
            have HP1 : Hid (putI e (s.l.take (i + 1)) = putI e (s.l.take i) ++ [f]) := by rw [hsn]; exact putI_not hld hef
            have HL1 : Hid (laidB e (s.l.take (i + 1)) = false) := by rw [hsn, laidB_snoc, hld, hef]; rfl
            generalize putI e (s.l.take i) = P at *
            have hb2 : Hid (((P.length + 1) + (P.length + 1) / 4 + 192) * 88 ≤ 281474976710656) := tiny_room (by omega)
            have hb3 : Hid (P.length + 1 ≤ 9223372036854775807) := by unfold Hid; omega
            clear hsame hlt hsn hno hpl htl hef
            rcases hts with g1 | ⟨g1, g2⟩
            all_goals
              go_upto_region 18 with (first
                | (refine wpList_load_mid rfl 29 _ rfl g (o + i * 11) rfl (evC f).toList _ rx Try.underlying29 rfl infoEv ?_)
                | (refine wpList_store_mid rfl 29 _ _ rfl wr.heap.size 0 (evC f) rfl rfl th infoEv sf ?_; rw [hX3])
                | (refine wpList_load_midw rfl 29 (.tmp 3) rfl w.heap.size 0 rfl (evC e) _ r3 Try.underlying29 rfl infoEv ?_; refine wpList_load_midw rfl 29 (.tmp 8) rfl wr.heap.size 0 rfl (evC f) _ r7 Try.underlying29 rfl infoEv ?_)
                | (go_at_call 81; (with_reducible refine cB.mono ?_); rintro _ u5 ⟨rfl, g5⟩))
              have b8 := b7.keep g5
              have r8 := b8.range
              have B5 := gtrans B3 g5
              have hbs := evBuildE f u5
              have hnews := World.news_of_block (Bk.new u5 (evC f) 29)
              have hA := galloc (Below.refl u5.heap.size u5) (.cells (evC f) 29)
              have OA := (own_keep O3 g5).alloc (.cells (evC f) 29)
              generalize u5.alloc (.cells (evC f) 29) = WA at *
              have BA := gtrans B5 hA
              go_wp2_with (first
                | (refine wpList_load_mid rfl 29 (.tmp 8) rfl wr.heap.size 0 rfl (evC f).toList _ r8 Try.underlying29 rfl infoEv ?_; refine wpList_build1 rfl (.tmp 71) rfl rfl hbs ?_; refine wpList_append_one rfl (.tmp 70) (.tmp 72) rfl Try.underlying22 nfEv rfl (by decide) (.slice al P.length cl) V.heap.size P.length _ rfl OA BA.size ⟨u5.heap.size, 0, none⟩ 1 (evC f).toList rfl rfl hnews (ev_ones1 f) hb3.out hb2.out ?_; intro g8 cap8 w8 O8 Q8 L8))
              go_roundw
              case rel =>
                have hlt : i < s.l.length := HT
                have hz1 : (P ++ [f]).length = P.length + 1 := by simp
                refine ⟨i + 1, some ⟨g8, 0, none⟩, cap8, by omega, by go_num, hno2, by rw [HL1.out], by rw [HP1.out, hz1], ?_, BA.grown Q8 BA.size fun k e => (World.ownsRow.lt OA k e).1⟩
                rw [HP1.out, hz1, fl_app]
                simpa [fl] using O8
              case measure => have hlt : i < s.l.length := HT; simp [intOf]; omega
          | true =>
            rw [hef] at cB
            have HP1 : Hid (putI e (s.l.take (i + 1)) = (putI e (s.l.take i) ++ [e]) ++ [f]) := by rw [hsn]; exact putI_here hld hef
            have HL1 : Hid (laidB e (s.l.take (i + 1)) = true) := by rw [hsn, laidB_snoc, hld, hef]; rfl
            generalize putI e (s.l.take i) = P at *
            have hb2 : Hid (((P.length + 1) + (P.length + 1) / 4 + 192) * 88 ≤ 281474976710656) := tiny_room (by omega)
            have hb3 : Hid (P.length + 1 ≤ 9223372036854775807) := by unfold Hid; omega
            have hb4 : Hid (((P.length + 1 + 1) + (P.length + 1 + 1) / 4 + 192) * 88 ≤ 281474976710656) := tiny_room (by omega)
            have hb5 : Hid (P.length + 1 + 1 ≤ 9223372036854775807) := by unfold Hid; omega
            clear hsame hlt hsn hno hpl htl hef
            rcases hts with g1 | ⟨g1, g2⟩
            all_goals
              go_upto_region 16 with (first
                | (refine wpList_load_mid rfl 29 _ rfl g (o + i * 11) rfl (evC f).toList _ rx Try.underlying29 rfl infoEv ?_)
                | (refine wpList_store_mid rfl 29 _ _ rfl wr.heap.size 0 (evC f) rfl rfl th infoEv sf ?_; rw [hX3])
                | (refine wpList_load_midw rfl 29 (.tmp 3) rfl w.heap.size 0 rfl (evC e) _ r3 Try.underlying29 rfl infoEv ?_; refine wpList_load_midw rfl 29 (.tmp 8) rfl wr.heap.size 0 rfl (evC f) _ r7 Try.underlying29 rfl infoEv ?_)
                | (go_at_call 81; (with_reducible refine cB.mono ?_); rintro _ u5 ⟨rfl, g5⟩))
              have b8 := b7.keep g5
              have r9 := (b3X.keep g5).range
              have B5 := gtrans B3 g5
              have hbs := evBuildE e u5
              have hnews := World.news_of_block (Bk.new u5 (evC e) 29)
              have hA := galloc (Below.refl u5.heap.size u5) (.cells (evC e) 29)
              have OA := (own_keep O3 g5).alloc (.cells (evC e) 29)
              have bA := b8.keep hA
              generalize u5.alloc (.cells (evC e) 29) = WA at *
              have BA := gtrans B5 hA
              go_upto_region 18 with (first
                | (refine wpList_load_mid rfl 29 (.tmp 3) rfl w.heap.size 0 rfl (evC e).toList _ r9 Try.underlying29 rfl infoEv ?_; refine wpList_build1 rfl (.tmp 67) rfl rfl hbs ?_; refine wpList_append_one rfl (.tmp 66) (.tmp 68) rfl Try.underlying22 nfEv rfl (by decide) (.slice al P.length cl) V.heap.size P.length _ rfl OA BA.size ⟨u5.heap.size, 0, none⟩ 1 (evC e).toList rfl rfl hnews (ev_ones1 e) hb3.out hb2.out ?_; intro g6 cap6 w6 O6 Q6 L6))
              have b10 : Bk w6 wr.heap.size (evC f) 29 := (Q6.block wr.heap.size bA.lt (fun e' => by have := (hfb _ e'.symm).1; omega)).trans bA
              have r10 := b10.range
              have B6 : Below V.heap.size V w6 := BA.grown Q6 BA.size fun k e => (World.ownsRow.lt OA k e).1
              have hbs2 := evBuildE f w6
              have hnews2 := World.news_of_block (Bk.new w6 (evC f) 29)
              have hA2 := galloc (Below.refl w6.heap.size w6) (.cells (evC f) 29)
              have OA2 := O6.alloc (.cells (evC f) 29)
              generalize w6.alloc (.cells (evC f) 29) = WB at *
              have BB := gtrans B6 hA2
              go_wp2_with (first
                | (refine wpList_load_mid rfl 29 (.tmp 8) rfl wr.heap.size 0 rfl (evC f).toList _ r10 Try.underlying29 rfl infoEv ?_; refine wpList_build1 rfl (.tmp 71) rfl rfl hbs2 ?_; refine wpList_append_one rfl (.tmp 70) (.tmp 72) rfl Try.underlying22 nfEv rfl (by decide) (.slice (some ⟨g6, 0, none⟩) (P.length + 1) cap6) V.heap.size (P.length + 1) _ rfl OA2 BB.size ⟨w6.heap.size, 0, none⟩ 1 (evC f).toList rfl rfl hnews2 (ev_ones1 f) hb5.out hb4.out ?_; intro g8 cap8 w8 O8 Q8 L8))
              go_roundw
              case rel =>
                have hlt : i < s.l.length := HT
                have hz1 : (P ++ [e] ++ [f]).length = P.length + 1 + 1 := by simp
                refine ⟨i + 1, some ⟨g8, 0, none⟩, cap8, by omega, by go_num, hno2, by rw [HL1.out], by rw [HP1.out, hz1], ?_, BB.grown Q8 BB.size fun k e => (World.ownsRow.lt OA2 k e).1⟩
                rw [HP1.out, hz1, fl_app, fl_app]
                simpa [fl] using O8
              case measure => have hlt : i < s.l.length := HT; simp [intOf]; omega
      · obtain rfl : i = s.l.length := by omega
        rw [List.take_length] at hno Ol ⊢
        have hpl2 := putI_len e s.l
        have x0 := fun z : Ext wr => (z.cell _ _ bR.lt).trans bR.at4.1
        have x3 := fun z : Ext wr => (z.cell _ _ bR.lt).trans bR.at4.2.2.2
        have hne0 : Nonempty (Ext wr) := ⟨⟨_, Below.refl _ _⟩⟩
        clear hlt hpl htl
        by_cases h4 : s.cap ≤ (s.l.length : Int)
        · have eC := HC2.out hno (by omega)
          have eS := Gs.push_no (s := s) (x := e) (by rw [eC]; decide)
          go_upto_region 19 with fail
          refine wp_region_ext (by kernel_rfl) (by kernel_rfl) ?_
          repeat go_big_quiet_step (fail)
          refine wpQuiet_nil ?_
          intro _ hw'
          obtain ⟨n2, hw''⟩ := hw'
          subst hw''
          have HP : Hid (PuP mb w s n2.X) := NO.out n2.X (gtrans B n2.h)
          go_wp2
          go_ret
          exact ⟨by rw [eC]; rfl, by rw [eS]; exact HP⟩
        have h4' : decide (s.cap ≤ (s.l.length : Int)) = false := decide_eq_false h4
        have eC := HC3.out hno (by omega)
        have eS : s.push e = { s with l := ins evLt e s.l } := by unfold Gs.push; rw [if_pos eC]
        have HEC : Hid (s.pushC e = 0) := eC
        have HES : Hid (s.push e = { s with l := ins evLt e s.l }) := eS
        clear eC eS h4
        go_upto_region 19 with fail
        refine wp_region_ext (by kernel_rfl) (by kernel_rfl) ?_
        repeat go_big_quiet_step (fail)
        refine wpQuiet_nil ?_
        intro _ hw'
        obtain ⟨n2, hw''⟩ := hw'
        subst hw''
        clear x0 x3 hne0
        have bE := bR.keep n2.h
        have OE := own_keep Ol n2.h
        have BE := gtrans B n2.h
        have frE := bE.free 3
        have dE := bE.at4.2.2.2
        cases hld : laidB e s.l with
        | true =>
          have hpf := putI_full hld
          have HP : Hid (PuP mb w { s with l := ins evLt e s.l } (n2.X.setCell ⟨mb, 3, none⟩ (.slice al (putI e s.l).length cl))) := by rw [hpf]; exact Mog.ofRow bE OE (gtrans B0 BE)
          clear hpf hld
          go_wp2
          go_ret
          exact ⟨by rw [HEC.out]; rfl, by rw [HES.out]; exact HP⟩
        | false =>
          have hpe := putI_end hld
          have r9 := ((b3R).keep n2.h).range
          have HPE : Hid (ins evLt e s.l = putI e s.l ++ [e]) := hpe
          generalize putI e s.l = P at *
          have hb2 : Hid (((P.length + 1) + (P.length + 1) / 4 + 192) * 88 ≤ 281474976710656) := tiny_room (by omega)
          have hb3 : Hid (P.length + 1 ≤ 9223372036854775807) := by unfold Hid; omega
          have hbs := evBuildE e n2.X
          have hnews := World.news_of_block (Bk.new n2.X (evC e) 29)
          have hA := galloc (Below.refl n2.X.heap.size n2.X) (.cells (evC e) 29)
          have OA := OE.alloc (.cells (evC e) 29)
          have bA := bE.keep hA
          generalize hWA : n2.X.alloc (.cells (evC e) 29) = WA at *
          have BA := gtrans BE hA
          have fin : ∀ (g8 cap8 : Nat) (w8 : World), w8.ownsRow V.heap.size 29 11 (.slice (some ⟨g8, 0, none⟩) (P.length + 1) cap8) (P.length + 1) (fl evC P ++ (evC e).toList) → WA.grownBy w8 (Value.slice al P.length cl).ownBlock → Bk w8 mb #[.int .i64 s.cap, .int .i64 s.mark, .bool s.cl, .slice ao s.l.length cp] 117 ∧ PuP mb w { s with l := ins evLt e s.l } (w8.setCell ⟨mb, 3, none⟩ (.slice (some ⟨g8, 0, none⟩) (P.length + 1) cap8)) := by
            intro g8 cap8 w8 O8 Q8
            have b8 := bk_far bA OA (by decide) Q8
            have hz1 : (P ++ [e]).length = P.length + 1 := by simp
            have := Mog.ofRow (s := s) (l := P ++ [e]) (al := some ⟨g8, 0, none⟩) (cl := cap8) b8 (by rw [hz1, fl_app]; simpa [fl] using O8) ((gtrans B0 BA).grown Q8 (gtrans B0 BA).size fun k e' => Nat.le_trans B0.size (World.ownsRow.lt OA k e').1)
            rw [hz1] at this
            rw [HPE.out]
            exact ⟨b8, this⟩
          clear hld hpe hWA
          go_wp2_with (first
            | (refine wpList_load_mid rfl 29 (.tmp 3) rfl w.heap.size 0 rfl (evC e).toList _ r9 Try.underlying29 rfl infoEv ?_; refine wpList_build1 rfl (.tmp 87) rfl rfl hbs ?_; refine wpList_append_one rfl (.tmp 86) (.tmp 88) rfl Try.underlying22 nfEv rfl (by decide) (.slice al P.length cl) V.heap.size P.length _ rfl OA BA.size ⟨n2.X.heap.size, 0, none⟩ 1 (evC e).toList rfl rfl hnews (ev_ones1 e) hb3.out hb2.out ?_; intro g8 cap8 w8 O8 Q8 L8; obtain ⟨b8, SP⟩ := fin g8 cap8 w8 O8 Q8; have f8 := b8.free 3; have d8 := b8.at4.2.2.2))
          go_ret
          exact ⟨by rw [HEC.out]; rfl, by rw [HES.out]; exact SP⟩

end Go.Proofs.Ytjfbbfmnghccdaa
