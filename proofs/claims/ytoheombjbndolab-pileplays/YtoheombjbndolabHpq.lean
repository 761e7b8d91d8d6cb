/- The document's pile of events: its methods. -/
import Derived.Test.YtoheombjbndolabHpp
namespace Go.Proofs.Ytoheombjbndolab
open Go.RowKit Go.BigFrame
set_option linter.unusedVariables false
set_option linter.unusedSimpArgs false

/-- The document's pile in memory: its list lies in a row of events that nobody writes. -/
def Mo (w : World) (m : Nat) (l : List Ev) : Prop := ∃ ao cap, Bk w m #[.slice ao l.length cap] 78 ∧ Sl ao l.length cap ∧ Flat w ao (fl evC l) ∧ ∀ b o, ao = some ⟨b, o, none⟩ → ∃ cs fr, w.heap[b]? = some (.cells cs 29 fr)
theorem Mo.same {w u : World} {m : Nat} {l : List Ev} (M : Mo w m l) (h : ∀ (k : Nat) (cs : Array Value) (t : TypeId) (fr : Nat × Nat), w.heap[k]? = some (.cells cs t fr) → (t = 29 ∨ k = m) → u.heap[k]? = w.heap[k]?) : Mo u m l := by
  obtain ⟨ao, cap, b, s, F, t⟩ := M
  refine ⟨ao, cap, (h m _ _ _ b (.inr rfl)).trans b, s, fun j v hv => ?_, fun b o e => ?_⟩
  · obtain ⟨g, o, e, c⟩ := F j v hv
    obtain ⟨cs, fr, hc⟩ := t g o e
    exact ⟨g, o, e, by rw [World.cell?_of_block (h g _ _ _ hc (.inl rfl))]; exact c⟩
  · obtain ⟨cs, fr, hc⟩ := t b o e
    exact ⟨cs, fr, (h b _ _ _ hc (.inl rfl)).trans hc⟩
theorem Mo.keep {w u : World} {m : Nat} {l : List Ev} (M : Mo w m l) (G : Below w.heap.size w u) : Mo u m l := M.same fun k cs t fr hc _ => G.block k (lt_of_block hc)
theorem Mo.lt {w : World} {m : Nat} {l : List Ev} (M : Mo w m l) : m < w.heap.size := by obtain ⟨_, _, b, _⟩ := M; exact b.lt
/-- While a pile turns, the document's stays. -/
theorem Mo.gb {w u : World} {m p base t : Nat} {v : Value} {L : List (Ev × Nat)} {l : List Ev} (M : Mo w m l) (P : evPa w p base v L t) (G : Gb p v w u) : Mo u m l := by
  obtain ⟨xs, R⟩ := P.row
  have hm := M
  obtain ⟨_, _, bm, _⟩ := hm
  refine M.same fun k cs ty fr hc hk => G.blk k (lt_of_block hc) (fun e => ?_) (fun e => ?_)
  · subst e
    have hb := P.blk
    unfold Bk at hb
    rw [hb] at hc
    simp only [Option.some.injEq, Obj.cells.injEq] at hc
    rcases hk with h1 | h1
    · exact absurd (hc.2.1.trans h1) (by decide)
    · subst h1
      unfold Bk at bm
      rw [hb] at bm
      simp only [Option.some.injEq, Obj.cells.injEq] at bm
      exact absurd bm.2.1 (by decide)
  · rcases R.2 with ⟨rfl, _⟩ | ⟨g1, c1, cur1, rfl, _, hh1, _⟩
    · simp [Value.ownBlock] at e
    · have : g1 = k := by simpa [Value.ownBlock] using e
      subst this
      rw [hh1] at hc
      simp only [Option.some.injEq, Obj.cells.injEq] at hc
      rcases hk with h1 | h1
      · exact absurd (hc.2.1.trans h1) (by decide)
      · subst h1
        unfold Bk at bm
        rw [hh1] at bm
        simp only [Option.some.injEq, Obj.cells.injEq] at bm
        exact absurd bm.2.1 (by decide)
/-- Only the block m of what was there has turned. -/
structure Mb (m : Nat) (w u : World) : Prop where
  os : u.os = w.os
  tape : u.tape = w.tape
  output : u.output = w.output
  size : w.heap.size ≤ u.heap.size
  blk : ∀ k, k < w.heap.size → k ≠ m → u.heap[k]? = w.heap[k]?
theorem Mb.of {m : Nat} {w u : World} (h : Below w.heap.size w u) : Mb m w u := ⟨h.os, h.tape, h.output, h.size, fun k hk _ => h.block k hk⟩
theorem Mb.set {m : Nat} {w u : World} (h : Below w.heap.size w u) (o : Nat) (v : Value) : Mb m w (u.setCell ⟨m, o, none⟩ v) :=
  ⟨h.os, h.tape, h.output, by simpa using h.size, fun k hk hn => (Below.heap_setCell u _ _ k hn).trans (h.block k hk)⟩
set_option maxHeartbeats 1000000 in
theorem refNew (w : World) : Calls Try.prog 22 #[] w fun e w' => e = .returned (.pointer (some ⟨w.heap.size, 0, none⟩)) ∧ w' = w.alloc (.cells #[.slice none 0 0] 78) := by
  go_enter Try.func22, Try.ntmps22
  go_wp2
  go_ret
  exact ⟨rfl, rfl⟩
theorem Mo_new (w : World) : Mo (w.alloc (.cells #[.slice none 0 0] 78)) w.heap.size [] :=
  ⟨none, 0, Bk.new w _ _, ⟨Nat.le_refl _, fun _ => ⟨rfl, rfl⟩⟩, Flat.nil _ _, fun b o e => by cases e⟩
theorem Bk.at1 {w : World} {b : Nat} {c0 : Value} {t : TypeId} (h : Bk w b #[c0] t) : w.cell? ⟨b, 0, none⟩ = some c0 := cell_of_row w b 0 _ _ _ h
set_option maxHeartbeats 1000000 in
theorem refLen (m : Nat) (l : List Ev) (w : World) (M : Mo w m l) : Calls Try.prog 25 #[.pointer (some ⟨m, 0, none⟩)] w fun e w' => e = .returned (.int .i64 (l.length : Int)) ∧ w' = w := by
  obtain ⟨ao, cap, b, _⟩ := M
  have c0 := b.at1
  go_enter Try.func25, Try.ntmps25
  go_wp2
  go_ret
  exact ⟨rfl, rfl⟩
set_option maxRecDepth 100000 in
set_option maxHeartbeats 1000000 in
theorem refSorted (m : Nat) (l : List Ev) (w : World) (M : Mo w m l) (hl : (l.length + l.length / 4 + 192) * 88 ≤ 281474976710656) : Calls Try.prog 43 #[.pointer (some ⟨m, 0, none⟩)] w fun e w' => ∃ a c, e = .returned (.slice a l.length c) ∧ w'.ownsRow w.heap.size 29 11 (.slice a l.length c) l.length (fl evC l) ∧ Below w.heap.size w w' := by
  obtain ⟨ao, cap, b, hsl, F, _⟩ := M
  have c0 := b.at1
  have hl2 := grow_len hl (Nat.le_refl _)
  go_enter Try.func43, Try.ntmps43
  go_wp2_with (first
    | (at_builtin; refine wpList_append_flatw rfl (.tmp 4) (.tmp 8) rfl Try.underlying22 nfEv rfl (by decide) (.slice none 0 0) w.heap.size 0 [] rfl (World.ownsRow_nil _ _ _ _) (Nat.le_refl _) ao l.length cap (fl evC l) rfl hsl F (fl_len ev_size l) (fl_one ev_ones1 l) (by rw [Nat.zero_add]; exact hl) (by rw [Nat.zero_add]; exact hl2) ?_; intro v' w6 O6 G6; rw [Nat.zero_add, List.nil_append] at O6; obtain ⟨a6, p6, rfl, _⟩ := own_form O6))
  go_ret
  exact ⟨a6, p6, rfl, O6, (Below.refl _ _).grown G6 (Nat.le_refl _) (fun k e => by simp [Value.ownBlock] at e)⟩
abbrev zA9 : Array Value := #[.int .i64 0, .int .u64 0, .int .i64 0, .int .i64 0, .int .i64 0, .int .i64 0, .int .i64 0, .int .i64 0, .int .i64 0, .int .i64 0, .int .i64 0]
set_option maxRecDepth 100000 in
set_option maxHeartbeats 2000000 in
theorem refPeek (m : Nat) (l : List Ev) (w : World) (M : Mo w m l) (hl : l.length ≤ 9223372036854775807) : Calls Try.prog 42 #[.pointer (some ⟨m, 0, none⟩)] w fun e w' => e = .returned (evTopV (l.headD zrEv) (decide (0 < l.length))) ∧ Below w.heap.size w w' := by
  obtain ⟨ao, cap, b, hsl, F, _⟩ := M
  have B := galloc (Below.refl w.heap.size w) (.cells zA9 29)
  have b1 := Bk.new w zA9 29
  have c0 := (b.keep B).at1
  have th := b1.there
  cases l with
  | nil =>
    have q0 : (((0 : Nat) : Int) == 0) = true := rfl
    have hb0 := evBuildZ
    have s1 := ev_one1 zrEv
    have B2 := gsetCells B (Nat.le_refl _) (evC zrEv).toList 0
    have b2 := b1.setCells (cs' := evC zrEv) rfl
    go_enter Try.func42, Try.ntmps42
    go_upto_region 1 with fail
    generalize w.alloc _ = V at *
    generalize hX : V.setCells w.heap.size 0 (evC zrEv).toList = X at *
    go_wp2_with (first
      | (refine wpList_buildz rfl rfl (hb0 _) ?_; refine wpList_store_mid rfl 29 _ _ rfl w.heap.size 0 (evC zrEv) rfl rfl th infoEv s1 ?_; rw [hX]))
    exact bodyPost_ret (results_row_tmp rfl _ _ w.heap.size 29 (evC zrEv) (0, 0) _ rfl b2 Try.underlying29 rfl infoEv) rfl ⟨rfl, B2⟩
  | cons x l =>
    obtain ⟨g, o, rfl, hgl, _⟩ := F.form (by rw [fl_len ev_size]; simp)
    have rx := rangeAt_keep (flat_range ev_size zrEv F 0 (by simp)) B
    have ex : (x :: l).getD 0 zrEv = x := rfl
    rw [ex, Nat.zero_mul, Nat.add_zero] at rx
    have e1 : evTopV ((x :: l).headD zrEv) (decide (0 < (x :: l).length)) = .tuple #[.agg (evC x), .bool true] := by simp [evTopV]
    rw [e1]
    have hn0 : 0 < (x :: l).length := by simp
    have q0 : (((x :: l).length : Int) == 0) = false := by rw [beq_eq_false_iff_ne]; omega
    have q1 : (0 : Int) < ((x :: l).length : Int) := by omega
    have s1 := ev_one1 x
    have B2 := gsetCells B (Nat.le_refl _) (evC x).toList 0
    have b2 := b1.setCells (cs' := evC x) rfl
    generalize (x :: l).length = n at *
    go_enter Try.func42, Try.ntmps42
    go_upto_region 1 with fail
    generalize w.alloc _ = V at *
    generalize hX : V.setCells w.heap.size 0 (evC x).toList = X at *
    go_wp2_with (first
      | (refine wpList_load_mid rfl 29 _ rfl g o rfl (evC x).toList _ rx Try.underlying29 rfl infoEv ?_)
      | (refine wpList_store_mid rfl 29 _ _ rfl w.heap.size 0 (evC x) rfl rfl th infoEv s1 ?_; rw [hX]))
    exact bodyPost_ret (results_row_tmp rfl _ _ w.heap.size 29 (evC x) (0, 0) _ rfl b2 Try.underlying29 rfl infoEv) rfl ⟨rfl, B2⟩
set_option maxRecDepth 100000 in
set_option maxHeartbeats 2000000 in
theorem refPop (m : Nat) (l : List Ev) (w : World) (M : Mo w m l) (hl : l.length ≤ 9223372036854775807) : Calls Try.prog 41 #[.pointer (some ⟨m, 0, none⟩)] w fun e w' => e = .returned (evTopV (l.headD zrEv) (decide (0 < l.length))) ∧ Mo w' m l.tail ∧ Mb m w w' := by
  have hmlt := M.lt
  cases l with
  | nil =>
    have M' := M
    obtain ⟨ao, cap, b, hsl, F, _⟩ := M
    have B := galloc (Below.refl w.heap.size w) (.cells zA9 29)
    have b1 := Bk.new w zA9 29
    have c0 := (b.keep B).at1
    have th := b1.there
    have hb0 := evBuildZ
    have s1 := ev_one1 zrEv
    have B2 := gsetCells B (Nat.le_refl _) (evC zrEv).toList 0
    have b2 := b1.setCells (cs' := evC zrEv) rfl
    go_enter Try.func41, Try.ntmps41
    go_upto_region 1 with fail
    generalize w.alloc _ = V at *
    generalize hX : V.setCells w.heap.size 0 (evC zrEv).toList = X at *
    go_wp2_with (first
      | (refine wpList_buildz rfl rfl (hb0 _) ?_; refine wpList_store_mid rfl 29 _ _ rfl w.heap.size 0 (evC zrEv) rfl rfl th infoEv s1 ?_; rw [hX]))
    exact bodyPost_ret (results_row_tmp rfl _ _ w.heap.size 29 (evC zrEv) (0, 0) _ rfl b2 Try.underlying29 rfl infoEv) rfl ⟨rfl, M'.keep B2, Mb.of B2⟩
  | cons x l =>
    obtain ⟨ao, cap, b, hsl, F, hT⟩ := M
    have B := galloc (Below.refl w.heap.size w) (.cells zA9 29)
    have b1 := Bk.new w zA9 29
    obtain ⟨g, o, rfl, hgl, _⟩ := F.form (by rw [fl_len ev_size]; simp)
    have rx := rangeAt_keep (flat_range ev_size zrEv F 0 (by simp)) B
    have ex : (x :: l).getD 0 zrEv = x := rfl
    rw [ex, Nat.zero_mul, Nat.add_zero] at rx
    have e1 : evTopV ((x :: l).headD zrEv) (decide (0 < (x :: l).length)) = .tuple #[.agg (evC x), .bool true] := by simp [evTopV]
    rw [e1]
    have hn0 : 0 < (x :: l).length := by simp
    have hn1 : (x :: l).length = l.length + 1 := rfl
    have hcap := hsl.1
    have F1 := flat_drop ev_size F 1 (by simp)
    rw [Nat.one_mul, show (x :: l).drop 1 = l from rfl] at F1
    have s1 := ev_one1 x
    have pB := b.keep B
    obtain ⟨n, hn⟩ : ∃ n, n = (x :: l).length := ⟨_, rfl⟩
    rw [← hn] at pB hn0 hcap hl
    have HN : Hid (n = l.length + 1) := hn
    have q0 : ((n : Int) == 0) = false := by rw [beq_eq_false_iff_ne]; omega
    have q1 : (0 : Int) < (n : Int) := by omega
    have q2 : (1 : Int) ≤ (n : Int) := by omega
    have E1 : n - 1 = l.length := by rw [hn]; rfl
    have c0 := pB.at1
    clear hn hn1
    go_enter Try.func41, Try.ntmps41
    go_upto_region 1 with fail
    generalize w.alloc _ = V at *
    have bz := Bk.new V zA9 29
    have th := bz.there
    have b4 := bz.setCells (cs' := evC x) rfl
    have G4 := gsetCells (galloc (Below.refl V.heap.size V) (.cells zA9 29)) (Nat.le_refl _) (evC x).toList 0
    generalize hX : (V.alloc (.cells zA9 29)).setCells V.heap.size 0 (evC x).toList = X at *
    have hVz := B.size
    have pX := pB.keep G4
    have d0 := pX.at1
    have f0 := pX.free 0
    go_upto_region 5 with (first
      | (refine wpList_load_mid rfl 29 _ rfl g o rfl (evC x).toList _ rx Try.underlying29 rfl infoEv ?_)
      | (refine wpList_store_mid rfl 29 _ _ rfl V.heap.size 0 (evC x) rfl rfl th infoEv s1 ?_; rw [hX]))
    obtain ⟨a', ha'⟩ : ∃ a', (if cap = 1 then some (⟨g, o, none⟩ : Addr) else some ⟨g, o + 11, none⟩) = a' := ⟨_, rfl⟩
    rw [ha']
    have hng : g ≠ m := fun e => by
      obtain ⟨cs, fr, hc⟩ := hT g o rfl
      subst e
      unfold Bk at b
      rw [b] at hc
      simp only [Option.some.injEq, Obj.cells.injEq] at hc
      exact absurd hc.2.1 (by decide)
    have G5 := gtrans B G4
    have pY := pX.set 0 (.slice a' l.length (cap - 1))
    have b4Y := b4.other (b' := m) (by omega) 0 (.slice a' l.length (cap - 1))
    have b1Y := (b1.keep G4).other (b' := m) (by omega) 0 (.slice a' l.length (cap - 1))
    have MbY := Mb.set (m := m) G5 0 (.slice a' l.length (cap - 1))
    generalize hY : X.setCell ⟨m, 0, none⟩ (.slice a' l.length (cap - 1)) = Y at *
    have r4 := b4Y.range
    have th1 := b1Y.there
    have b9 := b1Y.setCells (cs' := evC x) rfl
    generalize hZ : Y.setCells w.heap.size 0 (evC x).toList = Z at *
    clear th bz
    go_wp2_with (first
      | (refine wpList_load_mid rfl 29 _ rfl V.heap.size 0 rfl (evC x).toList _ r4 Try.underlying29 rfl infoEv ?_)
      | (refine wpList_store_mid rfl 29 _ _ rfl w.heap.size 0 (evC x) rfl rfl th1 infoEv s1 ?_; rw [hZ]))
    have eos := setCells_os w.heap.size (evC x).toList 0 Y
    have esz := setCells_size w.heap.size (evC x).toList 0 Y
    have ebl : ∀ k, k < w.heap.size → Z.heap[k]? = Y.heap[k]? := fun k hk => by rw [← hZ]; exact setCells_blk _ _ _ _ k (by omega)
    rw [hZ] at eos esz
    have MbZ : Mb m w Z := ⟨eos.1.trans MbY.os, eos.2.1.trans MbY.tape, eos.2.2.trans MbY.output, by rw [esz]; exact MbY.size, fun k hk hn => (ebl k hk).trans (MbY.blk k hk hn)⟩
    refine bodyPost_ret (results_row_tmp rfl _ _ w.heap.size 29 (evC x) (0, 0) _ rfl b9 Try.underlying29 rfl infoEv) rfl ⟨rfl, ⟨a', cap - 1, (ebl m hmlt).trans pY, ?_, ?_, ?_⟩, MbZ⟩
    · have hN : n = l.length + 1 := HN
      have hcap' : l.length + 1 ≤ cap := hsl.1
      refine ⟨show l.length ≤ cap - 1 by omega, fun e => ?_⟩
      rw [← ha'] at e
      split at e <;> cases e
    · by_cases hc1 : cap = 1
      · have hN : n = l.length + 1 := HN
        have hl0 : l = [] := List.length_eq_zero_iff.1 (by omega)
        rw [hl0]
        exact Flat.nil _ _
      · rw [if_neg hc1] at ha'
        subst ha'
        intro j u hu
        obtain ⟨g', o', e, c⟩ := F1 j u hu
        cases e
        exact ⟨_, _, rfl, by rw [World.cell?_of_block (MbZ.blk g hgl hng)]; exact c⟩
    · intro b' o' e
      have : b' = g := by
        rw [← ha'] at e
        split at e <;> (cases e; rfl)
      subst this
      obtain ⟨cs, fr, hc⟩ := hT b' o rfl
      exact ⟨cs, fr, (MbZ.blk b' hgl hng).trans hc⟩
set_option maxRecDepth 100000 in
set_option maxHeartbeats 2000000 in
theorem refPush (m : Nat) (l : List Ev) (x : Ev) (w : World) (M : Mo w m l) (hl : ((l.length + 1) + (l.length + 1) / 4 + 192) * 88 ≤ 281474976710656) : Calls Try.prog 40 #[.pointer (some ⟨m, 0, none⟩), .agg (evC x)] w fun e w' => e = .returned (.tuple #[]) ∧ Mo w' m (putP evLt x l) ∧ Mb m w w' := by
  have hmlt := M.lt
  obtain ⟨ao, cap, b, hsl, F, hT⟩ := M
  have B := galloc (Below.refl w.heap.size w) (.cells (evC x) 29)
  have b1 := Bk.new w (evC x) 29
  go_enter Try.func40, Try.ntmps40
  go_upto_region 1 with fail
  generalize w.alloc _ = V at *
  have pB := b.keep B
  have p0 := fun z : Ext V => (z.cell _ _ pB.lt).trans pB.at1
  have r1 := b1.range
  have hne0 : Nonempty (Ext V) := ⟨⟨_, Below.refl _ _⟩⟩
  refine wp_region_ext_float 6 0 (.pointer (some ⟨m, 0, none⟩)) _ _ rfl rfl rfl rfl (by kernel_rfl) (by kernel_rfl) (fun _ _ _ _ h => h) ?_
  simp only [List.take_succ_cons, List.take_zero, List.drop_succ_cons, List.drop_zero, List.eraseIdx_cons_succ, List.eraseIdx_cons_zero, Act.put, List.setIfInBounds_toArray, List.set_cons_succ, List.set_cons_zero]
  repeat (first
    | (refine wpQuiet_load_mid rfl 29 _ rfl w.heap.size 0 rfl (evC x) _ (fun X hX => by obtain ⟨nx, rfl⟩ := hX; exact rangeAt_keep r1 nx.h) Try.underlying29 rfl infoEv _ rfl ?_; simp only [Act.put, List.setIfInBounds_toArray, List.set_cons_succ, List.set_cons_zero])
    | go_big_quiet_step (fail))
  refine wpQuiet_nil ?_
  intro _ hw'
  obtain ⟨nx, hw''⟩ := hw'
  subst hw''
  have G1 := gtrans B nx.h
  have c1 := refPut ao cap l x nx.X (F.keep G1) hl
  have pX := b.keep G1
  generalize nx.X = X at *
  go_wp2_with (first
    | (go_at_call 51; (with_reducible refine c1.mono ?_); rintro e u ⟨a6, c6, rfl, O6, G6⟩; have pU := pX.keep G6; have d0 := pU.at1; have f0 := pU.free 0))
  have GU := gtrans G1 G6
  have hlen := putP_len evLt x l
  have hsz := Nat.le_trans hmlt (Nat.le_trans G1.size (Nat.le_refl _))
  refine bodyPost_end (results_none rfl _ _ _) rfl ⟨rfl, ⟨a6, c6, ?_, ?_, ?_, ?_⟩, Mb.set GU 0 _⟩
  · rw [hlen]; exact pU.set 0 _
  · rw [hlen]; exact own_sl O6
  · intro j v hv
    obtain ⟨g, o, e, c⟩ := own_flat O6 j v hv
    refine ⟨g, o, e, ?_⟩
    have hg : X.heap.size ≤ g := by
      obtain ⟨gg, cc, e2, hb2, _⟩ := O6.form (by omega)
      have e3 : a6 = some ⟨gg, 0, none⟩ := by simpa using congrArg (fun v => match v with | Value.slice a _ _ => a | _ => none) e2
      rw [e3] at e
      cases e
      exact hb2
    rw [World.cell?_of_block (Below.heap_setCell u _ _ g (by show g ≠ m; have := G1.size; omega))]
    exact c
  · intro b' o' e
    rcases O6.2 with ⟨e2, h0⟩ | ⟨gg, cc, cur, e2, hb2, hh2, _⟩
    · omega
    · have e3 : a6 = some ⟨gg, 0, none⟩ := by simpa using congrArg (fun v => match v with | Value.slice a _ _ => a | _ => none) e2
      rw [e3] at e
      have e4 : gg = b' := by simpa using congrArg (fun v => match v with | some (⟨a, _, _⟩ : Addr) => a | _ => 0) e
      subst e4
      exact ⟨cur, _, (Below.heap_setCell u _ _ gg (by show gg ≠ m; have := G1.size; omega)).trans hh2⟩

end Go.Proofs.Ytoheombjbndolab
