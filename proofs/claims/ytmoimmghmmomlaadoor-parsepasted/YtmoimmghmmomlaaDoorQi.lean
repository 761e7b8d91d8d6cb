/- The method query. -/
import Derived.Test.YtmoimmghmmomlaaDoorQh
namespace Go.Proofs.YtmoimmghmmomlaaDoor
open Go.RowKit Go.BigFrame
set_option linter.unusedVariables false
set_option linter.unusedSimpArgs false

theorem heap4 (w : World) (A B C D : Obj) : ((((w.alloc A).alloc B).alloc C).alloc D).heap[w.heap.size]? = some A ∧ ((((w.alloc A).alloc B).alloc C).alloc D).heap[w.heap.size + 1]? = some B ∧ ((((w.alloc A).alloc B).alloc C).alloc D).heap[w.heap.size + 1 + 1]? = some C ∧ ((((w.alloc A).alloc B).alloc C).alloc D).heap[w.heap.size + 1 + 1 + 1]? = some D := by
  have sz : ∀ (X : World) (o : Obj), (X.alloc o).heap.size = X.heap.size + 1 := fun X o => by simp
  refine ⟨?_, ?_, ?_, ?_⟩
  · rw [Below.heap_alloc _ _ _ (by simp only [sz]; omega), Below.heap_alloc _ _ _ (by simp only [sz]; omega), Below.heap_alloc _ _ _ (by simp only [sz]; omega)]
    exact heap_alloc_new _ _
  · rw [Below.heap_alloc _ _ _ (by simp only [sz]; omega), Below.heap_alloc _ _ _ (by simp only [sz]; omega), ← sz w A]
    exact heap_alloc_new _ _
  · rw [Below.heap_alloc _ _ _ (by simp only [sz]; omega), ← sz w A, ← sz _ B]
    exact heap_alloc_new _ _
  · rw [← sz w A, ← sz _ B, ← sz _ C]
    exact heap_alloc_new _ _
section
variable (w : World) (d g : Nat) (e0 : Int)
set_option maxRecDepth 100000 in
set_option maxHeartbeats 16000000 in
theorem query_any (ts : List Tok) (hts : ts.length ≤ 400) (D : De w d g e0 ts 0) : Calls Tryd.prog 29 #[.pointer (some ⟨d, 0, none⟩)] w (QueryP w d e0 (queryP e0 ts)) := by
  have hlt := D.lt
  have B := galloc (galloc (galloc (galloc (Below.refl w.heap.size w) (.cells (qyA noQ nilV nilV nilV) 39)) (.cells (spA noS nilV nilV nilV) 42)) (.cells (qyA noQ nilV nilV nilV) 39)) (.cells (spA noS nilV nilV nilV) 42)
  have Q0 : QSt ((((w.alloc (.cells (qyA noQ nilV nilV nilV) 39)).alloc (.cells (spA noS nilV nilV nilV) 42)).alloc (.cells (qyA noQ nilV nilV nilV) 39)).alloc (.cells (spA noS nilV nilV nilV) 42)) w.heap.size noQ noS nilV nilV nilV nilV nilV nilV := by
    refine ⟨?_, ?_, ?_, ?_, ⟨⟨[], Nest.nil _ _, rfl⟩, World.ownsRow_nil _ _ _ _, ⟨[], Nest.nil _ _, rfl, fun p hp => absurd hp (by simp)⟩, World.ownsRow_nil _ _ _ _, World.ownsRow_nil _ _ _ _, ⟨[], Nest.nil _ _, rfl, fun p hp => absurd hp (by simp)⟩, fun g h => by cases h⟩⟩
    · exact (heap4 w _ _ _ _).1
    · exact (heap4 w _ _ _ _).2.1
    · exact (heap4 w _ _ _ _).2.2.1
    · exact (heap4 w _ _ _ _).2.2.2
  have D0 := D.keep B
  obtain ⟨rr, hrr⟩ : ∃ rr, rr = queryP e0 ts := ⟨_, rfl⟩
  rw [← hrr]
  have HQ : Hid (rr = queryP e0 ts) := hrr
  clear hrr
  go_enter Tryd.func29, Tryd.ntmps29
  go_upto_region 3 with fail
  generalize hV : (((w.alloc (.cells (qyA noQ nilV nilV nilV) 39)).alloc (.cells (spA noS nilV nilV nilV) 42)).alloc (.cells (qyA noQ nilV nilV nilV) 39)).alloc (.cells (spA noS nilV nilV nilV) 42) = V at *
  change Code.wp _ _ _ _ ((((w.alloc (.cells (qyA noQ nilV nilV nilV) 39)).alloc (.cells (spA noS nilV nilV nilV) 42)).alloc (.cells (qyA noQ nilV nilV nilV) 39)).alloc (.cells (spA noS nilV nilV nilV) 42))
  rw [hV]
  clear hV D
  rcases wantEC 30 (by decide) ts with ⟨h1, hb⟩ | ⟨a1, t1, rfl, ha1, h1⟩
  · have c1 := need_bad V d g e0 0 30 ts hb D0
    go_wp2_with (go_at_call 49; (with_reducible refine c1.mono ?_); rintro e u ⟨rfl, K2⟩)
    exact ⟨rfl, QueryP.bad (by rw [HQ.out]; simp only [queryP, h1]) (Kd.bg B K2)⟩
  have c1 := need_ok V d g e0 0 30 a1 t1 ha1 D0
  clear ha1
  go_upto_region 4 with (go_at_call 49; (with_reducible refine c1.mono ?_); rintro e w1 ⟨rfl, D1, K1⟩)
  replace Q0 := Q0.kd hlt K1
  replace K1 := Kd.bg B K1
  clear c1 B D0
  simp only [List.length_cons] at hts
  rcases wantEC 31 (by decide) t1 with ⟨h2, hb⟩ | ⟨a2, t2, rfl, ha2, h2⟩
  · have c1 := need_bad w1 d g e0 0 31 t1 hb D1
    go_wp2_with (go_at_call 49; (with_reducible refine c1.mono ?_); rintro e u ⟨rfl, K2⟩)
    exact ⟨rfl, QueryP.bad (by rw [HQ.out]; simp only [queryP, h1, h2]) (K1.gt K2)⟩
  have c1 := need_ok w1 d g e0 0 31 a2 t2 ha2 D1
  clear ha2
  go_upto_region 5 with (go_at_call 49; (with_reducible refine c1.mono ?_); rintro e w2 ⟨rfl, D2, K2⟩)
  replace Q0 := Q0.kd hlt K2
  replace K2 := K1.gt K2
  clear c1 D1 K1
  simp only [List.length_cons] at hts
  have c1 := items_any w2 d g e0 0 t2 (by omega) D2
  cases h3 : itemsP e0 t2 with
  | error cx =>
    obtain ⟨c, x⟩ := cx
    have e6 : itmsP e0 t2 = .error (c, x) := by unfold itmsP; rw [h3]
    rw [e6] at c1
    go_wp2_with (go_at_call 50; (with_reducible refine c1.mono ?_); rintro e u6 ⟨rfl, K7⟩)
    exact ⟨rfl, QueryP.bad (by rw [HQ.out]; simp only [queryP, h1, h2, h3]) (K2.gt K7)⟩
  | ok r =>
    obtain ⟨is, sp, t3⟩ := r
    have e6 : itmsP e0 t2 = .ok ((is, sp), t3) := by unfold itmsP; rw [h3]
    rw [e6] at c1
    have hl3 := itemsP_le h3
    have HA : Hid (rr = q1a { noQ with items := is } { noS with items := sp } t3) := by
      show _ = _
      rw [HQ.out]; simp only [queryP, h1, h2, h3]
    have ht3 : t3.length ≤ 400 := by omega
    obtain ⟨f2, f3, k2, k3⟩ := Q0.at
    clear e6 h1 h2 h3 HQ hl3 hts
    go_upto_region 6 with (go_at_call 50; (with_reducible refine c1.mono ?_); rintro e w3 ⟨⟨vi, si, l, rfl, hl, NI, SI⟩, D3, K3⟩; obtain ⟨ai, ci, rfl⟩ := own_shape NI.out; obtain ⟨aj, cj, rfl⟩ := own_shape SI; have Q3 := Q0.kd hlt K3; obtain ⟨g2, g3, m2, m3⟩ := Q3.at; have x20 := m2 0; have x30 := m3 0; simp [qyA, spA] at x20 x30)
    have hw2 := K2.size
    have Q4 := Q3.both 0 0 (.slice ai l.length ci) (.slice aj sp.length cj) ⟨is, 0, 0, [], 0, eS, []⟩ ⟨sp, [], 0, 0, []⟩ (.slice ai l.length ci) nilV nilV (.slice aj sp.length cj) nilV nilV rfl rfl ⟨⟨l, NI.mono hw2, hl⟩, Q3.rows.wh, Q3.rows.ret, own_mono SI hw2, Q3.rows.swh, ⟨[], Nest.nil _ _, rfl, fun p hp => absurd hp (by simp)⟩, fun g' h1 h2 => by cases h2⟩
    have D4 := (D3.other (p := ⟨w.heap.size + 1 + 1, 0, none⟩) (by show d < w.heap.size + 1 + 1; omega) (.slice ai l.length ci)).other (p := ⟨w.heap.size + 1 + 1 + 1, 0, none⟩) (by show d < w.heap.size + 1 + 1 + 1; omega) (.slice aj sp.length cj)
    have K4 := ((K2.gt K3).far (p := ⟨w.heap.size + 1 + 1, 0, none⟩) (by show w.heap.size ≤ w.heap.size + 1 + 1; omega) (.slice ai l.length ci)).far (p := ⟨w.heap.size + 1 + 1 + 1, 0, none⟩) (by show w.heap.size ≤ w.heap.size + 1 + 1 + 1; omega) (.slice aj sp.length cj)
    generalize (w3.setCell ⟨w.heap.size + 1 + 1, 0, none⟩ (.slice ai l.length ci)).setCell ⟨w.heap.size + 1 + 1 + 1, 0, none⟩ (.slice aj sp.length cj) = WW at *
    generalize (Value.slice ai l.length ci) = vi at *
    generalize (Value.slice aj sp.length cj) = si at *
    obtain ⟨tt, htt0⟩ : ∃ tt, tt = t3 := ⟨_, rfl⟩
    rw [← htt0] at HA ht3 D4
    have htt := ht3
    clear c1 Q0 Q3 D2 D3 K2 K3 NI SI hl f2 f3 k2 k3 g2 g3 m2 m3 x20 x30 hw2 ht3 htt0
    replace HA : Hid (rr = q1a ⟨is, 0, 0, [], 0, eS, []⟩ ⟨sp, [], 0, 0, []⟩ tt) := HA
    have c2 := has_any WW d g e0 0 32 (by decide) tt D4
    go_upto_if 20 with (go_at_call 51; (with_reducible refine c2.mono ?_); rintro e w5 ⟨rfl, D5, K5⟩)
    replace Q4 := Q4.kd hlt K5
    replace K5 := K4.gt K5
    clear c2 D4 K4
    go_cut [] from 8 (fun wx => ∃ m t4, QSt wx w.heap.size ⟨is, m, 0, [], 0, eS, []⟩ ⟨sp, [], 0, 0, []⟩ vi nilV nilV si nilV nilV ∧ De wx d g e0 t4 0 ∧ Kd d w.heap.size w wx ∧ Hid (rr = q1b ⟨is, m, 0, [], 0, eS, []⟩ ⟨sp, [], 0, 0, []⟩ t4) ∧ t4.length ≤ 400)
    case first =>
      by_cases hk : kd tt = 32
      · have hh : hasT 32 tt = tt.tail := if_pos hk
        rw [hh] at D5
        have qq : (kd tt == 32) = true := by simpa using hk
        have c2 := mode_any w5 d g e0 0 tt.tail D5
        cases h1 : modeP tt.tail with
        | error cx =>
          obtain ⟨c, x⟩ := cx
          rw [h1] at c2
          go_wp2_with (go_at_call 52; (with_reducible refine c2.mono ?_); rintro e u6 ⟨rfl, K7⟩)
          exact ⟨rfl, QueryP.bad (by rw [HA.out]; simp only [q1a, optP, if_pos hk, h1]) (K5.gt K7)⟩
        | ok r =>
          obtain ⟨m, t5⟩ := r
          rw [h1] at c2
          have hl4 := modeP_le h1
          rw [List.length_tail] at hl4
          have HB : Hid (rr = q1b ⟨is, m, 0, [], 0, eS, []⟩ ⟨sp, [], 0, 0, []⟩ t5) := by show _ = _; rw [HA.out]; simp only [q1a, optP, if_pos hk, h1]
          clear h1 HA hh hk
          go_wp2_with (go_at_call 52; (with_reducible refine c2.mono ?_); rintro e u6 ⟨rfl, D6, K6⟩; have Q6 := Q4.kd hlt K6; obtain ⟨g2, g3, m2, m3⟩ := Q6.at; have x21 := m2 1; simp [qyA] at x21)
          go_meet
          exact ⟨m, t5, Q6.set2 1 (.int .i64 m) ⟨is, m, 0, [], 0, eS, []⟩ _ _ _ rfl ⟨Q6.rows.its, Q6.rows.wh, Q6.rows.ret, Q6.rows.sit, Q6.rows.swh, Q6.rows.sre, Q6.rows.ap⟩, D6.other (by show d < w.heap.size + 1 + 1; omega) _, (K5.gt K6).far (by show w.heap.size ≤ w.heap.size + 1 + 1; omega) _, HB, by omega⟩
      · have hh : hasT 32 tt = tt := if_neg hk
        rw [hh] at D5
        have qq : (kd tt == 32) = false := by simpa using hk
        have HB : Hid (rr = q1b ⟨is, 0, 0, [], 0, eS, []⟩ ⟨sp, [], 0, 0, []⟩ tt) := by show _ = _; rw [HA.out]; simp only [q1a, optP, if_neg hk]
        clear HA hh hk
        go_wp2
        go_meet
        exact ⟨0, tt, Q4, D5, K5, HB, htt⟩
    case rest =>
    clear Q4 D5 K5 HA htt
    obtain ⟨mo, tt, Q4, D4, K4, HA, htt⟩ := hcut
    obtain ⟨WW, rfl⟩ : ∃ WW, WW = wc := ⟨_, rfl⟩
    have c2 := has_any WW d g e0 0 53 (by decide) tt D4
    go_upto_if 25 with (go_at_call 51; (with_reducible refine c2.mono ?_); rintro e w5 ⟨rfl, D5, K5⟩)
    replace Q4 := Q4.kd hlt K5
    replace K5 := K4.gt K5
    clear c2 D4 K4
    go_cut [] from 8 (fun wx => ∃ m t4, QSt wx w.heap.size ⟨is, mo, m, [], 0, eS, []⟩ ⟨sp, [], 0, 0, []⟩ vi nilV nilV si nilV nilV ∧ De wx d g e0 t4 0 ∧ Kd d w.heap.size w wx ∧ Hid (rr = q1c ⟨is, mo, m, [], 0, eS, []⟩ ⟨sp, [], 0, 0, []⟩ t4) ∧ t4.length ≤ 400)
    case first =>
      by_cases hk : kd tt = 53
      · have hh : hasT 53 tt = tt.tail := if_pos hk
        rw [hh] at D5
        have qq : (kd tt == 53) = true := by simpa using hk
        have c2 := after_any w5 d g e0 0 tt.tail D5
        cases h1 : afterP tt.tail with
        | error cx =>
          obtain ⟨c, x⟩ := cx
          rw [h1] at c2
          go_wp2_with (go_at_call 53; (with_reducible refine c2.mono ?_); rintro e u6 ⟨rfl, K7⟩)
          exact ⟨rfl, QueryP.bad (by rw [HA.out]; simp only [q1b, optP, if_pos hk, h1]) (K5.gt K7)⟩
        | ok r =>
          obtain ⟨m, t5⟩ := r
          rw [h1] at c2
          have hl4 := afterP_le h1
          rw [List.length_tail] at hl4
          have HB : Hid (rr = q1c ⟨is, mo, m, [], 0, eS, []⟩ ⟨sp, [], 0, 0, []⟩ t5) := by show _ = _; rw [HA.out]; simp only [q1b, optP, if_pos hk, h1]
          clear h1 HA hh hk
          go_wp2_with (go_at_call 53; (with_reducible refine c2.mono ?_); rintro e u6 ⟨rfl, D6, K6⟩; have Q6 := Q4.kd hlt K6; obtain ⟨g2, g3, m2, m3⟩ := Q6.at; have x21 := m2 2; simp [qyA] at x21)
          go_meet
          exact ⟨m, t5, Q6.set2 2 (.int .i64 m) ⟨is, mo, m, [], 0, eS, []⟩ _ _ _ rfl ⟨Q6.rows.its, Q6.rows.wh, Q6.rows.ret, Q6.rows.sit, Q6.rows.swh, Q6.rows.sre, Q6.rows.ap⟩, D6.other (by show d < w.heap.size + 1 + 1; omega) _, (K5.gt K6).far (by show w.heap.size ≤ w.heap.size + 1 + 1; omega) _, HB, by omega⟩
      · have hh : hasT 53 tt = tt := if_neg hk
        rw [hh] at D5
        have qq : (kd tt == 53) = false := by simpa using hk
        have HB : Hid (rr = q1c ⟨is, mo, 0, [], 0, eS, []⟩ ⟨sp, [], 0, 0, []⟩ tt) := by show _ = _; rw [HA.out]; simp only [q1b, optP, if_neg hk]
        clear HA hh hk
        go_wp2
        go_meet
        exact ⟨0, tt, Q4, D5, K5, HB, htt⟩
    case rest =>
    clear Q4 D5 K5 HA htt
    obtain ⟨af, tt, Q4, D4, K4, HA, htt⟩ := hcut
    obtain ⟨WW, rfl⟩ : ∃ WW, WW = wc := ⟨_, rfl⟩
    have c2 := has_any WW d g e0 0 36 (by decide) tt D4
    go_upto_if 30 with (go_at_call 51; (with_reducible refine c2.mono ?_); rintro e w5 ⟨rfl, D5, K5⟩)
    replace Q4 := Q4.kd hlt K5
    replace K5 := K4.gt K5
    clear c2 D4 K4
    go_cut [] from 8 (fun wx => ∃ nw sw vw xw t4, QSt wx w.heap.size ⟨is, mo, af, nw, 0, eS, []⟩ ⟨sp, sw, 0, 0, []⟩ vi vw nilV si xw nilV ∧ De wx d g e0 t4 0 ∧ Kd d w.heap.size w wx ∧ Hid (rr = q2 ⟨is, mo, af, nw, 0, eS, []⟩ ⟨sp, sw, 0, 0, []⟩ t4) ∧ t4.length ≤ 400)
    case first =>
      by_cases hk : kd tt = 36
      · have hh : hasT 36 tt = tt.tail := if_pos hk
        rw [hh] at D5
        have qq : (kd tt == 36) = true := by simpa using hk
        have htl : tt.tail.length ≤ 400 := by rw [List.length_tail]; omega
        have c2 := tree_any w5 d g e0 tt.tail htl D5
        cases h1 : treeP tt.tail with
        | error cx =>
          obtain ⟨c, x⟩ := cx
          rw [h1] at c2
          go_wp2_with (go_at_call 47; (with_reducible refine c2.mono ?_); rintro e u6 ⟨rfl, K7⟩)
          exact ⟨rfl, QueryP.bad (by rw [HA.out]; simp only [q1c, optP, if_pos hk, whereP, h1]) (K5.gt K7)⟩
        | ok r =>
          obtain ⟨nw, sw, t5⟩ := r
          rw [h1] at c2
          have hl4 := treeP_le h1
          have HB : Hid (rr = q2 ⟨is, mo, af, nw, 0, eS, []⟩ ⟨sp, sw, 0, 0, []⟩ t5) := by show _ = _; rw [HA.out]; simp only [q1c, optP, if_pos hk, whereP, h1]
          have hb5 := K5.size
          clear h1 HA hh hk
          go_wp2_with (go_at_call 47; (with_reducible refine c2.mono ?_); rintro e u6 ⟨v1, v2, rfl, M1, M2, hq1, hq2, D6, K6⟩; clear hq1 hq2; have RW := Q4.rows.newWh hlt K6 hb5 M1 M2; obtain ⟨a1', k1', rfl⟩ := own_shape M1; obtain ⟨a2', k2', rfl⟩ := own_shape M2; have Q6 := Q4.kd hlt K6; obtain ⟨g2, g3, m2, m3⟩ := Q6.at; have x23 := m2 3; have x31 := m3 1; simp [qyA, spA] at x23 x31)
          go_meet
          exact ⟨nw, sw, _, _, t5, Q6.both 3 1 _ _ ⟨is, mo, af, nw, 0, eS, []⟩ ⟨sp, sw, 0, 0, []⟩ _ _ _ _ _ _ rfl rfl RW, (D6.other (by show d < w.heap.size + 1 + 1; omega) _).other (by show d < w.heap.size + 1 + 1 + 1; omega) _, ((K5.gt K6).far (by show w.heap.size ≤ w.heap.size + 1 + 1; omega) _).far (by show w.heap.size ≤ w.heap.size + 1 + 1 + 1; omega) _, HB, by omega⟩
      · have hh : hasT 36 tt = tt := if_neg hk
        rw [hh] at D5
        have qq : (kd tt == 36) = false := by simpa using hk
        have HB : Hid (rr = q2 ⟨is, mo, af, [], 0, eS, []⟩ ⟨sp, [], 0, 0, []⟩ tt) := by show _ = _; rw [HA.out]; simp only [q1c, optP, if_neg hk]
        clear HA hh hk
        go_wp2
        go_meet
        exact ⟨[], [], nilV, nilV, tt, Q4, D5, K5, HB, htt⟩
    case rest =>
    clear Q4 D5 K5 HA htt
    obtain ⟨nw, sw, vw, xw, tt, Q4, D4, K4, HA, htt⟩ := hcut
    obtain ⟨WW, rfl⟩ : ∃ WW, WW = wc := ⟨_, rfl⟩
    go_upto_region 12 with fail
    rcases wantEC 37 (by decide) tt with ⟨h1, hb⟩ | ⟨a1, t1, rfl, ha1, h1⟩
    · have c1 := need_bad WW d g e0 0 37 tt hb D4
      go_wp2_with (go_at_call 49; (with_reducible refine c1.mono ?_); rintro e u ⟨rfl, K2⟩)
      exact ⟨rfl, QueryP.bad (by rw [HA.out]; simp only [q2, h1]) (K4.gt K2)⟩
    have c1 := need_ok WW d g e0 0 37 a1 t1 ha1 D4
    clear ha1
    simp only [List.length_cons] at htt
    go_upto_region 13 with (go_at_call 49; (with_reducible refine c1.mono ?_); rintro e w1 ⟨rfl, D5, K5⟩)
    replace Q4 := Q4.kd hlt K5
    replace K5 := K4.gt K5
    clear c1 D4 K4
    rcases wantEC 2 (by decide) t1 with ⟨h2, hb⟩ | ⟨n2, t2, rfl, ha2, h2⟩
    · have c1 := need_bad w1 d g e0 0 2 t1 hb D5
      go_wp2_with (go_at_call 49; (with_reducible refine c1.mono ?_); rintro e u ⟨rfl, K2⟩)
      exact ⟨rfl, QueryP.bad (by rw [HA.out]; simp only [q2, h1, h2]) (K5.gt K2)⟩
    have c1 := need_ok w1 d g e0 0 2 n2 t2 ha2 D5
    simp only [tokA] at c1
    clear ha2
    simp only [List.length_cons] at htt
    have HB : Hid (rr = q3 ⟨is, mo, af, nw, n2.n, eS, []⟩ ⟨sp, sw, n2.a, 0, []⟩ t2) := by show _ = _; rw [HA.out]; simp only [q2, h1, h2]
    clear HA h1 h2
    go_upto_region 14 with (go_at_call 49; (with_reducible refine c1.mono ?_); rintro e w2 ⟨rfl, D6, K6⟩)
    replace Q4 := Q4.kd hlt K6
    replace K6 := K5.gt K6
    have hlb : w.heap.size + 1 + 1 + 1 < w2.heap.size := lt_of_block Q4.sb
    have B7 := galloc (Below.refl w2.heap.size w2) (.cells (tokA n2) 79)
    have R7 := TokAt.new w2 n2
    replace Q4 := Q4.keep B7
    replace D6 := D6.keep B7
    replace K6 := K6.gb B7
    generalize hV7 : w2.alloc (.cells (tokA n2) 79) = V7 at *
    change Code.wp _ _ _ _ (w2.alloc (.cells (tokA n2) 79))
    rw [hV7]
    generalize w2.heap.size = b7 at *
    clear hV7 c1 B7 D5 K5
    obtain ⟨y0, y1, y2, y3⟩ := R7.at
    obtain ⟨g2, g3, m2, m3⟩ := Q4.at
    have x24 := m2 4
    have x32 := m3 2
    simp [qyA, spA] at x24 x32
    have l7 := R7.lt
    clear m2 m3
    go_cut [] from 8 (fun wx => QSt wx w.heap.size ⟨is, mo, af, nw, n2.n, eS, []⟩ ⟨sp, sw, n2.a, 0, []⟩ vi vw nilV si xw nilV ∧ De wx d g e0 t2 0 ∧ Kd d w.heap.size w wx)
    case first =>
      go_region
      all_goals
        go_wp2
        go_meet
        exact ⟨(Q4.both 4 2 _ _ ⟨is, mo, af, nw, n2.n, eS, []⟩ ⟨sp, sw, n2.a, 0, []⟩ _ _ _ _ _ _ rfl rfl ⟨Q4.rows.its, Q4.rows.wh, Q4.rows.ret, Q4.rows.sit, Q4.rows.swh, Q4.rows.sre, Q4.rows.ap⟩).keep (Below.refl _ _).drew, ((D6.other (by show d < w.heap.size + 1 + 1; omega) _).other (by show d < w.heap.size + 1 + 1 + 1; omega) _).keep (Below.refl _ _).drew, ((K6.far (by show w.heap.size ≤ w.heap.size + 1 + 1; omega) _).far (by show w.heap.size ≤ w.heap.size + 1 + 1 + 1; omega) _).gb (Below.refl _ _).drew⟩
    case rest =>
    clear Q4 D6 K6 R7 y0 y1 y2 y3 g2 g3 x24 x32 l7 hlb
    obtain ⟨Q4, D4, K4⟩ := hcut
    obtain ⟨WW, rfl⟩ : ∃ WW, WW = wc := ⟨_, rfl⟩
    have c2 := has_any WW d g e0 0 38 (by decide) t2 D4
    go_upto_if 49 with (go_at_call 51; (with_reducible refine c2.mono ?_); rintro e w5 ⟨rfl, D5, K5⟩)
    replace Q4 := Q4.kd hlt K5
    replace K5 := K4.gt K5
    clear c2 D4 K4
    go_cut [7] from 8 (fun _ wx => ∃ bt ba t4, QSt wx w.heap.size ⟨is, mo, af, nw, n2.n, bt, []⟩ ⟨sp, sw, n2.a, ba, []⟩ vi vw nilV si xw nilV ∧ De wx d g e0 t4 0 ∧ Kd d w.heap.size w wx ∧ Hid (rr = q4 ⟨is, mo, af, nw, n2.n, bt, []⟩ ⟨sp, sw, n2.a, ba, []⟩ t4) ∧ t4.length ≤ 400)
    case first =>
      by_cases hk : kd t2 = 38
      · have hh : hasT 38 t2 = t2.tail := if_pos hk
        rw [hh] at D5
        have qq : (kd t2 == 38) = true := by simpa using hk
        obtain ⟨t3, ht3⟩ : ∃ t3, t3 = t2.tail := ⟨_, rfl⟩
        have hl3 : t3.length ≤ t2.length := by rw [ht3, List.length_tail]; omega
        rw [← ht3] at D5
        have HC : Hid (rr = match byP t3 with | .error e => .error e | .ok (b, ts) => q4 ⟨is, mo, af, nw, n2.n, b.1, []⟩ ⟨sp, sw, n2.a, b.2, []⟩ ts) := by
          show _ = _
          rw [HB.out, ht3]
          simp only [q3, optP, if_pos hk]
          cases byP t2.tail <;> rfl
        clear HB hh hk ht3
        go_upto_region 16 with fail
        rcases wantEC 39 (by decide) t3 with ⟨h1, hb⟩ | ⟨a1, t5, rfl, ha1, h1⟩
        · have c1 := need_bad w5 d g e0 0 39 t3 hb D5
          go_wp2_with (go_at_call 49; (with_reducible refine c1.mono ?_); rintro e u ⟨rfl, K2⟩)
          exact ⟨rfl, QueryP.bad (by rw [HC.out]; simp only [byP, h1]) (K5.gt K2)⟩
        have c1 := need_ok w5 d g e0 0 39 a1 t5 ha1 D5
        clear ha1
        simp only [List.length_cons] at hl3
        go_upto_region 17 with (go_at_call 49; (with_reducible refine c1.mono ?_); rintro e w6 ⟨rfl, D6, K6⟩)
        replace Q4 := Q4.kd hlt K6
        replace K6 := K5.gt K6
        clear c1 D5 K5
        rcases wantEC 1 (by decide) t5 with ⟨h2, hb⟩ | ⟨b2, t6, rfl, hb2, h2⟩
        · have c1 := need_bad w6 d g e0 0 1 t5 hb D6
          go_wp2_with (go_at_call 49; (with_reducible refine c1.mono ?_); rintro e u ⟨rfl, K2⟩)
          exact ⟨rfl, QueryP.bad (by rw [HC.out]; simp only [byP, h1, h2]) (K6.gt K2)⟩
        have c1 := need_ok w6 d g e0 0 1 b2 t6 hb2 D6
        simp only [tokA] at c1
        clear hb2
        simp only [List.length_cons] at hl3
        have HD : Hid (rr = q4 ⟨is, mo, af, nw, n2.n, b2.t, []⟩ ⟨sp, sw, n2.a, b2.a, []⟩ t6) := by show _ = _; rw [HC.out]; simp only [byP, h1, h2]
        clear HC h1 h2
        go_upto_region 18 with (go_at_call 49; (with_reducible refine c1.mono ?_); rintro e w7 ⟨rfl, D7, K7⟩)
        replace Q4 := Q4.kd hlt K7
        replace K7 := K6.gt K7
        have hlb : w.heap.size + 1 + 1 + 1 < w7.heap.size := lt_of_block Q4.sb
        have B8 := galloc (Below.refl w7.heap.size w7) (.cells (tokA b2) 79)
        have R8 := TokAt.new w7 b2
        replace Q4 := Q4.keep B8
        replace D7 := D7.keep B8
        replace K7 := K7.gb B8
        generalize hV8 : w7.alloc (.cells (tokA b2) 79) = V8 at *
        change Code.wp _ _ _ _ (w7.alloc (.cells (tokA b2) 79))
        rw [hV8]
        generalize w7.heap.size = b8 at *
        clear hV8 c1 B8 D6 K6
        obtain ⟨y0, y1, y2, y3⟩ := R8.at
        obtain ⟨g2, g3, m2, m3⟩ := Q4.at
        have x25 := m2 5
        have x33 := m3 3
        simp [qyA, spA] at x25 x33
        have l8 := R8.lt
        clear m2 m3
        go_region
        all_goals
          go_wp2
          go_meet
          exact ⟨b2.t, b2.a, t6, (Q4.both 5 3 _ _ ⟨is, mo, af, nw, n2.n, b2.t, []⟩ ⟨sp, sw, n2.a, b2.a, []⟩ _ _ _ _ _ _ rfl rfl ⟨Q4.rows.its, Q4.rows.wh, Q4.rows.ret, Q4.rows.sit, Q4.rows.swh, Q4.rows.sre, Q4.rows.ap⟩).keep (Below.refl _ _).drew, ((D7.other (by show d < w.heap.size + 1 + 1; omega) _).other (by show d < w.heap.size + 1 + 1 + 1; omega) _).keep (Below.refl _ _).drew, ((K7.far (by show w.heap.size ≤ w.heap.size + 1 + 1; omega) _).far (by show w.heap.size ≤ w.heap.size + 1 + 1 + 1; omega) _).gb (Below.refl _ _).drew, HD, by omega⟩
      · have hh : hasT 38 t2 = t2 := if_neg hk
        rw [hh] at D5
        have qq : (kd t2 == 38) = false := by simpa using hk
        have HD : Hid (rr = q4 ⟨is, mo, af, nw, n2.n, eS, []⟩ ⟨sp, sw, n2.a, 0, []⟩ t2) := by show _ = _; rw [HB.out]; simp only [q3, optP, if_neg hk]
        clear HB hh hk
        go_wp2
        go_meet
        exact ⟨eS, 0, t2, Q4, D5, K5, HD, by omega⟩
    case rest =>
    clear Q4 D5 K5 HB htt
    obtain ⟨bt, ba, tt, Q4, D4, K4, HA, htt⟩ := hcut
    obtain ⟨WW, rfl⟩ : ∃ WW, WW = wc := ⟨_, rfl⟩
    have c2 := has_any WW d g e0 0 40 (by decide) tt D4
    go_upto_if 61 with (go_at_call 51; (with_reducible refine c2.mono ?_); rintro e w5 ⟨rfl, D5, K5⟩)
    replace Q4 := Q4.kd hlt K5
    replace K5 := K4.gt K5
    clear c2 D4 K4
    go_cut [] from 8 (fun wx => ∃ rt rs vr xr t4, QSt wx w.heap.size ⟨is, mo, af, nw, n2.n, bt, rt⟩ ⟨sp, sw, n2.a, ba, rs⟩ vi vw vr si xw xr ∧ De wx d g e0 t4 0 ∧ Kd d w.heap.size w wx ∧ Hid (rr = q5 ⟨is, mo, af, nw, n2.n, bt, rt⟩ ⟨sp, sw, n2.a, ba, rs⟩ t4))
    case first =>
      by_cases hk : kd tt = 40
      · have hh : hasT 40 tt = tt.tail := if_pos hk
        rw [hh] at D5
        have qq : (kd tt == 40) = true := by simpa using hk
        have htl : tt.tail.length ≤ 400 := by rw [List.length_tail]; omega
        have c2 := results_any w5 d g e0 tt.tail htl D5
        cases h1 : retP tt.tail with
        | error cx =>
          obtain ⟨c, x⟩ := cx
          rw [h1] at c2
          go_wp2_with (go_at_call 54; (with_reducible refine c2.mono ?_); rintro e u6 ⟨rfl, K7⟩)
          exact ⟨rfl, QueryP.bad (by rw [HA.out]; simp only [q4, optP, if_pos hk, h1]) (K5.gt K7)⟩
        | ok r =>
          obtain ⟨⟨rt, rs⟩, t5⟩ := r
          rw [h1] at c2
          have HB : Hid (rr = q5 ⟨is, mo, af, nw, n2.n, bt, rt⟩ ⟨sp, sw, n2.a, ba, rs⟩ t5) := by show _ = _; rw [HA.out]; simp only [q4, optP, if_pos hk, h1]
          have hb5 := K5.size
          clear h1 HA hh hk
          go_wp2_with (go_at_call 54; (with_reducible refine c2.mono ?_); rintro e u6 ⟨⟨v1, v2, lr, ls, rfl, er, es, M1, M2⟩, D6, K6⟩; have RW := Q4.rows.newRet hlt K6 hb5 M1 M2; obtain ⟨a1', k1', rfl⟩ := own_shape M1.out; obtain ⟨a2', k2', rfl⟩ := own_shape M2.out; have Q6 := Q4.kd hlt K6; obtain ⟨g2, g3, m2, m3⟩ := Q6.at; have x23 := m2 6; have x31 := m3 4; simp [qyA, spA] at x23 x31)
          go_meet
          rw [er, es] at RW
          exact ⟨rt, rs, _, _, t5, Q6.both 6 4 _ _ ⟨is, mo, af, nw, n2.n, bt, rt⟩ ⟨sp, sw, n2.a, ba, rs⟩ _ _ _ _ _ _ rfl rfl RW, (D6.other (by show d < w.heap.size + 1 + 1; omega) _).other (by show d < w.heap.size + 1 + 1 + 1; omega) _, ((K5.gt K6).far (by show w.heap.size ≤ w.heap.size + 1 + 1; omega) _).far (by show w.heap.size ≤ w.heap.size + 1 + 1 + 1; omega) _, HB⟩
      · have hh : hasT 40 tt = tt := if_neg hk
        rw [hh] at D5
        have qq : (kd tt == 40) = false := by simpa using hk
        have HB : Hid (rr = q5 ⟨is, mo, af, nw, n2.n, bt, []⟩ ⟨sp, sw, n2.a, ba, []⟩ tt) := by show _ = _; rw [HA.out]; simp only [q4, optP, if_neg hk]
        clear HA hh hk
        go_wp2
        go_meet
        exact ⟨[], [], nilV, nilV, tt, Q4, D5, K5, HB⟩
    case rest =>
    clear Q4 D5 K5 HA htt
    obtain ⟨rt, rs, vr, xr, tt, Q4, D4, K4, HA⟩ := hcut
    obtain ⟨WW, rfl⟩ : ∃ WW, WW = wc := ⟨_, rfl⟩
    go_upto_region 21 with fail
    cases tt with
    | cons tk tl =>
      have c1 := needEnd_bad WW d g e0 0 tk tl D4
      go_wp2_with (go_at_call 48; (with_reducible refine c1.mono ?_); rintro e u ⟨rfl, rfl⟩)
      exact ⟨rfl, QueryP.bad (by rw [HA.out]; rfl) K4⟩
    | nil =>
      have c1 := needEnd_ok WW d g e0 0 D4
      go_upto_region 22 with (go_at_call 48; (with_reducible refine c1.mono ?_); rintro e u ⟨rfl, rfl⟩)
      obtain ⟨l1, n1, e1⟩ := Q4.rows.its
      obtain ⟨l2, n2', e2, e2'⟩ := Q4.rows.ret
      obtain ⟨l3, n3, e3, e3'⟩ := Q4.rows.sre
      have n4 := Q4.rows.wh
      have n5 := Q4.rows.sit
      have n6 := Q4.rows.swh
      obtain ⟨o1, p1, rfl⟩ := own_shape n1.out
      obtain ⟨o2, p2, rfl⟩ := own_shape n2'.out
      obtain ⟨o3, p3, rfl⟩ := own_shape n3.out
      obtain ⟨o4, p4, rfl⟩ := own_shape n4
      obtain ⟨o5, p5, rfl⟩ := own_shape n5
      obtain ⟨o6, p6, rfl⟩ := own_shape n6
      have eq := HA.out
      have eq2 : rr = .ok (⟨is, mo, af, nw, n2.n, bt, rt⟩, ⟨sp, sw, n2.a, ba, rs⟩) := eq.trans rfl
      have HZ : Hid (rr = .ok (⟨is, mo, af, nw, n2.n, bt, rt⟩, ⟨sp, sw, n2.a, ba, rs⟩)) := eq2
      clear eq eq2 HA e1 e2 e3 e2' e3' n1 n2' n3 n4 n5 n6 c1 D4
      obtain ⟨g2, g3, m2, m3⟩ := Q4.at
      have z20 := m2 0
      have z21 := m2 1
      have z22 := m2 2
      have z23 := m2 3
      have z24 := m2 4
      have z25 := m2 5
      have z26 := m2 6
      have z30 := m3 0
      have z31 := m3 1
      have z32 := m3 2
      have z33 := m3 3
      have z34 := m3 4
      simp [qyA, spA] at z20 z21 z22 z23 z24 z25 z26 z30 z31 z32 z33 z34
      clear m2 m3
      have cq : ∀ k, WW.cell? ⟨w.heap.size, k, none⟩ = (qyA noQ nilV nilV nilV)[k]? := fun k => by simp [World.cell?, Q4.r0]
      have cs : ∀ k, WW.cell? ⟨w.heap.size + 1, k, none⟩ = (spA noS nilV nilV nilV)[k]? := fun k => by simp [World.cell?, Q4.r1]
      have fq : ∀ k, WW.frozen? ⟨w.heap.size, k, none⟩ = false := fun k => by simp [World.frozen?, Q4.r0]
      have fs : ∀ k, WW.frozen? ⟨w.heap.size + 1, k, none⟩ = false := fun k => by simp [World.frozen?, Q4.r1]
      have r00 := cq 0
      have r01 := cq 1
      have r02 := cq 2
      have r03 := cq 3
      have r04 := cq 4
      have r05 := cq 5
      have r06 := cq 6
      have r10 := cs 0
      have r11 := cs 1
      have r12 := cs 2
      have r13 := cs 3
      have r14 := cs 4
      simp [qyA, spA, noQ, noS] at r00 r01 r02 r03 r04 r05 r06 r10 r11 r12 r13 r14
      clear cq cs
      go_region
      have E0 := setv7 Q4.r0 (.slice o1 l1.length p1) (.int .i64 mo) (.int .i64 af) (.slice o4 nw.length p4) (.int .i64 n2.n) (.string bt) (.slice o2 l2.length p2)
      have E1 := (setv7_other WW (by omega : w.heap.size + 1 ≠ w.heap.size) (.slice o1 l1.length p1) (.int .i64 mo) (.int .i64 af) (.slice o4 nw.length p4) (.int .i64 n2.n) (.string bt) (.slice o2 l2.length p2)).trans Q4.r1
      have EO := fun j (hj : j ≠ w.heap.size) => setv7_other WW hj (.slice o1 l1.length p1) (.int .i64 mo) (.int .i64 af) (.slice o4 nw.length p4) (.int .i64 n2.n) (.string bt) (.slice o2 l2.length p2)
      have EK := setv7_kd K4 (Nat.le_refl w.heap.size) (.slice o1 l1.length p1) (.int .i64 mo) (.int .i64 af) (.slice o4 nw.length p4) (.int .i64 n2.n) (.string bt) (.slice o2 l2.length p2)
      generalize ((((((WW.setCell ⟨w.heap.size, 0, none⟩ (.slice o1 l1.length p1)).setCell ⟨w.heap.size, 1, none⟩ (.int .i64 mo)).setCell ⟨w.heap.size, 2, none⟩ (.int .i64 af)).setCell ⟨w.heap.size, 3, none⟩ (.slice o4 nw.length p4)).setCell ⟨w.heap.size, 4, none⟩ (.int .i64 n2.n)).setCell ⟨w.heap.size, 5, none⟩ (.string bt)).setCell ⟨w.heap.size, 6, none⟩ (.slice o2 l2.length p2) = W7 at *
      have F1 := setv5 E1 (.slice o5 sp.length p5) (.slice o6 sw.length p6) (.int .i64 n2.a) (.int .i64 ba) (.slice o3 l3.length p3)
      have F0 := (setv5_other W7 (by omega : w.heap.size ≠ w.heap.size + 1) (.slice o5 sp.length p5) (.slice o6 sw.length p6) (.int .i64 n2.a) (.int .i64 ba) (.slice o3 l3.length p3)).trans E0
      have FO := fun j (hj : j ≠ w.heap.size + 1) => setv5_other W7 hj (.slice o5 sp.length p5) (.slice o6 sw.length p6) (.int .i64 n2.a) (.int .i64 ba) (.slice o3 l3.length p3)
      have FK := setv5_kd EK (by omega : w.heap.size ≤ w.heap.size + 1) (.slice o5 sp.length p5) (.slice o6 sw.length p6) (.int .i64 n2.a) (.int .i64 ba) (.slice o3 l3.length p3)
      generalize (((((W7.setCell ⟨w.heap.size + 1, 0, none⟩ (.slice o5 sp.length p5)).setCell ⟨w.heap.size + 1, 1, none⟩ (.slice o6 sw.length p6)).setCell ⟨w.heap.size + 1, 2, none⟩ (.int .i64 n2.a)).setCell ⟨w.heap.size + 1, 3, none⟩ (.int .i64 ba)).setCell ⟨w.heap.size + 1, 4, none⟩ (.slice o3 l3.length p3)) = W8 at *
      have RR : QRows W8 w.heap.size ⟨is, mo, af, nw, n2.n, bt, rt⟩ ⟨sp, sw, n2.a, ba, rs⟩ (.slice o1 l1.length p1) (.slice o4 nw.length p4) (.slice o2 l2.length p2) (.slice o5 sp.length p5) (.slice o6 sw.length p6) (.slice o3 l3.length p3) :=
        Q4.rows.blk (fun k _ _ ⟨cs, ty, q1, q2, q3⟩ => (FO k (fun e => by subst e; rw [Q4.r1] at q1; simp at q1; exact q3 q1.2.symm)).trans (EO k (fun e => by subst e; rw [Q4.r0] at q1; simp at q1; exact q2 q1.2.symm)))
      clear z20 z21 z22 z23 z24 z25 z26 z30 z31 z32 z33 z34 r00 r01 r02 r03 r04 r05 r06 r10 r11 r12 r13 r14 fq fs g2 g3 E0 E1 EO EK FO
      go_wp2
      refine bodyPost_ret (results_rows2 rfl _ _ w.heap.size (w.heap.size + 1) 39 42 _ _ (0, 0) (0, 0) _ _ rfl rfl F0 F1 Tryd.underlying39 Tryd.underlying42 rfl rfl infoQ infoP) rfl ?_
      rw [HZ.out]
      exact ⟨_, _, _, _, _, _, rfl, RR.keep (Below.refl _ _).drew, FK.gb (Below.refl _ _).drew⟩
end

end Go.Proofs.YtmoimmghmmomlaaDoor
