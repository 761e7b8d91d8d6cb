/- An item. -/
import Derived.Test.YtmoimmghmmomlaaDoorQd
namespace Go.Proofs.YtmoimmghmmomlaaDoor
open Go.RowKit Go.BigFrame
set_option linter.unusedVariables false
set_option linter.unusedSimpArgs false

def itA (i : It) (v : Value) : Array Value := #[.bool i.neg, v, .string i.v, .int .i64 i.lo, .int .i64 i.hi]
def noIt : It := ⟨false, [], eS, 0, 0⟩
abbrev nilV : Value := .slice none 0 0
theorem infoIt : (Tryd.prog.info? 117).map (fun i => (i.zero, i.size, i.bytes)) = some (some (.agg (itA noIt nilV)), 5, 64) := by kernel_rfl
theorem infoItS : (Tryd.prog.info? 117).map (·.size) = some 5 := by kernel_rfl
def ItAt (w : World) (b : Nat) (i : It) (v : Value) : Prop := w.heap[b]? = some (.cells (itA i v) 117 (0, 0))
theorem ItAt.lt {w : World} {b : Nat} {i : It} {v : Value} (h : ItAt w b i v) : b < w.heap.size := lt_of_block h
theorem ItAt.keep {w u : World} {b : Nat} {i : It} {v : Value} (h : ItAt w b i v) (G : Below w.heap.size w u) : ItAt u b i v := (G.block b h.lt).trans h
theorem ItAt.kd {w u : World} {b d : Nat} {i : It} {v : Value} (h : ItAt w b i v) (hd : d < b) (G : Kd d w.heap.size w u) : ItAt u b i v := (G.blk b h.lt (by omega)).trans h
theorem ItAt.new (w : World) (i : It) (v : Value) : ItAt (w.alloc (.cells (itA i v) 117)) w.heap.size i v := heap_alloc_new _ _
theorem ItAt.at {w : World} {b : Nat} {i : It} {v : Value} (h : ItAt w b i v) : w.cell? ⟨b, 0, none⟩ = some (.bool i.neg) ∧ w.cell? ⟨b, 1, none⟩ = some v ∧ w.cell? ⟨b, 2, none⟩ = some (.string i.v) ∧ w.cell? ⟨b, 3, none⟩ = some (.int .i64 i.lo) ∧ w.cell? ⟨b, 4, none⟩ = some (.int .i64 i.hi) := by
  unfold ItAt itA at h
  refine ⟨?_, ?_, ?_, ?_, ?_⟩ <;> simp [World.cell?, h]
theorem ItAt.free {w : World} {b : Nat} {i : It} {v : Value} (h : ItAt w b i v) (o : Nat) : w.frozen? ⟨b, o, none⟩ = false := by
  unfold ItAt at h
  simp [World.frozen?, h]
theorem ItAt.set5 {w : World} {b : Nat} {i : It} {v : Value} (h : ItAt w b i v) (a0 a1 a2 a3 a4 : Value) : (((((w.setCell ⟨b, 0, none⟩ a0).setCell ⟨b, 1, none⟩ a1).setCell ⟨b, 2, none⟩ a2).setCell ⟨b, 3, none⟩ a3).setCell ⟨b, 4, none⟩ a4).heap[b]? = some (.cells #[a0, a1, a2, a3, a4] 117 (0, 0)) := by
  unfold ItAt itA at h
  have h1 := heap_setCell_same w b 0 _ _ a0 h
  have h2 := heap_setCell_same _ b 1 _ _ a1 h1
  have h3 := heap_setCell_same _ b 2 _ _ a2 h2
  have h4 := heap_setCell_same _ b 3 _ _ a3 h3
  have h5 := heap_setCell_same _ b 4 _ _ a4 h4
  exact h5
theorem ItAt.setB {w : World} {b : Nat} {i : It} {v : Value} (h : ItAt w b i v) (lo hi : Int) : ItAt ((w.setCell ⟨b, 3, none⟩ (.int .i64 lo)).setCell ⟨b, 4, none⟩ (.int .i64 hi)) b ⟨i.neg, i.ty, i.v, lo, hi⟩ v :=
  heap_setCell_same _ b 4 _ _ (.int .i64 hi) (heap_setCell_same w b 3 _ _ (.int .i64 lo) h)
theorem De.set5 {w : World} {d g : Nat} {e : Int} {ts : List Tok} {o : Nat} (h : De w d g e ts o) {b : Nat} (hb : d < b) (a0 a1 a2 a3 a4 : Value) : De (((((w.setCell ⟨b, 0, none⟩ a0).setCell ⟨b, 1, none⟩ a1).setCell ⟨b, 2, none⟩ a2).setCell ⟨b, 3, none⟩ a3).setCell ⟨b, 4, none⟩ a4) d g e ts o :=
  ((((h.other hb _).other hb _).other hb _).other hb _).other hb _
theorem Kd.set5 {d c : Nat} {w u : World} (h : Kd d c w u) {b : Nat} (hb : c ≤ b) (a0 a1 a2 a3 a4 : Value) : Kd d c w (((((u.setCell ⟨b, 0, none⟩ a0).setCell ⟨b, 1, none⟩ a1).setCell ⟨b, 2, none⟩ a2).setCell ⟨b, 3, none⟩ a3).setCell ⟨b, 4, none⟩ a4) :=
  ((((h.far hb _).far hb _).far hb _).far hb _).far hb _
theorem own_set {w : World} {base : Nat} {e : TypeId} {size : Nat} {v : Value} {n : Nat} {xs : List Value} (h : w.ownsRow base e size v n xs) {b : Nat} {cs : Array Value} {t : TypeId} (hb : w.heap[b]? = some (.cells cs t (0, 0))) (ht : t ≠ e) (o : Nat) (x : Value) : (w.setCell ⟨b, o, none⟩ x).ownsRow base e size v n xs :=
  own_of_block h (fun g' cur hg' hh => Below.heap_setCell w _ _ g' (fun e2 => by
    have e3 : g' = b := e2
    rw [e3, hb] at hh
    simp only [Option.some.injEq, Obj.cells.injEq] at hh
    exact ht hh.2.1))
theorem ItAt.own5 {w : World} {b : Nat} {i : It} {v : Value} (h : ItAt w b i v) {base : Nat} {e : TypeId} {size : Nat} {x : Value} {n : Nat} {xs : List Value} (r : w.ownsRow base e size x n xs) (he : 117 ≠ e) (a0 a1 a2 a3 a4 : Value) : (((((w.setCell ⟨b, 0, none⟩ a0).setCell ⟨b, 1, none⟩ a1).setCell ⟨b, 2, none⟩ a2).setCell ⟨b, 3, none⟩ a3).setCell ⟨b, 4, none⟩ a4).ownsRow base e size x n xs := by
  unfold ItAt itA at h
  have h1 := heap_setCell_same w b 0 _ _ a0 h
  have h2 := heap_setCell_same _ b 1 _ _ a1 h1
  have h3 := heap_setCell_same _ b 2 _ _ a2 h2
  have h4 := heap_setCell_same _ b 3 _ _ a3 h3
  exact own_set (own_set (own_set (own_set (own_set r h he 0 a0) h1 he 1 a1) h2 he 2 a2) h3 he 3 a3) h4 he 4 a4
theorem own_kd {w u : World} {base d : Nat} {e : TypeId} {size : Nat} {v : Value} {n : Nat} {xs : List Value} (h : w.ownsRow base e size v n xs) (hd : d < base) (K : Kd d w.heap.size w u) : u.ownsRow base e size v n xs :=
  own_of_block h (fun g' cur hg' hh => K.blk g' (lt_of_block hh) (by omega))
abbrev itmV (b : Nat) (i : It) (e : Ending) (w' : World) : Prop := ∃ v, e = .returned (.agg (itA i v)) ∧ w'.ownsRow b 9 1 v i.ty.length (strV i.ty)
theorem typesP_le {ts : List Tok} {l : List ByteArray} {tl : List Tok} (h : typesP ts = .ok (l, tl)) : tl.length < ts.length ∧ l.length + tl.length ≤ ts.length := by
  unfold typesP at h
  split at h
  · rename_i hk
    obtain ⟨t, r, rfl, _⟩ := kd_cons (by decide) hk
    rcases wantEC 1 (by decide) r with ⟨h1, _⟩ | ⟨v, r2, rfl, _, h1⟩
    · simp only [List.tail_cons, h1] at h; cases h
    · simp only [List.tail_cons, h1] at h
      split at h
      · cases h
      · rename_i h2
        have h3 := tyL_le _ _ _ _ _ h2
        split at h
        · cases h
        · rename_i l2 tl2 _ t9 tl3 h4
          rcases wantEC 4 (by decide) tl2 with ⟨h5, _⟩ | ⟨v5, r5, rfl, _, h5⟩
          · rw [h5] at h4; cases h4
          · rw [h5] at h4
            simp only [Except.ok.injEq, Prod.mk.injEq] at h h4
            obtain ⟨rfl, rfl⟩ := h
            obtain ⟨_, rfl⟩ := h4
            simp only [List.length_cons, List.length_nil] at *
            omega
  · rcases wantEC 1 (by decide) ts with ⟨h1, _⟩ | ⟨v, r2, rfl, _, h1⟩
    · simp only [h1] at h; cases h
    · simp only [h1, Except.ok.injEq, Prod.mk.injEq] at h
      obtain ⟨rfl, rfl⟩ := h
      simp only [List.length_cons, List.length_nil]
      omega
section
variable (w : World) (d g : Nat) (e0 : Int) (o : Nat)
set_option maxRecDepth 100000 in
set_option maxHeartbeats 4000000 in
theorem item_any (ts : List Tok) (hts : ts.length ≤ 400) (D : De w d g e0 ts o) : Calls Tryd.prog 70 #[.pointer (some ⟨d, 0, none⟩)] w (StepP w d g e0 o (itemP ts) (itmV w.heap.size)) := by
  have hlt := D.lt
  have B := galloc (Below.refl w.heap.size w) (.cells (itA noIt nilV) 117)
  have R := ItAt.new w noIt nilV
  have D1 := D.keep B
  have hbw := B.size
  go_enter Tryd.func70, Tryd.ntmps70
  go_upto_region 1 with fail
  generalize hV : w.alloc (.cells (itA noIt nilV) 117) = V at B R D1 hbw
  rw [show w.alloc (.cells #[.bool false, .slice none 0 0, .string ⟨#[]⟩, .int .i64 0, .int .i64 0] 117) = V from hV]
  clear hV
  by_cases h9 : kd ts = 9
  · obtain ⟨t0, t1, rfl, hk0⟩ := kd_cons (by decide) h9
    have c0 := has_yes V d g e0 o 9 t0 t1 hk0 D1
    go_upto_region 2 with (go_at_call 51; (with_reducible refine c0.mono ?_); rintro e u ⟨rfl, D2, K2⟩)
    replace R := R.kd hlt K2
    replace K2 := Kd.bg B K2
    simp only [List.length_cons] at hts
    have c1 := types_any u d g e0 o t1 (by omega) D2
    clear c0 D1 hk0
    cases h1 : typesP t1 with
    | error cx =>
      obtain ⟨c, x⟩ := cx
      rw [h1] at c1
      go_wp2_with (go_at_call 85; (with_reducible refine c1.mono ?_); rintro e u2 ⟨rfl, K3⟩)
      exact ⟨rfl, StepP.bad (by unfold itemP; rw [if_pos h9]; simp only [List.tail_cons, h1]) (K2.gt K3)⟩
    | ok r =>
      obtain ⟨l, t2⟩ := r
      rw [h1] at c1
      rcases wantEC 1 (by decide) t2 with ⟨h2, hb⟩ | ⟨a, t3, rfl, ha, h2⟩
      · go_wp2_with (first
          | (go_at_call 85; (with_reducible refine c1.mono ?_); rintro e u2 ⟨⟨v, rfl, N3⟩, D3, K3⟩; obtain ⟨ax, cx, rfl⟩ := own_shape N3; have c2 := name_bad u2 d g e0 o t2 hb D3)
          | (go_at_call 86; (with_reducible refine c2.mono ?_); rintro e u3 ⟨rfl, K4⟩))
        exact ⟨rfl, StepP.bad (by unfold itemP; rw [if_pos h9]; simp only [List.tail_cons, h1, h2]) ((K2.gt K3).gt K4)⟩
      · go_wp2_with (first
          | (go_at_call 85; (with_reducible refine c1.mono ?_); rintro e u2 ⟨⟨v, rfl, N3⟩, D3, K3⟩; obtain ⟨ax, cx, rfl⟩ := own_shape N3; have c2 := name_ok u2 d g e0 o a t3 ha D3)
          | (go_at_call 86; (with_reducible refine c2.mono ?_); rintro e u3 ⟨rfl, D4, K4⟩; have R4 := (R.kd hlt K3).kd hlt K4; obtain ⟨r0, r1, r2, r3, r4⟩ := R4.at; have rf := R4.free))
        (try simp only [Exit.inBlock, Exit.then])
        have N4 := own_mono (own_kd N3 (by have := K2.size; omega) K4) (by have := K2.size; omega : w.heap.size ≤ u.heap.size)
        refine bodyPost_ret (results_cell_row rfl _ _ w.heap.size 117 (itA ⟨true, l, a.t, 1, 1⟩ (.slice ax l.length cx)) (0, 0) _ rfl (R4.set5 _ _ _ _ _) Tryd.underlying117 rfl infoItS) rfl ?_
        exact StepP.good (a := ⟨true, l, a.t, 1, 1⟩) (by unfold itemP; rw [if_pos h9]; simp only [List.tail_cons, h1, h2]) ⟨_, rfl, R4.own5 N4 (by decide) _ _ _ _ _⟩ (D4.set5 hlt _ _ _ _ _) (((K2.gt K3).gt K4).set5 (Nat.le_refl _) _ _ _ _ _)
  · have c0 := has_no V d g e0 o 9 ts h9 D1
    go_upto_region 3 with (go_at_call 51; (with_reducible refine c0.mono ?_); rintro e u ⟨rfl, rfl⟩)
    have c1 := types_any V d g e0 o ts (by omega) D1
    clear c0
    cases h1 : typesP ts with
    | error cx =>
      obtain ⟨c, x⟩ := cx
      rw [h1] at c1
      go_wp2_with (go_at_call 85; (with_reducible refine c1.mono ?_); rintro e u2 ⟨rfl, K3⟩)
      exact ⟨rfl, StepP.bad (by unfold itemP; rw [if_neg h9]; simp only [h1]) (Kd.bg B K3)⟩
    | ok r =>
      obtain ⟨l, t2⟩ := r
      rw [h1] at c1
      go_upto_region 4 with (go_at_call 85; (with_reducible refine c1.mono ?_); rintro e u2 ⟨⟨v, rfl, N3⟩, D3, K3⟩; obtain ⟨ax, cx, rfl⟩ := own_shape N3)
      replace R := R.kd hlt K3
      have hwu := K3.size
      replace K3 := Kd.bg B K3
      have N2 := own_mono N3 hbw
      clear c1 D1 N3
      by_cases h11 : kd t2 = 11
      · obtain ⟨t0, t3, rfl, hk0⟩ := kd_cons (by decide) h11
        have c2 := has_yes u2 d g e0 o 11 t0 t3 hk0 D3
        go_upto_region 5 with (go_at_call 51; (with_reducible refine c2.mono ?_); rintro e u3 ⟨rfl, D4, K4⟩)
        replace R := R.kd hlt K4
        replace N2 := own_kd N2 hlt K4
        replace K4 := K3.gt K4
        clear c2 hk0 D3
        rcases wantEC 1 (by decide) t3 with ⟨h2, hb⟩ | ⟨a, t4, rfl, ha, h2⟩
        · have c3 := name_bad u3 d g e0 o t3 hb D4
          go_wp2_with (go_at_call 86; (with_reducible refine c3.mono ?_); rintro e u4 ⟨rfl, K5⟩)
          exact ⟨rfl, StepP.bad (by unfold itemP; rw [if_neg h9]; simp only [h1]; rw [if_pos h11]; simp only [List.tail_cons, h2]) (K4.gt K5)⟩
        · have c3 := name_ok u3 d g e0 o a t4 ha D4
          go_wp2_with (go_at_call 86; (with_reducible refine c3.mono ?_); rintro e u4 ⟨rfl, D5, K5⟩; have R4 := R.kd hlt K5; obtain ⟨r0, r1, r2, r3, r4⟩ := R4.at; have rf := R4.free)
          (try simp only [Exit.inBlock, Exit.then])
          refine bodyPost_ret (results_cell_row rfl _ _ w.heap.size 117 (itA ⟨false, l, a.t, 1, 4⟩ (.slice ax l.length cx)) (0, 0) _ rfl (R4.set5 _ _ _ _ _) Tryd.underlying117 rfl infoItS) rfl ?_
          exact StepP.good (a := ⟨false, l, a.t, 1, 4⟩) (by unfold itemP; rw [if_neg h9]; simp only [h1]; rw [if_pos h11]; simp only [List.tail_cons, h2]) ⟨_, rfl, R4.own5 (own_kd N2 hlt K5) (by decide) _ _ _ _ _⟩ (D5.set5 hlt _ _ _ _ _) ((K4.gt K5).set5 (Nat.le_refl _) _ _ _ _ _)
      · have c2 := has_no u2 d g e0 o 11 t2 h11 D3
        go_upto_region 6 with (go_at_call 51; (with_reducible refine c2.mono ?_); rintro e u3 ⟨rfl, rfl⟩)
        clear c2
        rcases wantEC 1 (by decide) t2 with ⟨h2, hb⟩ | ⟨a, t4, rfl, ha, h2⟩
        · have c3 := name_bad u2 d g e0 o t2 hb D3
          go_wp2_with (go_at_call 86; (with_reducible refine c3.mono ?_); rintro e u4 ⟨rfl, K5⟩)
          exact ⟨rfl, StepP.bad (by unfold itemP; rw [if_neg h9]; simp only [h1]; rw [if_neg h11]; simp only [h2]) (K3.gt K5)⟩
        have c3 := name_ok u2 d g e0 o a t4 ha D3
        go_upto_region 7 with (go_at_call 86; (with_reducible refine c3.mono ?_); rintro e u4 ⟨rfl, D5, K5⟩)
        have hdu4 := D5.lt
        have B5 := galloc (Below.refl u4.heap.size u4) (.cells (itA ⟨false, l, a.t, 1, 1⟩ (.slice ax l.length cx)) 117)
        have S5 := ItAt.new u4 ⟨false, l, a.t, 1, 1⟩ (.slice ax l.length cx)
        have R5 := R.kd hlt K5
        have hwu4 := R5.lt
        replace R := R5.keep B5
        replace N2 := own_keep (own_kd N2 hlt K5) B5
        replace K5 := (K3.gt K5).gb B5
        replace D5 := D5.keep B5
        generalize hV : u4.alloc (.cells (itA ⟨false, l, a.t, 1, 1⟩ (.slice ax l.length cx)) 117) = V4 at *
        rw [show u4.alloc (.cells #[.bool false, .slice ax l.length cx, .string a.t, .int .i64 1, .int .i64 1] 117) = V4 from hV]
        generalize u4.heap.size = bs at *
        clear hV c3 ha D3 K3 B5 R5
        by_cases h5 : kd t4 = 5
        · obtain ⟨t0, t5, rfl, hk0⟩ := kd_cons (by decide) h5
          have c2 := has_yes V4 d g e0 o 5 t0 t5 hk0 D5
          go_upto_region 8 with (go_at_call 51; (with_reducible refine c2.mono ?_); rintro e u5 ⟨rfl, D6, K6⟩)
          replace R := R.kd hlt K6
          replace S5 := S5.kd hdu4 K6
          replace N2 := own_kd N2 hlt K6
          replace K6 := K5.gt K6
          have c4 := bounds_any u5 d g e0 o t5 D6
          clear c2 hk0 D5 K5
          cases h6 : boundsP t5 with
          | error cx =>
            obtain ⟨c, x⟩ := cx
            have e6 : bndP t5 = .error (c, x) := by unfold bndP; rw [h6]
            rw [e6] at c4
            go_wp2_with (go_at_call 87; (with_reducible refine c4.mono ?_); rintro e u6 ⟨rfl, K7⟩)
            exact ⟨rfl, StepP.bad (by unfold itemP; rw [if_neg h9]; simp only [h1]; rw [if_neg h11]; simp only [h2]; rw [if_pos h5]; simp only [List.tail_cons, h6]) (K6.gt K7)⟩
          | ok r =>
            obtain ⟨lo, hi, t6⟩ := r
            have e6 : bndP t5 = .ok ((lo, hi), t6) := by unfold bndP; rw [h6]
            rw [e6] at c4
            have e9 : itemP ts = .ok (⟨false, l, a.t, lo, hi⟩, t6) := by unfold itemP; rw [if_neg h9]; simp only [h1]; rw [if_neg h11]; simp only [h2]; rw [if_pos h5]; simp only [List.tail_cons, h6]
            have HE : Hid (itemP ts = .ok (⟨false, l, a.t, lo, hi⟩, t6)) := e9
            clear e9 e6 h6 h5 h2 h11 h1 h9
            go_upto_region 9 with (go_at_call 87; (with_reducible refine c4.mono ?_); rintro e u6 ⟨rfl, D7, K7⟩; have S7 := S5.kd hdu4 K7; obtain ⟨s0, s1, s2, s3, s4⟩ := S7.at; have sf := S7.free)
            have S8 := S7.setB lo hi
            have R8 : ItAt ((u6.setCell ⟨bs, 3, none⟩ (.int .i64 lo)).setCell ⟨bs, 4, none⟩ (.int .i64 hi)) w.heap.size noIt nilV := (Below.heap_setCell _ _ _ _ (by show w.heap.size ≠ bs; omega)).trans ((Below.heap_setCell _ _ _ _ (by show w.heap.size ≠ bs; omega)).trans (R.kd hlt K7))
            have N8 := own_set (own_set (own_kd N2 hlt K7) S7 (by decide) 3 (.int .i64 lo)) (heap_setCell_same u6 bs 3 _ _ (.int .i64 lo) S7) (by decide) 4 (.int .i64 hi)
            have D8 := (D7.other (p := ⟨bs, 3, none⟩) hdu4 (.int .i64 lo)).other (p := ⟨bs, 4, none⟩) hdu4 (.int .i64 hi)
            have K8 := ((K6.gt K7).far (p := ⟨bs, 3, none⟩) (by show w.heap.size ≤ bs; omega) (.int .i64 lo)).far (p := ⟨bs, 4, none⟩) (by show w.heap.size ≤ bs; omega) (.int .i64 hi)
            clear s0 s1 s2 s3 s4 sf S7 D7 K7 c4
            generalize (u6.setCell ⟨bs, 3, none⟩ (.int .i64 lo)).setCell ⟨bs, 4, none⟩ (.int .i64 hi) = W8 at *
            obtain ⟨s0, s1, s2, s3, s4⟩ := S8.at
            obtain ⟨r0, r1, r2, r3, r4⟩ := R8.at
            have rf := R8.free
            go_wp2
            (try simp only [Exit.inBlock, Exit.then])
            refine bodyPost_ret (results_cell_row rfl _ _ w.heap.size 117 (itA ⟨false, l, a.t, lo, hi⟩ (.slice ax l.length cx)) (0, 0) _ rfl (R8.set5 _ _ _ _ _) Tryd.underlying117 rfl infoItS) rfl ?_
            exact StepP.good HE.out ⟨_, rfl, R8.own5 N8 (by decide) _ _ _ _ _⟩ (D8.set5 hlt _ _ _ _ _) (K8.set5 (Nat.le_refl _) _ _ _ _ _)
        · have c2 := has_no V4 d g e0 o 5 t4 h5 D5
          have e9 : itemP ts = .ok (⟨false, l, a.t, 1, 1⟩, t4) := by unfold itemP; rw [if_neg h9]; simp only [h1]; rw [if_neg h11]; simp only [h2]; rw [if_neg h5]
          have HE : Hid (itemP ts = .ok (⟨false, l, a.t, 1, 1⟩, t4)) := e9
          clear e9 h5 h2 h11 h1 h9
          obtain ⟨s0, s1, s2, s3, s4⟩ := S5.at
          obtain ⟨r0, r1, r2, r3, r4⟩ := R.at
          have rf := R.free
          go_wp2_with (go_at_call 51; (with_reducible refine c2.mono ?_); rintro e u5 ⟨rfl, rfl⟩)
          (try simp only [Exit.inBlock, Exit.then])
          refine bodyPost_ret (results_cell_row rfl _ _ w.heap.size 117 (itA ⟨false, l, a.t, 1, 1⟩ (.slice ax l.length cx)) (0, 0) _ rfl (R.set5 _ _ _ _ _) Tryd.underlying117 rfl infoItS) rfl ?_
          exact StepP.good HE.out ⟨_, rfl, R.own5 N2 (by decide) _ _ _ _ _⟩ (D5.set5 hlt _ _ _ _ _) (K5.set5 (Nat.le_refl _) _ _ _ _ _)
end

end Go.Proofs.YtmoimmghmmomlaaDoor
