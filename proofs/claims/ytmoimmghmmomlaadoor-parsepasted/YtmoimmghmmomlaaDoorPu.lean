/- The parts of an expression without operands: their contracts. -/
import Derived.Test.YtmoimmghmmomlaaDoorPt
namespace Go.Proofs.YtmoimmghmmomlaaDoor
open Go.RowKit Go.BigFrame
set_option linter.unusedVariables false
set_option linter.unusedSimpArgs false

def NdAt (w : World) (b : Nat) (n : Nd) : Prop := w.heap[b]? = some (.cells (ndA n) 58 (0, 0))
theorem NdAt.lt {w : World} {b : Nat} {n : Nd} (h : NdAt w b n) : b < w.heap.size := lt_of_block h
theorem NdAt.keep {w u : World} {b : Nat} {n : Nd} (h : NdAt w b n) (G : Below w.heap.size w u) : NdAt u b n := (G.block b h.lt).trans h
theorem NdAt.new (w : World) (n : Nd) : NdAt (w.alloc (.cells (ndA n) 58)) w.heap.size n := heap_alloc_new _ _
theorem NdAt.at {w : World} {b : Nat} {n : Nd} (h : NdAt w b n) : w.cell? ⟨b, 0, none⟩ = some (.int .i64 n.op) ∧ w.cell? ⟨b, 1, none⟩ = some (.int .i64 n.n) ∧ w.cell? ⟨b, 2, none⟩ = some (.string n.v) ∧ w.cell? ⟨b, 3, none⟩ = some (.string n.x) ∧ w.cell? ⟨b, 4, none⟩ = some (.int .i64 n.l) ∧ w.cell? ⟨b, 5, none⟩ = some (.int .i64 n.r) := by
  unfold NdAt ndA at h
  refine ⟨?_, ?_, ?_, ?_, ?_, ?_⟩ <;> simp [World.cell?, h]
theorem NdAt.free {w : World} {b : Nat} {n : Nd} (h : NdAt w b n) (o : Nat) : w.frozen? ⟨b, o, none⟩ = false := by
  unfold NdAt at h
  simp [World.frozen?, h]
/-- Six cells written. -/
def set6 (w : World) (b : Nat) (a0 a1 a2 a3 a4 a5 : Value) : World := (((((w.setCell ⟨b, 0, none⟩ a0).setCell ⟨b, 1, none⟩ a1).setCell ⟨b, 2, none⟩ a2).setCell ⟨b, 3, none⟩ a3).setCell ⟨b, 4, none⟩ a4).setCell ⟨b, 5, none⟩ a5
theorem NdAt.set6 {w : World} {b : Nat} {n : Nd} (h : NdAt w b n) (a0 a1 a2 a3 a4 a5 : Value) : ((((((w.setCell ⟨b, 0, none⟩ a0).setCell ⟨b, 1, none⟩ a1).setCell ⟨b, 2, none⟩ a2).setCell ⟨b, 3, none⟩ a3).setCell ⟨b, 4, none⟩ a4).setCell ⟨b, 5, none⟩ a5).heap[b]? = some (.cells #[a0, a1, a2, a3, a4, a5] 58 (0, 0)) := by
  unfold NdAt ndA at h
  have h1 := heap_setCell_same w b 0 _ _ a0 h
  have h2 := heap_setCell_same _ b 1 _ _ a1 h1
  have h3 := heap_setCell_same _ b 2 _ _ a2 h2
  have h4 := heap_setCell_same _ b 3 _ _ a3 h3
  have h5 := heap_setCell_same _ b 4 _ _ a4 h4
  have h6 := heap_setCell_same _ b 5 _ _ a5 h5
  exact h6
theorem De.set6 {w : World} {d g : Nat} {e : Int} {ts : List Tok} {o : Nat} (h : De w d g e ts o) {b : Nat} (hb : d < b) (a0 a1 a2 a3 a4 a5 : Value) : De ((((((w.setCell ⟨b, 0, none⟩ a0).setCell ⟨b, 1, none⟩ a1).setCell ⟨b, 2, none⟩ a2).setCell ⟨b, 3, none⟩ a3).setCell ⟨b, 4, none⟩ a4).setCell ⟨b, 5, none⟩ a5) d g e ts o :=
  (((((h.other hb _).other hb _).other hb _).other hb _).other hb _).other hb _
theorem Kd.set6 {d c : Nat} {w u : World} (h : Kd d c w u) {b : Nat} (hb : c ≤ b) (a0 a1 a2 a3 a4 a5 : Value) : Kd d c w ((((((u.setCell ⟨b, 0, none⟩ a0).setCell ⟨b, 1, none⟩ a1).setCell ⟨b, 2, none⟩ a2).setCell ⟨b, 3, none⟩ a3).setCell ⟨b, 4, none⟩ a4).setCell ⟨b, 5, none⟩ a5) :=
  (((((h.far hb _).far hb _).far hb _).far hb _).far hb _).far hb _
theorem wantC (k : Int) (hk : k ≠ 0) (ts : List Tok) : (want k ts = .error ts ∧ kd ts ≠ k) ∨ ∃ t tl, ts = t :: tl ∧ t.k = k ∧ want k (t :: tl) = .ok (t, tl) := by
  cases ts with
  | nil => exact .inl ⟨rfl, fun h => hk h.symm⟩
  | cons t tl =>
    by_cases h : t.k = k
    · exact .inr ⟨t, tl, rfl, h, by simp [want, h]⟩
    · exact .inl ⟨by simp [want, h], h⟩

set_option maxHeartbeats 1000000 in
theorem operator_any (k : Int) (hk : 0 ≤ k ∧ k ≤ 100) (w : World) : Calls Tryd.prog 105 #[.int .i64 k] w fun e w' => e = .returned (.int .i64 (opN k)) ∧ w = w' := by
  unfold opN
  by_cases h1 : k = 41
  · subst h1
    go_enter Tryd.func105, Tryd.ntmps105
    go_wp2
    go_ret
    exact ⟨rfl, rfl⟩
  · by_cases h2 : k = 42
    · subst h2
      go_enter Tryd.func105, Tryd.ntmps105
      go_wp2
      go_ret
      exact ⟨rfl, rfl⟩
    · have q1 : (k == 41) = false := by simpa using h1
      have q2 : (k == 42) = false := by simpa using h2
      rw [if_neg h1, if_neg h2]
      clear h1 h2
      go_enter Tryd.func105, Tryd.ntmps105
      go_wp2
      go_ret
      exact ⟨rfl, rfl⟩
set_option maxHeartbeats 1000000 in
theorem aggOf_any (k : Int) (hk : 0 ≤ k ∧ k ≤ 100) (w : World) : Calls Tryd.prog 127 #[.int .i64 k] w fun e w' => e = .returned (.int .i64 (6 + (k - 47))) ∧ w = w' := by
  go_enter Tryd.func127, Tryd.ntmps127
  go_wp2
  go_ret
  exact ⟨rfl, rfl⟩

/-- What a part without operands comes to: the node, or the refusal. -/
def LeafP (w : World) (d g : Nat) (e0 : Int) (o : Nat) (r : Except (List Tok) (Nd × List Tok)) (e : Ending) (w' : World) : Prop :=
  match r with
  | .ok (n, tl) => e = .returned (.agg (ndA n)) ∧ De w' d g e0 tl o ∧ Kd d w.heap.size w w'
  | .error x => e = .panicked (rfC 40 (plc e0 x)) ∧ Kd d w.heap.size w w'
theorem LeafP.bad {w : World} {d g : Nat} {e0 : Int} {o : Nat} {r : Except (List Tok) (Nd × List Tok)} {x : List Tok} {w' : World} (h : r = .error x) (K : Kd d w.heap.size w w') : LeafP w d g e0 o r (.panicked (rfC 40 (plc e0 x))) w' := by subst h; exact ⟨rfl, K⟩
theorem LeafP.good {w : World} {d g : Nat} {e0 : Int} {o : Nat} {r : Except (List Tok) (Nd × List Tok)} {n : Nd} {tl : List Tok} {w' : World} (h : r = .ok (n, tl)) (D : De w' d g e0 tl o) (K : Kd d w.heap.size w w') : LeafP w d g e0 o r (.returned (.agg (ndA n))) w' := by subst h; exact ⟨rfl, D, K⟩
section
variable (w : World) (d g : Nat) (e0 : Int) (o : Nat)
set_option maxRecDepth 100000 in
set_option maxHeartbeats 4000000 in
theorem attribute_any (op : Int) (ts : List Tok) (D : De w d g e0 ts o) : Calls Tryd.prog 124 #[.pointer (some ⟨d, 0, none⟩), .int .i64 op] w (LeafP w d g e0 o (attrP op ts)) := by
  have B := galloc (Below.refl w.heap.size w) (.cells (ndA noNd) 58)
  have R := NdAt.new w noNd
  have D1 := D.keep B
  have hlt := D.lt
  go_enter Tryd.func124, Tryd.ntmps124
  go_upto_region 1 with fail
  generalize hV : w.alloc (.cells (ndA noNd) 58) = V at B R D1
  rw [show w.alloc (.cells #[.int .i64 0, .int .i64 0, .string ⟨#[]⟩, .string ⟨#[]⟩, .int .i64 0, .int .i64 0] 58) = V from hV]
  clear hV
  rcases wantC 1 (by decide) ts with ⟨h1, hb1⟩ | ⟨v, t1, rfl, hv, h1⟩
  · have c1 := name_bad V d g e0 o ts hb1 D1
    go_wp2_with (go_at_call 86; (with_reducible refine c1.mono ?_); rintro e u ⟨rfl, K2⟩)
    exact ⟨rfl, LeafP.bad (by simp only [attrP, h1]) (Kd.bg B K2)⟩
  · have c1 := name_ok V d g e0 o v t1 hv D1
    go_upto_region 2 with (go_at_call 86; (with_reducible refine c1.mono ?_); rintro e u ⟨rfl, D2, K2⟩)
    have R2 : NdAt u w.heap.size noNd := (K2.blk _ R.lt (by omega)).trans R
    replace K2 := Kd.bg B K2
    clear c1 D1
    rcases wantC 8 (by decide) t1 with ⟨h2, hb1⟩ | ⟨v2, t2, rfl, hv2, h2⟩
    · have c1 := need_bad u d g e0 o 8 t1 hb1 D2
      go_wp2_with (go_at_call 49; (with_reducible refine c1.mono ?_); rintro e u2 ⟨rfl, K3⟩)
      exact ⟨rfl, LeafP.bad (by simp only [attrP, h1, h2]) (K2.gt K3)⟩
    · have c1 := need_ok u d g e0 o 8 v2 t2 hv2 D2
      go_upto_region 3 with (go_at_call 49; (with_reducible refine c1.mono ?_); rintro e u2 ⟨rfl, D3, K3⟩)
      have R3 : NdAt u2 w.heap.size noNd := (K3.blk _ R2.lt (by omega)).trans R2
      replace K3 := K2.gt K3
      clear c1 D2
      rcases wantC 1 (by decide) t2 with ⟨h3, hb1⟩ | ⟨v3, t3, rfl, hv3, h3⟩
      · have c1 := name_bad u2 d g e0 o t2 hb1 D3
        go_wp2_with (go_at_call 86; (with_reducible refine c1.mono ?_); rintro e u3 ⟨rfl, K4⟩)
        exact ⟨rfl, LeafP.bad (by simp only [attrP, h1, h2, h3]) (K3.gt K4)⟩
      · have c1 := name_ok u2 d g e0 o v3 t3 hv3 D3
        clear hv hv2 hv3
        go_wp2_with (go_at_call 86; (with_reducible refine c1.mono ?_); rintro e u3 ⟨rfl, D4, K4⟩; have R4 : NdAt u3 w.heap.size noNd := (K4.blk _ R3.lt (by omega)).trans R3; obtain ⟨r0, r1, r2, r3, r4, r5⟩ := R4.at; have rf := R4.free)
        (try simp only [Exit.inBlock, Exit.then])
        refine bodyPost_ret (results_cell_row rfl _ _ w.heap.size 58 (ndA ⟨op, 0, v.t, v3.t, -1, -1⟩) (0, 0) _ rfl (R4.set6 _ _ _ _ _ _) Tryd.underlying58 rfl infoNdS) rfl ?_
        exact LeafP.good (by simp only [attrP, h1, h2, h3]) (D4.set6 hlt _ _ _ _ _ _) ((K3.gt K4).set6 (Nat.le_refl _) _ _ _ _ _ _)
set_option maxRecDepth 100000 in
set_option maxHeartbeats 4000000 in
theorem count_any (t : Tok) (ts : List Tok) (D : De w d g e0 (t :: ts) o) : Calls Tryd.prog 125 #[.pointer (some ⟨d, 0, none⟩)] w (LeafP w d g e0 o (countP ts)) := by
  have B := galloc (Below.refl w.heap.size w) (.cells (ndA noNd) 58)
  have R := NdAt.new w noNd
  have D1 := D.keep B
  have hlt := D.lt
  go_enter Tryd.func125, Tryd.ntmps125
  go_upto_region 1 with fail
  generalize hV : w.alloc (.cells (ndA noNd) 58) = V at B R D1
  rw [show w.alloc (.cells #[.int .i64 0, .int .i64 0, .string ⟨#[]⟩, .string ⟨#[]⟩, .int .i64 0, .int .i64 0] 58) = V from hV]
  clear hV
  have c0 := pass_any V d g e0 o t ts D1
  go_upto_region 2 with (go_at_call 68; (with_reducible refine c0.mono ?_); rintro e u ⟨rfl, D2, K2⟩)
  have R2 : NdAt u w.heap.size noNd := (K2.blk _ R.lt (by omega)).trans R
  replace K2 := Kd.bg B K2
  clear c0 D1
  rcases wantC 3 (by decide) ts with ⟨h1, hb1⟩ | ⟨v, t1, rfl, hv, h1⟩
  · have c1 := need_bad u d g e0 o 3 ts hb1 D2
    go_wp2_with (go_at_call 49; (with_reducible refine c1.mono ?_); rintro e u2 ⟨rfl, K3⟩)
    exact ⟨rfl, LeafP.bad (by simp only [countP, h1]) (K2.gt K3)⟩
  · have c1 := need_ok u d g e0 o 3 v t1 hv D2
    go_upto_region 3 with (go_at_call 49; (with_reducible refine c1.mono ?_); rintro e u2 ⟨rfl, D3, K3⟩)
    have R3 : NdAt u2 w.heap.size noNd := (K3.blk _ R2.lt (by omega)).trans R2
    replace K3 := K2.gt K3
    clear c1 D2
    rcases wantC 1 (by decide) t1 with ⟨h2, hb1⟩ | ⟨v2, t2, rfl, hv2, h2⟩
    · have c1 := name_bad u2 d g e0 o t1 hb1 D3
      go_wp2_with (go_at_call 86; (with_reducible refine c1.mono ?_); rintro e u3 ⟨rfl, K4⟩)
      exact ⟨rfl, LeafP.bad (by simp only [countP, h1, h2]) (K3.gt K4)⟩
    · have c1 := name_ok u2 d g e0 o v2 t2 hv2 D3
      go_upto_region 4 with (go_at_call 86; (with_reducible refine c1.mono ?_); rintro e u3 ⟨rfl, D4, K4⟩)
      have R4 : NdAt u3 w.heap.size noNd := (K4.blk _ R3.lt (by omega)).trans R3
      replace K4 := K3.gt K4
      clear c1 D3
      rcases wantC 4 (by decide) t2 with ⟨h3, hb1⟩ | ⟨v3, t3, rfl, hv3, h3⟩
      · have c1 := need_bad u3 d g e0 o 4 t2 hb1 D4
        go_wp2_with (go_at_call 49; (with_reducible refine c1.mono ?_); rintro e u4 ⟨rfl, K5⟩)
        exact ⟨rfl, LeafP.bad (by simp only [countP, h1, h2, h3]) (K4.gt K5)⟩
      · have c1 := need_ok u3 d g e0 o 4 v3 t3 hv3 D4
        clear hv hv2 hv3
        go_wp2_with (go_at_call 49; (with_reducible refine c1.mono ?_); rintro e u4 ⟨rfl, D5, K5⟩; have R5 : NdAt u4 w.heap.size noNd := (K5.blk _ R4.lt (by omega)).trans R4; obtain ⟨r0, r1, r2, r3, r4, r5⟩ := R5.at; have rf := R5.free)
        (try simp only [Exit.inBlock, Exit.then])
        refine bodyPost_ret (results_cell_row rfl _ _ w.heap.size 58 (ndA ⟨5, 0, v2.t, eS, -1, -1⟩) (0, 0) _ rfl (R5.set6 _ _ _ _ _ _) Tryd.underlying58 rfl infoNdS) rfl ?_
        exact LeafP.good (by simp only [countP, h1, h2, h3]) (D5.set6 hlt _ _ _ _ _ _) ((K4.gt K5).set6 (Nat.le_refl _) _ _ _ _ _ _)
set_option maxRecDepth 100000 in
set_option maxHeartbeats 4000000 in
theorem aggregate_any (t : Tok) (ts : List Tok) (hk : 47 ≤ t.k ∧ t.k ≤ 52) (D : De w d g e0 (t :: ts) o) : Calls Tryd.prog 126 #[.pointer (some ⟨d, 0, none⟩)] w (LeafP w d g e0 o (aggP (6 + (t.k - 47)) ts)) := by
  have c00 := fun z => aggOf_any t.k (by omega) z
  obtain ⟨op, hop⟩ : ∃ op, op = 6 + (t.k - 47) := ⟨_, rfl⟩
  rw [← hop] at c00 ⊢
  clear hop hk
  have B := galloc (Below.refl w.heap.size w) (.cells (ndA noNd) 58)
  have R := NdAt.new w noNd
  have D1 := D.keep B
  have hlt := D.lt
  have f0 := tokF0
  go_enter Tryd.func126, Tryd.ntmps126
  go_upto_region 1 with fail
  generalize hV : w.alloc (.cells (ndA noNd) 58) = V at B R D1
  rw [show w.alloc (.cells #[.int .i64 0, .int .i64 0, .string ⟨#[]⟩, .string ⟨#[]⟩, .int .i64 0, .int .i64 0] 58) = V from hV]
  clear hV
  have c0 := pass_any V d g e0 o t ts D1
  simp only [tokA] at c0
  go_upto_region 2 with (first
    | (go_at_call 68; (with_reducible refine c0.mono ?_); rintro e u ⟨rfl, D2, K2⟩)
    | (go_at_call 127; (with_reducible refine (c00 _).mono ?_); rintro e u9 ⟨rfl, rfl⟩))
  have R2 : NdAt u w.heap.size noNd := (K2.blk _ R.lt (by omega)).trans R
  replace K2 := Kd.bg B K2
  clear c0 D1 c00 f0
  rcases wantC 3 (by decide) ts with ⟨h1, hb1⟩ | ⟨v, t1, rfl, hv, h1⟩
  · have c1 := need_bad u d g e0 o 3 ts hb1 D2
    go_wp2_with (go_at_call 49; (with_reducible refine c1.mono ?_); rintro e u2 ⟨rfl, K3⟩)
    exact ⟨rfl, LeafP.bad (by simp only [aggP, h1]) (K2.gt K3)⟩
  · have c1 := need_ok u d g e0 o 3 v t1 hv D2
    go_upto_region 3 with (go_at_call 49; (with_reducible refine c1.mono ?_); rintro e u2 ⟨rfl, D3, K3⟩)
    have R3 : NdAt u2 w.heap.size noNd := (K3.blk _ R2.lt (by omega)).trans R2
    replace K3 := K2.gt K3
    clear c1 D2
    have c1 := attribute_any u2 d g e0 o op t1 D3
    cases h2 : attrP op t1 with
    | error x =>
      rw [h2] at c1
      go_wp2_with (go_at_call 124; (with_reducible refine c1.mono ?_); rintro e u3 ⟨rfl, K4⟩)
      exact ⟨rfl, LeafP.bad (by simp only [aggP, h1, h2]) (K3.gt K4)⟩
    | ok r =>
      obtain ⟨n, t2⟩ := r
      rw [h2] at c1
      replace c1 : Calls Tryd.prog 124 #[.pointer (some ⟨d, 0, none⟩), .int .i64 op] u2 (fun e w' => e = .returned (.agg #[.int .i64 n.op, .int .i64 n.n, .string n.v, .string n.x, .int .i64 n.l, .int .i64 n.r]) ∧ De w' d g e0 t2 o ∧ Kd d u2.heap.size u2 w') := c1
      go_upto_region 4 with (go_at_call 124; (with_reducible refine c1.mono ?_); rintro e u3 ⟨rfl, D4, K4⟩)
      have R4 : NdAt u3 w.heap.size noNd := (K4.blk _ R3.lt (by omega)).trans R3
      replace K4 := K3.gt K4
      have hdu3 := D4.lt
      have B4 := galloc (Below.refl u3.heap.size u3) (.cells (ndA n) 58)
      have R4b := NdAt.new u3 n
      replace R4 := R4.keep B4
      replace D4 := D4.keep B4
      replace K4 := K4.gb B4
      clear c1 D3
      generalize hV : u3.alloc (.cells (ndA n) 58) = V3 at *
      rw [show u3.alloc (.cells #[.int .i64 n.op, .int .i64 n.n, .string n.v, .string n.x, .int .i64 n.l, .int .i64 n.r] 58) = V3 from hV]
      clear hV
      have hd4 := D4.lt
      rcases wantC 4 (by decide) t2 with ⟨h3, hb1⟩ | ⟨v3, t3, rfl, hv3, h3⟩
      · have c1 := need_bad V3 d g e0 o 4 t2 hb1 D4
        go_wp2_with (go_at_call 49; (with_reducible refine c1.mono ?_); rintro e u4 ⟨rfl, K5⟩)
        exact ⟨rfl, LeafP.bad (by simp only [aggP, h1, h2, h3]) (K4.gt K5)⟩
      · have c1 := need_ok V3 d g e0 o 4 v3 t3 hv3 D4
        clear hv hv3
        go_wp2_with (go_at_call 49; (with_reducible refine c1.mono ?_); rintro e u4 ⟨rfl, D5, K5⟩; have R5 : NdAt u4 w.heap.size noNd := (K5.blk _ R4.lt (by omega)).trans R4; have R5b : NdAt u4 u3.heap.size n := (K5.blk _ R4b.lt (by omega)).trans R4b; obtain ⟨r0, r1, r2, r3, r4, r5⟩ := R5.at; have rf := R5.free; obtain ⟨s0, s1, s2, s3, s4, s5⟩ := R5b.at)
        (try simp only [Exit.inBlock, Exit.then])
        refine bodyPost_ret (results_cell_row rfl _ _ w.heap.size 58 (ndA n) (0, 0) _ rfl (R5.set6 _ _ _ _ _ _) Tryd.underlying58 rfl infoNdS) rfl ?_
        exact LeafP.good (by simp only [aggP, h1, h2, h3]) (D5.set6 hlt _ _ _ _ _ _) ((K4.gt K5).set6 (Nat.le_refl _) _ _ _ _ _ _)
end

end Go.Proofs.YtmoimmghmmomlaaDoor
