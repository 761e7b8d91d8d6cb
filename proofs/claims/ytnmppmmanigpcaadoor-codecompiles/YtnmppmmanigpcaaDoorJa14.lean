/- The compiler's column: the number of an attribute's column. And what goes with it: 4 texts in one. -/
import Derived.Test.YtnmppmmanigpcaaDoorJa13
import Derived.Deep.CutRange
import Derived.Deep.RegionHeld3
import Derived.Deep.OwnRows
namespace Go.Proofs.YtnmppmmanigpcaaDoor
open Go.RowKit Go.BigFrame
set_option linter.unusedVariables false
set_option linter.unusedSimpArgs false

/-- By type where the attribute stands. -/
def colRow (L : List Ty) (x : ByteArray) : List Int := (List.range L.length).map fun i : Nat => attrI L (i : Int) x
def Cst.names (s : Cst) : List ByteArray := s.cols.map Prod.fst
/-- The column's number, and what the compiler has then. -/
def colV (s : Cst) (x : ByteArray) : Int := match colF s.names x with | some i => i | none => (s.cols.length : Int)
def colS (L : List Ty) (s : Cst) (x : ByteArray) : Cst := match colF s.names x with | some _ => s | none => { s with cols := s.cols ++ [(x, colRow L x)] }
theorem own_of_rowIs {w : World} {b base n : Nat} {f : Nat → Value} {l : List Int} {T : TypeId} (R : w.rowIs b T n f) (hb : base ≤ b) (hn : n ≤ 9223372036854775807) (hl : l.length = n) (hf : ∀ j, j < n → f j = .int .i64 (l.getD j 0)) : w.ownsRow base T 1 (.slice (some ⟨b, 0, none⟩) n n) n (fl intC l) := by
  obtain ⟨c, h1, h2, h3⟩ := R
  refine ⟨by rw [fl_len intC_sz, hl], .inr ⟨b, n, c, rfl, hb, h1, Nat.le_refl _, by unfold maxLen; omega, by omega, ?_⟩⟩
  rw [Nat.mul_one]
  refine List.ext_getElem? fun j => ?_
  by_cases hj : j < n
  · rw [List.getElem?_take_of_lt hj]
    have e1 := h3 j hj
    have e2 := fl_at intC_sz 0 l j 0 (by omega) (by omega)
    rw [Nat.mul_one, Nat.add_zero] at e2
    rw [e2, hf j hj] at *
    simpa [intC] using e1
  · rw [List.getElem?_eq_none (by rw [List.length_take]; omega), List.getElem?_eq_none (by rw [fl_len intC_sz]; omega)]
theorem colRow_len (L : List Ty) (x : ByteArray) : (colRow L x).length = L.length := by unfold colRow; simp
theorem colRow_at (L : List Ty) (x : ByteArray) {j : Nat} (h : j < L.length) : (colRow L x).getD j 0 = attrI L (j : Int) x := by
  unfold colRow
  rw [List.getD_eq_getElem?_getD, List.getElem?_map, List.getElem?_range h]
  rfl
theorem nfSl : (Tryd.prog.info? 60).map (fun i => (i.zero, i.size, i.bytes)) = some (some (.slice none 0 0), 1, 24) := by kernel_rfl
set_option maxRecDepth 100000 in
set_option maxHeartbeats 4000000 in
theorem column_any (p base : Nat) (S : Nat → Prop) (sa : Option Addr) (sc : Nat) (L : List Ty) (vi : Value) (s : Cst) (x : ByteArray) (w : World) (C : Cmp w p base S (.slice sa L.length sc) vi s) (w0 : World) (A : IsTypes w0 sa L.length L) (hw0 : w0.heap.size ≤ base) (BA : Below w0.heap.size w0 w) (hx : x.size ≤ 140737488351232) (hL : L.length * 8 ≤ 140737488351232) (hc : s.cols.length * 24 ≤ 140737488351232) :
    Calls Tryd.prog 80 #[.pointer (some ⟨p, 0, none⟩), .string x] w fun e w' => e = .returned (.int .i64 (colV s x)) ∧ CStp p base S (.slice sa L.length sc) vi w w' (colS L s x) := by
  obtain ⟨bm, vc, vl, vo, ws, rfl, I⟩ := C
  obtain ⟨al, cl, e0, hcl1, hcl2, _⟩ := own_form I.cols.own
  have hml : (s.cols.map Prod.snd).length = s.cols.length := by simp
  rw [hml] at e0
  subst e0
  obtain ⟨d0, d1, d2, d3, d4, d5⟩ := I.blk.at6
  have lk := I.map.at.look x hx
  unfold colV colS Cst.names
  cases hF : colF (s.cols.map Prod.fst) x with
  | some i =>
    rw [hF] at lk
    clear hF
    go_enter Tryd.func80, Tryd.ntmps80
    go_wp2
    go_ret
    exact ⟨rfl, _, ⟨bm, vc, _, vo, ws, rfl, I⟩, FrC.of (Below.refl _ _), fun k h => .inl h⟩
  | none =>
    rw [hF] at lk
    have HF : Hid (colF (s.cols.map Prod.fst) x = none) := hF
    clear hF
    obtain ⟨D, hD1, hD2, hD3⟩ := I.map.ex
    have hcl : s.cols.length ≤ 5864062014634 := by omega
    have kx := str_key hx
    have H2 := show Hid _ from hD2
    have H3 := show Hid (Maps.size D = s.cols.length) from hD3
    clear hD2 hD3
    go_enter Tryd.func80, Tryd.ntmps80
    go_upto_region 6 with (first
      | (at_len; refine wpList_len_own _ rfl _ 67 rfl 9 3 Tryd.underlying67 (plainElem Tryd.prog 3) bm s.cols.length D rfl hD1 ?_; rw [H3.out])
      | (at_mapUpdate; refine wpList_mapUpdate_own _ rfl _ _ _ 67 rfl 9 3 (Maps.string_keyed Tryd.underlying9) Tryd.underlying67 (plainElem Tryd.prog 3) bm s.cols.length D rfl hD1 (by unfold maxLen; omega) _ _ (.string x.data.toList) rfl rfl kx (.lit (.int .i64 (s.cols.length : Int))) [] (plainElem_int Tryd.underlying3 (nd_fw ⟨by omega, by omega⟩)) ?_; intro w1 hown1 hgrow1))
    have MX := MpX.put hD1 H2.out H3.out x hx HF.out (s.cols.length : Int) hown1
    have hne : ∀ k cur e1, w.heap[k]? = some (Obj.cells cur e1 (0, 0)) → k ≠ bm := fun k cur e1 hk e => I.map.notCells (e ▸ hk)
    have own1 : ∀ {e1 : TypeId} {sz : Nat} {v : Value} {n : Nat} {xs : List Value}, w.ownsRow base e1 sz v n xs → w1.ownsRow base e1 sz v n xs := fun {e1 sz v n xs} o => own_of_block o fun k cur _ hh => hgrow1.block k (lt_of_block hh) (fun e => hne k cur e1 hh (by cases e; rfl))
    have pb1 : Bk w1 p #[.slice sa L.length sc, vi, .map (some bm), vc, .slice al s.cols.length cl, vo] 71 := (hgrow1.block p I.blk.lt (fun e => hne p _ _ I.blk (by cases e; rfl))).trans I.blk
    have oc1 := own1 I.code
    have on1 := I.cols.map (u := w1) fun e1 s1 v n xs _ o => own1 o
    have oo1 := own1 I.opn
    have BA1 : Below w0.heap.size w0 w1 := BA.grown hgrow1 (BA.size) (fun r e => by cases e; exact Nat.le_trans hw0 I.bb)
    have hz1 := hgrow1.size
    have hmk := run_make_row' (P := Tryd.prog) 60 3 (.int .i64 0) 8 Tryd.underlying60 nfInt1 rfl .i64 .i64 L.length (by omega) (by omega)
    have R0 := World.rowIs_made w1 (.int .i64 0) L.length 3
    have B0 := galloc (Below.refl w1.heap.size w1) (.cells (madeCells #[.int .i64 0] L.length) 3)
    obtain ⟨y0, y1, y2, y3, y4, y5⟩ := pb1.at6
    have HW := show Hid _ from hown1
    have HM := show Hid ((s.cols.map Prod.snd).length = s.cols.length) from hml
    clear hown1 d0 d1 d2 d3 d4 d5 lk hD1 kx
    go_upto_region 8 with fail
    clear hmk
    generalize w1.alloc (.cells (madeCells #[.int .i64 0] L.length) 3) = V at *
    go_loopw [8, 40] (fun _ xv wr => ∃ k : Nat, k ≤ L.length ∧ xv = .int .i64 (k : Int) ∧ wr.rowIs w1.heap.size 3 L.length (fun j => .int .i64 (if j < k then attrI L (j : Int) x else 0)) ∧ Below w1.heap.size w1 wr) (fun _ xv _ => L.length - (intOf xv).toNat)
    case atStart => exact ⟨0, Nat.zero_le _, rfl, R0.congr (fun j hj => by rw [if_neg (by omega)]), B0⟩
    case round =>
      obtain ⟨k, hk, rfl, R, G⟩ := hrel
      have z0 := (G.cell (p := ⟨p, 0, none⟩) pb1.lt).trans y0
      by_cases hlt : k < L.length
      · have hki : (k : Int) < (L.length : Int) := by omega
        have c104 := attrOf_any sa L.length sc L (k : Int) x wr (A.keep (BA1.trans (G.mono (by have := BA1.size; omega))))
        generalize hav : attrI L (k : Int) x = av at *
        have HK : Hid (k < L.length) := hlt
        clear hlt
        go_upto_region 11 with (first
          | (go_at_call 96; (with_reducible refine c104.mono ?_); rintro e u ⟨rfl, gu⟩; have Ru := R.of_block (gu.block _ R.lt); have cu := Ru.cell HK.out; have fu := Ru.frozen k))
        have R2 := (Ru.set k (.int .i64 av)).congr (g := fun j => .int .i64 (if j < k + 1 then attrI L (j : Int) x else 0)) (fun j hj => by
          by_cases h : j = k
          · rw [if_pos h, if_pos (by omega), h, hav]
          · rw [if_neg h]
            by_cases h2 : j < k
            · rw [if_pos h2, if_pos (by omega)]
            · rw [if_neg h2, if_neg (by omega)])
        have G2 := gset (gtrans G gu) (p := ⟨w1.heap.size, k, none⟩) (Nat.le_refl _) (.int .i64 av)
        clear R Ru
        go_wp2
        go_roundw
        case rel => exact ⟨k + 1, HK.out, by go_num, R2, G2⟩
        case measure => have hlt := HK.out; simp [intOf]; omega
      · obtain rfl : k = L.length := by omega
        have q0 : ¬ (L.length : Int) < (L.length : Int) := by omega
        have RO : wr.ownsRow base 3 1 (.slice (some ⟨w1.heap.size, 0, none⟩) (colRow L x).length (colRow L x).length) (colRow L x).length (fl intC (colRow L x)) := by
          rw [colRow_len]
          exact own_of_rowIs R (Nat.le_trans I.bs hz1) (by omega) (colRow_len L x) fun j hj => by rw [if_pos hj, colRow_at L x hj]
        have RB : w1.heap.size < wr.heap.size := R.lt
        clear hlt R z0
        have pbr := pb1.keep G
        obtain ⟨r0, r1, r2, r3, r4, r5⟩ := pbr.at6
        have GY := galloc (Below.refl wr.heap.size wr) (.cells #[.slice (some ⟨w1.heap.size, 0, none⟩) L.length L.length] 60)
        have bn := Bk.new wr #[.slice (some ⟨w1.heap.size, 0, none⟩) L.length L.length] 60
        have hnews := World.news_of_block bn
        have G2 := gtrans G GY
        have OY : (wr.alloc (.cells #[.slice (some ⟨w1.heap.size, 0, none⟩) L.length L.length] 60)).ownsRow base 60 1 (.slice al s.cols.length cl) s.cols.length ws := by
          have := own_keep on1.own G2
          rwa [hml] at this
        have pbY := pb1.keep G2
        have hbY : base ≤ (wr.alloc (.cells #[.slice (some ⟨w1.heap.size, 0, none⟩) L.length L.length] 60)).heap.size := Nat.le_trans I.bs (Nat.le_trans hz1 G2.size)
        have hr1 : s.cols.length + 1 ≤ 9223372036854775807 := by omega
        have hr2 : ((s.cols.length + 1) + (s.cols.length + 1) / 4 + 192) * 24 ≤ 281474976710656 := by omega
        have hon : ∀ u ∈ [(Value.slice (some ⟨w1.heap.size, 0, none⟩) L.length L.length)], u.oneCell' = true := fun u hu => by simp at hu; subst hu; rfl
        have key : ∀ (g c3 : Nat) (w6 : World), w6.ownsRow base 60 1 (.slice (some ⟨g, 0, none⟩) (s.cols.length + 1) c3) (s.cols.length + 1) (ws ++ [.slice (some ⟨w1.heap.size, 0, none⟩) L.length L.length]) → (wr.alloc (.cells #[.slice (some ⟨w1.heap.size, 0, none⟩) L.length L.length] 60)).grownBy w6 (Value.slice al s.cols.length cl).ownBlock → ((Value.slice al s.cols.length cl).ownBlock = some g ∨ g = (wr.alloc (.cells #[.slice (some ⟨w1.heap.size, 0, none⟩) L.length L.length] 60)).heap.size) →
            Bk w6 p #[.slice sa L.length sc, vi, .map (some bm), vc, .slice al s.cols.length cl, vo] 71 ∧ CStp p base (fotC p bm vc (.slice al s.cols.length cl) vo) (.slice sa L.length sc) vi w (w6.setCell ⟨p, 4, none⟩ (.slice (some ⟨g, 0, none⟩) (s.cols.length + 1) c3)) { s with cols := s.cols ++ [(x, colRow L x)] } := by
          intro g c3 w6 O6 G6 hg
          have p6 := bk_far pbY OY (by decide) G6
          refine ⟨p6, ?_⟩
          have set : ∀ {e1 : TypeId} {sz : Nat} {v : Value} {n : Nat} {xs : List Value}, 71 ≠ e1 → w6.ownsRow base e1 sz v n xs → (w6.setCell ⟨p, 4, none⟩ (.slice (some ⟨g, 0, none⟩) (s.cols.length + 1) c3)).ownsRow base e1 sz v n xs := fun {e1 sz v n xs} he o => ty_set o p6 he 4 _
          have code6 := ty_far OY (own_keep oc1 G2) (by decide) G6
          have opn6 := ty_far OY (own_keep oo1 G2) (by decide) G6
          have RO6 := ty_far OY (own_keep RO GY) (by decide) G6
          have O7 : w6.ownsRow base 60 1 (.slice (some ⟨g, 0, none⟩) (s.cols.length + 1) c3) ((s.cols.map Prod.snd).length + 1) (ws ++ [.slice (some ⟨w1.heap.size, 0, none⟩) (colRow L x).length (colRow L x).length]) := by
            rw [HM.out, colRow_len]; exact O6
          have N6 := on1.snoc (u := w6) (v' := .slice (some ⟨g, 0, none⟩) (s.cols.length + 1) c3) (colRow L x) (some ⟨w1.heap.size, 0, none⟩) (colRow L x).length w1.heap.size RO6 (fun s1 v n xs o => ty_far OY (own_keep o G2) (by decide) G6) (fun q e => by
            have : w1.heap.size = q := by simpa [Value.ownBlock] using e
            omega) (Nat.le_refl _) O7
          have N7 := N6.map (u := w6.setCell ⟨p, 4, none⟩ (.slice (some ⟨g, 0, none⟩) (s.cols.length + 1) c3)) fun e1 s1 v n xs he o => set (by rcases he with rfl | rfl <;> decide) o
          have eN : s.cols.map Prod.snd ++ [colRow L x] = (s.cols ++ [(x, colRow L x)]).map Prod.snd := by simp
          rw [eN] at N7
          have eM : (fun y => if y = x then some (s.cols.length : Int) else colF (s.cols.map Prod.fst) y) = colF ((s.cols ++ [(x, colRow L x)]).map Prod.fst) := by
            funext y
            rw [List.map_append]
            show _ = colF (s.cols.map Prod.fst ++ [x]) y
            rw [colF_snoc, List.length_map]
          have M7 : MpX (w6.setCell ⟨p, 4, none⟩ (.slice (some ⟨g, 0, none⟩) (s.cols.length + 1) c3)) bm (s.cols ++ [(x, colRow L x)]).length (colF ((s.cols ++ [(x, colRow L x)]).map Prod.fst)) := by
            rw [← eM, List.length_append]
            have MY := MX.keep G2
            refine MY.of_block ((Below.heap_setCell _ _ _ bm ?_).trans (G6.block bm MY.lt fun e => ?_))
            · show bm ≠ p
              intro e
              have hb := pbY
              unfold Bk at hb
              rw [← e] at hb
              exact MY.notCells hb
            · rcases OY.2 with ⟨e2, _⟩ | ⟨g1, c1, cur1, e2, _, hh1, _⟩
              · rw [e2] at e; cases e
              · rw [e2] at e
                have : bm = g1 := by simpa [Value.ownBlock] using e
                subst this
                exact MY.notCells hh1
          have hsz : (w6.setCell ⟨p, 4, none⟩ (.slice (some ⟨g, 0, none⟩) (s.cols.length + 1) c3)).heap.size = w6.heap.size := by simp
          have hG2 := G2.size
          refine ⟨fotC p bm vc (.slice (some ⟨g, 0, none⟩) (s.cols.length + 1) c3) vo, ⟨bm, vc, _, vo, _, rfl, ⟨p6.set 4 _, set (by decide) code6, N7, set (by decide) opn6, M7, ?_, by rw [hsz]; exact Nat.le_trans hbY G6.size, I.bp, I.bb⟩⟩, ⟨G6.os.trans (G2.os.trans hgrow1.os), G6.tape.trans (G2.tape.trans hgrow1.tape), G6.output.trans (G2.output.trans hgrow1.output), ?_, fun k h1 h2 => ?_⟩, ?_⟩
          · intro q j y e hj
            by_cases hjl : j < ws.length
            · rw [List.getElem?_append_left hjl] at hj
              exact I.far q j y e hj
            · have hj2 := (List.getElem?_eq_some_iff.1 hj).1
              rw [List.length_append, List.length_singleton] at hj2
              have : j = ws.length := by omega
              rw [this, List.getElem?_append_right (Nat.le_refl _), Nat.sub_self] at hj
              simp at hj
              subst hj
              intro e2
              have h3 : w1.heap.size = q := by simpa [Value.ownBlock] using e2
              have h4 := (World.ownsRow.lt I.opn q e).2
              omega
          · rw [hsz]; exact Nat.le_trans hz1 (Nat.le_trans hG2 G6.size)
          · exact (Below.heap_setCell _ _ _ k (fun e => h2 (.inl e))).trans ((G6.block k (by omega) (fun e => h2 (.inr (.inr (.inr (.inl e.symm)))))).trans ((G2.block k (by omega)).trans (hgrow1.block k h1 (fun e => h2 (.inr (.inl (by cases e; rfl)))))))
          · rintro k (h | h | h | h | h)
            · exact .inl (.inl h)
            · exact .inl (.inr (.inl h))
            · exact .inl (.inr (.inr (.inl h)))
            · have e' : g = k := by simpa [Value.ownBlock] using h
              subst e'
              rcases hg with h1 | h1
              · exact .inl (.inr (.inr (.inr (.inl h1))))
              · right; omega
            · exact .inl (.inr (.inr (.inr (.inr h))))
        clear I on1 RO hne own1 MX H2 H3 HF
        go_wp2_with (first
          | (at_builtin; refine wpList_append_one rfl (.tmp 59) (.tmp 61) rfl Tryd.underlying38 nfSl rfl (by decide) (.slice al s.cols.length cl) base s.cols.length _ rfl OY hbY ⟨wr.heap.size, 0, none⟩ 1 [.slice (some ⟨w1.heap.size, 0, none⟩) L.length L.length] rfl rfl hnews hon hr1 hr2 ?_; intro g c3 w6 O6 G6 hg; obtain ⟨p6, P8⟩ := key g c3 w6 O6 G6 hg; have y0 := p6.at6; have y4 := p6.free 4))
        go_ret
        exact ⟨rfl, P8⟩

end Go.Proofs.YtnmppmmanigpcaaDoor
namespace Go.Proofs.YtnmppmmanigpcaaDoor
open Go.RowKit Go.BigFrame
set_option linter.unusedVariables false
set_option linter.unusedSimpArgs false

theorem Cmp.lt {w : World} {p base : Nat} {S : Nat → Prop} {vt vi : Value} {s : Cst} (h : Cmp w p base S vt vi s) : ∀ k, S k → k < w.heap.size := by
  obtain ⟨bm, vc, vl, vo, ws, rfl, h⟩ := h
  rintro k (rfl | rfl | e | e | e)
  · exact h.blk.lt
  · exact h.map.lt
  · exact (World.ownsRow.lt h.code k e).2
  · exact (World.ownsRow.lt h.cols.own k e).2
  · exact (World.ownsRow.lt h.opn k e).2
theorem FrC.bk {S : Nat → Prop} {w u : World} (F : FrC S w u) {b : Nat} {cs : Array Value} {t : TypeId} (h : Bk w b cs t) (hn : ¬ S b) : Bk u b cs t := (F.blk b h.lt hn).trans h
/-- The new instruction, as it is begun. -/
structure InR (w0 : World) (bx : Nat) (nd : Array Value) (x : Ins) (sv : Value) (wx : World) : Prop where
  ex : ∃ b, sv = .pointer (some ⟨b, 0, none⟩) ∧ w0.heap.size ≤ b ∧ Bk wx b (insC x) 74 ∧ Below w0.heap.size w0 wx
def hasCol (n : Nd) : Bool := kMent n.op && !decide (n.op = 5)
def nodI (M : ByteArray → Option Int) (s : Cst) (n : Nd) : Ins := ⟨kCod n.op, if kMent n.op = true then (M n.v).getD 0 else 0, if hasCol n = true then colV s n.x else 0, kLit n, 0⟩
def nod1 (L : List Ty) (s : Cst) (n : Nd) : Cst := if hasCol n = true then colS L s n.x else s
def nod2 (L : List Ty) (M : ByteArray → Option Int) (s : Cst) (n : Nd) : Cst := { nod1 L s n with code := (nod1 L s n).code ++ [nodI M s n] }
def lastN (l : List Nat) : Nat := l.getD (l.length - 1) 0
def landS (s : Cst) : Cst := { s with code := s.code.set (lastN s.opn) (insTo (s.code.getD (lastN s.opn) noIn) (s.code.length : Int)), opn := s.opn.dropLast }
def nodS (L : List Ty) (M : ByteArray → Option Int) (s : Cst) (n : Nd) : Cst := if n.op = 25 ∨ n.op = 26 then landS (nod2 L M s n) else nod2 L M s n
theorem sets5 {w : World} {b : Nat} {a0 a1 a2 a3 a4 : Value} {T : TypeId} (h : Bk w b #[a0, a1, a2, a3, a4] T) (x0 x1 x2 x3 x4 : Value) : Bk (((((w.setCell ⟨b, 0, none⟩ x0).setCell ⟨b, 1, none⟩ x1).setCell ⟨b, 2, none⟩ x2).setCell ⟨b, 3, none⟩ x3).setCell ⟨b, 4, none⟩ x4) b #[x0, x1, x2, x3, x4] T := by
  have := ((((h.set 0 x0).set 1 x1).set 2 x2).set 3 x3).set 4 x4
  simpa using this

end Go.Proofs.YtnmppmmanigpcaaDoor
namespace Go.Proofs.YtnmppmmanigpcaaDoor
open Go.RowKit Go.BigFrame
set_option linter.unusedVariables false
set_option linter.unusedSimpArgs false

theorem MpAt.look1 {w : World} {b n : Nat} {M : ByteArray → Option Int} (h : MpAt w b n M) (s : ByteArray) (hs : s.size ≤ 140737488351232) : (Instr.lookup 67 (.map (some b)) (.string s) false).run Tryd.prog w = .ok (.int .i64 ((M s).getD 0)) w := by
  obtain ⟨D, h1, h2⟩ := h.ex
  obtain ⟨c, hr, hc, _⟩ := h1.lookup_int (Maps.string_keyed Tryd.underlying9) Tryd.underlying67 Tryd.underlying3 (by kernel_rfl) (str_key hs)
  obtain ⟨_, e2⟩ := h2 s hs
  rw [hc] at e2
  simp only [DataW.lit.injEq, Lit.int.injEq, true_and] at e2
  rw [hr, e2]
theorem CStp.next {p base : Nat} {S : Nat → Prop} {vt vi : Value} {w u x : World} {s : Cst} {S1 : Nat → Prop} (F : FrC S w u) (V : ∀ k, S1 k → S k ∨ w.heap.size ≤ k) (h : CStp p base S1 vt vi u x s) : CStp p base S vt vi w x s := by
  obtain ⟨S2, C2, F2, V2⟩ := h
  refine ⟨S2, C2, F.trans F2 V, fun k hk => ?_⟩
  rcases V2 k hk with h1 | h1
  · exact V k h1
  · right; have := F.size; omega
theorem Cmp.cell1 {w : World} {p base : Nat} {S : Nat → Prop} {vt vi : Value} {s : Cst} (h : Cmp w p base S vt vi s) : w.cell? ⟨p, 1, none⟩ = some vi := by
  obtain ⟨bm, vc, vl, vo, ws, _, h⟩ := h
  exact h.blk.at6.2.1
theorem Cmp.base_le {w : World} {p base : Nat} {S : Nat → Prop} {vt vi : Value} {s : Cst} (h : Cmp w p base S vt vi s) : base ≤ w.heap.size := by
  obtain ⟨bm, vc, vl, vo, ws, _, h⟩ := h
  exact h.bs
theorem last_split {l : List Nat} (h : l ≠ []) : l = l.dropLast ++ [lastN l] := by
  have h2 := List.dropLast_concat_getLast h
  rw [← h2]
  unfold lastN
  rw [List.getLast_eq_getElem]
  simp
theorem quiet_look {P : Program} {o : Oper} {a : Act} {C : World → Prop} {w : World} {v : Value} {T : TypeId} {x y : Operand} {vx vy : Value} {ok : Bool} (h : (Instr.lookup T vx vy ok).run P w = .ok v w) (ho : o.op = .lookup T x y ok) (hx : a.eval x = vx) (hy : a.eval y = vy) : o.quietAt P a C w v := by
  unfold Oper.quietAt execOp
  simp only [ho, hx, hy, Sem.run_bind, h, Result.andThen_ok, Sem.run_pure]
  exact ⟨rfl, rfl⟩
/-- A block of an instruction that is none of the compiler's may turn. -/
theorem Cmp.other {w : World} {p base : Nat} {S : Nat → Prop} {vt vi : Value} {s : Cst} (h : Cmp w p base S vt vi s) {b : Nat} {cs : Array Value} (hb : Bk w b cs 74) (hS : ¬ S b) (o : Nat) (v : Value) : Cmp (w.setCell ⟨b, o, none⟩ v) p base S vt vi s := by
  obtain ⟨bm, vc, vl, vo, ws, rfl, I⟩ := h
  have hne : ∀ k, k ≠ b → (w.setCell ⟨b, o, none⟩ v).heap[k]? = w.heap[k]? := fun k hk => Below.heap_setCell _ _ _ k hk
  refine ⟨bm, vc, vl, vo, ws, rfl, ⟨(hne p fun e => hS (.inl e.symm)).trans I.blk, own_of_block2 I.code fun g e => hne g fun e2 => hS (.inr (.inr (.inl (e2 ▸ e)))), I.cols.map fun e1 s1 v1 n1 xs he o1 => ty_set o1 hb (by rcases he with rfl | rfl <;> decide) o v, ty_set I.opn hb (by decide) o v, I.map.of_block (hne bm fun e => hS (.inr (.inl e.symm))), I.far, ?_, I.bp, I.bb⟩⟩
  have : (w.setCell ⟨b, o, none⟩ v).heap.size = w.heap.size := by simp
  rw [this]
  exact I.bs
theorem FrC.setC {S : Nat → Prop} {w u : World} (F : FrC S w u) {b : Nat} (hb : w.heap.size ≤ b) (o : Nat) (v : Value) : FrC S w (u.setCell ⟨b, o, none⟩ v) :=
  ⟨F.os, F.tape, F.output, by simp; exact F.size, fun k h1 h2 => (Below.heap_setCell _ _ _ k (by show k ≠ b; omega)).trans (F.blk k h1 h2)⟩
/-- What stands ahead of write. -/
structure NdQ (w : World) (p base b : Nat) (S : Nat → Prop) (vt vi : Value) (nd : Array Value) (x : Ins) (s1 : Cst) (wx : World) : Prop where
  ex : ∃ S1, Cmp wx p base S1 vt vi s1 ∧ FrC S w wx ∧ (∀ k, S1 k → S k ∨ w.heap.size ≤ k) ∧ Bk wx b (insC x) 74 ∧ Bk wx w.heap.size nd 63 ∧ ¬ S1 b ∧ ¬ S1 w.heap.size
set_option maxRecDepth 100000 in
set_option maxHeartbeats 4000000 in
theorem node_any (p base bi nb : Nat) (S : Nat → Prop) (sa : Option Addr) (sc : Nat) (L : List Ty) (M : ByteArray → Option Int) (s : Cst) (n : Nd) (w : World) (C : Cmp w p base S (.slice sa L.length sc) (.map (some bi)) s) (w0 : World) (A : IsTypes w0 sa L.length L) (MI : MpAt w0 bi nb M) (hw0 : w0.heap.size ≤ base) (BA : Below w0.heap.size w0 w)
    (hn : n.fit) (hL : L.length * 8 ≤ 140737488351232) (hc : s.cols.length * 24 ≤ 140737488351232) (hl : s.code.length * 40 ≤ 175921860444160) (ho : n.op = 25 ∨ n.op = 26 → s.opn ≠ [] ∧ lastN s.opn < s.code.length) :
    Calls Tryd.prog 50 #[.pointer (some ⟨p, 0, none⟩), .agg (ndA n)] w fun e w' => e = .returned (.tuple #[]) ∧ CStp p base S (.slice sa L.length sc) (.map (some bi)) w w' (nodS L M s n) := by
  have B0 := galloc (Below.refl w.heap.size w) (.cells (ndA n) 63)
  have N0 := Bk.new w (ndA n) 63
  obtain ⟨nop, nn, nv, nx, nl, nr⟩ := n
  unfold ndA at *
  dsimp only at *
  obtain ⟨sf, hsf⟩ : ∃ sf, nodS L M s ⟨nop, nn, nv, nx, nl, nr⟩ = sf := ⟨_, rfl⟩
  rw [hsf]
  have HSF : Hid (nodS L M s ⟨nop, nn, nv, nx, nl, nr⟩ = sf) := hsf
  clear hsf
  go_enter Tryd.func50, Tryd.ntmps50
  go_upto_region 1 with fail
  generalize w.alloc _ = V at *
  obtain ⟨m0, m1, m2, m3, m4, m5⟩ := N0.at6
  go_cut [4] from 5 to 11 (fun sv wx => InR V w.heap.size #[.int .i64 nop, .int .i64 nn, .string nv, .string nx, .int .i64 nl, .int .i64 nr] ⟨kCod nop, 0, 0, kLit ⟨nop, nn, nv, nx, nl, nr⟩, 0⟩ sv wx)
  case first =>
    have c90 := fun u : World => kCodeOf_any nop hn.op u
    have c91 := fun u : World => kLiteral_any ⟨nop, nn, nv, nx, nl, nr⟩ u
    unfold ndA at c91
    dsimp only at c91
    have hml := N0.lt
    have hSn : ∀ u : World, Below V.heap.size V u → (u.cell? ⟨w.heap.size, 0, none⟩ = some (.int .i64 nop) ∧ u.cell? ⟨w.heap.size, 1, none⟩ = some (.int .i64 nn) ∧ u.cell? ⟨w.heap.size, 2, none⟩ = some (.string nv) ∧ u.cell? ⟨w.heap.size, 3, none⟩ = some (.string nx) ∧ u.cell? ⟨w.heap.size, 4, none⟩ = some (.int .i64 nl) ∧ u.cell? ⟨w.heap.size, 5, none⟩ = some (.int .i64 nr)) := fun u G => (N0.keep G).at6
    go_region_with (first
      | (go_at_call 78; (with_reducible refine (c90 _).mono ?_); rintro e u ⟨rfl, hu⟩; have hu' := hu.symm; subst hu')
      | (go_at_call 79; (with_reducible refine (c91 _).mono ?_); rintro e u9 ⟨rfl, g9⟩; have G9 : Below V.heap.size V u9 := (by first | exact gtrans (Below.refl _ _).drew g9 | exact gtrans (galloc (Below.refl _ _) _).drew g9 | exact gtrans (Below.refl _ _) g9 | exact gtrans (galloc (Below.refl _ _) _) g9); obtain ⟨k0, k1, k2, k3, k4, k5⟩ := hSn u9 G9; (first | (have kB := (Bk.new V #[.int .i64 0, .int .i64 0, .int .i64 0, .int .i64 0, .int .i64 0] 74).keep g9; obtain ⟨z0, z1, z2, z3, z4⟩ := kB.at5; have fB := kB.free) | (have kB := (show Bk (V.alloc (.cells #[.int .i64 0, .int .i64 0, .int .i64 0, .int .i64 0, .int .i64 0] 74)).drew V.heap.size #[.int .i64 0, .int .i64 0, .int .i64 0, .int .i64 0, .int .i64 0] 74 from Bk.new V #[.int .i64 0, .int .i64 0, .int .i64 0, .int .i64 0, .int .i64 0] 74).keep g9; obtain ⟨z0, z1, z2, z3, z4⟩ := kB.at5; have fB := kB.free) | skip)))
    all_goals
      go_wp2
      go_meet
      case rel => first
        | exact ⟨_, rfl, G9.size, Bk.new u9 _ _, galloc G9 _⟩
        | exact ⟨_, rfl, Nat.le_refl _, sets5 kB _ _ _ _ _, gset (gset (gset (gset (gset G9 (p := ⟨V.heap.size, 0, none⟩) (Nat.le_refl _) _) (p := ⟨V.heap.size, 1, none⟩) (Nat.le_refl _) _) (p := ⟨V.heap.size, 2, none⟩) (Nat.le_refl _) _) (p := ⟨V.heap.size, 3, none⟩) (Nat.le_refl _) _) (p := ⟨V.heap.size, 4, none⟩) (Nat.le_refl _) _⟩
  case rest =>
    obtain ⟨b, rfl, hb, bx, GX⟩ := hcut
    have GW := gtrans B0 GX
    have Nx := N0.keep GX
    have CX := C.keep GW
    have BX : Below w0.heap.size w0 wc := BA.trans (GW.mono BA.size)
    have FX : FrC S w wc := FrC.of GW
    have hVw := B0.size
    have hbS : ∀ k, S k → k < w.heap.size := C.lt
    unfold insC at bx
    dsimp only at bx
    have c64 := fun u : World => kMention_any nop u
    obtain ⟨d0, d1, d2, d3, d4, d5⟩ := Nx.at6
    obtain ⟨i0, i1, i2, i3, i4⟩ := bx.at5
    obtain ⟨mb, hmb⟩ : ∃ mb, kMent nop = mb := ⟨_, rfl⟩
    have HMB : Hid (kMent nop = mb) := hmb
    rw [hmb] at c64
    clear hmb
    go_upto_if 13 with (first | (go_at_call 48; (with_reducible refine (c64 _).mono ?_); rintro e u ⟨rfl, hu⟩; have hu' := hu.symm; subst hu'))
    go_cut [] from 14 to 30 (fun wx => NdQ w p base b S (.slice sa L.length sc) (.map (some bi)) #[.int .i64 nop, .int .i64 nn, .string nv, .string nx, .int .i64 nl, .int .i64 nr] (nodI M s ⟨nop, nn, nv, nx, nl, nr⟩) (nod1 L s ⟨nop, nn, nv, nx, nl, nr⟩) wx)
    case first =>
      cases mb with
      | false =>
        have eI : nodI M s ⟨nop, nn, nv, nx, nl, nr⟩ = ⟨kCod nop, 0, 0, kLit ⟨nop, nn, nv, nx, nl, nr⟩, 0⟩ := by unfold nodI hasCol; dsimp only; rw [HMB.out]; rfl
        have e1 : nod1 L s ⟨nop, nn, nv, nx, nl, nr⟩ = s := by unfold nod1 hasCol; dsimp only; rw [HMB.out]; rfl
        go_wp2
        go_meet
        case rel =>
          rw [eI, e1]
          exact ⟨S, CX, FX, fun k h => .inl h, bx, Nx, fun h => by have := hbS _ h; omega, fun h => by have := hbS _ h; omega⟩
      | true =>
        have cp := CX.cell1
        have ml := (MI.keep BX).look1 nv hn.v
        go_upto_region 3 with fail
        have p1 := fun z : Ext wc => (z.cell _ _ (lt_of_cell cp)).trans cp
        have p2 := fun z : Ext wc => (z.cell _ _ (lt_of_cell d2)).trans d2
        have lq := fun z : Ext wc => ((MI.keep BX).keep z.h).look1 nv hn.v
        have hne0 : Nonempty (Ext wc) := ⟨⟨_, Below.refl _ _⟩⟩
        refine wp_region_ext_tail 8 (by kernel_rfl) (by kernel_rfl) ?_
        simp only [List.take_succ_cons, List.take_zero, List.drop_succ_cons, List.drop_zero]
        repeat (first
          | (refine wpQuiet_want rfl fun K hK => ⟨.int .i64 ((M nv).getD 0), fun u hC => by obtain ⟨z, rfl⟩ := hC; exact quiet_look (lq z) rfl rfl rfl, hK _ ?_⟩; simp only [Act.put, List.setIfInBounds_toArray, List.set_cons_succ, List.set_cons_zero])
          | go_big_quiet_step (fail))
        refine wpQuiet_nil ?_
        intro _ hw'
        obtain ⟨ez, hw''⟩ := hw'
        subst hw''
        have bX := bx.keep ez.h
        have NX := Nx.keep ez.h
        have CY := CX.keep ez.h
        have nSb : ¬ S b := fun h => by have := hbS _ h; omega
        have nSw : ¬ S w.heap.size := fun h => by have := hbS _ h; omega
        have hltV := N0.lt
        have hbw : b ≠ w.heap.size := by omega
        have bf := bX.free 1
        have b1 := bX.at5.2.1
        have C2 := CY.other bX nSb 1 (.int .i64 ((M nv).getD 0))
        have b2 : Bk (ez.X.setCell ⟨b, 1, none⟩ (.int .i64 ((M nv).getD 0))) b #[.int .i64 (kCod nop), .int .i64 ((M nv).getD 0), .int .i64 0, .int .i64 (kLit ⟨nop, nn, nv, nx, nl, nr⟩), .int .i64 0] 74 := bX.set 1 (.int .i64 ((M nv).getD 0))
        have N2 := NX.other (b' := b) (fun h => hbw h) 1 (.int .i64 ((M nv).getD 0))
        have F2 : FrC S w (ez.X.setCell ⟨b, 1, none⟩ (.int .i64 ((M nv).getD 0))) := (FX.below ez.h).setC (by omega) 1 _
        have BY : Below w0.heap.size w0 (ez.X.setCell ⟨b, 1, none⟩ (.int .i64 ((M nv).getD 0))) := gset (BX.trans (ez.h.mono (BX.size))) (p := ⟨b, 1, none⟩) (show w0.heap.size ≤ b by have := BA.size; omega) _
        have n0 := N2.at6.1
        have n3 := N2.at6.2.2.2.1
        have b2f := b2.free 2
        have b22 := b2.at5.2.2.1
        have c92 := column_any p base S sa sc L (.map (some bi)) s nx _ C2 w0 A hw0 BY hn.x hL hc
        by_cases h5 : nop = 5
        · subst h5
          have eI : nodI M s ⟨5, nn, nv, nx, nl, nr⟩ = ⟨kCod 5, (M nv).getD 0, 0, kLit ⟨5, nn, nv, nx, nl, nr⟩, 0⟩ := by unfold nodI hasCol; dsimp only; rfl
          have e1 : nod1 L s ⟨5, nn, nv, nx, nl, nr⟩ = s := by unfold nod1 hasCol; rfl
          clear c92
          go_wp2
          go_meet
          case rel =>
            rw [eI, e1]
            exact ⟨S, C2, F2, fun k h => .inl h, b2, N2, nSb, nSw⟩
        · have h5' : (nop == 5) = false := beq_eq_false_iff_ne.2 h5
          have hcl : hasCol ⟨nop, nn, nv, nx, nl, nr⟩ = true := by unfold hasCol; dsimp only; rw [HMB.out, decide_eq_false h5]; rfl
          have eI : nodI M s ⟨nop, nn, nv, nx, nl, nr⟩ = ⟨kCod nop, (M nv).getD 0, colV s nx, kLit ⟨nop, nn, nv, nx, nl, nr⟩, 0⟩ := by unfold nodI; rw [if_pos hcl, if_pos HMB.out]
          have e1 : nod1 L s ⟨nop, nn, nv, nx, nl, nr⟩ = colS L s nx := by unfold nod1; rw [if_pos hcl]
          go_wp2_with (first
            | (go_at_call 80; (with_reducible refine c92.mono ?_); rintro e u6 ⟨rfl, S6, C6, F6, V6⟩; have b6 := F6.bk b2 nSb; have N6 := F6.bk N2 nSw; have b6f := b6.free 2; have b62 := b6.at5.2.2.1))
          go_meet
          case rel =>
            rw [eI, e1]
            have nS6 : ¬ S6 b := fun h => by
              have := b2.lt
              rcases V6 b h with h1 | h1
              · exact nSb h1
              · omega
            have nS6w : ¬ S6 w.heap.size := fun h => by
              have := N2.lt
              rcases V6 w.heap.size h with h1 | h1
              · exact nSw h1
              · omega
            refine ⟨S6, C6.other b6 nS6 2 _, (F2.trans F6 fun k h => .inl h).setC (by omega) 2 _, fun k h => ?_, b6.set 2 _, N6.other (b' := b) (fun h => hbw h) 2 _, nS6, nS6w⟩
            rcases V6 k h with h1 | h1
            · exact .inl h1
            · right; have := F2.size; omega
    case rest =>
      obtain ⟨S1, C1, F1, V1, b1, N1, n1, n1w⟩ := hcut
      have h1c : (nod1 L s ⟨nop, nn, nv, nx, nl, nr⟩).code.length = s.code.length := by
        unfold nod1 colS
        split
        · split <;> rfl
        · rfl
      have h1o : (nod1 L s ⟨nop, nn, nv, nx, nl, nr⟩).opn = s.opn := by
        unfold nod1 colS
        split
        · split <;> rfl
        · rfl
      have HF2 : Hid ((if nop = 25 ∨ nop = 26 then landS { nod1 L s ⟨nop, nn, nv, nx, nl, nr⟩ with code := (nod1 L s ⟨nop, nn, nv, nx, nl, nr⟩).code ++ [nodI M s ⟨nop, nn, nv, nx, nl, nr⟩] } else { nod1 L s ⟨nop, nn, nv, nx, nl, nr⟩ with code := (nod1 L s ⟨nop, nn, nv, nx, nl, nr⟩).code ++ [nodI M s ⟨nop, nn, nv, nx, nl, nr⟩] }) = sf) := HSF.out
      clear HSF
      generalize nod1 L s ⟨nop, nn, nv, nx, nl, nr⟩ = s1 at *
      generalize nodI M s ⟨nop, nn, nv, nx, nl, nr⟩ = x at *
      have cw := write_any p base S1 (.slice sa L.length sc) (.map (some bi)) s1 x wc C1 (by rw [h1c]; exact hl)
      have HS2 : Hid (∃ s2, { s1 with code := s1.code ++ [x] } = s2) := ⟨_, rfl⟩
      obtain ⟨xc, xi, xl, xn, xt⟩ := x
      unfold insC at b1 cw
      dsimp only at b1 cw
      obtain ⟨i0, i1, i2, i3, i4⟩ := b1.at5
      obtain ⟨s2, hs2⟩ := HS2.out
      rw [hs2] at cw HF2
      have h2o : s2.opn = s.opn := by rw [← hs2]; exact h1o
      have h2c : s2.code.length = s.code.length + 1 := by rw [← hs2]; simp; exact h1c
      clear hs2 HS2
      have H2 : Hid (s2.opn = s.opn ∧ s2.code.length = s.code.length + 1) := ⟨h2o, h2c⟩
      clear h2o h2c h1c h1o
      by_cases hop : nop = 25 ∨ nop = 26
      · have hsf : landS s2 = sf := by have := HF2.out; rwa [if_pos hop] at this
        obtain ⟨ho1, ho2⟩ := ho hop
        have cl := fun (S7 : Nat → Prop) (u7 : World) (C7 : Cmp u7 p base S7 (.slice sa L.length sc) (.map (some bi)) s2) => land_any p base S7 (.slice sa L.length sc) (.map (some bi)) s2 s.opn.dropLast (lastN s.opn) u7 C7 (by rw [H2.out.1]; exact last_split ho1) (by rw [H2.out.2]; omega)
        have eL : { s2 with code := s2.code.set (lastN s.opn) (insTo (s2.code.getD (lastN s.opn) noIn) (s2.code.length : Int)), opn := s.opn.dropLast } = sf := by
          rw [← hsf]
          unfold landS
          rw [H2.out.1]
        rw [eL] at cl
        clear eL hsf ho
        rcases hop with rfl | rfl
        all_goals
          go_wp2_with (first
            | (go_at_call 81; (with_reducible refine cw.mono ?_); rintro e u7 ⟨rfl, S7, C7, F7, V7⟩; have k0 := (F7.bk N1 n1w).at6.1; have cl7 := cl S7 u7 C7)
            | (go_at_call 82; (with_reducible refine cl7.mono ?_); rintro e u8 ⟨rfl, P8⟩))
          refine bodyPost_end (results_none rfl _ _ _) rfl ⟨rfl, CStp.next F1 V1 (CStp.next F7 V7 P8)⟩
      · have hsf : s2 = sf := by have := HF2.out; rwa [if_neg hop] at this
        subst hsf
        have h25 : (nop == 25) = false := beq_eq_false_iff_ne.2 (by omega)
        have h26 : (nop == 26) = false := beq_eq_false_iff_ne.2 (by omega)
        clear hop ho
        go_wp2_with (first
          | (go_at_call 81; (with_reducible refine cw.mono ?_); rintro e u7 ⟨rfl, S7, C7, F7, V7⟩; have k0 := (F7.bk N1 n1w).at6.1))
        refine bodyPost_end (results_none rfl _ _ _) rfl ⟨rfl, CStp.next F1 V1 ⟨S7, C7, F7, V7⟩⟩

end Go.Proofs.YtnmppmmanigpcaaDoor
namespace Go.Proofs.YtnmppmmanigpcaaDoor
open Go.RowKit Go.BigFrame Go.Proofs.YtnmppmmanigpcaaDoor.Ev
set_option linter.unusedVariables false
set_option linter.unusedSimpArgs false

/-- What stands at the place j behind the first k nodes. -/
def jmpF (ns : List Nd) : Nat → Nat → Int
  | 0, _ => 0
  | k + 1, j => if ((ns.getD k noNd).op = 25 ∨ (ns.getD k noNd).op = 26) ∧ (ns.getD k noNd).l = (j : Int) then (ns.getD k noNd).op else jmpF ns k j
theorem tree_two {ns : List Nd} (h : treeB ns = true) {i : Nat} (hi : i < ns.length) (h2 : 14 ≤ (ns.getD i noNd).op) : 0 ≤ (ns.getD i noNd).l ∧ 0 ≤ (ns.getD i noNd).r := by
  obtain ⟨bs, hb, _⟩ := tree_begs h
  have k := kin_of hb i hi
  rcases k.how with ⟨h1, _⟩ | ⟨h1, _⟩ | ⟨_, e0, e1, e, e3, _⟩
  · omega
  · omega
  · omega
theorem code_info1 : (Tryd.prog.info? 72).map (fun i => (i.zero, i.size, i.bytes)) = some (some (.int .i64 0), 1, 8) := by kernel_rfl
set_option maxRecDepth 100000 in
set_option maxHeartbeats 4000000 in
theorem jumpsOf_any (ns : List Nd) (ao : Option Addr) (cap : Nat) (w : World) (A : IsNds w ao ns) (ht : treeB ns = true) (hr : ns.length * 64 ≤ 140737488351232) :
    Calls Tryd.prog 49 #[.slice ao ns.length cap] w fun e w' => ∃ b, e = .returned (.slice (some ⟨b, 0, none⟩) ns.length ns.length) ∧ w.heap.size ≤ b ∧ w'.rowIs b 72 ns.length (fun j => .int .i64 (jmpF ns ns.length j)) ∧ Below w.heap.size w w' := by
  have hmk := run_make_row' (P := Tryd.prog) 107 72 (.int .i64 0) 8 Tryd.underlying107 code_info1 rfl .i64 .i64 ns.length (by omega) (by omega)
  have R0 := World.rowIs_made w (.int .i64 0) ns.length 72
  have B0 := galloc (Below.refl w.heap.size w) (.cells (madeCells #[.int .i64 0] ns.length) 72)
  have HT : Hid (treeB ns = true) := ht
  clear ht
  go_enter Tryd.func49, Tryd.ntmps49
  go_upto_region 3 with fail
  clear hmk
  generalize w.alloc (.cells (madeCells #[.int .i64 0] ns.length) 72) = V at *
  go_loopw [5, 11] (fun _ xv wr => ∃ k : Nat, k ≤ ns.length ∧ xv = .int .i64 (k : Int) ∧ wr.rowIs w.heap.size 72 ns.length (fun j => .int .i64 (jmpF ns k j)) ∧ Below w.heap.size w wr) (fun _ xv _ => ns.length - (intOf xv).toNat)
  case atStart => exact ⟨0, Nat.zero_le _, rfl, R0.congr (fun j hj => rfl), B0⟩
  case round =>
    obtain ⟨k, hk, rfl, R, G⟩ := hrel
    by_cases hlt : k < ns.length
    · obtain ⟨g, o, rfl, x0, x1, x2, x3, x4, x5⟩ := (A.keep G) k hlt
      have hki : (k : Int) < (ns.length : Int) := by omega
      have hb := tree_bnd HT.out hlt
      have h14 := tree_two HT.out hlt
      have hst : ∀ j, jmpF ns (k + 1) j = if ((ns.getD k noNd).op = 25 ∨ (ns.getD k noNd).op = 26) ∧ (ns.getD k noNd).l = (j : Int) then (ns.getD k noNd).op else jmpF ns k j := fun j => rfl
      generalize ns.getD k noNd = y at *
      obtain ⟨yop, yn, yv, yx, yl, yr⟩ := y
      dsimp only at *
      have HS := show Hid _ from hst
      clear hst
      have HK : Hid (k < ns.length) := hlt
      clear hlt
      by_cases hop : yop = 25 ∨ yop = 26
      · obtain ⟨z, rfl⟩ : ∃ z : Nat, yl = z := ⟨yl.toNat, by have := (h14 (by omega)).1; omega⟩
        have hz : z < ns.length := by have := HK.out; omega
        have hzi : (z : Int) < (ns.length : Int) := by omega
        have RA := R.alloc (.cells #[.int .i64 yop, .int .i64 yn, .string yv, .string yx, .int .i64 (z : Int), .int .i64 yr] 63)
        have c0 := RA.cell hz
        have f0 := RA.frozen z
        have R2 := (RA.set z (.int .i64 yop)).congr (g := fun j => .int .i64 (jmpF ns (k + 1) j)) (fun j hj => by
          rw [HS.out j]
          by_cases e : j = z
          · rw [if_pos e, if_pos ⟨hop, by rw [e]⟩]
          · rw [if_neg e, if_neg (by rintro ⟨_, h⟩; omega)])
        have G2 := gset (galloc G (.cells #[.int .i64 yop, .int .i64 yn, .string yv, .string yx, .int .i64 (z : Int), .int .i64 yr] 63)) (p := ⟨w.heap.size, z, none⟩) (Nat.le_refl _) (.int .i64 yop)
        clear R RA h14 hb
        rcases hop with rfl | rfl
        all_goals
          go_wp2
          go_roundw
          case rel => exact ⟨k + 1, HK.out, by go_num, R2, G2⟩
          case measure => have hlt := HK.out; simp [intOf]; omega
      · have h25 : (yop == 25) = false := beq_eq_false_iff_ne.2 (by omega)
        have h26 : (yop == 26) = false := beq_eq_false_iff_ne.2 (by omega)
        have R2 := (R.alloc (.cells #[.int .i64 yop, .int .i64 yn, .string yv, .string yx, .int .i64 yl, .int .i64 yr] 63)).congr (g := fun j => .int .i64 (jmpF ns (k + 1) j)) (fun j hj => by rw [HS.out j, if_neg (fun h => hop h.1)])
        have G2 := galloc G (.cells #[.int .i64 yop, .int .i64 yn, .string yv, .string yx, .int .i64 yl, .int .i64 yr] 63)
        clear R h14 hb hop
        go_wp2
        go_roundw
        case rel => exact ⟨k + 1, HK.out, by go_num, R2, G2⟩
        case measure => have hlt := HK.out; simp [intOf]; omega
    · obtain rfl : k = ns.length := by omega
      have q : ¬ (ns.length : Int) < (ns.length : Int) := by omega
      clear hlt
      go_wp2
      go_ret
      exact ⟨_, rfl, Nat.le_refl _, R, G⟩

end Go.Proofs.YtnmppmmanigpcaaDoor
