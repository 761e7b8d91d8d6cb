/- An aggregate by a column: what places' fold comes to. -/
import Derived.Test.YtjeffmfnaihhjaaDoorCdc
import Derived.Test.YtjeffmfnaihhjaaDoorMk0
namespace Go.Proofs.YtjeffmfnaihhjaaDoor
open Go.RowKit Go.BigFrame
set_option linter.unusedVariables false
set_option linter.unusedSimpArgs false

theorem nf_i64 : (Tryd.prog.info? 2).map (fun i => (i.zero, i.size, i.bytes)) = some (some (.int .i64 0), 1, 8) := by kernel_rfl
def numK (f : Int → Int) (l : List Ev) (k : Nat) : List Int := (l.take k).map fun e => (rdE f e).2
theorem numK_len (f : Int → Int) (l : List Ev) (k : Nat) (h : k ≤ l.length) : (numK f l k).length = k := by unfold numK; simp; omega
theorem numK_succ (f : Int → Int) (l : List Ev) (k : Nat) (h : k < l.length) : numK f l (k + 1) = numK f l k ++ [(rdE f (l.getD k zeroE)).2] := by
  unfold numK
  rw [List.take_add_one, List.getElem?_eq_getElem h]
  simp only [Option.toList, List.map_append, List.map_cons, List.map_nil, List.getD_eq_getElem?_getD, List.getElem?_eq_getElem h, Option.getD_some]
theorem numK_fits {l : List Ev} (h : evsOk l) (f : Int → Int) (k j : Nat) : fitsB ((numK f l k).getD j 0) = true := by
  unfold numK
  refine map_fits (l := l.take k) (fun i => ?_) f j
  rw [List.getD_eq_getElem?_getD, List.getElem?_take]
  have := h i
  rw [List.getD_eq_getElem?_getD] at this
  split
  · exact this
  · exact zeroE_ok
theorem gat_yes {f : Int → Int} {op : Int} {l : List Ev} (h : ∀ j, j < l.length → (rdE f (l.getD j zeroE)).1 = true) : gatV f op l = fdV op (numK f l l.length) := by
  unfold gatV numK
  rw [if_pos, List.take_length]
  rw [List.all_eq_true]
  intro e he
  obtain ⟨j, hj, rfl⟩ := List.getElem_of_mem he
  have := h j hj
  rwa [List.getD_eq_getElem?_getD, List.getElem?_eq_getElem hj] at this
theorem gat_no {f : Int → Int} {op : Int} {l : List Ev} {j : Nat} (hj : j < l.length) (h : (rdE f (l.getD j zeroE)).1 = false) : gatV f op l = noV2 := by
  unfold gatV
  rw [if_neg]
  intro ha
  rw [List.all_eq_true] at ha
  have := ha _ (List.getElem_mem hj)
  rw [List.getD_eq_getElem?_getD, List.getElem?_eq_getElem hj] at h
  simp at h
  rw [h] at this
  cases this
theorem one_newE {w : World} {g : Nat} (hg : g = w.heap.size) (x : Value) (t : TypeId) (j : Nat) (u : Value) (h : [x][j]? = some u) : (w.alloc (.cells #[x] t)).cell? ((⟨g, 0, none⟩ : Addr).add j) = some u := by
  subst hg
  rw [Go.WideShapes.add_plain, Nat.zero_add, World.cell?_alloc_new]
  simpa using h
structure FoldL (f : Int → Int) (l : List Ev) (w : World) (v i : Value) (wr : World) : Prop where
  ex : ∃ k : Nat, k ≤ l.length ∧ i = .int .i64 k ∧ (∀ j, j < k → (rdE f (l.getD j zeroE)).1 = true) ∧ wr.ownsRow (w.heap.size + 1) 2 1 v (numK f l k).length ((numK f l k).map (Value.int .i64)) ∧ Two wr w.heap.size (.bool false) (.int .i64 0) 33 ∧ Below w.heap.size w wr

set_option maxRecDepth 100000 in
set_option maxHeartbeats 4000000 in
theorem cfold_any (ac : Option Addr) (cc : Nat) (col : List Int) (a : Option Addr) (c : Nat) (l : List Ev) (op : Int) (w : World) (hf : Flat w ac (fl intC col)) (hl : col.length ≤ 140737488351232) (hA : Flat w a (fl evC l)) (hn : l.length * 88 ≤ 140737488351232) (hE : evsOk l) :
    Calls Tryd.prog 34 #[plcF ac col.length cc, .int .i64 op, .slice a l.length c] w fun r w' => r = .returned (VA (gatV (plcO col) op l)) ∧ Below w.heap.size w w' := by
  obtain ⟨i0, ti, tz0, tz1, tz2⟩ := nf_info nf_i64
  obtain ⟨M, hM, hmk⟩ := run_make_cap (P := Tryd.prog) 82 2 Tryd.underlying82 nf_i64 l.length (by omega) (by omega)
  have B0 := galloc (galloc (Below.refl w.heap.size w) (.cells #[.bool false, .int .i64 0] 33)) (.cells M 2)
  have R0 := (Two.new w (.bool false) (.int .i64 0) 33).alloc (.cells M 2)
  have O0 : ((w.alloc (.cells #[.bool false, .int .i64 0] 33)).alloc (.cells M 2)).ownsRow (w.heap.size + 1) 2 1 (.slice (some ⟨w.heap.size + 1, 0, none⟩) 0 l.length) 0 [] := by
    have := World.ownsRow_made (base := w.heap.size + 1) (e := 2) (size := 1) (w.alloc (.cells #[.bool false, .int .i64 0] 33)) M l.length (by simp) (by unfold maxLen; omega) hM
    simpa using this
  generalize hx : gatV (plcO col) op l = x
  obtain ⟨zk, zn⟩ := x
  have HX := show Hid (_ = _) from hx
  clear hx
  go_enter Tryd.func34, Tryd.ntmps34
  go_wp2
  generalize (w.alloc (.cells #[.bool false, .int .i64 0] 33)).alloc (.cells M 2) = Z at *
  go_loopw [7, 16] (fun v i wr => FoldL (plcO col) l w v i wr) (fun _ i _ => l.length - (intOf i).toNat)
  case atStart => exact ⟨⟨0, Nat.zero_le _, rfl, fun j hj => absurd hj (Nat.not_lt_zero _), O0, R0, B0⟩⟩
  case round =>
    clear O0 R0 B0 hmk
    obtain ⟨⟨k, hk, rfl, hall, hown, R, G⟩⟩ := hrel
    have zG := G.size
    have zR := R.lt
    by_cases hlt : k < l.length
    · have hki : (k : Int) < (l.length : Int) := by omega
      obtain ⟨g, o, rfl, hg, hcc⟩ := (hA.keep G).form (by rw [fl_len evC_sz]; omega)
      have A := ev_at hcc k hlt
      obtain ⟨ev, hev⟩ : ∃ ev, l.getD k zeroE = ev := ⟨_, rfl⟩
      rw [hev] at A
      have HEV := show Hid (_ = _) from hev
      have hr := read_any' ac cc col ev _ ((hf.keep G).keep (galloc (Below.refl wr.heap.size wr) (.cells (evC ev) 69))) hl
      obtain ⟨⟨xk, xn⟩, hxx⟩ : ∃ x, rdE (plcO col) ev = x := ⟨_, rfl⟩
      rw [hxx] at hr
      have HXX := show Hid (_ = _) from hxx
      have hnl := numK_len (plcO col) l k hk
      have ge := galloc (Below.refl wr.heap.size wr) (.cells (evC ev) 69)
      unfold evC at hr ge
      obtain ⟨c0, c1, c2, c3, c4, c5, c6, c7, c8, c9, c10⟩ := A
      clear hcc hxx hev
      cases xk
      · go_wp2_with (first
          | (go_at_call 52; (with_reducible refine hr.mono ?_); rintro _ u1 ⟨rfl, g1⟩; have G1 := gtrans ge g1; have G2 := gtrans G G1; obtain ⟨r0, r1⟩ := show _ ∧ _ from ⟨((R.keep G1).alloc (.cells #[.bool false, .int .i64 xn] 33)).at0, ((R.keep G1).alloc (.cells #[.bool false, .int .i64 xn] 33)).at1⟩; have rf := ((R.keep G1).alloc (.cells #[.bool false, .int .i64 xn] 33)).free))
        obtain ⟨rfl, rfl⟩ : zk = false ∧ zn = 0 := Prod.mk.inj (HX.out.symm.trans (gat_no hlt (by rw [HEV.out, HXX.out])))
        go_wp2
        refine bodyPost_ret (v := .agg #[.bool false, .int .i64 0]) (by simp [results, Tryd.results34, go_sem, r0, r1]) rfl ⟨rfl, ?_⟩
        first | exact galloc G2 _ | exact gset (gset (galloc G2 _) (by simp) _) (by simp) _
      · go_wp2_with (first
          | (go_at_call 52; (with_reducible refine hr.mono ?_); rintro _ u1 ⟨rfl, g1⟩; have G1 := gtrans ge g1; have G2 := gtrans G G1; have Ou := (own_keep hown G1).alloc (.cells #[.bool true, .int .i64 xn] 33))
          | (at_builtin; refine wpList_append_own _ rfl (.tmp 27) (.tmp 30) 82 rfl (w.heap.size + 1) 2 i0 (.int .i64 0) 1 8 Tryd.underlying82 ti tz0 tz1 tz2 rfl (by decide) _ _ _ rfl (Ou.alloc _) ⟨u1.heap.size + 1, 0, none⟩ 1 1 [.int .i64 xn] rfl rfl (one_newE (by simp) _ _) (fun u hu => by simp at hu; subst hu; rfl) ?c3 ?c4 ?c5 ?_))
        case c3 => unfold maxLen; omega
        case c4 => omega
        case c5 => have := G2.size; simp; omega
        intro v' w1 hown' hgrow _
        have e := numK_succ (plcO col) l k hlt
        rw [HEV.out, HXX.out] at e
        have hown2 : w1.ownsRow (w.heap.size + 1) 2 1 v' (numK (plcO col) l (k + 1)).length ((numK (plcO col) l (k + 1)).map (Value.int .i64)) := by rw [e]; simpa [hnl] using hown'
        have q := hgrow.block w.heap.size (by have := G2.size; simp; omega) (fun e => by have := (Ou.lt _ e.symm).1; omega)
        have R2 : Two w1 w.heap.size (.bool false) (.int .i64 0) 33 := q.trans (((R.keep G1).alloc (.cells #[.bool true, .int .i64 xn] 33)).alloc _)
        have Gw : Below w.heap.size w w1 := (galloc (galloc G2 (.cells #[.bool true, .int .i64 xn] 33)) _).grown hgrow (by have := G2.size; simp; omega) (fun r e => by have := (Ou.lt _ e).1; omega)
        have hall2 : ∀ j, j < k + 1 → (rdE (plcO col) (l.getD j zeroE)).1 = true := fun j hj => by
          by_cases hjk : j < k
          · exact hall j hjk
          · obtain rfl : j = k := by omega
            rw [HEV.out, HXX.out]
        have fin : FoldL (plcO col) l w v' (.int .i64 ((k : Int) + 1)) w1 := ⟨⟨k + 1, by omega, by go_num, hall2, hown2, R2, Gw⟩⟩
        clear hown' hgrow hown2 R2 Gw hall2 q e Ou hown R hall hr c0 c1 c2 c3 c4 c5 c6 c7 c8 c9 c10
        go_wp2
        go_roundw
        case rel => exact fin
        case measure => simp [intOf]; omega
    · obtain rfl : k = l.length := by omega
      obtain ⟨hzk, hzn⟩ := Prod.mk.inj ((gat_yes hall).symm.trans HX.out)
      have hnl := numK_len (plcO col) l l.length (Nat.le_refl _)
      obtain ⟨ao, cap, rfl, hrow, _, _⟩ := isRow_own hown (numK_fits hE _ _)
      have hfo := fold_any op ao _ cap _ wr hrow
      rw [hzk, hzn] at hfo
      generalize (numK (plcO col) l l.length).length = nn at hfo
      clear hall HX hzk hzn hown hnl
      go_wp2_with (first
        | (go_at_call 53; (with_reducible refine hfo.mono ?_); rintro _ u1 ⟨rfl, g1⟩; have G2 := gtrans G g1; have R1 := R.keep g1; obtain ⟨r0, r1⟩ := show _ ∧ _ from ⟨R1.at0, R1.at1⟩; have rf := R1.free))
      refine bodyPost_ret (v := .agg #[.bool zk, .int .i64 zn]) (by simp [results, Tryd.results34, go_sem, r0, r1]) rfl ⟨rfl, ?_⟩
      exact gset (gset G2 (by simp) _) (by simp) _

end Go.Proofs.YtjeffmfnaihhjaaDoor
