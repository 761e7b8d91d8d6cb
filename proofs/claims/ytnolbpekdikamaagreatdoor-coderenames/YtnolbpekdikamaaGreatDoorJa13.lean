/- The compiler's land. And what goes with it: 4 texts in one. -/
import Derived.Test.YtnolbpekdikamaaGreatDoorJa12
import Derived.Deep.RegionHeld3
import Derived.Deep.AppendLies
import Derived.Deep.CutRange
namespace Go.Proofs.YtnolbpekdikamaaGreatDoor
open Go.RowKit Go.BigFrame
set_option linter.unusedVariables false
set_option linter.unusedSimpArgs false

theorem CmpI.code0 {w u : World} {p bm base : Nat} {vt vi vc vl vo : Value} {ws : List Value} {s : Cst} (h : CmpI w p bm base vt vi vc vl vo ws s) {C' : List Ins} (O : u.ownsRow base 87 5 vc C'.length (fl insC C')) (G : w.grownBy u vc.ownBlock) : CmpI u p bm base vt vi vc vl vo ws { s with code := C' } := by
  refine ⟨bk_far h.blk h.code (by decide) G, O, h.cols.map fun e s v n xs he o => ty_far h.code o (by rcases he with rfl | rfl <;> decide) G, ty_far h.code h.opn (by decide) G, h.map.of_block (G.block bm h.map.lt fun e => ?_), h.far, Nat.le_trans h.bs G.size, h.bp, h.bb⟩
  rcases h.code.2 with ⟨e2, _⟩ | ⟨g1, c1, cur1, e2, _, hh1, _⟩
  · rw [e2] at e; cases e
  · rw [e2] at e
    have : bm = g1 := by simpa [Value.ownBlock] using e
    subst this
    exact h.map.notCells hh1
theorem CmpI.opn0 {w : World} {p bm base g n c : Nat} {vt vi vc vl : Value} {ws : List Value} {s : Cst} {O' : List Nat} {k : Nat} (h : CmpI w p bm base vt vi vc vl (.slice (some ⟨g, 0, none⟩) n c) ws s) (e : s.opn = O' ++ [k]) (hn : n = O'.length + 1) :
    CmpI (w.setCell ⟨p, 5, none⟩ (.slice (some ⟨g, 0, none⟩) O'.length c)) p bm base vt vi vc vl (.slice (some ⟨g, 0, none⟩) O'.length c) ws { s with opn := O' } := by
  have O := h.opn
  have hle : s.opn.length = O'.length + 1 := by rw [e]; simp
  rw [e, show (O' ++ [k]).length = O'.length + 1 by simp, hn] at O
  have e1 : fl intC (opnV (O' ++ [k])) = fl intC (opnV O') ++ (intC (k : Int)).toList := by unfold opnV; rw [List.map_append, fl_app]; simp [fl]
  rw [e1] at O
  have O4 := ownsRow_pop (by rw [fl_len intC_sz]; simp [opnV]) O
  have set : ∀ {e : TypeId} {sz : Nat} {v : Value} {n : Nat} {xs : List Value}, 82 ≠ e → w.ownsRow base e sz v n xs → (w.setCell ⟨p, 5, none⟩ (.slice (some ⟨g, 0, none⟩) O'.length c)).ownsRow base e sz v n xs := fun {e sz v n xs} he o => ty_set o h.blk he 5 _
  refine ⟨h.blk.set 5 _, set (by decide) h.code, h.cols.map fun e s v n xs he o => set (by rcases he with rfl | rfl <;> decide) o, set (by decide) O4, ?_, fun q j x e2 hj => h.far q j x e2 hj, ?_, h.bp, h.bb⟩
  · refine h.map.of_block (Below.heap_setCell _ _ _ bm ?_)
    show bm ≠ p
    intro e2
    have hb := h.blk
    unfold Bk at hb
    rw [← e2] at hb
    exact h.map.notCells hb
  · have : (w.setCell ⟨p, 5, none⟩ (.slice (some ⟨g, 0, none⟩) O'.length c)).heap.size = w.heap.size := by simp
    rw [this]
    exact h.bs
def insTo (i : Ins) (to_ : Int) : Ins := ⟨i.code, i.item, i.col, i.n, to_⟩
set_option maxRecDepth 100000 in
set_option maxHeartbeats 2000000 in
theorem land_any (p base : Nat) (S : Nat → Prop) (vt vi : Value) (s : Cst) (O' : List Nat) (k : Nat) (w : World) (C : Cmp w p base S vt vi s) (he : s.opn = O' ++ [k]) (hk : k < s.code.length) :
    Calls Tryz.prog 74 #[.pointer (some ⟨p, 0, none⟩)] w fun e w' => e = .returned (.tuple #[]) ∧ CStp p base S vt vi w w' { s with code := s.code.set k (insTo (s.code.getD k noIn) (s.code.length : Int)), opn := O' } := by
  obtain ⟨C', hC'⟩ : ∃ C', s.code.set k (insTo (s.code.getD k noIn) (s.code.length : Int)) = C' := ⟨_, rfl⟩
  rw [hC']
  have HC : Hid (s.code.set k (insTo (s.code.getD k noIn) (s.code.length : Int)) = C') := hC'
  clear hC'
  obtain ⟨bm, vc, vl, vo, ws, rfl, I⟩ := C
  have hle : s.opn.length = O'.length + 1 := by rw [he]; simp
  obtain ⟨gc, cc, rfl, hbc, hlc⟩ := World.ownsRow.form I.code (by omega)
  obtain ⟨go, co, rfl, hbo, hlo⟩ := World.ownsRow.form I.opn (by omega)
  have hcap := (own_sl I.opn).1
  obtain ⟨d0, d1, d2, d3, d4, d5⟩ := I.blk.at6
  have hko : w.cell? ⟨go, O'.length, none⟩ = some (.int .i64 (k : Int)) := by
    rw [World.ownsRow.cellAt I.opn _ (by omega)]
    have := fl_at intC_sz 0 (opnV s.opn) O'.length 0 (by simp [opnV]; omega) (by omega)
    rw [Nat.mul_one, Nat.add_zero] at this
    rw [this, he]
    unfold opnV
    rw [List.map_append, List.getD_eq_getElem?_getD, List.getElem?_append_right (by simp)]
    simp [intC]
  have HE : Hid (s.opn = O' ++ [k]) := he
  have hm2 : s.opn.length ≤ 9223372036854775807 := by
    rcases own_form I.opn with ⟨_, _, _, _, h, _⟩
    exact h
  generalize hm : s.opn.length = m at *
  have E1 : (m : Int) - 1 = (O'.length : Int) := by omega
  have HM : Hid (m = O'.length + 1) := hle
  have q1 : (O'.length : Int) < (m : Int) := by omega
  have q2 : (k : Int) < (s.code.length : Int) := by omega
  have q3 : (O'.length : Int) ≤ (co : Int) := by omega
  clear hle he
  go_enter Tryz.func74, Tryz.ntmps74
  go_upto_region 1 with fail
  have p3 := fun z : Ext w => (z.cell _ _ I.blk.lt).trans d3
  have p5 := fun z : Ext w => (z.cell _ _ I.blk.lt).trans d5
  have po := fun z : Ext w => (z.cell _ _ hlo).trans hko
  have hne0 : Nonempty (Ext w) := ⟨⟨_, Below.refl _ _⟩⟩
  refine wp_region_ext_tail 20 (by kernel_rfl) (by kernel_rfl) ?_
  simp only [List.take_succ_cons, List.take_zero, List.drop_succ_cons, List.drop_zero]
  repeat go_big_quiet_step (fail)
  refine wpQuiet_nil ?_
  intro _ hw'
  obtain ⟨nx, hw''⟩ := hw'
  subst hw''
  have IX := I.keep nx.h
  obtain ⟨O1, G1⟩ := World.ownsRow.stored IX.code (k * 5 + 4) (.int .i64 (s.code.length : Int))
  have efl : (fl insC s.code).set (k * 5 + 4) (.int .i64 (s.code.length : Int)) = fl insC (s.code.set k (insTo (s.code.getD k noIn) (s.code.length : Int))) := fl_set insC_sz noIn s.code k 4 _ _ hk (by omega) rfl
  rw [efl, HC.out] at O1
  have hln : C'.length = s.code.length := by rw [← HC.out]; exact List.length_set
  have hfz := World.ownsRow.frozenAt IX.code (k * 5 + 4)
  have hcx : nx.X.cell? ⟨gc, k * 5 + 4, none⟩ = some (.int .i64 (s.code.getD k noIn).jt) := by
    rw [World.ownsRow.cellAt IX.code _ (by omega), fl_at insC_sz noIn s.code k 4 hk (by omega)]
    rfl
  have I1 : CmpI (nx.X.setCell ⟨gc, k * 5 + 4, none⟩ (.int .i64 (s.code.length : Int))) p bm base vt vi (.slice (some ⟨gc, 0, none⟩) s.code.length cc) vl (.slice (some ⟨go, 0, none⟩) m co) ws { s with code := C' } := CmpI.code0 IX (by rw [hln]; exact O1) G1
  have I2 := CmpI.opn0 I1 HE.out HM.out
  have y5 := I1.blk.at6.2.2.2.2.2
  have yf := I1.blk.free 5
  have hgp : gc ≠ p := fun e => by
    have hb := I.blk
    obtain ⟨cs, hcs⟩ : ∃ cs, w.heap[gc]? = some (.cells cs 87 (0, 0)) := by
      rcases I.code.2 with ⟨h, _⟩ | ⟨g1, c1, cur1, h, _, hh1, _⟩
      · cases h
      · cases h; exact ⟨_, hh1⟩
    unfold Bk at hb
    rw [← e, hcs] at hb
    simp at hb
  have HI := show Hid _ from I2
  have hz := nx.h
  have hg1 := G1
  clear I I1 I2 IX O1 efl hln d0 d1 d2 d3 d4 d5 p3 p5 po hko G1
  go_wp2
  refine bodyPost_end (results_none rfl _ _ _) rfl ⟨rfl, _, ⟨bm, _, _, _, ws, rfl, HI⟩, ?_, ?_⟩
  · refine ⟨hg1.os.trans hz.os, hg1.tape.trans hz.tape, hg1.output.trans hz.output, ?_, fun q h1 h2 => ?_⟩
    · have := hz.size
      simp
      exact this
    · refine (Below.heap_setCell _ _ _ q (fun e => h2 (.inl e))).trans ((Below.heap_setCell _ _ _ q (fun e => h2 (.inr (.inr (.inl (by rw [e]; rfl)))))).trans (hz.block q h1))
  · rintro q (h | h | h | h | h)
    · exact .inl (.inl h)
    · exact .inl (.inr (.inl h))
    · exact .inl (.inr (.inr (.inl h)))
    · exact .inl (.inr (.inr (.inr (.inl h))))
    · exact .inl (.inr (.inr (.inr (.inr h))))

end Go.Proofs.YtnolbpekdikamaaGreatDoor
namespace Go.Proofs.YtnolbpekdikamaaGreatDoor
open Go.RowKit Go.BigFrame
set_option linter.unusedVariables false
set_option linter.unusedSimpArgs false

theorem getD_snoc {α : Type} (l : List α) (x z : α) (j : Nat) : (l ++ [x]).getD j z = if j < l.length then l.getD j z else if j = l.length then x else z := by
  rw [List.getD_eq_getElem?_getD, List.getD_eq_getElem?_getD]
  split
  · rename_i h; rw [List.getElem?_append_left h]
  · rename_i h
    rw [List.getElem?_append_right (by omega)]
    split
    · rename_i e; rw [e, Nat.sub_self]; rfl
    · rw [List.getElem?_eq_none (by simp; omega)]; rfl
theorem take_snoc {α : Type} (l : List α) (z : α) (k : Nat) (h : k < l.length) : l.take (k + 1) = l.take k ++ [l.getD k z] := by
  rw [List.take_add_one, List.getElem?_eq_getElem h, List.getD_eq_getElem?_getD, List.getElem?_eq_getElem h]
  rfl
theorem ONst.nil {β : Type} (w : World) (b : Nat) (TS T : TypeId) (sz : Nat) (cv : β → Array Value) : ONst w b TS T sz cv (.slice none 0 0) [] [] := ⟨rfl, World.ownsRow_nil _ _ _ _, fun j hj => absurd hj (Nat.not_lt_zero _), fun i j x y g h => by simp at h⟩
theorem ONst.snoc {β : Type} {w u : World} {b : Nat} {TS T : TypeId} {sz : Nat} {cv : β → Array Value} {v v' : Value} {l : List (List β)} {ws : List Value} (N : ONst w b TS T sz cv v l ws) (x : List β) (a : Option Addr) (c zz : Nat) (hy : u.ownsRow b T sz (.slice a x.length c) x.length (fl cv x)) (keep : ∀ (s : Nat) (v : Value) (n : Nat) (xs : List Value), w.ownsRow b T s v n xs → u.ownsRow b T s v n xs) (hap : ∀ g, (Value.slice a x.length c).ownBlock = some g → zz ≤ g) (hz : w.heap.size ≤ zz) (own' : u.ownsRow b TS 1 v' (l.length + 1) (ws ++ [.slice a x.length c])) :
    ONst u b TS T sz cv v' (l ++ [x]) (ws ++ [.slice a x.length c]) := by
  have hold : ∀ j x g, j < l.length → ws[j]? = some x → x.ownBlock = some g → g < w.heap.size := fun j x g hj hx hg => by
    obtain ⟨a', c', e, O⟩ := N.inn j hj
    rw [hx] at e
    cases e
    exact (O.lt g hg).2
  refine ⟨by simp [N.len], by simpa using own', fun j hj => ?_, fun i j y z g hi hj' hy' hz' => ?_⟩
  · rw [getD_snoc]
    by_cases e : j < l.length
    · rw [if_pos e]
      obtain ⟨a', c', e1, O⟩ := N.inn j e
      exact ⟨a', c', by rw [List.getElem?_append_left (by rw [N.len]; exact e)]; exact e1, keep _ _ _ _ O⟩
    · have e2 : j = l.length := by simp at hj; omega
      rw [if_neg e, if_pos e2]
      exact ⟨a, c, by rw [List.getElem?_append_right (by rw [N.len]; omega), e2, N.len, Nat.sub_self]; rfl, hy⟩
  · have hi2 := (List.getElem?_eq_some_iff.1 hi).1
    have hj2 := (List.getElem?_eq_some_iff.1 hj').1
    simp only [List.length_append, List.length_cons, List.length_nil, N.len] at hi2 hj2
    by_cases ei : i < l.length
    · rw [List.getElem?_append_left (by rw [N.len]; exact ei)] at hi
      by_cases ej : j < l.length
      · rw [List.getElem?_append_left (by rw [N.len]; exact ej)] at hj'
        exact N.apart i j y z g hi hj' hy' hz'
      · have : j = l.length := by omega
        rw [List.getElem?_append_right (by rw [N.len]; omega), this, N.len, Nat.sub_self] at hj'
        simp at hj'
        subst hj'
        have h1 := hold i y g ei hi hy'
        have h2 := hap g hz'
        omega
    · have ei2 : i = l.length := by omega
      by_cases ej : j < l.length
      · rw [List.getElem?_append_left (by rw [N.len]; exact ej)] at hj'
        rw [List.getElem?_append_right (by rw [N.len]; omega), ei2, N.len, Nat.sub_self] at hi
        simp at hi
        subst hi
        have h1 := hold j z g ej hj' hz'
        have h2 := hap g hy'
        omega
      · omega
theorem nf_ev : (Tryz.prog.info? 75).map (fun i => (i.zero, i.size, i.bytes)) = some (some (.agg (evC zeroE)), 11, 88) := by kernel_rfl
theorem nf_evs : (Tryz.prog.info? 43).map (fun i => (i.zero, i.size, i.bytes)) = some (some (.slice none 0 0), 1, 24) := by kernel_rfl
theorem evC_one (e : Ev) : ∀ u ∈ (evC e).toList, u.oneCell' = true := fun u hu => by simp [evC] at hu; rcases hu with rfl | rfl | rfl | rfl | rfl | rfl | rfl | rfl | rfl | rfl | rfl <;> rfl
theorem intC_one (z : Int) : ∀ u ∈ (intC z).toList, u.oneCell' = true := fun u hu => by simp [intC] at hu; rcases hu with rfl; rfl
theorem insC_one (i : Ins) : ∀ u ∈ (insC i).toList, u.oneCell' = true := fun u hu => by simp [insC] at hu; rcases hu with rfl | rfl | rfl | rfl | rfl <;> rfl
theorem one_newE2 {w : World} {g : Nat} (hg : g = w.heap.size) (x : Value) (t : TypeId) (j : Nat) (u : Value) (h : [x][j]? = some u) : (w.alloc (.cells #[x] t)).cell? ((⟨g, 0, none⟩ : Addr).add j) = some u := one_newE hg x t j u h
theorem nbk {w : World} {base : Nat} {e : TypeId} {s : Nat} {v : Value} {n : Nat} {xs : List Value} (h : w.ownsRow base e s v n xs) : v.ownBlock = none ∨ v.ownBlock ≠ some w.heap.size := by
  cases hb : v.ownBlock with
  | none => exact .inl rfl
  | some g => exact .inr (fun e => by cases e; have := (h.lt _ hb).2; omega)
structure TwR (l : List (List Ev)) (w : World) (e : Ending) (w' : World) : Prop where
  ex : ∃ v ws, e = .returned v ∧ ONst w' w.heap.size 43 75 11 evC v l ws
structure TwL (l : List (List Ev)) (w : World) (v i : Value) (wr : World) : Prop where
  ex : ∃ (k : Nat) (ws : List Value), k ≤ l.length ∧ i = .int .i64 k ∧ ONst wr w.heap.size 43 75 11 evC v (l.take k) ws ∧ Below w.heap.size w wr

end Go.Proofs.YtnolbpekdikamaaGreatDoor
namespace Go.Proofs.YtnolbpekdikamaaGreatDoor
open Go.RowKit Go.BigFrame
set_option linter.unusedVariables false
set_option linter.unusedSimpArgs false

/-- By type where the attribute stands. -/
def colRow (L : List Ty) (x : ByteArray) : List Int := (List.range L.length).map fun i : Nat => attrI L (i : Int) x
def Cst.names (s : Cst) : List ByteArray := s.cols.map Prod.fst
/-- The column's number, and what the compiler has then. -/
def colV (s : Cst) (x : ByteArray) : Int := match colF s.names x with | some i => i | none => (s.cols.length : Int)
def colS (L : List Ty) (s : Cst) (x : ByteArray) : Cst := match colF s.names x with | some _ => s | none => { s with cols := s.cols ++ [(x, colRow L x)] }
theorem own_of_rowIs {w : World} {b base n : Nat} {f : Nat → Value} {l : List Int} {T : TypeId} (R : w.rowIs b T n f) (hb : base ≤ b) (hn : n ≤ 9223372036854775807) (hl : l.length = n) (hf : ∀ j, j < n → f j = .int .i64 (l.getD j 0)) : w.ownsRow base T 1 (.slice (some ⟨b, 0, none⟩) n n) n (fl intC l) := by
  obtain ⟨c, h1, h2, h3⟩ := R
  refine ⟨by rw [fl_len intC_sz, hl], .inr ⟨b, n, c, rfl, hb, h1, Nat.le_refl _, by unfold maxLen; omega, by omega, ?_⟩⟩
  rw [Nat.mul_one]
  refine List.ext_getElem? fun j => ?_
  by_cases hj : j < n
  · rw [List.getElem?_take_of_lt hj]
    have e1 := h3 j hj
    have e2 := fl_at intC_sz 0 l j 0 (by omega) (by omega)
    rw [Nat.mul_one, Nat.add_zero] at e2
    rw [e2, hf j hj] at *
    simpa [intC] using e1
  · rw [List.getElem?_eq_none (by rw [List.length_take]; omega), List.getElem?_eq_none (by rw [fl_len intC_sz]; omega)]
theorem colRow_len (L : List Ty) (x : ByteArray) : (colRow L x).length = L.length := by unfold colRow; simp
theorem colRow_at (L : List Ty) (x : ByteArray) {j : Nat} (h : j < L.length) : (colRow L x).getD j 0 = attrI L (j : Int) x := by
  unfold colRow
  rw [List.getD_eq_getElem?_getD, List.getElem?_map, List.getElem?_range h]
  rfl
theorem nfSl : (Tryz.prog.info? 39).map (fun i => (i.zero, i.size, i.bytes)) = some (some (.slice none 0 0), 1, 24) := by kernel_rfl
set_option maxRecDepth 100000 in
set_option maxHeartbeats 4000000 in
theorem column_any (p base : Nat) (S : Nat → Prop) (sa : Option Addr) (sc : Nat) (L : List Ty) (vi : Value) (s : Cst) (x : ByteArray) (w : World) (C : Cmp w p base S (.slice sa L.length sc) vi s) (w0 : World) (A : IsTypes w0 sa L.length L) (hw0 : w0.heap.size ≤ base) (BA : Below w0.heap.size w0 w) (hx : x.size ≤ 140737488351232) (hL : L.length * 8 ≤ 140737488351232) (hc : s.cols.length * 24 ≤ 140737488351232) :
    Calls Tryz.prog 72 #[.pointer (some ⟨p, 0, none⟩), .string x] w fun e w' => e = .returned (.int .i64 (colV s x)) ∧ CStp p base S (.slice sa L.length sc) vi w w' (colS L s x) := by
  obtain ⟨bm, vc, vl, vo, ws, rfl, I⟩ := C
  obtain ⟨al, cl, e0, hcl1, hcl2, _⟩ := own_form I.cols.own
  have hml : (s.cols.map Prod.snd).length = s.cols.length := by simp
  rw [hml] at e0
  subst e0
  obtain ⟨d0, d1, d2, d3, d4, d5⟩ := I.blk.at6
  have lk := I.map.at.look x hx
  unfold colV colS Cst.names
  cases hF : colF (s.cols.map Prod.fst) x with
  | some i =>
    rw [hF] at lk
    clear hF
    go_enter Tryz.func72, Tryz.ntmps72
    go_wp2
    go_ret
    exact ⟨rfl, _, ⟨bm, vc, _, vo, ws, rfl, I⟩, FrC.of (Below.refl _ _), fun k h => .inl h⟩
  | none =>
    rw [hF] at lk
    have HF : Hid (colF (s.cols.map Prod.fst) x = none) := hF
    clear hF
    obtain ⟨D, hD1, hD2, hD3⟩ := I.map.ex
    have hcl : s.cols.length ≤ 5864062014634 := by omega
    have kx := str_key hx
    have H2 := show Hid _ from hD2
    have H3 := show Hid (Maps.size D = s.cols.length) from hD3
    clear hD2 hD3
    go_enter Tryz.func72, Tryz.ntmps72
    go_upto_region 6 with (first
      | (at_len; refine wpList_len_own _ rfl _ 78 rfl 9 3 Tryz.underlying78 (plainElem Tryz.prog 3) bm s.cols.length D rfl hD1 ?_; rw [H3.out])
      | (at_mapUpdate; refine wpList_mapUpdate_own _ rfl _ _ _ 78 rfl 9 3 (Maps.string_keyed Tryz.underlying9) Tryz.underlying78 (plainElem Tryz.prog 3) bm s.cols.length D rfl hD1 (by unfold maxLen; omega) _ _ (.string x.data.toList) rfl rfl kx (.lit (.int .i64 (s.cols.length : Int))) [] (plainElem_int Tryz.underlying3 (nd_fw ⟨by omega, by omega⟩)) ?_; intro w1 hown1 hgrow1))
    have MX := MpX.put hD1 H2.out H3.out x hx HF.out (s.cols.length : Int) hown1
    have hne : ∀ k cur e1, w.heap[k]? = some (Obj.cells cur e1 (0, 0)) → k ≠ bm := fun k cur e1 hk e => I.map.notCells (e ▸ hk)
    have own1 : ∀ {e1 : TypeId} {sz : Nat} {v : Value} {n : Nat} {xs : List Value}, w.ownsRow base e1 sz v n xs → w1.ownsRow base e1 sz v n xs := fun {e1 sz v n xs} o => own_of_block o fun k cur _ hh => hgrow1.block k (lt_of_block hh) (fun e => hne k cur e1 hh (by cases e; rfl))
    have pb1 : Bk w1 p #[.slice sa L.length sc, vi, .map (some bm), vc, .slice al s.cols.length cl, vo] 82 := (hgrow1.block p I.blk.lt (fun e => hne p _ _ I.blk (by cases e; rfl))).trans I.blk
    have oc1 := own1 I.code
    have on1 := I.cols.map (u := w1) fun e1 s1 v n xs _ o => own1 o
    have oo1 := own1 I.opn
    have BA1 : Below w0.heap.size w0 w1 := BA.grown hgrow1 (BA.size) (fun r e => by cases e; exact Nat.le_trans hw0 I.bb)
    have hz1 := hgrow1.size
    have hmk := run_make_row' (P := Tryz.prog) 39 3 (.int .i64 0) 8 Tryz.underlying39 nfInt1 rfl .i64 .i64 L.length (by omega) (by omega)
    have R0 := World.rowIs_made w1 (.int .i64 0) L.length 3
    have B0 := galloc (Below.refl w1.heap.size w1) (.cells (madeCells #[.int .i64 0] L.length) 3)
    obtain ⟨y0, y1, y2, y3, y4, y5⟩ := pb1.at6
    have HW := show Hid _ from hown1
    have HM := show Hid ((s.cols.map Prod.snd).length = s.cols.length) from hml
    clear hown1 d0 d1 d2 d3 d4 d5 lk hD1 kx
    go_upto_region 8 with fail
    clear hmk
    generalize w1.alloc (.cells (madeCells #[.int .i64 0] L.length) 3) = V at *
    go_loopw [8, 40] (fun _ xv wr => ∃ k : Nat, k ≤ L.length ∧ xv = .int .i64 (k : Int) ∧ wr.rowIs w1.heap.size 3 L.length (fun j => .int .i64 (if j < k then attrI L (j : Int) x else 0)) ∧ Below w1.heap.size w1 wr) (fun _ xv _ => L.length - (intOf xv).toNat)
    case atStart => exact ⟨0, Nat.zero_le _, rfl, R0.congr (fun j hj => by rw [if_neg (by omega)]), B0⟩
    case round =>
      obtain ⟨k, hk, rfl, R, G⟩ := hrel
      have z0 := (G.cell (p := ⟨p, 0, none⟩) pb1.lt).trans y0
      by_cases hlt : k < L.length
      · have hki : (k : Int) < (L.length : Int) := by omega
        have c104 := attrOf_any sa L.length sc L (k : Int) x wr (A.keep (BA1.trans (G.mono (by have := BA1.size; omega))))
        generalize hav : attrI L (k : Int) x = av at *
        have HK : Hid (k < L.length) := hlt
        clear hlt
        go_upto_region 11 with (first
          | (go_at_call 89; (with_reducible refine c104.mono ?_); rintro e u ⟨rfl, gu⟩; have Ru := R.of_block (gu.block _ R.lt); have cu := Ru.cell HK.out; have fu := Ru.frozen k))
        have R2 := (Ru.set k (.int .i64 av)).congr (g := fun j => .int .i64 (if j < k + 1 then attrI L (j : Int) x else 0)) (fun j hj => by
          by_cases h : j = k
          · rw [if_pos h, if_pos (by omega), h, hav]
          · rw [if_neg h]
            by_cases h2 : j < k
            · rw [if_pos h2, if_pos (by omega)]
            · rw [if_neg h2, if_neg (by omega)])
        have G2 := gset (gtrans G gu) (p := ⟨w1.heap.size, k, none⟩) (Nat.le_refl _) (.int .i64 av)
        clear R Ru
        go_wp2
        go_roundw
        case rel => exact ⟨k + 1, HK.out, by go_num, R2, G2⟩
        case measure => have hlt := HK.out; simp [intOf]; omega
      · obtain rfl : k = L.length := by omega
        have q0 : ¬ (L.length : Int) < (L.length : Int) := by omega
        have RO : wr.ownsRow base 3 1 (.slice (some ⟨w1.heap.size, 0, none⟩) (colRow L x).length (colRow L x).length) (colRow L x).length (fl intC (colRow L x)) := by
          rw [colRow_len]
          exact own_of_rowIs R (Nat.le_trans I.bs hz1) (by omega) (colRow_len L x) fun j hj => by rw [if_pos hj, colRow_at L x hj]
        have RB : w1.heap.size < wr.heap.size := R.lt
        clear hlt R z0
        have pbr := pb1.keep G
        obtain ⟨r0, r1, r2, r3, r4, r5⟩ := pbr.at6
        have GY := galloc (Below.refl wr.heap.size wr) (.cells #[.slice (some ⟨w1.heap.size, 0, none⟩) L.length L.length] 39)
        have bn := Bk.new wr #[.slice (some ⟨w1.heap.size, 0, none⟩) L.length L.length] 39
        have hnews := World.news_of_block bn
        have G2 := gtrans G GY
        have OY : (wr.alloc (.cells #[.slice (some ⟨w1.heap.size, 0, none⟩) L.length L.length] 39)).ownsRow base 39 1 (.slice al s.cols.length cl) s.cols.length ws := by
          have := own_keep on1.own G2
          rwa [hml] at this
        have pbY := pb1.keep G2
        have hbY : base ≤ (wr.alloc (.cells #[.slice (some ⟨w1.heap.size, 0, none⟩) L.length L.length] 39)).heap.size := Nat.le_trans I.bs (Nat.le_trans hz1 G2.size)
        have hr1 : s.cols.length + 1 ≤ 9223372036854775807 := by omega
        have hr2 : ((s.cols.length + 1) + (s.cols.length + 1) / 4 + 192) * 24 ≤ 281474976710656 := by omega
        have hon : ∀ u ∈ [(Value.slice (some ⟨w1.heap.size, 0, none⟩) L.length L.length)], u.oneCell' = true := fun u hu => by simp at hu; subst hu; rfl
        have key : ∀ (g c3 : Nat) (w6 : World), w6.ownsRow base 39 1 (.slice (some ⟨g, 0, none⟩) (s.cols.length + 1) c3) (s.cols.length + 1) (ws ++ [.slice (some ⟨w1.heap.size, 0, none⟩) L.length L.length]) → (wr.alloc (.cells #[.slice (some ⟨w1.heap.size, 0, none⟩) L.length L.length] 39)).grownBy w6 (Value.slice al s.cols.length cl).ownBlock → ((Value.slice al s.cols.length cl).ownBlock = some g ∨ g = (wr.alloc (.cells #[.slice (some ⟨w1.heap.size, 0, none⟩) L.length L.length] 39)).heap.size) →
            Bk w6 p #[.slice sa L.length sc, vi, .map (some bm), vc, .slice al s.cols.length cl, vo] 82 ∧ CStp p base (fotC p bm vc (.slice al s.cols.length cl) vo) (.slice sa L.length sc) vi w (w6.setCell ⟨p, 4, none⟩ (.slice (some ⟨g, 0, none⟩) (s.cols.length + 1) c3)) { s with cols := s.cols ++ [(x, colRow L x)] } := by
          intro g c3 w6 O6 G6 hg
          have p6 := bk_far pbY OY (by decide) G6
          refine ⟨p6, ?_⟩
          have set : ∀ {e1 : TypeId} {sz : Nat} {v : Value} {n : Nat} {xs : List Value}, 82 ≠ e1 → w6.ownsRow base e1 sz v n xs → (w6.setCell ⟨p, 4, none⟩ (.slice (some ⟨g, 0, none⟩) (s.cols.length + 1) c3)).ownsRow base e1 sz v n xs := fun {e1 sz v n xs} he o => ty_set o p6 he 4 _
          have code6 := ty_far OY (own_keep oc1 G2) (by decide) G6
          have opn6 := ty_far OY (own_keep oo1 G2) (by decide) G6
          have RO6 := ty_far OY (own_keep RO GY) (by decide) G6
          have O7 : w6.ownsRow base 39 1 (.slice (some ⟨g, 0, none⟩) (s.cols.length + 1) c3) ((s.cols.map Prod.snd).length + 1) (ws ++ [.slice (some ⟨w1.heap.size, 0, none⟩) (colRow L x).length (colRow L x).length]) := by
            rw [HM.out, colRow_len]; exact O6
          have N6 := on1.snoc (u := w6) (v' := .slice (some ⟨g, 0, none⟩) (s.cols.length + 1) c3) (colRow L x) (some ⟨w1.heap.size, 0, none⟩) (colRow L x).length w1.heap.size RO6 (fun s1 v n xs o => ty_far OY (own_keep o G2) (by decide) G6) (fun q e => by
            have : w1.heap.size = q := by simpa [Value.ownBlock] using e
            omega) (Nat.le_refl _) O7
          have N7 := N6.map (u := w6.setCell ⟨p, 4, none⟩ (.slice (some ⟨g, 0, none⟩) (s.cols.length + 1) c3)) fun e1 s1 v n xs he o => set (by rcases he with rfl | rfl <;> decide) o
          have eN : s.cols.map Prod.snd ++ [colRow L x] = (s.cols ++ [(x, colRow L x)]).map Prod.snd := by simp
          rw [eN] at N7
          have eM : (fun y => if y = x then some (s.cols.length : Int) else colF (s.cols.map Prod.fst) y) = colF ((s.cols ++ [(x, colRow L x)]).map Prod.fst) := by
            funext y
            rw [List.map_append]
            show _ = colF (s.cols.map Prod.fst ++ [x]) y
            rw [colF_snoc, List.length_map]
          have M7 : MpX (w6.setCell ⟨p, 4, none⟩ (.slice (some ⟨g, 0, none⟩) (s.cols.length + 1) c3)) bm (s.cols ++ [(x, colRow L x)]).length (colF ((s.cols ++ [(x, colRow L x)]).map Prod.fst)) := by
            rw [← eM, List.length_append]
            have MY := MX.keep G2
            refine MY.of_block ((Below.heap_setCell _ _ _ bm ?_).trans (G6.block bm MY.lt fun e => ?_))
            · show bm ≠ p
              intro e
              have hb := pbY
              unfold Bk at hb
              rw [← e] at hb
              exact MY.notCells hb
            · rcases OY.2 with ⟨e2, _⟩ | ⟨g1, c1, cur1, e2, _, hh1, _⟩
              · rw [e2] at e; cases e
              · rw [e2] at e
                have : bm = g1 := by simpa [Value.ownBlock] using e
                subst this
                exact MY.notCells hh1
          have hsz : (w6.setCell ⟨p, 4, none⟩ (.slice (some ⟨g, 0, none⟩) (s.cols.length + 1) c3)).heap.size = w6.heap.size := by simp
          have hG2 := G2.size
          refine ⟨fotC p bm vc (.slice (some ⟨g, 0, none⟩) (s.cols.length + 1) c3) vo, ⟨bm, vc, _, vo, _, rfl, ⟨p6.set 4 _, set (by decide) code6, N7, set (by decide) opn6, M7, ?_, by rw [hsz]; exact Nat.le_trans hbY G6.size, I.bp, I.bb⟩⟩, ⟨G6.os.trans (G2.os.trans hgrow1.os), G6.tape.trans (G2.tape.trans hgrow1.tape), G6.output.trans (G2.output.trans hgrow1.output), ?_, fun k h1 h2 => ?_⟩, ?_⟩
          · intro q j y e hj
            by_cases hjl : j < ws.length
            · rw [List.getElem?_append_left hjl] at hj
              exact I.far q j y e hj
            · have hj2 := (List.getElem?_eq_some_iff.1 hj).1
              rw [List.length_append, List.length_singleton] at hj2
              have : j = ws.length := by omega
              rw [this, List.getElem?_append_right (Nat.le_refl _), Nat.sub_self] at hj
              simp at hj
              subst hj
              intro e2
              have h3 : w1.heap.size = q := by simpa [Value.ownBlock] using e2
              have h4 := (World.ownsRow.lt I.opn q e).2
              omega
          · rw [hsz]; exact Nat.le_trans hz1 (Nat.le_trans hG2 G6.size)
          · exact (Below.heap_setCell _ _ _ k (fun e => h2 (.inl e))).trans ((G6.block k (by omega) (fun e => h2 (.inr (.inr (.inr (.inl e.symm)))))).trans ((G2.block k (by omega)).trans (hgrow1.block k h1 (fun e => h2 (.inr (.inl (by cases e; rfl)))))))
          · rintro k (h | h | h | h | h)
            · exact .inl (.inl h)
            · exact .inl (.inr (.inl h))
            · exact .inl (.inr (.inr (.inl h)))
            · have e' : g = k := by simpa [Value.ownBlock] using h
              subst e'
              rcases hg with h1 | h1
              · exact .inl (.inr (.inr (.inr (.inl h1))))
              · right; omega
            · exact .inl (.inr (.inr (.inr (.inr h))))
        clear I on1 RO hne own1 MX H2 H3 HF
        go_wp2_with (first
          | (at_builtin; refine wpList_append_one rfl (.tmp 59) (.tmp 61) rfl Tryz.underlying46 nfSl rfl (by decide) (.slice al s.cols.length cl) base s.cols.length _ rfl OY hbY ⟨wr.heap.size, 0, none⟩ 1 [.slice (some ⟨w1.heap.size, 0, none⟩) L.length L.length] rfl rfl hnews hon hr1 hr2 ?_; intro g c3 w6 O6 G6 hg; obtain ⟨p6, P8⟩ := key g c3 w6 O6 G6 hg; have y0 := p6.at6; have y4 := p6.free 4))
        go_ret
        exact ⟨rfl, P8⟩

end Go.Proofs.YtnolbpekdikamaaGreatDoor
namespace Go.Proofs.YtnolbpekdikamaaGreatDoor
open Go.RowKit Go.BigFrame
set_option linter.unusedVariables false
set_option linter.unusedSimpArgs false

theorem Cmp.lt {w : World} {p base : Nat} {S : Nat → Prop} {vt vi : Value} {s : Cst} (h : Cmp w p base S vt vi s) : ∀ k, S k → k < w.heap.size := by
  obtain ⟨bm, vc, vl, vo, ws, rfl, h⟩ := h
  rintro k (rfl | rfl | e | e | e)
  · exact h.blk.lt
  · exact h.map.lt
  · exact (World.ownsRow.lt h.code k e).2
  · exact (World.ownsRow.lt h.cols.own k e).2
  · exact (World.ownsRow.lt h.opn k e).2
theorem FrC.bk {S : Nat → Prop} {w u : World} (F : FrC S w u) {b : Nat} {cs : Array Value} {t : TypeId} (h : Bk w b cs t) (hn : ¬ S b) : Bk u b cs t := (F.blk b h.lt hn).trans h
/-- The new instruction, as it is begun. -/
structure InR (w0 : World) (bx : Nat) (nd : Array Value) (x : Ins) (sv : Value) (wx : World) : Prop where
  ex : ∃ b, sv = .pointer (some ⟨b, 0, none⟩) ∧ w0.heap.size ≤ b ∧ Bk wx b (insC x) 87 ∧ Below w0.heap.size w0 wx
def hasCol (n : Nd) : Bool := kMent n.op && !decide (n.op = 5)
def nodI (M : ByteArray → Option Int) (s : Cst) (n : Nd) : Ins := ⟨kCod n.op, if kMent n.op = true then (M n.v).getD 0 else 0, if hasCol n = true then colV s n.x else 0, kLit n, 0⟩
def nod1 (L : List Ty) (s : Cst) (n : Nd) : Cst := if hasCol n = true then colS L s n.x else s
def nod2 (L : List Ty) (M : ByteArray → Option Int) (s : Cst) (n : Nd) : Cst := { nod1 L s n with code := (nod1 L s n).code ++ [nodI M s n] }
def lastN (l : List Nat) : Nat := l.getD (l.length - 1) 0
def landS (s : Cst) : Cst := { s with code := s.code.set (lastN s.opn) (insTo (s.code.getD (lastN s.opn) noIn) (s.code.length : Int)), opn := s.opn.dropLast }
def nodS (L : List Ty) (M : ByteArray → Option Int) (s : Cst) (n : Nd) : Cst := if n.op = 25 ∨ n.op = 26 then landS (nod2 L M s n) else nod2 L M s n
theorem sets5 {w : World} {b : Nat} {a0 a1 a2 a3 a4 : Value} {T : TypeId} (h : Bk w b #[a0, a1, a2, a3, a4] T) (x0 x1 x2 x3 x4 : Value) : Bk (((((w.setCell ⟨b, 0, none⟩ x0).setCell ⟨b, 1, none⟩ x1).setCell ⟨b, 2, none⟩ x2).setCell ⟨b, 3, none⟩ x3).setCell ⟨b, 4, none⟩ x4) b #[x0, x1, x2, x3, x4] T := by
  have := ((((h.set 0 x0).set 1 x1).set 2 x2).set 3 x3).set 4 x4
  simpa using this

end Go.Proofs.YtnolbpekdikamaaGreatDoor
