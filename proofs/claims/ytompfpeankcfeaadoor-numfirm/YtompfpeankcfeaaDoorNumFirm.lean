/- For every line of steps and every blur the law NumFirm returns true: what a later step still knows of blurred values is what it comes to without the blur. num's tables hold what their texts lay (the card ties that to the text). No other condition. -/
import Derived.Test.YtompfpeankcfeaaDoorDim
import Derived.Test.YtompfpeankcfeaaDoorOpenSt
import Derived.Test.YtompfpeankcfeaaDoorOwnV
import Derived.Test.YtompfpeankcfeaaDoorNumber
import Derived.Test.YtompfpeankcfeaaDoorDoorTab
import Derived.Test.YtompfpeankcfeaaDoorCards
import Derived.Test.YtompfpeankcfeaaDoorTie
import Derived.OpenShut
import Derived.Carry
import Derived.Deep.DeepHandedRow
namespace Go.Proofs.YtompfpeankcfeaaDoor.numFirm
open Go.ChangeShapes Go.WideShapes Go.ChangeAt Go.RowKit Go.BigFrame
set_option linter.unusedVariables false
set_option linter.unusedSimpArgs false

theorem five_new (w : World) (op i j : Int) (kv : Bool) (nv : Int) : Five (w.alloc (.cells #[.int .i64 op, .int .i64 i, .int .i64 j, .bool kv, .int .i64 nv] 31)) w.heap.size op i j (kv, nv) := by
  show (w.heap.push _)[w.heap.size]? = _
  simp
theorem five_set {w : World} {b : Nat} {op i j : Int} {v : V2} (h : Five w b op i j v) (z : Int) : Five (w.setCell ⟨b, 0, none⟩ (.int .i64 z)) b z i j v := by
  have hlt := h.lt
  unfold Five at h
  have h' : w.heap[b] = .cells #[.int .i64 op, .int .i64 i, .int .i64 j, .bool v.1, .int .i64 v.2] 31 (0, 0) := by simpa [Array.getElem?_eq_getElem hlt] using h
  show (w.heap.modify b _)[b]? = _
  rw [Array.getElem?_eq_getElem (by simpa using hlt), Array.getElem_modify_self, h']
  rfl
theorem five_free {w : World} {b : Nat} {op i j : Int} {v : V2} (h : Five w b op i j v) (o : Nat) : w.frozen? ⟨b, o, none⟩ = false := by unfold Five at h; simp [World.frozen?, h]

set_option maxRecDepth 100000 in
set_option maxHeartbeats 8000000 in
theorem walk (ao : Option Addr) (n cap : Nat) (st : List Stp) (bo : Option Addr) (bn bcap : Nat) (w : World) (TS : Tabs w) (TN : TabN w) (h : IsSteps w ao n st) (hr : n * 40 ≤ 140737488351232) (hbl : IsBools w bo bn) :
    Calls Tryd.prog 3 #[.slice ao n cap, .slice bo bn bcap] w fun e w' => e = .returned (.bool true) ∧ Below w.heap.size w w' := by
  obtain ⟨i3, ti, tz0, tz1, tz2⟩ := info_partsV
  have hn := h.2.1
  have hbn := hbl.1
  have G := Below.refl w.heap.size w
  have ca : ∀ u, Tabs u → Calls Tryd.prog 5 #[.int .i64 25, .agg #[.bool true, .int .i64 0], .agg #[.bool false, .int .i64 0]] u (fun e w' => e = .returned (.agg #[.bool true, .int .i64 0]) ∧ Below u.heap.size u w') := fun u T => (apply_is 25 (true, 0) (false, 0) (by decide) (by decide)).1 u T
  have cb : ∀ u, Tabs u → Calls Tryd.prog 5 #[.int .i64 14, .agg #[.bool true, .int .i64 2], .agg #[.bool true, .int .i64 3]] u (fun e w' => e = .returned (.agg #[.bool true, .int .i64 5]) ∧ Below u.heap.size u w') := fun u T => (apply_is 14 (true, 2) (true, 3) (by decide) (by decide)).1 u T
  go_enter Tryd.func3, Tryd.ntmps3
  go_upto_region 6 with (first
    | (go_at_call 6; refine (number_any _ _).mono ?_; rintro e u ⟨rfl, g⟩; replace G := gtrans G g; clear g)
    | (go_at_call 5; with_reducible (first | refine (ca _ (TS.keep G)).mono ?_ | refine (cb _ (TS.keep G)).mono ?_); rintro e u ⟨rfl, g⟩; replace G := gtrans G g; clear g))
  clear ca cb
  obtain ⟨W1, hW1⟩ : ∃ W1, W1 = u := ⟨_, rfl⟩
  rw [← hW1] at G ⊢
  clear hW1
  have B1 := G
  go_loopw [5, 6, 7] (fun v1 v2 i wr => ∃ (k : Nat) (vs ds : List V2), k ≤ n ∧ i = .int .i64 k ∧ (∀ j, fitsB (vs.getD j noV).2 = true) ∧ (∀ j, fitsB (ds.getD j noV).2 = true) ∧ ds.length = vs.length ∧ (∀ j, Dm (ds.getD j noV) (vs.getD j noV)) ∧ wr.ownsRow W1.heap.size 25 2 v1 k (valsV vs) ∧ wr.ownsRow W1.heap.size 25 2 v2 k (valsV ds) ∧ (v1.ownBlock = none ∨ v1.ownBlock ≠ v2.ownBlock) ∧ Below w.heap.size w wr ∧ W1.heap.size ≤ wr.heap.size) (fun _ _ i _ => n - (intOf i).toNat)
  case atStart => exact ⟨0, [], [], Nat.zero_le _, rfl, fun j => by simp [noV]; decide, fun j => by simp [noV]; decide, rfl, fun j _ => rfl, World.ownsRow_nil _ _ _ _, World.ownsRow_nil _ _ _ _, .inl rfl, B1, Nat.le_refl _⟩
  case round =>
    obtain ⟨k, vs, ds, hk, rfl, hfv, hfd, hll, hdm, D1, D2, hap, G, hsz⟩ := hrel
    by_cases hlt : k < n
    · obtain ⟨_, _, hst, q4⟩ := h.keep G
      rcases q4 with q4 | ⟨b, off, eb, hb, hcb⟩
      · omega
      subst eb
      obtain ⟨s0, s1, s2, s3, s4⟩ := hcb k hlt
      obtain ⟨w0, w1, w2, w4⟩ := hst k
      obtain ⟨s, hs⟩ : ∃ s, s = st.getD k noS := ⟨_, rfl⟩
      rw [← hs] at s0 s1 s2 s3 s4 w0 w1 w2 w4
      clear hcb hs hst
      obtain ⟨op, si, sj, kv, nv⟩ := s
      obtain ⟨a1, c1, rfl, V1⟩ := vals_of_own D1 hfv
      obtain ⟨a2, c2, rfl, V2⟩ := vals_of_own D2 hfd
      have hl1 := V1.1
      have n1 := fun r e => (D1.lt r e)
      have n2 := fun r e => (D2.lt r e)
      rcases (show ¬ 5 ≤ op ∨ (5 ≤ op ∧ ¬ op ≤ 10) ∨ (5 ≤ op ∧ op ≤ 10) from by omega) with q5 | ⟨q5, q6⟩ | ⟨q5, q6⟩
      · go_upto_region 11 with fail
        have E0 := galloc (Below.refl wr.heap.size wr) (.cells #[.int .i64 op, .int .i64 si, .int .i64 sj, .bool kv, .int .i64 nv] 31)
        have F0 := five_new wr op si sj kv nv
        generalize hU0 : wr.alloc (.cells #[.int .i64 op, .int .i64 si, .int .i64 sj, .bool kv, .int .i64 nv] 31) = U0 at E0 F0 ⊢
        have hop : ¬ (5 ≤ op ∧ op ≤ 10) := by omega
        obtain ⟨oq, hoq⟩ : ∃ oq, oq = op := ⟨_, rfl⟩
        rw [← hoq] at F0 hop
        clear hU0 s0 s1 s2 s3 s4 hoq
        generalize hbs : wr.heap.size = bs at F0 ⊢
        have lbs : wr.heap.size ≤ bs := by omega
        clear hbs
        obtain ⟨y0, y1, y2, y3, y4⟩ := F0.cells
        have ca := asked_any a1 k c1 vs oq si sj (kv, nv) U0 (V1.keep E0) w1 w2 (fun e => absurd e hop) (TS.keep (gtrans G E0)) (TN.keep (gtrans G E0))
        have cd := fun (u : World) (g : Below wr.heap.size wr u) => asked_any a2 k c2 ds oq si sj (kv, nv) u (V2.keep g) w1 w2 (fun e => absurd e hop) (TS.keep (gtrans G g)) (TN.keep (gtrans G g))
        have hrf := askedV_fits vs hfv (by omega) oq si sj (kv, nv) w4
        have hrd := askedV_fits ds hfd (by omega) oq si sj (kv, nv) w4
        have hdr := dm_asked hll hdm oq si sj (kv, nv) hop
        obtain ⟨r, hrr⟩ : ∃ r, r = askedV vs oq si sj (kv, nv) := ⟨_, rfl⟩
        obtain ⟨x, hxx⟩ : ∃ x, x = askedV ds oq si sj (kv, nv) := ⟨_, rfl⟩
        rw [← hrr] at ca hrf hdr
        rw [← hxx] at hrd hdr
        simp only [← hxx] at cd
        clear hrr hxx
        obtain ⟨rk, rn⟩ := r
        obtain ⟨xk, xn⟩ := x
        go_upto_region 12 with (go_at_call 7; with_reducible refine ca.mono ?_; rintro e u ⟨rfl, g⟩)
        have E1 := galloc (gtrans E0 g) (.cells #[.bool rk, .int .i64 rn] 25)
        have T1 := Two.new u (.bool rk) (.int .i64 rn) 25
        have F1 := (F0.keep g).keep (galloc (Below.refl u.heap.size u) (.cells #[.bool rk, .int .i64 rn] 25))
        have l1 : wr.heap.size ≤ u.heap.size := (gtrans E0 g).size
        generalize hU1 : u.alloc (.cells #[.bool rk, .int .i64 rn] 25) = U1 at E1 T1 F1 ⊢
        generalize hb1 : u.heap.size = bv at T1 l1 ⊢
        clear hU1 hb1 g ca y0 y1 y2 y3 y4 F0 u
        obtain ⟨y0, y1, y2, y3, y4⟩ := F1.cells
        have cd1 := cd U1 E1
        go_upto_region 13 with (go_at_call 7; with_reducible refine cd1.mono ?_; rintro e u ⟨rfl, g⟩)
        have E2 := galloc (gtrans E1 g) (.cells #[.bool xk, .int .i64 xn] 25)
        have T2 := Two.new u (.bool xk) (.int .i64 xn) 25
        have l3 : bv < u.heap.size := (T1.keep g).lt
        replace T1 := (T1.keep g).alloc (.cells #[.bool xk, .int .i64 xn] 25)
        have F2 := (F1.keep g).keep (galloc (Below.refl u.heap.size u) (.cells #[.bool xk, .int .i64 xn] 25))
        have l2 : wr.heap.size ≤ u.heap.size := (gtrans E1 g).size
        generalize hU2 : u.alloc (.cells #[.bool xk, .int .i64 xn] 25) = U2 at E2 T1 T2 F2 ⊢
        generalize hb2 : u.heap.size = bw at T2 l2 l3 ⊢
        clear hU2 hb2 g E1 cd cd1 y0 y1 y2 y3 y4 F1
        obtain ⟨y0, -, -, -, -⟩ := F2.cells
        have t0 := T1.at0
        have t1 := T1.at1
        have t2 := T2.at0
        have t3 := T2.at1
        by_cases hz0 : oq = 0
        · have q0 : (oq == 0) = true := by simpa using hz0
          clear hz0
          obtain ⟨y, hy, cbl⟩ := blurred_any xk xn bo bn bcap k U2 (hbl.keep (gtrans G E2)) (by omega)
          have t4 := T2.free
          go_upto_region 15 with (go_at_call 8; with_reducible refine cbl.mono ?_; rintro e u ⟨rfl, g⟩; have T9 := T2.keep g; have t5 := T9.at0; have t6 := T9.at1; have t7 := T9.free)
          obtain ⟨zk, zn⟩ := y
          have hdz : Dm (zk, zn) (rk, rn) := by
            rcases hy with e | e
            · rw [e]; exact hdr
            · rw [e]; exact fun h => absurd h (by decide)
          have hrz : fitsB (zk, zn).2 = true := by
            rcases hy with e | e
            · rw [e]; exact hrd
            · rw [e]; decide
          replace T2 := T9.set (.bool zk) (.int .i64 zn)
          replace T1 := ((T1.keep g).other (p := ⟨bw, 0, none⟩) (by show bv ≠ bw; omega) (.bool zk)).other (p := ⟨bw, 1, none⟩) (by show bv ≠ bw; omega) (.int .i64 zn)
          replace E2 := gset (gset (gtrans E2 g) (p := ⟨bw, 0, none⟩) l2 (.bool zk)) (p := ⟨bw, 1, none⟩) l2 (.int .i64 zn)
          generalize hU3 : (u.setCell ⟨bw, 0, none⟩ (.bool zk)).setCell ⟨bw, 1, none⟩ (.int .i64 zn) = U3 at T1 T2 E2 ⊢
          clear hU3 t0 t1 t2 t3 t4 t5 t6 t7 T9 g F2 y0 cbl hy
          obtain ⟨U2', hU2'⟩ : ∃ U2', U2' = U3 := ⟨_, rfl⟩
          rw [← hU2'] at T1 T2 E2 ⊢
          clear hU2' U2
          obtain ⟨U2, hU2⟩ : ∃ U2, U2 = U2' := ⟨_, rfl⟩
          rw [← hU2] at T1 T2 E2 ⊢
          clear hU2
          have t0 := T1.at0
          have t1 := T1.at1
          have t2 := T2.at0
          have t3 := T2.at1
          have D1' := own_keepV D1 E2
          have D2' := own_keepV D2 E2
          have hsz2 := E2.size
          have lw : bw < U2.heap.size := T2.lt
          cases zk
          · skip
            go_upto_region 18 with (at_builtin; refine wpList_append_lies _ rfl (.tmp 67) (.tmp 69) 29 rfl W1.heap.size 25 i3 (.agg #[.bool false, .int .i64 0]) 2 16 Tryd.underlying29 ti tz0 tz1 tz2 rfl (by decide) _ k (valsV vs) rfl (D1'.alloc _) ⟨U2.heap.size, 0, none⟩ 1 1 [.bool rk, .int .i64 rn] rfl rfl (new2 _ _ _ _) (one_val rk rn) (by decide) ?c3 ?c4 ?c5 _ rfl ?_)
            case c3 => unfold maxLen; omega
            case c4 => omega
            case c5 => first | omega | (simp; omega)
            intro g1 c3 w6 hown6 hgrow6 hat6 hlt6
            have D26 : w6.ownsRow W1.heap.size 25 2 (.slice a2 k c2) k (valsV ds) := (D2'.alloc _).kept hgrow6 (by
              rcases hap with e | e
              · rw [e]
                cases h5 : (Value.slice a2 k c2).ownBlock with
                | none => exact .inl rfl
                | some r => exact .inr (by simp)
              · exact .inr (Ne.symm e))
            have T26 : Two w6 bw (.bool false) (.int .i64 zn) 25 := (hgrow6.block bw (by simp; omega) (fun e => by have := (n1 _ e.symm).2; omega)).trans (T2.alloc _)
            have T27 := T26
            have G6 : Below w.heap.size w w6 := ((gtrans G E2).alloc (by have := (gtrans G E2).size; omega) _).grown hgrow6 (by have := (gtrans G E2).size; simp; omega) (fun r e => by have := (n1 r e).1; have := B1.size; omega)
            have hs6 : U2.heap.size + 1 ≤ w6.heap.size := by have := hgrow6.size; simpa using this
            have hH6 : (Value.slice a1 k c1).ownBlock = some g1 ∨ g1 = U2.heap.size + 1 := by rcases hat6 with e | e; exact .inl e; exact .inr (by first | exact e | simpa using e)
            clear hat6 hgrow6 t0 t1 t2 t3 D1' D2' T1 T2 T26
            have t2 := T27.at0
            have t3 := T27.at1
            go_upto_region 7 with (at_builtin; refine wpList_append_lies _ rfl (.tmp 71) (.tmp 73) 29 rfl W1.heap.size 25 i3 (.agg #[.bool false, .int .i64 0]) 2 16 Tryd.underlying29 ti tz0 tz1 tz2 rfl (by decide) _ k (valsV ds) rfl (D26.alloc _) ⟨w6.heap.size, 0, none⟩ 1 1 [.bool false, .int .i64 zn] rfl rfl (new2 _ _ _ _) (one_val false zn) (by decide) ?c3 ?c4 ?c5 _ rfl ?_)
            case c3 => unfold maxLen; omega
            case c4 => omega
            case c5 => first | omega | (simp; omega)
            intro g2 c4 w7 hown7 hgrow7 hat7 hlt7
            have hne : ∀ r, (Value.slice a2 k c2).ownBlock = some r → r ≠ g1 := fun r e e2 => by
              subst e2
              rcases hH6 with h5 | h5
              · rcases hap with h6 | h6
                · rw [h6] at h5; cases h5
                · exact h6 (h5.trans e.symm)
              · have := (n2 r e).2; omega
            have D17 : w7.ownsRow W1.heap.size 25 2 (.slice (some ⟨g1, 0, none⟩) (k + 1) c3) (k + 1) (valsV (vs ++ [(rk, rn)])) := by
              rw [valsV_append]
              refine (hown6.alloc _).kept hgrow7 (.inr ?_)
              intro e
              exact hne g1 e.symm rfl
            have D27 : w7.ownsRow W1.heap.size 25 2 (.slice (some ⟨g2, 0, none⟩) (k + 1) c4) (k + 1) (valsV (ds ++ [(false, zn)])) := by
              rw [valsV_append]; exact hown7
            have hap7 : g1 ≠ g2 := fun e => by
              rcases hat7 with h5 | h5
              · exact hne g2 h5 e.symm
              · try simp at h5
                omega
            have G7 : Below w.heap.size w w7 := (G6.alloc G6.size _).grown hgrow7 (by have := G6.size; simp; omega) (fun r e => by have := (n2 r e).1; have := B1.size; omega)
            have hs7 : W1.heap.size ≤ w7.heap.size := by have := hgrow7.size; simp at this; omega
            clear hown6 hown7 hgrow7 hat7 D26 T27 t2 t3 G6 D1 D2 G V1 V2
            go_wp2
            go_roundw
            case rel => exact ⟨k + 1, _, _, by omega, by go_num, fits_snoc vs _ hfv hrf, fits_snoc ds _ hfd hrz, by simp [hll], dm_snoc hll hdm hdz, D17, D27, .inr (by simp [Value.ownBlock]; exact hap7), G7, hs7⟩
            case measure => simp [intOf]; omega
          · have e5 := hdz rfl
            simp only [Prod.mk.injEq] at e5
            obtain ⟨e6, e7⟩ := e5
            subst e6 e7
            go_upto_region 18 with (at_builtin; refine wpList_append_lies _ rfl (.tmp 67) (.tmp 69) 29 rfl W1.heap.size 25 i3 (.agg #[.bool false, .int .i64 0]) 2 16 Tryd.underlying29 ti tz0 tz1 tz2 rfl (by decide) _ k (valsV vs) rfl (D1'.alloc _) ⟨U2.heap.size, 0, none⟩ 1 1 [.bool true, .int .i64 zn] rfl rfl (new2 _ _ _ _) (one_val true zn) (by decide) ?c3 ?c4 ?c5 _ rfl ?_)
            case c3 => unfold maxLen; omega
            case c4 => omega
            case c5 => first | omega | (simp; omega)
            intro g1 c3 w6 hown6 hgrow6 hat6 hlt6
            have D26 : w6.ownsRow W1.heap.size 25 2 (.slice a2 k c2) k (valsV ds) := (D2'.alloc _).kept hgrow6 (by
              rcases hap with e | e
              · rw [e]
                cases h5 : (Value.slice a2 k c2).ownBlock with
                | none => exact .inl rfl
                | some r => exact .inr (by simp)
              · exact .inr (Ne.symm e))
            have T26 : Two w6 bw (.bool true) (.int .i64 zn) 25 := (hgrow6.block bw (by simp; omega) (fun e => by have := (n1 _ e.symm).2; omega)).trans (T2.alloc _)
            have T27 := T26
            have G6 : Below w.heap.size w w6 := ((gtrans G E2).alloc (by have := (gtrans G E2).size; omega) _).grown hgrow6 (by have := (gtrans G E2).size; simp; omega) (fun r e => by have := (n1 r e).1; have := B1.size; omega)
            have hs6 : U2.heap.size + 1 ≤ w6.heap.size := by have := hgrow6.size; simpa using this
            have hH6 : (Value.slice a1 k c1).ownBlock = some g1 ∨ g1 = U2.heap.size + 1 := by rcases hat6 with e | e; exact .inl e; exact .inr (by first | exact e | simpa using e)
            clear hat6 hgrow6 t0 t1 t2 t3 D1' D2' T1 T2 T26
            have t2 := T27.at0
            have t3 := T27.at1
            go_upto_region 7 with (at_builtin; refine wpList_append_lies _ rfl (.tmp 71) (.tmp 73) 29 rfl W1.heap.size 25 i3 (.agg #[.bool false, .int .i64 0]) 2 16 Tryd.underlying29 ti tz0 tz1 tz2 rfl (by decide) _ k (valsV ds) rfl (D26.alloc _) ⟨w6.heap.size, 0, none⟩ 1 1 [.bool true, .int .i64 zn] rfl rfl (new2 _ _ _ _) (one_val true zn) (by decide) ?c3 ?c4 ?c5 _ rfl ?_)
            case c3 => unfold maxLen; omega
            case c4 => omega
            case c5 => first | omega | (simp; omega)
            intro g2 c4 w7 hown7 hgrow7 hat7 hlt7
            have hne : ∀ r, (Value.slice a2 k c2).ownBlock = some r → r ≠ g1 := fun r e e2 => by
              subst e2
              rcases hH6 with h5 | h5
              · rcases hap with h6 | h6
                · rw [h6] at h5; cases h5
                · exact h6 (h5.trans e.symm)
              · have := (n2 r e).2; omega
            have D17 : w7.ownsRow W1.heap.size 25 2 (.slice (some ⟨g1, 0, none⟩) (k + 1) c3) (k + 1) (valsV (vs ++ [(true, zn)])) := by
              rw [valsV_append]
              refine (hown6.alloc _).kept hgrow7 (.inr ?_)
              intro e
              exact hne g1 e.symm rfl
            have D27 : w7.ownsRow W1.heap.size 25 2 (.slice (some ⟨g2, 0, none⟩) (k + 1) c4) (k + 1) (valsV (ds ++ [(true, zn)])) := by
              rw [valsV_append]; exact hown7
            have hap7 : g1 ≠ g2 := fun e => by
              rcases hat7 with h5 | h5
              · exact hne g2 h5 e.symm
              · try simp at h5
                omega
            have G7 : Below w.heap.size w w7 := (G6.alloc G6.size _).grown hgrow7 (by have := G6.size; simp; omega) (fun r e => by have := (n2 r e).1; have := B1.size; omega)
            have hs7 : W1.heap.size ≤ w7.heap.size := by have := hgrow7.size; simp at this; omega
            clear hown6 hown7 hgrow7 hat7 D26 T27 t2 t3 G6 D1 D2 G V1 V2
            go_wp2
            go_roundw
            case rel => exact ⟨k + 1, _, _, by omega, by go_num, fits_snoc vs _ hfv hrf, fits_snoc ds _ hfd hrz, by simp [hll], dm_snoc hll hdm hdz, D17, D27, .inr (by simp [Value.ownBlock]; exact hap7), G7, hs7⟩
            case measure => simp [intOf]; omega
        have q0 : (oq == 0) = false := by simpa using hz0
        clear hz0
        by_cases hk0 : k = 0
        · have q1 : ((k : Int) == 0) = true := by simp; omega
          clear hk0
          obtain ⟨y, hy, cbl⟩ := blurred_any xk xn bo bn bcap k U2 (hbl.keep (gtrans G E2)) (by omega)
          have t4 := T2.free
          go_upto_region 15 with (go_at_call 8; with_reducible refine cbl.mono ?_; rintro e u ⟨rfl, g⟩; have T9 := T2.keep g; have t5 := T9.at0; have t6 := T9.at1; have t7 := T9.free)
          obtain ⟨zk, zn⟩ := y
          have hdz : Dm (zk, zn) (rk, rn) := by
            rcases hy with e | e
            · rw [e]; exact hdr
            · rw [e]; exact fun h => absurd h (by decide)
          have hrz : fitsB (zk, zn).2 = true := by
            rcases hy with e | e
            · rw [e]; exact hrd
            · rw [e]; decide
          replace T2 := T9.set (.bool zk) (.int .i64 zn)
          replace T1 := ((T1.keep g).other (p := ⟨bw, 0, none⟩) (by show bv ≠ bw; omega) (.bool zk)).other (p := ⟨bw, 1, none⟩) (by show bv ≠ bw; omega) (.int .i64 zn)
          replace E2 := gset (gset (gtrans E2 g) (p := ⟨bw, 0, none⟩) l2 (.bool zk)) (p := ⟨bw, 1, none⟩) l2 (.int .i64 zn)
          generalize hU3 : (u.setCell ⟨bw, 0, none⟩ (.bool zk)).setCell ⟨bw, 1, none⟩ (.int .i64 zn) = U3 at T1 T2 E2 ⊢
          clear hU3 t0 t1 t2 t3 t4 t5 t6 t7 T9 g F2 y0 cbl hy
          obtain ⟨U2', hU2'⟩ : ∃ U2', U2' = U3 := ⟨_, rfl⟩
          rw [← hU2'] at T1 T2 E2 ⊢
          clear hU2' U2
          obtain ⟨U2, hU2⟩ : ∃ U2, U2 = U2' := ⟨_, rfl⟩
          rw [← hU2] at T1 T2 E2 ⊢
          clear hU2
          have t0 := T1.at0
          have t1 := T1.at1
          have t2 := T2.at0
          have t3 := T2.at1
          have D1' := own_keepV D1 E2
          have D2' := own_keepV D2 E2
          have hsz2 := E2.size
          have lw : bw < U2.heap.size := T2.lt
          cases zk
          · skip
            go_upto_region 18 with (at_builtin; refine wpList_append_lies _ rfl (.tmp 67) (.tmp 69) 29 rfl W1.heap.size 25 i3 (.agg #[.bool false, .int .i64 0]) 2 16 Tryd.underlying29 ti tz0 tz1 tz2 rfl (by decide) _ k (valsV vs) rfl (D1'.alloc _) ⟨U2.heap.size, 0, none⟩ 1 1 [.bool rk, .int .i64 rn] rfl rfl (new2 _ _ _ _) (one_val rk rn) (by decide) ?c3 ?c4 ?c5 _ rfl ?_)
            case c3 => unfold maxLen; omega
            case c4 => omega
            case c5 => first | omega | (simp; omega)
            intro g1 c3 w6 hown6 hgrow6 hat6 hlt6
            have D26 : w6.ownsRow W1.heap.size 25 2 (.slice a2 k c2) k (valsV ds) := (D2'.alloc _).kept hgrow6 (by
              rcases hap with e | e
              · rw [e]
                cases h5 : (Value.slice a2 k c2).ownBlock with
                | none => exact .inl rfl
                | some r => exact .inr (by simp)
              · exact .inr (Ne.symm e))
            have T26 : Two w6 bw (.bool false) (.int .i64 zn) 25 := (hgrow6.block bw (by simp; omega) (fun e => by have := (n1 _ e.symm).2; omega)).trans (T2.alloc _)
            have T27 := T26
            have G6 : Below w.heap.size w w6 := ((gtrans G E2).alloc (by have := (gtrans G E2).size; omega) _).grown hgrow6 (by have := (gtrans G E2).size; simp; omega) (fun r e => by have := (n1 r e).1; have := B1.size; omega)
            have hs6 : U2.heap.size + 1 ≤ w6.heap.size := by have := hgrow6.size; simpa using this
            have hH6 : (Value.slice a1 k c1).ownBlock = some g1 ∨ g1 = U2.heap.size + 1 := by rcases hat6 with e | e; exact .inl e; exact .inr (by first | exact e | simpa using e)
            clear hat6 hgrow6 t0 t1 t2 t3 D1' D2' T1 T2 T26
            have t2 := T27.at0
            have t3 := T27.at1
            go_upto_region 7 with (at_builtin; refine wpList_append_lies _ rfl (.tmp 71) (.tmp 73) 29 rfl W1.heap.size 25 i3 (.agg #[.bool false, .int .i64 0]) 2 16 Tryd.underlying29 ti tz0 tz1 tz2 rfl (by decide) _ k (valsV ds) rfl (D26.alloc _) ⟨w6.heap.size, 0, none⟩ 1 1 [.bool false, .int .i64 zn] rfl rfl (new2 _ _ _ _) (one_val false zn) (by decide) ?c3 ?c4 ?c5 _ rfl ?_)
            case c3 => unfold maxLen; omega
            case c4 => omega
            case c5 => first | omega | (simp; omega)
            intro g2 c4 w7 hown7 hgrow7 hat7 hlt7
            have hne : ∀ r, (Value.slice a2 k c2).ownBlock = some r → r ≠ g1 := fun r e e2 => by
              subst e2
              rcases hH6 with h5 | h5
              · rcases hap with h6 | h6
                · rw [h6] at h5; cases h5
                · exact h6 (h5.trans e.symm)
              · have := (n2 r e).2; omega
            have D17 : w7.ownsRow W1.heap.size 25 2 (.slice (some ⟨g1, 0, none⟩) (k + 1) c3) (k + 1) (valsV (vs ++ [(rk, rn)])) := by
              rw [valsV_append]
              refine (hown6.alloc _).kept hgrow7 (.inr ?_)
              intro e
              exact hne g1 e.symm rfl
            have D27 : w7.ownsRow W1.heap.size 25 2 (.slice (some ⟨g2, 0, none⟩) (k + 1) c4) (k + 1) (valsV (ds ++ [(false, zn)])) := by
              rw [valsV_append]; exact hown7
            have hap7 : g1 ≠ g2 := fun e => by
              rcases hat7 with h5 | h5
              · exact hne g2 h5 e.symm
              · try simp at h5
                omega
            have G7 : Below w.heap.size w w7 := (G6.alloc G6.size _).grown hgrow7 (by have := G6.size; simp; omega) (fun r e => by have := (n2 r e).1; have := B1.size; omega)
            have hs7 : W1.heap.size ≤ w7.heap.size := by have := hgrow7.size; simp at this; omega
            clear hown6 hown7 hgrow7 hat7 D26 T27 t2 t3 G6 D1 D2 G V1 V2
            go_wp2
            go_roundw
            case rel => exact ⟨k + 1, _, _, by omega, by go_num, fits_snoc vs _ hfv hrf, fits_snoc ds _ hfd hrz, by simp [hll], dm_snoc hll hdm hdz, D17, D27, .inr (by simp [Value.ownBlock]; exact hap7), G7, hs7⟩
            case measure => simp [intOf]; omega
          · have e5 := hdz rfl
            simp only [Prod.mk.injEq] at e5
            obtain ⟨e6, e7⟩ := e5
            subst e6 e7
            go_upto_region 18 with (at_builtin; refine wpList_append_lies _ rfl (.tmp 67) (.tmp 69) 29 rfl W1.heap.size 25 i3 (.agg #[.bool false, .int .i64 0]) 2 16 Tryd.underlying29 ti tz0 tz1 tz2 rfl (by decide) _ k (valsV vs) rfl (D1'.alloc _) ⟨U2.heap.size, 0, none⟩ 1 1 [.bool true, .int .i64 zn] rfl rfl (new2 _ _ _ _) (one_val true zn) (by decide) ?c3 ?c4 ?c5 _ rfl ?_)
            case c3 => unfold maxLen; omega
            case c4 => omega
            case c5 => first | omega | (simp; omega)
            intro g1 c3 w6 hown6 hgrow6 hat6 hlt6
            have D26 : w6.ownsRow W1.heap.size 25 2 (.slice a2 k c2) k (valsV ds) := (D2'.alloc _).kept hgrow6 (by
              rcases hap with e | e
              · rw [e]
                cases h5 : (Value.slice a2 k c2).ownBlock with
                | none => exact .inl rfl
                | some r => exact .inr (by simp)
              · exact .inr (Ne.symm e))
            have T26 : Two w6 bw (.bool true) (.int .i64 zn) 25 := (hgrow6.block bw (by simp; omega) (fun e => by have := (n1 _ e.symm).2; omega)).trans (T2.alloc _)
            have T27 := T26
            have G6 : Below w.heap.size w w6 := ((gtrans G E2).alloc (by have := (gtrans G E2).size; omega) _).grown hgrow6 (by have := (gtrans G E2).size; simp; omega) (fun r e => by have := (n1 r e).1; have := B1.size; omega)
            have hs6 : U2.heap.size + 1 ≤ w6.heap.size := by have := hgrow6.size; simpa using this
            have hH6 : (Value.slice a1 k c1).ownBlock = some g1 ∨ g1 = U2.heap.size + 1 := by rcases hat6 with e | e; exact .inl e; exact .inr (by first | exact e | simpa using e)
            clear hat6 hgrow6 t0 t1 t2 t3 D1' D2' T1 T2 T26
            have t2 := T27.at0
            have t3 := T27.at1
            go_upto_region 7 with (at_builtin; refine wpList_append_lies _ rfl (.tmp 71) (.tmp 73) 29 rfl W1.heap.size 25 i3 (.agg #[.bool false, .int .i64 0]) 2 16 Tryd.underlying29 ti tz0 tz1 tz2 rfl (by decide) _ k (valsV ds) rfl (D26.alloc _) ⟨w6.heap.size, 0, none⟩ 1 1 [.bool true, .int .i64 zn] rfl rfl (new2 _ _ _ _) (one_val true zn) (by decide) ?c3 ?c4 ?c5 _ rfl ?_)
            case c3 => unfold maxLen; omega
            case c4 => omega
            case c5 => first | omega | (simp; omega)
            intro g2 c4 w7 hown7 hgrow7 hat7 hlt7
            have hne : ∀ r, (Value.slice a2 k c2).ownBlock = some r → r ≠ g1 := fun r e e2 => by
              subst e2
              rcases hH6 with h5 | h5
              · rcases hap with h6 | h6
                · rw [h6] at h5; cases h5
                · exact h6 (h5.trans e.symm)
              · have := (n2 r e).2; omega
            have D17 : w7.ownsRow W1.heap.size 25 2 (.slice (some ⟨g1, 0, none⟩) (k + 1) c3) (k + 1) (valsV (vs ++ [(true, zn)])) := by
              rw [valsV_append]
              refine (hown6.alloc _).kept hgrow7 (.inr ?_)
              intro e
              exact hne g1 e.symm rfl
            have D27 : w7.ownsRow W1.heap.size 25 2 (.slice (some ⟨g2, 0, none⟩) (k + 1) c4) (k + 1) (valsV (ds ++ [(true, zn)])) := by
              rw [valsV_append]; exact hown7
            have hap7 : g1 ≠ g2 := fun e => by
              rcases hat7 with h5 | h5
              · exact hne g2 h5 e.symm
              · try simp at h5
                omega
            have G7 : Below w.heap.size w w7 := (G6.alloc G6.size _).grown hgrow7 (by have := G6.size; simp; omega) (fun r e => by have := (n2 r e).1; have := B1.size; omega)
            have hs7 : W1.heap.size ≤ w7.heap.size := by have := hgrow7.size; simp at this; omega
            clear hown6 hown7 hgrow7 hat7 D26 T27 t2 t3 G6 D1 D2 G V1 V2
            go_wp2
            go_roundw
            case rel => exact ⟨k + 1, _, _, by omega, by go_num, fits_snoc vs _ hfv hrf, fits_snoc ds _ hfd hrz, by simp [hll], dm_snoc hll hdm hdz, D17, D27, .inr (by simp [Value.ownBlock]; exact hap7), G7, hs7⟩
            case measure => simp [intOf]; omega
        have q1 : ((k : Int) == 0) = false := by simp; omega
        go_upto_region 15 with fail
        have hdz : Dm (xk, xn) (rk, rn) := hdr
        have hrz : fitsB (xk, xn).2 = true := hrd
        obtain ⟨zk, hzk⟩ : ∃ zk, zk = xk := ⟨_, rfl⟩
        obtain ⟨zn, hzn⟩ : ∃ zn, zn = xn := ⟨_, rfl⟩
        subst hzk hzn
        clear F2 y0
        have D1' := own_keepV D1 E2
        have D2' := own_keepV D2 E2
        have hsz2 := E2.size
        have lw : bw < U2.heap.size := T2.lt
        cases zk
        · skip
          go_upto_region 18 with (at_builtin; refine wpList_append_lies _ rfl (.tmp 67) (.tmp 69) 29 rfl W1.heap.size 25 i3 (.agg #[.bool false, .int .i64 0]) 2 16 Tryd.underlying29 ti tz0 tz1 tz2 rfl (by decide) _ k (valsV vs) rfl (D1'.alloc _) ⟨U2.heap.size, 0, none⟩ 1 1 [.bool rk, .int .i64 rn] rfl rfl (new2 _ _ _ _) (one_val rk rn) (by decide) ?c3 ?c4 ?c5 _ rfl ?_)
          case c3 => unfold maxLen; omega
          case c4 => omega
          case c5 => first | omega | (simp; omega)
          intro g1 c3 w6 hown6 hgrow6 hat6 hlt6
          have D26 : w6.ownsRow W1.heap.size 25 2 (.slice a2 k c2) k (valsV ds) := (D2'.alloc _).kept hgrow6 (by
            rcases hap with e | e
            · rw [e]
              cases h5 : (Value.slice a2 k c2).ownBlock with
              | none => exact .inl rfl
              | some r => exact .inr (by simp)
            · exact .inr (Ne.symm e))
          have T26 : Two w6 bw (.bool false) (.int .i64 zn) 25 := (hgrow6.block bw (by simp; omega) (fun e => by have := (n1 _ e.symm).2; omega)).trans (T2.alloc _)
          have T27 := T26
          have G6 : Below w.heap.size w w6 := ((gtrans G E2).alloc (by have := (gtrans G E2).size; omega) _).grown hgrow6 (by have := (gtrans G E2).size; simp; omega) (fun r e => by have := (n1 r e).1; have := B1.size; omega)
          have hs6 : U2.heap.size + 1 ≤ w6.heap.size := by have := hgrow6.size; simpa using this
          have hH6 : (Value.slice a1 k c1).ownBlock = some g1 ∨ g1 = U2.heap.size + 1 := by rcases hat6 with e | e; exact .inl e; exact .inr (by first | exact e | simpa using e)
          clear hat6 hgrow6 t0 t1 t2 t3 D1' D2' T1 T2 T26
          have t2 := T27.at0
          have t3 := T27.at1
          go_upto_region 7 with (at_builtin; refine wpList_append_lies _ rfl (.tmp 71) (.tmp 73) 29 rfl W1.heap.size 25 i3 (.agg #[.bool false, .int .i64 0]) 2 16 Tryd.underlying29 ti tz0 tz1 tz2 rfl (by decide) _ k (valsV ds) rfl (D26.alloc _) ⟨w6.heap.size, 0, none⟩ 1 1 [.bool false, .int .i64 zn] rfl rfl (new2 _ _ _ _) (one_val false zn) (by decide) ?c3 ?c4 ?c5 _ rfl ?_)
          case c3 => unfold maxLen; omega
          case c4 => omega
          case c5 => first | omega | (simp; omega)
          intro g2 c4 w7 hown7 hgrow7 hat7 hlt7
          have hne : ∀ r, (Value.slice a2 k c2).ownBlock = some r → r ≠ g1 := fun r e e2 => by
            subst e2
            rcases hH6 with h5 | h5
            · rcases hap with h6 | h6
              · rw [h6] at h5; cases h5
              · exact h6 (h5.trans e.symm)
            · have := (n2 r e).2; omega
          have D17 : w7.ownsRow W1.heap.size 25 2 (.slice (some ⟨g1, 0, none⟩) (k + 1) c3) (k + 1) (valsV (vs ++ [(rk, rn)])) := by
            rw [valsV_append]
            refine (hown6.alloc _).kept hgrow7 (.inr ?_)
            intro e
            exact hne g1 e.symm rfl
          have D27 : w7.ownsRow W1.heap.size 25 2 (.slice (some ⟨g2, 0, none⟩) (k + 1) c4) (k + 1) (valsV (ds ++ [(false, zn)])) := by
            rw [valsV_append]; exact hown7
          have hap7 : g1 ≠ g2 := fun e => by
            rcases hat7 with h5 | h5
            · exact hne g2 h5 e.symm
            · try simp at h5
              omega
          have G7 : Below w.heap.size w w7 := (G6.alloc G6.size _).grown hgrow7 (by have := G6.size; simp; omega) (fun r e => by have := (n2 r e).1; have := B1.size; omega)
          have hs7 : W1.heap.size ≤ w7.heap.size := by have := hgrow7.size; simp at this; omega
          clear hown6 hown7 hgrow7 hat7 D26 T27 t2 t3 G6 D1 D2 G V1 V2
          go_wp2
          go_roundw
          case rel => exact ⟨k + 1, _, _, by omega, by go_num, fits_snoc vs _ hfv hrf, fits_snoc ds _ hfd hrz, by simp [hll], dm_snoc hll hdm hdz, D17, D27, .inr (by simp [Value.ownBlock]; exact hap7), G7, hs7⟩
          case measure => simp [intOf]; omega
        · have e5 := hdz rfl
          simp only [Prod.mk.injEq] at e5
          obtain ⟨e6, e7⟩ := e5
          subst e6 e7
          go_upto_region 18 with (at_builtin; refine wpList_append_lies _ rfl (.tmp 67) (.tmp 69) 29 rfl W1.heap.size 25 i3 (.agg #[.bool false, .int .i64 0]) 2 16 Tryd.underlying29 ti tz0 tz1 tz2 rfl (by decide) _ k (valsV vs) rfl (D1'.alloc _) ⟨U2.heap.size, 0, none⟩ 1 1 [.bool true, .int .i64 zn] rfl rfl (new2 _ _ _ _) (one_val true zn) (by decide) ?c3 ?c4 ?c5 _ rfl ?_)
          case c3 => unfold maxLen; omega
          case c4 => omega
          case c5 => first | omega | (simp; omega)
          intro g1 c3 w6 hown6 hgrow6 hat6 hlt6
          have D26 : w6.ownsRow W1.heap.size 25 2 (.slice a2 k c2) k (valsV ds) := (D2'.alloc _).kept hgrow6 (by
            rcases hap with e | e
            · rw [e]
              cases h5 : (Value.slice a2 k c2).ownBlock with
              | none => exact .inl rfl
              | some r => exact .inr (by simp)
            · exact .inr (Ne.symm e))
          have T26 : Two w6 bw (.bool true) (.int .i64 zn) 25 := (hgrow6.block bw (by simp; omega) (fun e => by have := (n1 _ e.symm).2; omega)).trans (T2.alloc _)
          have T27 := T26
          have G6 : Below w.heap.size w w6 := ((gtrans G E2).alloc (by have := (gtrans G E2).size; omega) _).grown hgrow6 (by have := (gtrans G E2).size; simp; omega) (fun r e => by have := (n1 r e).1; have := B1.size; omega)
          have hs6 : U2.heap.size + 1 ≤ w6.heap.size := by have := hgrow6.size; simpa using this
          have hH6 : (Value.slice a1 k c1).ownBlock = some g1 ∨ g1 = U2.heap.size + 1 := by rcases hat6 with e | e; exact .inl e; exact .inr (by first | exact e | simpa using e)
          clear hat6 hgrow6 t0 t1 t2 t3 D1' D2' T1 T2 T26
          have t2 := T27.at0
          have t3 := T27.at1
          go_upto_region 7 with (at_builtin; refine wpList_append_lies _ rfl (.tmp 71) (.tmp 73) 29 rfl W1.heap.size 25 i3 (.agg #[.bool false, .int .i64 0]) 2 16 Tryd.underlying29 ti tz0 tz1 tz2 rfl (by decide) _ k (valsV ds) rfl (D26.alloc _) ⟨w6.heap.size, 0, none⟩ 1 1 [.bool true, .int .i64 zn] rfl rfl (new2 _ _ _ _) (one_val true zn) (by decide) ?c3 ?c4 ?c5 _ rfl ?_)
          case c3 => unfold maxLen; omega
          case c4 => omega
          case c5 => first | omega | (simp; omega)
          intro g2 c4 w7 hown7 hgrow7 hat7 hlt7
          have hne : ∀ r, (Value.slice a2 k c2).ownBlock = some r → r ≠ g1 := fun r e e2 => by
            subst e2
            rcases hH6 with h5 | h5
            · rcases hap with h6 | h6
              · rw [h6] at h5; cases h5
              · exact h6 (h5.trans e.symm)
            · have := (n2 r e).2; omega
          have D17 : w7.ownsRow W1.heap.size 25 2 (.slice (some ⟨g1, 0, none⟩) (k + 1) c3) (k + 1) (valsV (vs ++ [(true, zn)])) := by
            rw [valsV_append]
            refine (hown6.alloc _).kept hgrow7 (.inr ?_)
            intro e
            exact hne g1 e.symm rfl
          have D27 : w7.ownsRow W1.heap.size 25 2 (.slice (some ⟨g2, 0, none⟩) (k + 1) c4) (k + 1) (valsV (ds ++ [(true, zn)])) := by
            rw [valsV_append]; exact hown7
          have hap7 : g1 ≠ g2 := fun e => by
            rcases hat7 with h5 | h5
            · exact hne g2 h5 e.symm
            · try simp at h5
              omega
          have G7 : Below w.heap.size w w7 := (G6.alloc G6.size _).grown hgrow7 (by have := G6.size; simp; omega) (fun r e => by have := (n2 r e).1; have := B1.size; omega)
          have hs7 : W1.heap.size ≤ w7.heap.size := by have := hgrow7.size; simp at this; omega
          clear hown6 hown7 hgrow7 hat7 D26 T27 t2 t3 G6 D1 D2 G V1 V2
          go_wp2
          go_roundw
          case rel => exact ⟨k + 1, _, _, by omega, by go_num, fits_snoc vs _ hfv hrf, fits_snoc ds _ hfd hrz, by simp [hll], dm_snoc hll hdm hdz, D17, D27, .inr (by simp [Value.ownBlock]; exact hap7), G7, hs7⟩
          case measure => simp [intOf]; omega
      · go_upto_region 11 with fail
        have E0 := galloc (Below.refl wr.heap.size wr) (.cells #[.int .i64 op, .int .i64 si, .int .i64 sj, .bool kv, .int .i64 nv] 31)
        have F0 := five_new wr op si sj kv nv
        generalize hU0 : wr.alloc (.cells #[.int .i64 op, .int .i64 si, .int .i64 sj, .bool kv, .int .i64 nv] 31) = U0 at E0 F0 ⊢
        have hop : ¬ (5 ≤ op ∧ op ≤ 10) := by omega
        obtain ⟨oq, hoq⟩ : ∃ oq, oq = op := ⟨_, rfl⟩
        rw [← hoq] at F0 hop
        clear hU0 s0 s1 s2 s3 s4 hoq
        generalize hbs : wr.heap.size = bs at F0 ⊢
        have lbs : wr.heap.size ≤ bs := by omega
        clear hbs
        obtain ⟨y0, y1, y2, y3, y4⟩ := F0.cells
        have ca := asked_any a1 k c1 vs oq si sj (kv, nv) U0 (V1.keep E0) w1 w2 (fun e => absurd e hop) (TS.keep (gtrans G E0)) (TN.keep (gtrans G E0))
        have cd := fun (u : World) (g : Below wr.heap.size wr u) => asked_any a2 k c2 ds oq si sj (kv, nv) u (V2.keep g) w1 w2 (fun e => absurd e hop) (TS.keep (gtrans G g)) (TN.keep (gtrans G g))
        have hrf := askedV_fits vs hfv (by omega) oq si sj (kv, nv) w4
        have hrd := askedV_fits ds hfd (by omega) oq si sj (kv, nv) w4
        have hdr := dm_asked hll hdm oq si sj (kv, nv) hop
        obtain ⟨r, hrr⟩ : ∃ r, r = askedV vs oq si sj (kv, nv) := ⟨_, rfl⟩
        obtain ⟨x, hxx⟩ : ∃ x, x = askedV ds oq si sj (kv, nv) := ⟨_, rfl⟩
        rw [← hrr] at ca hrf hdr
        rw [← hxx] at hrd hdr
        simp only [← hxx] at cd
        clear hrr hxx
        obtain ⟨rk, rn⟩ := r
        obtain ⟨xk, xn⟩ := x
        go_upto_region 12 with (go_at_call 7; with_reducible refine ca.mono ?_; rintro e u ⟨rfl, g⟩)
        have E1 := galloc (gtrans E0 g) (.cells #[.bool rk, .int .i64 rn] 25)
        have T1 := Two.new u (.bool rk) (.int .i64 rn) 25
        have F1 := (F0.keep g).keep (galloc (Below.refl u.heap.size u) (.cells #[.bool rk, .int .i64 rn] 25))
        have l1 : wr.heap.size ≤ u.heap.size := (gtrans E0 g).size
        generalize hU1 : u.alloc (.cells #[.bool rk, .int .i64 rn] 25) = U1 at E1 T1 F1 ⊢
        generalize hb1 : u.heap.size = bv at T1 l1 ⊢
        clear hU1 hb1 g ca y0 y1 y2 y3 y4 F0 u
        obtain ⟨y0, y1, y2, y3, y4⟩ := F1.cells
        have cd1 := cd U1 E1
        go_upto_region 13 with (go_at_call 7; with_reducible refine cd1.mono ?_; rintro e u ⟨rfl, g⟩)
        have E2 := galloc (gtrans E1 g) (.cells #[.bool xk, .int .i64 xn] 25)
        have T2 := Two.new u (.bool xk) (.int .i64 xn) 25
        have l3 : bv < u.heap.size := (T1.keep g).lt
        replace T1 := (T1.keep g).alloc (.cells #[.bool xk, .int .i64 xn] 25)
        have F2 := (F1.keep g).keep (galloc (Below.refl u.heap.size u) (.cells #[.bool xk, .int .i64 xn] 25))
        have l2 : wr.heap.size ≤ u.heap.size := (gtrans E1 g).size
        generalize hU2 : u.alloc (.cells #[.bool xk, .int .i64 xn] 25) = U2 at E2 T1 T2 F2 ⊢
        generalize hb2 : u.heap.size = bw at T2 l2 l3 ⊢
        clear hU2 hb2 g E1 cd cd1 y0 y1 y2 y3 y4 F1
        obtain ⟨y0, -, -, -, -⟩ := F2.cells
        have t0 := T1.at0
        have t1 := T1.at1
        have t2 := T2.at0
        have t3 := T2.at1
        by_cases hz0 : oq = 0
        · have q0 : (oq == 0) = true := by simpa using hz0
          clear hz0
          obtain ⟨y, hy, cbl⟩ := blurred_any xk xn bo bn bcap k U2 (hbl.keep (gtrans G E2)) (by omega)
          have t4 := T2.free
          go_upto_region 15 with (go_at_call 8; with_reducible refine cbl.mono ?_; rintro e u ⟨rfl, g⟩; have T9 := T2.keep g; have t5 := T9.at0; have t6 := T9.at1; have t7 := T9.free)
          obtain ⟨zk, zn⟩ := y
          have hdz : Dm (zk, zn) (rk, rn) := by
            rcases hy with e | e
            · rw [e]; exact hdr
            · rw [e]; exact fun h => absurd h (by decide)
          have hrz : fitsB (zk, zn).2 = true := by
            rcases hy with e | e
            · rw [e]; exact hrd
            · rw [e]; decide
          replace T2 := T9.set (.bool zk) (.int .i64 zn)
          replace T1 := ((T1.keep g).other (p := ⟨bw, 0, none⟩) (by show bv ≠ bw; omega) (.bool zk)).other (p := ⟨bw, 1, none⟩) (by show bv ≠ bw; omega) (.int .i64 zn)
          replace E2 := gset (gset (gtrans E2 g) (p := ⟨bw, 0, none⟩) l2 (.bool zk)) (p := ⟨bw, 1, none⟩) l2 (.int .i64 zn)
          generalize hU3 : (u.setCell ⟨bw, 0, none⟩ (.bool zk)).setCell ⟨bw, 1, none⟩ (.int .i64 zn) = U3 at T1 T2 E2 ⊢
          clear hU3 t0 t1 t2 t3 t4 t5 t6 t7 T9 g F2 y0 cbl hy
          obtain ⟨U2', hU2'⟩ : ∃ U2', U2' = U3 := ⟨_, rfl⟩
          rw [← hU2'] at T1 T2 E2 ⊢
          clear hU2' U2
          obtain ⟨U2, hU2⟩ : ∃ U2, U2 = U2' := ⟨_, rfl⟩
          rw [← hU2] at T1 T2 E2 ⊢
          clear hU2
          have t0 := T1.at0
          have t1 := T1.at1
          have t2 := T2.at0
          have t3 := T2.at1
          have D1' := own_keepV D1 E2
          have D2' := own_keepV D2 E2
          have hsz2 := E2.size
          have lw : bw < U2.heap.size := T2.lt
          cases zk
          · skip
            go_upto_region 18 with (at_builtin; refine wpList_append_lies _ rfl (.tmp 67) (.tmp 69) 29 rfl W1.heap.size 25 i3 (.agg #[.bool false, .int .i64 0]) 2 16 Tryd.underlying29 ti tz0 tz1 tz2 rfl (by decide) _ k (valsV vs) rfl (D1'.alloc _) ⟨U2.heap.size, 0, none⟩ 1 1 [.bool rk, .int .i64 rn] rfl rfl (new2 _ _ _ _) (one_val rk rn) (by decide) ?c3 ?c4 ?c5 _ rfl ?_)
            case c3 => unfold maxLen; omega
            case c4 => omega
            case c5 => first | omega | (simp; omega)
            intro g1 c3 w6 hown6 hgrow6 hat6 hlt6
            have D26 : w6.ownsRow W1.heap.size 25 2 (.slice a2 k c2) k (valsV ds) := (D2'.alloc _).kept hgrow6 (by
              rcases hap with e | e
              · rw [e]
                cases h5 : (Value.slice a2 k c2).ownBlock with
                | none => exact .inl rfl
                | some r => exact .inr (by simp)
              · exact .inr (Ne.symm e))
            have T26 : Two w6 bw (.bool false) (.int .i64 zn) 25 := (hgrow6.block bw (by simp; omega) (fun e => by have := (n1 _ e.symm).2; omega)).trans (T2.alloc _)
            have T27 := T26
            have G6 : Below w.heap.size w w6 := ((gtrans G E2).alloc (by have := (gtrans G E2).size; omega) _).grown hgrow6 (by have := (gtrans G E2).size; simp; omega) (fun r e => by have := (n1 r e).1; have := B1.size; omega)
            have hs6 : U2.heap.size + 1 ≤ w6.heap.size := by have := hgrow6.size; simpa using this
            have hH6 : (Value.slice a1 k c1).ownBlock = some g1 ∨ g1 = U2.heap.size + 1 := by rcases hat6 with e | e; exact .inl e; exact .inr (by first | exact e | simpa using e)
            clear hat6 hgrow6 t0 t1 t2 t3 D1' D2' T1 T2 T26
            have t2 := T27.at0
            have t3 := T27.at1
            go_upto_region 7 with (at_builtin; refine wpList_append_lies _ rfl (.tmp 71) (.tmp 73) 29 rfl W1.heap.size 25 i3 (.agg #[.bool false, .int .i64 0]) 2 16 Tryd.underlying29 ti tz0 tz1 tz2 rfl (by decide) _ k (valsV ds) rfl (D26.alloc _) ⟨w6.heap.size, 0, none⟩ 1 1 [.bool false, .int .i64 zn] rfl rfl (new2 _ _ _ _) (one_val false zn) (by decide) ?c3 ?c4 ?c5 _ rfl ?_)
            case c3 => unfold maxLen; omega
            case c4 => omega
            case c5 => first | omega | (simp; omega)
            intro g2 c4 w7 hown7 hgrow7 hat7 hlt7
            have hne : ∀ r, (Value.slice a2 k c2).ownBlock = some r → r ≠ g1 := fun r e e2 => by
              subst e2
              rcases hH6 with h5 | h5
              · rcases hap with h6 | h6
                · rw [h6] at h5; cases h5
                · exact h6 (h5.trans e.symm)
              · have := (n2 r e).2; omega
            have D17 : w7.ownsRow W1.heap.size 25 2 (.slice (some ⟨g1, 0, none⟩) (k + 1) c3) (k + 1) (valsV (vs ++ [(rk, rn)])) := by
              rw [valsV_append]
              refine (hown6.alloc _).kept hgrow7 (.inr ?_)
              intro e
              exact hne g1 e.symm rfl
            have D27 : w7.ownsRow W1.heap.size 25 2 (.slice (some ⟨g2, 0, none⟩) (k + 1) c4) (k + 1) (valsV (ds ++ [(false, zn)])) := by
              rw [valsV_append]; exact hown7
            have hap7 : g1 ≠ g2 := fun e => by
              rcases hat7 with h5 | h5
              · exact hne g2 h5 e.symm
              · try simp at h5
                omega
            have G7 : Below w.heap.size w w7 := (G6.alloc G6.size _).grown hgrow7 (by have := G6.size; simp; omega) (fun r e => by have := (n2 r e).1; have := B1.size; omega)
            have hs7 : W1.heap.size ≤ w7.heap.size := by have := hgrow7.size; simp at this; omega
            clear hown6 hown7 hgrow7 hat7 D26 T27 t2 t3 G6 D1 D2 G V1 V2
            go_wp2
            go_roundw
            case rel => exact ⟨k + 1, _, _, by omega, by go_num, fits_snoc vs _ hfv hrf, fits_snoc ds _ hfd hrz, by simp [hll], dm_snoc hll hdm hdz, D17, D27, .inr (by simp [Value.ownBlock]; exact hap7), G7, hs7⟩
            case measure => simp [intOf]; omega
          · have e5 := hdz rfl
            simp only [Prod.mk.injEq] at e5
            obtain ⟨e6, e7⟩ := e5
            subst e6 e7
            go_upto_region 18 with (at_builtin; refine wpList_append_lies _ rfl (.tmp 67) (.tmp 69) 29 rfl W1.heap.size 25 i3 (.agg #[.bool false, .int .i64 0]) 2 16 Tryd.underlying29 ti tz0 tz1 tz2 rfl (by decide) _ k (valsV vs) rfl (D1'.alloc _) ⟨U2.heap.size, 0, none⟩ 1 1 [.bool true, .int .i64 zn] rfl rfl (new2 _ _ _ _) (one_val true zn) (by decide) ?c3 ?c4 ?c5 _ rfl ?_)
            case c3 => unfold maxLen; omega
            case c4 => omega
            case c5 => first | omega | (simp; omega)
            intro g1 c3 w6 hown6 hgrow6 hat6 hlt6
            have D26 : w6.ownsRow W1.heap.size 25 2 (.slice a2 k c2) k (valsV ds) := (D2'.alloc _).kept hgrow6 (by
              rcases hap with e | e
              · rw [e]
                cases h5 : (Value.slice a2 k c2).ownBlock with
                | none => exact .inl rfl
                | some r => exact .inr (by simp)
              · exact .inr (Ne.symm e))
            have T26 : Two w6 bw (.bool true) (.int .i64 zn) 25 := (hgrow6.block bw (by simp; omega) (fun e => by have := (n1 _ e.symm).2; omega)).trans (T2.alloc _)
            have T27 := T26
            have G6 : Below w.heap.size w w6 := ((gtrans G E2).alloc (by have := (gtrans G E2).size; omega) _).grown hgrow6 (by have := (gtrans G E2).size; simp; omega) (fun r e => by have := (n1 r e).1; have := B1.size; omega)
            have hs6 : U2.heap.size + 1 ≤ w6.heap.size := by have := hgrow6.size; simpa using this
            have hH6 : (Value.slice a1 k c1).ownBlock = some g1 ∨ g1 = U2.heap.size + 1 := by rcases hat6 with e | e; exact .inl e; exact .inr (by first | exact e | simpa using e)
            clear hat6 hgrow6 t0 t1 t2 t3 D1' D2' T1 T2 T26
            have t2 := T27.at0
            have t3 := T27.at1
            go_upto_region 7 with (at_builtin; refine wpList_append_lies _ rfl (.tmp 71) (.tmp 73) 29 rfl W1.heap.size 25 i3 (.agg #[.bool false, .int .i64 0]) 2 16 Tryd.underlying29 ti tz0 tz1 tz2 rfl (by decide) _ k (valsV ds) rfl (D26.alloc _) ⟨w6.heap.size, 0, none⟩ 1 1 [.bool true, .int .i64 zn] rfl rfl (new2 _ _ _ _) (one_val true zn) (by decide) ?c3 ?c4 ?c5 _ rfl ?_)
            case c3 => unfold maxLen; omega
            case c4 => omega
            case c5 => first | omega | (simp; omega)
            intro g2 c4 w7 hown7 hgrow7 hat7 hlt7
            have hne : ∀ r, (Value.slice a2 k c2).ownBlock = some r → r ≠ g1 := fun r e e2 => by
              subst e2
              rcases hH6 with h5 | h5
              · rcases hap with h6 | h6
                · rw [h6] at h5; cases h5
                · exact h6 (h5.trans e.symm)
              · have := (n2 r e).2; omega
            have D17 : w7.ownsRow W1.heap.size 25 2 (.slice (some ⟨g1, 0, none⟩) (k + 1) c3) (k + 1) (valsV (vs ++ [(true, zn)])) := by
              rw [valsV_append]
              refine (hown6.alloc _).kept hgrow7 (.inr ?_)
              intro e
              exact hne g1 e.symm rfl
            have D27 : w7.ownsRow W1.heap.size 25 2 (.slice (some ⟨g2, 0, none⟩) (k + 1) c4) (k + 1) (valsV (ds ++ [(true, zn)])) := by
              rw [valsV_append]; exact hown7
            have hap7 : g1 ≠ g2 := fun e => by
              rcases hat7 with h5 | h5
              · exact hne g2 h5 e.symm
              · try simp at h5
                omega
            have G7 : Below w.heap.size w w7 := (G6.alloc G6.size _).grown hgrow7 (by have := G6.size; simp; omega) (fun r e => by have := (n2 r e).1; have := B1.size; omega)
            have hs7 : W1.heap.size ≤ w7.heap.size := by have := hgrow7.size; simp at this; omega
            clear hown6 hown7 hgrow7 hat7 D26 T27 t2 t3 G6 D1 D2 G V1 V2
            go_wp2
            go_roundw
            case rel => exact ⟨k + 1, _, _, by omega, by go_num, fits_snoc vs _ hfv hrf, fits_snoc ds _ hfd hrz, by simp [hll], dm_snoc hll hdm hdz, D17, D27, .inr (by simp [Value.ownBlock]; exact hap7), G7, hs7⟩
            case measure => simp [intOf]; omega
        have q0 : (oq == 0) = false := by simpa using hz0
        clear hz0
        by_cases hk0 : k = 0
        · have q1 : ((k : Int) == 0) = true := by simp; omega
          clear hk0
          obtain ⟨y, hy, cbl⟩ := blurred_any xk xn bo bn bcap k U2 (hbl.keep (gtrans G E2)) (by omega)
          have t4 := T2.free
          go_upto_region 15 with (go_at_call 8; with_reducible refine cbl.mono ?_; rintro e u ⟨rfl, g⟩; have T9 := T2.keep g; have t5 := T9.at0; have t6 := T9.at1; have t7 := T9.free)
          obtain ⟨zk, zn⟩ := y
          have hdz : Dm (zk, zn) (rk, rn) := by
            rcases hy with e | e
            · rw [e]; exact hdr
            · rw [e]; exact fun h => absurd h (by decide)
          have hrz : fitsB (zk, zn).2 = true := by
            rcases hy with e | e
            · rw [e]; exact hrd
            · rw [e]; decide
          replace T2 := T9.set (.bool zk) (.int .i64 zn)
          replace T1 := ((T1.keep g).other (p := ⟨bw, 0, none⟩) (by show bv ≠ bw; omega) (.bool zk)).other (p := ⟨bw, 1, none⟩) (by show bv ≠ bw; omega) (.int .i64 zn)
          replace E2 := gset (gset (gtrans E2 g) (p := ⟨bw, 0, none⟩) l2 (.bool zk)) (p := ⟨bw, 1, none⟩) l2 (.int .i64 zn)
          generalize hU3 : (u.setCell ⟨bw, 0, none⟩ (.bool zk)).setCell ⟨bw, 1, none⟩ (.int .i64 zn) = U3 at T1 T2 E2 ⊢
          clear hU3 t0 t1 t2 t3 t4 t5 t6 t7 T9 g F2 y0 cbl hy
          obtain ⟨U2', hU2'⟩ : ∃ U2', U2' = U3 := ⟨_, rfl⟩
          rw [← hU2'] at T1 T2 E2 ⊢
          clear hU2' U2
          obtain ⟨U2, hU2⟩ : ∃ U2, U2 = U2' := ⟨_, rfl⟩
          rw [← hU2] at T1 T2 E2 ⊢
          clear hU2
          have t0 := T1.at0
          have t1 := T1.at1
          have t2 := T2.at0
          have t3 := T2.at1
          have D1' := own_keepV D1 E2
          have D2' := own_keepV D2 E2
          have hsz2 := E2.size
          have lw : bw < U2.heap.size := T2.lt
          cases zk
          · skip
            go_upto_region 18 with (at_builtin; refine wpList_append_lies _ rfl (.tmp 67) (.tmp 69) 29 rfl W1.heap.size 25 i3 (.agg #[.bool false, .int .i64 0]) 2 16 Tryd.underlying29 ti tz0 tz1 tz2 rfl (by decide) _ k (valsV vs) rfl (D1'.alloc _) ⟨U2.heap.size, 0, none⟩ 1 1 [.bool rk, .int .i64 rn] rfl rfl (new2 _ _ _ _) (one_val rk rn) (by decide) ?c3 ?c4 ?c5 _ rfl ?_)
            case c3 => unfold maxLen; omega
            case c4 => omega
            case c5 => first | omega | (simp; omega)
            intro g1 c3 w6 hown6 hgrow6 hat6 hlt6
            have D26 : w6.ownsRow W1.heap.size 25 2 (.slice a2 k c2) k (valsV ds) := (D2'.alloc _).kept hgrow6 (by
              rcases hap with e | e
              · rw [e]
                cases h5 : (Value.slice a2 k c2).ownBlock with
                | none => exact .inl rfl
                | some r => exact .inr (by simp)
              · exact .inr (Ne.symm e))
            have T26 : Two w6 bw (.bool false) (.int .i64 zn) 25 := (hgrow6.block bw (by simp; omega) (fun e => by have := (n1 _ e.symm).2; omega)).trans (T2.alloc _)
            have T27 := T26
            have G6 : Below w.heap.size w w6 := ((gtrans G E2).alloc (by have := (gtrans G E2).size; omega) _).grown hgrow6 (by have := (gtrans G E2).size; simp; omega) (fun r e => by have := (n1 r e).1; have := B1.size; omega)
            have hs6 : U2.heap.size + 1 ≤ w6.heap.size := by have := hgrow6.size; simpa using this
            have hH6 : (Value.slice a1 k c1).ownBlock = some g1 ∨ g1 = U2.heap.size + 1 := by rcases hat6 with e | e; exact .inl e; exact .inr (by first | exact e | simpa using e)
            clear hat6 hgrow6 t0 t1 t2 t3 D1' D2' T1 T2 T26
            have t2 := T27.at0
            have t3 := T27.at1
            go_upto_region 7 with (at_builtin; refine wpList_append_lies _ rfl (.tmp 71) (.tmp 73) 29 rfl W1.heap.size 25 i3 (.agg #[.bool false, .int .i64 0]) 2 16 Tryd.underlying29 ti tz0 tz1 tz2 rfl (by decide) _ k (valsV ds) rfl (D26.alloc _) ⟨w6.heap.size, 0, none⟩ 1 1 [.bool false, .int .i64 zn] rfl rfl (new2 _ _ _ _) (one_val false zn) (by decide) ?c3 ?c4 ?c5 _ rfl ?_)
            case c3 => unfold maxLen; omega
            case c4 => omega
            case c5 => first | omega | (simp; omega)
            intro g2 c4 w7 hown7 hgrow7 hat7 hlt7
            have hne : ∀ r, (Value.slice a2 k c2).ownBlock = some r → r ≠ g1 := fun r e e2 => by
              subst e2
              rcases hH6 with h5 | h5
              · rcases hap with h6 | h6
                · rw [h6] at h5; cases h5
                · exact h6 (h5.trans e.symm)
              · have := (n2 r e).2; omega
            have D17 : w7.ownsRow W1.heap.size 25 2 (.slice (some ⟨g1, 0, none⟩) (k + 1) c3) (k + 1) (valsV (vs ++ [(rk, rn)])) := by
              rw [valsV_append]
              refine (hown6.alloc _).kept hgrow7 (.inr ?_)
              intro e
              exact hne g1 e.symm rfl
            have D27 : w7.ownsRow W1.heap.size 25 2 (.slice (some ⟨g2, 0, none⟩) (k + 1) c4) (k + 1) (valsV (ds ++ [(false, zn)])) := by
              rw [valsV_append]; exact hown7
            have hap7 : g1 ≠ g2 := fun e => by
              rcases hat7 with h5 | h5
              · exact hne g2 h5 e.symm
              · try simp at h5
                omega
            have G7 : Below w.heap.size w w7 := (G6.alloc G6.size _).grown hgrow7 (by have := G6.size; simp; omega) (fun r e => by have := (n2 r e).1; have := B1.size; omega)
            have hs7 : W1.heap.size ≤ w7.heap.size := by have := hgrow7.size; simp at this; omega
            clear hown6 hown7 hgrow7 hat7 D26 T27 t2 t3 G6 D1 D2 G V1 V2
            go_wp2
            go_roundw
            case rel => exact ⟨k + 1, _, _, by omega, by go_num, fits_snoc vs _ hfv hrf, fits_snoc ds _ hfd hrz, by simp [hll], dm_snoc hll hdm hdz, D17, D27, .inr (by simp [Value.ownBlock]; exact hap7), G7, hs7⟩
            case measure => simp [intOf]; omega
          · have e5 := hdz rfl
            simp only [Prod.mk.injEq] at e5
            obtain ⟨e6, e7⟩ := e5
            subst e6 e7
            go_upto_region 18 with (at_builtin; refine wpList_append_lies _ rfl (.tmp 67) (.tmp 69) 29 rfl W1.heap.size 25 i3 (.agg #[.bool false, .int .i64 0]) 2 16 Tryd.underlying29 ti tz0 tz1 tz2 rfl (by decide) _ k (valsV vs) rfl (D1'.alloc _) ⟨U2.heap.size, 0, none⟩ 1 1 [.bool true, .int .i64 zn] rfl rfl (new2 _ _ _ _) (one_val true zn) (by decide) ?c3 ?c4 ?c5 _ rfl ?_)
            case c3 => unfold maxLen; omega
            case c4 => omega
            case c5 => first | omega | (simp; omega)
            intro g1 c3 w6 hown6 hgrow6 hat6 hlt6
            have D26 : w6.ownsRow W1.heap.size 25 2 (.slice a2 k c2) k (valsV ds) := (D2'.alloc _).kept hgrow6 (by
              rcases hap with e | e
              · rw [e]
                cases h5 : (Value.slice a2 k c2).ownBlock with
                | none => exact .inl rfl
                | some r => exact .inr (by simp)
              · exact .inr (Ne.symm e))
            have T26 : Two w6 bw (.bool true) (.int .i64 zn) 25 := (hgrow6.block bw (by simp; omega) (fun e => by have := (n1 _ e.symm).2; omega)).trans (T2.alloc _)
            have T27 := T26
            have G6 : Below w.heap.size w w6 := ((gtrans G E2).alloc (by have := (gtrans G E2).size; omega) _).grown hgrow6 (by have := (gtrans G E2).size; simp; omega) (fun r e => by have := (n1 r e).1; have := B1.size; omega)
            have hs6 : U2.heap.size + 1 ≤ w6.heap.size := by have := hgrow6.size; simpa using this
            have hH6 : (Value.slice a1 k c1).ownBlock = some g1 ∨ g1 = U2.heap.size + 1 := by rcases hat6 with e | e; exact .inl e; exact .inr (by first | exact e | simpa using e)
            clear hat6 hgrow6 t0 t1 t2 t3 D1' D2' T1 T2 T26
            have t2 := T27.at0
            have t3 := T27.at1
            go_upto_region 7 with (at_builtin; refine wpList_append_lies _ rfl (.tmp 71) (.tmp 73) 29 rfl W1.heap.size 25 i3 (.agg #[.bool false, .int .i64 0]) 2 16 Tryd.underlying29 ti tz0 tz1 tz2 rfl (by decide) _ k (valsV ds) rfl (D26.alloc _) ⟨w6.heap.size, 0, none⟩ 1 1 [.bool true, .int .i64 zn] rfl rfl (new2 _ _ _ _) (one_val true zn) (by decide) ?c3 ?c4 ?c5 _ rfl ?_)
            case c3 => unfold maxLen; omega
            case c4 => omega
            case c5 => first | omega | (simp; omega)
            intro g2 c4 w7 hown7 hgrow7 hat7 hlt7
            have hne : ∀ r, (Value.slice a2 k c2).ownBlock = some r → r ≠ g1 := fun r e e2 => by
              subst e2
              rcases hH6 with h5 | h5
              · rcases hap with h6 | h6
                · rw [h6] at h5; cases h5
                · exact h6 (h5.trans e.symm)
              · have := (n2 r e).2; omega
            have D17 : w7.ownsRow W1.heap.size 25 2 (.slice (some ⟨g1, 0, none⟩) (k + 1) c3) (k + 1) (valsV (vs ++ [(true, zn)])) := by
              rw [valsV_append]
              refine (hown6.alloc _).kept hgrow7 (.inr ?_)
              intro e
              exact hne g1 e.symm rfl
            have D27 : w7.ownsRow W1.heap.size 25 2 (.slice (some ⟨g2, 0, none⟩) (k + 1) c4) (k + 1) (valsV (ds ++ [(true, zn)])) := by
              rw [valsV_append]; exact hown7
            have hap7 : g1 ≠ g2 := fun e => by
              rcases hat7 with h5 | h5
              · exact hne g2 h5 e.symm
              · try simp at h5
                omega
            have G7 : Below w.heap.size w w7 := (G6.alloc G6.size _).grown hgrow7 (by have := G6.size; simp; omega) (fun r e => by have := (n2 r e).1; have := B1.size; omega)
            have hs7 : W1.heap.size ≤ w7.heap.size := by have := hgrow7.size; simp at this; omega
            clear hown6 hown7 hgrow7 hat7 D26 T27 t2 t3 G6 D1 D2 G V1 V2
            go_wp2
            go_roundw
            case rel => exact ⟨k + 1, _, _, by omega, by go_num, fits_snoc vs _ hfv hrf, fits_snoc ds _ hfd hrz, by simp [hll], dm_snoc hll hdm hdz, D17, D27, .inr (by simp [Value.ownBlock]; exact hap7), G7, hs7⟩
            case measure => simp [intOf]; omega
        have q1 : ((k : Int) == 0) = false := by simp; omega
        go_upto_region 15 with fail
        have hdz : Dm (xk, xn) (rk, rn) := hdr
        have hrz : fitsB (xk, xn).2 = true := hrd
        obtain ⟨zk, hzk⟩ : ∃ zk, zk = xk := ⟨_, rfl⟩
        obtain ⟨zn, hzn⟩ : ∃ zn, zn = xn := ⟨_, rfl⟩
        subst hzk hzn
        clear F2 y0
        have D1' := own_keepV D1 E2
        have D2' := own_keepV D2 E2
        have hsz2 := E2.size
        have lw : bw < U2.heap.size := T2.lt
        cases zk
        · skip
          go_upto_region 18 with (at_builtin; refine wpList_append_lies _ rfl (.tmp 67) (.tmp 69) 29 rfl W1.heap.size 25 i3 (.agg #[.bool false, .int .i64 0]) 2 16 Tryd.underlying29 ti tz0 tz1 tz2 rfl (by decide) _ k (valsV vs) rfl (D1'.alloc _) ⟨U2.heap.size, 0, none⟩ 1 1 [.bool rk, .int .i64 rn] rfl rfl (new2 _ _ _ _) (one_val rk rn) (by decide) ?c3 ?c4 ?c5 _ rfl ?_)
          case c3 => unfold maxLen; omega
          case c4 => omega
          case c5 => first | omega | (simp; omega)
          intro g1 c3 w6 hown6 hgrow6 hat6 hlt6
          have D26 : w6.ownsRow W1.heap.size 25 2 (.slice a2 k c2) k (valsV ds) := (D2'.alloc _).kept hgrow6 (by
            rcases hap with e | e
            · rw [e]
              cases h5 : (Value.slice a2 k c2).ownBlock with
              | none => exact .inl rfl
              | some r => exact .inr (by simp)
            · exact .inr (Ne.symm e))
          have T26 : Two w6 bw (.bool false) (.int .i64 zn) 25 := (hgrow6.block bw (by simp; omega) (fun e => by have := (n1 _ e.symm).2; omega)).trans (T2.alloc _)
          have T27 := T26
          have G6 : Below w.heap.size w w6 := ((gtrans G E2).alloc (by have := (gtrans G E2).size; omega) _).grown hgrow6 (by have := (gtrans G E2).size; simp; omega) (fun r e => by have := (n1 r e).1; have := B1.size; omega)
          have hs6 : U2.heap.size + 1 ≤ w6.heap.size := by have := hgrow6.size; simpa using this
          have hH6 : (Value.slice a1 k c1).ownBlock = some g1 ∨ g1 = U2.heap.size + 1 := by rcases hat6 with e | e; exact .inl e; exact .inr (by first | exact e | simpa using e)
          clear hat6 hgrow6 t0 t1 t2 t3 D1' D2' T1 T2 T26
          have t2 := T27.at0
          have t3 := T27.at1
          go_upto_region 7 with (at_builtin; refine wpList_append_lies _ rfl (.tmp 71) (.tmp 73) 29 rfl W1.heap.size 25 i3 (.agg #[.bool false, .int .i64 0]) 2 16 Tryd.underlying29 ti tz0 tz1 tz2 rfl (by decide) _ k (valsV ds) rfl (D26.alloc _) ⟨w6.heap.size, 0, none⟩ 1 1 [.bool false, .int .i64 zn] rfl rfl (new2 _ _ _ _) (one_val false zn) (by decide) ?c3 ?c4 ?c5 _ rfl ?_)
          case c3 => unfold maxLen; omega
          case c4 => omega
          case c5 => first | omega | (simp; omega)
          intro g2 c4 w7 hown7 hgrow7 hat7 hlt7
          have hne : ∀ r, (Value.slice a2 k c2).ownBlock = some r → r ≠ g1 := fun r e e2 => by
            subst e2
            rcases hH6 with h5 | h5
            · rcases hap with h6 | h6
              · rw [h6] at h5; cases h5
              · exact h6 (h5.trans e.symm)
            · have := (n2 r e).2; omega
          have D17 : w7.ownsRow W1.heap.size 25 2 (.slice (some ⟨g1, 0, none⟩) (k + 1) c3) (k + 1) (valsV (vs ++ [(rk, rn)])) := by
            rw [valsV_append]
            refine (hown6.alloc _).kept hgrow7 (.inr ?_)
            intro e
            exact hne g1 e.symm rfl
          have D27 : w7.ownsRow W1.heap.size 25 2 (.slice (some ⟨g2, 0, none⟩) (k + 1) c4) (k + 1) (valsV (ds ++ [(false, zn)])) := by
            rw [valsV_append]; exact hown7
          have hap7 : g1 ≠ g2 := fun e => by
            rcases hat7 with h5 | h5
            · exact hne g2 h5 e.symm
            · try simp at h5
              omega
          have G7 : Below w.heap.size w w7 := (G6.alloc G6.size _).grown hgrow7 (by have := G6.size; simp; omega) (fun r e => by have := (n2 r e).1; have := B1.size; omega)
          have hs7 : W1.heap.size ≤ w7.heap.size := by have := hgrow7.size; simp at this; omega
          clear hown6 hown7 hgrow7 hat7 D26 T27 t2 t3 G6 D1 D2 G V1 V2
          go_wp2
          go_roundw
          case rel => exact ⟨k + 1, _, _, by omega, by go_num, fits_snoc vs _ hfv hrf, fits_snoc ds _ hfd hrz, by simp [hll], dm_snoc hll hdm hdz, D17, D27, .inr (by simp [Value.ownBlock]; exact hap7), G7, hs7⟩
          case measure => simp [intOf]; omega
        · have e5 := hdz rfl
          simp only [Prod.mk.injEq] at e5
          obtain ⟨e6, e7⟩ := e5
          subst e6 e7
          go_upto_region 18 with (at_builtin; refine wpList_append_lies _ rfl (.tmp 67) (.tmp 69) 29 rfl W1.heap.size 25 i3 (.agg #[.bool false, .int .i64 0]) 2 16 Tryd.underlying29 ti tz0 tz1 tz2 rfl (by decide) _ k (valsV vs) rfl (D1'.alloc _) ⟨U2.heap.size, 0, none⟩ 1 1 [.bool true, .int .i64 zn] rfl rfl (new2 _ _ _ _) (one_val true zn) (by decide) ?c3 ?c4 ?c5 _ rfl ?_)
          case c3 => unfold maxLen; omega
          case c4 => omega
          case c5 => first | omega | (simp; omega)
          intro g1 c3 w6 hown6 hgrow6 hat6 hlt6
          have D26 : w6.ownsRow W1.heap.size 25 2 (.slice a2 k c2) k (valsV ds) := (D2'.alloc _).kept hgrow6 (by
            rcases hap with e | e
            · rw [e]
              cases h5 : (Value.slice a2 k c2).ownBlock with
              | none => exact .inl rfl
              | some r => exact .inr (by simp)
            · exact .inr (Ne.symm e))
          have T26 : Two w6 bw (.bool true) (.int .i64 zn) 25 := (hgrow6.block bw (by simp; omega) (fun e => by have := (n1 _ e.symm).2; omega)).trans (T2.alloc _)
          have T27 := T26
          have G6 : Below w.heap.size w w6 := ((gtrans G E2).alloc (by have := (gtrans G E2).size; omega) _).grown hgrow6 (by have := (gtrans G E2).size; simp; omega) (fun r e => by have := (n1 r e).1; have := B1.size; omega)
          have hs6 : U2.heap.size + 1 ≤ w6.heap.size := by have := hgrow6.size; simpa using this
          have hH6 : (Value.slice a1 k c1).ownBlock = some g1 ∨ g1 = U2.heap.size + 1 := by rcases hat6 with e | e; exact .inl e; exact .inr (by first | exact e | simpa using e)
          clear hat6 hgrow6 t0 t1 t2 t3 D1' D2' T1 T2 T26
          have t2 := T27.at0
          have t3 := T27.at1
          go_upto_region 7 with (at_builtin; refine wpList_append_lies _ rfl (.tmp 71) (.tmp 73) 29 rfl W1.heap.size 25 i3 (.agg #[.bool false, .int .i64 0]) 2 16 Tryd.underlying29 ti tz0 tz1 tz2 rfl (by decide) _ k (valsV ds) rfl (D26.alloc _) ⟨w6.heap.size, 0, none⟩ 1 1 [.bool true, .int .i64 zn] rfl rfl (new2 _ _ _ _) (one_val true zn) (by decide) ?c3 ?c4 ?c5 _ rfl ?_)
          case c3 => unfold maxLen; omega
          case c4 => omega
          case c5 => first | omega | (simp; omega)
          intro g2 c4 w7 hown7 hgrow7 hat7 hlt7
          have hne : ∀ r, (Value.slice a2 k c2).ownBlock = some r → r ≠ g1 := fun r e e2 => by
            subst e2
            rcases hH6 with h5 | h5
            · rcases hap with h6 | h6
              · rw [h6] at h5; cases h5
              · exact h6 (h5.trans e.symm)
            · have := (n2 r e).2; omega
          have D17 : w7.ownsRow W1.heap.size 25 2 (.slice (some ⟨g1, 0, none⟩) (k + 1) c3) (k + 1) (valsV (vs ++ [(true, zn)])) := by
            rw [valsV_append]
            refine (hown6.alloc _).kept hgrow7 (.inr ?_)
            intro e
            exact hne g1 e.symm rfl
          have D27 : w7.ownsRow W1.heap.size 25 2 (.slice (some ⟨g2, 0, none⟩) (k + 1) c4) (k + 1) (valsV (ds ++ [(true, zn)])) := by
            rw [valsV_append]; exact hown7
          have hap7 : g1 ≠ g2 := fun e => by
            rcases hat7 with h5 | h5
            · exact hne g2 h5 e.symm
            · try simp at h5
              omega
          have G7 : Below w.heap.size w w7 := (G6.alloc G6.size _).grown hgrow7 (by have := G6.size; simp; omega) (fun r e => by have := (n2 r e).1; have := B1.size; omega)
          have hs7 : W1.heap.size ≤ w7.heap.size := by have := hgrow7.size; simp at this; omega
          clear hown6 hown7 hgrow7 hat7 D26 T27 t2 t3 G6 D1 D2 G V1 V2
          go_wp2
          go_roundw
          case rel => exact ⟨k + 1, _, _, by omega, by go_num, fits_snoc vs _ hfv hrf, fits_snoc ds _ hfd hrz, by simp [hll], dm_snoc hll hdm hdz, D17, D27, .inr (by simp [Value.ownBlock]; exact hap7), G7, hs7⟩
          case measure => simp [intOf]; omega
      · go_upto_region 10 with fail
        have E0 := galloc (Below.refl wr.heap.size wr) (.cells #[.int .i64 op, .int .i64 si, .int .i64 sj, .bool kv, .int .i64 nv] 31)
        have F0 := five_new wr op si sj kv nv
        generalize hU0 : wr.alloc (.cells #[.int .i64 op, .int .i64 si, .int .i64 sj, .bool kv, .int .i64 nv] 31) = U0 at E0 F0 ⊢
        clear hU0 s0 s1 s2 s3 s4
        obtain ⟨y0, _, _, _, _⟩ := F0.cells
        have y1 := five_free F0 0
        go_upto_region 11 with fail
        replace E0 := gset E0 (p := ⟨wr.heap.size, 0, none⟩) (Nat.le_refl _) (.int .i64 0)
        replace F0 := five_set F0 0
        generalize hU1 : U0.setCell ⟨wr.heap.size, 0, none⟩ (.int .i64 0) = U9 at E0 F0 ⊢
        have hop : ¬ ((5 : Int) ≤ 0 ∧ (0 : Int) ≤ 10) := by omega
        obtain ⟨oq, hoq⟩ : ∃ oq : Int, oq = 0 := ⟨_, rfl⟩
        rw [← hoq] at F0 hop
        clear hU1 hoq y0 y1
        obtain ⟨U0, hU0⟩ : ∃ U0, U0 = U9 := ⟨_, rfl⟩
        rw [← hU0] at E0 F0 ⊢
        clear hU0
        generalize hbs : wr.heap.size = bs at F0 ⊢
        have lbs : wr.heap.size ≤ bs := by omega
        clear hbs
        obtain ⟨y0, y1, y2, y3, y4⟩ := F0.cells
        have ca := asked_any a1 k c1 vs oq si sj (kv, nv) U0 (V1.keep E0) w1 w2 (fun e => absurd e hop) (TS.keep (gtrans G E0)) (TN.keep (gtrans G E0))
        have cd := fun (u : World) (g : Below wr.heap.size wr u) => asked_any a2 k c2 ds oq si sj (kv, nv) u (V2.keep g) w1 w2 (fun e => absurd e hop) (TS.keep (gtrans G g)) (TN.keep (gtrans G g))
        have hrf := askedV_fits vs hfv (by omega) oq si sj (kv, nv) w4
        have hrd := askedV_fits ds hfd (by omega) oq si sj (kv, nv) w4
        have hdr := dm_asked hll hdm oq si sj (kv, nv) hop
        obtain ⟨r, hrr⟩ : ∃ r, r = askedV vs oq si sj (kv, nv) := ⟨_, rfl⟩
        obtain ⟨x, hxx⟩ : ∃ x, x = askedV ds oq si sj (kv, nv) := ⟨_, rfl⟩
        rw [← hrr] at ca hrf hdr
        rw [← hxx] at hrd hdr
        simp only [← hxx] at cd
        clear hrr hxx
        obtain ⟨rk, rn⟩ := r
        obtain ⟨xk, xn⟩ := x
        go_upto_region 12 with (go_at_call 7; with_reducible refine ca.mono ?_; rintro e u ⟨rfl, g⟩)
        have E1 := galloc (gtrans E0 g) (.cells #[.bool rk, .int .i64 rn] 25)
        have T1 := Two.new u (.bool rk) (.int .i64 rn) 25
        have F1 := (F0.keep g).keep (galloc (Below.refl u.heap.size u) (.cells #[.bool rk, .int .i64 rn] 25))
        have l1 : wr.heap.size ≤ u.heap.size := (gtrans E0 g).size
        generalize hU1 : u.alloc (.cells #[.bool rk, .int .i64 rn] 25) = U1 at E1 T1 F1 ⊢
        generalize hb1 : u.heap.size = bv at T1 l1 ⊢
        clear hU1 hb1 g ca y0 y1 y2 y3 y4 F0 u
        obtain ⟨y0, y1, y2, y3, y4⟩ := F1.cells
        have cd1 := cd U1 E1
        go_upto_region 13 with (go_at_call 7; with_reducible refine cd1.mono ?_; rintro e u ⟨rfl, g⟩)
        have E2 := galloc (gtrans E1 g) (.cells #[.bool xk, .int .i64 xn] 25)
        have T2 := Two.new u (.bool xk) (.int .i64 xn) 25
        have l3 : bv < u.heap.size := (T1.keep g).lt
        replace T1 := (T1.keep g).alloc (.cells #[.bool xk, .int .i64 xn] 25)
        have F2 := (F1.keep g).keep (galloc (Below.refl u.heap.size u) (.cells #[.bool xk, .int .i64 xn] 25))
        have l2 : wr.heap.size ≤ u.heap.size := (gtrans E1 g).size
        generalize hU2 : u.alloc (.cells #[.bool xk, .int .i64 xn] 25) = U2 at E2 T1 T2 F2 ⊢
        generalize hb2 : u.heap.size = bw at T2 l2 l3 ⊢
        clear hU2 hb2 g E1 cd cd1 y0 y1 y2 y3 y4 F1
        obtain ⟨y0, -, -, -, -⟩ := F2.cells
        have t0 := T1.at0
        have t1 := T1.at1
        have t2 := T2.at0
        have t3 := T2.at1
        by_cases hz0 : oq = 0
        · have q0 : (oq == 0) = true := by simpa using hz0
          clear hz0
          obtain ⟨y, hy, cbl⟩ := blurred_any xk xn bo bn bcap k U2 (hbl.keep (gtrans G E2)) (by omega)
          have t4 := T2.free
          go_upto_region 15 with (go_at_call 8; with_reducible refine cbl.mono ?_; rintro e u ⟨rfl, g⟩; have T9 := T2.keep g; have t5 := T9.at0; have t6 := T9.at1; have t7 := T9.free)
          obtain ⟨zk, zn⟩ := y
          have hdz : Dm (zk, zn) (rk, rn) := by
            rcases hy with e | e
            · rw [e]; exact hdr
            · rw [e]; exact fun h => absurd h (by decide)
          have hrz : fitsB (zk, zn).2 = true := by
            rcases hy with e | e
            · rw [e]; exact hrd
            · rw [e]; decide
          replace T2 := T9.set (.bool zk) (.int .i64 zn)
          replace T1 := ((T1.keep g).other (p := ⟨bw, 0, none⟩) (by show bv ≠ bw; omega) (.bool zk)).other (p := ⟨bw, 1, none⟩) (by show bv ≠ bw; omega) (.int .i64 zn)
          replace E2 := gset (gset (gtrans E2 g) (p := ⟨bw, 0, none⟩) l2 (.bool zk)) (p := ⟨bw, 1, none⟩) l2 (.int .i64 zn)
          generalize hU3 : (u.setCell ⟨bw, 0, none⟩ (.bool zk)).setCell ⟨bw, 1, none⟩ (.int .i64 zn) = U3 at T1 T2 E2 ⊢
          clear hU3 t0 t1 t2 t3 t4 t5 t6 t7 T9 g F2 y0 cbl hy
          obtain ⟨U2', hU2'⟩ : ∃ U2', U2' = U3 := ⟨_, rfl⟩
          rw [← hU2'] at T1 T2 E2 ⊢
          clear hU2' U2
          obtain ⟨U2, hU2⟩ : ∃ U2, U2 = U2' := ⟨_, rfl⟩
          rw [← hU2] at T1 T2 E2 ⊢
          clear hU2
          have t0 := T1.at0
          have t1 := T1.at1
          have t2 := T2.at0
          have t3 := T2.at1
          have D1' := own_keepV D1 E2
          have D2' := own_keepV D2 E2
          have hsz2 := E2.size
          have lw : bw < U2.heap.size := T2.lt
          cases zk
          · skip
            go_upto_region 18 with (at_builtin; refine wpList_append_lies _ rfl (.tmp 67) (.tmp 69) 29 rfl W1.heap.size 25 i3 (.agg #[.bool false, .int .i64 0]) 2 16 Tryd.underlying29 ti tz0 tz1 tz2 rfl (by decide) _ k (valsV vs) rfl (D1'.alloc _) ⟨U2.heap.size, 0, none⟩ 1 1 [.bool rk, .int .i64 rn] rfl rfl (new2 _ _ _ _) (one_val rk rn) (by decide) ?c3 ?c4 ?c5 _ rfl ?_)
            case c3 => unfold maxLen; omega
            case c4 => omega
            case c5 => first | omega | (simp; omega)
            intro g1 c3 w6 hown6 hgrow6 hat6 hlt6
            have D26 : w6.ownsRow W1.heap.size 25 2 (.slice a2 k c2) k (valsV ds) := (D2'.alloc _).kept hgrow6 (by
              rcases hap with e | e
              · rw [e]
                cases h5 : (Value.slice a2 k c2).ownBlock with
                | none => exact .inl rfl
                | some r => exact .inr (by simp)
              · exact .inr (Ne.symm e))
            have T26 : Two w6 bw (.bool false) (.int .i64 zn) 25 := (hgrow6.block bw (by simp; omega) (fun e => by have := (n1 _ e.symm).2; omega)).trans (T2.alloc _)
            have T27 := T26
            have G6 : Below w.heap.size w w6 := ((gtrans G E2).alloc (by have := (gtrans G E2).size; omega) _).grown hgrow6 (by have := (gtrans G E2).size; simp; omega) (fun r e => by have := (n1 r e).1; have := B1.size; omega)
            have hs6 : U2.heap.size + 1 ≤ w6.heap.size := by have := hgrow6.size; simpa using this
            have hH6 : (Value.slice a1 k c1).ownBlock = some g1 ∨ g1 = U2.heap.size + 1 := by rcases hat6 with e | e; exact .inl e; exact .inr (by first | exact e | simpa using e)
            clear hat6 hgrow6 t0 t1 t2 t3 D1' D2' T1 T2 T26
            have t2 := T27.at0
            have t3 := T27.at1
            go_upto_region 7 with (at_builtin; refine wpList_append_lies _ rfl (.tmp 71) (.tmp 73) 29 rfl W1.heap.size 25 i3 (.agg #[.bool false, .int .i64 0]) 2 16 Tryd.underlying29 ti tz0 tz1 tz2 rfl (by decide) _ k (valsV ds) rfl (D26.alloc _) ⟨w6.heap.size, 0, none⟩ 1 1 [.bool false, .int .i64 zn] rfl rfl (new2 _ _ _ _) (one_val false zn) (by decide) ?c3 ?c4 ?c5 _ rfl ?_)
            case c3 => unfold maxLen; omega
            case c4 => omega
            case c5 => first | omega | (simp; omega)
            intro g2 c4 w7 hown7 hgrow7 hat7 hlt7
            have hne : ∀ r, (Value.slice a2 k c2).ownBlock = some r → r ≠ g1 := fun r e e2 => by
              subst e2
              rcases hH6 with h5 | h5
              · rcases hap with h6 | h6
                · rw [h6] at h5; cases h5
                · exact h6 (h5.trans e.symm)
              · have := (n2 r e).2; omega
            have D17 : w7.ownsRow W1.heap.size 25 2 (.slice (some ⟨g1, 0, none⟩) (k + 1) c3) (k + 1) (valsV (vs ++ [(rk, rn)])) := by
              rw [valsV_append]
              refine (hown6.alloc _).kept hgrow7 (.inr ?_)
              intro e
              exact hne g1 e.symm rfl
            have D27 : w7.ownsRow W1.heap.size 25 2 (.slice (some ⟨g2, 0, none⟩) (k + 1) c4) (k + 1) (valsV (ds ++ [(false, zn)])) := by
              rw [valsV_append]; exact hown7
            have hap7 : g1 ≠ g2 := fun e => by
              rcases hat7 with h5 | h5
              · exact hne g2 h5 e.symm
              · try simp at h5
                omega
            have G7 : Below w.heap.size w w7 := (G6.alloc G6.size _).grown hgrow7 (by have := G6.size; simp; omega) (fun r e => by have := (n2 r e).1; have := B1.size; omega)
            have hs7 : W1.heap.size ≤ w7.heap.size := by have := hgrow7.size; simp at this; omega
            clear hown6 hown7 hgrow7 hat7 D26 T27 t2 t3 G6 D1 D2 G V1 V2
            go_wp2
            go_roundw
            case rel => exact ⟨k + 1, _, _, by omega, by go_num, fits_snoc vs _ hfv hrf, fits_snoc ds _ hfd hrz, by simp [hll], dm_snoc hll hdm hdz, D17, D27, .inr (by simp [Value.ownBlock]; exact hap7), G7, hs7⟩
            case measure => simp [intOf]; omega
          · have e5 := hdz rfl
            simp only [Prod.mk.injEq] at e5
            obtain ⟨e6, e7⟩ := e5
            subst e6 e7
            go_upto_region 18 with (at_builtin; refine wpList_append_lies _ rfl (.tmp 67) (.tmp 69) 29 rfl W1.heap.size 25 i3 (.agg #[.bool false, .int .i64 0]) 2 16 Tryd.underlying29 ti tz0 tz1 tz2 rfl (by decide) _ k (valsV vs) rfl (D1'.alloc _) ⟨U2.heap.size, 0, none⟩ 1 1 [.bool true, .int .i64 zn] rfl rfl (new2 _ _ _ _) (one_val true zn) (by decide) ?c3 ?c4 ?c5 _ rfl ?_)
            case c3 => unfold maxLen; omega
            case c4 => omega
            case c5 => first | omega | (simp; omega)
            intro g1 c3 w6 hown6 hgrow6 hat6 hlt6
            have D26 : w6.ownsRow W1.heap.size 25 2 (.slice a2 k c2) k (valsV ds) := (D2'.alloc _).kept hgrow6 (by
              rcases hap with e | e
              · rw [e]
                cases h5 : (Value.slice a2 k c2).ownBlock with
                | none => exact .inl rfl
                | some r => exact .inr (by simp)
              · exact .inr (Ne.symm e))
            have T26 : Two w6 bw (.bool true) (.int .i64 zn) 25 := (hgrow6.block bw (by simp; omega) (fun e => by have := (n1 _ e.symm).2; omega)).trans (T2.alloc _)
            have T27 := T26
            have G6 : Below w.heap.size w w6 := ((gtrans G E2).alloc (by have := (gtrans G E2).size; omega) _).grown hgrow6 (by have := (gtrans G E2).size; simp; omega) (fun r e => by have := (n1 r e).1; have := B1.size; omega)
            have hs6 : U2.heap.size + 1 ≤ w6.heap.size := by have := hgrow6.size; simpa using this
            have hH6 : (Value.slice a1 k c1).ownBlock = some g1 ∨ g1 = U2.heap.size + 1 := by rcases hat6 with e | e; exact .inl e; exact .inr (by first | exact e | simpa using e)
            clear hat6 hgrow6 t0 t1 t2 t3 D1' D2' T1 T2 T26
            have t2 := T27.at0
            have t3 := T27.at1
            go_upto_region 7 with (at_builtin; refine wpList_append_lies _ rfl (.tmp 71) (.tmp 73) 29 rfl W1.heap.size 25 i3 (.agg #[.bool false, .int .i64 0]) 2 16 Tryd.underlying29 ti tz0 tz1 tz2 rfl (by decide) _ k (valsV ds) rfl (D26.alloc _) ⟨w6.heap.size, 0, none⟩ 1 1 [.bool true, .int .i64 zn] rfl rfl (new2 _ _ _ _) (one_val true zn) (by decide) ?c3 ?c4 ?c5 _ rfl ?_)
            case c3 => unfold maxLen; omega
            case c4 => omega
            case c5 => first | omega | (simp; omega)
            intro g2 c4 w7 hown7 hgrow7 hat7 hlt7
            have hne : ∀ r, (Value.slice a2 k c2).ownBlock = some r → r ≠ g1 := fun r e e2 => by
              subst e2
              rcases hH6 with h5 | h5
              · rcases hap with h6 | h6
                · rw [h6] at h5; cases h5
                · exact h6 (h5.trans e.symm)
              · have := (n2 r e).2; omega
            have D17 : w7.ownsRow W1.heap.size 25 2 (.slice (some ⟨g1, 0, none⟩) (k + 1) c3) (k + 1) (valsV (vs ++ [(true, zn)])) := by
              rw [valsV_append]
              refine (hown6.alloc _).kept hgrow7 (.inr ?_)
              intro e
              exact hne g1 e.symm rfl
            have D27 : w7.ownsRow W1.heap.size 25 2 (.slice (some ⟨g2, 0, none⟩) (k + 1) c4) (k + 1) (valsV (ds ++ [(true, zn)])) := by
              rw [valsV_append]; exact hown7
            have hap7 : g1 ≠ g2 := fun e => by
              rcases hat7 with h5 | h5
              · exact hne g2 h5 e.symm
              · try simp at h5
                omega
            have G7 : Below w.heap.size w w7 := (G6.alloc G6.size _).grown hgrow7 (by have := G6.size; simp; omega) (fun r e => by have := (n2 r e).1; have := B1.size; omega)
            have hs7 : W1.heap.size ≤ w7.heap.size := by have := hgrow7.size; simp at this; omega
            clear hown6 hown7 hgrow7 hat7 D26 T27 t2 t3 G6 D1 D2 G V1 V2
            go_wp2
            go_roundw
            case rel => exact ⟨k + 1, _, _, by omega, by go_num, fits_snoc vs _ hfv hrf, fits_snoc ds _ hfd hrz, by simp [hll], dm_snoc hll hdm hdz, D17, D27, .inr (by simp [Value.ownBlock]; exact hap7), G7, hs7⟩
            case measure => simp [intOf]; omega
        have q0 : (oq == 0) = false := by simpa using hz0
        clear hz0
        by_cases hk0 : k = 0
        · have q1 : ((k : Int) == 0) = true := by simp; omega
          clear hk0
          obtain ⟨y, hy, cbl⟩ := blurred_any xk xn bo bn bcap k U2 (hbl.keep (gtrans G E2)) (by omega)
          have t4 := T2.free
          go_upto_region 15 with (go_at_call 8; with_reducible refine cbl.mono ?_; rintro e u ⟨rfl, g⟩; have T9 := T2.keep g; have t5 := T9.at0; have t6 := T9.at1; have t7 := T9.free)
          obtain ⟨zk, zn⟩ := y
          have hdz : Dm (zk, zn) (rk, rn) := by
            rcases hy with e | e
            · rw [e]; exact hdr
            · rw [e]; exact fun h => absurd h (by decide)
          have hrz : fitsB (zk, zn).2 = true := by
            rcases hy with e | e
            · rw [e]; exact hrd
            · rw [e]; decide
          replace T2 := T9.set (.bool zk) (.int .i64 zn)
          replace T1 := ((T1.keep g).other (p := ⟨bw, 0, none⟩) (by show bv ≠ bw; omega) (.bool zk)).other (p := ⟨bw, 1, none⟩) (by show bv ≠ bw; omega) (.int .i64 zn)
          replace E2 := gset (gset (gtrans E2 g) (p := ⟨bw, 0, none⟩) l2 (.bool zk)) (p := ⟨bw, 1, none⟩) l2 (.int .i64 zn)
          generalize hU3 : (u.setCell ⟨bw, 0, none⟩ (.bool zk)).setCell ⟨bw, 1, none⟩ (.int .i64 zn) = U3 at T1 T2 E2 ⊢
          clear hU3 t0 t1 t2 t3 t4 t5 t6 t7 T9 g F2 y0 cbl hy
          obtain ⟨U2', hU2'⟩ : ∃ U2', U2' = U3 := ⟨_, rfl⟩
          rw [← hU2'] at T1 T2 E2 ⊢
          clear hU2' U2
          obtain ⟨U2, hU2⟩ : ∃ U2, U2 = U2' := ⟨_, rfl⟩
          rw [← hU2] at T1 T2 E2 ⊢
          clear hU2
          have t0 := T1.at0
          have t1 := T1.at1
          have t2 := T2.at0
          have t3 := T2.at1
          have D1' := own_keepV D1 E2
          have D2' := own_keepV D2 E2
          have hsz2 := E2.size
          have lw : bw < U2.heap.size := T2.lt
          cases zk
          · skip
            go_upto_region 18 with (at_builtin; refine wpList_append_lies _ rfl (.tmp 67) (.tmp 69) 29 rfl W1.heap.size 25 i3 (.agg #[.bool false, .int .i64 0]) 2 16 Tryd.underlying29 ti tz0 tz1 tz2 rfl (by decide) _ k (valsV vs) rfl (D1'.alloc _) ⟨U2.heap.size, 0, none⟩ 1 1 [.bool rk, .int .i64 rn] rfl rfl (new2 _ _ _ _) (one_val rk rn) (by decide) ?c3 ?c4 ?c5 _ rfl ?_)
            case c3 => unfold maxLen; omega
            case c4 => omega
            case c5 => first | omega | (simp; omega)
            intro g1 c3 w6 hown6 hgrow6 hat6 hlt6
            have D26 : w6.ownsRow W1.heap.size 25 2 (.slice a2 k c2) k (valsV ds) := (D2'.alloc _).kept hgrow6 (by
              rcases hap with e | e
              · rw [e]
                cases h5 : (Value.slice a2 k c2).ownBlock with
                | none => exact .inl rfl
                | some r => exact .inr (by simp)
              · exact .inr (Ne.symm e))
            have T26 : Two w6 bw (.bool false) (.int .i64 zn) 25 := (hgrow6.block bw (by simp; omega) (fun e => by have := (n1 _ e.symm).2; omega)).trans (T2.alloc _)
            have T27 := T26
            have G6 : Below w.heap.size w w6 := ((gtrans G E2).alloc (by have := (gtrans G E2).size; omega) _).grown hgrow6 (by have := (gtrans G E2).size; simp; omega) (fun r e => by have := (n1 r e).1; have := B1.size; omega)
            have hs6 : U2.heap.size + 1 ≤ w6.heap.size := by have := hgrow6.size; simpa using this
            have hH6 : (Value.slice a1 k c1).ownBlock = some g1 ∨ g1 = U2.heap.size + 1 := by rcases hat6 with e | e; exact .inl e; exact .inr (by first | exact e | simpa using e)
            clear hat6 hgrow6 t0 t1 t2 t3 D1' D2' T1 T2 T26
            have t2 := T27.at0
            have t3 := T27.at1
            go_upto_region 7 with (at_builtin; refine wpList_append_lies _ rfl (.tmp 71) (.tmp 73) 29 rfl W1.heap.size 25 i3 (.agg #[.bool false, .int .i64 0]) 2 16 Tryd.underlying29 ti tz0 tz1 tz2 rfl (by decide) _ k (valsV ds) rfl (D26.alloc _) ⟨w6.heap.size, 0, none⟩ 1 1 [.bool false, .int .i64 zn] rfl rfl (new2 _ _ _ _) (one_val false zn) (by decide) ?c3 ?c4 ?c5 _ rfl ?_)
            case c3 => unfold maxLen; omega
            case c4 => omega
            case c5 => first | omega | (simp; omega)
            intro g2 c4 w7 hown7 hgrow7 hat7 hlt7
            have hne : ∀ r, (Value.slice a2 k c2).ownBlock = some r → r ≠ g1 := fun r e e2 => by
              subst e2
              rcases hH6 with h5 | h5
              · rcases hap with h6 | h6
                · rw [h6] at h5; cases h5
                · exact h6 (h5.trans e.symm)
              · have := (n2 r e).2; omega
            have D17 : w7.ownsRow W1.heap.size 25 2 (.slice (some ⟨g1, 0, none⟩) (k + 1) c3) (k + 1) (valsV (vs ++ [(rk, rn)])) := by
              rw [valsV_append]
              refine (hown6.alloc _).kept hgrow7 (.inr ?_)
              intro e
              exact hne g1 e.symm rfl
            have D27 : w7.ownsRow W1.heap.size 25 2 (.slice (some ⟨g2, 0, none⟩) (k + 1) c4) (k + 1) (valsV (ds ++ [(false, zn)])) := by
              rw [valsV_append]; exact hown7
            have hap7 : g1 ≠ g2 := fun e => by
              rcases hat7 with h5 | h5
              · exact hne g2 h5 e.symm
              · try simp at h5
                omega
            have G7 : Below w.heap.size w w7 := (G6.alloc G6.size _).grown hgrow7 (by have := G6.size; simp; omega) (fun r e => by have := (n2 r e).1; have := B1.size; omega)
            have hs7 : W1.heap.size ≤ w7.heap.size := by have := hgrow7.size; simp at this; omega
            clear hown6 hown7 hgrow7 hat7 D26 T27 t2 t3 G6 D1 D2 G V1 V2
            go_wp2
            go_roundw
            case rel => exact ⟨k + 1, _, _, by omega, by go_num, fits_snoc vs _ hfv hrf, fits_snoc ds _ hfd hrz, by simp [hll], dm_snoc hll hdm hdz, D17, D27, .inr (by simp [Value.ownBlock]; exact hap7), G7, hs7⟩
            case measure => simp [intOf]; omega
          · have e5 := hdz rfl
            simp only [Prod.mk.injEq] at e5
            obtain ⟨e6, e7⟩ := e5
            subst e6 e7
            go_upto_region 18 with (at_builtin; refine wpList_append_lies _ rfl (.tmp 67) (.tmp 69) 29 rfl W1.heap.size 25 i3 (.agg #[.bool false, .int .i64 0]) 2 16 Tryd.underlying29 ti tz0 tz1 tz2 rfl (by decide) _ k (valsV vs) rfl (D1'.alloc _) ⟨U2.heap.size, 0, none⟩ 1 1 [.bool true, .int .i64 zn] rfl rfl (new2 _ _ _ _) (one_val true zn) (by decide) ?c3 ?c4 ?c5 _ rfl ?_)
            case c3 => unfold maxLen; omega
            case c4 => omega
            case c5 => first | omega | (simp; omega)
            intro g1 c3 w6 hown6 hgrow6 hat6 hlt6
            have D26 : w6.ownsRow W1.heap.size 25 2 (.slice a2 k c2) k (valsV ds) := (D2'.alloc _).kept hgrow6 (by
              rcases hap with e | e
              · rw [e]
                cases h5 : (Value.slice a2 k c2).ownBlock with
                | none => exact .inl rfl
                | some r => exact .inr (by simp)
              · exact .inr (Ne.symm e))
            have T26 : Two w6 bw (.bool true) (.int .i64 zn) 25 := (hgrow6.block bw (by simp; omega) (fun e => by have := (n1 _ e.symm).2; omega)).trans (T2.alloc _)
            have T27 := T26
            have G6 : Below w.heap.size w w6 := ((gtrans G E2).alloc (by have := (gtrans G E2).size; omega) _).grown hgrow6 (by have := (gtrans G E2).size; simp; omega) (fun r e => by have := (n1 r e).1; have := B1.size; omega)
            have hs6 : U2.heap.size + 1 ≤ w6.heap.size := by have := hgrow6.size; simpa using this
            have hH6 : (Value.slice a1 k c1).ownBlock = some g1 ∨ g1 = U2.heap.size + 1 := by rcases hat6 with e | e; exact .inl e; exact .inr (by first | exact e | simpa using e)
            clear hat6 hgrow6 t0 t1 t2 t3 D1' D2' T1 T2 T26
            have t2 := T27.at0
            have t3 := T27.at1
            go_upto_region 7 with (at_builtin; refine wpList_append_lies _ rfl (.tmp 71) (.tmp 73) 29 rfl W1.heap.size 25 i3 (.agg #[.bool false, .int .i64 0]) 2 16 Tryd.underlying29 ti tz0 tz1 tz2 rfl (by decide) _ k (valsV ds) rfl (D26.alloc _) ⟨w6.heap.size, 0, none⟩ 1 1 [.bool true, .int .i64 zn] rfl rfl (new2 _ _ _ _) (one_val true zn) (by decide) ?c3 ?c4 ?c5 _ rfl ?_)
            case c3 => unfold maxLen; omega
            case c4 => omega
            case c5 => first | omega | (simp; omega)
            intro g2 c4 w7 hown7 hgrow7 hat7 hlt7
            have hne : ∀ r, (Value.slice a2 k c2).ownBlock = some r → r ≠ g1 := fun r e e2 => by
              subst e2
              rcases hH6 with h5 | h5
              · rcases hap with h6 | h6
                · rw [h6] at h5; cases h5
                · exact h6 (h5.trans e.symm)
              · have := (n2 r e).2; omega
            have D17 : w7.ownsRow W1.heap.size 25 2 (.slice (some ⟨g1, 0, none⟩) (k + 1) c3) (k + 1) (valsV (vs ++ [(true, zn)])) := by
              rw [valsV_append]
              refine (hown6.alloc _).kept hgrow7 (.inr ?_)
              intro e
              exact hne g1 e.symm rfl
            have D27 : w7.ownsRow W1.heap.size 25 2 (.slice (some ⟨g2, 0, none⟩) (k + 1) c4) (k + 1) (valsV (ds ++ [(true, zn)])) := by
              rw [valsV_append]; exact hown7
            have hap7 : g1 ≠ g2 := fun e => by
              rcases hat7 with h5 | h5
              · exact hne g2 h5 e.symm
              · try simp at h5
                omega
            have G7 : Below w.heap.size w w7 := (G6.alloc G6.size _).grown hgrow7 (by have := G6.size; simp; omega) (fun r e => by have := (n2 r e).1; have := B1.size; omega)
            have hs7 : W1.heap.size ≤ w7.heap.size := by have := hgrow7.size; simp at this; omega
            clear hown6 hown7 hgrow7 hat7 D26 T27 t2 t3 G6 D1 D2 G V1 V2
            go_wp2
            go_roundw
            case rel => exact ⟨k + 1, _, _, by omega, by go_num, fits_snoc vs _ hfv hrf, fits_snoc ds _ hfd hrz, by simp [hll], dm_snoc hll hdm hdz, D17, D27, .inr (by simp [Value.ownBlock]; exact hap7), G7, hs7⟩
            case measure => simp [intOf]; omega
        have q1 : ((k : Int) == 0) = false := by simp; omega
        go_upto_region 15 with fail
        have hdz : Dm (xk, xn) (rk, rn) := hdr
        have hrz : fitsB (xk, xn).2 = true := hrd
        obtain ⟨zk, hzk⟩ : ∃ zk, zk = xk := ⟨_, rfl⟩
        obtain ⟨zn, hzn⟩ : ∃ zn, zn = xn := ⟨_, rfl⟩
        subst hzk hzn
        clear F2 y0
        have D1' := own_keepV D1 E2
        have D2' := own_keepV D2 E2
        have hsz2 := E2.size
        have lw : bw < U2.heap.size := T2.lt
        cases zk
        · skip
          go_upto_region 18 with (at_builtin; refine wpList_append_lies _ rfl (.tmp 67) (.tmp 69) 29 rfl W1.heap.size 25 i3 (.agg #[.bool false, .int .i64 0]) 2 16 Tryd.underlying29 ti tz0 tz1 tz2 rfl (by decide) _ k (valsV vs) rfl (D1'.alloc _) ⟨U2.heap.size, 0, none⟩ 1 1 [.bool rk, .int .i64 rn] rfl rfl (new2 _ _ _ _) (one_val rk rn) (by decide) ?c3 ?c4 ?c5 _ rfl ?_)
          case c3 => unfold maxLen; omega
          case c4 => omega
          case c5 => first | omega | (simp; omega)
          intro g1 c3 w6 hown6 hgrow6 hat6 hlt6
          have D26 : w6.ownsRow W1.heap.size 25 2 (.slice a2 k c2) k (valsV ds) := (D2'.alloc _).kept hgrow6 (by
            rcases hap with e | e
            · rw [e]
              cases h5 : (Value.slice a2 k c2).ownBlock with
              | none => exact .inl rfl
              | some r => exact .inr (by simp)
            · exact .inr (Ne.symm e))
          have T26 : Two w6 bw (.bool false) (.int .i64 zn) 25 := (hgrow6.block bw (by simp; omega) (fun e => by have := (n1 _ e.symm).2; omega)).trans (T2.alloc _)
          have T27 := T26
          have G6 : Below w.heap.size w w6 := ((gtrans G E2).alloc (by have := (gtrans G E2).size; omega) _).grown hgrow6 (by have := (gtrans G E2).size; simp; omega) (fun r e => by have := (n1 r e).1; have := B1.size; omega)
          have hs6 : U2.heap.size + 1 ≤ w6.heap.size := by have := hgrow6.size; simpa using this
          have hH6 : (Value.slice a1 k c1).ownBlock = some g1 ∨ g1 = U2.heap.size + 1 := by rcases hat6 with e | e; exact .inl e; exact .inr (by first | exact e | simpa using e)
          clear hat6 hgrow6 t0 t1 t2 t3 D1' D2' T1 T2 T26
          have t2 := T27.at0
          have t3 := T27.at1
          go_upto_region 7 with (at_builtin; refine wpList_append_lies _ rfl (.tmp 71) (.tmp 73) 29 rfl W1.heap.size 25 i3 (.agg #[.bool false, .int .i64 0]) 2 16 Tryd.underlying29 ti tz0 tz1 tz2 rfl (by decide) _ k (valsV ds) rfl (D26.alloc _) ⟨w6.heap.size, 0, none⟩ 1 1 [.bool false, .int .i64 zn] rfl rfl (new2 _ _ _ _) (one_val false zn) (by decide) ?c3 ?c4 ?c5 _ rfl ?_)
          case c3 => unfold maxLen; omega
          case c4 => omega
          case c5 => first | omega | (simp; omega)
          intro g2 c4 w7 hown7 hgrow7 hat7 hlt7
          have hne : ∀ r, (Value.slice a2 k c2).ownBlock = some r → r ≠ g1 := fun r e e2 => by
            subst e2
            rcases hH6 with h5 | h5
            · rcases hap with h6 | h6
              · rw [h6] at h5; cases h5
              · exact h6 (h5.trans e.symm)
            · have := (n2 r e).2; omega
          have D17 : w7.ownsRow W1.heap.size 25 2 (.slice (some ⟨g1, 0, none⟩) (k + 1) c3) (k + 1) (valsV (vs ++ [(rk, rn)])) := by
            rw [valsV_append]
            refine (hown6.alloc _).kept hgrow7 (.inr ?_)
            intro e
            exact hne g1 e.symm rfl
          have D27 : w7.ownsRow W1.heap.size 25 2 (.slice (some ⟨g2, 0, none⟩) (k + 1) c4) (k + 1) (valsV (ds ++ [(false, zn)])) := by
            rw [valsV_append]; exact hown7
          have hap7 : g1 ≠ g2 := fun e => by
            rcases hat7 with h5 | h5
            · exact hne g2 h5 e.symm
            · try simp at h5
              omega
          have G7 : Below w.heap.size w w7 := (G6.alloc G6.size _).grown hgrow7 (by have := G6.size; simp; omega) (fun r e => by have := (n2 r e).1; have := B1.size; omega)
          have hs7 : W1.heap.size ≤ w7.heap.size := by have := hgrow7.size; simp at this; omega
          clear hown6 hown7 hgrow7 hat7 D26 T27 t2 t3 G6 D1 D2 G V1 V2
          go_wp2
          go_roundw
          case rel => exact ⟨k + 1, _, _, by omega, by go_num, fits_snoc vs _ hfv hrf, fits_snoc ds _ hfd hrz, by simp [hll], dm_snoc hll hdm hdz, D17, D27, .inr (by simp [Value.ownBlock]; exact hap7), G7, hs7⟩
          case measure => simp [intOf]; omega
        · have e5 := hdz rfl
          simp only [Prod.mk.injEq] at e5
          obtain ⟨e6, e7⟩ := e5
          subst e6 e7
          go_upto_region 18 with (at_builtin; refine wpList_append_lies _ rfl (.tmp 67) (.tmp 69) 29 rfl W1.heap.size 25 i3 (.agg #[.bool false, .int .i64 0]) 2 16 Tryd.underlying29 ti tz0 tz1 tz2 rfl (by decide) _ k (valsV vs) rfl (D1'.alloc _) ⟨U2.heap.size, 0, none⟩ 1 1 [.bool true, .int .i64 zn] rfl rfl (new2 _ _ _ _) (one_val true zn) (by decide) ?c3 ?c4 ?c5 _ rfl ?_)
          case c3 => unfold maxLen; omega
          case c4 => omega
          case c5 => first | omega | (simp; omega)
          intro g1 c3 w6 hown6 hgrow6 hat6 hlt6
          have D26 : w6.ownsRow W1.heap.size 25 2 (.slice a2 k c2) k (valsV ds) := (D2'.alloc _).kept hgrow6 (by
            rcases hap with e | e
            · rw [e]
              cases h5 : (Value.slice a2 k c2).ownBlock with
              | none => exact .inl rfl
              | some r => exact .inr (by simp)
            · exact .inr (Ne.symm e))
          have T26 : Two w6 bw (.bool true) (.int .i64 zn) 25 := (hgrow6.block bw (by simp; omega) (fun e => by have := (n1 _ e.symm).2; omega)).trans (T2.alloc _)
          have T27 := T26
          have G6 : Below w.heap.size w w6 := ((gtrans G E2).alloc (by have := (gtrans G E2).size; omega) _).grown hgrow6 (by have := (gtrans G E2).size; simp; omega) (fun r e => by have := (n1 r e).1; have := B1.size; omega)
          have hs6 : U2.heap.size + 1 ≤ w6.heap.size := by have := hgrow6.size; simpa using this
          have hH6 : (Value.slice a1 k c1).ownBlock = some g1 ∨ g1 = U2.heap.size + 1 := by rcases hat6 with e | e; exact .inl e; exact .inr (by first | exact e | simpa using e)
          clear hat6 hgrow6 t0 t1 t2 t3 D1' D2' T1 T2 T26
          have t2 := T27.at0
          have t3 := T27.at1
          go_upto_region 7 with (at_builtin; refine wpList_append_lies _ rfl (.tmp 71) (.tmp 73) 29 rfl W1.heap.size 25 i3 (.agg #[.bool false, .int .i64 0]) 2 16 Tryd.underlying29 ti tz0 tz1 tz2 rfl (by decide) _ k (valsV ds) rfl (D26.alloc _) ⟨w6.heap.size, 0, none⟩ 1 1 [.bool true, .int .i64 zn] rfl rfl (new2 _ _ _ _) (one_val true zn) (by decide) ?c3 ?c4 ?c5 _ rfl ?_)
          case c3 => unfold maxLen; omega
          case c4 => omega
          case c5 => first | omega | (simp; omega)
          intro g2 c4 w7 hown7 hgrow7 hat7 hlt7
          have hne : ∀ r, (Value.slice a2 k c2).ownBlock = some r → r ≠ g1 := fun r e e2 => by
            subst e2
            rcases hH6 with h5 | h5
            · rcases hap with h6 | h6
              · rw [h6] at h5; cases h5
              · exact h6 (h5.trans e.symm)
            · have := (n2 r e).2; omega
          have D17 : w7.ownsRow W1.heap.size 25 2 (.slice (some ⟨g1, 0, none⟩) (k + 1) c3) (k + 1) (valsV (vs ++ [(true, zn)])) := by
            rw [valsV_append]
            refine (hown6.alloc _).kept hgrow7 (.inr ?_)
            intro e
            exact hne g1 e.symm rfl
          have D27 : w7.ownsRow W1.heap.size 25 2 (.slice (some ⟨g2, 0, none⟩) (k + 1) c4) (k + 1) (valsV (ds ++ [(true, zn)])) := by
            rw [valsV_append]; exact hown7
          have hap7 : g1 ≠ g2 := fun e => by
            rcases hat7 with h5 | h5
            · exact hne g2 h5 e.symm
            · try simp at h5
              omega
          have G7 : Below w.heap.size w w7 := (G6.alloc G6.size _).grown hgrow7 (by have := G6.size; simp; omega) (fun r e => by have := (n2 r e).1; have := B1.size; omega)
          have hs7 : W1.heap.size ≤ w7.heap.size := by have := hgrow7.size; simp at this; omega
          clear hown6 hown7 hgrow7 hat7 D26 T27 t2 t3 G6 D1 D2 G V1 V2
          go_wp2
          go_roundw
          case rel => exact ⟨k + 1, _, _, by omega, by go_num, fits_snoc vs _ hfv hrf, fits_snoc ds _ hfd hrz, by simp [hll], dm_snoc hll hdm hdz, D17, D27, .inr (by simp [Value.ownBlock]; exact hap7), G7, hs7⟩
          case measure => simp [intOf]; omega
    · obtain rfl : k = n := by omega
      go_wp2
      go_ret
      exact ⟨rfl, G⟩

theorem own : ownKnob Tryd.prog.godebug = none := by kernel_rfl
theorem laidOut : laidOutB Tryd.prog = true := by kernel_rfl

theorem gAnd : Tryd.prog.globalNamed "sluice/num.andTable" = some 0 := by kernel_rfl
theorem gOr : Tryd.prog.globalNamed "sluice/num.orTable" = some 1 := by kernel_rfl
theorem gNot : Tryd.prog.globalNamed "sluice/num.notTable" = some 2 := by kernel_rfl
theorem tabs {W : World} (h : laidMetH Tryd.prog Rows.numFirmRow.laid W) : Tabs W := by
  have h0 : laidMet Tryd.prog Rows.numFirmRow.laid W := h
  have h1 := laidMet_tail h0
  have ca := tab33 (z := fun i j => minI i j) gAnd (by kernel_rfl) Tryd.underlying52 Tryd.underlying51 Tryd.underlying50 (by kernel_rfl) (by kernel_rfl) (by kernel_rfl) h0
  have co := tab33 (z := fun i j => maxI i j) gOr (by kernel_rfl) Tryd.underlying52 Tryd.underlying51 Tryd.underlying50 (by kernel_rfl) (by kernel_rfl) (by kernel_rfl) h1
  exact ⟨block_of (co 0 0 (by omega) (by omega)), ca, co⟩
theorem tabN {W : World} (h : laidMetH Tryd.prog Rows.numFirmRow.laid W) : TabN W := by
  have h0 : laidMet Tryd.prog Rows.numFirmRow.laid W := h
  have h2 := laidMet_tail (laidMet_tail h0)
  have cn := tab3 (z := fun i => notI i) gNot (by kernel_rfl) Tryd.underlying51 Tryd.underlying50 (by kernel_rfl) (by kernel_rfl) h2
  exact ⟨block_of (cn 0 (by omega)), fun i hi => (cn i hi).trans (by rw [notI_eq i hi])⟩

set_option maxRecDepth 100000 in
theorem contract (H : Type) (enc : TypeId × Value → H) (W : World) (base : Nat) (args : Array Value) (ds gs : List (DataW H)) (before : List MemPlace)
    (hval : ∀ (j : Nat) t v, Tryd.f3.params[j]? = some t → args[j]? = some v → Value.okWide Tryd.prog W .any base t v)
    (hsz : (DataW.weightsEach Tryd.prog (Tryd.f3.params.toList ++ Rows.numFirmSpec.plain.varTypes Tryd.prog) (ds ++ gs)).all (· ≤ reachBytes) = true)
    (hW : DataW.Whole enc Tryd.prog Tryd.f3.params.toList Rows.numFirmSpec.vars false W args.toList ds gs before) (hL : laidMetH Tryd.prog Rows.numFirmRow.laid W) :
    Calls Tryd.prog 3 args W fun e W' => ∃ v, e = .returned v ∧ Rows.numFirmSpec.post enc Tryd.prog Tryd.f3 false true false false W args v W' := by
  have hW' := hW
  obtain ⟨p, q, hA0, hV, rfl, hfz, hnd⟩ := hW
  have hA : DataW.TrodAll enc Tryd.prog W 0 (fun _ => true) true Tryd.f3.params.toList args.toList ds p := hA0
  rw [Tryd.params3] at hA hval hsz
  obtain ⟨v0, vs0, d0, ds0, p0, q0, hargs, rfl, rfl, h0, r0⟩ := trodAll_cons hA
  obtain ⟨v1, vs1, d1, ds1, p1, q1, rfl, rfl, rfl, h1, r1⟩ := trodAll_cons r0
  obtain ⟨rfl, rfl, rfl⟩ := trodAll_nil r1
  obtain rfl : args = #[v0, v1] := by cases args; simp_all
  obtain ⟨rfl, rfl⟩ := trodVars_none hV
  have k0 := h0
  have lt0 : ∀ x ∈ p0, x.block < W.heap.size := by obtain ⟨m, hm⟩ := k0; exact DataW.trod_lt m _ _ _ hm
  obtain ⟨ao0, n0, cap0, st0, e0, w0, wr0⟩ : ∃ ao n cap st, v0 = .slice ao n cap ∧ IsSteps W ao n st ∧ n * 40 ≤ 140737488351232 := by
    obtain ⟨a, len, cap, e⟩ := okWide_slice Tryd.underlying22 (hval 0 22 v0 rfl rfl)
    subst e
    obtain ⟨fuel, hf⟩ := h0
    have hf' : DataW.trod enc Tryd.prog W 0 (fun _ => true) true fuel 22 [.slice a len cap] = some (d0, p0) := hf
    exact open_steps hf' (fun b hb => by
      have h1 := List.all_eq_true.1 hsz b (DataW.weights_mem_each (j := 0) (t := 22) rfl rfl b hb)
      simpa using h1)
  subst e0
  have k1 := h1
  have lt1 : ∀ x ∈ p1, x.block < W.heap.size := by obtain ⟨m, hm⟩ := k1; exact DataW.trod_lt m _ _ _ hm
  obtain ⟨bo1, bn1, bc1, e1, w1⟩ : ∃ ao n cap, v1 = .slice ao n cap ∧ IsBools W ao n := by
    obtain ⟨a, len, cap, e⟩ := okWide_slice Tryd.underlying23 (hval 1 23 v1 rfl rfl)
    subst e
    obtain ⟨fuel, hf⟩ := h1
    have hf' : DataW.trod enc Tryd.prog W 0 (fun _ => true) true fuel 23 [.slice a len cap] = some (d1, p1) := hf
    exact open_bools hf'
  subst e1
  clear hA0
  refine (walk ao0 n0 cap0 st0 bo1 bn1 bc1 W (tabs hL) (tabN hL) w0 wr0 w1).mono fun e W' ⟨he, bel⟩ => ?_
  subst he
  exact ⟨_, rfl, _, _, _, [], _, [], hW', trodAll_mk1 (shut_bool Tryd.underlying4 _), (trodAll_cons_mk (Below.trod laidOut (by kernel_rfl) (of_decide_eq_true (by kernel_rfl)) k0 bel lt0) (trodAll_cons_mk (Below.trod laidOut (by kernel_rfl) (of_decide_eq_true (by kernel_rfl)) k1 bel lt1) trodAll_mk0)), rfl, bel.frame _, fun h => by cases h⟩

/-- For the world of the witness: the settled one, the tables holding what their text lays. -/
def put (c : Array Value) : Obj → Obj
  | .cells _ t frozen => .cells c t frozen
  | x => x
theorem laid_met (os : Os) : laidMet Tryd.prog Rows.numFirmRow.laid (({ World.holding Tryd.prog os ⟨#[], #[], []⟩ with heap := ((((World.holding Tryd.prog os ⟨#[], #[], []⟩).heap.modify 0 (put #[.int .i64 0, .int .i64 0, .int .i64 0, .int .i64 0, .int .i64 1, .int .i64 1, .int .i64 0, .int .i64 1, .int .i64 2])).modify 1 (put #[.int .i64 0, .int .i64 1, .int .i64 2, .int .i64 1, .int .i64 1, .int .i64 2, .int .i64 2, .int .i64 2, .int .i64 2])).modify 2 (put #[.int .i64 2, .int .i64 1, .int .i64 0])) } : World).forCall (fun _ _ => 0) ⟨#[], #[.slice none 0 0, .slice none 0 0], []⟩).memory :=
  laidMet_of_run' 8 (by kernel_rfl) (by kernel_rfl)
theorem reads (os : Os) {H : Type} (enc : TypeId × Value → H) : ∃ places, DataW.whole enc Tryd.prog (({ World.holding Tryd.prog os ⟨#[], #[], []⟩ with heap := ((((World.holding Tryd.prog os ⟨#[], #[], []⟩).heap.modify 0 (put #[.int .i64 0, .int .i64 0, .int .i64 0, .int .i64 0, .int .i64 1, .int .i64 1, .int .i64 0, .int .i64 1, .int .i64 2])).modify 1 (put #[.int .i64 0, .int .i64 1, .int .i64 2, .int .i64 1, .int .i64 1, .int .i64 2, .int .i64 2, .int .i64 2, .int .i64 2])).modify 2 (put #[.int .i64 2, .int .i64 1, .int .i64 0])) } : World).forCall (fun _ _ => 0) ⟨#[], #[.slice none 0 0, .slice none 0 0], []⟩).memory Tryd.f3.params.toList Rows.numFirmSpec.vars false (#[.slice none 0 0, .slice none 0 0] : Array Value).toList 8 = some ([.nil, .nil], [], places) :=
  ⟨[], by kernel_rfl⟩

set_option maxRecDepth 100000 in
theorem lifted (os : Os) (started : os.Started) (H : Type) (enc : TypeId × Value → H) (F : Stop.Interp) :
    ReturnsInHanded {} Tryd.checked os 3 .any ((OpenSpec.ofChange Rows.numFirmSpec).preRow enc Tryd.prog Tryd.f3 Rows.numFirmRow.domain false Rows.numFirmRow.laid) (((OpenSpec.ofChange Rows.numFirmSpec).at F).post enc Tryd.prog Tryd.f3 false true false false) := by
  obtain ⟨places, hx⟩ := reads os enc
  refine returnsInHanded_of_row (C := Tryd.checked) (s := OpenSpec.ofChange Rows.numFirmSpec) own started (by kernel_rfl) Tryd.func3
    (witness_row_at (enc := enc) (C := Tryd.checked) false ({ World.holding Tryd.prog os ⟨#[], #[], []⟩ with heap := ((((World.holding Tryd.prog os ⟨#[], #[], []⟩).heap.modify 0 (put #[.int .i64 0, .int .i64 0, .int .i64 0, .int .i64 0, .int .i64 1, .int .i64 1, .int .i64 0, .int .i64 1, .int .i64 2])).modify 1 (put #[.int .i64 0, .int .i64 1, .int .i64 2, .int .i64 1, .int .i64 1, .int .i64 2, .int .i64 2, .int .i64 2, .int .i64 2])).modify 2 (put #[.int .i64 2, .int .i64 1, .int .i64 0])) } : World) #[.slice none 0 0, .slice none 0 0] rfl (by kernel_rfl) (by kernel_rfl) (by kernel_rfl)
      (OpenSpec.preRow_of_cond 8 hx (by kernel_rfl) (fun k hk => by cases hk) (by kernel_rfl) (laid_met os))) ?_
  intro W base args ds gs before hval hW _ _ hsz hL _ _
  exact contract H enc W base args ds gs before hval hsz hW hL

theorem said : Rows.NumFirmSaid :=
  OpenClaim.holds_of_cond 3 Tryd.f3 rfl rfl rfl rfl rfl rfl rfl ⟨rfl, rfl, rfl, rfl, rfl⟩ rfl rfl rfl rfl rfl (by kernel_rfl) Tryd.func3 (by kernel_rfl)
    (of_decide_eq_true (by kernel_rfl)) (by unfold Func.isWrapper; first | (rw [if_pos (by decide +kernel)]; kernel_rfl) | (rw [if_neg (by decide +kernel)]; exact ⟨rfl, rfl⟩))
    (fun os started H enc _ F => by rw [OpenClaim.pre_eq_preRow]; exact lifted os started H enc F)

theorem plain (f : FuncId) (fn : Func) (hf : Tryd.pinned.checked.prog.funcNamed "sluice/sluicelaw1.NumFirm" = some f) (hfn : Tryd.pinned.checked.prog.funcs[f]? = some fn) :
    false = Tryd.pinned.checked.prog.looks [] ∧ ∀ (j : Nat) t, fn.params[j]? = some t → Tryd.pinned.checked.prog.wantsStandIn t = false := by
  obtain rfl : f = 3 := Option.some.inj ((show Tryd.prog.funcNamed "sluice/sluicelaw1.NumFirm" = some 3 by kernel_rfl).symm.trans hf) |>.symm
  obtain rfl : fn = Tryd.f3 := (Option.some.inj (Tryd.func3.symm.trans hfn)).symm
  refine ⟨by kernel_rfl, fun j t ht => ?_⟩
  rw [Tryd.params3] at ht
  have hm : t = 22 ∨ t = 23 := by simpa using Array.mem_of_getElem? ht
  rcases hm with rfl | rfl
  · exact (show Tryd.prog.wantsStandIn 22 = false by kernel_rfl)
  · exact (show Tryd.prog.wantsStandIn 23 = false by kernel_rfl)

end Go.Proofs.YtompfpeankcfeaaDoor.numFirm
namespace Go.Proofs.YtompfpeankcfeaaDoor
theorem numFirm_holds : Rows.NumFirmCardSaid :=
  Claim7.holds_tied_plain_at .later [] _ _ _ _ numFirm.said (fun _ h => by cases h) (by kernel_rfl) (fun _ h => by cases h) numFirm_row_tie rfl ⟨rfl, rfl⟩ (by kernel_rfl) rfl numFirm.plain (by kernel_rfl)
#print axioms numFirm_holds
end Go.Proofs.YtompfpeankcfeaaDoor
