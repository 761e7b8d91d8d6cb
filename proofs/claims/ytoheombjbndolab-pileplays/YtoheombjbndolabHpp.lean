/- The document's pile of events. -/
import Derived.Test.YtoheombjbndolabHlg
import Derived.Test.YtoheombjbndolabHrs
namespace Go.Proofs.Ytoheombjbndolab
open Go.RowKit Go.BigFrame
set_option linter.unusedVariables false
set_option linter.unusedSimpArgs false

/-- A thing put behind all that it is not before. -/
def putP {β : Type} (lt : β → β → Bool) (x : β) : List β → List β
  | [] => [x]
  | y :: l => if lt x y = true then x :: y :: l else y :: putP lt x l
theorem putP_len {β : Type} (lt : β → β → Bool) (x : β) : ∀ l : List β, (putP lt x l).length = l.length + 1
  | [] => rfl
  | y :: l => by
    unfold putP
    split
    · simp
    · simp [putP_len lt x l]
theorem putP_yes {β : Type} (lt : β → β → Bool) (x : β) (b : List β) : ∀ a : List β, a.any (lt x) = true → putP lt x (a ++ b) = putP lt x a ++ b
  | [], h => by simp at h
  | y :: a, h => by
    rw [List.cons_append]
    unfold putP
    by_cases e : lt x y = true
    · rw [if_pos e, if_pos e]; rfl
    · rw [if_neg e, if_neg e, putP_yes lt x b a (by simpa [e] using h)]; rfl
theorem putP_no {β : Type} (lt : β → β → Bool) (x : β) (b : List β) : ∀ a : List β, a.any (lt x) = false → putP lt x (a ++ b) = a ++ putP lt x b
  | [], h => rfl
  | y :: a, h => by
    have h1 : lt x y = false ∧ a.any (lt x) = false := by simpa using h
    rw [List.cons_append]
    show putP lt x (y :: (a ++ b)) = _
    rw [show putP lt x (y :: (a ++ b)) = if lt x y = true then x :: y :: (a ++ b) else y :: putP lt x (a ++ b) from rfl, if_neg (by simp [h1.1]), putP_no lt x b a h1.2]
    rfl
theorem ins_fst {β : Type} (lt : β → β → Bool) (x : β) (t : Nat) : ∀ L : List (β × Nat), (∀ y ∈ L, y.2 < t) → (ins (ahd lt) (x, t) L).map Prod.fst = putP lt x (L.map Prod.fst)
  | [], _ => rfl
  | y :: L, h => by
    have hy := h y (List.mem_cons_self)
    have e : ahd lt (x, t) y = lt x y.1 := by unfold ahd; rw [if_neg (by show ¬ t < y.2; omega)]
    unfold ins
    rw [e, List.map_cons]
    unfold putP
    by_cases e2 : lt x y.1 = true
    · rw [if_pos e2, if_pos e2]; rfl
    · rw [if_neg e2, if_neg e2, List.map_cons, ins_fst lt x t L (fun z hz => h z (List.mem_cons_of_mem _ hz))]
theorem grow_mono {a b c X : Nat} (h : (b + b / 4 + 192) * c ≤ X) (hab : a ≤ b) : (a + a / 4 + 192) * c ≤ X := Nat.le_trans (Nat.mul_le_mul_right c (by omega)) h
theorem grow_len {a b : Nat} (h : (b + b / 4 + 192) * 88 ≤ 281474976710656) (hab : a ≤ b) : a ≤ 9223372036854775807 := by omega
theorem bx_grown {w u : World} {b : Nat} {cs : Array Value} {t : TypeId} (h : Bk w b cs t) {e : TypeId} {s n : Nat} {v : Value} {xs : List Value} (O : w.ownsRow (b + 1) e s v n xs) (G : w.grownBy u v.ownBlock) : Bk u b cs t :=
  (G.block b h.lt (fun e => by have := (World.ownsRow.lt O b e.symm).1; omega)).trans h
def putO (x : Ev) (l : List Ev) (i : Nat) : List Ev := if (l.take i).any (evLt x) = true then putP evLt x (l.take i) else l.take i
structure PtI (x : Ev) (l : List Ev) (w : World) (vo vd vi : Value) (wr : World) : Prop where
  ex : ∃ (i : Nat), i ≤ l.length ∧ vi = .int .i64 (i : Int) ∧ vd = .bool ((l.take i).any (evLt x)) ∧ wr.ownsRow (w.heap.size + 1) 29 11 vo (putO x l i).length (fl evC (putO x l i)) ∧ Below w.heap.size w wr ∧ Bk wr w.heap.size (evC x) 29
set_option maxRecDepth 100000 in
set_option maxHeartbeats 4000000 in
theorem refPut (ao : Option Addr) (cap : Nat) (l : List Ev) (x : Ev) (w : World) (F : Flat w ao (fl evC l)) (hl : ((l.length + 1) + (l.length + 1) / 4 + 192) * 88 ≤ 281474976710656) :
    Calls Try.prog 51 #[.slice ao l.length cap, .agg (evC x)] w fun e w' => ∃ a c, e = .returned (.slice a (l.length + 1) c) ∧ w'.ownsRow w.heap.size 29 11 (.slice a (l.length + 1) c) (l.length + 1) (fl evC (putP evLt x l)) ∧ Below w.heap.size w w' := by
  have B0 := galloc (Below.refl w.heap.size w) (.cells (evC x) 29)
  have b0 := Bk.new w (evC x) 29
  go_enter Try.func51, Try.ntmps51
  go_wp2
  generalize w.alloc _ = V at *
  go_loopw [5, 6, 7, 8] (fun vo vd vi _ wr => PtI x l w vo vd vi wr) (fun _ _ vi _ _ => l.length - (intOf vi).toNat)
  case atStart => exact ⟨0, Nat.zero_le _, rfl, rfl, World.ownsRow_nil _ _ _ _, B0, b0⟩
  case round =>
    obtain ⟨⟨i, hi, rfl, rfl, O, G, bx⟩⟩ := hrel
    clear B0 b0
    have rx := bx.range
    have hbx : w.heap.size + 1 ≤ wr.heap.size := bx.lt
    by_cases hlt : i < l.length
    · obtain ⟨g, o, rfl, hgl, _⟩ := (F.keep G).form (by rw [fl_len ev_size]; omega)
      have ry := flat_range ev_size zrEv (F.keep G) i hlt
      obtain ⟨y, hy⟩ : ∃ y, l.getD i zrEv = y := ⟨_, rfl⟩
      rw [hy] at ry
      have HTK : Hid (l.take (i + 1) = l.take i ++ [y]) := by show _ = _; rw [take_snoc l zrEv i hlt, hy]
      have HT : Hid (i < l.length) := hlt
      have HYY : Hid (l.getD i zrEv = y) := hy
      have q1 : (i : Int) < (l.length : Int) := by omega
      have hle1 : i + 1 ≤ l.length + 1 := by omega
      have hle2 : i + 1 + 1 ≤ l.length + 1 := by omega
      have hti : (l.take i).length = i := by rw [List.length_take]; omega
      have cq := fun W : World => refEv_any x y W
      obtain ⟨bl, hbl⟩ : ∃ bl, evLt x y = bl := ⟨_, rfl⟩
      rw [hbl] at cq
      have HB : Hid (evLt x y = bl) := hbl
      obtain ⟨bd, hbd⟩ : ∃ bd, (l.take i).any (evLt x) = bd := ⟨_, rfl⟩
      rw [hbd]
      have HD : Hid ((l.take i).any (evLt x) = bd) := hbd
      have hne0 : Nonempty (Ext wr) := ⟨⟨_, Below.refl _ _⟩⟩
      have c4 : ∀ z : Ext wr, Calls Try.prog 54 #[.agg (evC x), .agg (evC y)] z.X (fun e w'' => e = .returned (.bool bl) ∧ ∃ m : Ext wr, w'' = m.X) := fun z => ext_of (cq z.X)
      clear cq hbl hy hlt
      go_upto_region 6 with fail
      refine wp_region_ext (by kernel_rfl) (by kernel_rfl) ?_
      repeat (first
        | (refine wpQuiet_load_mid rfl 29 (.tmp 3) rfl w.heap.size 0 rfl (evC x) _ (fun X hX => by obtain ⟨nx, rfl⟩ := hX; exact rangeAt_keep rx nx.h) Try.underlying29 rfl infoEv _ rfl ?_; simp only [Act.put, List.setIfInBounds_toArray, List.set_cons_succ, List.set_cons_zero])
        | (refine wpQuiet_load_mid rfl 29 (.tmp 18) rfl g (o + i * 11) rfl (evC y) _ (fun X hX => by obtain ⟨nx, rfl⟩ := hX; exact rangeAt_keep ry nx.h) Try.underlying29 rfl infoEv _ rfl ?_; simp only [Act.put, List.setIfInBounds_toArray, List.set_cons_succ, List.set_cons_zero])
        | go_big_quiet_step (first | (go_at_call 54; with_reducible exact c4 _)))
      refine wpQuiet_nil ?_
      intro _ hw'
      obtain ⟨nx, hw''⟩ := hw'
      subst hw''
      replace rx := rangeAt_keep rx nx.h
      replace ry := rangeAt_keep ry nx.h
      replace G := gtrans G nx.h
      replace O := own_keep O nx.h
      replace bx := bx.keep nx.h
      clear c4 hne0
      generalize nx.X = wq at *
      have hbx : w.heap.size + 1 ≤ wq.heap.size := bx.lt
      unfold putO at O
      rw [hbd] at O
      clear hbd
      cases bd
      · rw [if_neg (by simp)] at O
        rw [hti] at O
        cases bl
        · have hbs1 := evBuildE y wq
          have GA1 := galloc (Below.refl wq.heap.size wq) (.cells (evC y) 29)
          have bn1 := Bk.new wq (evC y) 29
          have hnews1 := World.news_of_block bn1
          generalize hWA1 : wq.alloc (.cells (evC y) 29) = WA1 at *
          have OA1 := own_keep O GA1
          have hbw1 : w.heap.size + 1 ≤ WA1.heap.size := Nat.le_trans hbx GA1.size
          clear hWA1
          go_wp2_with (first
            | (refine wpList_load_mid rfl 29 _ rfl g (o + i * 11) rfl (evC y).toList _ ry Try.underlying29 rfl infoEv ?_; refine wpList_build1 rfl (.tmp 34) rfl rfl hbs1 ?_; refine wpList_append_one rfl (.tmp 30) (.tmp 35) rfl Try.underlying22 nfEv rfl (by decide) _ (w.heap.size + 1) i _ rfl OA1 hbw1 ⟨wq.heap.size, 0, none⟩ 1 (evC y).toList rfl rfl hnews1 (ev_ones1 y) (grow_len hl hle1) (grow_mono hl hle1) ?_; intro gz1 cz1 w6 O61 G61 hg1))
          have B61 : Below w.heap.size w w6 := (gtrans G GA1).grown G61 (by omega) (fun kk e => Nat.le_of_succ_le (World.ownsRow.lt OA1 kk e).1)
          go_roundw
          case rel =>
            have htk : l.take (i + 1) = l.take i ++ [y] := HTK
            have hlt : i < l.length := HT
            have hd : (l.take i).any (evLt x) = false := HD
            have hb : evLt x y = false := HB
            refine ⟨⟨i + 1, by omega, by go_num, ?_, ?_, B61, (bx_grown (bx.keep GA1) OA1 G61)⟩⟩
            · rw [htk, List.any_append, hd]; simp [hb]
            · unfold putO
              rw [htk, List.any_append, hd]
              have e9 : (l.take i ++ [y]).length = i + 1 := by simp; omega
              rw [if_neg (by simp [hb]), e9, fl_app]
              simpa [fl] using O61
          case measure => have hlt : i < l.length := HT; simp [intOf]; omega
        · have hbs1 := evBuildE x wq
          have GA1 := galloc (Below.refl wq.heap.size wq) (.cells (evC x) 29)
          have bn1 := Bk.new wq (evC x) 29
          have hnews1 := World.news_of_block bn1
          generalize hWA1 : wq.alloc (.cells (evC x) 29) = WA1 at *
          have OA1 := own_keep O GA1
          have hbw1 : w.heap.size + 1 ≤ WA1.heap.size := Nat.le_trans hbx GA1.size
          clear hWA1
          go_upto_region 10 with (first
            | (refine wpList_load_mid rfl 29 _ rfl w.heap.size 0 rfl (evC x).toList _ rx Try.underlying29 rfl infoEv ?_; refine wpList_build1 rfl (.tmp 27) rfl rfl hbs1 ?_; refine wpList_append_one rfl (.tmp 26) (.tmp 28) rfl Try.underlying22 nfEv rfl (by decide) _ (w.heap.size + 1) i _ rfl OA1 hbw1 ⟨wq.heap.size, 0, none⟩ 1 (evC x).toList rfl rfl hnews1 (ev_ones1 x) (grow_len hl hle1) (grow_mono hl hle1) ?_; intro gz1 cz1 w5 O61 G61 hg1))
          have B61 : Below w.heap.size w w5 := (gtrans G GA1).grown G61 (by omega) (fun kk e => Nat.le_of_succ_le (World.ownsRow.lt OA1 kk e).1)
          have O5 : w5.ownsRow (w.heap.size + 1) 29 11 (.slice (some ⟨gz1, 0, none⟩) (i + 1) cz1) (i + 1) (fl evC (l.take i ++ [x])) := by rw [fl_app]; simpa [fl] using O61
          have ry5 : w5.rangeAt g (o + i * 11) (evC y).toList := (by have := flat_range ev_size zrEv (F.keep B61) i HT; rw [show l.getD i zrEv = y from HYY] at this; exact this)
          have bx5 : Bk w5 w.heap.size (evC x) 29 := (bx_grown (bx.keep GA1) OA1 G61)
          have hbx : w.heap.size + 1 ≤ w5.heap.size := bx5.lt
          have hbs2 := evBuildE y w5
          have GA2 := galloc (Below.refl w5.heap.size w5) (.cells (evC y) 29)
          have bn2 := Bk.new w5 (evC y) 29
          have hnews2 := World.news_of_block bn2
          generalize hWA2 : w5.alloc (.cells (evC y) 29) = WA2 at *
          have OA2 := own_keep O5 GA2
          have hbw2 : w.heap.size + 1 ≤ WA2.heap.size := Nat.le_trans hbx GA2.size
          clear hWA2
          go_wp2_with (first
            | (refine wpList_load_mid rfl 29 _ rfl g (o + i * 11) rfl (evC y).toList _ ry5 Try.underlying29 rfl infoEv ?_; refine wpList_build1 rfl (.tmp 34) rfl rfl hbs2 ?_; refine wpList_append_one rfl (.tmp 30) (.tmp 35) rfl Try.underlying22 nfEv rfl (by decide) _ (w.heap.size + 1) (i + 1) _ rfl OA2 hbw2 ⟨w5.heap.size, 0, none⟩ 1 (evC y).toList rfl rfl hnews2 (ev_ones1 y) (grow_len hl hle2) (grow_mono hl hle2) ?_; intro gz2 cz2 w6 O62 G62 hg2))
          have B62 : Below w.heap.size w w6 := (gtrans B61 GA2).grown G62 (by omega) (fun kk e => Nat.le_of_succ_le (World.ownsRow.lt OA2 kk e).1)
          go_roundw
          case rel =>
            have htk : l.take (i + 1) = l.take i ++ [y] := HTK
            have hlt : i < l.length := HT
            have hd : (l.take i).any (evLt x) = false := HD
            have hb : evLt x y = true := HB
            refine ⟨⟨i + 1, by omega, by go_num, ?_, ?_, B62, (bx_grown (bx5.keep GA2) OA2 G62)⟩⟩
            · rw [htk, List.any_append, hd]; simp [hb]
            · unfold putO
              rw [htk, List.any_append, hd]
              have e8 : putP evLt x (l.take i ++ [y]) = l.take i ++ [x] ++ [y] := by
                rw [putP_no evLt x [y] (l.take i) hd]
                unfold putP
                rw [if_pos hb]
                simp
              have e9 : (l.take i ++ [x] ++ [y]).length = i + 1 + 1 := by simp; omega
              rw [if_pos (by simp [hb]), e8, e9, fl_app]
              simpa [fl] using O62
          case measure => have hlt : i < l.length := HT; simp [intOf]; omega
      · rw [if_pos rfl] at O
        have hpl : (putP evLt x (l.take i)).length = i + 1 := by rw [putP_len, hti]
        rw [hpl] at O
        have hbs1 := evBuildE y wq
        have GA1 := galloc (Below.refl wq.heap.size wq) (.cells (evC y) 29)
        have bn1 := Bk.new wq (evC y) 29
        have hnews1 := World.news_of_block bn1
        generalize hWA1 : wq.alloc (.cells (evC y) 29) = WA1 at *
        have OA1 := own_keep O GA1
        have hbw1 : w.heap.size + 1 ≤ WA1.heap.size := Nat.le_trans hbx GA1.size
        clear hWA1
        cases bl
        · go_wp2_with (first
            | (refine wpList_load_mid rfl 29 _ rfl g (o + i * 11) rfl (evC y).toList _ ry Try.underlying29 rfl infoEv ?_; refine wpList_build1 rfl (.tmp 34) rfl rfl hbs1 ?_; refine wpList_append_one rfl (.tmp 30) (.tmp 35) rfl Try.underlying22 nfEv rfl (by decide) _ (w.heap.size + 1) (i + 1) _ rfl OA1 hbw1 ⟨wq.heap.size, 0, none⟩ 1 (evC y).toList rfl rfl hnews1 (ev_ones1 y) (grow_len hl hle2) (grow_mono hl hle2) ?_; intro gz1 cz1 w6 O61 G61 hg1))
          have B61 : Below w.heap.size w w6 := (gtrans G GA1).grown G61 (by omega) (fun kk e => Nat.le_of_succ_le (World.ownsRow.lt OA1 kk e).1)
          go_roundw
          case rel =>
            have htk : l.take (i + 1) = l.take i ++ [y] := HTK
            have hlt : i < l.length := HT
            have hd : (l.take i).any (evLt x) = true := HD
            have hb : evLt x y = false := HB
            refine ⟨⟨i + 1, by omega, by go_num, ?_, ?_, B61, (bx_grown (bx.keep GA1) OA1 G61)⟩⟩
            · rw [htk, List.any_append, hd]; simp [hb]
            · unfold putO
              rw [htk, List.any_append, hd]
              have e9 : (putP evLt x (l.take i) ++ [y]).length = i + 1 + 1 := by simp [hpl]
              rw [if_pos (by simp), putP_yes evLt x [y] (l.take i) hd, e9, fl_app]
              simpa [fl] using O61
          case measure => have hlt : i < l.length := HT; simp [intOf]; omega
        · go_wp2_with (first
            | (refine wpList_load_mid rfl 29 _ rfl g (o + i * 11) rfl (evC y).toList _ ry Try.underlying29 rfl infoEv ?_; refine wpList_build1 rfl (.tmp 34) rfl rfl hbs1 ?_; refine wpList_append_one rfl (.tmp 30) (.tmp 35) rfl Try.underlying22 nfEv rfl (by decide) _ (w.heap.size + 1) (i + 1) _ rfl OA1 hbw1 ⟨wq.heap.size, 0, none⟩ 1 (evC y).toList rfl rfl hnews1 (ev_ones1 y) (grow_len hl hle2) (grow_mono hl hle2) ?_; intro gz1 cz1 w6 O61 G61 hg1))
          have B61 : Below w.heap.size w w6 := (gtrans G GA1).grown G61 (by omega) (fun kk e => Nat.le_of_succ_le (World.ownsRow.lt OA1 kk e).1)
          go_roundw
          case rel =>
            have htk : l.take (i + 1) = l.take i ++ [y] := HTK
            have hlt : i < l.length := HT
            have hd : (l.take i).any (evLt x) = true := HD
            have hb : evLt x y = true := HB
            refine ⟨⟨i + 1, by omega, by go_num, ?_, ?_, B61, (bx_grown (bx.keep GA1) OA1 G61)⟩⟩
            · rw [htk, List.any_append, hd]; simp [hb]
            · unfold putO
              rw [htk, List.any_append, hd]
              have e9 : (putP evLt x (l.take i) ++ [y]).length = i + 1 + 1 := by simp [hpl]
              rw [if_pos (by simp), putP_yes evLt x [y] (l.take i) hd, e9, fl_app]
              simpa [fl] using O61
          case measure => have hlt : i < l.length := HT; simp [intOf]; omega
    · obtain rfl : i = l.length := by omega
      have hki : ¬ (l.length : Int) < (l.length : Int) := by omega
      unfold putO at O
      rw [List.take_length] at O
      rw [List.take_length]
      obtain ⟨bd, hbd⟩ : ∃ bd, l.any (evLt x) = bd := ⟨_, rfl⟩
      rw [hbd] at O ⊢
      have HD : Hid (l.any (evLt x) = bd) := hbd
      clear hbd hlt
      cases bd
      · rw [if_neg (by simp)] at O
        have hbs1 := evBuildE x wr
        have GA1 := galloc (Below.refl wr.heap.size wr) (.cells (evC x) 29)
        have bn1 := Bk.new wr (evC x) 29
        have hnews1 := World.news_of_block bn1
        generalize hWA1 : wr.alloc (.cells (evC x) 29) = WA1 at *
        have OA1 := own_keep O GA1
        have hbw1 : w.heap.size + 1 ≤ WA1.heap.size := Nat.le_trans hbx GA1.size
        clear hWA1
        go_wp2_with (first
          | (refine wpList_load_mid rfl 29 _ rfl w.heap.size 0 rfl (evC x).toList _ rx Try.underlying29 rfl infoEv ?_; refine wpList_build1 rfl (.tmp 40) rfl rfl hbs1 ?_; refine wpList_append_one rfl (.tmp 39) (.tmp 41) rfl Try.underlying22 nfEv rfl (by decide) _ (w.heap.size + 1) l.length _ rfl OA1 hbw1 ⟨wr.heap.size, 0, none⟩ 1 (evC x).toList rfl rfl hnews1 (ev_ones1 x) (grow_len hl (Nat.le_refl _)) (grow_mono hl (Nat.le_refl _)) ?_; intro gz1 cz1 w6 O61 G61 hg1))
        have B61 : Below w.heap.size w w6 := (gtrans G GA1).grown G61 (by omega) (fun kk e => Nat.le_of_succ_le (World.ownsRow.lt OA1 kk e).1)
        go_ret
        have hd : l.any (evLt x) = false := HD
        have e8 : putP evLt x l = l ++ [x] := by
          have := putP_no evLt x [] l hd
          rw [List.append_nil] at this
          exact this
        refine ⟨_, _, rfl, own_mono (base := w.heap.size + 1) ?_ (Nat.le_succ _), B61⟩
        rw [e8, fl_app]
        simpa [fl] using O61
      · rw [if_pos rfl, putP_len] at O
        obtain ⟨a, c, rfl, _⟩ := own_form O
        go_wp2
        go_ret
        exact ⟨a, c, rfl, own_mono O (Nat.le_succ _), G⟩

end Go.Proofs.Ytoheombjbndolab
