/- The document's sort. -/
import Derived.Test.YtoheombjbndolaaHpn
import Derived.Test.YtoheombjbndolaaHrm
namespace Go.Proofs.Ytoheombjbndolaa
open Go.RowKit Go.BigFrame
set_option linter.unusedVariables false
set_option linter.unusedSimpArgs false

set_option maxHeartbeats 1000000 in
theorem refNameBefore_any (ta ia tb ib : Int) (w : World) :
    Calls Try.prog 35 #[.agg #[.int .i64 ta, .int .u64 ia], .agg #[.int .i64 tb, .int .u64 ib]] w fun e w' => e = .returned (.bool (befB ta ia tb ib)) ∧ Below w.heap.size w w' := by
  obtain ⟨v, hv⟩ : ∃ v, befB ta ia tb ib = v := ⟨_, rfl⟩
  rw [hv]
  have HV : Hid (decide (ta < tb ∨ ta = tb ∧ ia < ib) = v) := hv
  clear hv
  go_enter Try.func35, Try.ntmps35
  go_wp2
  all_goals
    have hv : decide (ta < tb ∨ ta = tb ∧ ia < ib) = v := HV
    go_ret
    refine ⟨?_, galloc (galloc (Below.refl _ _) _) _⟩
    subst hv
    refine congrArg (fun b => Ending.returned (Value.bool b)) ?_
    (try simp only [bne_iff_ne, ne_eq, Decidable.not_not, bne_eq_false_iff_eq, Bool.not_eq_true] at *)
    exact decide_eq_decide.2 (by omega)
theorem refNm_any (a b : Nm) (w : World) : Calls Try.prog 35 #[.agg (nmC a), .agg (nmC b)] w fun e w' => e = .returned (.bool (nmLt a b)) ∧ Below w.heap.size w w' := refNameBefore_any a.ts a.id b.ts b.id w
set_option maxHeartbeats 1000000 in
theorem refEv_any (x y : Ev) (w : World) :
    Calls Try.prog 34 #[.agg (evC x), .agg (evC y)] w fun e w' => e = .returned (.bool (evLt x y)) ∧ Below w.heap.size w w' := by
  have B := galloc (galloc (Below.refl w.heap.size w) (.cells (evC x) 30)) (.cells (evC y) 30)
  have c1 := refNameBefore_any x.ts x.id y.ts y.id ((w.alloc (.cells (evC x) 30)).alloc (.cells (evC y) 30))
  unfold evC at *
  go_enter Try.func34, Try.ntmps34
  go_wp2_with (first
    | (go_at_call 35; (with_reducible refine c1.mono ?_); rintro e u ⟨rfl, g1⟩))
  go_ret
  exact ⟨rfl, gtrans B g1⟩
/-- What holds at the head of the merge's loop. -/
structure evMg (A B : List Ev) (k m : Nat) (u2 : World) (vo vi vj : Value) (wr : World) : Prop where
  ex : ∃ (i j : Nat) (os : List Ev), i ≤ k ∧ j ≤ m ∧ vi = .int .i64 (i : Int) ∧ vj = .int .i64 (j : Int) ∧ os.length = i + j ∧ os ++ mrgL evLt (A.drop i) (B.drop j) = mrgL evLt A B ∧ wr.ownsRow u2.heap.size 30 11 vo (i + j) (fl evC os) ∧ Below u2.heap.size u2 wr
set_option maxRecDepth 100000 in
set_option maxHeartbeats 4000000 in
theorem evRef (n : Nat) : ∀ (l : List Ev), l.length ≤ n → ∀ (ao : Option Addr) (cap : Nat) (w : World), Sl ao l.length cap → Flat w ao (fl evC l) → l.length * 88 ≤ 140737488351232 →
    Calls Try.prog 17 #[.slice ao l.length cap] w fun e w' => ∃ a c, e = .returned (.slice a l.length c) ∧ w'.ownsRow w.heap.size 30 11 (.slice a l.length c) l.length (fl evC (srt evLt l)) ∧ Below w.heap.size w w' := by
  induction n using Nat.strongRecOn with
  | _ n ih =>
  intro l hln ao cap w hsl F hl
  by_cases h1 : l.length ≤ 1
  · have q1 : decide ((l.length : Int) ≤ 1) = true := by simp; omega
    have q1n : decide (l.length ≤ 1) = true := by simp; omega
    have e := srt_small evLt l h1
    go_enter Try.func17, Try.ntmps17
    go_wp2_with (first
      | (at_builtin; refine wpList_append_flatw rfl (.tmp 12) (.tmp 13) rfl Try.underlying22 nfEv rfl (by decide) (.slice none 0 0) w.heap.size 0 [] rfl (World.ownsRow_nil _ _ _ _) (Nat.le_refl _) ao l.length cap (fl evC l) rfl hsl F (fl_len ev_size l) (fl_one ev_ones1 l) (by omega) (by omega) ?_; intro v' w6 O6 G6))
    rw [Nat.zero_add, List.nil_append] at O6
    obtain ⟨a, c, rfl, _⟩ := own_form O6
    go_ret
    rw [e]
    exact ⟨a, c, rfl, O6, (Below.refl _ _).grown G6 (Nat.le_refl _) (fun k e => by simp [Value.ownBlock] at e)⟩
  · obtain ⟨k, ek⟩ : ∃ k, k = l.length / 2 := ⟨_, rfl⟩
    obtain ⟨g, o, rfl, hgl, _⟩ := F.form (by rw [fl_len ev_size]; omega)
    have q1 : decide ((l.length : Int) ≤ 1) = false := by simp; omega
    have q1n : decide (l.length ≤ 1) = false := by simp; omega
    have E1 : (l.length : Int) / 2 = (k : Int) := by omega
    have E2 : (l.length : Int).tdiv 2 = (k : Int) := by rw [Int.tdiv_eq_ediv_of_nonneg (by omega)]; omega
    have hk1 : k ≤ l.length := by omega
    have hkc : k ≤ cap := by have := hsl.1; omega
    have hlc := hsl.1
    have lt1 : (l.take k).length = k := by rw [List.length_take]; omega
    have lt2 : (l.drop k).length = l.length - k := by rw [List.length_drop]
    have c1 := ih k (by omega) (l.take k) (by omega) (some ⟨g, o, none⟩) cap w (by rw [lt1]; exact ⟨hkc, fun e => by cases e⟩) (flat_take F k) (by rw [lt1]; omega)
    have c2 := fun (u : World) (G : Below w.heap.size w u) => ih (l.length - k) (by omega) (l.drop k) (by omega) (some ⟨g, o + k * 11, none⟩) (cap - k) u (by rw [lt2]; exact ⟨by omega, fun e => by cases e⟩) (flat_drop ev_size (F.keep G) k hk1) (by rw [lt2]; omega)
    rw [lt1] at c1
    rw [lt2] at c2
    have HZ : Hid (srt evLt l = mrgL evLt (srt evLt (l.take k)) (srt evLt (l.drop k))) := by
      show _ = _
      rw [← srt_append evLt_swo, List.take_append_drop]
    have la : (srt evLt (l.take k)).length = k := by rw [srt_len, lt1]
    have lb : (srt evLt (l.drop k)).length = l.length - k := by rw [srt_len, lt2]
    generalize srt evLt (l.take k) = A at *
    generalize srt evLt (l.drop k) = B at *
    obtain ⟨m, em⟩ : ∃ m, m = l.length - k := ⟨_, rfl⟩
    rw [← em] at c2 lb
    have hkm : k + m = l.length := by omega
    have E3 : (l.length : Int) - (k : Int) = (m : Int) := by omega
    have E4 : l.length - k = m := em.symm
    clear ih lt1 lt2 ek em
    go_enter Try.func17, Try.ntmps17
    go_wp2_with (first
      | (go_at_call 17; (with_reducible refine c1.mono ?_); rintro e u1 ⟨a1, p1, rfl, O1, G1⟩; have c3 := c2 u1 G1; clear c1)
      | (go_at_call 17; (with_reducible refine c3.mono ?_); rintro e u2 ⟨a2, p2, rfl, O2, G2⟩))
    have FA := (own_flat O1).keep G2
    have FB := own_flat O2
    have HLA : Hid (A.length = k) := la
    have HLB : Hid (B.length = m) := lb
    clear c2 c3 la lb
    go_loopw [3, 6, 7, 8] (fun vo vi vj _ wr => evMg A B k m u2 vo vi vj wr) (fun _ vi vj _ _ => k + m - ((intOf vi).toNat + (intOf vj).toNat))
    case atStart => exact ⟨0, 0, [], Nat.zero_le _, Nat.zero_le _, rfl, rfl, rfl, by simp, World.ownsRow_nil _ _ _ _, Below.refl _ _⟩
    case round =>
      obtain ⟨⟨i, j, os, hi, hj, rfl, rfl, hos, hmg, O, G⟩⟩ := hrel
      have hla : A.length = k := HLA
      have hlb : B.length = m := HLB
      have HM : Hid (os ++ mrgL evLt (A.drop i) (B.drop j) = mrgL evLt A B) := hmg
      obtain ⟨xa, hxa⟩ : ∃ xa, A.getD i zrEv = xa := ⟨_, rfl⟩
      obtain ⟨xb, hxb⟩ : ∃ xb, B.getD j zrEv = xb := ⟨_, rfl⟩
      have HXA : Hid (A.getD i zrEv = xa) := hxa
      have HXB : Hid (B.getD j zrEv = xb) := hxb
      by_cases hia : i < k
      · obtain ⟨ga, oa, rfl, hga, _⟩ := (FA.keep G).form (by rw [fl_len ev_size]; omega)
        have ra := flat_range ev_size zrEv (FA.keep G) i (by omega)
        rw [hxa] at ra
        have q3 : (i : Int) < (k : Int) := by omega
        have q4 : ((i : Int) == (k : Int)) = false := by simp; omega
        have q5 : (i == k) = false := by simp; omega
        by_cases hjb : j < m
        · obtain ⟨gb, ob, rfl, hgb, _⟩ := (FB.keep G).form (by rw [fl_len ev_size]; omega)
          have rb := flat_range ev_size zrEv (FB.keep G) j (by omega)
          rw [hxb] at rb
          have q6 : (j : Int) < (m : Int) := by omega
          have cq := fun W : World => refEv_any xb xa W
          obtain ⟨bl, hbl⟩ : ∃ bl, evLt xb xa = bl := ⟨_, rfl⟩
          rw [hbl] at cq
          have HB : Hid (evLt xb xa = bl) := hbl
          have hne0 : Nonempty (Ext wr) := ⟨⟨_, Below.refl _ _⟩⟩
          have c4 : ∀ z : Ext wr, Calls Try.prog 34 #[.agg (evC xb), .agg (evC xa)] z.X (fun e w'' => e = .returned (.bool bl) ∧ ∃ m : Ext wr, w'' = m.X) := fun z => ext_of (cq z.X)
          clear cq hbl hxa hxb hla hlb hmg
          go_wp2
          refine wp_region_ext (by kernel_rfl) (by kernel_rfl) ?_
          repeat (first
            | (refine wpQuiet_load_mid rfl 30 (.tmp 51) rfl gb (ob + j * 11) rfl (evC xb) _ (fun X hX => by obtain ⟨nx, rfl⟩ := hX; exact rangeAt_keep rb nx.h) Try.underlying30 rfl infoEv _ rfl ?_; simp only [Act.put, List.setIfInBounds_toArray, List.set_cons_succ, List.set_cons_zero])
            | (refine wpQuiet_load_mid rfl 30 (.tmp 55) rfl ga (oa + i * 11) rfl (evC xa) _ (fun X hX => by obtain ⟨nx, rfl⟩ := hX; exact rangeAt_keep ra nx.h) Try.underlying30 rfl infoEv _ rfl ?_; simp only [Act.put, List.setIfInBounds_toArray, List.set_cons_succ, List.set_cons_zero])
            | go_big_quiet_step (first | (go_at_call 34; with_reducible exact c4 _)))
          refine wpQuiet_nil ?_
          intro _ hw'
          obtain ⟨nx, hw''⟩ := hw'
          subst hw''
          replace ra := rangeAt_keep ra nx.h
          replace rb := rangeAt_keep rb nx.h
          replace G := gtrans G nx.h
          replace O := own_keep O nx.h
          clear c4 hne0
          generalize nx.X = wq at *
          cases bl
          · have hbs := evBuildE xa wq
            have G10 := galloc (Below.refl wq.heap.size wq) (.cells (evC xa) 30)
            have bn := Bk.new wq (evC xa) 30
            have hnews := World.news_of_block bn
            generalize hWA : wq.alloc (.cells (evC xa) 30) = WA at *
            have OA := own_keep O G10
            have hbw : u2.heap.size ≤ WA.heap.size := Nat.le_trans G.size G10.size
            clear hWA
            go_wp2_with (first
              | (refine wpList_load_mid rfl 30 _ rfl ga (oa + i * 11) rfl (evC xa).toList _ ra Try.underlying30 rfl infoEv ?_; refine wpList_build1 rfl (.tmp 72) rfl rfl hbs ?_; refine wpList_append_one rfl (.tmp 68) (.tmp 73) rfl Try.underlying22 nfEv rfl (by decide) _ u2.heap.size (i + j) _ rfl OA hbw ⟨wq.heap.size, 0, none⟩ 1 (evC xa).toList rfl rfl hnews (ev_ones1 xa) (by omega) (by omega) ?_; intro gz cz w6 O6 G6 hg))
            go_roundw
            case rel =>
              have hxa : A.getD i zrEv = xa := HXA
              have hxb : B.getD j zrEv = xb := HXB
              have hla : A.length = k := HLA
              have hlb : B.length = m := HLB
              have hmg : os ++ mrgL evLt (A.drop i) (B.drop j) = mrgL evLt A B := HM
              refine ⟨⟨i + 1, j, os ++ [xa], by omega, by omega, by go_num, by go_num, by simp; omega, ?_, ?_, ?_⟩⟩
              · rw [← hmg, List.append_assoc]
                refine congrArg (os ++ ·) ?_
                rw [drop_cons A zrEv i (by omega), drop_cons B zrEv j (by omega), hxa, hxb, mrgL_no HB]
                rfl
              · rw [fl_app]
                have e9 : i + 1 + (j) = i + j + 1 := by omega
                rw [e9]
                simpa [fl] using O6
              · exact (gtrans G G10).grown G6 (by have := (gtrans G G10).size; omega) (fun kk e => (World.ownsRow.lt OA kk e).1)
            case measure => simp [intOf]; omega
          · have hbs := evBuildE xb wq
            have G10 := galloc (Below.refl wq.heap.size wq) (.cells (evC xb) 30)
            have bn := Bk.new wq (evC xb) 30
            have hnews := World.news_of_block bn
            generalize hWA : wq.alloc (.cells (evC xb) 30) = WA at *
            have OA := own_keep O G10
            have hbw : u2.heap.size ≤ WA.heap.size := Nat.le_trans G.size G10.size
            clear hWA
            go_wp2_with (first
              | (refine wpList_load_mid rfl 30 _ rfl gb (ob + j * 11) rfl (evC xb).toList _ rb Try.underlying30 rfl infoEv ?_; refine wpList_build1 rfl (.tmp 63) rfl rfl hbs ?_; refine wpList_append_one rfl (.tmp 59) (.tmp 64) rfl Try.underlying22 nfEv rfl (by decide) _ u2.heap.size (i + j) _ rfl OA hbw ⟨wq.heap.size, 0, none⟩ 1 (evC xb).toList rfl rfl hnews (ev_ones1 xb) (by omega) (by omega) ?_; intro gz cz w6 O6 G6 hg))
            go_roundw
            case rel =>
              have hxa : A.getD i zrEv = xa := HXA
              have hxb : B.getD j zrEv = xb := HXB
              have hla : A.length = k := HLA
              have hlb : B.length = m := HLB
              have hmg : os ++ mrgL evLt (A.drop i) (B.drop j) = mrgL evLt A B := HM
              refine ⟨⟨i, j + 1, os ++ [xb], by omega, by omega, by go_num, by go_num, by simp; omega, ?_, ?_, ?_⟩⟩
              · rw [← hmg, List.append_assoc]
                refine congrArg (os ++ ·) ?_
                rw [drop_cons A zrEv i (by omega), drop_cons B zrEv j (by omega), hxa, hxb, mrgL_yes HB]
                rfl
              · rw [fl_app]
                have e9 : i + (j + 1) = i + j + 1 := by omega
                rw [e9]
                simpa [fl] using O6
              · exact (gtrans G G10).grown G6 (by have := (gtrans G G10).size; omega) (fun kk e => (World.ownsRow.lt OA kk e).1)
            case measure => simp [intOf]; omega
        · have q6 : ¬ (j : Int) < (m : Int) := by omega
          clear hxa hxb hla hlb hmg
          have hbs := evBuildE xa wr
          have G10 := galloc (Below.refl wr.heap.size wr) (.cells (evC xa) 30)
          have bn := Bk.new wr (evC xa) 30
          have hnews := World.news_of_block bn
          generalize hWA : wr.alloc (.cells (evC xa) 30) = WA at *
          have OA := own_keep O G10
          have hbw : u2.heap.size ≤ WA.heap.size := Nat.le_trans G.size G10.size
          clear hWA
          go_wp2_with (first
            | (refine wpList_load_mid rfl 30 _ rfl ga (oa + i * 11) rfl (evC xa).toList _ ra Try.underlying30 rfl infoEv ?_; refine wpList_build1 rfl (.tmp 72) rfl rfl hbs ?_; refine wpList_append_one rfl (.tmp 68) (.tmp 73) rfl Try.underlying22 nfEv rfl (by decide) _ u2.heap.size (i + j) _ rfl OA hbw ⟨wr.heap.size, 0, none⟩ 1 (evC xa).toList rfl rfl hnews (ev_ones1 xa) (by omega) (by omega) ?_; intro gz cz w6 O6 G6 hg))
          go_roundw
          case rel =>
            have hxa : A.getD i zrEv = xa := HXA
            have hxb : B.getD j zrEv = xb := HXB
            have hla : A.length = k := HLA
            have hlb : B.length = m := HLB
            have hmg : os ++ mrgL evLt (A.drop i) (B.drop j) = mrgL evLt A B := HM
            refine ⟨⟨i + 1, j, os ++ [xa], by omega, by omega, by go_num, by go_num, by simp; omega, ?_, ?_, ?_⟩⟩
            · rw [← hmg, List.append_assoc]
              refine congrArg (os ++ ·) ?_
              rw [drop_cons A zrEv i (by omega), hxa]
              rw [List.drop_eq_nil_of_le (show B.length ≤ j by omega), mrgL_nil2, mrgL_nil2]
              rfl
            · rw [fl_app]
              have e9 : i + 1 + (j) = i + j + 1 := by omega
              rw [e9]
              simpa [fl] using O6
            · exact (gtrans G G10).grown G6 (by have := (gtrans G G10).size; omega) (fun kk e => (World.ownsRow.lt OA kk e).1)
          case measure => simp [intOf]; omega
      · have q3 : ¬ (i : Int) < (k : Int) := by omega
        have q4 : ((i : Int) == (k : Int)) = true := by simp; omega
        have q5 : (i == k) = true := by simp; omega
        by_cases hjb : j < m
        · obtain ⟨gb, ob, rfl, hgb, _⟩ := (FB.keep G).form (by rw [fl_len ev_size]; omega)
          have rb := flat_range ev_size zrEv (FB.keep G) j (by omega)
          rw [hxb] at rb
          have q6 : (j : Int) < (m : Int) := by omega
          clear hxa hxb hla hlb hmg
          have hbs := evBuildE xb wr
          have G10 := galloc (Below.refl wr.heap.size wr) (.cells (evC xb) 30)
          have bn := Bk.new wr (evC xb) 30
          have hnews := World.news_of_block bn
          generalize hWA : wr.alloc (.cells (evC xb) 30) = WA at *
          have OA := own_keep O G10
          have hbw : u2.heap.size ≤ WA.heap.size := Nat.le_trans G.size G10.size
          clear hWA
          go_wp2_with (first
            | (refine wpList_load_mid rfl 30 _ rfl gb (ob + j * 11) rfl (evC xb).toList _ rb Try.underlying30 rfl infoEv ?_; refine wpList_build1 rfl (.tmp 63) rfl rfl hbs ?_; refine wpList_append_one rfl (.tmp 59) (.tmp 64) rfl Try.underlying22 nfEv rfl (by decide) _ u2.heap.size (i + j) _ rfl OA hbw ⟨wr.heap.size, 0, none⟩ 1 (evC xb).toList rfl rfl hnews (ev_ones1 xb) (by omega) (by omega) ?_; intro gz cz w6 O6 G6 hg))
          go_roundw
          case rel =>
            have hxa : A.getD i zrEv = xa := HXA
            have hxb : B.getD j zrEv = xb := HXB
            have hla : A.length = k := HLA
            have hlb : B.length = m := HLB
            have hmg : os ++ mrgL evLt (A.drop i) (B.drop j) = mrgL evLt A B := HM
            refine ⟨⟨i, j + 1, os ++ [xb], by omega, by omega, by go_num, by go_num, by simp; omega, ?_, ?_, ?_⟩⟩
            · rw [← hmg, List.append_assoc]
              refine congrArg (os ++ ·) ?_
              rw [drop_cons B zrEv j (by omega), hxb]
              rw [List.drop_eq_nil_of_le (show A.length ≤ i by omega), mrgL_nil, mrgL_nil]
              rfl
            · rw [fl_app]
              have e9 : i + (j + 1) = i + j + 1 := by omega
              rw [e9]
              simpa [fl] using O6
            · exact (gtrans G G10).grown G6 (by have := (gtrans G G10).size; omega) (fun kk e => (World.ownsRow.lt OA kk e).1)
          case measure => simp [intOf]; omega
        · have q6 : ¬ (j : Int) < (m : Int) := by omega
          have eij : i + j = l.length := by omega
          have hz : srt evLt l = os := by
            have e0 : srt evLt l = mrgL evLt A B := HZ
            rw [e0, ← hmg, List.drop_eq_nil_of_le (by omega), List.drop_eq_nil_of_le (by omega), mrgL_nil, List.append_nil]
          rw [eij] at O
          obtain ⟨a, c, rfl, _⟩ := own_form O
          have HO : Hid (wr.ownsRow u2.heap.size 30 11 (.slice a l.length c) l.length (fl evC (srt evLt l))) := by rw [hz]; exact O
          clear hxa hxb hla hlb hmg O hz
          go_wp2
          go_ret
          exact ⟨a, c, rfl, own_mono HO (Nat.le_trans G1.size G2.size), gtrans (gtrans G1 G2) G⟩

end Go.Proofs.Ytoheombjbndolaa
