/- The document's Lex. -/
import Derived.Test.YtlcmfefcammklaaDoorRr6
namespace Go.Proofs.YtlcmfefcammklaaDoor
open Go.RowKit Go.BigFrame
set_option linter.unusedVariables false
set_option linter.unusedSimpArgs false

theorem lexO_ref (s : ByteArray) : lexO s = if 8192 < s.size then ([], 30, 8192) else fin (refA s 0 []) := by
  unfold lexO
  rw [lex_ref]
theorem endN_le (s : ByteArray) (i : Nat) (hi : i < s.size) : i < endN s i ∧ endN s i ≤ s.size := by
  have hr : ∀ n p, p + n = s.size → p ≤ rolE s p ∧ rolE s p ≤ s.size := by
    intro n
    induction n with
    | zero => intro p hp; rw [rolE_stop (.inl (by omega))]; omega
    | succ n ih =>
      intro p hp
      by_cases h : roleI s p = 1
      · rw [rolE_on (by omega) h]
        have := ih (p + 1) (by omega)
        omega
      · rw [rolE_stop (.inr h)]; omega
  have hj : i < endJ s i ∧ endJ s i ≤ s.size := by
    unfold endJ
    split
    · have := hr (s.size - (i + 1)) (i + 1) (by omega)
      omega
    · omega
  unfold endN
  split
  · rename_i h; omega
  · omega

theorem new4p (w : World) (t : Tok) (j : Nat) (u : Value) (h : (tokA t).toList[j]? = some u) : (w.alloc (.cells (tokA t) 30)).cell? ((⟨w.heap.size, 0, none⟩ : Addr).add j) = some u := new4 w t j u h
theorem one_tok (t : Tok) : ∀ u ∈ (tokA t).toList, u.oneCell' = true := by
  intro u hu
  simp [tokA] at hu
  rcases hu with rfl | rfl | rfl | rfl <;> rfl
set_option maxRecDepth 100000 in
set_option maxHeartbeats 8000000 in
theorem refLex_any (s : ByteArray) (hs0 : s.size ≤ 9223372036854775807) (w : World) (K : SrAt w) (Kr : KrAt w) :
    Calls Tryd.prog 18 #[.string s] w fun e w' => ∃ v, e = .returned (.tuple #[v, .int .i64 (lexO s).2.1, .int .i64 ((lexO s).2.2 : Int)]) ∧ w'.ownsRow w.heap.size 30 4 v (lexO s).1.length (toksV (lexO s).1) ∧ Below w.heap.size w w' := by
  obtain ⟨z, hz⟩ : ∃ z, z = lexO s := ⟨_, rfl⟩
  rw [← hz]
  have HZ : Hid (z = lexO s) := hz
  clear hz
  by_cases hbig : 8192 < s.size
  · have he : Hid (z = ([], 30, 8192)) := by show _ = _; rw [HZ.out]; exact if_pos hbig
    have h1 : (8192 : Int) < (s.size : Int) := by omega
    clear HZ
    go_enter Tryd.func18, Tryd.ntmps18
    go_wp2
    go_ret3
    exact ⟨_, by rw [he.out]; rfl, by rw [he.out]; exact World.ownsRow_nil _ _ _ _, Below.refl _ _⟩
  have hs : s.size ≤ 8192 := by omega
  have he : Hid (z = fin (refA s 0 [])) := by show _ = _; rw [HZ.out, lexO_ref]; exact if_neg hbig
  clear HZ
  obtain ⟨i3, ti, tz0, tz1, tz2⟩ := info_partsTk
  have cR := refRoles_any s hs w K
  obtain ⟨n, hn⟩ : ∃ n, s.size = n := ⟨_, rfl⟩
  rw [hn] at cR
  have h1 : (n : Int) ≤ 8192 := by omega
  go_enter Tryd.func18, Tryd.ntmps18
  go_wp2_with (go_at_call 24; with_reducible refine cR.mono ?_; rintro e u ⟨g, rfl, hg, R, G⟩)
  replace K := K.keep G
  replace Kr := Kr.keep G
  have hgl := R.lt
  clear cR
  go_loopw [6, 7] (fun ov iv wr => ∃ k : Nat, k ≤ n ∧ iv = .int .i64 k ∧ ∃ ts, wr.ownsRow u.heap.size 30 4 ov ts.length (toksV ts) ∧ ts.length ≤ 400 ∧ refA s 0 [] = refA s k ts ∧ Below u.heap.size u wr) (fun _ iv _ => n - (intOf iv).toNat)
  case atStart => exact ⟨0, Nat.zero_le _, rfl, [], World.ownsRow_nil _ _ _ _, by simp, rfl, Below.refl _ _⟩
  case round =>
    obtain ⟨k, hk, rfl, ts, O, hl4, hA, G1⟩ := hrel
    obtain ⟨ao, cap, rfl⟩ := own_shape O
    by_cases hlt : k < n
    · have R1 := row_keep R G1
      have R2 : wr.rowIs g 3 s.size (rolV s) := by rw [hn]; exact R1
      have c1 := refStarts_any s hs g k (by omega) wr R2
      have hst := refA_step s k ts (by omega)
      rw [hn] at c1
      cases hb : staB s k
      · rw [hb] at c1
        rw [if_pos hb] at hst
        go_wp2_with (go_at_call 25; with_reducible refine c1.mono ?_; rintro e u5 ⟨rfl, rfl⟩)
        go_roundw
        case rel => exact ⟨k + 1, by omega, by go_num, ts, O, hl4, hA.trans hst, G1⟩
        case measure => simp [intOf]; omega
      · rw [hb] at c1
        rw [if_neg (by rw [hb]; simp)] at hst
        have c2 := refEnds_any s hs g k (by omega) wr R2
        obtain ⟨hE1, hE2⟩ := endN_le s k (by omega)
        have r1 := R1.cell (i := k) (by omega)
        unfold rolV at r1
        have r1a := fun o => (R1.alloc o).cell (i := k) (by omega)
        unfold rolV at r1a
        have hxs : (s.extract k (endN s k)).size = endN s k - k := by rw [ByteArray.size_extract]; omega
        have c3 := fun X (hX : Below wr.heap.size wr X) => refToken_any (s.extract k (endN s k)) (roleI s k) k (by omega) (by omega) (by omega) X ((K.keep G1).keep hX) ((Kr.keep G1).keep hX)
        replace c3 : ∀ X, Below wr.heap.size wr X → Calls Tryd.prog 27 #[.string (s.extract k (endN s k)), .int .i64 (roleI s k), .int .i64 (k : Int)] X fun e w' => e = .returned (.tuple #[.agg (tokA (refT s k).1), .int .i64 (refT s k).2]) ∧ Below X.heap.size X w' := c3
        rw [hn] at c2 hE2
        generalize endN s k = E at *
        generalize roleI s k = ro at *
        generalize refT s k = tk at *
        obtain ⟨t, ec⟩ := tk
        dsimp only at c3 hst
        replace c3 : ∀ X, Below wr.heap.size wr X → Calls Tryd.prog 27 #[.string (s.extract k E), .int .i64 ro, .int .i64 (k : Int)] X fun e w' => e = .returned (.tuple #[.agg #[.int .i64 t.k, .string t.t, .int .i64 t.n, .int .i64 t.a], .int .i64 ec]) ∧ Below X.heap.size X w' := c3
        have hE2' : (E : Int) ≤ (s.size : Int) := by omega
        have hE1' : (k : Int) ≤ (E : Int) := by omega
        go_wp2_with (first
          | (go_at_call 25; with_reducible refine c1.mono ?_; rintro e u5 ⟨rfl, rfl⟩)
          | (go_at_call 26; with_reducible refine c2.mono ?_; rintro e u5 ⟨rfl, rfl⟩)
          | fail)
        go_region_with (go_at_call 27; with_reducible refine (c3 _ ?_).mono ?_; (first | exact (Below.refl _ _).drew | exact (galloc (Below.refl _ _) _).drew | exact galloc (Below.refl _ _).drew _); rintro e y6 ⟨rfl, G6⟩; obtain ⟨bc, bf⟩ := bcell G6)
        all_goals
          clear c1 c2 c3
          first
          | (have T7 : TokAt ((((y6.setCell ⟨wr.heap.size, 0, none⟩ (.int .i64 t.k)).setCell ⟨wr.heap.size, 1, none⟩ (.string t.t)).setCell ⟨wr.heap.size, 2, none⟩ (.int .i64 t.n)).setCell ⟨wr.heap.size, 3, none⟩ (.int .i64 t.a)) wr.heap.size t := TokAt.set4 (TokAt.keep (w := (wr.alloc (.cells (tokA noTok) 30)).drew) (TokAt.new wr noTok) G6) _ _ _ _
             have G7 : Below wr.heap.size wr ((((y6.setCell ⟨wr.heap.size, 0, none⟩ (.int .i64 t.k)).setCell ⟨wr.heap.size, 1, none⟩ (.string t.t)).setCell ⟨wr.heap.size, 2, none⟩ (.int .i64 t.n)).setCell ⟨wr.heap.size, 3, none⟩ (.int .i64 t.a)) := set4B (gtrans (galloc (Below.refl _ _) _).drew G6) _ _ _ _
             clear bc bf
             generalize ((((y6.setCell ⟨wr.heap.size, 0, none⟩ (.int .i64 t.k)).setCell ⟨wr.heap.size, 1, none⟩ (.string t.t)).setCell ⟨wr.heap.size, 2, none⟩ (.int .i64 t.n)).setCell ⟨wr.heap.size, 3, none⟩ (.int .i64 t.a)) = V at T7 G7 ⊢)
          | (have T7 : TokAt (y6.alloc (.cells #[.int .i64 t.k, .string t.t, .int .i64 t.n, .int .i64 t.a] 30)) y6.heap.size t := TokAt.new y6 t
             have G7 : Below wr.heap.size wr (y6.alloc (.cells #[.int .i64 t.k, .string t.t, .int .i64 t.n, .int .i64 t.a] 30)) := galloc (gtrans (Below.refl _ _).drew G6) _
             clear bc bf
             generalize (y6.alloc (.cells #[.int .i64 t.k, .string t.t, .int .i64 t.n, .int .i64 t.a] 30)) = V at T7 G7 ⊢)
          have O7 := own_keep O G7
          obtain ⟨t0, t1, t2, t3⟩ := T7.at
          have tf := T7.free
          by_cases hec : ec = 0
          · subst hec
            rw [if_neg (show ¬ (0 : Int) ≠ 0 by decide)] at hst
            by_cases h400 : ts.length = 400
            · rw [if_pos h400] at hst
              rw [h400]
              have hfin : Hid (z = ([], 34, k)) := by show _ = _; rw [he.out, hA, hst]; rfl
              clear O O7
              go_wp2
              go_ret3
              exact ⟨_, by rw [hfin.out]; rfl, by rw [hfin.out]; exact World.ownsRow_nil _ _ _ _, gtrans G (gtrans G1 G7)⟩
            · rw [if_neg h400] at hst
              have h4f : ((ts.length : Int) == 400) = false := by simp; omega
              have G8 := gtrans G1 G7
              have hsz8 := G8.size
              clear O
              go_wp2_with (at_builtin; refine wpList_append_own _ rfl (.tmp 57) (.tmp 59) 24 rfl u.heap.size 30 i3 (.agg (tokA noTok)) 4 40 Tryd.underlying24 ti tz0 tz1 tz2 rfl (by decide) _ _ _ rfl (O7.alloc _) ⟨V.heap.size, 0, none⟩ 1 1 (tokA t).toList (by go_num) rfl (new4p V t) (one_tok t) ?c3 ?c4 ?c5 ?_)
              case c3 => unfold maxLen; omega
              case c4 => omega
              case c5 => simp; omega
              intro v' w1 hown' hgrow _
              have hown2 : w1.ownsRow u.heap.size 30 4 v' (ts ++ [t]).length (toksV (ts ++ [t])) := by
                rw [show toksV (ts ++ [t]) = toksV ts ++ (tokA t).toList by simp [toksV], List.length_append]
                exact hown'
              have G9 : Below u.heap.size u w1 := (G8.alloc hsz8 _).grown hgrow (by simp; omega) (fun r e => (O7.lt _ e).1)
              clear hown' hgrow O7
              go_wp2
              go_roundw
              case rel => exact ⟨k + 1, by omega, by go_num, ts ++ [t], hown2, by rw [List.length_append]; show ts.length + 1 ≤ 400; omega, hA.trans hst, G9⟩
              case measure => simp [intOf]; omega
          · have hec2 : (ec == 0) = false := by simpa using hec
            have hec3 : (ec != 0) = true := by simpa using hec
            rw [if_pos hec] at hst
            have hfin : Hid (z = ([], ec, k)) := by show _ = _; rw [he.out, hA, hst]; unfold fin; rw [if_pos hec]
            clear O O7
            go_wp2
            go_ret3
            exact ⟨_, by rw [hfin.out]; rfl, by rw [hfin.out]; exact World.ownsRow_nil _ _ _ _, gtrans G (gtrans G1 G7)⟩
    · obtain rfl : k = n := by omega
      go_wp2
      go_ret3
      have hfin : z = (ts, 0, 0) := by rw [he.out, hA, refA_end s _ _ (by omega)]; rfl
      exact ⟨_, by rw [hfin]; rfl, by rw [hfin]; exact own_mono O G.size, gtrans G G1⟩

end Go.Proofs.YtlcmfefcammklaaDoor
