/- The document's Advance. -/
import Derived.Test.YtjfbbfmnghccdaaGra
namespace Go.Proofs.Ytjfbbfmnghccdaa
open Go.RowKit Go.BigFrame Go.Maps
set_option linter.unusedVariables false
set_option linter.unusedSimpArgs false

/-- At the head of the document's loop: two rows of one's own. -/
structure Ad2 (w : World) (m : Int) (l : List Ev) (vt vr vi : Value) (wr : World) : Prop where
  ex : ∃ (i : Nat) (at_ ar : Option Addr) (ct cr : Nat), i ≤ l.length ∧ vi = .int .i64 (i : Int) ∧ vt = .slice at_ ((l.take i).filter (atM m)).length ct ∧ vr = .slice ar ((l.take i).filter (fun e => !atM m e)).length cr ∧
    wr.ownsRow w.heap.size 29 11 (.slice at_ ((l.take i).filter (atM m)).length ct) ((l.take i).filter (atM m)).length (fl evC ((l.take i).filter (atM m))) ∧
    wr.ownsRow w.heap.size 29 11 (.slice ar ((l.take i).filter (fun e => !atM m e)).length cr) ((l.take i).filter (fun e => !atM m e)).length (fl evC ((l.take i).filter (fun e => !atM m e))) ∧
    (∀ k, (Value.slice at_ ((l.take i).filter (atM m)).length ct).ownBlock = some k → (Value.slice ar ((l.take i).filter (fun e => !atM m e)).length cr).ownBlock ≠ some k) ∧ Below w.heap.size w wr
set_option maxRecDepth 100000 in
set_option maxHeartbeats 4000000 in
theorem refAdvance (mb : Nat) (s : Gs) (m : Int) (w : World) (M : Mog w mb s) (hs : s.ok) : Calls Try.prog 64 #[.pointer (some ⟨mb, 0, none⟩), .int .i64 m] w fun e w' => ∃ ao cp, e = .returned (.tuple #[.slice ao (s.advL m).length cp, .int .i64 (s.advC m)]) ∧ TelM mb w (s.adv m) (s.advL m) ao cp w' := by
  obtain ⟨ao, cap, b, hsl, F, ht⟩ := id M
  have c3 := b.at4.2.2.2
  have c2 := b.at4.2.2.1
  have c1 := b.at4.2.1
  have hl := hs.len'
  have no : ∀ c : Int, c ≠ 0 → s.advC m = c → s.advL m = [] ∧ s.adv m = s := fun c hc e => by
    unfold Gs.advL Gs.adv
    rw [e, if_neg hc, if_neg hc]
    exact ⟨rfl, rfl⟩
  cases hc : s.cl with
  | true =>
    have eC : s.advC m = 101 := by unfold Gs.advC; rw [if_pos hc]
    obtain ⟨e1, e2⟩ := no 101 (by decide) eC
    rw [eC, e1, e2]
    rw [hc] at c2
    clear eC e1 e2 no
    go_enter Try.func64, Try.ntmps64
    go_wp2
    go_ret2
    exact ⟨none, 0, rfl, ⟨Nat.le_refl _, fun _ => ⟨rfl, rfl⟩⟩, Flat.nil _ _, M, Frm.refl _ _⟩
  | false =>
    rw [hc] at c2
    by_cases h1 : m < -1152921504606846976 ∨ 1152921504606846976 < m
    · have eC : s.advC m = 106 := by unfold Gs.advC; rw [if_neg (by rw [hc]; decide), if_pos h1]
      obtain ⟨e1, e2⟩ := no 106 (by decide) eC
      rw [eC, e1, e2]
      clear eC e1 e2 no
      by_cases h1a : m < -1152921504606846976
      · clear h1
        go_enter Try.func64, Try.ntmps64
        go_wp2
        go_ret2
        exact ⟨none, 0, rfl, ⟨Nat.le_refl _, fun _ => ⟨rfl, rfl⟩⟩, Flat.nil _ _, M, Frm.refl _ _⟩
      · have h1b : 1152921504606846976 < m := by omega
        clear h1
        go_enter Try.func64, Try.ntmps64
        go_wp2
        go_ret2
        exact ⟨none, 0, rfl, ⟨Nat.le_refl _, fun _ => ⟨rfl, rfl⟩⟩, Flat.nil _ _, M, Frm.refl _ _⟩
    have h1a : -1152921504606846976 ≤ m := by omega
    have h1b : m ≤ 1152921504606846976 := by omega
    by_cases h2 : m < s.mark
    · have eC : s.advC m = 105 := by unfold Gs.advC; rw [if_neg (by rw [hc]; decide), if_neg h1, if_pos h2]
      obtain ⟨e1, e2⟩ := no 105 (by decide) eC
      rw [eC, e1, e2]
      clear eC e1 e2 no h1
      go_enter Try.func64, Try.ntmps64
      go_wp2
      go_ret2
      exact ⟨none, 0, rfl, ⟨Nat.le_refl _, fun _ => ⟨rfl, rfl⟩⟩, Flat.nil _ _, M, Frm.refl _ _⟩
    have eC : s.advC m = 0 := by unfold Gs.advC; rw [if_neg (by rw [hc]; decide), if_neg h1, if_neg h2]
    have e1 : s.advL m = s.l.takeWhile (atM m) := by unfold Gs.advL; rw [if_pos eC]
    have e2 : s.adv m = { s with mark := m, l := s.l.dropWhile (atM m) } := by unfold Gs.adv; rw [if_pos eC]
    obtain ⟨f1, f2⟩ := filt_take (m := m) hs.ris
    rw [eC, e1, e2, ← f1, ← f2]
    have h2' : s.mark ≤ m := by omega
    clear eC e1 e2 no h1 h2 f1 f2
    go_enter Try.func64, Try.ntmps64
    go_upto_region 10 with fail
    go_loopw [6, 7, 8] (fun vt vr vi wr => Ad2 w m s.l vt vr vi wr) (fun _ _ vi _ => s.l.length - (intOf vi).toNat)
    case atStart => exact ⟨0, none, none, 0, 0, Nat.zero_le _, rfl, rfl, rfl, World.ownsRow_nil _ _ _ _, World.ownsRow_nil _ _ _ _, fun k e => by simp [Value.ownBlock] at e, Below.refl _ _⟩
    case round =>
      obtain ⟨i, at_, ar, ct, cr, hi, rfl, rfl, rfl, Ot, Or, ap, B⟩ := hrel
      have bR := b.keep B
      have d3 := bR.at4.2.2.2
      have hlt1 : ((s.l.take i).filter (atM m)).length ≤ 4096 := Nat.le_trans (List.length_filter_le _ _) (by rw [List.length_take]; omega)
      have hlt2 : ((s.l.take i).filter (fun e => !atM m e)).length ≤ 4096 := Nat.le_trans (List.length_filter_le _ _) (by rw [List.length_take]; omega)
      by_cases hlt : i < s.l.length
      · obtain ⟨g, o, rfl, hgl, _⟩ := (F.keep B).form (by rw [fl_len ev_size]; omega)
        have rx := flat_range ev_size zrEv (F.keep B) i hlt
        have hsn := take_snoc s.l zrEv i hlt
        have s1 := filter_snoc (p := atM m) (s.l.take i) (s.l.getD i zrEv)
        have s2 := filter_snoc (p := fun e => !atM m e) (s.l.take i) (s.l.getD i zrEv)
        rw [← hsn] at s1 s2
        generalize s.l.getD i zrEv = x at *
        have q1 : (i : Int) < (s.l.length : Int) := by omega
        have dts : wr.cell? ⟨g, o + i * 11, none⟩ = some (.int .i64 x.ts) := by have := rx 0 _ rfl; simpa using this
        have hbs := evBuildE x wr
        have bn := Bk.new wr (evC x) 29
        have hnews := World.news_of_block bn
        have hA := galloc (Below.refl wr.heap.size wr) (.cells (evC x) 29)
        have OtA := Ot.alloc (.cells (evC x) 29)
        have OrA := Or.alloc (.cells (evC x) 29)
        have hza : (wr.alloc (.cells (evC x) 29)).heap.size = wr.heap.size + 1 := Array.size_push _
        generalize hWA : wr.alloc (.cells (evC x) 29) = WA at *
        have BA := gtrans B hA
        have HT : Hid (i < s.l.length) := hlt
        have HZ : Hid (WA.heap.size = wr.heap.size + 1) := hza
        clear hlt hsn bn hza
        by_cases hm : x.ts ≤ m
        · have hmB : atM m x = true := decide_eq_true hm
          have HS1 : Hid ((s.l.take (i + 1)).filter (atM m) = (s.l.take i).filter (atM m) ++ [x]) := by rw [if_pos hmB] at s1; exact s1
          have HS2 : Hid ((s.l.take (i + 1)).filter (fun e => !atM m e) = (s.l.take i).filter (fun e => !atM m e)) := by rw [if_neg (by simp [hmB]), List.append_nil] at s2; exact s2
          have hb1 : Hid ((((s.l.take i).filter (atM m)).length + 1) + (((s.l.take i).filter (atM m)).length + 1) / 4 + 192 ≤ 100000) := by unfold Hid; omega
          have hb2 : Hid (((((s.l.take i).filter (atM m)).length + 1) + (((s.l.take i).filter (atM m)).length + 1) / 4 + 192) * 88 ≤ 281474976710656) := tiny_room (by omega)
          have hb3 : Hid (((s.l.take i).filter (atM m)).length + 1 ≤ 9223372036854775807) := by unfold Hid; omega
          generalize (s.l.take i).filter (atM m) = L1 at *
          generalize (s.l.take i).filter (fun e => !atM m e) = L2 at *
          clear s1 s2 hWA hb1
          go_wp2_with (first
            | (refine wpList_load_mid rfl 29 _ rfl g (o + i * 11) rfl (evC x).toList _ rx Try.underlying29 rfl infoEv ?_; refine wpList_build1 rfl (.tmp 54) rfl rfl hbs ?_; refine wpList_append_one rfl (.tmp 47) (.tmp 55) rfl Try.underlying22 nfEv rfl (by decide) (.slice at_ L1.length ct) w.heap.size L1.length _ rfl OtA BA.size ⟨wr.heap.size, 0, none⟩ 1 (evC x).toList rfl rfl hnews (ev_ones1 x) hb3.out hb2.out ?_; intro g8 cap8 w8 O8 Q8 L8))
          go_roundw
          case rel =>
            have hlt : i < s.l.length := HT
            have hz1 : (L1 ++ [x]).length = L1.length + 1 := by simp
            refine ⟨i + 1, some ⟨g8, 0, none⟩, ar, cap8, cr, by omega, by go_num, by rw [HS1.out, hz1], by rw [HS2.out], ?_, ?_, ?_, BA.grown Q8 BA.size fun k e => (World.ownsRow.lt OtA k e).1⟩
            · rw [HS1.out, hz1, fl_app]; simpa [fl] using O8
            · rw [HS2.out]; exact own_same OrA fun k e => Q8.block k (World.ownsRow.lt OrA k e).2 fun e' => ap k e'.symm e
            · rw [HS1.out, HS2.out, hz1]
              intro k e
              have : g8 = k := by simpa [Value.ownBlock] using e
              subst this
              rcases L8 with h | h
              · exact ap _ h
              · intro e2
                have := (World.ownsRow.lt Or g8 e2).2
                have := HZ.out
                omega
          case measure => have hlt : i < s.l.length := HT; simp [intOf]; omega
        · have hm' : decide (x.ts ≤ m) = false := decide_eq_false hm
          have hmB : ¬ atM m x = true := fun e => hm (of_decide_eq_true e)
          have HS1 : Hid ((s.l.take (i + 1)).filter (atM m) = (s.l.take i).filter (atM m)) := by rw [if_neg hmB, List.append_nil] at s1; exact s1
          have HS2 : Hid ((s.l.take (i + 1)).filter (fun e => !atM m e) = (s.l.take i).filter (fun e => !atM m e) ++ [x]) := by rw [if_pos (by simpa using hmB)] at s2; exact s2
          have hb2 : Hid (((((s.l.take i).filter (fun e => !atM m e)).length + 1) + (((s.l.take i).filter (fun e => !atM m e)).length + 1) / 4 + 192) * 88 ≤ 281474976710656) := tiny_room (by omega)
          have hb3 : Hid (((s.l.take i).filter (fun e => !atM m e)).length + 1 ≤ 9223372036854775807) := by unfold Hid; omega
          generalize (s.l.take i).filter (atM m) = L1 at *
          generalize (s.l.take i).filter (fun e => !atM m e) = L2 at *
          clear s1 s2 hWA hm
          go_wp2_with (first
            | (refine wpList_load_mid rfl 29 _ rfl g (o + i * 11) rfl (evC x).toList _ rx Try.underlying29 rfl infoEv ?_; refine wpList_build1 rfl (.tmp 64) rfl rfl hbs ?_; refine wpList_append_one rfl (.tmp 57) (.tmp 65) rfl Try.underlying22 nfEv rfl (by decide) (.slice ar L2.length cr) w.heap.size L2.length _ rfl OrA BA.size ⟨wr.heap.size, 0, none⟩ 1 (evC x).toList rfl rfl hnews (ev_ones1 x) hb3.out hb2.out ?_; intro g8 cap8 w8 O8 Q8 L8))
          go_roundw
          case rel =>
            have hlt : i < s.l.length := HT
            have hz1 : (L2 ++ [x]).length = L2.length + 1 := by simp
            refine ⟨i + 1, at_, some ⟨g8, 0, none⟩, ct, cap8, by omega, by go_num, by rw [HS1.out], by rw [HS2.out, hz1], ?_, ?_, ?_, BA.grown Q8 BA.size fun k e => (World.ownsRow.lt OrA k e).1⟩
            · rw [HS1.out]; exact own_same OtA fun k e => Q8.block k (World.ownsRow.lt OtA k e).2 fun e' => ap k e e'.symm
            · rw [HS2.out, hz1, fl_app]; simpa [fl] using O8
            · rw [HS1.out, HS2.out, hz1]
              intro k e e2
              have : g8 = k := by simpa [Value.ownBlock] using e2
              subst this
              rcases L8 with h | h
              · exact ap _ e h
              · have := (World.ownsRow.lt Ot g8 e).2
                have := HZ.out
                omega
          case measure => have hlt : i < s.l.length := HT; simp [intOf]; omega
      · obtain rfl : i = s.l.length := by omega
        rw [List.take_length] at Ot Or ⊢
        rw [List.take_length] at ap
        have d1 := bR.at4.2.1
        have fr1 := bR.free 1
        have fr3 := bR.free 3
        have hF : Frm (fun k => k = mb) w ((wr.setCell ⟨mb, 1, none⟩ (.int .i64 m)).setCell ⟨mb, 3, none⟩ (.slice ar (s.l.filter (fun e => !atM m e)).length cr)) := ⟨B.os, B.tape, B.output, by simpa using B.size, fun k hk hn => by rw [Below.heap_setCell _ _ _ k (by exact hn), Below.heap_setCell _ _ _ k (by exact hn), B.block k hk]⟩
        have Ot2 := ty_set (ty_set Ot bR (by decide) 1 (.int .i64 m)) (bR.set 1 (.int .i64 m)) (by decide) 3 (.slice ar (s.l.filter (fun e => !atM m e)).length cr)
        have Or2 := ty_set (ty_set Or bR (by decide) 1 (.int .i64 m)) (bR.set 1 (.int .i64 m)) (by decide) 3 (.slice ar (s.l.filter (fun e => !atM m e)).length cr)
        have b8 := (bR.set 1 (.int .i64 m)).set 3 (.slice ar (s.l.filter (fun e => !atM m e)).length cr)
        have HP : Hid (TelM mb w { s with mark := m, l := s.l.filter (fun e => !atM m e) } (s.l.filter (atM m)) at_ ct ((wr.setCell ⟨mb, 1, none⟩ (.int .i64 m)).setCell ⟨mb, 3, none⟩ (.slice ar (s.l.filter (fun e => !atM m e)).length cr))) := ⟨own_sl Ot2, own_flat Ot2, ⟨ar, cr, b8, own_sl Or2, own_flat Or2, fun b o e => by
          rcases Or2.2 with ⟨h1, _⟩ | ⟨g1, c1, cur1, h1, _, hh1, _⟩
          · simp only [Value.slice.injEq] at h1
            rw [h1.1] at e
            cases e
          · simp only [Value.slice.injEq] at h1
            rw [h1.1] at e
            cases e
            exact ⟨_, _, hh1⟩⟩, hF⟩
        clear hlt Ot Or ap hF Ot2 Or2 b8 hlt1 hlt2
        go_wp2
        go_ret2
        exact ⟨at_, ct, rfl, HP⟩

end Go.Proofs.Ytjfbbfmnghccdaa
