/- The document's Restore. -/
import Derived.Test.YtjfbbfmnghccdaaGrc
namespace Go.Proofs.Ytjfbbfmnghccdaa
open Go.RowKit Go.BigFrame Go.Maps
set_option linter.unusedVariables false
set_option linter.unusedSimpArgs false

theorem ris_snoc {l : List Ev} {x : Ev} (h : l.Pairwise fun a b => evLt a b = true) (h3 : 0 < l.length → evLt (l.getD (l.length - 1) zrEv) x = true) : (l ++ [x]).Pairwise fun a b => evLt a b = true := by
  refine List.pairwise_append.2 ⟨h, List.pairwise_singleton _ _, fun a ha b hb => ?_⟩
  rw [List.mem_singleton.1 hb]
  have h0 : 0 < l.length := List.length_pos_of_mem ha
  obtain ⟨i, hi, rfl⟩ := List.getElem_of_mem ha
  have h4 := h3 h0
  rw [getD_of_lt l _ (by omega)] at h4
  by_cases e : i = l.length - 1
  · subst e; exact h4
  · exact evLt_swo.trans (List.pairwise_iff_getElem.1 h i (l.length - 1) hi (by omega) (by omega)) h4
/-- What the document's rising answers. -/
structure RisP (l : List Ev) (w : World) (e : Ending) (w' : World) : Prop where
  ex : ∃ bv : Bool, e = .returned (.bool bv) ∧ (bv = true ↔ l.Pairwise fun a b => evLt a b = true) ∧ Below w.heap.size w w'
set_option maxRecDepth 100000 in
set_option maxHeartbeats 4000000 in
theorem rising_any (ao : Option Addr) (cap : Nat) (l : List Ev) (w : World) (F : Flat w ao (fl evC l)) (hl : l.length ≤ 9000000000000000000) :
    Calls Try.prog 62 #[.slice ao l.length cap] w fun e w' => RisP l w e w' := by
  go_enter Try.func62, Try.ntmps62
  go_upto_region 2 with fail
  go_loopw [3] (fun vi wr => ∃ j : Nat, j ≤ l.length ∧ vi = .int .i64 ((j + 1 : Nat) : Int) ∧ (l.take (j + 1)).Pairwise (fun a b => evLt a b = true) ∧ Below w.heap.size w wr) (fun vi _ => l.length + 1 - (intOf vi).toNat)
  case atStart =>
    refine ⟨0, Nat.zero_le _, rfl, ?_, Below.refl _ _⟩
    cases l with
    | nil => exact List.Pairwise.nil
    | cons y l => exact List.pairwise_singleton _ _
  case round =>
    obtain ⟨j, hi, rfl, C, B⟩ := hrel
    by_cases hlt : j + 1 < l.length
    · obtain ⟨g, o, rfl, hgl, _⟩ := (F.keep B).form (by rw [fl_len ev_size]; omega)
      have rx := flat_range ev_size zrEv (F.keep B) (j + 1) hlt
      have ry := flat_range ev_size zrEv (F.keep B) j (by omega)
      have hsn := take_snoc l zrEv (j + 1) hlt
      have hti : (l.take (j + 1)).length = j + 1 := by rw [List.length_take]; omega
      have hyj : (l.take (j + 1)).getD j zrEv = l.getD j zrEv := by rw [List.getD_eq_getElem?_getD, List.getElem?_take, if_pos (by omega), ← List.getD_eq_getElem?_getD]
      have HG : Hid (evLt (l.getD j zrEv) (l.getD (j + 1) zrEv) = true → (l.take (j + 1 + 1)).Pairwise fun a b => evLt a b = true) := fun h => by
        rw [hsn]
        refine ris_snoc C fun _ => ?_
        rw [hti, Nat.add_sub_cancel, hyj]
        exact h
      have HB : Hid (evLt (l.getD j zrEv) (l.getD (j + 1) zrEv) = false → ¬ l.Pairwise fun a b => evLt a b = true) := fun h c => by
        have := List.pairwise_iff_getElem.1 c j (j + 1) (by omega) hlt (by omega)
        rw [← getD_of_lt l j (by omega) (z := zrEv), ← getD_of_lt l (j + 1) hlt (z := zrEv), h] at this
        cases this
      generalize l.getD (j + 1) zrEv = x at *
      generalize l.getD j zrEv = y at *
      have q1 : ((j + 1 : Nat) : Int) < (l.length : Int) := by omega
      have ej : ((j + 1 : Nat) : Int) - 1 = (j : Int) := by omega
      have ej3 : (j : Int) < (l.length : Int) := by omega
      have hne0 : Nonempty (Ext wr) := ⟨⟨_, Below.refl _ _⟩⟩
      obtain ⟨bb, hbb⟩ : ∃ bb, evLt y x = bb := ⟨_, rfl⟩
      have c1 : ∀ z : Ext wr, Calls Try.prog 81 #[.agg (evC y), .agg (evC x)] z.X (fun e w'' => e = .returned (.bool bb) ∧ ∃ m : Ext wr, w'' = m.X) := fun z => ext_of (by have := refBefG_any y x z.X; rw [hbb] at this; exact this)
      have HBB : Hid (evLt y x = bb) := hbb
      have HT : Hid (j + 1 < l.length) := hlt
      clear hlt hbb hsn hti hyj C
      go_upto_region 4 with fail
      refine wp_region_ext (by kernel_rfl) (by kernel_rfl) ?_
      repeat (first
        | (refine wpQuiet_load_mid rfl 29 (.tmp 13) rfl g (o + j * 11) rfl (evC y) _ (fun X hX => by obtain ⟨nx, rfl⟩ := hX; exact rangeAt_keep ry nx.h) Try.underlying29 rfl infoEv _ rfl ?_; simp only [Act.put, List.setIfInBounds_toArray, List.set_cons_succ, List.set_cons_zero])
        | (refine wpQuiet_load_mid rfl 29 (.tmp 17) rfl g (o + (j + 1) * 11) rfl (evC x) _ (fun X hX => by obtain ⟨nx, rfl⟩ := hX; exact rangeAt_keep rx nx.h) Try.underlying29 rfl infoEv _ rfl ?_; simp only [Act.put, List.setIfInBounds_toArray, List.set_cons_succ, List.set_cons_zero])
        | go_big_quiet_step (first | (go_at_call 81; with_reducible exact c1 _)))
      refine wpQuiet_nil ?_
      intro _ hw'
      obtain ⟨n1, hw''⟩ := hw'
      subst hw''
      cases bb with
      | true =>
        go_wp2
        go_roundw
        case rel => have hlt : j + 1 < l.length := HT; exact ⟨j + 1, by omega, by go_num, HG.out HBB.out, gtrans B n1.h⟩
        case measure => have hlt : j + 1 < l.length := HT; simp [intOf]; omega
      | false =>
        go_wp2
        go_ret
        exact ⟨false, rfl, ⟨(fun h => by cases h), fun c => absurd c (HB.out HBB.out)⟩, gtrans B n1.h⟩
    · have q1 : ¬ ((j + 1 : Nat) : Int) < (l.length : Int) := by omega
      have hC : l.Pairwise fun a b => evLt a b = true := by rw [List.take_of_length_le (by omega)] at C; exact C
      clear hlt C
      go_wp2
      go_ret
      exact ⟨true, rfl, ⟨fun _ => hC, fun _ => rfl⟩, B⟩
/-- What the document's Restore leaves. -/
structure RstM (w : World) (cap mark : Int) (cl : Bool) (held : List Ev) (e : Ending) (w' : World) : Prop where
  no : rstC cap mark cl held ≠ 0 → e = .returned (.tuple #[.pointer none, .int .i64 (rstC cap mark cl held)])
  yes : rstC cap mark cl held = 0 → ∃ m, e = .returned (.tuple #[.pointer (some ⟨m, 0, none⟩), .int .i64 0]) ∧ Mog w' m ⟨cap, mark, cl, held⟩ ∧ w.heap.size ≤ m
  below : Below w.heap.size w w'
theorem RstM.mkno {w w' : World} {cap mark : Int} {cl : Bool} {held : List Ev} {c : Int} (h : rstC cap mark cl held = c) (hc : c ≠ 0) (B : Below w.heap.size w w') : RstM w cap mark cl held (.returned (.tuple #[.pointer none, .int .i64 c])) w' := ⟨fun _ => by rw [h], fun e => absurd (h.symm.trans e) hc, B⟩
theorem buildM3 (cap mark : Int) (cl : Bool) (w : World) : (Instr.build 117 #[(0, .int .i64 cap), (1, .int .i64 mark), (2, .bool cl)]).run Try.prog w = .ok (.agg #[.int .i64 cap, .int .i64 mark, .bool cl, .slice none 0 0]) w := by kernel_rfl
/-- At the head of the document's loop. -/
structure RmI (w : World) (mb : Nat) (cap mark : Int) (cl : Bool) (held : List Ev) (vi : Value) (wr : World) : Prop where
  ex : ∃ (i : Nat) (al : Option Addr) (cp : Nat), i ≤ held.length ∧ vi = .int .i64 (i : Int) ∧ (∀ e ∈ held.take i, mark < e.ts ∧ e.ts ≤ 1152921504606846976) ∧ Bk wr mb #[.int .i64 cap, .int .i64 mark, .bool cl, .slice al i cp] 117 ∧ wr.ownsRow w.heap.size 29 11 (.slice al i cp) i (fl evC (held.take i)) ∧ Below w.heap.size w wr
theorem stand_no {mark : Int} {cl : Bool} (h : standB mark cl = false) : mark < -1152921504606846977 ∨ 1152921504606846976 < mark ∨ (-1152921504606846977 ≤ mark ∧ mark ≤ 1152921504606846976 ∧ cl = true ∧ mark ≠ 1152921504606846976) := by
  unfold standB safeB at h
  cases cl with
  | true =>
    rw [if_pos rfl, decide_eq_false_iff_not] at h
    by_cases h1 : mark < -1152921504606846977
    · exact .inl h1
    by_cases h2 : 1152921504606846976 < mark
    · exact .inr (.inl h2)
    exact .inr (.inr ⟨by omega, by omega, rfl, h⟩)
  | false =>
    rw [if_neg (by decide), Bool.or_eq_false_iff, decide_eq_false_iff_not, decide_eq_false_iff_not] at h
    omega
set_option maxRecDepth 100000 in
set_option maxHeartbeats 8000000 in
theorem refRestore (cap mark : Int) (cl : Bool) (ao : Option Addr) (ch : Nat) (held : List Ev) (w : World) (F : Flat w ao (fl evC held)) (hl : held.length ≤ 1599289640355) :
    Calls Try.prog 39 #[.int .i64 cap, .int .i64 mark, .bool cl, .slice ao held.length ch] w fun e w' => RstM w cap mark cl held e w' := by
  by_cases h1 : cap < 1 ∨ 4096 < cap
  · have hC : Hid (rstC cap mark cl held = 100) := by unfold Hid rstC; rw [if_pos h1]
    by_cases h1a : cap < 1
    · clear h1
      go_enter Try.func39, Try.ntmps39
      go_wp2
      go_ret2
      exact RstM.mkno hC.out (by decide) (Below.refl _ _)
    · have h1b : 4096 < cap := by omega
      clear h1
      go_enter Try.func39, Try.ntmps39
      go_wp2
      go_ret2
      exact RstM.mkno hC.out (by decide) (Below.refl _ _)
  have h1a : 1 ≤ cap := by omega
  have h1b : cap ≤ 4096 := by omega
  cases h2 : standB mark cl with
  | false =>
    have hC : Hid (rstC cap mark cl held = 106) := by unfold Hid rstC; rw [if_neg h1, if_pos h2]
    rcases stand_no h2 with h3 | h3 | ⟨h3, h4, h5, h6⟩
    · clear h1 h2
      go_enter Try.func39, Try.ntmps39
      go_wp2
      go_ret2
      exact RstM.mkno hC.out (by decide) (Below.refl _ _)
    · have h3' : decide (mark < -1152921504606846977) = false := decide_eq_false (by omega)
      clear h1 h2
      go_enter Try.func39, Try.ntmps39
      go_wp2
      go_ret2
      exact RstM.mkno hC.out (by decide) (Below.refl _ _)
    · subst h5
      have h6' : (mark != 1152921504606846976) = true := bne_iff_ne.2 h6
      clear h1 h2 h6
      go_enter Try.func39, Try.ntmps39
      go_wp2
      go_ret2
      exact RstM.mkno hC.out (by decide) (Below.refl _ _)
  | true =>
    obtain ⟨m0, m1, m2⟩ := stand_mark h2
    have HC7 : Hid (¬ CanW held mark → rstC cap mark cl held = 107) := fun h => by unfold rstC; rw [if_neg h1, if_neg (by rw [h2]; decide), if_pos (.inr h)]
    have HC8 : Hid (cap < (held.length : Int) → rstC cap mark cl held = 107) := fun h => by unfold rstC; rw [if_neg h1, if_neg (by rw [h2]; decide), if_pos (.inl h)]
    have HC0 : Hid (¬ cap < (held.length : Int) → CanW held mark → rstC cap mark cl held = 0) := fun h h' => by
      unfold rstC
      rw [if_neg h1, if_neg (by rw [h2]; decide), if_neg]
      rintro (h4 | h4)
      · exact h h4
      · exact h4 h'
    have hmk : decide (mark < -1152921504606846977) = false := decide_eq_false (by omega)
    have hmk2 : decide (1152921504606846976 < mark) = false := decide_eq_false (by omega)
    have hmx : cl = true → (mark != 1152921504606846976) = false := fun h => by rw [m2 h]; rfl
    clear h1 h2
    by_cases h3 : cap < (held.length : Int)
    · have eC := HC8.out h3
      have HE : Hid (rstC cap mark cl held = 107) := eC
      clear eC HC7 HC8 HC0
      cases cl with
      | true =>
        have hmx' := hmx rfl
        clear hmx m2
        go_enter Try.func39, Try.ntmps39
        go_wp2
        go_ret2
        exact RstM.mkno HE.out (by decide) (Below.refl _ _)
      | false =>
        clear hmx
        go_enter Try.func39, Try.ntmps39
        go_wp2
        go_ret2
        exact RstM.mkno HE.out (by decide) (Below.refl _ _)
    have h3' : decide (cap < (held.length : Int)) = false := decide_eq_false h3
    have h3n : held.length ≤ 4096 := by omega
    have cR := rising_any ao ch held w F (by omega)
    by_cases hr : held.Pairwise fun a b => evLt a b = true
    · have cR1 : Calls Try.prog 62 #[.slice ao held.length ch] w fun e w' => e = .returned (.bool true) ∧ Below w.heap.size w w' := cR.mono fun e w' h => by
        obtain ⟨bv, e1, e2, e3⟩ := h.ex
        rw [e2.2 hr] at e1
        exact ⟨e1, e3⟩
      clear cR
      have hbd := fun W : World => buildM3 cap mark cl W
      by_cases hcn : cl = true ∧ 0 < held.length
      · obtain ⟨rfl, hpos⟩ := hcn
        have HE : Hid (rstC cap mark true held = 107) := HC7.out fun c => by
          have h5 := c.1 (held.getD 0 zrEv) (by rw [getD_of_lt held 0 hpos]; exact List.getElem_mem hpos)
          have := m2 rfl
          omega
        have hmx' := hmx rfl
        clear hmx HC7 HC8 HC0 m2
        go_enter Try.func39, Try.ntmps39
        go_wp2_with (first
          | (go_at_call 62; (with_reducible refine cR1.mono ?_); rintro e u1 ⟨rfl, g1⟩))
        go_ret2
        exact RstM.mkno HE.out (by decide) g1
      have hz : cl = true → held.length = 0 := fun h => by
        rcases Nat.eq_zero_or_pos held.length with h' | h'
        · exact h'
        · exact absurd ⟨h, h'⟩ hcn
      have hz2 : cl = true → held = [] := fun h => List.length_eq_zero_iff.1 (hz h)
      have HR : Hid (held.Pairwise fun a b => evLt a b = true) := hr
      have h3x : ¬ cap < (held.length : Int) := h3
      have HH3 : Hid (¬ cap < (held.length : Int)) := h3x
      clear hr hcn hz m2 h3x
      have key : ∀ (u1 : World), Below w.heap.size w u1 → RmI w u1.heap.size cap mark cl held (.int .i64 0) (u1.alloc (.cells #[.int .i64 cap, .int .i64 mark, .bool cl, .slice none 0 0] 117)) := fun u1 g1 => ⟨0, none, 0, Nat.zero_le _, rfl, fun e he => by simp at he, Bk.new u1 _ _, World.ownsRow_nil _ _ _ _, galloc g1 _⟩
      cases hcl : cl with
      | true =>
        have hmx' := hmx hcl
        obtain rfl := hz2 hcl
        subst hcl
        clear hmx hz2 h3 h3'
        have h3' : decide (cap < 0) = false := decide_eq_false (by omega)
        simp only [List.length_nil] at cR1 ⊢
        go_enter Try.func39, Try.ntmps39
        go_upto_region 9 with (first
          | (go_at_call 62; (with_reducible refine cR1.mono ?_); rintro e u1 ⟨rfl, g1⟩; have KI := key u1 g1))
        go_loopw [11] (fun vi wr => RmI w u1.heap.size cap mark true [] vi wr) (fun vi _ => 0)
        case atStart => exact KI
        case round =>
          obtain ⟨i, al, cp, hi, rfl, hall, bM, OM, B⟩ := hrel
          obtain rfl : i = 0 := by simpa using hi
          have HP : Hid (Mog wr u1.heap.size ⟨cap, mark, true, []⟩) := ⟨al, cp, bM, own_sl OM, Flat.nil _ _, fun b o e => by
            rcases OM.2 with ⟨h1, _⟩ | ⟨g1, c1, cur1, h1, _, hh1, _⟩
            · simp only [Value.slice.injEq] at h1
              rw [h1.1] at e
              cases e
            · simp only [Value.slice.injEq] at h1
              rw [h1.1] at e
              cases e
              exact ⟨_, _, hh1⟩⟩
          have hE := HC0.out HH3.out (CanW.nil mark)
          have HEE : Hid (rstC cap mark true [] = 0) := hE
          have hg1 := g1.size
          clear hE hall bM OM KI
          go_wp2
          go_ret2
          exact ⟨fun e => absurd HEE.out e, fun _ => ⟨_, rfl, HP, hg1⟩, B⟩
      | false =>
        subst hcl
        clear hmx hz2
        go_enter Try.func39, Try.ntmps39
        go_upto_region 9 with (first
          | (go_at_call 62; (with_reducible refine cR1.mono ?_); rintro e u1 ⟨rfl, g1⟩; have KI := key u1 g1; have hg1 := g1.size))
        go_loopw [11] (fun vi wr => RmI w u1.heap.size cap mark false held vi wr) (fun vi _ => held.length - (intOf vi).toNat)
        case atStart => exact KI
        case round =>
          obtain ⟨i, al, cp, hi, rfl, hall, bM, OM, B⟩ := hrel
          clear KI key hbd cR1
          by_cases hlt : i < held.length
          · obtain ⟨g, o, rfl, hgl, _⟩ := (F.keep B).form (by rw [fl_len ev_size]; omega)
            have rx0 : ∀ Y, Below wr.heap.size wr Y → Y.rangeAt g (o + i * 11) (evC (held.getD i zrEv)).toList := fun Y G => flat_range ev_size zrEv ((F.keep B).keep G) i hlt
            have hsn := take_snoc held zrEv i hlt
            have hin : held.getD i zrEv ∈ held := by rw [getD_of_lt held i hlt]; exact List.getElem_mem hlt
            generalize held.getD i zrEv = f at *
            have q1 : (i : Int) < (held.length : Int) := by omega
            have dts : wr.cell? ⟨g, o + i * 11, none⟩ = some (.int .i64 f.ts) := by have := rx0 wr (Below.refl _ _) 0 _ rfl; simpa using this
            by_cases hbad : mark < f.ts ∧ f.ts ≤ 1152921504606846976
            · obtain ⟨hb1, hb2⟩ := hbad
              have g1' : decide (f.ts ≤ mark) = false := decide_eq_false (by omega)
              have g2' : decide (1152921504606846976 < f.ts) = false := decide_eq_false (by omega)
              have hne0 : Nonempty (Ext wr) := ⟨⟨_, Below.refl _ _⟩⟩
              have p3 := fun z : Ext wr => (z.cell _ _ bM.lt).trans bM.at4.2.2.2
              have hA2 : ∀ e ∈ held.take (i + 1), mark < e.ts ∧ e.ts ≤ 1152921504606846976 := fun e he => by
                rw [hsn] at he
                rcases List.mem_append.1 he with h | h
                · exact hall e h
                · rw [List.mem_singleton.1 h]; exact ⟨hb1, hb2⟩
              have HT : Hid (i < held.length) := hlt
              have HS : Hid (held.take (i + 1) = held.take i ++ [f]) := hsn
              have hbm : i + 1 ≤ 5000 := by omega
              have hb2' : Hid (((i + 1) + (i + 1) / 4 + 192) * 88 ≤ 281474976710656) := tiny_room hbm
              have hb3' : Hid (i + 1 ≤ 9223372036854775807) := by unfold Hid; omega
              clear hall hlt hsn
              go_upto_region 13 with fail
              refine wp_region_ext_new 10 0 9 (by omega) (by omega) (.pointer (some ⟨u1.heap.size, 0, none⟩)) _ _ _ rfl rfl rfl rfl rfl rfl (by kernel_rfl) (by kernel_rfl) (fun c a d v w h => by cases d <;> exact h) ?_
              simp only [List.take_succ_cons, List.take_zero, List.drop_succ_cons, List.drop_zero, List.eraseIdx_cons_succ, List.eraseIdx_cons_zero, Act.put, List.setIfInBounds_toArray, List.set_cons_succ, List.set_cons_zero]
              repeat (first
                | (refine wpQuiet_load_mid rfl 29 _ rfl g (o + i * 11) rfl (evC f) _ (fun X hX => by obtain ⟨nx, rfl⟩ := hX; exact rx0 nx.X nx.h) Try.underlying29 rfl infoEv _ rfl ?_; simp only [Act.put, List.setIfInBounds_toArray, List.set_cons_succ, List.set_cons_zero])
                | go_big_quiet_step (fail))
              refine wpQuiet_nil ?_
              intro X hX
              obtain ⟨nx, rfl⟩ := hX
              refine ⟨.slice (some ⟨nx.X.heap.size, 0, none⟩) 1 1, nx.X.alloc (.cells (evC f) 29), buildS_run (evBuildE f nx.X), ⟨⟨_, galloc nx.h _⟩, rfl⟩, ?_⟩
              have Q1 := galloc nx.h (.cells (evC f) 29)
              have hnews := World.news_of_block (Bk.new nx.X (evC f) 29)
              generalize nx.X.alloc (.cells (evC f) 29) = Y at *
              generalize nx.X.heap.size = gy at *
              simp only [List.setIfInBounds_toArray, List.set_cons_succ, List.set_cons_zero]
              have OY := own_keep OM Q1
              have bY := bM.keep Q1
              have BY := gtrans B Q1
              have fin : ∀ (g8 cap8 : Nat) (w8 : World), w8.ownsRow w.heap.size 29 11 (.slice (some ⟨g8, 0, none⟩) (i + 1) cap8) (i + 1) (fl evC (held.take i) ++ (evC f).toList) → Y.grownBy w8 (Value.slice al i cp).ownBlock → Bk w8 u1.heap.size #[.int .i64 cap, .int .i64 mark, .bool false, .slice al i cp] 117 ∧ RmI w u1.heap.size cap mark false held (.int .i64 ((i + 1 : Nat) : Int)) (w8.setCell ⟨u1.heap.size, 3, none⟩ (.slice (some ⟨g8, 0, none⟩) (i + 1) cap8)) := by
                intro g8 cap8 w8 O8 Q8
                have b8 := bk_far bY OY (by decide) Q8
                refine ⟨b8, i + 1, some ⟨g8, 0, none⟩, cap8, HT.out, rfl, hA2, b8.set 3 _, ty_set ?_ b8 (by decide) 3 _, (BY.grown Q8 BY.size fun k e => (World.ownsRow.lt OY k e).1).setCell hg1 _⟩
                rw [HS.out, fl_app]
                simpa [fl] using O8
              clear p3 hne0 dts
              refine wpList_append_one rfl (.tmp 78) (.tmp 83) rfl Try.underlying22 nfEv rfl (by decide) (.slice al i cp) w.heap.size i _ rfl OY BY.size ⟨gy, 0, none⟩ 1 (evC f).toList rfl rfl hnews (ev_ones1 f) hb3'.out hb2'.out ?_
              intro g8 cap8 w8 O8 Q8 L8
              obtain ⟨b8, SP⟩ := fin g8 cap8 w8 O8 Q8
              have f8 := b8.free 3
              have d8 := b8.at4.2.2.2
              clear O8 Q8 L8 fin hnews OY
              go_wp2
              go_roundw
              case rel => exact SP
              case measure => have hlt : i < held.length := HT; simp [intOf]; omega
            · have HE : Hid (rstC cap mark false held = 107) := HC7.out fun c => hbad (c.1 f hin)
              have hts : f.ts ≤ mark ∨ 1152921504606846976 < f.ts := by omega
              clear hbad hsn hall hlt
              by_cases hb1 : f.ts ≤ mark
              · clear hts
                go_wp2
                go_ret2
                exact RstM.mkno HE.out (by decide) B
              · have hb2 : 1152921504606846976 < f.ts := by omega
                have hb1' : decide (f.ts ≤ mark) = false := decide_eq_false hb1
                clear hts hb1
                go_wp2
                go_ret2
                exact RstM.mkno HE.out (by decide) B
          · obtain rfl : i = held.length := by omega
            rw [List.take_length] at hall OM
            have HP : Hid (Mog wr u1.heap.size ⟨cap, mark, false, held⟩) := ⟨al, cp, bM, own_sl OM, own_flat OM, fun b o e => by
              rcases OM.2 with ⟨h1, _⟩ | ⟨g1, c1, cur1, h1, _, hh1, _⟩
              · simp only [Value.slice.injEq] at h1
                rw [h1.1] at e
                cases e
              · simp only [Value.slice.injEq] at h1
                rw [h1.1] at e
                cases e
                exact ⟨_, _, hh1⟩⟩
            have HEE : Hid (rstC cap mark false held = 0) := HC0.out HH3.out ⟨hall, HR.out⟩
            clear hlt hall OM bM
            go_wp2
            go_ret2
            exact ⟨fun e => absurd HEE.out e, fun _ => ⟨_, rfl, HP, hg1⟩, B⟩
    · have cR1 : Calls Try.prog 62 #[.slice ao held.length ch] w fun e w' => e = .returned (.bool false) ∧ Below w.heap.size w w' := cR.mono fun e w' h => by
        obtain ⟨bv, e1, e2, e3⟩ := h.ex
        cases bv with
        | true => exact absurd (e2.1 rfl) hr
        | false => exact ⟨e1, e3⟩
      have HE : Hid (rstC cap mark cl held = 107) := HC7.out fun c => hr c.2
      clear cR hr HC7 HC8 HC0 m2
      cases cl with
      | true =>
        have hmx' := hmx rfl
        clear hmx
        go_enter Try.func39, Try.ntmps39
        go_wp2_with (first
          | (go_at_call 62; (with_reducible refine cR1.mono ?_); rintro e u1 ⟨rfl, g1⟩))
        go_ret2
        exact RstM.mkno HE.out (by decide) g1
      | false =>
        clear hmx
        go_enter Try.func39, Try.ntmps39
        go_wp2_with (first
          | (go_at_call 62; (with_reducible refine cR1.mono ?_); rintro e u1 ⟨rfl, g1⟩))
        go_ret2
        exact RstM.mkno HE.out (by decide) g1

end Go.Proofs.Ytjfbbfmnghccdaa
