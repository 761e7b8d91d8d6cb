/- Restore, New. -/
import Derived.Test.YthjnkcapjhelgaaGph
namespace Go.Proofs.Ythjnkcapjhelgaa
open Go.RowKit Go.BigFrame Go.Maps
set_option linter.unusedVariables false
set_option linter.unusedSimpArgs false

open Classical in
/-- What Restore answers. -/
noncomputable def rstC (cap mark : Int) (cl : Bool) (held : List Ev) : Int := if cap < 1 ∨ 4096 < cap then 100 else if standB mark cl = false then 106 else if cap < (held.length : Int) ∨ ¬ CanW held mark then 107 else 0
structure RstP (w : World) (cap mark : Int) (cl : Bool) (held : List Ev) (e : Ending) (w' : World) : Prop where
  no : rstC cap mark cl held ≠ 0 → e = .returned (.tuple #[.pointer none, .int .i64 (rstC cap mark cl held)])
  yes : rstC cap mark cl held = 0 → ∃ g S, e = .returned (.tuple #[.pointer (some ⟨g, 0, none⟩), .int .i64 0]) ∧ Gat w' g S ⟨cap, mark, cl, held⟩ held.length ∧ S g ∧ ∀ k, S k → w.heap.size ≤ k
  below : Below w.heap.size w w'
theorem RstP.mkno {w w' : World} {cap mark : Int} {cl : Bool} {held : List Ev} {c : Int} (h : rstC cap mark cl held = c) (hc : c ≠ 0) (B : Below w.heap.size w w') : RstP w cap mark cl held (.returned (.tuple #[.pointer none, .int .i64 c])) w' := ⟨fun _ => by rw [h], fun e => absurd (h.symm.trans e) hc, B⟩
theorem ins_end {x : Ev} : ∀ {l : List Ev}, (∀ y ∈ l, evLt y x = true) → ins evLt x l = l ++ [x]
  | [], _ => rfl
  | y :: l, h => by
    have h1 := evLt_swo.asym _ _ (h y List.mem_cons_self)
    unfold ins
    rw [if_neg (by rw [h1]; decide), ins_end fun z hz => h z (List.mem_cons_of_mem _ hz)]
    rfl
theorem stand_mark {mark : Int} {cl : Bool} (h : standB mark cl = true) : -1152921504606846977 ≤ mark ∧ mark ≤ 1152921504606846976 ∧ (cl = true → mark = 1152921504606846976) := by
  unfold standB safeB at h
  cases cl with
  | true => rw [if_pos rfl, decide_eq_true_eq] at h; omega
  | false =>
    rw [if_neg (by decide), Bool.or_eq_true, decide_eq_true_eq, decide_eq_true_eq] at h
    refine ⟨by omega, by omega, fun e => by cases e⟩
theorem rst_ok {cap mark : Int} {cl : Bool} {l : List Ev} (h1 : 1 ≤ cap) (h2 : cap ≤ 4096) (h3 : standB mark cl = true) (h4 : (l.length : Int) ≤ cap) (h5 : CanW l mark) (h6 : ∀ e ∈ l, e.ok) : Gs.ok ⟨cap, mark, cl, l⟩ :=
  ⟨h1, h2, h4, h5.2, h6, (stand_mark h3).1, (stand_mark h3).2.1, h5.1, (stand_mark h3).2.2⟩
theorem buildG (p b : Nat) (cap mark : Int) (cl : Bool) (w : World) : (Instr.build 76 #[(0, .pointer (some ⟨p, 0, none⟩)), (1, .map (some b)), (2, .int .i64 cap), (3, .int .i64 mark), (4, .bool cl)]).run Try.prog w = .ok (.agg #[.pointer (some ⟨p, 0, none⟩), .map (some b), .int .i64 cap, .int .i64 mark, .bool cl]) w := by kernel_rfl
/-- At the head of Restore's loop. -/
structure RstI (w : World) (g : Nat) (cap mark : Int) (cl : Bool) (held : List Ev) (vi : Value) (wr : World) : Prop where
  ex : ∃ (i : Nat) (S : Nat → Prop), i ≤ held.length ∧ vi = .int .i64 (i : Int) ∧ Gat wr g S ⟨cap, mark, cl, held.take i⟩ i ∧ S g ∧ (∀ k, S k → w.heap.size ≤ k) ∧ Below w.heap.size w wr
theorem Gat.self {w : World} {g : Nat} {S : Nat → Prop} {s : Gs} {t : Nat} (G : Gat w g S s t) : S g := by
  obtain ⟨h0, p, b, base, v, L, t0, ht, rfl, G⟩ := G
  exact .inl rfl
set_option maxRecDepth 100000 in
set_option maxHeartbeats 4000000 in
theorem restore_any (cap mark : Int) (cl : Bool) (ao : Option Addr) (ch : Nat) (held : List Ev) (w : World) (F : Flat w ao (fl evC held)) (hl : held.length ≤ 1599289640355) (hev : ∀ e ∈ held, e.ok) :
    Calls Try.prog 15 #[.int .i64 cap, .int .i64 mark, .bool cl, .slice ao held.length ch] w fun e w' => RstP w cap mark cl held e w' := by
  by_cases h1 : cap < 1 ∨ 4096 < cap
  · have hC : Hid (rstC cap mark cl held = 100) := by unfold Hid rstC; rw [if_pos h1]
    by_cases h1a : cap < 1
    · clear h1
      go_enter Try.func15, Try.ntmps15
      go_wp2
      go_ret2
      exact RstP.mkno hC.out (by decide) (Below.refl _ _)
    · have h1b : 4096 < cap := by omega
      clear h1
      go_enter Try.func15, Try.ntmps15
      go_wp2
      go_ret2
      exact RstP.mkno hC.out (by decide) (Below.refl _ _)
  have h1a : 1 ≤ cap := by omega
  have h1b : cap ≤ 4096 := by omega
  have cS := fun u : World => stand_any mark cl u
  cases h2 : standB mark cl with
  | false =>
    have hC : Hid (rstC cap mark cl held = 106) := by unfold Hid rstC; rw [if_neg h1, if_pos h2]
    rw [h2] at cS
    clear h1 h2
    go_enter Try.func15, Try.ntmps15
    go_wp2_with (first | (go_at_call 34; (with_reducible refine (cS _).mono ?_); rintro e u ⟨rfl, hu⟩; have hu' := hu.symm; subst hu'))
    go_ret2
    exact RstP.mkno hC.out (by decide) (Below.refl _ _)
  | true =>
    rw [h2] at cS
    by_cases h3 : cap < (held.length : Int)
    · have hC : Hid (rstC cap mark cl held = 107) := by unfold Hid rstC; rw [if_neg h1, if_neg (by rw [h2]; decide), if_pos (.inl h3)]
      clear h1 h2
      go_enter Try.func15, Try.ntmps15
      go_wp2_with (first | (go_at_call 34; (with_reducible refine (cS _).mono ?_); rintro e u ⟨rfl, hu⟩; have hu' := hu.symm; subst hu'))
      go_ret2
      exact RstP.mkno hC.out (by decide) (Below.refl _ _)
    have h3' : (held.length : Int) ≤ cap := by omega
    have hc3 : decide (cap < (held.length : Int)) = false := decide_eq_false h3
    have cW := wait_any ao ch held mark w F (by omega)
    by_cases h4 : CanW held mark
    · have hC : Hid (rstC cap mark cl held = 0) := by unfold Hid rstC; rw [if_neg h1, if_neg (by rw [h2]; decide), if_neg (by simp [h3, h4])]
      have cW1 : Calls Try.prog 35 #[.slice ao held.length ch, .int .i64 mark] w fun e w' => e = .returned (.bool true) ∧ Below w.heap.size w w' := cW.mono fun e w' h => by
        obtain ⟨bv, e1, e2, e3⟩ := h.ex
        rw [e2.2 h4] at e1
        exact ⟨e1, e3⟩
      have H2 : Hid (standB mark cl = true) := h2
      have H4 : Hid (CanW held mark) := h4
      have hmm := @run_makeMap Try.prog
      clear h1 h2 h3 cW h4
      go_enter Try.func15, Try.ntmps15
      go_upto_region 7 with (first
        | (go_at_call 34; (with_reducible refine (cS _).mono ?_); rintro e u ⟨rfl, hu⟩; have hu' := hu.symm; subst hu')
        | (go_at_call 35; (with_reducible refine cW1.mono ?_); rintro e u2 ⟨rfl, g2⟩))
      have cN := evNew u2
      have P0 := evPa_new u2
      have B0 := galloc (Below.refl u2.heap.size u2) (.cells #[.slice none 0 0, .int .i64 0] 97)
      have s0 : (u2.alloc (.cells #[.slice none 0 0, .int .i64 0] 97)).heap.size = u2.heap.size + 1 := Array.size_push _
      generalize hW0 : u2.alloc (.cells #[.slice none 0 0, .int .i64 0] 97) = W0 at *
      have M1 := MpN.new W0
      have B1 := galloc (Below.refl W0.heap.size W0) (.map #[] 0)
      have s1 : (W0.alloc (.map #[] 0)).heap.size = W0.heap.size + 1 := Array.size_push _
      have hbd := fun W : World => buildG u2.heap.size W0.heap.size cap mark cl W
      have hmk' := hmm 74 W0
      generalize hW1 : W0.alloc (.map #[] 0) = W1 at *
      have b2 := Bk.new W1 #[.pointer (some ⟨u2.heap.size, 0, none⟩), .map (some W0.heap.size), .int .i64 cap, .int .i64 mark, .bool cl] 76
      have B2 := galloc (Below.refl W1.heap.size W1) (.cells #[.pointer (some ⟨u2.heap.size, 0, none⟩), .map (some W0.heap.size), .int .i64 cap, .int .i64 mark, .bool cl] 76)
      generalize hW2 : W1.alloc (.cells #[.pointer (some ⟨u2.heap.size, 0, none⟩), .map (some W0.heap.size), .int .i64 cap, .int .i64 mark, .bool cl] 76) = W2 at *
      have hsz := B2.size
      have hu2 := g2.size
      have GI : GatI W2 W1.heap.size u2.heap.size W0.heap.size (u2.heap.size + 1) (.slice none 0 0) [] 0 ⟨cap, mark, cl, []⟩ := ⟨b2, (P0.keep B1).keep B2, M1.keep B2, rfl, Nat.le_refl _, by omega⟩
      have GG : Gat W2 W1.heap.size (foot W1.heap.size u2.heap.size W0.heap.size (.slice none 0 0)) ⟨cap, mark, cl, []⟩ 0 := ⟨rst_ok h1a h1b H2.out (by show ((0 : Nat) : Int) ≤ cap; omega) (CanW.nil _) (fun e h => by simp at h), _, _, _, _, _, 0, Nat.le_refl _, rfl, GI⟩
      have hS : ∀ k, foot W1.heap.size u2.heap.size W0.heap.size (.slice none 0 0) k → w.heap.size ≤ k := by
        rintro k (e | e | e | e)
        · omega
        · omega
        · omega
        · simp [Value.ownBlock] at e
      have BW := gtrans (gtrans (gtrans g2 B0) B1) B2
      have F2 := F.keep BW
      clear cS cW1 hmm s0 s1
      go_upto_region 9 with (first
        | (go_at_call 36; (with_reducible refine cN.mono ?_); rintro e u3 ⟨rfl, hu⟩; have hu' := hu.symm; subst hu'))
      have hl8 : held.length ≤ 4096 := by omega
      go_loopw [12, 45] (fun _ vi wr => RstI w W1.heap.size cap mark cl held vi wr) (fun _ vi _ => held.length - (intOf vi).toNat)
      case atStart => exact ⟨0, _, Nat.zero_le _, rfl, GG, .inl rfl, hS, BW⟩
      case round =>
        obtain ⟨i, S, hi, rfl, GR, Sg, SR, BR⟩ := hrel
        clear GG GI hS BW F2 b2 B2 hW2 hbd hmk' M1 P0 cN B0 B1 hW0 hW1 hsz
        by_cases hlt : i < held.length
        · obtain ⟨g, o, rfl, hgl, _⟩ := (F.keep BR).form (by rw [fl_len ev_size]; omega)
          have rx := flat_range ev_size zrEv (F.keep BR) i hlt
          obtain ⟨x, hx⟩ : ∃ x, held.getD i zrEv = x := ⟨_, rfl⟩
          rw [hx] at rx
          have sx := ev_one1 x
          have hxm : x ∈ held := by rw [← hx, getD_of_lt held i hlt]; exact List.getElem_mem hlt
          have q1 : (i : Int) < (held.length : Int) := by omega
          have bz := Bk.new wr zAg 47
          have th := bz.there
          have b7 := bz.setCells (cs' := evC x) rfl
          have G8 := gsetCells (galloc (Below.refl wr.heap.size wr) (.cells zAg 47)) (Nat.le_refl _) (evC x).toList 0
          generalize hX3 : (wr.alloc (.cells zAg 47)).setCells wr.heap.size 0 (evC x).toList = X3 at *
          have r7 := b7.range
          have hsn : held.take (i + 1) = held.take i ++ [x] := by rw [take_snoc held zrEv i hlt, hx]
          have hcw := H4.out.take (i + 1)
          have hin : ins evLt x (held.take i) = held.take (i + 1) := by
            rw [hsn] at hcw ⊢
            exact ins_end fun y hy => (List.pairwise_append.1 hcw.2).2.2 y hy x (by simp)
          have hok : Gs.ok ⟨cap, mark, cl, held.take (i + 1)⟩ := rst_ok h1a h1b H2.out (by rw [List.length_take]; omega) hcw (fun e he => hev e ((List.take_sublist _ _).subset he))
          have c9 := hold_any W1.heap.size i S ⟨cap, mark, cl, held.take i⟩ x X3 (GR.keep G8) (hev x hxm) (by dsimp only; rw [hin]; exact hok) (by omega)
          dsimp only at c9
          rw [hin] at c9
          have HT : Hid (i < held.length) := hlt
          clear hx hlt hsn hin hok hcw hxm
          go_wp2_with (first
            | (refine wpList_load_mid rfl 47 _ rfl g (o + i * 11) rfl (evC x).toList _ rx Try.underlying47 rfl infoEv ?_)
            | (refine wpList_store_mid rfl 47 _ _ rfl wr.heap.size 0 (evC x) rfl rfl th infoEv sx ?_; rw [hX3])
            | (refine wpList_load_mid rfl 47 _ rfl wr.heap.size 0 rfl (evC x).toList _ r7 Try.underlying47 rfl infoEv ?_)
            | (go_at_call 33; (with_reducible refine c9.mono ?_); rintro e u5 ⟨rfl, S5⟩))
          go_roundw
          case rel =>
            have hlt : i < held.length := HT
            obtain ⟨S', GS, FS, VS⟩ := S5.ex
            refine ⟨i + 1, S', by omega, by go_num, GS, GS.self, fun k e => ?_, FS.toBelow (gtrans BR G8) (Nat.le_refl _) SR⟩
            rcases VS k e with h | h
            · exact SR k h
            · exact Nat.le_trans BR.size (Nat.le_trans G8.size h)
          case measure => have hlt : i < held.length := HT; simp [intOf]; omega
        · obtain rfl : i = held.length := by omega
          rw [List.take_length] at GR
          clear hlt
          go_wp2
          go_ret2
          exact ⟨fun e => absurd hC.out e, fun _ => ⟨_, S, rfl, GR, Sg, SR⟩, BR⟩
    · have hC : Hid (rstC cap mark cl held = 107) := by unfold Hid rstC; rw [if_neg h1, if_neg (by rw [h2]; decide), if_pos (.inr h4)]
      have cW1 : Calls Try.prog 35 #[.slice ao held.length ch, .int .i64 mark] w fun e w' => e = .returned (.bool false) ∧ Below w.heap.size w w' := cW.mono fun e w' h => by
        obtain ⟨bv, e1, e2, e3⟩ := h.ex
        cases bv with
        | true => exact absurd (e2.1 rfl) h4
        | false => exact ⟨e1, e3⟩
      clear h1 h2 h3 cW h4
      go_enter Try.func15, Try.ntmps15
      go_wp2_with (first
        | (go_at_call 34; (with_reducible refine (cS _).mono ?_); rintro e u ⟨rfl, hu⟩; have hu' := hu.symm; subst hu')
        | (go_at_call 35; (with_reducible refine cW1.mono ?_); rintro e u2 ⟨rfl, g2⟩))
      go_ret2
      exact RstP.mkno hC.out (by decide) g2

/-- A new gate. -/
structure NewP (w : World) (cap : Int) (e : Ending) (w' : World) : Prop where
  no : cap < 1 ∨ 4096 < cap → e = .returned (.tuple #[.pointer none, .int .i64 100])
  yes : 1 ≤ cap → cap ≤ 4096 → ∃ g S, e = .returned (.tuple #[.pointer (some ⟨g, 0, none⟩), .int .i64 0]) ∧ Gat w' g S ⟨cap, -1152921504606846977, false, []⟩ 0 ∧ S g ∧ ∀ k, S k → w.heap.size ≤ k
  below : Below w.heap.size w w'
set_option maxHeartbeats 1000000 in
theorem new_any (cap : Int) (w : World) : Calls Try.prog 13 #[.int .i64 cap] w fun e w' => NewP w cap e w' := by
  have c1 := restore_any cap (-1152921504606846977) false none 0 [] w (Flat.nil _ _) (Nat.zero_le _) (fun e h => by simp at h)
  by_cases h : cap < 1 ∨ 4096 < cap
  · have hC : rstC cap (-1152921504606846977) false [] = 100 := by unfold rstC; rw [if_pos h]
    have c2 : Calls Try.prog 15 #[.int .i64 cap, .int .i64 (-1152921504606846977), .bool false, .slice none 0 0] w fun e w' => e = .returned (.tuple #[.pointer none, .int .i64 100]) ∧ Below w.heap.size w w' := c1.mono fun e w' h => ⟨by have := h.no (by rw [hC]; decide); rw [hC] at this; exact this, h.below⟩
    clear c1 hC
    go_enter Try.func13, Try.ntmps13
    go_wp2_with (first | (go_at_call 15; (with_reducible refine c2.mono ?_); rintro e u2 ⟨rfl, g2⟩))
    go_ret2
    exact ⟨fun _ => rfl, fun h1 h2 => by omega, g2⟩
  · have hC : rstC cap (-1152921504606846977) false [] = 0 := by
      unfold rstC
      rw [if_neg h, if_neg (by decide), if_neg]
      rintro (h1 | h1)
      · simp at h1; omega
      · exact h1 (CanW.nil _)
    have c2 : Calls Try.prog 15 #[.int .i64 cap, .int .i64 (-1152921504606846977), .bool false, .slice none 0 0] w fun e w' => ∃ g S, e = .returned (.tuple #[.pointer (some ⟨g, 0, none⟩), .int .i64 0]) ∧ Gat w' g S ⟨cap, -1152921504606846977, false, []⟩ 0 ∧ S g ∧ (∀ k, S k → w.heap.size ≤ k) ∧ Below w.heap.size w w' := c1.mono fun e w' h => by
      obtain ⟨g, S, h1, h2, h3, h4⟩ := h.yes hC
      exact ⟨g, S, h1, h2, h3, h4, h.below⟩
    clear c1 hC
    go_enter Try.func13, Try.ntmps13
    go_wp2_with (first | (go_at_call 15; (with_reducible refine c2.mono ?_); rintro e u2 ⟨g, S, rfl, h2, h3, h4, g2⟩))
    go_ret2
    exact ⟨fun e => absurd e h, fun _ _ => ⟨g, S, rfl, h2, h3, h4⟩, g2⟩

end Go.Proofs.Ythjnkcapjhelgaa
