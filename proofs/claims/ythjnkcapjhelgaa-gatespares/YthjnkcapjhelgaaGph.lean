/- canStand, canWait, Restore, New. -/
import Derived.Test.YthjnkcapjhelgaaGpg
namespace Go.Proofs.Ythjnkcapjhelgaa
open Go.RowKit Go.BigFrame Go.Maps
set_option linter.unusedVariables false
set_option linter.unusedSimpArgs false

def standB (mark : Int) (cl : Bool) : Bool := if cl = true then decide (mark = 1152921504606846976) else (decide (mark = -1152921504606846977) || safeB mark)
set_option maxHeartbeats 1000000 in
theorem stand_any (mark : Int) (cl : Bool) (w : World) : Calls Try.prog 34 #[.int .i64 mark, .bool cl] w fun e w' => e = .returned (.bool (standB mark cl)) ∧ w' = w := by
  have cS := fun u : World => isSafe_any mark u
  cases cl with
  | true =>
    have e : standB mark true = (mark == 1152921504606846976) := by unfold standB; rw [if_pos rfl]; rfl
    rw [e]; clear e cS
    go_enter Try.func34, Try.ntmps34
    go_wp2
    go_ret
    exact ⟨rfl, rfl⟩
  | false =>
    by_cases h : mark = -1152921504606846977
    · subst h
      have e : standB (-1152921504606846977) false = true := rfl
      rw [e]; clear e cS
      go_enter Try.func34, Try.ntmps34
      go_wp2
      go_ret
      exact ⟨rfl, rfl⟩
    · have e : standB mark false = safeB mark := by unfold standB; rw [if_neg (by decide), decide_eq_false h, Bool.false_or]
      have h' : (mark == -1152921504606846977) = false := beq_eq_false_iff_ne.2 h
      rw [e]; clear e h
      go_enter Try.func34, Try.ntmps34
      go_wp2_with (first | (go_at_call 29; (with_reducible refine (cS _).mono ?_); rintro e u ⟨rfl, hu⟩; have hu' := hu.symm; subst hu'))
      go_ret
      exact ⟨rfl, rfl⟩
/-- May these events be held at the mark? -/
def CanW (held : List Ev) (mark : Int) : Prop := (∀ e ∈ held, mark < e.ts ∧ e.ts ≤ 1152921504606846976) ∧ held.Pairwise fun a b => evLt a b = true
theorem CanW.nil (mark : Int) : CanW [] mark := ⟨fun e h => by simp at h, List.Pairwise.nil⟩
theorem CanW.take {held : List Ev} {mark : Int} (h : CanW held mark) (i : Nat) : CanW (held.take i) mark := ⟨fun e he => h.1 e ((List.take_sublist i held).subset he), h.2.sublist (List.take_sublist i held)⟩
theorem CanW.snoc {l : List Ev} {x : Ev} {mark : Int} (h : CanW l mark) (h1 : mark < x.ts) (h2 : x.ts ≤ 1152921504606846976) (h3 : 0 < l.length → evLt (l.getD (l.length - 1) zrEv) x = true) : CanW (l ++ [x]) mark := by
  refine ⟨fun e he => ?_, List.pairwise_append.2 ⟨h.2, List.pairwise_singleton _ _, fun a ha b hb => ?_⟩⟩
  · rcases List.mem_append.1 he with e1 | e1
    · exact h.1 e e1
    · rw [List.mem_singleton.1 e1]; exact ⟨h1, h2⟩
  · rw [List.mem_singleton.1 hb]
    have h0 : 0 < l.length := List.length_pos_of_mem ha
    obtain ⟨i, hi, rfl⟩ := List.getElem_of_mem ha
    have h4 := h3 h0
    rw [getD_of_lt l _ (by omega)] at h4
    by_cases e : i = l.length - 1
    · subst e; exact h4
    · exact evLt_swo.trans (List.pairwise_iff_getElem.1 h.2 i (l.length - 1) hi (by omega) (by omega)) h4
theorem CanW.last {l : List Ev} {x : Ev} {mark : Int} (h : CanW (l ++ [x]) mark) : mark < x.ts ∧ x.ts ≤ 1152921504606846976 ∧ (0 < l.length → evLt (l.getD (l.length - 1) zrEv) x = true) := by
  refine ⟨(h.1 x (by simp)).1, (h.1 x (by simp)).2, fun h0 => ?_⟩
  rw [getD_of_lt l _ (by omega)]
  exact (List.pairwise_append.1 h.2).2.2 _ (List.getElem_mem _) x (by simp)
/-- What canWait answers. -/
structure WaitP (held : List Ev) (mark : Int) (w : World) (e : Ending) (w' : World) : Prop where
  ex : ∃ bv : Bool, e = .returned (.bool bv) ∧ (bv = true ↔ CanW held mark) ∧ Below w.heap.size w w'
set_option maxRecDepth 100000 in
set_option maxHeartbeats 4000000 in
theorem wait_any (ao : Option Addr) (cap : Nat) (held : List Ev) (mark : Int) (w : World) (F : Flat w ao (fl evC held)) (hl : held.length ≤ 1000000) :
    Calls Try.prog 35 #[.slice ao held.length cap, .int .i64 mark] w fun e w' => WaitP held mark w e w' := by
  go_enter Try.func35, Try.ntmps35
  go_upto_region 2 with fail
  go_loopw [5, 6, 9] (fun _ _ vi wr => ∃ i : Nat, i ≤ held.length ∧ vi = .int .i64 (i : Int) ∧ CanW (held.take i) mark ∧ Below w.heap.size w wr) (fun _ _ vi _ => held.length - (intOf vi).toNat)
  case atStart => exact ⟨0, Nat.zero_le _, rfl, CanW.nil _, Below.refl _ _⟩
  case round =>
    obtain ⟨i, hi, rfl, C, B⟩ := hrel
    by_cases hlt : i < held.length
    · obtain ⟨g, o, rfl, hgl, _⟩ := (F.keep B).form (by rw [fl_len ev_size]; omega)
      have rx := flat_range ev_size zrEv (F.keep B) i hlt
      obtain ⟨x, hx⟩ : ∃ x, held.getD i zrEv = x := ⟨_, rfl⟩
      rw [hx] at rx
      have sx := ev_one1 x
      have q1 : (i : Int) < (held.length : Int) := by omega
      have bz := Bk.new wr zAg 47
      have th := bz.there
      have b7 := bz.setCells (cs' := evC x) rfl
      have G8 := gsetCells (galloc (Below.refl wr.heap.size wr) (.cells zAg 47)) (Nat.le_refl _) (evC x).toList 0
      generalize hX3 : (wr.alloc (.cells zAg 47)).setCells wr.heap.size 0 (evC x).toList = X3 at *
      have hsn : held.take (i + 1) = held.take i ++ [x] := by rw [take_snoc held zrEv i hlt, hx]
      have hti : (held.take i).length = i := by rw [List.length_take]; omega
      have bad : ¬ (mark < x.ts ∧ x.ts ≤ 1152921504606846976 ∧ (0 < i → evLt (held.getD (i - 1) zrEv) x = true)) → ¬ CanW held mark := fun h c => h (by
        have h1 := c.take (i + 1)
        rw [hsn] at h1
        have h2 := h1.last
        rw [hti] at h2
        refine ⟨h2.1, h2.2.1, fun h0 => ?_⟩
        have h3 := h2.2.2 h0
        rw [List.getD_eq_getElem?_getD, List.getElem?_take, if_pos (by omega), ← List.getD_eq_getElem?_getD] at h3
        exact h3)
      have good : mark < x.ts → x.ts ≤ 1152921504606846976 → (0 < i → evLt (held.getD (i - 1) zrEv) x = true) → CanW (held.take (i + 1)) mark := fun h1 h2 h3 => by
        rw [hsn]
        refine C.snoc h1 h2 fun h0 => ?_
        rw [hti] at h0 ⊢
        rw [List.getD_eq_getElem?_getD, List.getElem?_take, if_pos (by omega), ← List.getD_eq_getElem?_getD]
        exact h3 h0
      have HB : Hid (¬ (mark < x.ts ∧ x.ts ≤ 1152921504606846976 ∧ (0 < i → evLt (held.getD (i - 1) zrEv) x = true)) → ¬ CanW held mark) := bad
      have HG : Hid (mark < x.ts → x.ts ≤ 1152921504606846976 → (0 < i → evLt (held.getD (i - 1) zrEv) x = true) → CanW (held.take (i + 1)) mark) := good
      have FX := (F.keep B).keep G8
      have e0 : X3.cell? ⟨wr.heap.size, 0, none⟩ = some (.int .i64 x.ts) := cell_of_row X3 _ 0 _ _ _ b7
      have x0 := fun z : Ext X3 => (z.cell _ _ b7.lt).trans e0
      have hne0 : Nonempty (Ext X3) := ⟨⟨_, Below.refl _ _⟩⟩
      have HT : Hid (i < held.length) := hlt
      clear hx bad good hsn hti C hlt e0
      by_cases h1 : x.ts ≤ mark
      · go_upto_region 4 with (first
          | (refine wpList_load_mid rfl 47 _ rfl g (o + i * 11) rfl (evC x).toList _ rx Try.underlying47 rfl infoEv ?_)
          | (refine wpList_store_mid rfl 47 _ _ rfl wr.heap.size 0 (evC x) rfl rfl th infoEv sx ?_; rw [hX3]))
        go_frame
        refine wp_region_ext (by kernel_rfl) (by kernel_rfl) ?_
        repeat go_big_quiet_step (fail)
        refine wpQuiet_nil ?_
        intro _ hw'
        obtain ⟨n1, hw''⟩ := hw'
        subst hw''
        go_wp2
        go_ret
        exact ⟨false, rfl, ⟨(fun h => by cases h), fun c => absurd c (HB.out (by omega))⟩, gtrans (gtrans B G8) n1.h⟩
      have h1' : decide (x.ts ≤ mark) = false := decide_eq_false h1
      by_cases h2 : 1152921504606846976 < x.ts
      · go_upto_region 4 with (first
          | (refine wpList_load_mid rfl 47 _ rfl g (o + i * 11) rfl (evC x).toList _ rx Try.underlying47 rfl infoEv ?_)
          | (refine wpList_store_mid rfl 47 _ _ rfl wr.heap.size 0 (evC x) rfl rfl th infoEv sx ?_; rw [hX3]))
        go_frame
        refine wp_region_ext (by kernel_rfl) (by kernel_rfl) ?_
        repeat go_big_quiet_step (fail)
        refine wpQuiet_nil ?_
        intro _ hw'
        obtain ⟨n1, hw''⟩ := hw'
        subst hw''
        go_wp2
        go_ret
        exact ⟨false, rfl, ⟨(fun h => by cases h), fun c => absurd c (HB.out (by omega))⟩, gtrans (gtrans B G8) n1.h⟩
      have h2' : decide (1152921504606846976 < x.ts) = false := decide_eq_false h2
      cases hi0 : i with
      | zero =>
        subst hi0
        go_upto_region 4 with (first
          | (refine wpList_load_mid rfl 47 _ rfl g (o + 0 * 11) rfl (evC x).toList _ rx Try.underlying47 rfl infoEv ?_)
          | (refine wpList_store_mid rfl 47 _ _ rfl wr.heap.size 0 (evC x) rfl rfl th infoEv sx ?_; rw [hX3]))
        go_frame
        refine wp_region_ext (by kernel_rfl) (by kernel_rfl) ?_
        repeat go_big_quiet_step (fail)
        refine wpQuiet_nil ?_
        intro _ hw'
        obtain ⟨n1, hw''⟩ := hw'
        subst hw''
        go_wp2
        go_roundw
        case rel => exact ⟨1, HT.out, by go_num, HG.out (by omega) (by omega) (fun h => by omega), gtrans (gtrans B G8) n1.h⟩
        case measure => have := HT.out; simp [intOf]; omega
      | succ j =>
        subst hi0
        have hj : j < held.length := by have : j + 1 < held.length := HT; omega
        have ry := flat_range ev_size zrEv FX j hj
        obtain ⟨y, hy⟩ : ∃ y, held.getD j zrEv = y := ⟨_, rfl⟩
        rw [hy] at ry
        have HY : Hid (held.getD j zrEv = y) := hy
        have c1 : ∀ z : Ext X3, Calls Try.prog 45 #[.agg (evC y), .agg (evC x)] z.X (fun e w'' => e = .returned (.bool (evLt y x)) ∧ ∃ m : Ext X3, w'' = m.X) := fun z => ext_of (evBefore_any y x z.X)
        have ej : ((j + 1 : Nat) : Int) - 1 = (j : Int) := by omega
        have ej2 : (0 : Int) < ((j + 1 : Nat) : Int) := by omega
        have ej3 : (j : Int) < (held.length : Int) := by omega
        have ej4 : decide ((0 : Int) < ((j + 1 : Nat) : Int)) = true := decide_eq_true ej2
        obtain ⟨bb, hbb⟩ : ∃ bb, evLt y x = bb := ⟨_, rfl⟩
        rw [hbb] at c1
        have HBB : Hid (evLt y x = bb) := hbb
        clear hy hbb hj
        go_upto_region 4 with (first
          | (refine wpList_load_mid rfl 47 _ rfl g (o + (j + 1) * 11) rfl (evC x).toList _ rx Try.underlying47 rfl infoEv ?_)
          | (refine wpList_store_mid rfl 47 _ _ rfl wr.heap.size 0 (evC x) rfl rfl th infoEv sx ?_; rw [hX3]))
        go_frame
        refine wp_region_ext (by kernel_rfl) (by kernel_rfl) ?_
        repeat (first
          | (refine wpQuiet_load_mid rfl 47 (.tmp 6) rfl wr.heap.size 0 rfl (evC x) _ (fun X hX => by obtain ⟨nx, rfl⟩ := hX; exact rangeAt_keep b7.range nx.h) Try.underlying47 rfl infoEv _ rfl ?_; simp only [Act.put, List.setIfInBounds_toArray, List.set_cons_succ, List.set_cons_zero])
          | (refine wpQuiet_load_mid rfl 47 (.tmp 30) rfl g (o + j * 11) rfl (evC y) _ (fun X hX => by obtain ⟨nx, rfl⟩ := hX; exact rangeAt_keep ry nx.h) Try.underlying47 rfl infoEv _ rfl ?_; simp only [Act.put, List.setIfInBounds_toArray, List.set_cons_succ, List.set_cons_zero])
          | go_big_quiet_step (first | (go_at_call 45; with_reducible exact c1 _)))
        refine wpQuiet_nil ?_
        intro _ hw'
        obtain ⟨n1, hw''⟩ := hw'
        subst hw''
        cases bb with
        | true =>
          go_wp2
          go_roundw
          case rel => exact ⟨j + 2, HT.out, by go_num, HG.out (by omega) (by omega) (fun h => by rw [Nat.add_sub_cancel, HY.out]; exact HBB), gtrans (gtrans B G8) n1.h⟩
          case measure => have := HT.out; simp [intOf]; omega
        | false =>
          go_wp2
          go_ret
          exact ⟨false, rfl, ⟨(fun h => by cases h), fun c => absurd c (HB.out (fun h => by
            have h3 := h.2.2 (by omega)
            rw [Nat.add_sub_cancel, HY.out, HBB.out] at h3
            cases h3))⟩, gtrans (gtrans B G8) n1.h⟩
    · obtain rfl : i = held.length := by omega
      rw [List.take_length] at C
      clear hlt
      go_wp2
      go_ret
      exact ⟨true, rfl, ⟨fun _ => C, fun _ => rfl⟩, B⟩

end Go.Proofs.Ythjnkcapjhelgaa
