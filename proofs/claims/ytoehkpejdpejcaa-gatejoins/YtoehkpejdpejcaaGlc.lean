/- What a script comes to (Told): why an event must be refused. -/
import Derived.Test.YtoehkpejdpejcaaGlb
namespace Go.Proofs.Ytoehkpejdpejcaa
open Go.RowKit Go.BigFrame Go.Maps
set_option linter.unusedVariables false
set_option linter.unusedSimpArgs false

/-- What was accepted and let through, held against the gate. -/
structure TInv (A T : List Ev) (M : Int) (C : Bool) (s : Gs) : Prop where
  perm : (T ++ s.l).Perm A
  ris : (T ++ s.l).Pairwise fun a b => evLt a b = true
  low : ∀ e ∈ T, e.ts ≤ s.mark
  cl : s.cl = C
  mrk : C = false → s.mark = M
def rsn (A : List Ev) (M : Int) (C : Bool) (cap : Int) (e : Ev) : Int :=
  if C = true then 101 else if e.ts < -1152921504606846976 ∨ 1152921504606846976 < e.ts then 29 else if e.ts ≤ M then 102 else if hasN A e.ts e.id = true then 103 else if cap ≤ (cntA A M : Int) then 104 else 0
theorem cntA_perm {l m : List Ev} (h : l.Perm m) (k : Int) : cntA l k = cntA m k := (h.filter _).length_eq
theorem cntA_app (l m : List Ev) (k : Int) : cntA (l ++ m) k = cntA l k + cntA m k := by unfold cntA; rw [List.filter_append, List.length_append]
theorem cntA_none {l : List Ev} {k : Int} (h : ∀ e ∈ l, e.ts ≤ k) : cntA l k = 0 := by
  unfold cntA
  rw [List.length_eq_zero_iff, List.filter_eq_nil_iff]
  intro a ha
  have := h a ha
  simp; omega
theorem cntA_all {l : List Ev} {k : Int} (h : ∀ e ∈ l, k < e.ts) : cntA l k = l.length := by
  unfold cntA
  rw [List.filter_eq_self.2 fun a ha => decide_eq_true (h a ha)]
theorem hasN_app (l m : List Ev) (ts id : Int) : hasN (l ++ m) ts id = (hasN l ts id || hasN m ts id) := by unfold hasN; rw [List.any_append]
theorem hasN_none {l : List Ev} {k ts id : Int} (h : ∀ e ∈ l, e.ts ≤ k) (hk : k < ts) : hasN l ts id = false := by
  cases hh : hasN l ts id with
  | false => rfl
  | true =>
    obtain ⟨y, h1, h2, _⟩ := hasN_true.1 hh
    have := h y h1
    omega
theorem rsn_eq {A T : List Ev} {M : Int} {C : Bool} {s : Gs} (I : TInv A T M C s) (hs : s.ok) (e : Ev) : rsn A M C s.cap e = s.pushC e := by
  unfold rsn Gs.pushC
  rw [I.cl]
  cases C with
  | true => rw [if_pos rfl, if_pos rfl]
  | false =>
    have hm := I.mrk rfl
    simp only [Bool.false_eq_true, if_false]
    rw [← hm]
    by_cases h1 : e.ts < -1152921504606846976 ∨ 1152921504606846976 < e.ts
    · rw [if_pos h1, if_pos h1]
    rw [if_neg h1, if_neg h1]
    by_cases h2 : e.ts ≤ s.mark
    · rw [if_pos h2, if_pos h2]
    rw [if_neg h2, if_neg h2]
    have e1 : hasN A e.ts e.id = hasN s.l e.ts e.id := by rw [← hasN_perm I.perm, hasN_app, hasN_none I.low (by omega), Bool.false_or]
    have e2 : cntA A s.mark = s.l.length := by rw [← cntA_perm I.perm, cntA_app, cntA_none I.low, cntA_all fun x hx => (hs.hi x hx).1, Nat.zero_add]
    rw [e1, e2]
theorem TInv.push {A T : List Ev} {M : Int} {C : Bool} {s : Gs} (I : TInv A T M C s) (e : Ev) (h : s.pushC e = 0) : TInv (A ++ [e]) T M C (s.push e) := by
  have e1 : s.push e = { s with l := ins evLt e s.l } := by unfold Gs.push; rw [if_pos h]
  rw [e1]
  unfold Gs.pushC at h
  split at h
  · cases h
  split at h
  · cases h
  split at h
  · cases h
  split at h
  · cases h
  rename_i h1 h2 h3 h4
  refine ⟨?_, ?_, I.low, I.cl, I.mrk⟩
  · show (T ++ ins evLt e s.l).Perm (A ++ [e])
    refine ((ins_perm e s.l).append_left T).trans ?_
    refine (List.perm_middle).trans ?_
    exact (List.Perm.cons e I.perm).trans (List.perm_append_singleton e A).symm
  · show (T ++ ins evLt e s.l).Pairwise _
    obtain ⟨p1, p2, p3⟩ := List.pairwise_append.1 I.ris
    refine List.pairwise_append.2 ⟨p1, ins_rising p2 (by simpa using h4), fun a ha b hb => ?_⟩
    rcases (ins_mem _ _ _).1 hb with e1 | e1
    · rw [e1, evLt_iff]
      have := I.low a ha
      omega
    · exact p3 a ha b e1
theorem TInv.adv {A T : List Ev} {M : Int} {C : Bool} {s : Gs} (I : TInv A T M C s) (m : Int) (h : s.advC m = 0) : TInv A (T ++ s.advL m) m C (s.adv m) := by
  have e1 : s.adv m = { s with mark := m, l := s.l.dropWhile (atM m) } := by unfold Gs.adv; rw [if_pos h]
  have e2 : s.advL m = s.l.takeWhile (atM m) := by unfold Gs.advL; rw [if_pos h]
  rw [e1, e2]
  unfold Gs.advC at h
  split at h
  · cases h
  split at h
  · cases h
  split at h
  · cases h
  have hj : (T ++ s.l.takeWhile (atM m)) ++ s.l.dropWhile (atM m) = T ++ s.l := by rw [List.append_assoc, List.takeWhile_append_dropWhile]
  refine ⟨by show ((T ++ s.l.takeWhile (atM m)) ++ s.l.dropWhile (atM m)).Perm A; rw [hj]; exact I.perm, by show ((T ++ s.l.takeWhile (atM m)) ++ s.l.dropWhile (atM m)).Pairwise _; rw [hj]; exact I.ris, fun e he => ?_, I.cl, fun _ => rfl⟩
  rcases List.mem_append.1 he with h1 | h1
  · have := I.low e h1
    show e.ts ≤ m
    omega
  · exact take_at e h1
theorem TInv.flu {A T : List Ev} {M : Int} {C : Bool} {s : Gs} (I : TInv A T M C s) (hs : s.ok) : TInv A (T ++ s.fluL) M true s.flu := by
  cases hc : s.cl with
  | true =>
    have e1 : s.flu = s := by unfold Gs.flu; rw [if_pos hc]
    have e2 : s.fluL = [] := by unfold Gs.fluL; rw [if_pos hc]
    rw [e1, e2, List.append_nil]
    exact ⟨I.perm, I.ris, I.low, hc, fun e => by cases e⟩
  | false =>
    have e1 : s.flu = { s with mark := 1152921504606846976, cl := true, l := [] } := by unfold Gs.flu; rw [if_neg (by rw [hc]; decide)]
    have e2 : s.fluL = s.l := by unfold Gs.fluL; rw [if_neg (by rw [hc]; decide)]
    rw [e1, e2]
    refine ⟨by show ((T ++ s.l) ++ []).Perm A; rw [List.append_nil]; exact I.perm, by show ((T ++ s.l) ++ []).Pairwise _; rw [List.append_nil]; exact I.ris, fun e he => ?_, rfl, fun e => by cases e⟩
    show e.ts ≤ 1152921504606846976
    rcases List.mem_append.1 he with h1 | h1
    · have := I.low e h1
      have := hs.m1
      omega
    · exact (hs.hi e h1).2
/-- What is told, in memory. -/
structure Tl (w : World) (tb N : Nat) (A T : List Ev) (M : Int) (C : Bool) (aA aT : Option Addr) (cA cT : Nat) : Prop where
  blk : Bk w tb #[.slice aA A.length cA, .slice aT T.length cT, .int .i64 M, .bool C] 59
  oA : w.ownsRow N 30 11 (.slice aA A.length cA) A.length (fl evC A)
  oT : w.ownsRow N 30 11 (.slice aT T.length cT) T.length (fl evC T)
  ap : ∀ k, (Value.slice aA A.length cA).ownBlock = some k → (Value.slice aT T.length cT).ownBlock ≠ some k
  lo : N ≤ tb
theorem Tl.keep {w u : World} {tb N : Nat} {A T : List Ev} {M : Int} {C : Bool} {aA aT : Option Addr} {cA cT : Nat} (t : Tl w tb N A T M C aA aT cA cT) (B : Below w.heap.size w u) : Tl u tb N A T M C aA aT cA cT := ⟨t.blk.keep B, own_keep t.oA B, own_keep t.oT B, t.ap, t.lo⟩
theorem Tl.frm {w u : World} {tb N : Nat} {A T : List Ev} {M : Int} {C : Bool} {aA aT : Option Addr} {cA cT : Nat} (t : Tl w tb N A T M C aA aT cA cT) {g : Nat} {S : Nat → Prop} {s : Gs} {k : Nat} (F : Frm S w u) (G : Gat w g S s k) : Tl u tb N A T M C aA aT cA cT := ⟨F.loc G t.blk (by decide) (by decide) (by decide), F.own G t.oA (by decide) (by decide) (by decide), F.own G t.oT (by decide) (by decide) (by decide), t.ap, t.lo⟩
set_option maxRecDepth 100000 in
set_option maxHeartbeats 4000000 in
theorem reason_any (tb N : Nat) (A T : List Ev) (M : Int) (C : Bool) (aA aT : Option Addr) (cA cT : Nat) (cap : Int) (e : Ev) (w : World) (t : Tl w tb N A T M C aA aT cA cT) (hA : A.length ≤ 9000000000000000000) :
    Calls Try.prog 34 #[.pointer (some ⟨tb, 0, none⟩), .int .i64 cap, .agg (evC e)] w fun r w' => r = .returned (.int .i64 (rsn A M C cap e)) ∧ Below w.heap.size w w' := by
  have B := galloc (Below.refl w.heap.size w) (.cells (evC e) 30)
  have b3 := Bk.new w (evC e) 30
  have tV := t.keep B
  generalize hV : w.alloc (.cells (evC e) 30) = V at *
  have d3 : V.cell? ⟨tb, 3, none⟩ = some (.bool C) := tV.blk.at4.2.2.2
  have d2 : V.cell? ⟨tb, 2, none⟩ = some (.int .i64 M) := tV.blk.at4.2.2.1
  have d0 : V.cell? ⟨tb, 0, none⟩ = some (.slice aA A.length cA) := tV.blk.at4.1
  have e0 : V.cell? ⟨w.heap.size, 0, none⟩ = some (.int .i64 e.ts) := cell_of_row V _ 0 _ _ _ b3
  cases hc : C with
  | true =>
    have eC : rsn A M true cap e = 101 := by unfold rsn; rw [if_pos rfl]
    rw [eC]
    rw [hc] at d3
    clear eC d2 d0
    go_enter Try.func34, Try.ntmps34
    go_wp2
    go_ret
    exact ⟨rfl, B⟩
  | false =>
    rw [hc] at d3
    by_cases h1 : e.ts < -1152921504606846976 ∨ 1152921504606846976 < e.ts
    · have eC : rsn A M false cap e = 29 := by unfold rsn; rw [if_neg (by decide), if_pos h1]
      rw [eC]
      clear eC d2 d0
      by_cases h1a : e.ts < -1152921504606846976
      · clear h1
        go_enter Try.func34, Try.ntmps34
        go_wp2
        go_ret
        exact ⟨rfl, B⟩
      · have h1b : 1152921504606846976 < e.ts := by omega
        clear h1
        go_enter Try.func34, Try.ntmps34
        go_wp2
        go_ret
        exact ⟨rfl, B⟩
    have h1a : -1152921504606846976 ≤ e.ts := by omega
    have h1b : e.ts ≤ 1152921504606846976 := by omega
    have hne0 : Nonempty (Ext V) := ⟨⟨_, Below.refl _ _⟩⟩
    have x0 := fun z : Ext V => (z.cell _ _ b3.lt).trans e0
    have y2 := fun z : Ext V => (z.cell _ _ tV.blk.lt).trans d2
    by_cases h2 : e.ts ≤ M
    · have eC : rsn A M false cap e = 102 := by unfold rsn; rw [if_neg (by decide), if_neg h1, if_pos h2]
      rw [eC]
      clear eC d2 d0 h1
      go_enter Try.func34, Try.ntmps34
      go_upto_region 5 with fail
      refine wp_region_ext (by kernel_rfl) (by kernel_rfl) ?_
      repeat go_big_quiet_step (fail)
      refine wpQuiet_nil ?_
      intro _ hw'
      obtain ⟨n1, hw''⟩ := hw'
      subst hw''
      go_wp2
      go_ret
      exact ⟨rfl, gtrans B n1.h⟩
    have h2' : decide (e.ts ≤ M) = false := decide_eq_false h2
    obtain ⟨bb, hbb⟩ : ∃ bb, hasN A e.ts e.id = bb := ⟨_, rfl⟩
    have hpos := cntN_pos A e.ts e.id
    rw [hbb] at hpos
    have hcl := cntN_le A e.ts e.id
    have HR1 : Hid (bb = true → rsn A M false cap e = 103) := fun h => by unfold rsn; rw [if_neg (by decide), if_neg h1, if_neg h2, hbb, if_pos h]
    have HR2 : Hid (bb = false → cap ≤ (cntA A M : Int) → rsn A M false cap e = 104) := fun h h' => by unfold rsn; rw [if_neg (by decide), if_neg h1, if_neg h2, hbb, if_neg (by rw [h]; decide), if_pos h']
    have HR3 : Hid (bb = false → ¬ cap ≤ (cntA A M : Int) → rsn A M false cap e = 0) := fun h h' => by unfold rsn; rw [if_neg (by decide), if_neg h1, if_neg h2, hbb, if_neg (by rw [h]; decide), if_neg h']
    have hca := cntA_le A M
    generalize hN : cntN A e.ts e.id = nn at *
    generalize hM : cntA A M = mm at *
    have hpi : decide ((0 : Int) < (nn : Int)) = bb := by rw [← hpos]; exact decide_eq_decide.2 (by omega)
    clear hbb hpos h1 h2
    go_enter Try.func34, Try.ntmps34
    go_upto_region 5 with fail
    refine wp_region_ext (by kernel_rfl) (by kernel_rfl) ?_
    repeat go_big_quiet_step (fail)
    refine wpQuiet_nil ?_
    intro _ hw'
    obtain ⟨n1, hw''⟩ := hw'
    subst hw''
    clear x0 y2 hne0
    have t1 := tV.keep n1.h
    have b4 := b3.keep n1.h
    have hne0 : Nonempty (Ext n1.X) := ⟨⟨_, Below.refl _ _⟩⟩
    have z0 := fun z : Ext n1.X => (z.cell _ _ t1.blk.lt).trans t1.blk.at4.1
    have c1 : ∀ z : Ext n1.X, Calls Try.prog 13 #[.slice aA A.length cA, .agg (evC e)] z.X (fun e w'' => e = .returned (.int .i64 (nn : Int)) ∧ ∃ m : Ext n1.X, w'' = m.X) := fun z => ext_of (by have := named_any aA cA A e z.X (own_flat (t1.keep z.h).oA) hA; rw [hN] at this; exact this)
    go_upto_region 7 with fail
    refine wp_region_ext (by kernel_rfl) (by kernel_rfl) ?_
    repeat (first
      | (refine wpQuiet_load_mid rfl 30 _ rfl w.heap.size 0 rfl (evC e) _ (fun X hX => by obtain ⟨nx, rfl⟩ := hX; exact rangeAt_keep b4.range nx.h) Try.underlying30 rfl infoEv _ rfl ?_; simp only [Act.put, List.setIfInBounds_toArray, List.set_cons_succ, List.set_cons_zero])
      | go_big_quiet_step (first | (go_at_call 13; with_reducible exact c1 _)))
    refine wpQuiet_nil ?_
    intro _ hw'
    obtain ⟨n2, hw''⟩ := hw'
    subst hw''
    clear z0 c1 hne0
    cases bb with
    | true =>
      have hp0 : 0 < nn := by have := of_decide_eq_true hpi; omega
      clear hpi
      go_wp2
      go_ret
      exact ⟨by rw [HR1.out (by simp)]; rfl, gtrans (gtrans B n1.h) n2.h⟩
    | false =>
      obtain rfl : nn = 0 := by have := of_decide_eq_false hpi; omega
      clear hpi
      have t2 := t1.keep n2.h
      have hne0 : Nonempty (Ext n2.X) := ⟨⟨_, Below.refl _ _⟩⟩
      have z0 := fun z : Ext n2.X => (z.cell _ _ t2.blk.lt).trans t2.blk.at4.1
      have z2 := fun z : Ext n2.X => (z.cell _ _ t2.blk.lt).trans t2.blk.at4.2.2.1
      have c1 : ∀ z : Ext n2.X, Calls Try.prog 44 #[.slice aA A.length cA, .int .i64 M] z.X (fun e w'' => e = .returned (.int .i64 (mm : Int)) ∧ ∃ m : Ext n2.X, w'' = m.X) := fun z => ext_of (by have := above_any aA cA A M z.X (own_flat (t2.keep z.h).oA) hA; rw [hM] at this; exact this)
      by_cases h4 : cap ≤ (mm : Int)
      · go_upto_region 9 with fail
        refine wp_region_ext (by kernel_rfl) (by kernel_rfl) ?_
        repeat (first
          | go_big_quiet_step (first | (go_at_call 44; with_reducible exact c1 _)))
        refine wpQuiet_nil ?_
        intro _ hw'
        obtain ⟨n3, hw''⟩ := hw'
        subst hw''
        go_wp2
        go_ret
        exact ⟨by rw [HR2.out (by simp) (by omega)]; rfl, gtrans (gtrans (gtrans B n1.h) n2.h) n3.h⟩
      · have h4' : decide (cap ≤ (mm : Int)) = false := decide_eq_false h4
        go_upto_region 9 with fail
        refine wp_region_ext (by kernel_rfl) (by kernel_rfl) ?_
        repeat (first
          | go_big_quiet_step (first | (go_at_call 44; with_reducible exact c1 _)))
        refine wpQuiet_nil ?_
        intro _ hw'
        obtain ⟨n3, hw''⟩ := hw'
        subst hw''
        go_wp2
        go_ret
        exact ⟨by rw [HR3.out (by simp) (by omega)]; rfl, gtrans (gtrans (gtrans B n1.h) n2.h) n3.h⟩

end Go.Proofs.Ytoehkpejdpejcaa
