/- kindsFit: written by mkcic.py from Ckc's kinds. And what goes with it: 3 texts in one. -/
import Derived.Test.YtglagbedgjkdbaaGreatDoorJb05
import Derived.BigQuiet
import Derived.Deep.CutRange
namespace Go.Proofs.YtglagbedgjkdbaaGreatDoor
open Go.RowKit Go.BigFrame
set_option linter.unusedVariables false
set_option linter.unusedSimpArgs false

def kKid (t : List Nd) (op k : Int) : Bool := decide (0 ≤ k) && (kTr (t.getD k.toNat noNd).op != kJoin op)
def kFit (t : List Nd) (n : Nd) : Bool := if kKid t n.op n.l = true then false else if kKid t n.op n.r = true then false else true
theorem kIdx0 (x y : Int) (v : World) : (Instr.index 135 (.agg #[.int .i64 x, .int .i64 y]) (.int .i64 0)).run Tryz.prog v = .ok (.int .i64 x) v := by
  simp [Instr.index, run_underlying Tryz.underlying135, asIntOf, go_sem]
theorem kIdx1 (x y : Int) (v : World) : (Instr.index 135 (.agg #[.int .i64 x, .int .i64 y]) (.int .i64 1)).run Tryz.prog v = .ok (.int .i64 y) v := by
  simp [Instr.index, run_underlying Tryz.underlying135, asIntOf, go_sem]
set_option maxRecDepth 100000 in
set_option maxHeartbeats 8000000 in
theorem kindsFit_any (t : List Nd) (hr : t.length * 64 ≤ 140737488351232) (n : Nd) (hl0 : n.l < (t.length : Int)) (hr0 : n.r < (t.length : Int)) (ao : Option Addr) (cap : Nat) (w : World) (A : IsNds w ao t) :
    Calls Tryz.prog 60 #[.slice ao t.length cap, .agg #[.int .i64 n.op, .int .i64 n.n, .string n.v, .string n.x, .int .i64 n.l, .int .i64 n.r]] w fun e w' => e = .returned (.bool (kFit t n)) ∧ Below w.heap.size w w' := by
  have B0 := galloc (Below.refl w.heap.size w) (.cells #[.int .i64 n.op, .int .i64 n.n, .string n.v, .string n.x, .int .i64 n.l, .int .i64 n.r] 64)
  have N0 := Bk.new w #[.int .i64 n.op, .int .i64 n.n, .string n.v, .string n.x, .int .i64 n.l, .int .i64 n.r] 64
  obtain ⟨nop, nn, nv, nx, nl, nr⟩ := n
  dsimp only at *
  have AV := A.keep B0
  obtain ⟨r, hrr⟩ : ∃ r, kFit t ⟨nop, nn, nv, nx, nl, nr⟩ = r := ⟨_, rfl⟩
  rw [hrr]
  have HR : Hid ((if kKid t nop nl = true then false else if kKid t nop nr = true then false else true) = r) := hrr
  clear hrr
  go_enter Tryz.func60, Tryz.ntmps60
  go_wp2
  generalize w.alloc (.cells #[.int .i64 nop, .int .i64 nn, .string nv, .string nx, .int .i64 nl, .int .i64 nr] 64) = V at *
  go_loopw [6, 12] (fun _ x wr => (∃ k : Nat, k ≤ 2 ∧ x = .int .i64 k ∧ (1 ≤ k → kKid t nop nl = false) ∧ (2 ≤ k → kKid t nop nr = false)) ∧ Below V.heap.size V wr) (fun _ x _ => 2 - (intOf x).toNat)
  case atStart => exact ⟨⟨0, Nat.zero_le _, rfl, fun h => by omega, fun h => by omega⟩, Below.refl _ _⟩
  case round =>
    obtain ⟨⟨k, hk, rfl, hk1, hk2⟩, G⟩ := hrel
    obtain ⟨m0, m1, m2, m3, m4, m5⟩ := (N0.keep G).at6
    have BW := gtrans B0 G
    rcases (show k = 0 ∨ k = 1 ∨ k = 2 from by omega) with rfl | rfl | rfl
    · obtain ⟨b, hb⟩ : ∃ b, kKid t nop nl = b := ⟨_, rfl⟩
      have HK := show Hid (_ = _) from hb
      clear hb
      by_cases h0 : 0 ≤ nl
      · obtain ⟨z, rfl⟩ : ∃ z : Nat, nl = z := ⟨nl.toNat, by omega⟩
        obtain ⟨g, o, rfl, x0, x1, x2, x3, x4, x5⟩ := (AV.keep G) z (by omega)
        have hzi : (z : Int) < (t.length : Int) := by omega
        have hb2 : (kTr (t.getD z noNd).op != kJoin nop) = b := by
          have := HK.out
          unfold kKid at this
          rw [decide_eq_true h0] at this
          exact this
        have hne : Nonempty (Ext wr) := ⟨⟨_, Below.refl _ _⟩⟩
        have y1 : ∀ z' : Ext wr, Calls Tryz.prog 93 #[.int .i64 (t.getD z noNd).op] z'.X (fun e' w'' => e' = .returned (.bool (kTr (t.getD z noNd).op)) ∧ ∃ m : Ext wr, w'' = m.X) := fun z' => (kTruth_any _ z'.X).mono fun _ _ ⟨he, hw⟩ => ⟨he, z', hw⟩
        have y2 : ∀ z' : Ext wr, Calls Tryz.prog 94 #[.int .i64 nop] z'.X (fun e' w'' => e' = .returned (.bool (kJoin nop)) ∧ ∃ m : Ext wr, w'' = m.X) := fun z' => (kJoins_any _ z'.X).mono fun _ _ ⟨he, hw⟩ => ⟨he, z', hw⟩
        have ix := kIdx0
        have p0 := fun z' : Ext wr => (z'.cell _ _ (lt_of_cell x0)).trans x0
        have p1 := fun z' : Ext wr => (z'.cell _ _ (lt_of_cell m0)).trans m0
        generalize (t.getD z noNd).op = top at *
        generalize kTr top = tb at *
        generalize kJoin nop = jb at *
        clear x0 x1 x2 x3 x4 x5
        cases tb <;> cases jb
        all_goals
          have hb3 := hb2.symm
          simp at hb3
          subst hb3
          clear hb2
          go_wp2
          refine wp_region_ext (by kernel_rfl) (by kernel_rfl) ?_
          repeat (go_big_quiet_step (first | (go_at_call 93; with_reducible exact y1 _) | (go_at_call 94; with_reducible exact y2 _)))
          refine wpQuiet_nil ?_
          intro _ hw'
          obtain ⟨nw, hw''⟩ := hw'
          subst hw''
          have G2 := gtrans G nw.h
          have BW2 := gtrans BW nw.h
          generalize nw.X = X at *
          clear p0 p1 y1 y2 hne
          first
            | (have e : false = r := (by rw [← HR.out, if_pos HK.out])
               subst e
               go_wp2
               go_ret
               exact ⟨rfl, BW2⟩)
            | (go_wp2
               go_roundw
               case rel => exact ⟨⟨1, by omega, by go_num, fun _ => HK.out, fun h => by omega⟩, G2⟩
               case measure => simp [intOf])
      · have hb2 : b = false := by
          rw [← HK.out]
          unfold kKid
          rw [decide_eq_false h0]
          rfl
        subst hb2
        have d0 := decide_eq_false h0
        have ix := kIdx0
        have hne : Nonempty (Ext wr) := ⟨⟨_, Below.refl _ _⟩⟩
        go_wp2
        refine wp_region_ext (by kernel_rfl) (by kernel_rfl) ?_
        repeat (go_big_quiet_step (fail))
        refine wpQuiet_nil ?_
        intro _ hw'
        obtain ⟨nw, hw''⟩ := hw'
        subst hw''
        have G2 := gtrans G nw.h
        generalize nw.X = X at *
        go_wp2
        go_roundw
        case rel => exact ⟨⟨1, by omega, by go_num, fun _ => HK.out, fun h => by omega⟩, G2⟩
        case measure => simp [intOf]
    · obtain ⟨b, hb⟩ : ∃ b, kKid t nop nr = b := ⟨_, rfl⟩
      have HK := show Hid (_ = _) from hb
      clear hb
      by_cases h0 : 0 ≤ nr
      · obtain ⟨z, rfl⟩ : ∃ z : Nat, nr = z := ⟨nr.toNat, by omega⟩
        obtain ⟨g, o, rfl, x0, x1, x2, x3, x4, x5⟩ := (AV.keep G) z (by omega)
        have hzi : (z : Int) < (t.length : Int) := by omega
        have hb2 : (kTr (t.getD z noNd).op != kJoin nop) = b := by
          have := HK.out
          unfold kKid at this
          rw [decide_eq_true h0] at this
          exact this
        have hne : Nonempty (Ext wr) := ⟨⟨_, Below.refl _ _⟩⟩
        have y1 : ∀ z' : Ext wr, Calls Tryz.prog 93 #[.int .i64 (t.getD z noNd).op] z'.X (fun e' w'' => e' = .returned (.bool (kTr (t.getD z noNd).op)) ∧ ∃ m : Ext wr, w'' = m.X) := fun z' => (kTruth_any _ z'.X).mono fun _ _ ⟨he, hw⟩ => ⟨he, z', hw⟩
        have y2 : ∀ z' : Ext wr, Calls Tryz.prog 94 #[.int .i64 nop] z'.X (fun e' w'' => e' = .returned (.bool (kJoin nop)) ∧ ∃ m : Ext wr, w'' = m.X) := fun z' => (kJoins_any _ z'.X).mono fun _ _ ⟨he, hw⟩ => ⟨he, z', hw⟩
        have ix := kIdx1
        have p0 := fun z' : Ext wr => (z'.cell _ _ (lt_of_cell x0)).trans x0
        have p1 := fun z' : Ext wr => (z'.cell _ _ (lt_of_cell m0)).trans m0
        generalize (t.getD z noNd).op = top at *
        generalize kTr top = tb at *
        generalize kJoin nop = jb at *
        clear x0 x1 x2 x3 x4 x5
        cases tb <;> cases jb
        all_goals
          have hb3 := hb2.symm
          simp at hb3
          subst hb3
          clear hb2
          go_wp2
          refine wp_region_ext (by kernel_rfl) (by kernel_rfl) ?_
          repeat (go_big_quiet_step (first | (go_at_call 93; with_reducible exact y1 _) | (go_at_call 94; with_reducible exact y2 _)))
          refine wpQuiet_nil ?_
          intro _ hw'
          obtain ⟨nw, hw''⟩ := hw'
          subst hw''
          have G2 := gtrans G nw.h
          have BW2 := gtrans BW nw.h
          generalize nw.X = X at *
          clear p0 p1 y1 y2 hne
          first
            | (have e : false = r := (by rw [← HR.out, if_neg (by rw [hk1 (by omega)]; simp), if_pos HK.out])
               subst e
               go_wp2
               go_ret
               exact ⟨rfl, BW2⟩)
            | (go_wp2
               go_roundw
               case rel => exact ⟨⟨2, by omega, by go_num, fun _ => hk1 (by omega), fun _ => HK.out⟩, G2⟩
               case measure => simp [intOf])
      · have hb2 : b = false := by
          rw [← HK.out]
          unfold kKid
          rw [decide_eq_false h0]
          rfl
        subst hb2
        have d0 := decide_eq_false h0
        have ix := kIdx1
        have hne : Nonempty (Ext wr) := ⟨⟨_, Below.refl _ _⟩⟩
        go_wp2
        refine wp_region_ext (by kernel_rfl) (by kernel_rfl) ?_
        repeat (go_big_quiet_step (fail))
        refine wpQuiet_nil ?_
        intro _ hw'
        obtain ⟨nw, hw''⟩ := hw'
        subst hw''
        have G2 := gtrans G nw.h
        generalize nw.X = X at *
        go_wp2
        go_roundw
        case rel => exact ⟨⟨2, by omega, by go_num, fun _ => hk1 (by omega), fun _ => HK.out⟩, G2⟩
        case measure => simp [intOf]
    · have e : true = r := by rw [← HR.out, if_neg (by rw [hk1 (by omega)]; simp), if_neg (by rw [hk2 (by omega)]; simp)]
      subst e
      go_wp2
      go_ret
      exact ⟨rfl, BW⟩


end Go.Proofs.YtglagbedgjkdbaaGreatDoor
namespace Go.Proofs.YtglagbedgjkdbaaGreatDoor
open Go.RowKit Go.BigFrame Go.Proofs.YtglagbedgjkdbaaGreatDoor.Ev
set_option linter.unusedVariables false
set_option linter.unusedSimpArgs false

/-- What is asked of one node. -/
def runN (M : ByteArray → Option Int) (t : List Nd) (n : Nd) : Bool := kFit t n && (!kMent n.op || (M n.v).isSome)
def runB (M : ByteArray → Option Int) (t : List Nd) : Bool := treeB t && t.all (runN M t)
theorem tree_begs {ns : List Nd} (h : treeB ns = true) : ∃ bs, begsO ns [] = some bs ∧ 0 < ns.length := by
  unfold treeB at h
  cases hb : begsO ns [] with
  | none => rw [hb] at h; cases h
  | some bs => rw [hb] at h; exact ⟨bs, rfl, (of_decide_eq_true h).1⟩
theorem tree_bnd {ns : List Nd} (h : treeB ns = true) {i : Nat} (hi : i < ns.length) : (ns.getD i noNd).l < (i : Int) ∧ (ns.getD i noNd).r < (i : Int) ∧ 1 ≤ (ns.getD i noNd).op ∧ (ns.getD i noNd).op ≤ 26 := by
  obtain ⟨bs, hb, _⟩ := tree_begs h
  have k := kin_of hb i hi
  refine ⟨?_, ?_, k.op.1, k.op.2⟩
  · rcases k.how with ⟨_, _, e, _⟩ | ⟨_, e0, e, _⟩ | ⟨_, e0, e1, _, e, _⟩
    · omega
    · omega
    · have := (kin_of hb (i - 1) (by omega)).le
      omega
  · rcases k.how with ⟨_, _, _, e⟩ | ⟨_, e0, _, e, _⟩ | ⟨_, e0, e1, e, _⟩
    · omega
    · omega
    · omega
/-- All up to the k-th are well. -/
def runK (M : ByteArray → Option Int) (t : List Nd) (k : Nat) : Prop := ∀ i, i < k → runN M t (t.getD i noNd) = true
theorem run_all {M : ByteArray → Option Int} {t : List Nd} (h : treeB t = true) (hk : runK M t t.length) : runB M t = true := by
  unfold runB
  rw [h, Bool.true_and, List.all_eq_true]
  intro x hx
  obtain ⟨i, hi, rfl⟩ := List.getElem_of_mem hx
  have := hk i hi
  rwa [List.getD_eq_getElem?_getD, List.getElem?_eq_getElem hi] at this
theorem run_not {M : ByteArray → Option Int} {t : List Nd} {i : Nat} (hi : i < t.length) (h : runN M t (t.getD i noNd) = false) : runB M t = false := by
  unfold runB
  have : t.all (runN M t) = false := by
    rw [List.all_eq_false]
    refine ⟨t[i], List.getElem_mem hi, ?_⟩
    rw [List.getD_eq_getElem?_getD, List.getElem?_eq_getElem hi] at h
    exact ne_true_of_eq_false h
  rw [this, Bool.and_false]
set_option maxRecDepth 100000 in
set_option maxHeartbeats 4000000 in
theorem isRunnable_any (ns : List Nd) (ao : Option Addr) (cap b nb : Nat) (M : ByteArray → Option Int) (w : World) (K : KwAt w) (A : IsNds w ao ns) (MP : MpAt w b nb M) (hr : ns.length * 64 ≤ 140737488351232) (hf : ∀ k, (ns.getD k noNd).fit) :
    Calls Tryz.prog 36 #[.map (some b), .slice ao ns.length cap] w fun e w' => e = .returned (.bool (runB M ns)) ∧ Below w.heap.size w w' := by
  have c1 := shTree_any ns ao cap w K A hr hf
  cases ht : treeB ns with
  | false =>
    have hv : runB M ns = false := by unfold runB; rw [ht]; rfl
    rw [hv]
    rw [ht] at c1
    clear hv ht
    go_enter Tryz.func36, Tryz.ntmps36
    go_wp2_with (first | (go_at_call 31; (with_reducible refine c1.mono ?_); rintro e u ⟨rfl, g1⟩))
    go_ret
    exact ⟨rfl, g1⟩
  | true =>
    rw [ht] at c1
    have HT : Hid (treeB ns = true) := ht
    clear ht
    obtain ⟨v, hv⟩ : ∃ v, runB M ns = v := ⟨_, rfl⟩
    rw [hv]
    have HV : Hid (runB M ns = v) := hv
    clear hv
    go_enter Tryz.func36, Tryz.ntmps36
    go_upto_region 4 with (first | (go_at_call 31; (with_reducible refine c1.mono ?_); rintro e u ⟨rfl, g1⟩))
    have Au := A.keep g1
    have Mu := MP.keep g1
    clear c1
    obtain ⟨n, hn⟩ : ∃ n, ns.length = n := ⟨_, rfl⟩
    rw [hn] at hr ⊢
    go_loopw [6, 7, 8, 14] (fun _ _ _ x wr => ∃ k : Nat, k ≤ n ∧ x = .int .i64 (k : Int) ∧ runK M ns k ∧ Below u.heap.size u wr) (fun _ _ _ x _ => n - (intOf x).toNat)
    case atStart => exact ⟨0, Nat.zero_le _, rfl, fun i hi => absurd hi (Nat.not_lt_zero _), Below.refl _ _⟩
    case round =>
      obtain ⟨k, hk, rfl, hK, G⟩ := hrel
      by_cases hlt : k < n
      · obtain ⟨g, o, rfl, x0, x1, x2, x3, x4, x5⟩ := (Au.keep G) k (by omega)
        have hki : (k : Int) < (n : Int) := by omega
        have hb := tree_bnd HT.out (i := k) (by omega)
        have hv := (hf k).v
        have hstep : runN M ns (ns.getD k noNd) = true → runK M ns (k + 1) := fun h i hi => by
          by_cases e : i = k
          · rw [e]; exact h
          · exact hK i (by omega)
        have hno : runN M ns (ns.getD k noNd) = false → runB M ns = false := run_not (by omega)
        generalize ns.getD k noNd = y at *
        obtain ⟨yop, yn, yv, yx, yl, yr⟩ := y
        dsimp only at *
        have G1 := galloc (Below.refl wr.heap.size wr) (.cells #[.int .i64 yop, .int .i64 yn, .string yv, .string yx, .int .i64 yl, .int .i64 yr] 64)
        have N0 := Bk.new wr #[.int .i64 yop, .int .i64 yn, .string yv, .string yx, .int .i64 yl, .int .i64 yr] 64
        have c63 := kindsFit_any ns (by rw [hn]; exact hr) ⟨yop, yn, yv, yx, yl, yr⟩ (by dsimp only; omega) (by dsimp only; omega) (some ⟨g, o, none⟩) cap _ ((Au.keep G).keep G1)
        rw [hn] at c63
        dsimp only at c63
        have lk : ∀ u', Below (wr.alloc (.cells #[.int .i64 yop, .int .i64 yn, .string yv, .string yx, .int .i64 yl, .int .i64 yr] 64)).heap.size (wr.alloc (.cells #[.int .i64 yop, .int .i64 yn, .string yv, .string yx, .int .i64 yl, .int .i64 yr] 64)) u' → (Instr.lookup 82 (.map (some b)) (.string yv) true).run Tryz.prog u' = .ok (.tuple #[.int .i64 ((M yv).getD 0), .bool (M yv).isSome]) u' := fun u' B' => (((Mu.keep G).keep G1).keep B').look yv hv
        have GX := gtrans (gtrans g1 G) G1
        have GY := gtrans G G1
        have c64 := fun u' : World => kMention_any yop u'
        have HS := show Hid (_ → _) from hstep
        have HN := show Hid (_ → _) from hno
        obtain ⟨m, hm⟩ : ∃ m, (M yv).isSome = m := ⟨_, rfl⟩
        obtain ⟨mb, hmb⟩ : ∃ mb, kMent yop = mb := ⟨_, rfl⟩
        obtain ⟨kf, hkf⟩ : ∃ kf, kFit ns ⟨yop, yn, yv, yx, yl, yr⟩ = kf := ⟨_, rfl⟩
        have HF : Hid (runN M ns ⟨yop, yn, yv, yx, yl, yr⟩ = (kf && (!mb || m))) := by unfold Hid runN; rw [hkf, hmb, hm]
        rw [hm] at lk
        rw [hmb] at c64
        rw [hkf] at c63
        clear hm hmb hkf hstep hno hK hb
        have HL : Hid (k < n) := hlt
        clear hlt
        cases kf with
        | false =>
          have hv : v = false := HV.out.symm.trans (HN.out HF.out)
          subst hv
          clear lk
          go_wp2_with (first
            | (go_at_call 60; (with_reducible refine c63.mono ?_); rintro e u6 ⟨rfl, g6⟩))
          go_ret
          exact ⟨rfl, gtrans GX g6⟩
        | true =>
          cases mb <;> cases m
          all_goals
            go_wp2_with (first
              | (go_at_call 60; (with_reducible refine c63.mono ?_); rintro e u6 ⟨rfl, g6⟩; have lk6 := lk u6 g6; have b6 := (N0.keep g6).at6)
              | (go_at_call 61; (with_reducible refine (c64 _).mono ?_); rintro e u7 ⟨rfl, hu⟩; have hu' := hu.symm; subst hu'))
            first
              | (go_roundw
                 case rel => exact ⟨k + 1, HL.out, by go_num, HS.out HF.out, gtrans GY g6⟩
                 case measure => have hlt := HL.out; simp [intOf]; omega)
              | (go_ret
                 exact ⟨congrArg (fun b => Ending.returned (Value.bool b)) (HV.out.symm.trans (HN.out HF.out)).symm, gtrans GX g6⟩)
      · obtain rfl : k = n := by omega
        have q : ¬ (k : Int) < (k : Int) := by omega
        have hv : v = true := HV.out.symm.trans (run_all HT.out (by rw [hn]; exact hK))
        subst hv
        clear hlt
        go_wp2
        go_ret
        exact ⟨rfl, gtrans g1 G⟩

end Go.Proofs.YtglagbedgjkdbaaGreatDoor
namespace Go.Proofs.YtglagbedgjkdbaaGreatDoor
open Go.RowKit Go.BigFrame Go.Proofs.YtglagbedgjkdbaaGreatDoor.Ev
set_option linter.unusedVariables false
set_option linter.unusedSimpArgs false

theorem bytes_eqU {a b : ByteArray} : a.toList = b.toList ↔ a = b := by
  rw [ByteArray.toList_eq, ByteArray.toList_eq, Array.toList_inj]
  exact ⟨fun h => ByteArray.ext h, fun h => by rw [h]⟩
/-- The number of a variable's item; -1: none. -/
def itmI (l : List It) (s : ByteArray) : Int := (itemF l l.length s).getD (-1)
theorem itemF_some {l : List It} : ∀ {k : Nat} {s : ByteArray} {i : Int}, itemF l k s = some i → 0 ≤ i ∧ i < (k : Int) ∧ s = (l.getD i.toNat noIt).v ∧ ∀ j : Nat, (j : Int) < i → s ≠ (l.getD j noIt).v
  | 0, s, i, h => by cases h
  | k + 1, s, i, h => by
    unfold itemF at h
    cases hk : itemF l k s with
    | some j =>
      rw [hk] at h
      cases h
      obtain ⟨h1, h2, h3, h4⟩ := itemF_some hk
      exact ⟨h1, by omega, h3, h4⟩
    | none =>
      rw [hk] at h
      simp only at h
      split at h
      · rename_i e
        cases h
        refine ⟨by omega, by omega, by rw [Int.toNat_natCast]; exact e, fun j hj => ?_⟩
        exact itemF_none hk j (by omega)
      · cases h
where
  itemF_none {l : List It} : ∀ {k : Nat} {s : ByteArray}, itemF l k s = none → ∀ j, j < k → s ≠ (l.getD j noIt).v
  | 0, s, _, j, hj => by omega
  | k + 1, s, h, j, hj => by
    unfold itemF at h
    cases hk : itemF l k s with
    | some i => rw [hk] at h; cases h
    | none =>
      rw [hk] at h
      simp only at h
      split at h
      · cases h
      · rename_i e
        by_cases ej : j = k
        · subst ej; exact e
        · exact itemF_none hk j (by omega)
set_option maxRecDepth 100000 in
set_option maxHeartbeats 8000000 in
theorem lawItemOf_any (q : Qy) (hq : q.fit) (s : ByteArray) (hs : s.size ≤ 140737488351232) (cs : Array Value) (ai : Option Addr) (ci : Nat) (aw : Option Addr) (cw : Nat) (ar : Option Addr) (cr : Nat) (w : World) (A : IsQ w q cs ai ci aw cw ar cr) :
    Calls Tryz.prog 32 #[.agg cs, .string s] w fun e w' => e = .returned (.int .i64 (itmI q.items s)) ∧ Below w.heap.size w w' := by
  obtain ⟨he, Ai, _, _, si, _, _⟩ := A
  subst he
  have hnn := hq.n
  have B0 := galloc (Below.refl w.heap.size w) (.cells #[.slice ai q.items.length ci, .int .i64 q.mode, .int .i64 q.after, .slice aw q.wh.length cw, .int .i64 q.within, .string q.by_, .slice ar q.ret.length cr] 31)
  have S0 := Bk.new w #[.slice ai q.items.length ci, .int .i64 q.mode, .int .i64 q.after, .slice aw q.wh.length cw, .int .i64 q.within, .string q.by_, .slice ar q.ret.length cr] 31
  go_enter Tryz.func32, Tryz.ntmps32
  go_wp2
  generalize w.alloc (.cells #[.slice ai q.items.length ci, .int .i64 q.mode, .int .i64 q.after, .slice aw q.wh.length cw, .int .i64 q.within, .string q.by_, .slice ar q.ret.length cr] 31) = V at *
  go_loopw [5] (fun x wr => ∃ k : Nat, k ≤ q.items.length ∧ x = .int .i64 k ∧ itemF q.items k s = none ∧ Below V.heap.size V wr) (fun x _ => q.items.length - (intOf x).toNat)
  case atStart => exact ⟨0, Nat.zero_le _, rfl, rfl, Below.refl _ _⟩
  case round =>
    obtain ⟨k, hk, rfl, hF, G⟩ := hrel
    obtain ⟨s0, _⟩ := (S0.keep G).at7
    by_cases hlt : k < q.items.length
    · have hki : (k : Int) < (q.items.length : Int) := by omega
      obtain ⟨g, o, e1, a, c, x0, x1, x2, x3, x4, I, sl⟩ := (Ai.keep (gtrans B0 G)) k hlt
      rw [e1] at s0
      have hstep : itemF q.items (k + 1) s = if s = (q.items.getD k noIt).v then some (k : Int) else none := by
        show (match itemF q.items k s with | some i => some i | none => _) = _
        rw [hF]
      have hvz := (hq.its k).v
      have hmono : itemF q.items (k + 1) s = some (k : Int) → itmI q.items s = (k : Int) := fun h => by
        have go : ∀ m, k + 1 ≤ m → itemF q.items m s = some (k : Int) := by
          intro m hm
          induction m with
          | zero => omega
          | succ m ih =>
            by_cases e : m = k
            · subst e; exact h
            · show (match itemF q.items m s with | some i => some i | none => _) = _
              rw [ih (by omega)]
        unfold itmI
        rw [go _ (by omega)]
        rfl
      generalize (q.items.getD k noIt).v = iv at *
      by_cases e : s = iv
      · rw [if_pos e] at hstep
        have hI := show Hid (_ = _) from hmono hstep
        subst e
        clear hF hstep hmono x0 x1 x3 x4
        go_wp2
        go_ret
        exact ⟨by rw [hI.out]; rfl, gtrans B0 G⟩
      · rw [if_neg e] at hstep
        have ne1 : s.toList ≠ iv.toList := fun h => e (bytes_eqU.1 h)
        have ne2 : iv.toList ≠ s.toList := fun h => e (bytes_eqU.1 h.symm)
        have nb1 : (s.toList == iv.toList) = false := beq_eq_false_iff_ne.2 ne1
        have nb2 : (iv.toList == s.toList) = false := beq_eq_false_iff_ne.2 ne2
        have hS := show Hid (_ = _) from hstep
        clear hF hstep hmono x0 x1 x3 x4
        go_wp2
        go_roundw
        case rel => exact ⟨k + 1, by omega, by go_num, hS.out, by first | exact G | exact G.drew⟩
        case measure => simp [intOf]; omega
    · have hkn : k = q.items.length := by omega
      subst hkn
      have hI : Hid (itmI q.items s = -1) := by show _ = _; unfold itmI; rw [hF]; rfl
      clear hF
      go_wp2
      go_ret
      exact ⟨by rw [hI.out]; rfl, gtrans B0 G⟩

def ltB (op : Int) : Bool := decide (op = 2 ∨ op = 3 ∨ op = 13 ∨ 19 ≤ op)
set_option maxHeartbeats 1000000 in
theorem lawTruth_any (op : Int) (w : World) : Calls Tryz.prog 33 #[.int .i64 op] w fun e w' => e = .returned (.bool (ltB op)) ∧ w' = w := by
  by_cases h2 : op = 2
  · subst h2
    go_enter Tryz.func33, Tryz.ntmps33
    go_wp2
    go_ret
    exact ⟨rfl, rfl⟩
  have e2 : (op == 2) = false := beq_eq_false_iff_ne.2 h2
  by_cases h3 : op = 3
  · subst h3
    go_enter Tryz.func33, Tryz.ntmps33
    go_wp2
    go_ret
    exact ⟨rfl, rfl⟩
  have e3 : (op == 3) = false := beq_eq_false_iff_ne.2 h3
  by_cases h13 : op = 13
  · subst h13
    go_enter Tryz.func33, Tryz.ntmps33
    go_wp2
    go_ret
    exact ⟨rfl, rfl⟩
  have e13 : (op == 13) = false := beq_eq_false_iff_ne.2 h13
  by_cases h19 : 19 ≤ op
  · have hv : ltB op = true := decide_eq_true (.inr (.inr (.inr h19)))
    rw [hv]
    clear hv
    go_enter Tryz.func33, Tryz.ntmps33
    go_wp2
    go_ret
    exact ⟨rfl, rfl⟩
  · have hv : ltB op = false := decide_eq_false (by omega)
    rw [hv]
    clear hv
    go_enter Tryz.func33, Tryz.ntmps33
    go_wp2
    go_ret
    exact ⟨rfl, rfl⟩
theorem ltB_tr {op : Int} (h : 1 ≤ op ∧ op ≤ 26) : ltB op = kTr op := by
  unfold ltB kTr
  exact decide_eq_decide.2 (by omega)
/-- A node of a well shaped tree names a variable just if it is a mention. -/
theorem tree_var {ns : List Nd} (ht : treeB ns = true) {i : Nat} (hi : i < ns.length) : ((ns.getD i noNd).v = eS) ↔ kMent (ns.getD i noNd).op = false := by
  obtain ⟨bs, hb, _⟩ := tree_begs ht
  obtain ⟨_, h2⟩ := begs_at ns [] bs hb
  have h3 := h2 i hi
  have hne : ∀ {s : ByteArray}, nameB s = true → s ≠ eS := fun {s} h e => by
    subst e
    exact absurd h (by decide)
  have hm : kMent (ns.getD i noNd).op = false ↔ ¬ (4 ≤ (ns.getD i noNd).op ∧ (ns.getD i noNd).op ≤ 11) := decide_eq_false_iff_not
  rw [hm]
  by_cases hf : leafN (ns.getD i noNd) = true
  · have hx := (leafN_iff _).1 hf
    constructor
    · intro hv
      rcases hx with ⟨_, _, h⟩
      rcases h with h | h | h | h
      · omega
      · omega
      · exact absurd hv (hne h.2.2.1)
      · exact absurd hv (hne h.2.2.1)
    · intro hn
      rcases hx with ⟨_, _, h⟩
      rcases h with h | h | h | h
      · exact h.2.2.1
      · exact h.2.2.1
      · exact absurd h.1 (by omega)
      · exact absurd h.1 (by omega)
  · unfold nodeO at h3
    rw [if_neg hf] at h3
    have hbare : bareN (ns.getD i noNd) = true ∧ 12 ≤ (ns.getD i noNd).op := by
      split at h3
      · split at h3
        · rename_i h1 h4; exact ⟨h4.1, by omega⟩
        · cases h3
      · split at h3
        · split at h3
          · rename_i h1 h4 h5; exact ⟨h5.1, by omega⟩
          · cases h3
        · cases h3
    have hb2 := of_decide_eq_true hbare.1
    exact ⟨fun _ => by omega, fun _ => hb2.2.1⟩

set_option maxRecDepth 100000 in
set_option maxHeartbeats 16000000 in
theorem runnable_any (q : Qy) (hq : q.fit) (ns : List Nd) (ao : Option Addr) (cap : Nat) (cs : Array Value) (ai : Option Addr) (ci : Nat) (aw : Option Addr) (cw : Nat) (ar : Option Addr) (cr : Nat) (w : World) (K : KwAt w) (AQ : IsQ w q cs ai ci aw cw ar cr) (AN : IsNds w ao ns) (hr : ns.length * 64 ≤ 140737488351232) (hf : ∀ k, (ns.getD k noNd).fit) :
    Calls Tryz.prog 9 #[.agg cs, .slice ao ns.length cap] w fun e w' => e = .returned (.bool (runB (itemF q.items q.items.length) ns)) ∧ Below w.heap.size w w' := by
  obtain ⟨he, _⟩ := id AQ
  subst he
  have B0 := galloc (Below.refl w.heap.size w) (.cells #[.slice ai q.items.length ci, .int .i64 q.mode, .int .i64 q.after, .slice aw q.wh.length cw, .int .i64 q.within, .string q.by_, .slice ar q.ret.length cr] 31)
  have Q0 := Bk.new w #[.slice ai q.items.length ci, .int .i64 q.mode, .int .i64 q.after, .slice aw q.wh.length cw, .int .i64 q.within, .string q.by_, .slice ar q.ret.length cr] 31
  have hM : itemF q.items q.items.length = itemF q.items q.items.length := rfl
  obtain ⟨M, hMM⟩ : ∃ M, itemF q.items q.items.length = M := ⟨_, rfl⟩
  have cI := fun (s : ByteArray) (hs : s.size ≤ 140737488351232) (u : World) (G : Below w.heap.size w u) => lawItemOf_any q hq s hs _ ai ci aw cw ar cr u (AQ.keep G)
  unfold itmI at cI
  rw [hMM] at cI
  rw [hMM]
  have hM0 : ∀ s i, M s = some i → 0 ≤ i := fun s i h => by rw [← hMM] at h; exact (itemF_some h).1
  clear hM hMM
  have c1 := shTree_any ns ao cap _ (K.keep B0) (AN.keep B0) hr hf
  cases ht : treeB ns with
  | false =>
    have hv : runB M ns = false := by unfold runB; rw [ht]; rfl
    rw [hv]
    rw [ht] at c1
    clear hv ht
    go_enter Tryz.func9, Tryz.ntmps9
    go_wp2_with (first | (go_at_call 31; (with_reducible refine c1.mono ?_); rintro e u ⟨rfl, g1⟩))
    go_ret
    exact ⟨rfl, gtrans B0 g1⟩
  | true =>
    rw [ht] at c1
    have HT : Hid (treeB ns = true) := ht
    clear ht
    obtain ⟨v, hv⟩ : ∃ v, runB M ns = v := ⟨_, rfl⟩
    rw [hv]
    have HV : Hid (runB M ns = v) := hv
    clear hv
    go_enter Tryz.func9, Tryz.ntmps9
    go_upto_region 5 with (first | (go_at_call 31; (with_reducible refine c1.mono ?_); rintro e u ⟨rfl, g1⟩))
    have Qu := Q0.keep g1
    have Gu := gtrans B0 g1
    have Nu := AN.keep Gu
    clear c1
    obtain ⟨n, hn⟩ : ∃ n, ns.length = n := ⟨_, rfl⟩
    rw [hn] at hr ⊢
    go_loopw [6, 7, 8] (fun x _ _ wr => ∃ k : Nat, k ≤ n ∧ x = .int .i64 (k : Int) ∧ runK M ns k ∧ Below u.heap.size u wr) (fun x _ _ _ => n - (intOf x).toNat)
    case atStart => exact ⟨0, Nat.zero_le _, rfl, fun i hi => absurd hi (Nat.not_lt_zero _), Below.refl _ _⟩
    case round =>
      obtain ⟨k, hk, rfl, hK, G⟩ := hrel
      by_cases hlt : k < n
      · have hkn : k < ns.length := by omega
        have hki : (k : Int) < (n : Int) := by omega
        obtain ⟨hA, hB, ho1, ho2⟩ := tree_bnd HT.out hkn
        have hvar := tree_var HT.out hkn
        obtain ⟨g, o, rfl, x0, x1, x2, x3, x4, x5⟩ := (Nu.keep G) k hkn
        have G1 := galloc G (.cells (ndA (ns.getD k noNd)) 64)
        have N1 := Bk.new wr (ndA (ns.getD k noNd)) 64
        have Q1 := (Qu.keep G).alloc (.cells (ndA (ns.getD k noNd)) 64)
        have hfk := hf k
        have Nw := Nu.keep G1
        -- the operands' own operators
        have hop : ∀ z : Int, 0 ≤ z → z < (k : Int) → ∃ j : Nat, z = (j : Int) ∧ ltB (ns.getD z.toNat noNd).op = kTr (ns.getD z.toNat noNd).op ∧ (wr.alloc (.cells (ndA (ns.getD k noNd)) 64)).cell? ⟨g, o + j * 6, none⟩ = some (.int .i64 (ns.getD z.toNat noNd).op) := fun z h1 h2 => by
          obtain ⟨j, rfl⟩ : ∃ j : Nat, z = (j : Int) := ⟨z.toNat, by omega⟩
          obtain ⟨g', o', e', y0, _⟩ := Nw j (by omega)
          cases e'
          rw [Int.toNat_natCast]
          exact ⟨j, rfl, ltB_tr (by have := tree_bnd HT.out (show j < ns.length by omega); exact this.2.2), y0⟩
        have HN : Hid (runN M ns (ns.getD k noNd) = (kFit ns (ns.getD k noNd) && (!kMent (ns.getD k noNd).op || (M (ns.getD k noNd).v).isSome))) := rfl
        have hgo : runN M ns (ns.getD k noNd) = true → runK M ns (k + 1) := fun h i hi => by
          by_cases e : i = k
          · subst e; exact h
          · exact hK i (by omega)
        have hno : runN M ns (ns.getD k noNd) = false → v = false := fun h => by
          have := run_not hkn h
          rw [HV.out] at this
          exact this
        have HG := show Hid (_ → _) from hgo
        have HO := show Hid (_ → _) from hno
        have hjo : (decide ((ns.getD k noNd).op = 13 ∨ 25 ≤ (ns.getD k noNd).op)) = kJoin (ns.getD k noNd).op := by
          unfold kJoin
          exact decide_eq_decide.2 (by omega)
        unfold kFit kKid at HN
        generalize ns.getD k noNd = y at *
        obtain ⟨yop, yn, yv, yx, yl, yr⟩ := y
        unfold ndA at *
        dsimp only at *
        have nA : ¬ (k : Int) ≤ yl := by omega
        have nB : ¬ (k : Int) ≤ yr := by omega
        have hvz := hfk.v
        dsimp only at hvz
        have cIk := cI yv hvz _ (gtrans Gu G1)
        clear cI hf hgo hno
        go_upto_region 8 with fail
        generalize wr.alloc _ = V at *
        obtain ⟨m0, m1, m2, m3, m4, m5⟩ := N1.at6
        obtain ⟨t0, t1, t2, t3, t4, t5, t6⟩ := Q1.at7
        go_upto_region 10 with fail
        go_cut [42] from 33 to 42 (fun s wx => ((s = .bool true ∧ v = false) ∨ (s = .bool false ∧ (kMent yop = true → (M yv).isSome = true))) ∧ Below V.heap.size V wx)
        case first =>
          by_cases hv0 : yv = eS
          · have nm : kMent yop = false := hvar.1 hv0
            have e1 : yv.toList = [] := by rw [hv0, ByteArray.toList_eq]
            have e0 : yv.toList.isEmpty = true := by rw [e1]; rfl
            clear cIk e1 hv0
            go_wp2
            go_meet
            case rel => exact ⟨.inr ⟨rfl, (fun h => by rw [nm] at h; cases h)⟩, Below.refl _ _⟩
          · have nm : kMent yop = true := by
              cases h : kMent yop with
              | true => rfl
              | false => exact absurd (hvar.2 h) hv0
            have e1 : yv.toList ≠ [] := fun h => hv0 (bytes_eqU.1 (h.trans (by rw [ByteArray.toList_eq])))
            have e0 : yv.toList.isEmpty = false := by cases h : yv.toList with
              | nil => exact absurd h e1
              | cons _ _ => rfl
            cases hMv : M yv with
            | none =>
              rw [hMv] at cIk
              have hvf : v = false := HO.out (by rw [HN.out, nm, hMv]; exact Bool.and_false _)
              have HVF := show Hid _ from hvf
              have q1 : ((none : Option Int).getD (-1)) < 0 := by decide
              clear hMv hvf
              go_wp2_with (first | (go_at_call 32; (with_reducible refine cIk.mono ?_); rintro e u2 ⟨rfl, g2⟩))
              go_meet
              case rel => exact ⟨.inl ⟨rfl, HVF.out⟩, g2⟩
            | some i =>
              rw [hMv] at cIk
              have hi0 := hM0 yv i hMv
              have HMv : Hid ((M yv).isSome = true) := by show (M yv).isSome = true; rw [hMv]; rfl
              have q1 : ¬ ((some i : Option Int).getD (-1)) < 0 := by show ¬ i < 0; omega
              generalize (some i : Option Int).getD (-1) = z at cIk q1
              clear hMv
              go_wp2_with (first | (go_at_call 32; (with_reducible refine cIk.mono ?_); rintro e u2 ⟨rfl, g2⟩))
              go_meet
              case rel => exact ⟨.inr ⟨by simp [q1], fun _ => HMv.out⟩, g2⟩
        case rest =>
          obtain ⟨hms, G2⟩ := hcut
          have N2 := N1.keep G2
          have GG := gtrans (gtrans Gu G1) G2
          rcases hms with ⟨rfl, hvf⟩ | ⟨rfl, hms⟩
          · subst hvf
            go_wp2
            go_ret
            exact ⟨rfl, GG⟩
          obtain ⟨m0, m1, m2, m3, m4, m5⟩ := N2.at6
          go_upto_region 12 with fail
          go_cut [8] from 43 to 50 (fun s wx => s = .bool (kJoin yop) ∧ wx = wc)
          case first =>
            by_cases h13 : yop = 13
            · have h13' : (yop == 13) = true := beq_iff_eq.2 h13
              have hd : kJoin yop = true := hjo.symm.trans (decide_eq_true (.inl h13))
              clear h13
              go_wp2
              go_meet
              case rel => exact ⟨by rw [hd], rfl⟩
            have e13 : (yop == 13) = false := beq_eq_false_iff_ne.2 h13
            by_cases h25 : 25 ≤ yop
            · have hd : kJoin yop = true := hjo.symm.trans (decide_eq_true (.inr h25))
              go_wp2
              go_meet
              case rel => exact ⟨by rw [hd], rfl⟩
            · have hd : kJoin yop = false := hjo.symm.trans (decide_eq_false (by omega))
              go_wp2
              go_meet
              case rel => exact ⟨by rw [hd], rfl⟩
          case rest =>
            obtain ⟨rfl, hwx⟩ := hcut
            have hwx' := hwx.symm
            subst hwx'
            clear hwx

            obtain ⟨byl, hbyl⟩ : ∃ b, (decide (0 ≤ yl) && (kTr (ns.getD yl.toNat noNd).op != kJoin yop)) = b := ⟨_, rfl⟩
            have HByl : Hid ((decide (0 ≤ yl) && (kTr (ns.getD yl.toNat noNd).op != kJoin yop)) = byl) := hbyl
            clear hbyl
            obtain ⟨m0, m1, m2, m3, m4, m5⟩ := N2.at6
            go_upto_region 13 with fail
            go_cut [64] from 51 to 64 (fun s wx => s = .bool byl ∧ wx = wc)
            case first =>
              have hby := HByl.out
              by_cases h0 : 0 ≤ yl
              · obtain ⟨j, rfl, e1, e2⟩ := hop yl h0 (by omega)
                rw [decide_eq_true h0, Bool.true_and] at hby
                have ct := lawTruth_any (ns.getD (j : Int).toNat noNd).op wc
                have e3 := (G2.cell (p := ⟨_, _, none⟩) (lt_of_cell e2)).trans e2
                generalize (ns.getD (j : Int).toNat noNd).op = zop at *
                clear e2
                go_wp2_with (first | (go_at_call 33; (with_reducible refine ct.mono ?_); rintro e u2 ⟨rfl, hu⟩; have hu' := hu.symm; subst hu'))
                go_meet
                case rel => exact ⟨by rw [← hby]; rfl, rfl⟩
              · rw [decide_eq_false h0, Bool.false_and] at hby
                subst hby
                go_wp2
                go_meet
                case rel => exact ⟨rfl, rfl⟩
            case rest =>
              obtain ⟨rfl, hwx⟩ := hcut
              have hwx' := hwx.symm
              subst hwx'
              clear hwx
              cases byl with
              | true =>
                have hvf : v = false := HO.out (by rw [HN.out, HByl.out]; rfl)
                subst hvf
                go_wp2
                go_ret
                exact ⟨rfl, GG⟩
              | false =>
              obtain ⟨byr, hbyr⟩ : ∃ b, (decide (0 ≤ yr) && (kTr (ns.getD yr.toNat noNd).op != kJoin yop)) = b := ⟨_, rfl⟩
              have HByr : Hid ((decide (0 ≤ yr) && (kTr (ns.getD yr.toNat noNd).op != kJoin yop)) = byr) := hbyr
              clear hbyr
              obtain ⟨m0, m1, m2, m3, m4, m5⟩ := N2.at6
              go_upto_region 15 with fail
              go_cut [78] from 65 to 78 (fun s wx => s = .bool byr ∧ wx = wc)
              case first =>
                have hby := HByr.out
                by_cases h0 : 0 ≤ yr
                · obtain ⟨j, rfl, e1, e2⟩ := hop yr h0 (by omega)
                  rw [decide_eq_true h0, Bool.true_and] at hby
                  have ct := lawTruth_any (ns.getD (j : Int).toNat noNd).op wc
                  have e3 := (G2.cell (p := ⟨_, _, none⟩) (lt_of_cell e2)).trans e2
                  generalize (ns.getD (j : Int).toNat noNd).op = zop at *
                  clear e2
                  go_wp2_with (first | (go_at_call 33; (with_reducible refine ct.mono ?_); rintro e u2 ⟨rfl, hu⟩; have hu' := hu.symm; subst hu'))
                  go_meet
                  case rel => exact ⟨by rw [← hby]; rfl, rfl⟩
                · rw [decide_eq_false h0, Bool.false_and] at hby
                  subst hby
                  go_wp2
                  go_meet
                  case rel => exact ⟨rfl, rfl⟩
              case rest =>
                obtain ⟨rfl, hwx⟩ := hcut
                have hwx' := hwx.symm
                subst hwx'
                clear hwx
                cases byr with
                | true =>
                  have hvf : v = false := HO.out (by rw [HN.out, HByl.out, HByr.out]; rfl)
                  subst hvf
                  go_wp2
                  go_ret
                  exact ⟨rfl, GG⟩
                | false =>
                  have hrun : runN M ns ⟨yop, yn, yv, yx, yl, yr⟩ = true := by
                    rw [HN.out, HByl.out, HByr.out]
                    cases hm : kMent yop with
                    | false => rfl
                    | true => rw [hms hm]; rfl
                  have hnext := HG.out hrun
                  have HX := show Hid _ from hnext
                  have GU := gtrans G1 G2
                  clear hrun hnext
                  go_wp2
                  go_roundw
                  case rel => exact ⟨k + 1, by omega, by go_num, HX.out, GU⟩
                  case measure => simp [intOf]; omega
      · obtain rfl : k = n := by omega
        have hv : v = true := HV.out.symm.trans (run_all HT.out (by rw [hn]; exact hK))
        subst hv
        have hp0 : 0 < k := by
          obtain ⟨_, _, hp⟩ := tree_begs HT.out
          omega
        have hpos : (0 : Int) < (k : Int) := by omega
        clear hlt
        go_wp2
        go_ret
        exact ⟨rfl, gtrans Gu G⟩

end Go.Proofs.YtglagbedgjkdbaaGreatDoor
