/- For every string the law EventNames returns true: event's IsName is the document's. The listed variables hold what their texts lay (the card ties that to the text). No other condition. -/
import Derived.Test.YtlajjkhcffdcfaaDoorEvName2
import Derived.Test.YtlajjkhcffdcfaaDoorCards
import Derived.Test.YtlajjkhcffdcfaaDoorTie
import Derived.Carry
import Derived.ChangeMaps5
import Derived.SizedLaws
import Derived.Lib.SmallJoins
import Derived.Deep.DeepHandedRow
import Derived.Lay
namespace Go.Proofs.YtlajjkhcffdcfaaDoor.eventNames
open Go.ChangeShapes Go.WideShapes Go.ChangeAt Go.RowKit Go.BigFrame
set_option linter.unusedVariables false
set_option linter.unusedSimpArgs false

theorem inW_low {n : Int} (h : inW n = true) : n < 128 := by
  unfold inW letB digB at h
  simp at h
  omega
theorem inW_high {n : Int} (h : 128 ≤ n) : inW n = false := by
  cases e : inW n
  · rfl
  · have := inW_low e; omega
theorem digB_high {n : Int} (h : 128 ≤ n) : digB n = false := decide_eq_false (by omega)
theorem iter_below (w : World) (s : ByteArray) (q : Nat) : Below w.heap.size w (w.iter s q) := galloc (Below.refl _ _) _

theorem next_is (w : World) (s : ByteArray) (k : Nat) (h : k < s.size) : ∃ (r : Int) (q : Nat), (∀ ty, (Instr.next (.pointer (some ⟨w.heap.size, 0, none⟩)) true ty).run Tryd.prog (w.iter s k) = .ok (.tuple #[.bool true, .int .i64 k, .int .i32 r]) (w.iter s q)) ∧
    inW r = inW (at_ s k) ∧ digB r = digB (at_ s k) ∧ (inW (at_ s k) = true → q = k + 1) := by
  have e : ((s[k]'h).toNat : Int) = at_ s k := by
    unfold at_
    simp [ByteArray.getElem_eq_getElem_data, Array.getD, h]
  by_cases ha : (s[k]'h).toNat < 128
  · refine ⟨at_ s k, k + 1, fun ty => ?_, rfl, rfl, fun _ => rfl⟩
    rw [← e]
    exact run_next_ascii w s k ty h ha
  · have hd := decode_high s k h (by omega)
    refine ⟨(Utf8.decode s k).1, k + (Utf8.decode s k).2, fun ty => run_next_any w s k ty h, ?_, ?_, ?_⟩
    · rw [inW_high (by omega), inW_high (by omega)]
    · rw [digB_high (by omega), digB_high (by omega)]
    · intro hh
      have := inW_low hh
      omega

set_option maxRecDepth 100000 in
set_option maxHeartbeats 1000000 in
theorem isName_any (s : ByteArray) (hs : s.size ≤ 9223372036854775807) (w : World) (K : KwAt w) :
    Calls Tryd.prog 4 #[.string s] w fun e w' => e = .returned (.bool (nameB s)) ∧ Below w.heap.size w w' := by
  obtain ⟨v, hv⟩ : ∃ v, nameB s = v := ⟨_, rfl⟩
  rw [hv]
  have HV : Hid (nameB s = v) := hv
  clear hv
  obtain ⟨n, hn⟩ : ∃ n, s.size = n := ⟨_, rfl⟩
  by_cases h1 : n = 0
  · have q1 : ((n : Int) == 0) = true := by simp; omega
    go_enter Tryd.func4, Tryd.ntmps4
    go_wp2
    go_ret
    exact ⟨congrArg (fun b => Ending.returned (Value.bool b)) (Eq.trans (decide_eq_false (by rw [hn]; omega)).symm HV.out), Below.refl _ _⟩
  have q1 : ((n : Int) == 0) = false := by simp; omega
  by_cases h2 : 16 < n
  · have q2 : (16 : Int) < (n : Int) := by omega
    go_enter Tryd.func4, Tryd.ntmps4
    go_wp2
    go_ret
    exact ⟨congrArg (fun b => Ending.returned (Value.bool b)) (Eq.trans (decide_eq_false (by rw [hn]; omega)).symm HV.out), Below.refl _ _⟩
  have q2 : ¬ (16 : Int) < (n : Int) := by omega
  go_enter Tryd.func4, Tryd.ntmps4
  go_wp2
  go_loopw [3] (fun _ wr => ∃ t : Nat, t ≤ n ∧ wr = w.iter s t ∧ (∀ j, j < t → inW (at_ s j) = true) ∧ (0 < t → digB (at_ s 0) = false)) (fun _ wr => n - wr.iterPos w.heap.size)
  case atStart => exact ⟨0, Nat.zero_le _, rfl, fun j hj => absurd hj (Nat.not_lt_zero _), fun h => absurd h (Nat.lt_irrefl _)⟩
  case round =>
    obtain ⟨t, ht, rfl, hall, hdig⟩ := hrel
    by_cases hlt : t < n
    · obtain ⟨r, q, hnx, hin, hdg, hq⟩ := next_is w s t (by omega)
      have c1 := inWord_any r
      have c2 := isDigit_any r
      rw [hin] at c1
      rw [hdg] at c2
      cases hb : inW (at_ s t)
      · rw [hb] at c1
        have HB : Hid (¬ ∀ j, j < s.size → inW (at_ s j) = true) := fun e => by rw [e t (by omega)] at hb; exact absurd hb (by decide)
        clear hin hdg hq hb hdig c2 hall
        go_wp2_with (go_at_call 6; with_reducible refine (c1 _).mono ?_; rintro e u ⟨rfl, rfl⟩)
        go_ret
        exact ⟨congrArg (fun b => Ending.returned (Value.bool b)) (Eq.trans (decide_eq_false (fun e => HB.out e.2.2.1)).symm HV.out), iter_below _ _ _⟩
      · rw [hb] at c1
        obtain rfl := hq hb
        have HB : Hid (∀ j, j < t + 1 → inW (at_ s j) = true) := fun j hj => by
          rcases Nat.lt_or_ge j t with e | e
          · exact hall j e
          · obtain rfl : j = t := by omega
            exact hb
        by_cases h0 : t = 0
        · have z1 : ((t : Int) == 0) = true := by simp; omega
          cases hd : digB (at_ s t)
          · rw [hd] at c2
            have HD : Hid (digB (at_ s 0) = false) := by show _ = _; rw [h0] at hd; exact hd
            clear hin hdg hq hb hdig hall hd h0
            go_wp2_with (first
              | (go_at_call 6; with_reducible refine (c1 _).mono ?_; rintro e u ⟨rfl, rfl⟩)
              | (go_at_call 7; with_reducible refine (c2 _).mono ?_; rintro e u ⟨rfl, rfl⟩))
            go_roundw
            case rel => exact ⟨t + 1, by omega, rfl, HB.out, fun _ => HD.out⟩
            case measure => simp; omega
          · rw [hd] at c2
            have HD : Hid (digB (at_ s 0) = true) := by show _ = _; rw [h0] at hd; exact hd
            clear hin hdg hq hb hdig hall hd h0
            go_wp2_with (first
              | (go_at_call 6; with_reducible refine (c1 _).mono ?_; rintro e u ⟨rfl, rfl⟩)
              | (go_at_call 7; with_reducible refine (c2 _).mono ?_; rintro e u ⟨rfl, rfl⟩))
            go_ret
            exact ⟨congrArg (fun b => Ending.returned (Value.bool b)) (Eq.trans (decide_eq_false (fun e => by have h5 := e.2.2.2.1; rw [HD.out] at h5; exact absurd h5 (by decide))).symm HV.out), iter_below _ _ _⟩
        · have z1 : ((t : Int) == 0) = false := by simp; omega
          have HD : Hid (digB (at_ s 0) = false) := hdig (by omega)
          clear hin hdg hq hb hdig hall c2
          go_wp2_with (go_at_call 6; with_reducible refine (c1 _).mono ?_; rintro e u ⟨rfl, rfl⟩)
          go_roundw
          case rel => exact ⟨t + 1, by omega, rfl, HB.out, fun _ => HD.out⟩
          case measure => simp; omega
    · obtain rfl : t = n := by omega
      have hnx : ∀ ty, (Instr.next (.pointer (some ⟨w.heap.size, 0, none⟩)) true ty).run Tryd.prog (w.iter s t) = _ := fun ty => run_next_end w s t ty (by omega)
      have c := isKeyword_any s hs (fun j hj => by have := inW_low (hall j (by omega)); unfold at_ at this; omega) (w.iter s t) (K.keep (iter_below w s t))
      have HD : Hid (nameB s = !(keyB s)) := by
        show _ = _
        unfold nameB
        cases hk : keyB s
        · exact decide_eq_true ⟨by omega, by omega, fun j hj => hall j (by omega), hdig (by omega), rfl⟩
        · exact decide_eq_false (fun e => absurd e.2.2.2.2 (by decide))
      clear hall hdig
      generalize keyB s = y at *
      go_wp2_with (go_at_call 8; with_reducible refine c.mono ?_; rintro e u ⟨rfl, rfl⟩)
      go_ret
      exact ⟨congrArg (fun b => Ending.returned (Value.bool b)) (HD.out.symm.trans HV.out), iter_below _ _ _⟩

set_option maxHeartbeats 1000000 in
theorem walk (s : ByteArray) (hs : s.size ≤ 140737488351232) (w : World) (K : KwAt w) : Calls Tryd.prog 3 #[.string s] w fun e w' => e = .returned (.bool true) ∧ Below w.heap.size w w' := by
  have c1 := isName_any s (by omega) w K
  have c2 := fun (u : World) (g : Below w.heap.size w u) => refIsName_any s (by omega) u (K.keep g)
  generalize nameB s = z at *
  go_enter Tryd.func3, Tryd.ntmps3
  go_wp2_with (first
    | (go_at_call 4; with_reducible refine c1.mono ?_; rintro e u ⟨rfl, g⟩; replace c2 := c2 u g)
    | (go_at_call 5; with_reducible refine c2.mono ?_; rintro e u2 ⟨rfl, rfl⟩))
  go_ret
  exact ⟨by simp, g⟩

theorem own : ownKnob Tryd.prog.godebug = none := by kernel_rfl
theorem laidOut : laidOutB Tryd.prog = true := by kernel_rfl

theorem gKw : Tryd.prog.globalNamed "sluice/api.Keywords" = some 0 := by kernel_rfl
theorem tabs {W : World} (h : laidMetH Tryd.prog Rows.eventNamesRow.laid W) : KwAt W := by
  have h0 : laidMet Tryd.prog Rows.eventNamesRow.laid W := h
  exact kwAt_of (tabS (bss := kwl) gKw (by kernel_rfl) Tryd.underlying26 Tryd.underlying9 (by kernel_rfl) (laidMet_tail h0))

set_option maxRecDepth 100000 in
theorem contract (H : Type) (enc : TypeId × Value → H) (W : World) (base : Nat) (args : Array Value) (ds gs : List (DataW H)) (before : List MemPlace)
    (hval : ∀ (j : Nat) t v, Tryd.f3.params[j]? = some t → args[j]? = some v → Value.okWide Tryd.prog W .any base t v)
    (hsz : (DataW.weightsEach Tryd.prog (Tryd.f3.params.toList ++ Rows.eventNamesSpec.plain.varTypes Tryd.prog) (ds ++ gs)).all (· ≤ reachBytes) = true)
    (hW : DataW.Whole enc Tryd.prog Tryd.f3.params.toList Rows.eventNamesSpec.vars false W args.toList ds gs before) (hL : laidMetH Tryd.prog Rows.eventNamesRow.laid W) :
    Calls Tryd.prog 3 args W fun e W' => ∃ v, e = .returned v ∧ Rows.eventNamesSpec.post enc Tryd.prog Tryd.f3 false true false false W args v W' := by
  have hW' := hW
  obtain ⟨p, q, hA0, hV, rfl, hfz, hnd⟩ := hW
  have hA : DataW.TrodAll enc Tryd.prog W 0 (fun _ => true) true Tryd.f3.params.toList args.toList ds p := hA0
  rw [Tryd.params3] at hA hval hsz
  obtain ⟨v0, vs0, d0, ds0, p0, q0, hargs, rfl, rfl, h0, r0⟩ := trodAll_cons hA
  obtain ⟨rfl, rfl, rfl⟩ := trodAll_nil r0
  obtain rfl : args = #[v0] := by cases args; simp_all
  obtain ⟨rfl, rfl⟩ := trodVars_none hV
  have k0 := h0
  have lt0 : ∀ x ∈ p0, x.block < W.heap.size := by obtain ⟨m, hm⟩ := k0; exact DataW.trod_lt m _ _ _ hm
  obtain ⟨s0, e0, g0, _, _⟩ := Go.ChangeMaps.open_string Tryd.underlying9 (hval 0 9 v0 rfl rfl) h0
  subst e0
  have w0 : s0.size ≤ 140737488351232 := by
    have h1 := sized_string hsz (j := 0) (t := 9) rfl (congrArg some g0)
    have h2 : s0.data.toList.length = s0.size := Array.length_toList
    unfold reachBytes at h1
    omega
  clear hA0
  refine (walk s0 w0 W (tabs hL)).mono fun e W' ⟨he, bel⟩ => ?_
  subst he
  exact ⟨_, rfl, _, _, _, [], _, [], hW', trodAll_mk1 (shut_bool Tryd.underlying4 _), (trodAll_cons_mk (Below.trod laidOut (by kernel_rfl) (of_decide_eq_true (by kernel_rfl)) k0 bel lt0) trodAll_mk0), rfl, bel.frame _, fun h => by cases h⟩

/-- For the world of the witness: the settled one, the tables holding what their text lays. -/
def put (c : Array Value) : Obj → Obj
  | .cells _ t frozen => .cells c t frozen
  | x => x
theorem laid_met (os : Os) : laidMet Tryd.prog Rows.eventNamesRow.laid ((World.laidAll Tryd.prog os Rows.eventNamesRow.laid).forCall (fun _ _ => 0) ⟨#[], #[.string ByteArray.empty], []⟩).memory :=
  laidMet_laidAll _ (by kernel_rfl) (by kernel_rfl)
theorem reads (os : Os) {H : Type} (enc : TypeId × Value → H) : ∃ places, DataW.whole enc Tryd.prog ((World.laidAll Tryd.prog os Rows.eventNamesRow.laid).forCall (fun _ _ => 0) ⟨#[], #[.string ByteArray.empty], []⟩).memory Tryd.f3.params.toList Rows.eventNamesSpec.vars false (#[.string ByteArray.empty] : Array Value).toList 8 = some ([.lit (.string [])], [], places) :=
  ⟨[], by kernel_rfl⟩

set_option maxRecDepth 100000 in
theorem lifted (os : Os) (started : os.Started) (H : Type) (enc : TypeId × Value → H) (F : Stop.Interp) :
    ReturnsInHanded {} Tryd.checked os 3 .any ((OpenSpec.ofChange Rows.eventNamesSpec).preRow enc Tryd.prog Tryd.f3 Rows.eventNamesRow.domain false Rows.eventNamesRow.laid) (((OpenSpec.ofChange Rows.eventNamesSpec).at F).post enc Tryd.prog Tryd.f3 false true false false) := by
  obtain ⟨places, hx⟩ := reads os enc
  refine returnsInHanded_of_row (C := Tryd.checked) (s := OpenSpec.ofChange Rows.eventNamesSpec) own started (by kernel_rfl) Tryd.func3
    ⟨(World.laidAll Tryd.prog os Rows.eventNamesRow.laid), fun _ _ => 0, ⟨#[], #[.string ByteArray.empty], []⟩, World.laidAll_os _ _ _, World.shaped_of_ZipB (by kernel_rfl) (by kernel_rfl), rfl, (Input.okWide_of_okWideB (show Input.okWideB Tryd.prog ((World.laidAll Tryd.prog os Rows.eventNamesRow.laid).forCall (fun _ _ => 0) ⟨#[], #[.string ByteArray.empty], []⟩) 3 ⟨#[], #[.string ByteArray.empty], []⟩ = true by kernel_rfl)).2,
      OpenSpec.preRow_of_cond 8 hx (by kernel_rfl) (fun k hk => by cases hk) (by kernel_rfl) (laid_met os),
      by simp only [Assume.holds]; exact ⟨by simp, by simp, by simp, by simp, by simp⟩⟩ ?_
  intro W base args ds gs before hval hW _ _ hsz hL _ _
  exact contract H enc W base args ds gs before hval hsz hW hL

theorem said : Rows.EventNamesSaid :=
  OpenClaim.holds_of_cond 3 Tryd.f3 rfl rfl rfl rfl rfl rfl rfl ⟨rfl, rfl, rfl, rfl, rfl⟩ rfl rfl rfl rfl rfl (by kernel_rfl) Tryd.func3 (by kernel_rfl)
    (of_decide_eq_true (by kernel_rfl)) (by unfold Func.isWrapper; first | (rw [if_pos (by decide +kernel)]; kernel_rfl) | (rw [if_neg (by decide +kernel)]; exact ⟨rfl, rfl⟩))
    (fun os started H enc _ F => by rw [OpenClaim.pre_eq_preRow]; exact lifted os started H enc F)

theorem plain (f : FuncId) (fn : Func) (hf : Tryd.pinned.checked.prog.funcNamed "sluice/sluicelaw2.EventNames" = some f) (hfn : Tryd.pinned.checked.prog.funcs[f]? = some fn) :
    false = Tryd.pinned.checked.prog.looks [] ∧ ∀ (j : Nat) t, fn.params[j]? = some t → Tryd.pinned.checked.prog.wantsStandIn t = false := by
  obtain rfl : f = 3 := Option.some.inj ((show Tryd.prog.funcNamed "sluice/sluicelaw2.EventNames" = some 3 by kernel_rfl).symm.trans hf) |>.symm
  obtain rfl : fn = Tryd.f3 := (Option.some.inj (Tryd.func3.symm.trans hfn)).symm
  refine ⟨by kernel_rfl, fun j t ht => ?_⟩
  rw [Tryd.params3] at ht
  have hm : t = 9 := by simpa using Array.mem_of_getElem? ht
  rw [hm]
  exact (show Tryd.prog.wantsStandIn 9 = false by kernel_rfl)

end Go.Proofs.YtlajjkhcffdcfaaDoor.eventNames
namespace Go.Proofs.YtlajjkhcffdcfaaDoor
theorem eventNames_holds : Rows.EventNamesCardSaid :=
  Claim7.holds_tied_plain_at .later [] _ _ _ _ eventNames.said (fun _ h => by cases h) (by kernel_rfl) (fun _ h => by cases h) eventNames_row_tie rfl ⟨rfl, rfl⟩ (by kernel_rfl) rfl eventNames.plain (by kernel_rfl)
#print axioms eventNames_holds
end Go.Proofs.YtlajjkhcffdcfaaDoor
