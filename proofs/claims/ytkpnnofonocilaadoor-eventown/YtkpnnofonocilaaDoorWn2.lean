/- What event's number and identity come to. -/
import Derived.Test.YtkpnnofonocilaaDoorWn
namespace Go.Proofs.YtkpnnofonocilaaDoor
open Go.RowKit Go.BigFrame Go.Shelf
set_option linter.unusedVariables false
set_option linter.unusedSimpArgs false

theorem uintM_dig (M : Nat) (l : List UInt8) : ∀ acc, digL l → Lib.parseUintM M acc l ≠ .«syntax» := by
  induction l with
  | nil => intro acc _ h; cases h
  | cons c r ih =>
    intro acc h h1
    have hc := h c (by simp)
    unfold Lib.parseUintM at h1
    rw [if_pos hc] at h1
    split at h1
    · cases h1
    · split at h1
      · cases h1
      · exact ih _ (fun d hd => h d (by simp [hd])) h1
theorem uintB_dig (l : List UInt8) (h0 : l ≠ []) (h : digL l) : Lib.parseUintB 64 l ≠ .«syntax» := by
  unfold Lib.parseUintB
  rw [if_neg h0]
  exact uintM_dig _ l 0 h
/-- Does it open with a minus? -/
def hasM (x : ByteArray) : Bool := decide (0 < x.size) && (at_ x 0 == 45)
def trimM (x : ByteArray) : ByteArray := if hasM x = true then x.extract 1 x.size else x
theorem sub_list (x : ByteArray) : (x.extract 1 x.size).data.toList = x.data.toList.drop 1 := by
  simp only [ByteArray.data_extract, Array.toList_extract, List.extract]
  rw [List.take_of_length_le (by rw [List.length_drop, Array.length_toList]; show _ ≤ x.data.size - 1; omega)]
theorem head_at (x : ByteArray) (c : UInt8) (r : List UInt8) (h : x.data.toList = c :: r) : at_ x 0 = (c.toNat : Int) ∧ 0 < x.size := by
  have hs : 0 < x.size := by
    have := congrArg List.length h
    rw [Array.length_toList] at this
    show 0 < x.data.size
    rw [this]
    exact Nat.zero_lt_succ _
  refine ⟨?_, hs⟩
  rw [at_byte x 0 hs]
  have h1 : x.data.toList[0]? = some c := by rw [h]; rfl
  have h2 : x.data[0]? = some c := by rw [← h1]; simp
  have h3 : x.data[0]'hs = c := by rw [Array.getElem?_eq_getElem hs] at h2; exact Option.some.inj h2
  exact congrArg (fun b : UInt8 => (b.toNat : Int)) h3
/-- The text's value, if it is a number. -/
def numO (x : ByteArray) : Option Int := if dgs (trimM x) = true then (match Lib.parseIntB 64 x.data.toList with | .ok v => some v | _ => none) else none
def idO (x : ByteArray) : Option Nat := if dgs x = true then (match Lib.parseUintB 64 x.data.toList with | .ok v => some v | _ => none) else none
theorem intB_no (x : ByteArray) (h : dgs (trimM x) = true) : Lib.parseIntB 64 x.data.toList ≠ .«syntax» := by
  have hd := of_decide_eq_true h
  unfold trimM at hd
  cases hl : x.data.toList with
  | nil =>
    have hm : hasM x = false := by
      unfold hasM
      have : ¬ 0 < x.size := fun hs => by
        have := congrArg List.length hl
        rw [Array.length_toList] at this
        have h2 : x.size = 0 := this
        omega
      rw [decide_eq_false this]; rfl
    rw [hm, if_neg (by decide), hl] at hd
    exact absurd rfl hd.1
  | cons c r =>
    obtain ⟨ha, hs⟩ := head_at x c r hl
    unfold Lib.parseIntB
    have key : Lib.parseUintB 64 (if c.toNat = 43 ∨ c.toNat = 45 then r else c :: r) ≠ .«syntax» := by
      by_cases h45 : c.toNat = 45
      · have hm : hasM x = true := by unfold hasM; rw [decide_eq_true hs, ha, h45]; rfl
        rw [hm, if_pos rfl, sub_list, hl] at hd
        rw [if_pos (.inr h45)]
        exact uintB_dig r hd.1 hd.2
      · have hm : hasM x = false := by
          unfold hasM
          rw [ha]
          have : ((c.toNat : Int) == 45) = false := by rw [beq_eq_false_iff_ne]; omega
          rw [this, Bool.and_false]
        rw [hm, if_neg (by decide), hl] at hd
        have := hd.2 c (by simp)
        rw [if_neg (by omega)]
        exact uintB_dig _ hd.1 hd.2
    intro h1
    cases h3 : Lib.parseUintB 64 (if c.toNat = 43 ∨ c.toNat = 45 then r else c :: r) with
    | «syntax» => exact key h3
    | range => simp only [h3] at h1; cases h1
    | ok u =>
      simp only [h3] at h1
      split at h1
      · cases h1
      · split at h1 <;> cases h1
theorem parseInt_ok (x : ByteArray) (hs : x.size ≤ 281474976710656) (v : Int) (h : Lib.parseIntB 64 x.data.toList = .ok v) (w : World) :
    Calls Tryd.prog 79 #[.string x, .int .i64 10, .int .i64 64] w fun e w' => e = .returned (.tuple #[.int .i64 v, .nilIface]) ∧ Below w.heap.size w w' :=
  (Any.strconv_ParseInt_10_at64_ok Sh.laysC_n174 x (by omega) v h w).mono fun e w' ⟨he, hw⟩ => ⟨he, by
    rcases hw with rfl | ⟨t, rfl⟩
    · exact Below.refl _ _
    · exact Lib.bytesWorld_below _ _ _⟩
theorem parseInt_range (x : ByteArray) (hs : x.size ≤ 281474976710656) (h : Lib.parseIntB 64 x.data.toList = .range) (w : World) (E : ErAt w) :
    Calls Tryd.prog 79 #[.string x, .int .i64 10, .int .i64 64] w fun e w' => (∃ n te pe, e = .returned (.tuple #[.int .i64 n, .iface te pe])) ∧ Below w.heap.size w w' := by
  obtain ⟨te, pe, hE⟩ := E
  exact (Any.strconv_ParseInt_10_at64_range Sh.laysC_n174 x hs h _ w hE (.inr ⟨te, pe, rfl⟩)).mono fun e w' ⟨N, he, _, _, hb⟩ => ⟨⟨_, _, _, he⟩, hb⟩
theorem intParseUint_any (x : ByteArray) (hs : x.size ≤ 281474976710656) (w : World) :
    Calls Tryd.prog 94 #[.string x, .int .i64 10, .int .i64 64] w fun e w' => e = .returned (Lib.uintTupleM 137 18446744073709551615 (Lib.parseUintB 64 x.data.toList)) ∧ Below w.heap.size w w' :=
  (Any.internal_strconv_ParseUint_10_at64 { Sh.laysC_n174 with } x (by omega) w).mono fun e w' ⟨he, hw⟩ => ⟨he, by
    rcases hw with rfl | rfl
    · exact Below.refl _ _
    · exact Lib.bytesWorld_below _ _ _⟩
theorem toErr_any (fn x : ByteArray) (hs : x.size ≤ 281474976710656) (w : World) (E : ErAt w) :
    Calls Tryd.prog 93 #[.string fn, .string x, .int .i64 10, .int .i64 64, .iface 137 (.int .i64 1)] w fun e w' => (∃ te pe, e = .returned (.iface te pe)) ∧ Below w.heap.size w w' := by
  obtain ⟨te, pe, hE⟩ := E
  exact (Any.strconv_toError_range { Sh.laysC_n174 with } fn x 10 64 _ w hs hE (.inr ⟨te, pe, rfl⟩)).mono fun e w' ⟨N, he, _, _, hb⟩ => ⟨⟨_, _, he⟩, hb⟩
set_option maxHeartbeats 4000000 in
theorem parseUint_ok (x : ByteArray) (hs : x.size ≤ 281474976710656) (v : Nat) (h : Lib.parseUintB 64 x.data.toList = .ok v) (w : World) :
    Calls Tryd.prog 81 #[.string x, .int .i64 10, .int .i64 64] w fun e w' => e = .returned (.tuple #[.int .u64 v, .nilIface]) ∧ Below w.heap.size w w' := by
  have c := intParseUint_any x hs w
  rw [h] at c
  replace c : Calls Tryd.prog 94 #[.string x, .int .i64 10, .int .i64 64] w fun e w' => e = .returned (.tuple #[.int .u64 v, .nilIface]) ∧ Below w.heap.size w w' := c
  clear h
  go_enter Tryd.func81, Tryd.ntmps81
  go_wp2_with (go_at_call 94; with_reducible refine c.mono ?_; rintro e u ⟨rfl, g⟩)
  go_ret2
  exact ⟨rfl, g⟩
set_option maxHeartbeats 4000000 in
theorem parseUint_range (x : ByteArray) (hs : x.size ≤ 281474976710656) (h : Lib.parseUintB 64 x.data.toList = .range) (w : World) (E : ErAt w) :
    Calls Tryd.prog 81 #[.string x, .int .i64 10, .int .i64 64] w fun e w' => (∃ n te pe, e = .returned (.tuple #[.int .u64 n, .iface te pe])) ∧ Below w.heap.size w w' := by
  have c := intParseUint_any x hs w
  rw [h] at c
  replace c : Calls Tryd.prog 94 #[.string x, .int .i64 10, .int .i64 64] w fun e w' => e = .returned (.tuple #[.int .u64 18446744073709551615, .iface 137 (.int .i64 1)]) ∧ Below w.heap.size w w' := c
  clear h
  go_enter Tryd.func81, Tryd.ntmps81
  go_wp2_with (first
    | (go_at_call 94; with_reducible refine c.mono ?_; rintro e u ⟨rfl, g⟩; have c2 := toErr_any ⟨#[80, 97, 114, 115, 101, 85, 105, 110, 116]⟩ x hs u (E.keep g))
    | (go_at_call 93; with_reducible refine c2.mono ?_; rintro e u2 ⟨⟨te, pe, rfl⟩, g2⟩))
  go_ret2
  exact ⟨⟨_, te, pe, rfl⟩, gtrans g g2⟩
theorem ext_list' (x : ByteArray) (h : 0 < x.size) : (x.extract 0 1).toList = [x.data[0]'h] := by
  rw [Lib.toList_data]
  simp only [ByteArray.data_extract, Array.toList_extract, List.extract]
  rw [List.drop_zero, List.take_one]
  have : x.data.toList.head? = some (x.data[0]'h) := by
    rw [List.head?_eq_getElem?]
    simp [h]
  rw [this]
  rfl
theorem hasM_slice (x : ByteArray) (h : 0 < x.size) : ((x.extract 0 1).toList == [45]) = (at_ x 0 == 45) := by
  have h1 := ext_list' x h
  rw [h1]
  rw [at_byte x 0 h]
  generalize hc : x[0]'h = c
  have h3 : x.data[0]'h = c := hc
  rw [h3]
  by_cases e : c = 45
  · subst e; rfl
  · have : ¬ ((c.toNat : Int) = 45) := fun e2 => e (UInt8.toNat_inj.1 (by show c.toNat = 45; omega))
    have e1 : ((c.toNat : Int) == 45) = false := by simpa using this
    rw [e1]
    simpa using e

end Go.Proofs.YtkpnnofonocilaaDoor
