/- The numbers of an event line: what event's areDigits, number and identity come to. -/
import Derived.Test.YtkpnnofonocilaaDoorWl
import Derived.Test.YtkpnnofonocilaaDoorShelfE
import Derived.Shelf.Strconv.ParseIntPublic10
import Derived.MakeChecks
namespace Go.Proofs.YtkpnnofonocilaaDoor
open Go.RowKit Go.BigFrame Go.Shelf
set_option linter.unusedVariables false
set_option linter.unusedSimpArgs false

/-- The library's variable ErrRange holds an error. -/
def ErAt (w : World) : Prop := ∃ te pe, w.cell? ⟨3, 0, none⟩ = some (.iface te pe)
theorem ErAt.keep {w u : World} (h : ErAt w) (G : Below w.heap.size w u) : ErAt u := by
  obtain ⟨te, pe, h⟩ := h
  exact ⟨te, pe, (G.cell (p := ⟨_, 0, none⟩) (lt_of_cell h)).trans h⟩
theorem ErAt.apart {w u : World} {b : Nat} (h : ErAt w) (G : w.grownBy u (some b)) (hb : 3 ≠ b) : ErAt u := by
  obtain ⟨te, pe, h⟩ := h
  refine ⟨te, pe, ?_⟩
  have := G.block _ (lt_of_cell h) (fun e => hb (Option.some.inj e))
  simp only [World.cell?, this] at h ⊢
  exact h
/-- A variable that is listed as an interface value holds one. -/
theorem ifaceAt {P : Program} {W : World} {name dn : String} {d : DataW Unit} {rest : List (String × DataW Unit)} {g : Nat} {t : TypeId}
    (hg : P.globalNamed name = some g) (hty : (P.globals[g]?).map (·.type) = some t) (ht : ∃ ms, P.underlying t = some (.interface ms))
    (h : laidMet P ((name, .iface dn d) :: rest) W) : ∃ te pe, W.cell? ⟨g, 0, none⟩ = some (.iface te pe) := by
  obtain ⟨ps, ⟨g', t', cs, fuel, p, q, hg', ht', hvar, hd, _, _⟩, _⟩ := h
  obtain rfl := Option.some.inj (hg.symm.trans hg')
  obtain rfl := Option.some.inj (hty.symm.trans ht')
  obtain ⟨ms, ht⟩ := ht
  cases fuel with
  | zero => simp [DataW.trod] at hd
  | succ m =>
    unfold DataW.trod at hd
    rw [ht] at hd
    rw [World.var?_cell hg hvar]
    rcases cs with _ | ⟨c, _ | ⟨c2, r⟩⟩
    · simp at hd
    · cases c <;> simp at hd
      exact ⟨_, _, rfl⟩
    · simp at hd

def digL (l : List UInt8) : Prop := ∀ c ∈ l, 48 ≤ c.toNat ∧ c.toNat ≤ 57
instance (l : List UInt8) : Decidable (digL l) := by unfold digL; infer_instance
/-- Digits alone, and not none. -/
def dgs (x : ByteArray) : Bool := decide (x.data.toList ≠ [] ∧ digL x.data.toList)
theorem dgs_yes (x : ByteArray) (h0 : 0 < x.size) (h : ∀ j, j < x.size → digB (at_ x j) = true) : dgs x = true := by
  refine decide_eq_true ⟨fun e => ?_, fun c hc => ?_⟩
  · have := congrArg List.length e
    rw [Array.length_toList] at this
    have h1 : x.size = 0 := this
    omega
  · obtain ⟨j, hj, rfl⟩ := List.mem_iff_getElem.1 hc
    rw [Array.length_toList] at hj
    have h1 := h j hj
    rw [at_byte x j hj] at h1
    unfold digB at h1
    have h2 := of_decide_eq_true h1
    rw [Array.getElem_toList]
    have h3 : x.data[j] = x[j]'hj := rfl
    rw [h3]
    omega
theorem dgs_no (x : ByteArray) (j : Nat) (hj : j < x.size) (h : digB (at_ x j) = false) : dgs x = false := by
  refine decide_eq_false fun ⟨_, h2⟩ => ?_
  have h1 := h2 (x[j]'hj) (by show x.data[j] ∈ _; rw [Array.mem_toList_iff]; exact Array.getElem_mem _)
  rw [at_byte x j hj] at h
  unfold digB at h
  have := of_decide_eq_false h
  omega
theorem dgs_empty (x : ByteArray) (h : x.size = 0) : dgs x = false := by
  refine decide_eq_false fun ⟨h1, _⟩ => h1 ?_
  have : x.data.toList.length = 0 := by rw [Array.length_toList]; exact h
  exact List.eq_nil_of_length_eq_zero this
theorem rn_dig (s : ByteArray) (p : Nat) (h : p < s.size) : digB (rn s p) = digB (at_ s p) := by
  have hi : ∀ c : Int, 128 ≤ c → digB c = false := fun c h => decide_eq_false (by omega)
  rcases lo_or_hi (at_ s p) with e | e
  · rw [(dec_lo s p h e).1]
  · rw [hi _ e, hi _ (dec_hi s p h e).1]
theorem nx_dig (s : ByteArray) (p : Nat) (h : p < s.size) (hd : digB (at_ s p) = true) : nx s p = p + 1 := (dec_lo s p h (by unfold digB at hd; have := of_decide_eq_true hd; omega)).2
theorem isDigitR_any (n : Int) (w : World) : Calls Tryd.prog 65 #[.int .i32 n] w fun e w' => e = .returned (.bool (digB n)) ∧ w = w' := isDigit_any n w

set_option maxRecDepth 100000 in
set_option maxHeartbeats 4000000 in
theorem areDigits_any (x : ByteArray) (w : World) :
    Calls Tryd.prog 77 #[.string x] w fun e w' => e = .returned (.bool (dgs x)) ∧ Below w.heap.size w w' := by
  obtain ⟨z, hz⟩ : ∃ z, dgs x = z := ⟨_, rfl⟩
  rw [hz]
  have HZ : Hid (dgs x = z) := hz
  clear hz
  go_enter Tryd.func77, Tryd.ntmps77
  go_wp2
  go_loopw [4] (fun _ wr => ∃ t : Nat, t ≤ x.size ∧ wr = w.iter x t ∧ (∀ j, j < t → digB (at_ x j) = true)) (fun _ wr => x.size - wr.iterPos w.heap.size)
  case atStart => exact ⟨0, Nat.zero_le _, rfl, fun j hj => absurd hj (Nat.not_lt_zero _)⟩
  case round =>
    obtain ⟨t, ht, rfl, hd⟩ := hrel
    by_cases hlt : t < x.size
    · have hnx : ∀ ty, (Instr.next (.pointer (some ⟨w.heap.size, 0, none⟩)) true ty).run Tryd.prog (w.iter x t) = .ok (.tuple #[.bool true, .int .i64 t, .int .i32 (rn x t)]) (w.iter x (nx x t)) := fun ty => run_next_any w x t ty hlt
      have c1 := fun (u : World) => isDigitR_any (rn x t) u
      have hr := rn_dig x t hlt
      cases hb : digB (at_ x t)
      · rw [hr, hb] at c1
        have HB : Hid (z = false) := by show z = false; rw [← HZ.out]; exact dgs_no x t hlt hb
        generalize rn x t = r at *
        generalize nx x t = q at *
        clear hd hr hb
        go_wp2_with (go_at_call 65; with_reducible refine (c1 _).mono ?_; rintro e u ⟨rfl, rfl⟩)
        go_ret
        exact ⟨by rw [HB.out]; rfl, iter_below _ _ _⟩
      · rw [hr, hb] at c1
        have hq := nx_dig x t hlt hb
        rw [hq] at hnx
        have HB : Hid (∀ j, j < t + 1 → digB (at_ x j) = true) := fun j hj => by
          rcases Nat.lt_or_ge j t with e | e
          · exact hd j e
          · obtain rfl : j = t := by omega
            exact hb
        clear hd hr hb hq
        generalize rn x t = r at *
        go_wp2_with (go_at_call 65; with_reducible refine (c1 _).mono ?_; rintro e u ⟨rfl, rfl⟩)
        go_roundw
        case rel => exact ⟨t + 1, by omega, rfl, HB.out⟩
        case measure => simp; omega
    · obtain rfl : t = x.size := by omega
      have hnx : ∀ ty, (Instr.next (.pointer (some ⟨w.heap.size, 0, none⟩)) true ty).run Tryd.prog (w.iter x x.size) = _ := fun ty => run_next_end w x x.size ty (by omega)
      by_cases h0 : x.size = 0
      · have HB : Hid (z = false) := by show z = false; rw [← HZ.out]; exact dgs_empty x h0
        have e0 : (x.toList == []) = true := by
          rw [beq_iff_eq, Lib.toList_data]
          have : x.data.toList.length = 0 := by rw [Array.length_toList]; exact h0
          exact List.eq_nil_of_length_eq_zero this
        clear hd h0
        go_wp2
        go_ret
        exact ⟨by rw [HB.out]; first | rfl | simp [e0], iter_below _ _ _⟩
      · have HB : Hid (z = true) := by show z = true; rw [← HZ.out]; exact dgs_yes x (by omega) hd
        have e0 : (x.toList == []) = false := by
          rw [beq_eq_false_iff_ne]
          intro e
          rw [Lib.toList_data] at e
          have := congrArg List.length e
          rw [Array.length_toList] at this
          exact h0 this
        clear hd h0
        go_wp2
        go_ret
        exact ⟨by rw [HB.out]; first | rfl | simp [e0], iter_below _ _ _⟩

end Go.Proofs.YtkpnnofonocilaaDoor
