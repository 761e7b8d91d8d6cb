/- Sorted. -/
import Derived.Test.YthjnkcapjhelgaaHpl
namespace Go.Proofs.Ythjnkcapjhelgaa
open Go.RowKit Go.BigFrame
set_option linter.unusedVariables false
set_option linter.unusedSimpArgs false

theorem evBuild0 (w : World) : (Instr.buildSlice 95 0 #[]).run Try.prog w = .ok (.slice (some ⟨w.heap.size, 0, none⟩) 0 0) (w.alloc (.cells #[] 101)) := by kernel_rfl
theorem ev_fones (h : List (Ev × Nat)) : ∀ u ∈ fl (ldC evC) h, u.oneCell' = true := fl_one ev_ones h
set_option maxRecDepth 100000 in
set_option maxHeartbeats 2000000 in
theorem evClone (base : Nat) (v : Value) (h : List (Ev × Nat)) (w : World) (O : w.ownsRow base 101 12 v h.length (fl (ldC evC) h)) (hl : (h.length + h.length / 4 + 192) * 96 ≤ 281474976710656) :
    Calls Try.prog 46 #[v] w fun e w' => ∃ v', e = .returned v' ∧ w'.ownsRow w.heap.size 101 12 v' h.length (fl (ldC evC) h) ∧ Below w.heap.size w w' := by
  rcases id O.2 with ⟨rfl, h0⟩ | ⟨g, cap, cur, rfl, hb, hh, hc, hm, hs, ht⟩
  · have e : h = [] := List.length_eq_zero_iff.1 h0
    subst e
    have hq : ∀ W : World, (binOp .eql 95 (.slice none 0 0) (.slice none 0 0)).run Try.prog W = .ok (.bool true) W := fun W => by kernel_rfl
    go_enter Try.func46, Try.ntmps46
    go_wp2
    go_ret
    exact ⟨_, rfl, World.ownsRow_nil _ _ _ _, Below.refl _ _⟩
  · have hbs := evBuild0 w
    have G0 := galloc (Below.refl w.heap.size w) (.cells #[] 101)
    have O0 := World.ownsRow_lit (base := w.heap.size) (e := 101) (size := 12) w #[] 0 (Nat.le_refl _) (Nat.zero_le _) rfl
    have F := (own_flat O).keep G0
    have hz := G0.size
    have hsl := own_sl O
    have hq : ∀ W : World, (binOp .eql 95 (.slice (some ⟨g, 0, none⟩) h.length cap) (.slice none 0 0)).run Try.prog W = .ok (.bool false) W := fun W => by kernel_rfl
    clear hh ht hbs
    go_enter Try.func46, Try.ntmps46
    go_wp2_with (first
      | (at_builtin; refine wpList_append_flatw rfl (.tmp 5) (.tmp 6) rfl Try.underlying95 nfLdE rfl (by decide) (.slice (some ⟨w.heap.size, 0, none⟩) 0 0) w.heap.size 0 [] rfl O0 hz (some ⟨g, 0, none⟩) h.length cap (fl (ldC evC) h) rfl hsl F (fl_len ev_lsize h) (ev_fones h) (by rw [Nat.zero_add]; exact hl) (by rw [Nat.zero_add]; omega) ?_; intro v' w6 O6 G6))
    go_ret
    refine ⟨v', rfl, by simpa using O6, G0.grown G6 hz (fun k e => ?_)⟩
    have : w.heap.size = k := by simpa [Value.ownBlock] using e
    omega
theorem evBuildP (v : Value) (ao : Option Addr) (n c : Nat) (e : v = .slice ao n c) (w : World) : (Instr.build 97 #[(0, v)]).run Try.prog w = .ok (.agg #[v, .int .i64 0]) w := by subst e; kernel_rfl
set_option maxRecDepth 100000 in
set_option maxHeartbeats 2000000 in
theorem evSorted (p base t : Nat) (v : Value) (L : List (Ev × Nat)) (w : World) (P : evPa w p base v L t) (hl : (L.length + L.length / 4 + 192) * 96 ≤ 281474976710656) : Calls Try.prog 37 #[.pointer (some ⟨p, 0, none⟩)] w fun e w' => ∃ g, e = .returned (.slice (some ⟨g, 0, none⟩) L.length L.length) ∧ w'.ownsRow w.heap.size 47 11 (.slice (some ⟨g, 0, none⟩) L.length L.length) L.length (fl evC (L.map Prod.fst)) ∧ Below w.heap.size w w' := by
  obtain ⟨h, P0, hp, H, O, T⟩ := P
  have hlen := hp.length_eq
  have c0 := P0.blk.at2.1
  have cC := evClone base v h w P0.own (by rw [hlen]; exact hl)
  have HL : Hid (h.length = L.length) := hlen
  clear hlen
  go_enter Try.func37, Try.ntmps37
  go_wp2_with (first
    | (go_at_call 46; (with_reducible refine cC.mono ?_); rintro e u ⟨v2, rfl, O2, G2⟩; obtain ⟨ao, cp, rfl, _⟩ := own_form O2; have P3 : evPa (u.alloc (.cells #[.slice ao h.length cp, .int .i64 0] 97)) u.heap.size w.heap.size (.slice ao h.length cp) L 0 := ⟨h, ⟨Bk.new u _ _, O2.alloc _, fun g e => by have := (World.ownsRow.lt O2 g e).2; omega⟩, hp, H, O, fun y hy => .inl rfl⟩; have c3 := evDrain u.heap.size w.heap.size 0 _ L _ P3 (by omega))
    | (go_at_call 47; (with_reducible refine c3.mono ?_); rintro e u3 ⟨rfl, O3, G3⟩))
  go_ret
  have hu : (u.alloc (.cells #[.slice ao h.length cp, .int .i64 0] 97)).heap.size = u.heap.size + 1 := by simp
  have hg := G2.size
  rw [hu] at O3
  exact ⟨_, rfl, own_mono O3 (by omega), G3.toBelow (galloc G2 _) (Nat.le_refl _) hg (fun k e => (World.ownsRow.lt O2 k e).1)⟩

end Go.Proofs.Ythjnkcapjhelgaa
