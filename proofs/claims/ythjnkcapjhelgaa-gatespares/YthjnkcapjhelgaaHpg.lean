/- The top cut off. -/
import Derived.Test.YthjnkcapjhelgaaHpf
import Derived.WalkSmall
namespace Go.Proofs.Ythjnkcapjhelgaa
open Go.RowKit Go.BigFrame
set_option linter.unusedVariables false
set_option linter.unusedSimpArgs false

theorem set_last {γ : Type} (l : List γ) (y : γ) (n : Nat) (hn : l.length = n + 1) : l.set n y = l.take n ++ [y] := by
  rw [List.set_eq_take_append_cons_drop, if_pos (by omega), List.drop_eq_nil_of_le (by omega)]
set_option maxHeartbeats 2000000 in
theorem evCut (p base g cap t : Nat) (h : List (Ev × Nat)) (z : Ev × Nat) (h0 : 0 < h.length) (w : World) (P : Pil 97 101 12 evC w p base (.slice (some ⟨g, 0, none⟩) h.length cap) h t) (hl : h.length ≤ 1000000000000000) :
    Calls Try.prog 57 #[.pointer (some ⟨p, 0, none⟩)] w fun e w' => e = .returned (.tuple #[]) ∧ Pil 97 101 12 evC w' p base (.slice (some ⟨g, 0, none⟩) (cutt z h).length cap) (cutt z h) t ∧ Gb p (.slice (some ⟨g, 0, none⟩) h.length cap) w w' := by
  obtain ⟨l, el⟩ : ∃ l, h.length = l + 1 := ⟨h.length - 1, by omega⟩
  have hlc : l ≤ cap := by have := (own_sl P.own).1; omega
  have gp : p ≠ g := P.pb g rfl
  have rl := own_range (cv := ldC evC) ev_lsize z P.own l (by omega)
  have HC : Hid (cutt z h = (h.set 0 (h.getD l z)).take l) := by unfold cutt; rw [el]; rfl
  generalize h.getD l z = xl at *
  have c0 := P.blk.at2.1
  have p0 := fun z : Ext w => (z.cell _ _ P.blk.lt).trans P.blk.at2.1
  have hne0 : Nonempty (Ext w) := ⟨⟨_, Below.refl _ _⟩⟩
  have q1 : (l : Int) < (h.length : Int) := by omega
  have q2 : (0 : Int) < (h.length : Int) := by omega
  have E1 : (h.length : Int) - 1 = (l : Int) := by omega
  have HL : Hid (h.length = l + 1) := el
  clear el
  go_enter Try.func57, Try.ntmps57
  go_wp2
  refine wp_region_ext_tail 11 (by kernel_rfl) (by kernel_rfl) ?_
  simp only [List.take_succ_cons, List.take_zero, List.drop_succ_cons, List.drop_zero]
  repeat (first
    | (refine wpQuiet_load_mid rfl 101 _ rfl g (l * 12) rfl (ldC evC xl) _ (fun X hX => by obtain ⟨nx, rfl⟩ := hX; exact rangeAt_keep rl nx.h) Try.underlying101 rfl infoLdE _ rfl ?_; simp only [Act.put, List.setIfInBounds_toArray, List.set_cons_succ, List.set_cons_zero])
    | go_big_quiet_step (fail))
  refine wpQuiet_nil ?_
  intro _ hw'
  obtain ⟨nx, hw''⟩ := hw'
  subst hw''
  have el : h.length = l + 1 := HL
  have O1 := own_keep P.own nx.h
  have pB := P.blk.keep nx.h
  have O2 := own_put (cv := ldC evC) ev_lsize O1 0 h0 xl
  rw [Nat.zero_mul, List.length_set] at O2
  have O3 := own_put (cv := ldC evC) (l := h.set 0 xl) ev_lsize (by rw [List.length_set]; exact O2) l (by rw [List.length_set]; omega) (zrEv, 0)
  rw [List.length_set, List.length_set] at O3
  have t1 := own_there O1 0 h0
  rw [Nat.zero_mul] at t1
  have t2 := own_there O2 l (by omega)
  have s1 := ev_one xl
  have s2 := ev_one (zrEv, 0)
  have pB1 : Bk (nx.X.setCells g 0 (ldC evC xl).toList) p #[.slice (some ⟨g, 0, none⟩) h.length cap, .int .i64 (t : Int)] 97 := (setCells_blk g _ _ _ p (by omega)).trans pB
  have pB2 : Bk ((nx.X.setCells g 0 (ldC evC xl).toList).setCells g (l * 12) (ldC evC (zrEv, 0)).toList) p #[.slice (some ⟨g, 0, none⟩) h.length cap, .int .i64 (t : Int)] 97 := (setCells_blk g _ _ _ p (by omega)).trans pB1
  rw [set_last (h.set 0 xl) (zrEv, 0) l (by rw [List.length_set]; exact el), fl_app] at O3
  rw [show h.length = l + 1 from el] at O3
  have O4 := ownsRow_pop (by rw [fl_len ev_lsize, List.length_take, List.length_set]; rw [Nat.min_eq_left (by omega)]) O3
  have oth : ∀ k, k ≠ g → ((nx.X.setCells g 0 (ldC evC xl).toList).setCells g (l * 12) (ldC evC (zrEv, 0)).toList).heap[k]? = nx.X.heap[k]? := fun k hk => by
    rw [setCells_blk g _ _ _ k hk, setCells_blk g _ _ _ k hk]
  have hz : ((nx.X.setCells g 0 (ldC evC xl).toList).setCells g (l * 12) (ldC evC (zrEv, 0)).toList).heap.size = nx.X.heap.size := by rw [setCells_size, setCells_size]
  have a1 := setCells_os g (ldC evC xl).toList 0 nx.X
  have a2 := setCells_os g (ldC evC (zrEv, 0)).toList (l * 12) (nx.X.setCells g 0 (ldC evC xl).toList)
  generalize hX1 : nx.X.setCells g 0 (ldC evC xl).toList = X1 at *
  generalize hX2 : X1.setCells g (l * 12) (ldC evC (zrEv, 0)).toList = X2 at *
  have d1 := pB1.at2.1
  have d2 := pB2.at2.1
  have f2 := pB2.free 0
  have B3 := pB2.set 0 (.slice (some ⟨g, 0, none⟩) l cap)
  clear el O1 O2 O3 c0
  unfold ldC zrEv at s2 hX2
  go_wp2_with (first
    | (refine wpList_store_mid rfl 101 _ _ rfl g 0 (ldC evC xl) rfl rfl t1 infoLdE s1 ?_; rw [hX1])
    | (refine wpList_store_mid rfl 101 _ _ rfl g (l * 12) (ldC evC (zrEv, 0)) rfl rfl t2 infoLdE s2 ?_; rw [show X1.setCells g (l * 12) (ldC evC (zrEv, 0)).toList = X2 from hX2]))
  have ec : cutt z h = (h.set 0 xl).take l := HC
  have el : h.length = l + 1 := HL
  have eln : ((h.set 0 xl).take l).length = l := by rw [List.length_take, List.length_set]; omega
  rw [ec, eln]
  refine bodyPost_end (results_none rfl _ _ _) rfl ⟨rfl, ⟨B3, ?_, P.pb⟩, ?_⟩
  · rw [eln]
    exact own_of_block O4 fun k cur hb hh => Below.heap_setCell X2 _ _ k (by
      show k ≠ p
      intro e
      rw [e, show X2.heap[p]? = _ from pB2] at hh
      simp at hh)
  · refine ⟨a2.1.trans (a1.1.trans nx.h.os), a2.2.1.trans (a1.2.1.trans nx.h.tape), a2.2.2.trans (a1.2.2.trans nx.h.output), ?_, fun k h1 h2 h3 => ?_⟩
    · have : (X2.setCell ⟨p, 0, none⟩ (.slice (some ⟨g, 0, none⟩) l cap)).heap.size = X2.heap.size := by simp
      rw [this, hz]
      exact nx.h.size
    · refine (Below.heap_setCell X2 _ _ k h2).trans ?_
      exact (oth k (fun e => h3 (by rw [e]; rfl))).trans (nx.h.block k h1)

end Go.Proofs.Ythjnkcapjhelgaa
