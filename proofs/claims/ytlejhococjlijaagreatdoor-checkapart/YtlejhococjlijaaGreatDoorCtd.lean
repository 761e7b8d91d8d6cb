/- Sub: the program's side. -/
import Derived.Test.YtlejhococjlijaaGreatDoorCtc
import Derived.Test.YtlejhococjlijaaGreatDoorShn
import Derived.Deep.Onto
namespace Go.Proofs.YtlejhococjlijaaGreatDoor
open Go.RowKit Go.BigFrame Go.Proofs.YtlejhococjlijaaGreatDoor.Ev
set_option linter.unusedVariables false
set_option linter.unusedSimpArgs false

set_option maxRecDepth 100000 in
set_option maxHeartbeats 4000000 in
theorem shifted_any (a : Int) (ha : fI a) (f : Nat) (hf : f ≤ 2199023255488) (w : World) : Calls Tryz.prog 23 #[.int .i64 a, .int .i64 f] w fun e w' => e = .returned (.int .i64 (shI f a)) ∧ w = w' := by
  obtain ⟨h1, h2⟩ := ha
  unfold shI
  by_cases h : a < 0
  · rw [if_pos h]
    go_enter Tryz.func23, Tryz.ntmps23
    go_wp2
    go_ret
    exact ⟨rfl, rfl⟩
  · rw [if_neg h]
    have d : decide (a < 0) = false := decide_eq_false h
    go_enter Tryz.func23, Tryz.ntmps23
    go_wp2
    go_ret
    exact ⟨rfl, rfl⟩
/-- The first k are shifted. -/
def shL (f : Nat) (ns : List Nd) (k : Nat) : List Nd := (ns.take k).map (shN f) ++ ns.drop k
theorem shL_len (f : Nat) (ns : List Nd) (k : Nat) (h : k ≤ ns.length) : (shL f ns k).length = ns.length := by
  unfold shL
  simp
  omega
theorem shL_at (f : Nat) (ns : List Nd) (k : Nat) (h : k < ns.length) : (shL f ns k).getD k noNd = ns.getD k noNd := by
  unfold shL
  have hl : ((ns.take k).map (shN f)).length = k := by simp; omega
  rw [List.getD_eq_getElem?_getD, List.getD_eq_getElem?_getD, List.getElem?_append_right (by omega), hl, Nat.sub_self, List.getElem?_drop, Nat.add_zero]
theorem shL_step (f : Nat) (ns : List Nd) (k : Nat) (h : k < ns.length) : (shL f ns k).set k (shN f (ns.getD k noNd)) = shL f ns (k + 1) := by
  unfold shL
  have hl : ((ns.take k).map (shN f)).length = k := by simp; omega
  rw [List.set_append_right _ _ (by omega), hl, Nat.sub_self, List.take_add_one, List.getElem?_eq_getElem h, Option.toList_some, List.map_append, List.append_assoc]
  congr 1
  rw [List.drop_eq_getElem_cons h, List.getD_eq_getElem?_getD, List.getElem?_eq_getElem h]
  rfl
theorem nds_set2 (ns : List Nd) (k : Nat) (hk : k < ns.length) (a c : Int) : ((ndsV ns).set (k * 6 + 4) (.int .i64 a)).set (k * 6 + 5) (.int .i64 c) = ndsV (ns.set k ⟨(ns.getD k noNd).op, (ns.getD k noNd).n, (ns.getD k noNd).v, (ns.getD k noNd).x, a, c⟩) := by
  rw [nds_set ns k 4 hk (by decide) (.int .i64 a) ⟨(ns.getD k noNd).op, (ns.getD k noNd).n, (ns.getD k noNd).v, (ns.getD k noNd).x, a, (ns.getD k noNd).r⟩ rfl]
  have hg : (ns.set k ⟨(ns.getD k noNd).op, (ns.getD k noNd).n, (ns.getD k noNd).v, (ns.getD k noNd).x, a, (ns.getD k noNd).r⟩).getD k noNd = ⟨(ns.getD k noNd).op, (ns.getD k noNd).n, (ns.getD k noNd).v, (ns.getD k noNd).x, a, (ns.getD k noNd).r⟩ := by
    rw [List.getD_eq_getElem?_getD, List.getElem?_set_self hk]; rfl
  rw [nds_set _ k 5 (by simpa using hk) (by decide) (.int .i64 c) ⟨(ns.getD k noNd).op, (ns.getD k noNd).n, (ns.getD k noNd).v, (ns.getD k noNd).x, a, c⟩ (by rw [hg]; rfl), List.set_set]
theorem own_free {w : World} {base : Nat} {e : TypeId} {size g n cap : Nat} {xs : List Value} (h : w.ownsRow base e size (.slice (some ⟨g, 0, none⟩) n cap) n xs) (o : Nat) : w.frozen? ⟨g, o, none⟩ = false := by
  rcases h.2 with ⟨h', _⟩ | ⟨g', cap', cur, h', hb, hg, _⟩
  · simp at h'
  · simp only [Value.slice.injEq, Option.some.injEq, Addr.mk.injEq, and_true, true_and] at h'
    obtain ⟨rfl, rfl⟩ := h'
    simp [World.frozen?, hg]
/-- The subtree as a tree of its own. -/
def subO (ns : List Nd) (root : Int) : List Nd := if plB ns root = true then subL ns (bg (bsOf ns) root.toNat) root.toNat else []
set_option maxRecDepth 100000 in
set_option maxHeartbeats 8000000 in
theorem csub_any (ns : List Nd) (root : Int) (ao : Option Addr) (cap : Nat) (hcap : ns.length ≤ cap) (w : World) (A : IsNds w ao ns) (hr : ns.length * 64 ≤ 140737488351232) (hf : ∀ k, (ns.getD k noNd).fit) (K : KwAt w) :
    Calls Tryz.prog 9 #[.slice ao ns.length cap, .int .i64 root] w fun e w' => ∃ v, e = .returned v ∧ w'.ownsRow w.heap.size 29 6 v (subO ns root).length (ndsV (subO ns root)) ∧ Below w.heap.size w w' := by
  have c1 := isPlace_any ns root ao cap w A hr hf K
  unfold subO
  cases hp : plB ns root
  · rw [hp] at c1
    rw [if_neg (by decide)]
    go_enter Tryz.func9, Tryz.ntmps9
    go_wp2_with (go_at_call 20; (with_reducible refine c1.mono ?_); rintro e u ⟨rfl, g⟩)
    go_ret
    exact ⟨_, rfl, World.ownsRow_nil _ _ _ _, g⟩
  rw [hp] at c1
  rw [if_pos rfl]
  unfold plB at hp
  rw [Bool.and_eq_true] at hp
  obtain ⟨h1, h2⟩ := of_decide_eq_true hp.1
  obtain ⟨_, _, _, KN⟩ := tree_bs hp.2
  obtain ⟨r, rfl⟩ : ∃ r : Nat, root = (r : Int) := ⟨root.toNat, by omega⟩
  have c2 := fun (u : World) (g : Below w.heap.size w u) => begin_any ns (bsOf ns) KN r (by omega) ao cap u (A.keep g) hr
  have hle := (KN r (by omega)).le
  rw [Int.toNat_natCast]
  generalize bg (bsOf ns) r = b at *
  have hr2 : r < ns.length := by omega
  obtain ⟨g0, o0, rfl, _⟩ := A r hr2
  obtain ⟨m, hm⟩ : ∃ m, r + 1 - b = m := ⟨_, rfl⟩
  have As := nds_sub A b m (by omega)
  have hsl : ((ns.drop b).take m).length = m := by simp; omega
  have c3 := fun (u : World) (g : Below w.heap.size w u) (c : Nat) => clone_any _ _ c u (As.keep g) (by rw [hsl]; omega)
  rw [hsl] at c3
  have hS : Hid (subL ns b r = ((ns.drop b).take m).map (shN b)) := by show _ = _; unfold subL; rw [hm]
  have hsf : ∀ k, (((ns.drop b).take m).getD k noNd).fit := fun k => by
    rw [List.getD_eq_getElem?_getD, List.getElem?_take]
    split
    · rw [List.getElem?_drop, ← List.getD_eq_getElem?_getD]; exact hf _
    · exact noNd_fit
  generalize (ns.drop b).take m = ss at *
  obtain ⟨n, hn⟩ : ∃ n, ns.length = n := ⟨_, rfl⟩
  rw [hn] at c1 c2 hr h2 hr2 hcap ⊢
  have hbi : (b : Int) ≤ (r : Int) + 1 := by omega
  have hri : (r : Int) + 1 ≤ (cap : Int) := by omega
  have hri2 : (r : Int) ≤ 2199023255488 := by omega
  have hmi : (r : Int) + 1 - (b : Int) = (m : Int) := by omega
  clear KN hp A As hf
  go_enter Tryz.func9, Tryz.ntmps9
  go_wp2_with (first
    | (go_at_call 20; (with_reducible refine c1.mono ?_); rintro e u ⟨rfl, g⟩)
    | (go_at_call 21; (with_reducible refine (c2 _ g).mono ?_); rintro e u2 ⟨rfl, g2⟩)
    | (go_at_call 22; (with_reducible refine (c3 _ (gtrans g g2) _).mono ?_); rintro e u3 ⟨v3, rfl, O3, g3⟩; obtain ⟨vo, vc, rfl, _, _, _⟩ := own_form O3))
  obtain ⟨gv, rfl⟩ : ∃ gv, vo = some ⟨gv, 0, none⟩ := by
    rcases (own_form O3) with ⟨ao', c', e, _, _, hh | ⟨gq, e2, _⟩⟩
    · omega
    · cases e; exact ⟨gq, e2⟩
  have G3 := gtrans (gtrans g g2) g3
  have hgv : u2.heap.size ≤ gv := by
    rcases (own_form O3) with ⟨ao', c', e, _, _, hh | ⟨gq, e2, _, e3⟩⟩
    · omega
    · cases e; cases e2; exact e3
  have zz := (gtrans g g2).size
  have hO : Hid (u3.ownsRow u2.heap.size 29 6 (.slice (some ⟨gv, 0, none⟩) m vc) m (ndsV ss)) := O3
  clear O3 c1 c2 c3
  go_loopw [7, 23] (fun _ x wr => ∃ k : Nat, k ≤ m ∧ x = .int .i64 k ∧ wr.ownsRow u2.heap.size 29 6 (.slice (some ⟨gv, 0, none⟩) m vc) m (ndsV (shL b ss k)) ∧ Below w.heap.size w wr) (fun _ x _ => m - (intOf x).toNat)
  case atStart => exact ⟨0, Nat.zero_le _, rfl, hO.out, G3⟩
  case round =>
    obtain ⟨k, hk, rfl, O, G⟩ := hrel
    by_cases hlt : k < m
    · have hlen := shL_len b ss k (by omega)
      obtain ⟨g', o', e', x0, x1, x2, x3, x4, x5⟩ := nds_of_own (ns := shL b ss k) (b := u2.heap.size) (c := vc) (by rw [hlen, hsl]; exact O) k (by omega)
      cases e'
      rw [shL_at b ss k (by omega)] at x4 x5
      rw [Nat.zero_add] at x4 x5
      have cA := shifted_any (ss.getD k noNd).l (hsf k).l b (by omega)
      have cB := shifted_any (ss.getD k noNd).r (hsf k).r b (by omega)
      have O1 := (O.stored (k * 6 + 4) (.int .i64 (shI b (ss.getD k noNd).l))).1
      have O2 := (O1.stored (k * 6 + 5) (.int .i64 (shI b (ss.getD k noNd).r))).1
      rw [nds_set2 (shL b ss k) k (by omega), shL_at b ss k (by omega)] at O2
      replace O2 := show World.ownsRow _ _ _ _ _ _ (ndsV ((shL b ss k).set k (shN b (ss.getD k noNd)))) from O2
      rw [shL_step b ss k (by omega)] at O2
      have f4 := own_free O (k * 6 + 4)
      have f5 := own_free O (k * 6 + 5)
      have lg : gv < wr.heap.size := lt_of_cell x4
      clear x0 x1 x2 x3 O O1 hlen
      generalize (ss.getD k noNd).l = yl at *
      generalize (ss.getD k noNd).r = yr at *
      generalize shI b yl = zl at *
      generalize shI b yr = zr at *
      have hki : (k : Int) < (m : Int) := by omega
      have GE := gset (gset G (p := ⟨gv, k * 6 + 4, none⟩) (by dsimp only; omega) (.int .i64 zl)) (p := ⟨gv, k * 6 + 5, none⟩) (by dsimp only; omega) (.int .i64 zr)
      go_wp2_with (first | (go_at_call 23; (with_reducible refine (cA _).mono ?_); rintro e u ⟨rfl, rfl⟩) | (go_at_call 23; (with_reducible refine (cB _).mono ?_); rintro e u ⟨rfl, rfl⟩))
      go_roundw
      case rel => exact ⟨k + 1, by omega, by go_num, O2, GE⟩
      case measure => simp [intOf]; omega
    · obtain rfl : k = m := by omega
      have hS2 := hS.out
      rw [show shL b ss k = ss.map (shN b) by unfold shL; rw [List.take_of_length_le (by omega), List.drop_of_length_le (by omega), List.append_nil], ← hS2] at O
      have hl9 : (subL ns b r).length = k := by rw [hS2, List.length_map, hsl]
      go_wp2
      go_ret
      exact ⟨_, rfl, by rw [hl9]; exact World.ownsRow.mono O zz, G⟩

end Go.Proofs.YtlejhococjlijaaGreatDoor
