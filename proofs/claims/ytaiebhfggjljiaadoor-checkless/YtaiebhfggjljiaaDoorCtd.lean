/- Sub: the program's side. -/
import Derived.Test.YtaiebhfggjljiaaDoorCtb
import Derived.Test.YtaiebhfggjljiaaDoorCtc0
import Derived.Deep.Onto
namespace Go.Proofs.YtaiebhfggjljiaaDoor
open Go.RowKit Go.BigFrame Go.Proofs.YtaiebhfggjljiaaDoor.Ev
set_option linter.unusedVariables false
set_option linter.unusedSimpArgs false

def shI (f : Nat) (a : Int) : Int := if a < 0 then a else a - (f : Int)
def shN (f : Nat) (n : Nd) : Nd := ⟨n.op, n.n, n.v, n.x, shI f n.l, shI f n.r⟩
/-- The first k are shifted. -/
def shL (f : Nat) (ns : List Nd) (k : Nat) : List Nd := (ns.take k).map (shN f) ++ ns.drop k
theorem shL_len (f : Nat) (ns : List Nd) (k : Nat) (h : k ≤ ns.length) : (shL f ns k).length = ns.length := by
  unfold shL
  simp
  omega
theorem shL_at (f : Nat) (ns : List Nd) (k : Nat) (h : k < ns.length) : (shL f ns k).getD k noNd = ns.getD k noNd := by
  unfold shL
  have hl : ((ns.take k).map (shN f)).length = k := by simp; omega
  rw [List.getD_eq_getElem?_getD, List.getD_eq_getElem?_getD, List.getElem?_append_right (by omega), hl, Nat.sub_self, List.getElem?_drop, Nat.add_zero]
theorem shL_step (f : Nat) (ns : List Nd) (k : Nat) (h : k < ns.length) : (shL f ns k).set k (shN f (ns.getD k noNd)) = shL f ns (k + 1) := by
  unfold shL
  have hl : ((ns.take k).map (shN f)).length = k := by simp; omega
  rw [List.set_append_right _ _ (by omega), hl, Nat.sub_self, List.take_add_one, List.getElem?_eq_getElem h, Option.toList_some, List.map_append, List.append_assoc]
  congr 1
  rw [List.drop_eq_getElem_cons h, List.getD_eq_getElem?_getD, List.getElem?_eq_getElem h]
  rfl
theorem nds_set2 (ns : List Nd) (k : Nat) (hk : k < ns.length) (a c : Int) : ((ndsV ns).set (k * 6 + 4) (.int .i64 a)).set (k * 6 + 5) (.int .i64 c) = ndsV (ns.set k ⟨(ns.getD k noNd).op, (ns.getD k noNd).n, (ns.getD k noNd).v, (ns.getD k noNd).x, a, c⟩) := by
  rw [nds_set ns k 4 hk (by decide) (.int .i64 a) ⟨(ns.getD k noNd).op, (ns.getD k noNd).n, (ns.getD k noNd).v, (ns.getD k noNd).x, a, (ns.getD k noNd).r⟩ rfl]
  have hg : (ns.set k ⟨(ns.getD k noNd).op, (ns.getD k noNd).n, (ns.getD k noNd).v, (ns.getD k noNd).x, a, (ns.getD k noNd).r⟩).getD k noNd = ⟨(ns.getD k noNd).op, (ns.getD k noNd).n, (ns.getD k noNd).v, (ns.getD k noNd).x, a, (ns.getD k noNd).r⟩ := by
    rw [List.getD_eq_getElem?_getD, List.getElem?_set_self hk]; rfl
  rw [nds_set _ k 5 (by simpa using hk) (by decide) (.int .i64 c) ⟨(ns.getD k noNd).op, (ns.getD k noNd).n, (ns.getD k noNd).v, (ns.getD k noNd).x, a, c⟩ (by rw [hg]; rfl), List.set_set]
theorem own_free {w : World} {base : Nat} {e : TypeId} {size g n cap : Nat} {xs : List Value} (h : w.ownsRow base e size (.slice (some ⟨g, 0, none⟩) n cap) n xs) (o : Nat) : w.frozen? ⟨g, o, none⟩ = false := by
  rcases h.2 with ⟨h', _⟩ | ⟨g', cap', cur, h', hb, hg, _⟩
  · simp at h'
  · simp only [Value.slice.injEq, Option.some.injEq, Addr.mk.injEq, and_true, true_and] at h'
    obtain ⟨rfl, rfl⟩ := h'
    simp [World.frozen?, hg]
/-- The subtree as a tree of its own. -/
def subL (ns : List Nd) (f r : Nat) : List Nd := ((ns.drop f).take (r + 1 - f)).map (shN f)
def subO (ns : List Nd) (root : Int) : List Nd := if plB ns root = true then subL ns (bg (bsOf ns) root.toNat) root.toNat else []
end Go.Proofs.YtaiebhfggjljiaaDoor
