/- For every list of nodes and every two places the law CheckApart returns true: a subtree's size is one and its operands' sizes, it is a tree with that node last, and a subtree of it is one of the tree; where there is none, there is nothing. The listed variables hold what their texts lay (the card ties that to the text). No other condition. -/
import Derived.Test.YtlejhococjlijaaGreatDoorShn
import Derived.Test.YtlejhococjlijaaGreatDoorWsa
import Derived.Test.YtlejhococjlijaaGreatDoorCtd
import Derived.Test.YtlejhococjlijaaGreatDoorCkn
import Derived.Test.YtlejhococjlijaaGreatDoorShf
import Derived.Deep.CutRange
import Derived.Test.YtlejhococjlijaaGreatDoorCards
import Derived.Test.YtlejhococjlijaaGreatDoorTie
import Derived.Carry
import Derived.ChangeMaps5
import Derived.SizedLaws
import Derived.Lib.SmallJoins
import Derived.Deep.DeepHandedRow
import Derived.Lay
namespace Go.Proofs.YtlejhococjlijaaGreatDoor
open Go.RowKit Go.BigFrame Go.Proofs.YtlejhococjlijaaGreatDoor.Ev
set_option linter.unusedVariables false
set_option linter.unusedSimpArgs false

theorem subL_len {ns : List Nd} {f r : Nat} (hr : r < ns.length) (hf : f ≤ r) : (subL ns f r).length = r + 1 - f := by
  unfold subL
  rw [List.length_map, List.length_take, List.length_drop]
  omega
theorem subL_at {ns : List Nd} {f r k : Nat} (hr : r < ns.length) (hk : f + k ≤ r) : (subL ns f r).getD k noNd = shN f (ns.getD (f + k) noNd) := by
  unfold subL
  rw [List.getD_eq_getElem?_getD, List.getElem?_map, List.getElem?_take_of_lt (by omega), List.getElem?_drop, List.getElem?_eq_getElem (by omega : f + k < ns.length), List.getD_eq_getElem?_getD, List.getElem?_eq_getElem (by omega : f + k < ns.length)]
  rfl
def dnL (f : Nat) (bs : List Int) : List Int := (bs.drop f).map (· - (f : Int))
theorem dnL_len (f : Nat) (bs : List Int) : (dnL f bs).length = bs.length - f := by unfold dnL; rw [List.length_map, List.length_drop]
theorem dnL_at {f : Nat} {bs : List Int} {j : Nat} (hj : f + j < bs.length) : (dnL f bs).getD j 0 = bs.getD (f + j) 0 - (f : Int) := by
  unfold dnL
  rw [List.getD_eq_getElem?_getD, List.getElem?_map, List.getElem?_drop, List.getElem?_eq_getElem hj, List.getD_eq_getElem?_getD, List.getElem?_eq_getElem hj]
  rfl
theorem leaf_dn {f : Nat} {x : Nd} (h : leafN x = true) : leafN (shN f x) = true := by
  unfold leafN at h ⊢
  have h := of_decide_eq_true h
  obtain ⟨h1, h2, h3⟩ := h
  refine decide_eq_true ⟨?_, ?_, h3⟩
  · show shI f x.l = -1
    unfold shI
    rw [h1, if_pos (by decide)]
  · show shI f x.r = -1
    unfold shI
    rw [h2, if_pos (by decide)]
theorem leaf_no {x : Nd} (h : 12 ≤ x.op) : leafN x = false := by
  unfold leafN
  refine decide_eq_false fun ⟨_, _, h3⟩ => ?_
  rcases h3 with h3 | h3 | h3 | h3 <;> omega
theorem nodeO_dn {f : Nat} {x : Nd} {bs : List Int} (hf : f ≤ bs.length) (hB : Bgs bs) {c : Int} (h : nodeO x bs = some c) (hc : (f : Int) ≤ c) : nodeO (shN f x) (dnL f bs) = some (c - (f : Int)) := by
  by_cases hl : leafN x = true
  · unfold nodeO at h ⊢
    rw [if_pos hl] at h
    rw [if_pos (leaf_dn hl), dnL_len]
    cases h
    congr 1
    omega
  unfold nodeO at h
  rw [if_neg hl] at h
  by_cases h1 : x.op = 12 ∨ x.op = 13
  · rw [if_pos h1] at h
    split at h
    · rename_i hcc
      obtain ⟨c1, c2, c3, c4⟩ := hcc
      have hpos : 0 < bs.length := List.length_pos_iff.2 c2
      have hb := hB (bs.length - 1) (by omega)
      cases h
      unfold nodeO
      rw [if_neg (by rw [leaf_no (show 12 ≤ (shN f x).op by show 12 ≤ x.op; omega)]; decide), if_pos (show (shN f x).op = 12 ∨ (shN f x).op = 13 from h1),
        if_pos ⟨c1, (fun e => by have := congrArg List.length e; rw [dnL_len, List.length_nil] at this; omega), (by show shI f x.l = _; unfold shI; rw [dnL_len, if_neg (by omega)]; omega), (by show shI f x.r = _; unfold shI; rw [c4, if_pos (by decide)])⟩, dnL_len, dnL_at (by omega), show f + (bs.length - f - 1) = bs.length - 1 by omega]
    · cases h
  rw [if_neg h1] at h
  split at h
  · rename_i h2
    split at h
    · rename_i hcc
      obtain ⟨c1, c2, c3, c4, c5⟩ := hcc
      have hpos : 0 < bs.length := List.length_pos_iff.2 c2
      have hb := hB (bs.length - 1) (by omega)
      have hb2 := hB (bs.getD (bs.length - 1) 0 - 1).toNat (by omega)
      cases h
      unfold nodeO
      have e1 : (dnL f bs).getD ((dnL f bs).length - 1) 0 = bs.getD (bs.length - 1) 0 - (f : Int) := by
        rw [dnL_len, dnL_at (by omega), show f + (bs.length - f - 1) = bs.length - 1 by omega]
      rw [if_neg (by rw [leaf_no (show 12 ≤ (shN f x).op by show 12 ≤ x.op; omega)]; decide), if_neg (show ¬ ((shN f x).op = 12 ∨ (shN f x).op = 13) from h1), if_pos (show 14 ≤ (shN f x).op ∧ (shN f x).op ≤ 26 from h2), e1,
        if_pos ⟨c1, (fun e => by have := congrArg List.length e; rw [dnL_len, List.length_nil] at this; omega), (by show shI f x.r = _; unfold shI; rw [dnL_len, if_neg (by omega)]; omega), (by omega), (by show shI f x.l = _; unfold shI; rw [if_neg (by omega)]; omega)⟩,
        dnL_at (by omega), show f + (bs.getD (bs.length - 1) 0 - (f : Int) - 1).toNat = (bs.getD (bs.length - 1) 0 - 1).toNat by omega]
    · cases h
  · cases h
theorem Bgs.take {bs : List Int} (h : Bgs bs) (k : Nat) : Bgs (bs.take k) := fun i hi => by
  rw [List.length_take] at hi
  have := h i (by omega)
  rw [List.getD_eq_getElem?_getD, List.getElem?_take_of_lt (by omega), ← List.getD_eq_getElem?_getD]
  exact this
theorem takeD_at {l : List Int} {m i : Nat} (h : i < m) : (l.take m).getD i 0 = l.getD i 0 := by
  rw [List.getD_eq_getElem?_getD, List.getElem?_take_of_lt h, ← List.getD_eq_getElem?_getD]
theorem begs_sub {ns : List Nd} {bs : List Int} (hb : begsO ns [] = some bs) {r : Nat} (hr : r < ns.length) : begsO (subL ns (bg bs r) r) [] = some ((dnL (bg bs r) bs).take (r + 1 - bg bs r)) := by
  have K : ∀ i, i < ns.length → Kin ns bs i := fun i hi => kin_of hb i hi
  obtain ⟨hl, hn⟩ := begs_to ns bs hb
  have hB : Bgs bs := fun i hi => by
    have w := ws_of hb i (by omega)
    have := w.lo
    exact ⟨by omega, by omega⟩
  have hle := (K r hr).le
  obtain ⟨f, hf⟩ : ∃ f, bg bs r = f := ⟨_, rfl⟩
  rw [hf] at hle ⊢
  have hlen := subL_len hr hle
  refine begs_of _ _ (by rw [List.length_take, dnL_len, hlen]; omega) fun i hi => ?_
  rw [hlen] at hi
  have hc : (f : Int) ≤ bs.getD (f + i) 0 := by
    have := kin_lam K r hr (f + i) (by omega) (by omega)
    have h2 := hB (f + i) (by omega)
    rw [hf] at this
    unfold bg at this
    omega
  have h := nodeO_dn (f := f) (by rw [List.length_take]; omega) (hB.take (f + i)) (hn (f + i) (by omega)) hc
  rw [subL_at hr (by omega), List.take_take, Nat.min_eq_left (by omega)]
  rw [show (dnL f bs).take i = dnL f (bs.take (f + i)) by unfold dnL; rw [← List.map_take, List.drop_take, show f + i - f = i by omega], h]
  rw [takeD_at (by omega), dnL_at (by omega)]
theorem tree_sub {ns : List Nd} {bs : List Int} (hb : begsO ns [] = some bs) {r : Nat} (hr : r < ns.length) : treeB (subL ns (bg bs r) r) = true := by
  have K : ∀ i, i < ns.length → Kin ns bs i := fun i hi => kin_of hb i hi
  obtain ⟨hl, hn⟩ := begs_to ns bs hb
  have hB : Bgs bs := fun i hi => by
    have w := ws_of hb i (by omega)
    have := w.lo
    exact ⟨by omega, by omega⟩
  have hle := (K r hr).le
  have hb' := begs_sub hb hr
  obtain ⟨f, hf⟩ : ∃ f, bg bs r = f := ⟨_, rfl⟩
  rw [hf] at hle hb' ⊢
  have hlen := subL_len hr hle
  unfold treeB
  rw [hb']
  refine decide_eq_true ⟨by omega, ?_⟩
  rw [hlen, takeD_at (by omega), dnL_at (by omega), show f + (r + 1 - f - 1) = r by omega]
  have := hB r (by omega)
  unfold bg at hf
  omega
/-- The operands within the subtree. -/
theorem sub_kids {ns : List Nd} {bs : List Int} (K : ∀ i, i < ns.length → Kin ns bs i) {r : Nat} (hr : r < ns.length) {j : Nat} (h1 : bg bs r ≤ j) (h2 : j ≤ r) :
    ((ns.getD j noNd).l = -1 ∨ ∃ k : Nat, (ns.getD j noNd).l = (k : Int) ∧ bg bs r ≤ k ∧ k < j) ∧ ((ns.getD j noNd).r = -1 ∨ ∃ k : Nat, (ns.getD j noNd).r = (k : Int) ∧ bg bs r ≤ k ∧ k < j) := by
  have hlam := kin_lam K r hr j h1 h2
  rcases (K j (by omega)).how with ⟨_, _, e1, e2⟩ | ⟨_, e0, e1, e2, _⟩ | ⟨_, e0, e1, e2, e3, _⟩
  · exact ⟨.inl e1, .inl e2⟩
  · have := kin_kid K (show j < ns.length by omega) (.inl e1)
    exact ⟨.inr ⟨_, e1, by omega, by omega⟩, .inl e2⟩
  · have a := kin_kid K (show j < ns.length by omega) (.inl e3)
    have b := kin_kid K (show j < ns.length by omega) (.inr e2)
    exact ⟨.inr ⟨_, e3, by omega, by omega⟩, .inr ⟨_, e2, by omega, by omega⟩⟩

end Go.Proofs.YtlejhococjlijaaGreatDoor
namespace Go.Proofs.YtlejhococjlijaaGreatDoor
open Go.RowKit Go.BigFrame Go.Proofs.YtlejhococjlijaaGreatDoor.Ev
set_option linter.unusedVariables false
set_option linter.unusedSimpArgs false

theorem pl_iff {ns : List Nd} {r : Int} : plB ns r = true ↔ (0 ≤ r ∧ r < (ns.length : Int)) ∧ treeB ns = true := by
  unfold plB
  rw [Bool.and_eq_true, decide_eq_true_eq]
theorem subO_nat {ns : List Nd} (ht : treeB ns = true) {r : Nat} (hr : r < ns.length) : subO ns (r : Int) = subL ns (bg (bsOf ns) r) r := by
  unfold subO
  rw [if_pos (pl_iff.2 ⟨by omega, ht⟩), Int.toNat_natCast]
theorem sizeO_nat {ns : List Nd} (ht : treeB ns = true) {r : Nat} (hr : r < ns.length) : sizeO ns (r : Int) = (r : Int) - (bg (bsOf ns) r : Int) + 1 := by
  unfold sizeO
  rw [if_pos (pl_iff.2 ⟨by omega, ht⟩), Int.toNat_natCast]
theorem subO_no {ns : List Nd} {r : Int} (h : plB ns r = false) : subO ns r = [] ∧ sizeO ns r = 0 := by
  unfold subO sizeO
  rw [if_neg (by rw [h]; decide), if_neg (by rw [h]; decide)]
  exact ⟨rfl, rfl⟩
/-- One and what its operands have. -/
theorem size_kids {ns : List Nd} (ht : treeB ns = true) {r : Nat} (hr : r < ns.length) : ((ns.getD r noNd).l = -1 ∨ 0 ≤ (ns.getD r noNd).l) ∧ ((ns.getD r noNd).r = -1 ∨ 0 ≤ (ns.getD r noNd).r) ∧
    sizeO ns (r : Int) = 1 + (if 0 ≤ (ns.getD r noNd).l then sizeO ns (ns.getD r noNd).l else 0) + (if 0 ≤ (ns.getD r noNd).r then sizeO ns (ns.getD r noNd).r else 0) := by
  obtain ⟨hb, _, _, K⟩ := tree_bs ht
  rw [sizeO_nat ht hr]
  rcases (K r hr).how with ⟨_, e0, e1, e2⟩ | ⟨_, e0, e1, e2, e3⟩ | ⟨_, e0, e1, e2, e3, e4⟩
  · rw [e1, e2, if_neg (by decide)]
    exact ⟨.inl rfl, .inl rfl, by omega⟩
  · rw [e1, e2, if_pos (by omega), if_neg (by decide), sizeO_nat ht (show r - 1 < ns.length by omega)]
    have := (K (r - 1) (by omega)).le
    exact ⟨.inr (by omega), .inl rfl, by omega⟩
  · have h1 := (K (r - 1) (by omega)).le
    have h2 := (K (bg (bsOf ns) (r - 1) - 1) (by omega)).le
    rw [e2, e3, if_pos (by omega), if_pos (by omega), sizeO_nat ht (show r - 1 < ns.length by omega), sizeO_nat ht (show bg (bsOf ns) (r - 1) - 1 < ns.length by omega)]
    exact ⟨.inr (by omega), .inr (by omega), by omega⟩
theorem sub_len {ns : List Nd} (ht : treeB ns = true) {r : Nat} (hr : r < ns.length) : ((subO ns (r : Int)).length : Int) = sizeO ns (r : Int) ∧ 0 < (subO ns (r : Int)).length ∧ (subO ns (r : Int)).length ≤ r + 1 := by
  obtain ⟨hb, _, _, K⟩ := tree_bs ht
  have hle := (K r hr).le
  rw [subO_nat ht hr, sizeO_nat ht hr, subL_len hr hle]
  omega
theorem sub_tree {ns : List Nd} (ht : treeB ns = true) {r : Nat} (hr : r < ns.length) : treeB (subO ns (r : Int)) = true := by
  obtain ⟨hb, _, _, _⟩ := tree_bs ht
  rw [subO_nat ht hr]
  exact tree_sub hb hr
theorem sub_last {ns : List Nd} (ht : treeB ns = true) {r : Nat} (hr : r < ns.length) : (subO ns (r : Int)).getD ((subO ns (r : Int)).length - 1) noNd = shN (bg (bsOf ns) r) (ns.getD r noNd) := by
  obtain ⟨hb, _, _, K⟩ := tree_bs ht
  have hle := (K r hr).le
  rw [subO_nat ht hr, subL_len hr hle, subL_at hr (by omega), show bg (bsOf ns) r + (r + 1 - bg (bsOf ns) r - 1) = r by omega]
/-- A subtree of a subtree is one of the tree. -/
theorem sub_sub {ns : List Nd} (ht : treeB ns = true) {r i : Nat} (hr : r < ns.length) (hi : i < (subO ns (r : Int)).length) : subO (subO ns (r : Int)) (i : Int) = subO ns ((r : Int) - sizeO ns (r : Int) + 1 + (i : Int)) := by
  obtain ⟨hb, _, _, K⟩ := tree_bs ht
  have hle := (K r hr).le
  have hts := sub_tree ht hr
  have hlen := (sub_len ht hr).1
  rw [sizeO_nat ht hr] at hlen ⊢
  obtain ⟨f, hf⟩ : ∃ f, bg (bsOf ns) r = f := ⟨_, rfl⟩
  rw [hf] at hle hlen ⊢
  have hL : (subO ns (r : Int)).length = r + 1 - f := by omega
  have hri : f + i ≤ r := by omega
  rw [show (r : Int) - ((r : Int) - (f : Int) + 1) + 1 + (i : Int) = ((f + i : Nat) : Int) by omega, subO_nat ht (show f + i < ns.length by omega), subO_nat hts hi]
  have hbs := begs_sub hb hr
  rw [hf] at hbs
  have hbL : bsOf (subO ns (r : Int)) = (dnL f (bsOf ns)).take (r + 1 - f) := by
    unfold bsOf
    rw [subO_nat ht hr, hf, hbs]
    rfl
  have hll : (bsOf ns).length = ns.length := (begs_to ns _ hb).1
  have hlam := kin_lam K r hr (f + i) (by rw [hf]; omega) hri
  rw [hf] at hlam
  have hb0 : 0 ≤ (bsOf ns).getD (f + i) 0 := (ws_of hb (f + i) (by omega)).lo.1
  have hbg : bg (bsOf (subO ns (r : Int))) i = bg (bsOf ns) (f + i) - f := by
    rw [hbL]
    unfold bg
    rw [takeD_at (by omega), dnL_at (by omega)]
    omega
  have hk := (K (f + i) (by omega)).le
  obtain ⟨c, hc⟩ : ∃ c, bg (bsOf ns) (f + i) = c := ⟨_, rfl⟩
  rw [hbg, hc]
  rw [hc] at hlam hk
  have hkids := fun (j : Nat) => @sub_kids ns (bsOf ns) K (f + i) (by omega) j
  rw [hc] at hkids
  refine List.ext_getElem? fun j => ?_
  have l1 : (subL (subO ns (r : Int)) (c - f) i).length = i + 1 - (c - f) := subL_len hi (by omega)
  have l2 : (subL ns c (f + i)).length = f + i + 1 - c := subL_len (by omega) hk
  by_cases hj : j < f + i + 1 - c
  · have g1 : (subL (subO ns (r : Int)) (c - f) i)[j]? = some ((subL (subO ns (r : Int)) (c - f) i).getD j noNd) := by
      rw [List.getD_eq_getElem?_getD, List.getElem?_eq_getElem (by omega)]; rfl
    have g2 : (subL ns c (f + i))[j]? = some ((subL ns c (f + i)).getD j noNd) := by
      rw [List.getD_eq_getElem?_getD, List.getElem?_eq_getElem (by omega)]; rfl
    rw [g1, g2, subL_at hi (by omega), subL_at (by omega) (by omega), subO_nat ht hr, hf, subL_at hr (by omega), show f + (c - f + j) = c + j by omega]
    have kd := hkids (c + j) (by omega) (by omega)
    generalize ns.getD (c + j) noNd = n at kd
    have key : ∀ a : Int, (a = -1 ∨ ∃ k : Nat, a = (k : Int) ∧ c ≤ k ∧ k < c + j) → shI (c - f) (shI f a) = shI c a := fun a ha => by
      unfold shI
      rcases ha with rfl | ⟨k, rfl, h1, h2⟩
      · rfl
      · rw [if_neg (by omega), if_neg (by omega), if_neg (by omega)]
        omega
    unfold shN
    simp only [Option.some.injEq, Nd.mk.injEq, true_and]
    exact ⟨key _ kd.1, key _ kd.2⟩
  · rw [List.getElem?_eq_none (by omega), List.getElem?_eq_none (by omega)]

end Go.Proofs.YtlejhococjlijaaGreatDoor
namespace Go.Proofs.YtlejhococjlijaaGreatDoor
open Go.RowKit Go.BigFrame Go.Proofs.YtlejhococjlijaaGreatDoor.Ev
set_option linter.unusedVariables false
set_option linter.unusedSimpArgs false

theorem size_rng (ns : List Nd) (z : Int) : 0 ≤ sizeO ns z ∧ sizeO ns z ≤ (ns.length : Int) := by
  unfold sizeO
  split
  · rename_i hp
    obtain ⟨⟨h0, h1⟩, ht⟩ := pl_iff.1 hp
    obtain ⟨_, _, _, K⟩ := tree_bs ht
    have := (K z.toNat (by omega)).le
    omega
  · omega
theorem subO_fit {ns : List Nd} (hf : ∀ k, (ns.getD k noNd).fit) (hl : ns.length * 64 ≤ 140737488351232) (root : Int) (k : Nat) : ((subO ns root).getD k noNd).fit := by
  unfold subO
  split
  · rename_i hp
    obtain ⟨⟨h0, h1⟩, ht⟩ := pl_iff.1 hp
    obtain ⟨_, _, _, K⟩ := tree_bs ht
    have hr : root.toNat < ns.length := by omega
    have hfr := (K root.toNat hr).le
    by_cases h : bg (bsOf ns) root.toNat + k ≤ root.toNat
    · rw [subL_at hr h]
      obtain ⟨h1, h2, h3, h4, h5, h6⟩ := hf (bg (bsOf ns) root.toNat + k)
      have key : ∀ a : Int, fI a → fI (shI (bg (bsOf ns) root.toNat) a) := fun a ha => by
        unfold shI
        unfold fI at ha ⊢
        split
        · exact ha
        · omega
      exact ⟨h1, h2, key _ h3, key _ h4, h5, h6⟩
    · rw [List.getD_eq_getElem?_getD, List.getElem?_eq_none (by rw [subL_len hr hfr]; omega)]
      exact noNd_fit
  · exact noNd_fit
set_option maxRecDepth 100000 in
set_option maxHeartbeats 16000000 in
theorem checkApart_walk (ao : Option Addr) (cap : Nat) (ns : List Nd) (root inner : Int) (w : World) (K : KwAt w) (hc : ns.length ≤ cap) (A : IsNds w ao ns) (hr : ns.length * 64 ≤ 140737488351232) (hf : ∀ k, (ns.getD k noNd).fit) :
    Calls Tryz.prog 3 #[.slice ao ns.length cap, .int .i64 root, .int .i64 inner] w fun e w' => e = .returned (.bool true) ∧ Below w.heap.size w w' := by
  have c0 := alive_any w K
  have c1 := fun (u : World) (g : Below w.heap.size w u) => beyond_any ns ao cap u (A.keep g) hr hf
  have cS := fun (z : Int) (u : World) (g : Below w.heap.size w u) => size_any ns z ao cap u (A.keep g) hr hf (K.keep g)
  have cB := fun (z : Int) (u : World) (g : Below w.heap.size w u) => csub_any ns z ao cap hc u (A.keep g) hr hf (K.keep g)
  have cT := fun (u : World) (g : Below w.heap.size w u) => refTree_any ns ao cap u (K.keep g) (A.keep g) hr hf
  cases hp : plB ns root with
  | false =>
    obtain ⟨e1, e2⟩ := subO_no hp
    have d1 := cS root
    have d2 := cB root
    rw [e2] at d1
    rw [e1] at d2
    have hout : treeB ns = false ∨ root < 0 ∨ (ns.length : Int) ≤ root := by
      cases ht : treeB ns with
      | false => exact .inl rfl
      | true =>
        right
        by_cases h0 : root < 0
        · exact .inl h0
        · right
          cases Int.lt_or_le root (ns.length : Int) with
          | inl h => rw [pl_iff.2 ⟨⟨by omega, h⟩, ht⟩] at hp; cases hp
          | inr h => exact h
    obtain ⟨tb, htb⟩ : ∃ b, treeB ns = b := ⟨_, rfl⟩
    rw [htb] at cT hout
    clear hp e1 e2 htb cS cB
    go_enter Tryz.func3, Tryz.ntmps3
    go_upto_region 8 with (first
      | (go_at_call 6; (with_reducible refine c0.mono ?_); rintro e u1 ⟨rfl, g1⟩)
      | (go_at_call 7; (with_reducible refine (c1 _ g1).mono ?_); rintro e u2 ⟨bb, rfl, g2⟩; have G2 := gtrans g1 g2; cases bb)
      | (go_at_call 8; (with_reducible refine (d1 _ G2).mono ?_); rintro e u3 ⟨rfl, g3⟩; have G3 := gtrans G2 g3)
      | (go_at_call 9; (with_reducible refine (d2 _ G3).mono ?_); rintro e u4 ⟨v4, rfl, O4, g4⟩; obtain ⟨so, sp, rfl, _, _, _⟩ := own_form O4; have G4 := gtrans G3 g4)
      | (go_at_call 10; (with_reducible refine (cT _ G4).mono ?_); rintro e u5 ⟨rfl, g5⟩; have G5 := gtrans G4 g5))
    all_goals try (go_ret; exact ⟨rfl, G2⟩)
    cases tb with
    | false =>
      go_wp2
      go_ret
      exact ⟨rfl, G5⟩
    | true =>
      have hout : root < 0 ∨ (ns.length : Int) ≤ root := by
        rcases hout with h | h
        · cases h
        · exact h
      by_cases h0 : root < 0
      · clear hout
        go_wp2
        go_ret
        exact ⟨rfl, G5⟩
      · have h1 : (ns.length : Int) ≤ root := by omega
        clear hout
        go_wp2
        go_ret
        exact ⟨rfl, G5⟩
  | true =>
    obtain ⟨⟨hr0, hr1⟩, ht⟩ := pl_iff.1 hp
    obtain ⟨r, rfl⟩ : ∃ r : Nat, root = (r : Int) := ⟨root.toNat, by omega⟩
    have hrn : r < ns.length := by omega
    have hri : (r : Int) < (ns.length : Int) := by omega
    obtain ⟨hkl, hkr, hsz⟩ := size_kids ht hrn
    obtain ⟨hl1, hl2, hl3⟩ := sub_len ht hrn
    have hts := sub_tree ht hrn
    have hlast := sub_last ht hrn
    have hss := fun i => @sub_sub ns ht r i hrn
    have fitC := subO_fit hf hr (r : Int)
    have d1 := cS (r : Int)
    have d2 := cB (r : Int)
    rw [ht] at cT
    obtain ⟨m, hm⟩ : ∃ m, (subO ns (r : Int)).length = m + 1 := ⟨(subO ns (r : Int)).length - 1, by omega⟩
    have hszm : sizeO ns (r : Int) = ((m + 1 : Nat) : Int) := by rw [← hl1, hm]
    obtain ⟨C, hC⟩ : ∃ C, subO ns (r : Int) = C := ⟨_, rfl⟩
    rw [hszm] at d1 hsz hss
    rw [hC] at d2 hm hts hlast hss fitC
    rw [hm] at d2
    rw [hm, Nat.add_sub_cancel] at hlast
    have hmr : (m + 1) * 64 ≤ 140737488351232 := by rw [hC, hm] at hl3; omega
    have hmr1 : m ≤ r := by rw [hC, hm] at hl3; omega
    have HM := show Hid (_ = _) from hm
    have HSS := show Hid _ from hss
    have HLAST := show Hid _ from hlast
    have HSZ := show Hid (_ = _) from hsz
    clear hp hl1 hl2 hl3 hszm hC hm hss hlast hsz
    go_enter Tryz.func3, Tryz.ntmps3
    go_upto_region 8 with (first
      | (go_at_call 6; (with_reducible refine c0.mono ?_); rintro e u1 ⟨rfl, g1⟩)
      | (go_at_call 7; (with_reducible refine (c1 _ g1).mono ?_); rintro e u2 ⟨bb, rfl, g2⟩; have G2 := gtrans g1 g2; cases bb)
      | (go_at_call 8; (with_reducible refine (d1 _ G2).mono ?_); rintro e u3 ⟨rfl, g3⟩; have G3 := gtrans G2 g3)
      | (go_at_call 9; (with_reducible refine (d2 _ G3).mono ?_); rintro e u4 ⟨v4, rfl, O4, g4⟩; obtain ⟨so, sp, rfl, hsp, _, hso⟩ := own_form O4; have G4 := gtrans G3 g4)
      | (go_at_call 10; (with_reducible refine (cT _ G4).mono ?_); rintro e u5 ⟨rfl, g5⟩; have G5 := gtrans G4 g5))
    all_goals try (go_ret; exact ⟨rfl, G2⟩)
    have NC : IsNds u5 so C := by
      have := (nds_of_own (b := u3.heap.size) (c := sp) (ns := C) (by rw [HM.out]; exact O4)).keep g5
      exact this
    have A5 := A.keep G5
    obtain ⟨g, og, rfl, x0, x1, x2, x3, x4, x5⟩ := A5 r hrn
    have hnd := show Hid (ns.getD r noNd = ns.getD r noNd) from rfl
    obtain ⟨y, hy⟩ : ∃ y, ns.getD r noNd = y := ⟨_, rfl⟩
    have HY := show Hid (_ = _) from hy
    have hfy := hf r
    rw [hy] at hkl hkr x0 x1 x2 x3 x4 x5 hfy
    clear hy hnd d1 d2 c0 c1 g1 g2 g3 g4 g5 G2 G3 G4 hr0 hr1
    obtain ⟨yop, yn, yv, yx, yl, yr⟩ := y
    dsimp only at hkl hkr x0 x1 x2 x3 x4 x5
    go_upto_region 11 with fail
    obtain ⟨hf0, hf1, hf4, hf5, hf2, hf3⟩ := hfy
    obtain ⟨a0, a1⟩ := size_rng ns yl
    obtain ⟨b0, b1⟩ := size_rng ns yr
    have hso' := hso
    clear hso O4
    rcases hkl with rfl | hkl
    · rcases hkr with rfl | hkr
      · have hmz : (m : Int) + 1 = 1 := by
          have := HSZ.out
          rw [HY.out] at this
          dsimp only at this
          rw [if_neg (by decide)] at this
          omega
        have hmz1 : ((m : Int) + 1 == 1) = true := by rw [hmz]; rfl
        have hmzn : ((m : Int) + 1 != 1) = false := by rw [hmz]; rfl
        have hmz2 : m = 0 := by omega
        have HMZ := show Hid _ from hmz2
        go_upto_region 15 with fail
        have GU := G5
        have GX := Below.refl u5.heap.size u5
        have hw : (1 : Int) = (m : Int) + 1 := hmz.symm
        clear hmz hmz2 hw x0 x1 x2 x3 x4 x5 a0 a1 b0 b1
        obtain ⟨g2, o2, rfl, z0, z1, z2, _, _, _⟩ := (NC.keep GX) m (by rw [HM.out]; exact Nat.lt_succ_self m)
        rw [HLAST.out, HY.out] at z0 z1 z2
        replace z0 : u5.cell? ⟨g2, o2 + m * 6, none⟩ = some (.int .i64 yop) := z0
        replace z1 : u5.cell? ⟨g2, o2 + m * 6 + 1, none⟩ = some (.int .i64 yn) := z1
        replace z2 : u5.cell? ⟨g2, o2 + m * 6 + 2, none⟩ = some (.string yv) := z2
        obtain ⟨g', og', e', x0, x1, x2, _, _, _⟩ := (A.keep GU) r hrn
        cases e'
        rw [HY.out] at x0 x1 x2
        dsimp only at x0 x1 x2
        have cC := refTree_any C (some ⟨g2, o2, none⟩) sp u5 (K.keep GU) (NC.keep GX) (by rw [HM.out]; exact hmr) fitC
        rw [HM.out, hts] at cC
        go_upto_region 16 with (go_at_call 10; (with_reducible refine cC.mono ?_); rintro e v1 ⟨rfl, k1⟩)
        have GV := gtrans GU k1
        have GY := gtrans GX k1
        clear cC
        replace z0 := (k1.cell (p := ⟨_, _, none⟩) (lt_of_cell z0)).trans z0
        replace z1 := (k1.cell (p := ⟨_, _, none⟩) (lt_of_cell z1)).trans z1
        replace z2 := (k1.cell (p := ⟨_, _, none⟩) (lt_of_cell z2)).trans z2
        replace x0 := (k1.cell (p := ⟨_, _, none⟩) (lt_of_cell x0)).trans x0
        replace x1 := (k1.cell (p := ⟨_, _, none⟩) (lt_of_cell x1)).trans x1
        replace x2 := (k1.cell (p := ⟨_, _, none⟩) (lt_of_cell x2)).trans x2
        have hne0 : Nonempty (Ext v1) := ⟨⟨_, Below.refl _ _⟩⟩
        have pz0 := fun z : Ext v1 => (z.cell _ _ (lt_of_cell z0)).trans z0
        have pz1 := fun z : Ext v1 => (z.cell _ _ (lt_of_cell z1)).trans z1
        have pz2 := fun z : Ext v1 => (z.cell _ _ (lt_of_cell z2)).trans z2
        have px0 := fun z : Ext v1 => (z.cell _ _ (lt_of_cell x0)).trans x0
        have px1 := fun z : Ext v1 => (z.cell _ _ (lt_of_cell x1)).trans x1
        have px2 := fun z : Ext v1 => (z.cell _ _ (lt_of_cell x2)).trans x2
        have hwm : wrap64 (m : Int) = (m : Int) := (by unfold wrap64; omega)
        have hm0 : (0 : Int) ≤ (m : Int) := by omega
        have hm1 : (m : Int) < (m : Int) + 1 := by omega
        go_upto_region 16 with fail
        refine wp_region_ext (by kernel_rfl) (by kernel_rfl) ?_
        repeat (go_big_quiet_step (fail))
        refine wpQuiet_nil ?_
        intro _ hw'
        obtain ⟨nz, hw''⟩ := hw'
        subst hw''
        have GZ := gtrans GV nz.h
        have NZ := (NC.keep GY).keep nz.h
        clear z0 z1 z2 x0 x1 x2 pz0 pz1 pz2 px0 px1 px2 hne0
        generalize nz.X = X at *
        by_cases hi0 : inner < 0
        · go_wp2
          go_ret
          exact ⟨rfl, GZ⟩
        by_cases hi1 : (m : Int) + 1 ≤ inner
        · go_wp2
          go_ret
          exact ⟨rfl, GZ⟩
        obtain ⟨i, rfl⟩ : ∃ i : Nat, inner = (i : Int) := ⟨inner.toNat, by omega⟩
        have hi2 : i < C.length := by rw [HM.out]; omega
        obtain ⟨p1, p2, p3⟩ := sub_len hts hi2
        have hD := HSS.out i hi2
        have c9 := csub_any C (i : Int) (some ⟨g2, o2, none⟩) sp (by rw [HM.out]; exact hsp) X NZ (by rw [HM.out]; exact hmr) fitC (K.keep GZ)
        rw [HM.out] at c9
        obtain ⟨D, hDD⟩ : ∃ D, subO C (i : Int) = D := ⟨_, rfl⟩
        rw [hDD] at c9 hD p2 p3
        have cE : ∀ z : Int, z = (r : Int) - ((m : Int) + 1) + 1 + (i : Int) → ∀ (u : World) (gg : Below w.heap.size w u), Calls Tryz.prog 9 #[.slice (some ⟨g, og, none⟩) ns.length cap, .int .i64 z] u fun e w' => ∃ v, e = .returned v ∧ w'.ownsRow u.heap.size 29 6 v D.length (ndsV D) ∧ Below u.heap.size u w' := fun z hz u gg => by
          have := cB z u gg
          rw [show z = (r : Int) - ((m + 1 : Nat) : Int) + 1 + (i : Int) by omega, ← hD] at this
          rw [show z = (r : Int) - ((m + 1 : Nat) : Int) + 1 + (i : Int) by omega]
          exact this
        have hdl : D.length ≤ 9223372036854775807 := by rw [hDD] at p1; omega
        have hd0 : (0 : Int) < (D.length : Int) := by omega
        have cF := fun (u : World) (a1 a2 : Option Addr) (b1 b2 : Nat) (P : IsNds u a1 D) (Q : IsNds u a2 D) => sameTree_true D hdl a1 a2 b1 b2 u P Q
        obtain ⟨dl, hdln⟩ : ∃ dl, D.length = dl := ⟨_, rfl⟩
        rw [hdln] at c9 cE cF hd0
        have HDL := show Hid (_ = _) from hdln
        clear hD hDD p1 p2 p3 hdln hdl
        go_upto_region 21 with (go_at_call 9; (with_reducible refine c9.mono ?_); rintro e y1 ⟨w1, rfl, P1, k2⟩; obtain ⟨s1, q1, rfl, _, _, _⟩ := own_form P1)
        have GA1 := gtrans GZ k2
        go_upto_region 22 with (go_at_call 9; (with_reducible refine (cE _ (by omega) _ GA1).mono ?_); rintro e y2 ⟨w2, rfl, P2, k3⟩; obtain ⟨s2, q2, rfl, _, _, _⟩ := own_form P2)
        have GA2 := gtrans GA1 k3
        have cF2 := cF y2 s1 s2 q1 q2 (nds_of_own (b := X.heap.size) (c := q1) (by rw [HDL.out]; exact own_keep P1 k3)) (nds_of_own (b := y1.heap.size) (c := q2) (by rw [HDL.out]; exact P2))
        go_wp2_with (go_at_call 11; (with_reducible refine cF2.mono ?_); rintro e y3 ⟨rfl, k4⟩)
        go_ret
        exact ⟨rfl, gtrans GA2 k4⟩
      · go_upto_region 13 with fail
        go_upto_region 15 with (go_at_call 8; (with_reducible refine (cS yr _ G5).mono ?_); rintro e u6 ⟨rfl, g6⟩)
        have GU := gtrans G5 g6
        have GX := g6
        have hw : 1 + sizeO ns yr = (m : Int) + 1 := by
          have := HSZ.out
          rw [HY.out] at this
          dsimp only at this
          rw [if_neg (by decide), if_pos hkr] at this
          omega
        rw [hw]
        clear hw x0 x1 x2 x3 x4 x5 a0 a1 b0 b1
        obtain ⟨g2, o2, rfl, z0, z1, z2, _, _, _⟩ := (NC.keep GX) m (by rw [HM.out]; exact Nat.lt_succ_self m)
        rw [HLAST.out, HY.out] at z0 z1 z2
        replace z0 : u6.cell? ⟨g2, o2 + m * 6, none⟩ = some (.int .i64 yop) := z0
        replace z1 : u6.cell? ⟨g2, o2 + m * 6 + 1, none⟩ = some (.int .i64 yn) := z1
        replace z2 : u6.cell? ⟨g2, o2 + m * 6 + 2, none⟩ = some (.string yv) := z2
        obtain ⟨g', og', e', x0, x1, x2, _, _, _⟩ := (A.keep GU) r hrn
        cases e'
        rw [HY.out] at x0 x1 x2
        dsimp only at x0 x1 x2
        have cC := refTree_any C (some ⟨g2, o2, none⟩) sp u6 (K.keep GU) (NC.keep GX) (by rw [HM.out]; exact hmr) fitC
        rw [HM.out, hts] at cC
        go_upto_region 16 with (go_at_call 10; (with_reducible refine cC.mono ?_); rintro e v1 ⟨rfl, k1⟩)
        have GV := gtrans GU k1
        have GY := gtrans GX k1
        clear cC
        replace z0 := (k1.cell (p := ⟨_, _, none⟩) (lt_of_cell z0)).trans z0
        replace z1 := (k1.cell (p := ⟨_, _, none⟩) (lt_of_cell z1)).trans z1
        replace z2 := (k1.cell (p := ⟨_, _, none⟩) (lt_of_cell z2)).trans z2
        replace x0 := (k1.cell (p := ⟨_, _, none⟩) (lt_of_cell x0)).trans x0
        replace x1 := (k1.cell (p := ⟨_, _, none⟩) (lt_of_cell x1)).trans x1
        replace x2 := (k1.cell (p := ⟨_, _, none⟩) (lt_of_cell x2)).trans x2
        have hne0 : Nonempty (Ext v1) := ⟨⟨_, Below.refl _ _⟩⟩
        have pz0 := fun z : Ext v1 => (z.cell _ _ (lt_of_cell z0)).trans z0
        have pz1 := fun z : Ext v1 => (z.cell _ _ (lt_of_cell z1)).trans z1
        have pz2 := fun z : Ext v1 => (z.cell _ _ (lt_of_cell z2)).trans z2
        have px0 := fun z : Ext v1 => (z.cell _ _ (lt_of_cell x0)).trans x0
        have px1 := fun z : Ext v1 => (z.cell _ _ (lt_of_cell x1)).trans x1
        have px2 := fun z : Ext v1 => (z.cell _ _ (lt_of_cell x2)).trans x2
        have hwm : wrap64 (m : Int) = (m : Int) := (by unfold wrap64; omega)
        have hm0 : (0 : Int) ≤ (m : Int) := by omega
        have hm1 : (m : Int) < (m : Int) + 1 := by omega
        go_upto_region 16 with fail
        refine wp_region_ext (by kernel_rfl) (by kernel_rfl) ?_
        repeat (go_big_quiet_step (fail))
        refine wpQuiet_nil ?_
        intro _ hw'
        obtain ⟨nz, hw''⟩ := hw'
        subst hw''
        have GZ := gtrans GV nz.h
        have NZ := (NC.keep GY).keep nz.h
        clear z0 z1 z2 x0 x1 x2 pz0 pz1 pz2 px0 px1 px2 hne0
        generalize nz.X = X at *
        by_cases hi0 : inner < 0
        · go_wp2
          go_ret
          exact ⟨rfl, GZ⟩
        by_cases hi1 : (m : Int) + 1 ≤ inner
        · go_wp2
          go_ret
          exact ⟨rfl, GZ⟩
        obtain ⟨i, rfl⟩ : ∃ i : Nat, inner = (i : Int) := ⟨inner.toNat, by omega⟩
        have hi2 : i < C.length := by rw [HM.out]; omega
        obtain ⟨p1, p2, p3⟩ := sub_len hts hi2
        have hD := HSS.out i hi2
        have c9 := csub_any C (i : Int) (some ⟨g2, o2, none⟩) sp (by rw [HM.out]; exact hsp) X NZ (by rw [HM.out]; exact hmr) fitC (K.keep GZ)
        rw [HM.out] at c9
        obtain ⟨D, hDD⟩ : ∃ D, subO C (i : Int) = D := ⟨_, rfl⟩
        rw [hDD] at c9 hD p2 p3
        have cE : ∀ z : Int, z = (r : Int) - ((m : Int) + 1) + 1 + (i : Int) → ∀ (u : World) (gg : Below w.heap.size w u), Calls Tryz.prog 9 #[.slice (some ⟨g, og, none⟩) ns.length cap, .int .i64 z] u fun e w' => ∃ v, e = .returned v ∧ w'.ownsRow u.heap.size 29 6 v D.length (ndsV D) ∧ Below u.heap.size u w' := fun z hz u gg => by
          have := cB z u gg
          rw [show z = (r : Int) - ((m + 1 : Nat) : Int) + 1 + (i : Int) by omega, ← hD] at this
          rw [show z = (r : Int) - ((m + 1 : Nat) : Int) + 1 + (i : Int) by omega]
          exact this
        have hdl : D.length ≤ 9223372036854775807 := by rw [hDD] at p1; omega
        have hd0 : (0 : Int) < (D.length : Int) := by omega
        have cF := fun (u : World) (a1 a2 : Option Addr) (b1 b2 : Nat) (P : IsNds u a1 D) (Q : IsNds u a2 D) => sameTree_true D hdl a1 a2 b1 b2 u P Q
        obtain ⟨dl, hdln⟩ : ∃ dl, D.length = dl := ⟨_, rfl⟩
        rw [hdln] at c9 cE cF hd0
        have HDL := show Hid (_ = _) from hdln
        clear hD hDD p1 p2 p3 hdln hdl
        go_upto_region 21 with (go_at_call 9; (with_reducible refine c9.mono ?_); rintro e y1 ⟨w1, rfl, P1, k2⟩; obtain ⟨s1, q1, rfl, _, _, _⟩ := own_form P1)
        have GA1 := gtrans GZ k2
        go_upto_region 22 with (go_at_call 9; (with_reducible refine (cE _ (by omega) _ GA1).mono ?_); rintro e y2 ⟨w2, rfl, P2, k3⟩; obtain ⟨s2, q2, rfl, _, _, _⟩ := own_form P2)
        have GA2 := gtrans GA1 k3
        have cF2 := cF y2 s1 s2 q1 q2 (nds_of_own (b := X.heap.size) (c := q1) (by rw [HDL.out]; exact own_keep P1 k3)) (nds_of_own (b := y1.heap.size) (c := q2) (by rw [HDL.out]; exact P2))
        go_wp2_with (go_at_call 11; (with_reducible refine cF2.mono ?_); rintro e y3 ⟨rfl, k4⟩)
        go_ret
        exact ⟨rfl, gtrans GA2 k4⟩
    · rcases hkr with rfl | hkr
      · go_upto_region 13 with (go_at_call 8; (with_reducible refine (cS yl _ G5).mono ?_); rintro e u6 ⟨rfl, g6⟩)
        have GU := gtrans G5 g6
        have GX := g6
        obtain ⟨g', og', e', x0', x1', x2', x3', x4', x5'⟩ := (A.keep GU) r hrn
        cases e'
        rw [HY.out] at x0' x1' x2' x3' x4' x5'
        dsimp only at x0' x1' x2' x3' x4' x5'
        go_upto_region 15 with fail
        have hw : 1 + sizeO ns yl = (m : Int) + 1 := by
          have := HSZ.out
          rw [HY.out] at this
          dsimp only at this
          rw [if_pos hkl, if_neg (by decide)] at this
          omega
        rw [hw]
        clear hw x0' x1' x2' x3' x4' x5' x0 x1 x2 x3 x4 x5 a0 a1 b0 b1
        obtain ⟨g2, o2, rfl, z0, z1, z2, _, _, _⟩ := (NC.keep GX) m (by rw [HM.out]; exact Nat.lt_succ_self m)
        rw [HLAST.out, HY.out] at z0 z1 z2
        replace z0 : u6.cell? ⟨g2, o2 + m * 6, none⟩ = some (.int .i64 yop) := z0
        replace z1 : u6.cell? ⟨g2, o2 + m * 6 + 1, none⟩ = some (.int .i64 yn) := z1
        replace z2 : u6.cell? ⟨g2, o2 + m * 6 + 2, none⟩ = some (.string yv) := z2
        obtain ⟨g', og', e', x0, x1, x2, _, _, _⟩ := (A.keep GU) r hrn
        cases e'
        rw [HY.out] at x0 x1 x2
        dsimp only at x0 x1 x2
        have cC := refTree_any C (some ⟨g2, o2, none⟩) sp u6 (K.keep GU) (NC.keep GX) (by rw [HM.out]; exact hmr) fitC
        rw [HM.out, hts] at cC
        go_upto_region 16 with (go_at_call 10; (with_reducible refine cC.mono ?_); rintro e v1 ⟨rfl, k1⟩)
        have GV := gtrans GU k1
        have GY := gtrans GX k1
        clear cC
        replace z0 := (k1.cell (p := ⟨_, _, none⟩) (lt_of_cell z0)).trans z0
        replace z1 := (k1.cell (p := ⟨_, _, none⟩) (lt_of_cell z1)).trans z1
        replace z2 := (k1.cell (p := ⟨_, _, none⟩) (lt_of_cell z2)).trans z2
        replace x0 := (k1.cell (p := ⟨_, _, none⟩) (lt_of_cell x0)).trans x0
        replace x1 := (k1.cell (p := ⟨_, _, none⟩) (lt_of_cell x1)).trans x1
        replace x2 := (k1.cell (p := ⟨_, _, none⟩) (lt_of_cell x2)).trans x2
        have hne0 : Nonempty (Ext v1) := ⟨⟨_, Below.refl _ _⟩⟩
        have pz0 := fun z : Ext v1 => (z.cell _ _ (lt_of_cell z0)).trans z0
        have pz1 := fun z : Ext v1 => (z.cell _ _ (lt_of_cell z1)).trans z1
        have pz2 := fun z : Ext v1 => (z.cell _ _ (lt_of_cell z2)).trans z2
        have px0 := fun z : Ext v1 => (z.cell _ _ (lt_of_cell x0)).trans x0
        have px1 := fun z : Ext v1 => (z.cell _ _ (lt_of_cell x1)).trans x1
        have px2 := fun z : Ext v1 => (z.cell _ _ (lt_of_cell x2)).trans x2
        have hwm : wrap64 (m : Int) = (m : Int) := (by unfold wrap64; omega)
        have hm0 : (0 : Int) ≤ (m : Int) := by omega
        have hm1 : (m : Int) < (m : Int) + 1 := by omega
        go_upto_region 16 with fail
        refine wp_region_ext (by kernel_rfl) (by kernel_rfl) ?_
        repeat (go_big_quiet_step (fail))
        refine wpQuiet_nil ?_
        intro _ hw'
        obtain ⟨nz, hw''⟩ := hw'
        subst hw''
        have GZ := gtrans GV nz.h
        have NZ := (NC.keep GY).keep nz.h
        clear z0 z1 z2 x0 x1 x2 pz0 pz1 pz2 px0 px1 px2 hne0
        generalize nz.X = X at *
        by_cases hi0 : inner < 0
        · go_wp2
          go_ret
          exact ⟨rfl, GZ⟩
        by_cases hi1 : (m : Int) + 1 ≤ inner
        · go_wp2
          go_ret
          exact ⟨rfl, GZ⟩
        obtain ⟨i, rfl⟩ : ∃ i : Nat, inner = (i : Int) := ⟨inner.toNat, by omega⟩
        have hi2 : i < C.length := by rw [HM.out]; omega
        obtain ⟨p1, p2, p3⟩ := sub_len hts hi2
        have hD := HSS.out i hi2
        have c9 := csub_any C (i : Int) (some ⟨g2, o2, none⟩) sp (by rw [HM.out]; exact hsp) X NZ (by rw [HM.out]; exact hmr) fitC (K.keep GZ)
        rw [HM.out] at c9
        obtain ⟨D, hDD⟩ : ∃ D, subO C (i : Int) = D := ⟨_, rfl⟩
        rw [hDD] at c9 hD p2 p3
        have cE : ∀ z : Int, z = (r : Int) - ((m : Int) + 1) + 1 + (i : Int) → ∀ (u : World) (gg : Below w.heap.size w u), Calls Tryz.prog 9 #[.slice (some ⟨g, og, none⟩) ns.length cap, .int .i64 z] u fun e w' => ∃ v, e = .returned v ∧ w'.ownsRow u.heap.size 29 6 v D.length (ndsV D) ∧ Below u.heap.size u w' := fun z hz u gg => by
          have := cB z u gg
          rw [show z = (r : Int) - ((m + 1 : Nat) : Int) + 1 + (i : Int) by omega, ← hD] at this
          rw [show z = (r : Int) - ((m + 1 : Nat) : Int) + 1 + (i : Int) by omega]
          exact this
        have hdl : D.length ≤ 9223372036854775807 := by rw [hDD] at p1; omega
        have hd0 : (0 : Int) < (D.length : Int) := by omega
        have cF := fun (u : World) (a1 a2 : Option Addr) (b1 b2 : Nat) (P : IsNds u a1 D) (Q : IsNds u a2 D) => sameTree_true D hdl a1 a2 b1 b2 u P Q
        obtain ⟨dl, hdln⟩ : ∃ dl, D.length = dl := ⟨_, rfl⟩
        rw [hdln] at c9 cE cF hd0
        have HDL := show Hid (_ = _) from hdln
        clear hD hDD p1 p2 p3 hdln hdl
        go_upto_region 21 with (go_at_call 9; (with_reducible refine c9.mono ?_); rintro e y1 ⟨w1, rfl, P1, k2⟩; obtain ⟨s1, q1, rfl, _, _, _⟩ := own_form P1)
        have GA1 := gtrans GZ k2
        go_upto_region 22 with (go_at_call 9; (with_reducible refine (cE _ (by omega) _ GA1).mono ?_); rintro e y2 ⟨w2, rfl, P2, k3⟩; obtain ⟨s2, q2, rfl, _, _, _⟩ := own_form P2)
        have GA2 := gtrans GA1 k3
        have cF2 := cF y2 s1 s2 q1 q2 (nds_of_own (b := X.heap.size) (c := q1) (by rw [HDL.out]; exact own_keep P1 k3)) (nds_of_own (b := y1.heap.size) (c := q2) (by rw [HDL.out]; exact P2))
        go_wp2_with (go_at_call 11; (with_reducible refine cF2.mono ?_); rintro e y3 ⟨rfl, k4⟩)
        go_ret
        exact ⟨rfl, gtrans GA2 k4⟩
      · go_upto_region 13 with (go_at_call 8; (with_reducible refine (cS yl _ G5).mono ?_); rintro e u6 ⟨rfl, g6⟩)
        have G6 := gtrans G5 g6
        obtain ⟨g', og', e', x0', x1', x2', x3', x4', x5'⟩ := (A.keep G6) r hrn
        cases e'
        rw [HY.out] at x0' x1' x2' x3' x4' x5'
        dsimp only at x0' x1' x2' x3' x4' x5'
        go_upto_region 15 with (go_at_call 8; (with_reducible refine (cS yr _ G6).mono ?_); rintro e u7 ⟨rfl, g7⟩)
        have GU := gtrans G6 g7
        have GX := gtrans g6 g7
        have hw : 1 + sizeO ns yl + sizeO ns yr = (m : Int) + 1 := by
          have := HSZ.out
          rw [HY.out] at this
          dsimp only at this
          rw [if_pos hkl, if_pos hkr] at this
          omega
        rw [hw]
        clear hw x0' x1' x2' x3' x4' x5' x0 x1 x2 x3 x4 x5 a0 a1 b0 b1
        obtain ⟨g2, o2, rfl, z0, z1, z2, _, _, _⟩ := (NC.keep GX) m (by rw [HM.out]; exact Nat.lt_succ_self m)
        rw [HLAST.out, HY.out] at z0 z1 z2
        replace z0 : u7.cell? ⟨g2, o2 + m * 6, none⟩ = some (.int .i64 yop) := z0
        replace z1 : u7.cell? ⟨g2, o2 + m * 6 + 1, none⟩ = some (.int .i64 yn) := z1
        replace z2 : u7.cell? ⟨g2, o2 + m * 6 + 2, none⟩ = some (.string yv) := z2
        obtain ⟨g', og', e', x0, x1, x2, _, _, _⟩ := (A.keep GU) r hrn
        cases e'
        rw [HY.out] at x0 x1 x2
        dsimp only at x0 x1 x2
        have cC := refTree_any C (some ⟨g2, o2, none⟩) sp u7 (K.keep GU) (NC.keep GX) (by rw [HM.out]; exact hmr) fitC
        rw [HM.out, hts] at cC
        go_upto_region 16 with (go_at_call 10; (with_reducible refine cC.mono ?_); rintro e v1 ⟨rfl, k1⟩)
        have GV := gtrans GU k1
        have GY := gtrans GX k1
        clear cC
        replace z0 := (k1.cell (p := ⟨_, _, none⟩) (lt_of_cell z0)).trans z0
        replace z1 := (k1.cell (p := ⟨_, _, none⟩) (lt_of_cell z1)).trans z1
        replace z2 := (k1.cell (p := ⟨_, _, none⟩) (lt_of_cell z2)).trans z2
        replace x0 := (k1.cell (p := ⟨_, _, none⟩) (lt_of_cell x0)).trans x0
        replace x1 := (k1.cell (p := ⟨_, _, none⟩) (lt_of_cell x1)).trans x1
        replace x2 := (k1.cell (p := ⟨_, _, none⟩) (lt_of_cell x2)).trans x2
        have hne0 : Nonempty (Ext v1) := ⟨⟨_, Below.refl _ _⟩⟩
        have pz0 := fun z : Ext v1 => (z.cell _ _ (lt_of_cell z0)).trans z0
        have pz1 := fun z : Ext v1 => (z.cell _ _ (lt_of_cell z1)).trans z1
        have pz2 := fun z : Ext v1 => (z.cell _ _ (lt_of_cell z2)).trans z2
        have px0 := fun z : Ext v1 => (z.cell _ _ (lt_of_cell x0)).trans x0
        have px1 := fun z : Ext v1 => (z.cell _ _ (lt_of_cell x1)).trans x1
        have px2 := fun z : Ext v1 => (z.cell _ _ (lt_of_cell x2)).trans x2
        have hwm : wrap64 (m : Int) = (m : Int) := (by unfold wrap64; omega)
        have hm0 : (0 : Int) ≤ (m : Int) := by omega
        have hm1 : (m : Int) < (m : Int) + 1 := by omega
        go_upto_region 16 with fail
        refine wp_region_ext (by kernel_rfl) (by kernel_rfl) ?_
        repeat (go_big_quiet_step (fail))
        refine wpQuiet_nil ?_
        intro _ hw'
        obtain ⟨nz, hw''⟩ := hw'
        subst hw''
        have GZ := gtrans GV nz.h
        have NZ := (NC.keep GY).keep nz.h
        clear z0 z1 z2 x0 x1 x2 pz0 pz1 pz2 px0 px1 px2 hne0
        generalize nz.X = X at *
        by_cases hi0 : inner < 0
        · go_wp2
          go_ret
          exact ⟨rfl, GZ⟩
        by_cases hi1 : (m : Int) + 1 ≤ inner
        · go_wp2
          go_ret
          exact ⟨rfl, GZ⟩
        obtain ⟨i, rfl⟩ : ∃ i : Nat, inner = (i : Int) := ⟨inner.toNat, by omega⟩
        have hi2 : i < C.length := by rw [HM.out]; omega
        obtain ⟨p1, p2, p3⟩ := sub_len hts hi2
        have hD := HSS.out i hi2
        have c9 := csub_any C (i : Int) (some ⟨g2, o2, none⟩) sp (by rw [HM.out]; exact hsp) X NZ (by rw [HM.out]; exact hmr) fitC (K.keep GZ)
        rw [HM.out] at c9
        obtain ⟨D, hDD⟩ : ∃ D, subO C (i : Int) = D := ⟨_, rfl⟩
        rw [hDD] at c9 hD p2 p3
        have cE : ∀ z : Int, z = (r : Int) - ((m : Int) + 1) + 1 + (i : Int) → ∀ (u : World) (gg : Below w.heap.size w u), Calls Tryz.prog 9 #[.slice (some ⟨g, og, none⟩) ns.length cap, .int .i64 z] u fun e w' => ∃ v, e = .returned v ∧ w'.ownsRow u.heap.size 29 6 v D.length (ndsV D) ∧ Below u.heap.size u w' := fun z hz u gg => by
          have := cB z u gg
          rw [show z = (r : Int) - ((m + 1 : Nat) : Int) + 1 + (i : Int) by omega, ← hD] at this
          rw [show z = (r : Int) - ((m + 1 : Nat) : Int) + 1 + (i : Int) by omega]
          exact this
        have hdl : D.length ≤ 9223372036854775807 := by rw [hDD] at p1; omega
        have hd0 : (0 : Int) < (D.length : Int) := by omega
        have cF := fun (u : World) (a1 a2 : Option Addr) (b1 b2 : Nat) (P : IsNds u a1 D) (Q : IsNds u a2 D) => sameTree_true D hdl a1 a2 b1 b2 u P Q
        obtain ⟨dl, hdln⟩ : ∃ dl, D.length = dl := ⟨_, rfl⟩
        rw [hdln] at c9 cE cF hd0
        have HDL := show Hid (_ = _) from hdln
        clear hD hDD p1 p2 p3 hdln hdl
        go_upto_region 21 with (go_at_call 9; (with_reducible refine c9.mono ?_); rintro e y1 ⟨w1, rfl, P1, k2⟩; obtain ⟨s1, q1, rfl, _, _, _⟩ := own_form P1)
        have GA1 := gtrans GZ k2
        go_upto_region 22 with (go_at_call 9; (with_reducible refine (cE _ (by omega) _ GA1).mono ?_); rintro e y2 ⟨w2, rfl, P2, k3⟩; obtain ⟨s2, q2, rfl, _, _, _⟩ := own_form P2)
        have GA2 := gtrans GA1 k3
        have cF2 := cF y2 s1 s2 q1 q2 (nds_of_own (b := X.heap.size) (c := q1) (by rw [HDL.out]; exact own_keep P1 k3)) (nds_of_own (b := y1.heap.size) (c := q2) (by rw [HDL.out]; exact P2))
        go_wp2_with (go_at_call 11; (with_reducible refine cF2.mono ?_); rintro e y3 ⟨rfl, k4⟩)
        go_ret
        exact ⟨rfl, gtrans GA2 k4⟩

end Go.Proofs.YtlejhococjlijaaGreatDoor
namespace Go.Proofs.YtlejhococjlijaaGreatDoor.checkApart
open Go.ChangeShapes Go.WideShapes Go.ChangeAt Go.RowKit Go.BigFrame
set_option linter.unusedVariables false
set_option linter.unusedSimpArgs false

theorem walk (ao : Option Addr) (cap : Nat) (ns : List Nd) (root : Int) (_ : (Lit.int .i64 root).wf = true) (inner : Int) (_ : (Lit.int .i64 inner).wf = true) (w : World) (K : KwAt w) (hc : ns.length ≤ cap) (hno : ao = none → ns.length = 0 ∧ cap = 0) (A : IsNds w ao ns) (hr : ns.length * 64 ≤ 140737488351232) (hf : ∀ k, (ns.getD k noNd).fit) :
    Calls Tryz.prog 3 #[.slice ao ns.length cap, .int .i64 root, .int .i64 inner] w fun e w' => e = .returned (.bool true) ∧ Below w.heap.size w w' := checkApart_walk ao cap ns root inner w K hc A hr hf

theorem own : ownKnob Tryz.prog.godebug = none := by kernel_rfl
theorem laidOut : laidOutB Tryz.prog = true := by kernel_rfl
theorem lmTail {P : Program} {x : String × DataW Unit} {r : List (String × DataW Unit)} {w : World} (h : laidMet P (x :: r) w) : laidMet P r w := by
  obtain ⟨ps, ⟨g, t, cs, fuel, p, q, hg, ht, hvar, hd, hq, rfl⟩, hn, hall⟩ := h
  refine ⟨q, hq, ?_, fun b off hm => hall b off (List.mem_append_right _ hm)⟩
  exact (List.nodup_append.1 hn).2.1

theorem gKw : Tryz.prog.globalNamed "sluice/api.Keywords" = some 0 := by kernel_rfl
theorem tabs {W : World} (h : laidMetH Tryz.prog Rows.checkApartRow.laid W) : KwAt W := by
  have h0 : laidMet Tryz.prog Rows.checkApartRow.laid W := (Go.MakeChecks.laidMetH_plain _ _ _ (by kernel_rfl)).mp h
  exact kwAt_of (tabS (bss := kwl) gKw (by kernel_rfl) Tryz.underlying109 Tryz.underlying9 (by kernel_rfl) (lmTail h0))

set_option maxRecDepth 100000 in
theorem contract (H : Type) (enc : TypeId × Value → H) (W : World) (base : Nat) (args : Array Value) (ds gs : List (DataW H)) (before : List MemPlace)
    (hval : ∀ (j : Nat) t v, Tryz.f3.params[j]? = some t → args[j]? = some v → Value.okWide Tryz.prog W .any base t v)
    (hsz : (DataW.weightsEach Tryz.prog (Tryz.f3.params.toList ++ Rows.checkApartSpec.plain.varTypes Tryz.prog) (ds ++ gs)).all (· ≤ reachBytes) = true)
    (hW : DataW.Whole enc Tryz.prog Tryz.f3.params.toList Rows.checkApartSpec.vars false W args.toList ds gs before) (hL : laidMetH Tryz.prog Rows.checkApartRow.laid W) :
    Calls Tryz.prog 3 args W fun e W' => ∃ v, e = .returned v ∧ Rows.checkApartSpec.post enc Tryz.prog Tryz.f3 false true false false W args v W' := by
  have hW' := hW
  obtain ⟨p, q, hA0, hV, rfl, hfz, hnd⟩ := hW
  have hA : DataW.TrodAll enc Tryz.prog W 0 (fun _ => true) true Tryz.f3.params.toList args.toList ds p := hA0
  rw [Tryz.params3] at hA hval hsz
  obtain ⟨v0, vs0, d0, ds0, p0, q0, hargs, rfl, rfl, h0, r0⟩ := trodAll_cons hA
  obtain ⟨v1, vs1, d1, ds1, p1, q1, rfl, rfl, rfl, h1, r1⟩ := trodAll_cons r0
  obtain ⟨v2, vs2, d2, ds2, p2, q2, rfl, rfl, rfl, h2, r2⟩ := trodAll_cons r1
  obtain ⟨rfl, rfl, rfl⟩ := trodAll_nil r2
  obtain rfl : args = #[v0, v1, v2] := by cases args; simp_all
  obtain ⟨rfl, rfl⟩ := trodVars_none hV
  have k0 := h0
  have lt0 : ∀ x ∈ p0, x.block < W.heap.size := by obtain ⟨m, hm⟩ := k0; exact DataW.trod_lt m _ _ _ hm
  obtain ⟨ao0, cap0, ns0, e0, wc0, wn0, w0, wr0, ws0⟩ : ∃ ao cap ns, v0 = .slice ao ns.length cap ∧ ns.length ≤ cap ∧ (ao = none → ns.length = 0 ∧ cap = 0) ∧ IsNds W ao ns ∧ ns.length * 64 ≤ 140737488351232 ∧ ∀ k, (ns.getD k noNd).fit := by
    obtain ⟨a, len, cap, e⟩ := okWide_slice Tryz.underlying22 (hval 0 22 v0 rfl rfl)
    subst e
    obtain ⟨fuel, hf⟩ := h0
    have hf' : DataW.trod enc Tryz.prog W 0 (fun _ => true) true fuel 22 [.slice a len cap] = some (d0, p0) := hf
    exact open_nds hf' (fun b hb => by
      have h1 := List.all_eq_true.1 hsz b (DataW.weights_mem_each (j := 0) (t := 22) rfl rfl b hb)
      simpa using h1)
  subst e0
  have k1 := h1
  have lt1 : ∀ x ∈ p1, x.block < W.heap.size := by obtain ⟨m, hm⟩ := k1; exact DataW.trod_lt m _ _ _ hm
  obtain ⟨a1, e1, _, _, w1⟩ := open_int Tryz.underlying3 (hval 1 3 v1 rfl rfl) h1
  subst e1
  have k2 := h2
  have lt2 : ∀ x ∈ p2, x.block < W.heap.size := by obtain ⟨m, hm⟩ := k2; exact DataW.trod_lt m _ _ _ hm
  obtain ⟨a2, e2, _, _, w2⟩ := open_int Tryz.underlying3 (hval 2 3 v2 rfl rfl) h2
  subst e2
  clear hA0
  refine (walk ao0 cap0 ns0 a1 w1 a2 w2 W (tabs hL) wc0 wn0 w0 wr0 ws0).mono fun e W' ⟨he, bel⟩ => ?_
  subst he
  exact ⟨_, rfl, _, _, _, [], _, [], hW', trodAll_mk1 (shut_bool Tryz.underlying4 _), (trodAll_cons_mk (Below.trod laidOut (by kernel_rfl) (of_decide_eq_true (by kernel_rfl)) k0 bel lt0) (trodAll_cons_mk (Below.trod laidOut (by kernel_rfl) (of_decide_eq_true (by kernel_rfl)) k1 bel lt1) (trodAll_cons_mk (Below.trod laidOut (by kernel_rfl) (of_decide_eq_true (by kernel_rfl)) k2 bel lt2) trodAll_mk0))), rfl, bel.frame _, fun h => by cases h⟩

/-- For the world of the witness: the settled one, the tables holding what their text lays. -/
def put (c : Array Value) : Obj → Obj
  | .cells _ t frozen => .cells c t frozen
  | x => x
theorem laid_met (os : Os) : laidMet Tryz.prog Rows.checkApartRow.laid ((World.laidAll Tryz.prog os Rows.checkApartRow.laid).forCall (fun _ _ => 0) ⟨#[], #[.slice none 0 0, .int .i64 0, .int .i64 0], []⟩).memory :=
  laidMet_laidAll _ (by kernel_rfl) (by kernel_rfl)
theorem reads (os : Os) {H : Type} (enc : TypeId × Value → H) : ∃ places, DataW.whole enc Tryz.prog ((World.laidAll Tryz.prog os Rows.checkApartRow.laid).forCall (fun _ _ => 0) ⟨#[], #[.slice none 0 0, .int .i64 0, .int .i64 0], []⟩).memory Tryz.f3.params.toList Rows.checkApartSpec.vars false (#[.slice none 0 0, .int .i64 0, .int .i64 0] : Array Value).toList 8 = some ([.nil, .lit (.int .i64 0), .lit (.int .i64 0)], [], places) :=
  ⟨[], by kernel_rfl⟩

set_option maxRecDepth 100000 in
theorem lifted (os : Os) (started : os.Started) (H : Type) (enc : TypeId × Value → H) (F : Stop.Interp) :
    ReturnsInHanded {} Tryz.checked os 3 .any ((OpenSpec.ofChange Rows.checkApartSpec).preRow enc Tryz.prog Tryz.f3 Rows.checkApartRow.domain false Rows.checkApartRow.laid) (((OpenSpec.ofChange Rows.checkApartSpec).at F).post enc Tryz.prog Tryz.f3 false true false false) := by
  obtain ⟨places, hx⟩ := reads os enc
  refine returnsInHanded_of_row (C := Tryz.checked) (s := OpenSpec.ofChange Rows.checkApartSpec) own started (by kernel_rfl) Tryz.func3
    ⟨(World.laidAll Tryz.prog os Rows.checkApartRow.laid), fun _ _ => 0, ⟨#[], #[.slice none 0 0, .int .i64 0, .int .i64 0], []⟩, World.laidAll_os _ _ _, World.shaped_of_ZipB (by kernel_rfl) (by kernel_rfl), rfl, (Input.okWide_of_okWideB (show Input.okWideB Tryz.prog ((World.laidAll Tryz.prog os Rows.checkApartRow.laid).forCall (fun _ _ => 0) ⟨#[], #[.slice none 0 0, .int .i64 0, .int .i64 0], []⟩) 3 ⟨#[], #[.slice none 0 0, .int .i64 0, .int .i64 0], []⟩ = true by kernel_rfl)).2,
      OpenSpec.preRow_of_cond 8 hx (by kernel_rfl) (fun k hk => by cases hk) (by kernel_rfl) (laid_met os),
      by simp only [Assume.holds]; exact ⟨by simp, by simp, by simp, by simp, by simp⟩⟩ ?_
  intro W base args ds gs before hval hW _ _ hsz hL _ _
  exact contract H enc W base args ds gs before hval hsz hW hL

theorem said : Rows.CheckApartSaid :=
  OpenClaim.holds_of_cond 3 Tryz.f3 rfl rfl rfl rfl rfl rfl rfl ⟨rfl, rfl, rfl, rfl, rfl⟩ rfl rfl rfl rfl rfl (by kernel_rfl) Tryz.func3 (by kernel_rfl)
    (of_decide_eq_true (by kernel_rfl)) (by unfold Func.isWrapper; first | (rw [if_pos (by decide +kernel)]; kernel_rfl) | (rw [if_neg (by decide +kernel)]; exact ⟨rfl, rfl⟩))
    (fun os started H enc _ F => by rw [OpenClaim.pre_eq_preRow]; exact lifted os started H enc F)

theorem plain (f : FuncId) (fn : Func) (hf : Tryz.pinned.checked.prog.funcNamed "sluice/sluicelaw6.CheckApart" = some f) (hfn : Tryz.pinned.checked.prog.funcs[f]? = some fn) :
    false = Tryz.pinned.checked.prog.looks [] ∧ ∀ (j : Nat) t, fn.params[j]? = some t → Tryz.pinned.checked.prog.wantsStandIn t = false := by
  obtain rfl : f = 3 := Option.some.inj ((show Tryz.prog.funcNamed "sluice/sluicelaw6.CheckApart" = some 3 by kernel_rfl).symm.trans hf) |>.symm
  obtain rfl : fn = Tryz.f3 := (Option.some.inj (Tryz.func3.symm.trans hfn)).symm
  refine ⟨by kernel_rfl, fun j t ht => ?_⟩
  rw [Tryz.params3] at ht
  have hm : t = 22 ∨ t = 3 := by simpa using Array.mem_of_getElem? ht
  rcases hm with rfl | rfl
  · exact (show Tryz.prog.wantsStandIn 22 = false by kernel_rfl)
  · exact (show Tryz.prog.wantsStandIn 3 = false by kernel_rfl)

end Go.Proofs.YtlejhococjlijaaGreatDoor.checkApart
namespace Go.Proofs.YtlejhococjlijaaGreatDoor
theorem checkApart_holds : Rows.CheckApartCardSaid :=
  Claim7.holds_tied_plain_at .later [] _ _ _ _ checkApart.said (fun _ h => by cases h) (by kernel_rfl) (fun _ h => by cases h) checkApart_row_tie rfl ⟨rfl, rfl⟩ (by kernel_rfl) rfl checkApart.plain (by kernel_rfl)
#print axioms checkApart_holds
end Go.Proofs.YtlejhococjlijaaGreatDoor
