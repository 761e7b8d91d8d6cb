/- A subtree taken out of a tree: it is a tree, it may run, and comes to what it came to within: pure. And what goes with it: 1 texts in one. -/
import Derived.Test.YtglagbedgjkdbaaGreatDoorJa22
namespace Go.Proofs.YtglagbedgjkdbaaGreatDoor
open Go.RowKit Go.BigFrame Go.Proofs.YtglagbedgjkdbaaGreatDoor.Ev
set_option linter.unusedVariables false
set_option linter.unusedSimpArgs false

theorem subL_len {ns : List Nd} {f r : Nat} (hr : r < ns.length) (hf : f ≤ r) : (subL ns f r).length = r + 1 - f := by
  unfold subL
  rw [List.length_map, List.length_take, List.length_drop]
  omega
theorem subL_at {ns : List Nd} {f r k : Nat} (hr : r < ns.length) (hk : f + k ≤ r) : (subL ns f r).getD k noNd = shN f (ns.getD (f + k) noNd) := by
  unfold subL
  rw [List.getD_eq_getElem?_getD, List.getElem?_map, List.getElem?_take_of_lt (by omega), List.getElem?_drop, List.getElem?_eq_getElem (by omega : f + k < ns.length), List.getD_eq_getElem?_getD, List.getElem?_eq_getElem (by omega : f + k < ns.length)]
  rfl
def dnL (f : Nat) (bs : List Int) : List Int := (bs.drop f).map (· - (f : Int))
theorem dnL_len (f : Nat) (bs : List Int) : (dnL f bs).length = bs.length - f := by unfold dnL; rw [List.length_map, List.length_drop]
theorem dnL_at {f : Nat} {bs : List Int} {j : Nat} (hj : f + j < bs.length) : (dnL f bs).getD j 0 = bs.getD (f + j) 0 - (f : Int) := by
  unfold dnL
  rw [List.getD_eq_getElem?_getD, List.getElem?_map, List.getElem?_drop, List.getElem?_eq_getElem hj, List.getD_eq_getElem?_getD, List.getElem?_eq_getElem hj]
  rfl
theorem leaf_dn {f : Nat} {x : Nd} (h : leafN x = true) : leafN (shN f x) = true := by
  unfold leafN at h ⊢
  have h := of_decide_eq_true h
  obtain ⟨h1, h2, h3⟩ := h
  refine decide_eq_true ⟨?_, ?_, h3⟩
  · show shI f x.l = -1
    unfold shI
    rw [h1, if_pos (by decide)]
  · show shI f x.r = -1
    unfold shI
    rw [h2, if_pos (by decide)]
theorem leaf_no {x : Nd} (h : 12 ≤ x.op) : leafN x = false := by
  unfold leafN
  refine decide_eq_false fun ⟨_, _, h3⟩ => ?_
  rcases h3 with h3 | h3 | h3 | h3 <;> omega
theorem nodeO_dn {f : Nat} {x : Nd} {bs : List Int} (hf : f ≤ bs.length) (hB : Bgs bs) {c : Int} (h : nodeO x bs = some c) (hc : (f : Int) ≤ c) : nodeO (shN f x) (dnL f bs) = some (c - (f : Int)) := by
  by_cases hl : leafN x = true
  · unfold nodeO at h ⊢
    rw [if_pos hl] at h
    rw [if_pos (leaf_dn hl), dnL_len]
    cases h
    congr 1
    omega
  unfold nodeO at h
  rw [if_neg hl] at h
  by_cases h1 : x.op = 12 ∨ x.op = 13
  · rw [if_pos h1] at h
    split at h
    · rename_i hcc
      obtain ⟨c1, c2, c3, c4⟩ := hcc
      have hpos : 0 < bs.length := List.length_pos_iff.2 c2
      have hb := hB (bs.length - 1) (by omega)
      cases h
      unfold nodeO
      rw [if_neg (by rw [leaf_no (show 12 ≤ (shN f x).op by show 12 ≤ x.op; omega)]; decide), if_pos (show (shN f x).op = 12 ∨ (shN f x).op = 13 from h1),
        if_pos ⟨c1, (fun e => by have := congrArg List.length e; rw [dnL_len, List.length_nil] at this; omega), (by show shI f x.l = _; unfold shI; rw [dnL_len, if_neg (by omega)]; omega), (by show shI f x.r = _; unfold shI; rw [c4, if_pos (by decide)])⟩, dnL_len, dnL_at (by omega), show f + (bs.length - f - 1) = bs.length - 1 by omega]
    · cases h
  rw [if_neg h1] at h
  split at h
  · rename_i h2
    split at h
    · rename_i hcc
      obtain ⟨c1, c2, c3, c4, c5⟩ := hcc
      have hpos : 0 < bs.length := List.length_pos_iff.2 c2
      have hb := hB (bs.length - 1) (by omega)
      have hb2 := hB (bs.getD (bs.length - 1) 0 - 1).toNat (by omega)
      cases h
      unfold nodeO
      have e1 : (dnL f bs).getD ((dnL f bs).length - 1) 0 = bs.getD (bs.length - 1) 0 - (f : Int) := by
        rw [dnL_len, dnL_at (by omega), show f + (bs.length - f - 1) = bs.length - 1 by omega]
      rw [if_neg (by rw [leaf_no (show 12 ≤ (shN f x).op by show 12 ≤ x.op; omega)]; decide), if_neg (show ¬ ((shN f x).op = 12 ∨ (shN f x).op = 13) from h1), if_pos (show 14 ≤ (shN f x).op ∧ (shN f x).op ≤ 26 from h2), e1,
        if_pos ⟨c1, (fun e => by have := congrArg List.length e; rw [dnL_len, List.length_nil] at this; omega), (by show shI f x.r = _; unfold shI; rw [dnL_len, if_neg (by omega)]; omega), (by omega), (by show shI f x.l = _; unfold shI; rw [if_neg (by omega)]; omega)⟩,
        dnL_at (by omega), show f + (bs.getD (bs.length - 1) 0 - (f : Int) - 1).toNat = (bs.getD (bs.length - 1) 0 - 1).toNat by omega]
    · cases h
  · cases h
theorem Bgs.take {bs : List Int} (h : Bgs bs) (k : Nat) : Bgs (bs.take k) := fun i hi => by
  rw [List.length_take] at hi
  have := h i (by omega)
  rw [List.getD_eq_getElem?_getD, List.getElem?_take_of_lt (by omega), ← List.getD_eq_getElem?_getD]
  exact this
theorem takeD_at {l : List Int} {m i : Nat} (h : i < m) : (l.take m).getD i 0 = l.getD i 0 := by
  rw [List.getD_eq_getElem?_getD, List.getElem?_take_of_lt h, ← List.getD_eq_getElem?_getD]
theorem tree_sub {ns : List Nd} {bs : List Int} (hb : begsO ns [] = some bs) {r : Nat} (hr : r < ns.length) : treeB (subL ns (bg bs r) r) = true := by
  have K : ∀ i, i < ns.length → Kin ns bs i := fun i hi => kin_of hb i hi
  obtain ⟨hl, hn⟩ := begs_to ns bs hb
  have hB : Bgs bs := fun i hi => by
    have w := ws_of hb i (by omega)
    have := w.lo
    exact ⟨by omega, by omega⟩
  have hle := (K r hr).le
  obtain ⟨f, hf⟩ : ∃ f, bg bs r = f := ⟨_, rfl⟩
  rw [hf] at hle ⊢
  have hlen := subL_len hr hle
  have hb' : begsO (subL ns f r) [] = some ((dnL f bs).take (r + 1 - f)) := by
    refine begs_of _ _ (by rw [List.length_take, dnL_len, hlen]; omega) fun i hi => ?_
    rw [hlen] at hi
    have hc : (f : Int) ≤ bs.getD (f + i) 0 := by
      have := kin_lam K r hr (f + i) (by omega) (by omega)
      have h2 := hB (f + i) (by omega)
      rw [hf] at this
      unfold bg at this
      omega
    have h := nodeO_dn (f := f) (by rw [List.length_take]; omega) (hB.take (f + i)) (hn (f + i) (by omega)) hc
    rw [subL_at hr (by omega), List.take_take, Nat.min_eq_left (by omega)]
    rw [show (dnL f bs).take i = dnL f (bs.take (f + i)) by unfold dnL; rw [← List.map_take, List.drop_take, show f + i - f = i by omega], h]
    rw [takeD_at (by omega), dnL_at (by omega)]
  unfold treeB
  rw [hb']
  refine decide_eq_true ⟨by omega, ?_⟩
  rw [hlen, takeD_at (by omega), dnL_at (by omega), show f + (r + 1 - f - 1) = r by omega]
  have := hB r (by omega)
  unfold bg at hf
  omega
/-- The operands within the subtree. -/
theorem sub_kids {ns : List Nd} {bs : List Int} (K : ∀ i, i < ns.length → Kin ns bs i) {r : Nat} (hr : r < ns.length) {j : Nat} (h1 : bg bs r ≤ j) (h2 : j ≤ r) :
    ((ns.getD j noNd).l = -1 ∨ ∃ k : Nat, (ns.getD j noNd).l = (k : Int) ∧ bg bs r ≤ k ∧ k < j) ∧ ((ns.getD j noNd).r = -1 ∨ ∃ k : Nat, (ns.getD j noNd).r = (k : Int) ∧ bg bs r ≤ k ∧ k < j) := by
  have hlam := kin_lam K r hr j h1 h2
  rcases (K j (by omega)).how with ⟨_, _, e1, e2⟩ | ⟨_, e0, e1, e2, _⟩ | ⟨_, e0, e1, e2, e3, _⟩
  · exact ⟨.inl e1, .inl e2⟩
  · have := kin_kid K (show j < ns.length by omega) (.inl e1)
    exact ⟨.inr ⟨_, e1, by omega, by omega⟩, .inl e2⟩
  · have a := kin_kid K (show j < ns.length by omega) (.inl e3)
    have b := kin_kid K (show j < ns.length by omega) (.inr e2)
    exact ⟨.inr ⟨_, e3, by omega, by omega⟩, .inr ⟨_, e2, by omega, by omega⟩⟩
theorem valK_sub (L : List Ty) (M : ByteArray → Option Int) (E : Envr) {ns : List Nd} {bs : List Int} (K : ∀ i, i < ns.length → Kin ns bs i) {r : Nat} (hr : r < ns.length) : ∀ k, bg bs r + k ≤ r + 1 → valK L M E (subL ns (bg bs r) r) k = (valK L M E ns (bg bs r + k)).drop (bg bs r)
  | 0, _ => by rw [Nat.add_zero, List.drop_eq_nil_of_le (by rw [valK_len]; exact Nat.le_refl _)]; rfl
  | k + 1, h => by
    have ih := valK_sub L M E K hr k (by omega)
    have hk := sub_kids K hr (show bg bs r ≤ bg bs r + k by omega) (show bg bs r + k ≤ r by omega)
    have hat := subL_at (f := bg bs r) (k := k) hr (by omega)
    have hop := (K (bg bs r + k) (by omega)).how
    rw [show bg bs r + (k + 1) = bg bs r + k + 1 by omega]
    unfold valK
    rw [List.drop_append_of_le_length (by rw [valK_len]; omega), ih, hat]
    congr 2
    obtain ⟨f, hf⟩ : ∃ f, bg bs r = f := ⟨_, rfl⟩
    rw [hf] at hk hop ⊢
    generalize ns.getD (f + k) noNd = nd at hk hop ⊢
    have get : ∀ z : Int, (∃ c : Nat, z = (c : Int) ∧ f ≤ c ∧ c < f + k) → ((valK L M E ns (f + k)).drop f).getD (shI f z).toNat noV2 = (valK L M E ns (f + k)).getD z.toNat noV2 := fun z ⟨c, e, c1, c2⟩ => by
      subst e
      unfold shI
      rw [if_neg (by omega), List.getD_eq_getElem?_getD, List.getElem?_drop, ← List.getD_eq_getElem?_getD, show f + ((c : Int) - (f : Int)).toNat = c by omega, Int.toNat_natCast]
    have e0 : (shN f nd).op = nd.op := rfl
    have ev : (shN f nd).v = nd.v := rfl
    have ex : (shN f nd).x = nd.x := rfl
    have el : (shN f nd).l = shI f nd.l := rfl
    have er : (shN f nd).r = shI f nd.r := rfl
    have ek : kLit (shN f nd) = kLit nd := rfl
    unfold nodeW
    rw [e0, ev, ex, el, er, ek]
    by_cases h12 : nd.op ≤ 11
    · by_cases g1 : nd.op < 4
      · rw [if_pos g1, if_pos g1]
      rw [if_neg g1, if_neg g1]
      by_cases g2 : nd.op = 5
      · rw [if_pos g2, if_pos g2]
      rw [if_neg g2, if_neg g2, if_pos h12, if_pos h12]
    · have hl : ∃ c : Nat, nd.l = (c : Int) ∧ f ≤ c ∧ c < f + k := by
        rcases hk.1 with h | h
        · exfalso; omega
        · exact h
      have n4 : ¬ nd.op < 4 := by omega
      have n5 : ¬ nd.op = 5 := by omega
      rw [get _ hl]
      simp only [if_neg n4, if_neg n5, if_neg h12]
      by_cases g4 : nd.op = 12
      · rw [if_pos g4, if_pos g4]
      by_cases g5 : nd.op = 13
      · simp only [if_neg g4, if_pos g5]
      have hrr : ∃ c : Nat, nd.r = (c : Int) ∧ f ≤ c ∧ c < f + k := by
        rcases hk.2 with h | h
        · exfalso; omega
        · exact h
      rw [get _ hrr]
theorem valA_sub (L : List Ty) (M : ByteArray → Option Int) (E : Envr) {ns : List Nd} {bs : List Int} (K : ∀ i, i < ns.length → Kin ns bs i) {r : Nat} (hr : r < ns.length) : valA L M E (subL ns (bg bs r) r) ((subL ns (bg bs r) r).length - 1) = valA L M E ns r := by
  have hle := (K r hr).le
  have h := valK_sub L M E K hr (r + 1 - bg bs r) (by omega)
  have hlen := subL_len hr hle
  rw [← valK_at L M E (subL ns (bg bs r) r) _ (r + 1 - bg bs r) (by omega), h, hlen, List.getD_eq_getElem?_getD, List.getElem?_drop, ← List.getD_eq_getElem?_getD, show bg bs r + (r + 1 - bg bs r - 1) = r by omega, show bg bs r + (r + 1 - bg bs r) = r + 1 by omega]
  exact valK_at L M E ns r (r + 1) (by omega)
theorem run_sub {M : ByteArray → Option Int} {ns : List Nd} (h : runB M ns = true) {bs : List Int} (hb : begsO ns [] = some bs) {r : Nat} (hr : r < ns.length) : runB M (subL ns (bg bs r) r) = true := by
  have K : ∀ i, i < ns.length → Kin ns bs i := fun i hi => kin_of hb i hi
  have hle := (K r hr).le
  have hlen := subL_len hr hle
  unfold runB
  rw [tree_sub hb hr, Bool.true_and, List.all_eq_true]
  intro x hx
  obtain ⟨i, hi, rfl⟩ := List.getElem_of_mem hx
  have e : (subL ns (bg bs r) r)[i] = (subL ns (bg bs r) r).getD i noNd := by rw [List.getD_eq_getElem?_getD, List.getElem?_eq_getElem hi]; rfl
  rw [hlen] at hi
  rw [e, subL_at hr (by omega)]
  have hN := (run_split h).2 (bg bs r + i) (by omega)
  obtain ⟨nd, hnd⟩ : ∃ nd, ns.getD (bg bs r + i) noNd = nd := ⟨_, rfl⟩
  have key : ∀ z : Int, (z = -1 ∨ ∃ c : Nat, z = (c : Int) ∧ bg bs r ≤ c ∧ c < bg bs r + i) → kKid (subL ns (bg bs r) r) nd.op (shI (bg bs r) z) = kKid ns nd.op z := fun z hz => by
    clear hN hnd e
    unfold kKid shI
    rcases hz with hz | ⟨c, hz, c1, c2⟩
    · subst hz
      rfl
    · subst hz
      have hcr : c ≤ r := by omega
      rw [if_neg (by omega), decide_eq_true (show (0 : Int) ≤ (c : Int) - (bg bs r : Int) by omega), decide_eq_true (show (0 : Int) ≤ (c : Int) by omega), show ((c : Int) - (bg bs r : Int)).toNat = c - bg bs r by omega, subL_at hr (by omega), show bg bs r + (c - bg bs r) = c by omega, Int.toNat_natCast]
      rfl
  have hk := sub_kids K hr (show bg bs r ≤ bg bs r + i by omega) (show bg bs r + i ≤ r by omega)
  rw [hnd] at hN hk ⊢
  unfold runN kFit at hN ⊢
  rw [show (shN (bg bs r) nd).op = nd.op from rfl, show (shN (bg bs r) nd).v = nd.v from rfl, show (shN (bg bs r) nd).l = shI (bg bs r) nd.l from rfl, show (shN (bg bs r) nd).r = shI (bg bs r) nd.r from rfl, key _ hk.1, key _ hk.2]
  exact hN

end Go.Proofs.YtglagbedgjkdbaaGreatDoor
