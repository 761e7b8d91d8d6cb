/- A list that was laid down and is told in its order: what stable asks of it. -/
import Derived.Test.YthjnkcapjhelgaaHlb
namespace Go.Proofs.Ythjnkcapjhelgaa
open Go.RowKit Go.BigFrame
set_option linter.unusedVariables false
set_option linter.unusedSimpArgs false

theorem getD_map_fst (L : List (Ev × Nat)) (i : Nat) (h : i < L.length) : (L.map Prod.fst).getD i zeroE = L[i].1 := by
  simp [List.getD_eq_getElem?_getD, h]
theorem stb_of {M : List Ev} {L : List (Ev × Nat)} (hM : ∀ (k : Nat) (x : Ev), M[k]? = some x → x.typ = (k : Int)) (hp : L.Perm M.zipIdx) (hs : L.Pairwise fun a b => ahd evLt a b = true) : Stb (L.map Prod.fst) M := by
  have hlen : L.length = M.length := by rw [hp.length_eq, List.length_zipIdx]
  have hmem : ∀ i (h : i < L.length), M[L[i].2]? = some L[i].1 := fun i h => List.mem_zipIdx_iff_getElem?.1 (hp.mem_iff.1 (List.getElem_mem h))
  have htyp : ∀ i (h : i < L.length), L[i].1.typ = (L[i].2 : Int) := fun i h => hM _ _ (hmem i h)
  refine ⟨by rw [List.length_map]; exact hlen, fun i hi => ?_, fun i j hi hj e => ?_, fun i h0 hi => ?_⟩
  · rw [List.length_map] at hi
    rw [getD_map_fst L i hi]
    have h1 := hmem i hi
    exact ⟨L[i].2, (List.getElem?_eq_some_iff.1 h1).1, htyp i hi, by rw [List.getD_eq_getElem?_getD, h1]; rfl⟩
  · rw [List.length_map] at hi hj
    rw [getD_map_fst L i hi, getD_map_fst L j hj, htyp i hi, htyp j hj] at e
    have e2 : L[i].2 = L[j].2 := by omega
    have hne : ∀ a b : Nat, (ha : a < L.length) → (hb : b < L.length) → a < b → L[a].2 ≠ L[b].2 := fun a b ha hb hab e3 => by
      have hR := List.pairwise_iff_getElem.1 hs a b ha hb hab
      have e4 : L[a] = L[b] := by
        have h1 := hmem a ha
        have h2 := hmem b hb
        rw [e3, h2] at h1
        exact Prod.ext (Option.some.inj h1).symm e3
      rw [e4, (ahd_swo evLt_swo).irr] at hR
      cases hR
    rcases Nat.lt_trichotomy i j with h | h | h
    · exact absurd e2 (hne i j hi hj h)
    · exact h
    · exact absurd e2.symm (hne j i hj hi h)
  · rw [List.length_map] at hi
    have h1 : i - 1 < L.length := by omega
    rw [getD_map_fst L i hi, getD_map_fst L (i - 1) h1, htyp i hi, htyp (i - 1) h1]
    have hR := List.pairwise_iff_getElem.1 hs (i - 1) i h1 hi (by omega)
    unfold ahd at hR
    by_cases hlt : L[i - 1].2 < L[i].2
    · rw [if_pos hlt] at hR
      exact ⟨by simpa using hR, .inr (by omega)⟩
    · rw [if_neg hlt] at hR
      exact ⟨evLt_swo.asym _ _ hR, .inl hR⟩
theorem stb_lay (l : List Ev) : Stb ((lay evLt (mkd l)).map Prod.fst) (mkd l) := stb_of (fun k x h => mkd_at l k x h) (lay_perm evLt (mkd l)) (lay_sorted evLt_swo (mkd l))

end Go.Proofs.Ythjnkcapjhelgaa
