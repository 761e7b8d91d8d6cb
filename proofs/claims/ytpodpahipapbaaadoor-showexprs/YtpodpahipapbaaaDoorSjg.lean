/- The document's answer for any node of a well shaped tree. -/
import Derived.Test.YtpodpahipapbaaaDoorSjf
namespace Go.Proofs.YtpodpahipapbaaaDoor
open Go.RowKit Go.BigFrame Go.Shelf Go.Proofs.YtpodpahipapbaaaDoor.Ev
set_option linter.unusedVariables false
set_option linter.unusedSimpArgs false

theorem opr_congr {nd nd' : Nat → Pce} {ns : List Nd} {i : Nat} {need : Int} (h : nd i = nd' i) : oprP nd ns i need = oprP nd' ns i need := by unfold oprP; rw [h]
/-- Enough fuel is enough. -/
theorem nod_fuel (ns : List Nd) (bs : List Int) (W : ∀ i, i < ns.length → WsAt ns bs i) : ∀ (f g i : Nat), i < f → i < g → i < ns.length → nodP ns f i = nodP ns g i := by
  intro f
  induction f with
  | zero => intro g i h; omega
  | succ f ih =>
    intro g i hf hg hi
    obtain ⟨g, rfl⟩ : ∃ g', g = g' + 1 := ⟨g - 1, by omega⟩
    have w := W i hi
    have hL : 12 ≤ (ns.getD i noNd).op → ∀ need, oprP (nodP ns f) ns (ns.getD i noNd).l.toNat need = oprP (nodP ns g) ns (ns.getD i noNd).l.toNat need := fun h12 need => by
      refine opr_congr (ih g _ ?_ ?_ ?_)
      all_goals
        rcases (show ((ns.getD i noNd).op = 12 ∨ (ns.getD i noNd).op = 13) ∨ 14 ≤ (ns.getD i noNd).op by omega) with h | h
        · have := w.one h; omega
        · have := w.two h
          have := (W (i - 1) (by omega)).lo
          omega
    have hR : 14 ≤ (ns.getD i noNd).op → ∀ need, oprP (nodP ns f) ns (ns.getD i noNd).r.toNat need = oprP (nodP ns g) ns (ns.getD i noNd).r.toNat need := fun h14 need => by
      refine opr_congr (ih g _ ?_ ?_ ?_)
      all_goals
        have := w.two h14
        omega
    unfold nodP
    rcases lvl_cases w.lf with ⟨h1, h2⟩ | ⟨h1, h2⟩ | ⟨h1, h2⟩ | ⟨h1, h2⟩
    · simp only [h2, Int.reduceEq, ↓reduceIte]
    · simp only [h2, Int.reduceEq, ↓reduceIte, hL (by omega)]
    · simp only [h2, Int.reduceEq, ↓reduceIte, hL (by omega)]
    · rcases h2 with h2 | h2 | h2 | h2 | h2
      all_goals simp only [h2, Int.reduceEq, ↓reduceIte, hL (by omega), hR (by omega)]
theorem lf_ne (n : Nd) : (lfP n).ts ≠ [] := by
  unfold lfP
  repeat' split
  · simp [nbP]
  · simp [fixP, fxL]
  · simp [fixP, fxL]
  · unfold atP; rw [(glue3 _ _ _).1]; simp [nmP]
  · rw [(glue3 _ _ _).1]; simp [nmP]
  · rw [(glue3 _ _ _).1]; simp [fixP, fxL]
theorem bin_ne (a b : Pce) (k : Int) : (glueP [a, fixP [k], b]).ts ≠ [] := by rw [(glue3 _ _ _).1]; simp [fixP, fxL]
theorem un_ne (a : Pce) (k : Int) : (openP [fixP [k], a]).ts ≠ [] := by show (glueP _).ts ≠ []; rw [(glue2 _ _).1]; simp [fixP, fxL]
theorem br_ne (a : Pce) : (openP [fixP [3], a, fixP [4]]).ts ≠ [] := by show (glueP _).ts ≠ []; rw [(glue3 _ _ _).1]; simp [fixP, fxL]
theorem nod_ne (ns : List Nd) (f i : Nat) : (nodP ns (f + 1) i).ts ≠ [] := by
  unfold nodP
  repeat' split
  all_goals first | exact bin_ne _ _ _ | exact un_ne _ _ | exact lf_ne _
theorem opr_ne {nd : Nat → Pce} {ns : List Nd} {i : Nat} {need : Int} (h : (nd i).ts ≠ []) : (oprP nd ns i need).ts ≠ [] := by
  unfold oprP
  split
  · exact h
  · exact br_ne _
theorem jT_small (p : Pce) (h : AllS p) (m : Nat) (hl : p.ts.length ≤ m) : (jT p.ts).size ≤ 31 * m := by
  have h1 := joinU_small p.ts h p.ts.length (Nat.le_refl _)
  have h2 : (jT p.ts).size = (joinU p.ts p.ts.length).length := by show (joinU p.ts p.ts.length).toArray.size = _; simp
  omega
/-- What is known of a node's piece. -/
structure NodOk (p : Pce) : Prop where
  ne : p.ts ≠ []
  len : p.ts.length ≤ 4000
  lo : 0 ≤ p.d
  hi : p.d ≤ 1000
  s : AllS p
theorem NodOk.size {p : Pce} (h : NodOk p) : (jT p.ts).size ≤ 31 * 4000 := jT_small p h.s 4000 h.len
theorem nod_ok (ns : List Nd) (bs : List Int) (W : ∀ i, i < ns.length → WsAt ns bs i) (hf : ∀ k, (ns.getD k noNd).fit) (hN : ns.length ≤ 400) (i : Nat) (hi : i < ns.length) : NodOk (nodP ns ns.length i) := by
  obtain ⟨n, hn⟩ : ∃ n, ns.length = n + 1 := ⟨ns.length - 1, by omega⟩
  have h1 := nod_fits ns bs W ns.length i hi hi
  have h2 := sz_le W i hi
  exact ⟨by rw [hn]; exact nod_ne ns n i, by have := h1.1; omega, h1.2.1, by have := h1.2.2; omega, allS_nod ns bs W hf _ i hi hi⟩
theorem opr_ok {nd : Nat → Pce} {ns : List Nd} {i : Nat} {need : Int} (h : NodOk (nd i)) : (oprP nd ns i need).ts ≠ [] ∧ (oprP nd ns i need).ts.length ≤ 4002 ∧ 0 ≤ (oprP nd ns i need).d ∧ (oprP nd ns i need).d ≤ 1001 ∧ (jT (oprP nd ns i need).ts).size ≤ 31 * 4002 := by
  have hA : AllS (oprP nd ns i need) := allS_opr h.s
  have hl : (oprP nd ns i need).ts.length ≤ 4002 ∧ 0 ≤ (oprP nd ns i need).d ∧ (oprP nd ns i need).d ≤ 1001 := by
    have h1 := h.len
    have h2 := h.lo
    have h3 := h.hi
    unfold oprP
    split
    · exact ⟨by omega, h2, by omega⟩
    · obtain ⟨e1, e2⟩ := open_nums (nd i) h2
      exact ⟨by omega, by omega, by omega⟩
  exact ⟨opr_ne h.ne, hl.1, hl.2.1, hl.2.2, jT_small _ hA _ hl.1⟩
set_option maxRecDepth 100000 in
set_option maxHeartbeats 8000000 in
theorem told_any (ns : List Nd) (bs : List Int) (W : ∀ i, i < ns.length → WsAt ns bs i) (hf : ∀ k, (ns.getD k noNd).fit) (hN : ns.length ≤ 400) (i : Nat) (hi : i < ns.length) (pa pb : Pce) (o p : Int)
    (ha : 12 ≤ (ns.getD i noNd).op → pa = nodP ns ns.length (ns.getD i noNd).l.toNat ∧ o = (ns.getD (ns.getD i noNd).l.toNat noNd).op)
    (hb : 14 ≤ (ns.getD i noNd).op → pb = nodP ns ns.length (ns.getD i noNd).r.toNat ∧ p = (ns.getD (ns.getD i noNd).r.toNat noNd).op) (w : World) (P : PwAt w) (O : OsAt w) (C : CaAt w) :
    Calls Tryd.prog 18 #[.agg (ndA (ns.getD i noNd)), .agg (tdA pa), .int .i64 o, .agg (tdA pb), .int .i64 p] w fun e w' => e = .returned (.agg (tdA (nodP ns ns.length i))) ∧ Below w.heap.size w w' := by
  obtain ⟨f, hn⟩ : ∃ f, ns.length = f + 1 := ⟨ns.length - 1, by omega⟩
  have wi := W i hi
  have hfit := hf i
  have hok := nod_ok ns bs W hf hN
  have hcon : ∀ j need, j < i → oprP (nodP ns f) ns j need = oprP (nodP ns ns.length) ns j need := fun j need hj => opr_congr (nod_fuel ns bs W f ns.length j (by omega) (by omega) (by omega))
  rw [show nodP ns ns.length i = nodP ns (f + 1) i by rw [hn]]
  unfold nodP
  rcases lvl_cases wi.lf with ⟨h1, h2⟩ | ⟨h1, h2⟩ | ⟨h1, h2⟩ | ⟨h1, h2⟩
  · simp only [h2, Int.reduceEq, ↓reduceIte]
    by_cases h5 : (ns.getD i noNd).op ≤ 5
    · exact told_leaf _ hfit ⟨wi.lf.1, h5⟩ _ _ _ _ _ _ o p w P
    · exact told_call _ hfit ⟨by omega, h1⟩ _ _ _ _ _ _ o p w C
  · obtain ⟨hp, hl, _⟩ := wi.one (.inl h1)
    have hj : (ns.getD i noNd).l.toNat < i := by omega
    obtain ⟨rfl, rfl⟩ := ha (by omega)
    have k := hok _ (Nat.lt_trans hj hi)
    obtain ⟨q1, q2, q3, q4, q5⟩ := opr_ok (ns := ns) (need := 7) (nd := nodP ns ns.length) k
    simp only [h2, Int.reduceEq, ↓reduceIte, hcon _ _ hj]
    have h := told_un (ns.getD i noNd) (.inl h1) _ (oprP (nodP ns ns.length) ns (ns.getD i noNd).l.toNat 7) k.ne (by have := k.len; omega) ⟨k.lo, by have := k.hi; omega⟩ (by have := k.size; omega) (ns.getD (ns.getD i noNd).l.toNat noNd).op (by rw [if_pos h1]; rfl) q1 (by omega) ⟨q3, by omega⟩ (by omega) (jT pb.ts) pb.ts.length pb.d p w
    rw [if_pos h1] at h
    exact h
  · obtain ⟨hp, hl, _⟩ := wi.one (.inr h1)
    have hj : (ns.getD i noNd).l.toNat < i := by omega
    obtain ⟨rfl, rfl⟩ := ha (by omega)
    have k := hok _ (Nat.lt_trans hj hi)
    obtain ⟨q1, q2, q3, q4, q5⟩ := opr_ok (ns := ns) (need := 3) (nd := nodP ns ns.length) k
    simp only [h2, Int.reduceEq, ↓reduceIte, hcon _ _ hj]
    have hne : ¬ (ns.getD i noNd).op = 12 := by omega
    have h := told_un (ns.getD i noNd) (.inr h1) _ (oprP (nodP ns ns.length) ns (ns.getD i noNd).l.toNat 3) k.ne (by have := k.len; omega) ⟨k.lo, by have := k.hi; omega⟩ (by have := k.size; omega) (ns.getD (ns.getD i noNd).l.toNat noNd).op (by rw [if_neg hne]; rfl) q1 (by omega) ⟨q3, by omega⟩ (by omega) (jT pb.ts) pb.ts.length pb.d p w
    rw [if_neg hne] at h
    exact h
  · obtain ⟨hp, hr, hz, hl, _⟩ := wi.two h1
    have hlo := (W (i - 1) (by omega)).lo
    have hj : (ns.getD i noNd).l.toNat < i := by omega
    have hj2 : (ns.getD i noNd).r.toNat < i := by omega
    obtain ⟨rfl, rfl⟩ := ha (by omega)
    obtain ⟨rfl, rfl⟩ := hb h1
    have k1 := hok _ (Nat.lt_trans hj hi)
    have k2 := hok _ (Nat.lt_trans hj2 hi)
    have hop := wi.lf
    obtain ⟨j, hjo⟩ : ∃ j : Nat, (ns.getD i noNd).op = (j : Int) + 14 := ⟨((ns.getD i noNd).op - 14).toNat, by omega⟩
    have key : ∀ L R : Int, L = (if lvl ((j : Int) + 14) = 4 then 5 else lvl ((j : Int) + 14)) → R = lvl ((j : Int) + 14) + 1 → Calls Tryd.prog 18 #[.agg (ndA (ns.getD i noNd)), .agg (tdA (nodP ns ns.length (ns.getD i noNd).l.toNat)), .int .i64 (ns.getD (ns.getD i noNd).l.toNat noNd).op, .agg (tdA (nodP ns ns.length (ns.getD i noNd).r.toNat)), .int .i64 (ns.getD (ns.getD i noNd).r.toNat noNd).op] w fun e w' => e = .returned (.agg (tdA (glueP [oprP (nodP ns ns.length) ns (ns.getD i noNd).l.toNat L, fixP [bnK ((j : Int) + 14)], oprP (nodP ns ns.length) ns (ns.getD i noNd).r.toNat R]))) ∧ Below w.heap.size w w' := by
      intro L R hL hR
      obtain ⟨q1, q2, q3, q4, q5⟩ := opr_ok (ns := ns) (need := L) (nd := nodP ns ns.length) k1
      obtain ⟨r1, r2, r3, r4, r5⟩ := opr_ok (ns := ns) (need := R) (nd := nodP ns ns.length) k2
      have cX := fun u => refOperand_any _ k1.ne (by have := k1.len; omega) ⟨k1.lo, by have := k1.hi; omega⟩ (by have := k1.size; omega) (ns.getD (ns.getD i noNd).l.toNat noNd).op L u
      have cY := fun u => refOperand_any _ k2.ne (by have := k2.len; omega) ⟨k2.lo, by have := k2.hi; omega⟩ (by have := k2.size; omega) (ns.getD (ns.getD i noNd).r.toNat noNd).op R u
      have h := told_bin (ns.getD i noNd).n (ns.getD i noNd).v (ns.getD i noNd).x (ns.getD i noNd).l (ns.getD i noNd).r j (by omega) _ _ _ _ _ _ _ _ _ _ q1 r1 (by omega) (by omega) ⟨q3, by omega⟩ ⟨r3, by omega⟩ (by omega) (by omega) L R hL hR cX cY w O
      rw [← hjo] at h
      rw [← hjo]
      exact h
    have hb4 : lvl ((j : Int) + 14) = lvl (ns.getD i noNd).op := by rw [hjo]
    have hk : (ns.getD i noNd).op ≤ 24 → bnK ((j : Int) + 14) = 11 + ((ns.getD i noNd).op - 14) := fun h => by unfold bnK; rw [if_pos (by omega), hjo]
    have hlv24 : (lvl (ns.getD i noNd).op = 4 ∨ lvl (ns.getD i noNd).op = 5 ∨ lvl (ns.getD i noNd).op = 6) → (ns.getD i noNd).op ≤ 24 := fun h => by
      by_cases h6 : (ns.getD i noNd).op = 26
      · rw [h6] at h; exact absurd h (by decide)
      by_cases h5 : (ns.getD i noNd).op = 25
      · rw [h5] at h; exact absurd h (by decide)
      omega
    rcases h2 with h2 | h2 | h2 | h2 | h2
    · have h26 : (ns.getD i noNd).op = 26 := by
        unfold lvl at h2
        split at h2
        · assumption
        · repeat' split at h2
          all_goals omega
      have hkk : bnK ((j : Int) + 14) = 42 := by rw [← hjo, h26]; rfl
      have h := key 1 2 (by rw [hb4, h2]; rfl) (by rw [hb4, h2]; rfl)
      rw [hkk] at h
      simp only [h2, Int.reduceEq, ↓reduceIte, hcon _ _ hj, hcon _ _ hj2]
      exact h
    · have h25 : (ns.getD i noNd).op = 25 := by
        unfold lvl at h2
        split at h2
        · omega
        split at h2
        · assumption
        · repeat' split at h2
          all_goals omega
      have hkk : bnK ((j : Int) + 14) = 41 := by rw [← hjo, h25]; rfl
      have h := key 2 3 (by rw [hb4, h2]; rfl) (by rw [hb4, h2]; rfl)
      rw [hkk] at h
      simp only [h2, Int.reduceEq, ↓reduceIte, hcon _ _ hj, hcon _ _ hj2]
      exact h
    · have h := key 5 5 (by rw [hb4, h2]; rfl) (by rw [hb4, h2]; rfl)
      rw [hk (hlv24 (.inl h2))] at h
      simp only [h2, Int.reduceEq, ↓reduceIte, hcon _ _ hj, hcon _ _ hj2]
      exact h
    · have h := key 5 6 (by rw [hb4, h2]; rfl) (by rw [hb4, h2]; rfl)
      rw [hk (hlv24 (.inr (.inl h2)))] at h
      simp only [h2, Int.reduceEq, ↓reduceIte, hcon _ _ hj, hcon _ _ hj2]
      exact h
    · have h := key 6 7 (by rw [hb4, h2]; rfl) (by rw [hb4, h2]; rfl)
      rw [hk (hlv24 (.inr (.inr h2)))] at h
      simp only [h2, Int.reduceEq, ↓reduceIte, hcon _ _ hj, hcon _ _ hj2]
      exact h

end Go.Proofs.YtpodpahipapbaaaDoor
