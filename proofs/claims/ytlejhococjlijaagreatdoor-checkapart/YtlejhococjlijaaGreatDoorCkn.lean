/- What is well formed stays so: the pure side of CheckLess. check.Uses by its lists; alive answers true. -/
import Derived.Test.YtlejhococjlijaaGreatDoorCkh
namespace Go.Proofs.YtlejhococjlijaaGreatDoor
open Go.RowKit Go.BigFrame
set_option linter.unusedVariables false
set_option linter.unusedSimpArgs false

theorem seq0 (r : Nat → Fl) : (seqE r).code = 0 ↔ ∀ k, k < 7 → (r k).code = 0 := by
  unfold seqE
  cases h : firstAt (fun k => (r k).code) 7 0 with
  | none => exact ⟨fun _ => firstAt_none.1 h, fun _ => rfl⟩
  | some k =>
    have h2 := firstAt_some h
    dsimp only at h2 ⊢
    refine ⟨fun e => absurd e h2, fun hh => ?_⟩
    by_cases hk : k < 7
    · exact hh k hk
    · exfalso
      have h3 := firstAt_none.2 hh
      rw [h3] at h
      cases h
theorem chk0 (L : List Ty) (q : Qy) : (chkE L q).code = 0 ↔ schE L = 0 ∧ shapB q = true ∧ q.items.length ≤ 10 ∧ ∀ k, k < 7 → (rulE L q (itemF q.items q.items.length) k).code = 0 := by
  unfold chkE
  by_cases h1 : schE L = 0
  · rw [if_neg (by simpa using h1)]
    cases h2 : shapB q
    · rw [if_pos rfl]
      exact ⟨fun h => absurd h (by decide), fun h => absurd h.2.1 (by simp)⟩
    · rw [if_neg (by simp)]
      by_cases h3 : 10 < q.items.length
      · rw [if_pos h3]
        exact ⟨fun h => absurd h (by decide), fun h => by omega⟩
      · rw [if_neg h3, seq0]
        exact ⟨fun h => ⟨h1, rfl, by omega, h⟩, fun h => h.2.2.2⟩
  · rw [if_pos h1]
    exact ⟨fun h => absurd h h1, fun h => absurd h.1 h1⟩
theorem seven {P : Nat → Prop} (h0 : P 0) (h1 : P 1) (h2 : P 2) (h3 : P 3) (h4 : P 4) (h5 : P 5) (h6 : P 6) : ∀ k, k < 7 → P k := fun k hk => by
  rcases (show k = 0 ∨ k = 1 ∨ k = 2 ∨ k = 3 ∨ k = 4 ∨ k = 5 ∨ k = 6 from by omega) with rfl | rfl | rfl | rfl | rfl | rfl | rfl
  all_goals assumption
theorem shap_iff (q : Qy) : shapB q = true ↔ 0 < q.items.length ∧ q.items.all itB = true ∧ (0 ≤ q.mode ∧ q.mode ≤ 2) ∧ (0 ≤ q.after ∧ q.after ≤ 3) ∧ (q.wh.length = 0 ∨ treeB q.wh = true) ∧ 0 ≤ q.within ∧ ((q.by_.toList == []) = true ∨ nameB q.by_ = true) ∧ q.ret.all treeB = true := by
  unfold shapB
  simp only [Bool.and_eq_true, Bool.or_eq_true, decide_eq_true_eq]
/-- Without its WHERE. -/
theorem less_wh (L : List Ty) (q : Qy) (h : (chkE L q).code = 0) : (chkE L { q with wh := [] }).code = 0 := by
  rw [chk0] at h ⊢
  obtain ⟨h1, h2, h3, h4⟩ := h
  rw [shap_iff] at h2
  obtain ⟨a1, a2, a3, a4, a5, a6, a7, a8⟩ := h2
  refine ⟨h1, (shap_iff _).2 ⟨a1, a2, a3, a4, .inl rfl, a6, a7, a8⟩, h3, seven (h4 0 (by omega)) (h4 1 (by omega)) rfl ?_ (h4 4 (by omega)) (h4 5 (by omega)) (h4 6 (by omega))⟩
  show (cjE q.items (itemF q.items q.items.length) []).code = 0
  unfold cjE
  rw [firstAt_none.2 (fun j hj => by simp [conjO, conjL] at hj)]
  rfl
/-- Without its PARTITION BY. -/
theorem less_by (L : List Ty) (q : Qy) (h : (chkE L q).code = 0) : (chkE L { q with by_ := ⟨#[]⟩ }).code = 0 := by
  rw [chk0] at h ⊢
  obtain ⟨h1, h2, h3, h4⟩ := h
  rw [shap_iff] at h2
  obtain ⟨a1, a2, a3, a4, a5, a6, a7, a8⟩ := h2
  have he : ((⟨#[]⟩ : ByteArray).toList == []) = true := by rw [ByteArray.toList_eq]; rfl
  refine ⟨h1, (shap_iff _).2 ⟨a1, a2, a3, a4, a5, a6, .inl he, a8⟩, h3, seven (h4 0 (by omega)) (h4 1 (by omega)) (h4 2 (by omega)) (h4 3 (by omega)) (h4 4 (by omega)) ?_ (h4 6 (by omega))⟩
  show (ptE L q.items ⟨#[]⟩).code = 0
  unfold ptE
  rw [if_pos he]
  rfl
theorem rs0 (L : List Ty) (its : List It) (M : ByteArray → Option Int) (rts : List (List Nd)) : (rsE L its M rts).code = 0 ↔ rts.length ≤ 8 ∧ ∀ k, k < rts.length → (rsW L its M rts k).2 = 0 := by
  unfold rsE
  by_cases h8 : 8 < rts.length
  · rw [if_pos h8]
    exact ⟨fun h => absurd h (by decide), fun h => by omega⟩
  · rw [if_neg h8]
    cases h : firstAt (fun k => (rsW L its M rts k).2) rts.length 0 with
    | none => exact ⟨fun _ => ⟨by omega, firstAt_none.1 h⟩, fun _ => rfl⟩
    | some k =>
      have h2 := firstAt_some h
      dsimp only at h2 ⊢
      refine ⟨fun e => absurd e h2, fun hh => ?_⟩
      have h3 := firstAt_none.2 hh.2
      rw [h3] at h
      cases h
/-- Without its last result. -/
theorem less_ret (L : List Ty) (q : Qy) (n : Nat) (hn : n ≤ q.ret.length) (h : (chkE L q).code = 0) : (chkE L { q with ret := q.ret.take n }).code = 0 := by
  rw [chk0] at h ⊢
  obtain ⟨h1, h2, h3, h4⟩ := h
  rw [shap_iff] at h2
  obtain ⟨a1, a2, a3, a4, a5, a6, a7, a8⟩ := h2
  refine ⟨h1, (shap_iff _).2 ⟨a1, a2, a3, a4, a5, a6, a7, ?_⟩, h3, seven (h4 0 (by omega)) (h4 1 (by omega)) (h4 2 (by omega)) (h4 3 (by omega)) (h4 4 (by omega)) (h4 5 (by omega)) ?_⟩
  · show (q.ret.take n).all treeB = true
    rw [List.all_eq_true] at a8 ⊢
    exact fun x hx => a8 x (List.mem_of_mem_take hx)
  · have h6 := h4 6 (by omega)
    show (rsE L q.items (itemF q.items q.items.length) (q.ret.take n)).code = 0
    have h6' : (rsE L q.items (itemF q.items q.items.length) q.ret).code = 0 := h6
    rw [rs0] at h6' ⊢
    refine ⟨by simp; omega, fun k hk => ?_⟩
    simp only [List.length_take] at hk
    have e : rsW L q.items (itemF q.items q.items.length) (q.ret.take n) k = rsW L q.items (itemF q.items q.items.length) q.ret k := by
      unfold rsW
      have : (q.ret.take n).getD k [] = q.ret.getD k [] := by simp [List.getD, List.getElem?_take, show k < n by omega]
      rw [this]
    show (rsW L q.items (itemF q.items q.items.length) (q.ret.take n) k).2 = 0
    rw [e]
    exact h6'.2 k (by omega)
/-- With a smaller window. -/
theorem less_win (L : List Ty) (q : Qy) (x : Int) (h0 : 0 ≤ x) (hx : x < q.within) (h : (chkE L q).code = 0) : (chkE L { q with within := x }).code = 0 := by
  rw [chk0] at h ⊢
  obtain ⟨h1, h2, h3, h4⟩ := h
  rw [shap_iff] at h2
  obtain ⟨a1, a2, a3, a4, a5, a6, a7, a8⟩ := h2
  refine ⟨h1, (shap_iff _).2 ⟨a1, a2, a3, a4, a5, h0, a7, a8⟩, h3, seven (h4 0 (by omega)) (h4 1 (by omega)) (h4 2 (by omega)) (h4 3 (by omega)) ?_ (h4 5 (by omega)) (h4 6 (by omega))⟩
  have h5 : (wdE q.within).code = 0 := h4 4 (by omega)
  show (wdE x).code = 0
  unfold wdE at h5 ⊢
  by_cases hw : 1099511627776 < q.within
  · rw [if_pos hw] at h5; cases h5
  · rw [if_neg (by omega)]; rfl

/-- The query and the schema of alive. -/
def alL : List Ty := [(⟨#[65]⟩, [⟨#[120]⟩])]
def alQ (t : ByteArray) : Qy := ⟨[⟨false, [t], ⟨#[97]⟩, 1, 1⟩], 0, 0, [], 0, ⟨#[]⟩, []⟩
def alT : List Nd := [⟨4, 0, ⟨#[97]⟩, ⟨#[120]⟩, -1, -1⟩, ⟨1, 1, ⟨#[]⟩, ⟨#[]⟩, -1, -1⟩, ⟨19, 0, ⟨#[]⟩, ⟨#[]⟩, 0, 1⟩]
theorem al_fit (t : ByteArray) (ht : t.size ≤ 140737488351232) : (alQ t).fit := by
  have f0 : fI 0 := ⟨by decide, by decide⟩
  refine ⟨by show 1 * 64 ≤ 140737488351232; omega, fun k => ?_, f0, f0, f0, by show (0 : Nat) ≤ 140737488351232; omega, ⟨by show 0 * 64 ≤ 140737488351232; omega, fun k => by show (([] : List Nd).getD k noNd).fit; simp; exact noNd_fit⟩, by show 0 * 24 ≤ 140737488351232; omega, fun k => ⟨by show (([] : List (List Nd)).getD k []).length * 64 ≤ 140737488351232; simp, fun j => by show ((([] : List (List Nd)).getD k []).getD j noNd).fit; simp; exact noNd_fit⟩⟩
  by_cases hk : k = 0
  · subst hk
    have f1 : fI 1 := ⟨by decide, by decide⟩
    exact ⟨f1, f1, by show (1 : Nat) ≤ 140737488351232; omega, by show 1 * 16 ≤ 140737488351232; omega, fun j => by
      by_cases hj : j = 0
      · subst hj; exact ht
      · have : ([t] : List ByteArray).getD j eS = eS := by rw [List.getD_eq_getElem?_getD, List.getElem?_eq_none (by simp; omega)]; rfl
        show (([t] : List ByteArray).getD j eS).size ≤ _
        rw [this]; exact eS_small⟩
  · have : (alQ t).items.getD k noIt = noIt := by rw [List.getD_eq_getElem?_getD, List.getElem?_eq_none (by show (alQ t).items.length ≤ k; show 1 ≤ k; omega)]; rfl
    rw [this]; exact noIt_fit

end Go.Proofs.YtlejhococjlijaaGreatDoor
namespace Go.Proofs.YtlejhococjlijaaGreatDoor
open Go.RowKit Go.BigFrame
set_option linter.unusedVariables false
set_option linter.unusedSimpArgs false

set_option maxRecDepth 100000 in
set_option maxHeartbeats 8000000 in
theorem usesL_any (q : Qy) (hq : q.fit) (t : List Nd) (ht : ndsFit t) (cs : Array Value) (ai : Option Addr) (ci : Nat) (aw : Option Addr) (cw : Nat) (ar : Option Addr) (cr : Nat) (ao : Option Addr) (cap : Nat) (w : World) (A : IsQ w q cs ai ci aw cw ar cr) (N : IsNds w ao t) :
    Calls Tryz.prog 16 #[.agg cs, .slice ao t.length cap] w fun e w' => (∃ a1 c1 a2 n2 c2 a3 n3 c3, e = .returned (.agg #[.slice a1 (risO (useL (itemF q.items q.items.length) baB t)).length c1, .slice a2 n2 c2, .slice a3 n3 c3])) ∧ Below w.heap.size w w' := by
  have cI := fun (u : World) (G : Below w.heap.size w u) => itemsOf_any q hq cs ai ci aw cw ar cr u (A.keep G)
  have cU := fun (u : World) (G : Below w.heap.size w u) (bm : Nat) (MP : MpAt u bm q.items.length (itemF q.items q.items.length)) => usesOf_any (itemF q.items q.items.length) bm q.items.length t ht.1 ht.2 ao cap u (N.keep G) MP
  have he := A.eq
  subst he
  have htl := ht.1
  have B0 := galloc (galloc (Below.refl w.heap.size w) (.cells #[.slice ai q.items.length ci, .int .i64 q.mode, .int .i64 q.after, .slice aw q.wh.length cw, .int .i64 q.within, .string q.by_, .slice ar q.ret.length cr] 40)) (.cells #[.slice none 0 0, .slice none 0 0, .slice none 0 0] 52)
  have R0 := Bk.newE (w := w.alloc (.cells #[.slice ai q.items.length ci, .int .i64 q.mode, .int .i64 q.after, .slice aw q.wh.length cw, .int .i64 q.within, .string q.by_, .slice ar q.ret.length cr] 40)) (g := w.heap.size + 1) (by simp) #[.slice none 0 0, .slice none 0 0, .slice none 0 0] 52
  go_enter Tryz.func16, Tryz.ntmps16
  go_wp2_with (first
    | (go_at_call 27; (with_reducible refine (cI _ B0).mono ?_); rintro e u1 ⟨bm, rfl, _, MP, g1⟩; have G1 := gtrans B0 g1; have R1 := R0.keep g1)
    | (go_at_call 37; (with_reducible refine (cU _ G1 _ MP).mono ?_); rintro e u2 ⟨a1, c1, a2, c2, a3, c3, rfl, T0, T1, T2, g2⟩; have G2 := gtrans G1 g2; have R2 := R1.keep g2; obtain ⟨m0, m1, m2⟩ := R2.at3; have mf := R2.free))
  refine bodyPost_ret (v := .agg #[.slice a1 (risO (useL (itemF q.items q.items.length) baB t)).length c1, .slice a2 (risO (useL (itemF q.items q.items.length) (· == 11) t)).length c2, .slice a3 (risO (useL (itemF q.items q.items.length) agB t)).length c3]) (by simp [results, Tryz.results16, go_sem, m0, m1, m2]) rfl ⟨⟨a1, c1, a2, _, c2, a3, _, c3, rfl⟩, ?_⟩
  exact gset (gset (gset G2 (by simp) _) (by simp) _) (by simp) _

theorem al_types {w : World} {a b : Nat} (h1 : Bk w b #[.string ⟨#[65]⟩, .slice (some ⟨a, 0, none⟩) 1 1] 59) (h2 : Bk w a #[.string ⟨#[120]⟩] 9) : IsTypes w (some ⟨b, 0, none⟩) 1 alL := by
  refine ⟨rfl, by omega, .inr ⟨b, 0, rfl, h1.lt, fun j hj => ?_⟩⟩
  obtain rfl : j = 0 := by omega
  refine ⟨h1.at2.1, some ⟨a, 0, none⟩, 1, h1.at2.2, Nat.le_refl _, rfl, by show 1 ≤ _; omega, .inr ⟨a, 0, rfl, h2.lt, fun j hj => ?_⟩⟩
  obtain rfl : j = 0 := by have : j < 1 := hj; omega
  exact cell_of_row w a 0 _ _ _ h2
abbrev alC (bi : Nat) : Array Value := #[.slice (some ⟨bi, 0, none⟩) 1 1, .int .i64 0, .int .i64 0, .slice none 0 0, .int .i64 0, .string ⟨#[]⟩, .slice none 0 0]
theorem al_q {w : World} {bi bt : Nat} {t : ByteArray} (h1 : Bk w bi #[.bool false, .slice (some ⟨bt, 0, none⟩) 1 1, .string ⟨#[97]⟩, .int .i64 1, .int .i64 1] 61) (h2 : Bk w bt #[.string t] 9) : IsQ w (alQ t) (alC bi) (some ⟨bi, 0, none⟩) 1 none 0 none 0 := by
  refine ⟨rfl, fun i hi => ?_, fun i hi => absurd hi (Nat.not_lt_zero _), fun i hi => absurd hi (Nat.not_lt_zero _), ⟨Nat.le_refl _, fun h => by cases h⟩, ⟨Nat.le_refl _, fun _ => ⟨rfl, rfl⟩⟩, ⟨Nat.le_refl _, fun _ => ⟨rfl, rfl⟩⟩⟩
  obtain rfl : i = 0 := by have : i < 1 := hi; omega
  obtain ⟨a0, a1, a2, a3, a4⟩ := h1.at5
  refine ⟨bi, 0, rfl, some ⟨bt, 0, none⟩, 1, a0, a1, a2, a3, a4, fun j hj => ?_, ⟨Nat.le_refl _, fun h => by cases h⟩⟩
  obtain rfl : j = 0 := by have : j < 1 := hj; omega
  exact ⟨bt, 0, rfl, cell_of_row w bt 0 _ _ _ h2⟩
theorem al_nds {w : World} {b : Nat} (h : Bk w b #[.int .i64 4, .int .i64 0, .string ⟨#[97]⟩, .string ⟨#[120]⟩, .int .i64 (-1), .int .i64 (-1), .int .i64 1, .int .i64 1, .string ⟨#[]⟩, .string ⟨#[]⟩, .int .i64 (-1), .int .i64 (-1), .int .i64 19, .int .i64 0, .string ⟨#[]⟩, .string ⟨#[]⟩, .int .i64 0, .int .i64 1] 29) : IsNds w (some ⟨b, 0, none⟩) alT := by
  intro i hi
  have hi3 : i < 3 := hi
  rcases (show i = 0 ∨ i = 1 ∨ i = 2 from by omega) with rfl | rfl | rfl
  · exact ⟨b, 0, rfl, cell_of_row w b 0 _ _ _ h, cell_of_row w b 1 _ _ _ h, cell_of_row w b 2 _ _ _ h, cell_of_row w b 3 _ _ _ h, cell_of_row w b 4 _ _ _ h, cell_of_row w b 5 _ _ _ h⟩
  · exact ⟨b, 0, rfl, cell_of_row w b 6 _ _ _ h, cell_of_row w b 7 _ _ _ h, cell_of_row w b 8 _ _ _ h, cell_of_row w b 9 _ _ _ h, cell_of_row w b 10 _ _ _ h, cell_of_row w b 11 _ _ _ h⟩
  · exact ⟨b, 0, rfl, cell_of_row w b 12 _ _ _ h, cell_of_row w b 13 _ _ _ h, cell_of_row w b 14 _ _ _ h, cell_of_row w b 15 _ _ _ h, cell_of_row w b 16 _ _ _ h, cell_of_row w b 17 _ _ _ h⟩
theorem al_tfit : ndsFit alT := by
  refine ⟨by show 3 * 64 ≤ _; omega, fun k => ?_⟩
  by_cases hk : k < 3
  · rcases (show k = 0 ∨ k = 1 ∨ k = 2 from by omega) with rfl | rfl | rfl
    all_goals exact ⟨⟨by decide, by decide⟩, ⟨by decide, by decide⟩, ⟨by decide, by decide⟩, ⟨by decide, by decide⟩, by decide, by decide⟩
  · have : alT.getD k noNd = noNd := by rw [List.getD_eq_getElem?_getD, List.getElem?_eq_none (by show 3 ≤ k; omega)]; rfl
    rw [this]; exact noNd_fit
theorem al_v1 : chkE alL (alQ ⟨#[65]⟩) = noFl := by kernel_rfl
theorem al_v2 : chkE alL (alQ ⟨#[66]⟩) = ⟨61, 1, 0, 0⟩ := by kernel_rfl
theorem al_v3 : conjO alT = [2] := by kernel_rfl
theorem al_v4 : sizeO alT 2 = 3 := by kernel_rfl
theorem al_v5 : lastT alT = true := by kernel_rfl
theorem al_v6 : (risO (useL (itemF (alQ ⟨#[66]⟩).items (alQ ⟨#[66]⟩).items.length) baB alT)).length = 1 := by
  have e : useL (itemF (alQ ⟨#[66]⟩).items (alQ ⟨#[66]⟩).items.length) baB alT = [0] := by kernel_rfl
  rw [e]
  decide +kernel

set_option maxRecDepth 100000 in
set_option maxHeartbeats 16000000 in
theorem alive_any (w : World) (K : KwAt w) : Calls Tryz.prog 6 #[] w fun e w' => e = .returned (.bool true) ∧ Below w.heap.size w w' := by
  have A0 := ((((((Bk.newE (w := w) (g := w.heap.size) (by simp) #[.string ⟨#[120]⟩] 9).alloc (.cells #[.string ⟨#[65]⟩, .slice (some ⟨w.heap.size, 0, none⟩) 1 1] 59)).alloc (.cells #[.slice (some ⟨w.heap.size + 1, 0, none⟩) 1 1] 34)).alloc (.cells #[.string ⟨#[65]⟩] 9)).alloc (.cells #[.bool false, .slice (some ⟨w.heap.size + 3, 0, none⟩) 1 1, .string ⟨#[97]⟩, .int .i64 1, .int .i64 1] 61)).alloc (.cells #[.slice (some ⟨w.heap.size + 4, 0, none⟩) 1 1, .int .i64 0, .int .i64 0, .slice none 0 0, .int .i64 0, .string ⟨#[]⟩, .slice none 0 0] 40))
  have A1 := (((((Bk.newE (w := (w.alloc (.cells #[.string ⟨#[120]⟩] 9))) (g := w.heap.size + 1) (by simp) #[.string ⟨#[65]⟩, .slice (some ⟨w.heap.size, 0, none⟩) 1 1] 59).alloc (.cells #[.slice (some ⟨w.heap.size + 1, 0, none⟩) 1 1] 34)).alloc (.cells #[.string ⟨#[65]⟩] 9)).alloc (.cells #[.bool false, .slice (some ⟨w.heap.size + 3, 0, none⟩) 1 1, .string ⟨#[97]⟩, .int .i64 1, .int .i64 1] 61)).alloc (.cells #[.slice (some ⟨w.heap.size + 4, 0, none⟩) 1 1, .int .i64 0, .int .i64 0, .slice none 0 0, .int .i64 0, .string ⟨#[]⟩, .slice none 0 0] 40))
  have A2 := ((((Bk.newE (w := ((w.alloc (.cells #[.string ⟨#[120]⟩] 9)).alloc (.cells #[.string ⟨#[65]⟩, .slice (some ⟨w.heap.size, 0, none⟩) 1 1] 59))) (g := w.heap.size + 2) (by simp) #[.slice (some ⟨w.heap.size + 1, 0, none⟩) 1 1] 34).alloc (.cells #[.string ⟨#[65]⟩] 9)).alloc (.cells #[.bool false, .slice (some ⟨w.heap.size + 3, 0, none⟩) 1 1, .string ⟨#[97]⟩, .int .i64 1, .int .i64 1] 61)).alloc (.cells #[.slice (some ⟨w.heap.size + 4, 0, none⟩) 1 1, .int .i64 0, .int .i64 0, .slice none 0 0, .int .i64 0, .string ⟨#[]⟩, .slice none 0 0] 40))
  have A3 := (((Bk.newE (w := (((w.alloc (.cells #[.string ⟨#[120]⟩] 9)).alloc (.cells #[.string ⟨#[65]⟩, .slice (some ⟨w.heap.size, 0, none⟩) 1 1] 59)).alloc (.cells #[.slice (some ⟨w.heap.size + 1, 0, none⟩) 1 1] 34))) (g := w.heap.size + 3) (by simp) #[.string ⟨#[65]⟩] 9).alloc (.cells #[.bool false, .slice (some ⟨w.heap.size + 3, 0, none⟩) 1 1, .string ⟨#[97]⟩, .int .i64 1, .int .i64 1] 61)).alloc (.cells #[.slice (some ⟨w.heap.size + 4, 0, none⟩) 1 1, .int .i64 0, .int .i64 0, .slice none 0 0, .int .i64 0, .string ⟨#[]⟩, .slice none 0 0] 40))
  have A4 := ((Bk.newE (w := ((((w.alloc (.cells #[.string ⟨#[120]⟩] 9)).alloc (.cells #[.string ⟨#[65]⟩, .slice (some ⟨w.heap.size, 0, none⟩) 1 1] 59)).alloc (.cells #[.slice (some ⟨w.heap.size + 1, 0, none⟩) 1 1] 34)).alloc (.cells #[.string ⟨#[65]⟩] 9))) (g := w.heap.size + 4) (by simp) #[.bool false, .slice (some ⟨w.heap.size + 3, 0, none⟩) 1 1, .string ⟨#[97]⟩, .int .i64 1, .int .i64 1] 61).alloc (.cells #[.slice (some ⟨w.heap.size + 4, 0, none⟩) 1 1, .int .i64 0, .int .i64 0, .slice none 0 0, .int .i64 0, .string ⟨#[]⟩, .slice none 0 0] 40))
  have A5 := (Bk.newE (w := (((((w.alloc (.cells #[.string ⟨#[120]⟩] 9)).alloc (.cells #[.string ⟨#[65]⟩, .slice (some ⟨w.heap.size, 0, none⟩) 1 1] 59)).alloc (.cells #[.slice (some ⟨w.heap.size + 1, 0, none⟩) 1 1] 34)).alloc (.cells #[.string ⟨#[65]⟩] 9)).alloc (.cells #[.bool false, .slice (some ⟨w.heap.size + 3, 0, none⟩) 1 1, .string ⟨#[97]⟩, .int .i64 1, .int .i64 1] 61))) (g := w.heap.size + 5) (by simp) #[.slice (some ⟨w.heap.size + 4, 0, none⟩) 1 1, .int .i64 0, .int .i64 0, .slice none 0 0, .int .i64 0, .string ⟨#[]⟩, .slice none 0 0] 40)
  have B0 := (galloc (galloc (galloc (galloc (galloc (galloc (Below.refl w.heap.size w) (.cells #[.string ⟨#[120]⟩] 9)) (.cells #[.string ⟨#[65]⟩, .slice (some ⟨w.heap.size, 0, none⟩) 1 1] 59)) (.cells #[.slice (some ⟨w.heap.size + 1, 0, none⟩) 1 1] 34)) (.cells #[.string ⟨#[65]⟩] 9)) (.cells #[.bool false, .slice (some ⟨w.heap.size + 3, 0, none⟩) 1 1, .string ⟨#[97]⟩, .int .i64 1, .int .i64 1] 61)) (.cells #[.slice (some ⟨w.heap.size + 4, 0, none⟩) 1 1, .int .i64 0, .int .i64 0, .slice none 0 0, .int .i64 0, .string ⟨#[]⟩, .slice none 0 0] 40))
  have ck : ∀ (t : ByteArray) (ht : t.size ≤ 140737488351232) (Y : World), Below w.heap.size w Y → Bk Y (w.heap.size + 1) #[.string ⟨#[65]⟩, .slice (some ⟨w.heap.size, 0, none⟩) 1 1] 59 → Bk Y w.heap.size #[.string ⟨#[120]⟩] 9 → Bk Y (w.heap.size + 4) #[.bool false, .slice (some ⟨w.heap.size + 3, 0, none⟩) 1 1, .string ⟨#[97]⟩, .int .i64 1, .int .i64 1] 61 → Bk Y (w.heap.size + 3) #[.string t] 9 → Calls Tryz.prog 13 #[.agg #[.slice (some ⟨w.heap.size + 1, 0, none⟩) 1 1], .agg #[.slice (some ⟨w.heap.size + 4, 0, none⟩) 1 1, .int .i64 0, .int .i64 0, .slice none 0 0, .int .i64 0, .string ⟨#[]⟩, .slice none 0 0]] Y fun e w' => e = .returned (flV (chkE alL (alQ t))) ∧ Below Y.heap.size Y w' :=
    fun t ht Y G h1 h2 h3 h4 => check_any alL (alQ t) (al_fit t ht) _ 1 _ _ 1 none 0 none 0 Y (K.keep G) (al_types h1 h2) (Nat.le_refl _) (al_q h3 h4)
  go_enter Tryz.func6, Tryz.ntmps6
  go_upto_region 3 with fail
  generalize ((((((w.alloc (.cells #[.string ⟨#[120]⟩] 9)).alloc (.cells #[.string ⟨#[65]⟩, .slice (some ⟨w.heap.size, 0, none⟩) 1 1] 59)).alloc (.cells #[.slice (some ⟨w.heap.size + 1, 0, none⟩) 1 1] 34)).alloc (.cells #[.string ⟨#[65]⟩] 9)).alloc (.cells #[.bool false, .slice (some ⟨w.heap.size + 3, 0, none⟩) 1 1, .string ⟨#[97]⟩, .int .i64 1, .int .i64 1] 61)).alloc (.cells #[.slice (some ⟨w.heap.size + 4, 0, none⟩) 1 1, .int .i64 0, .int .i64 0, .slice none 0 0, .int .i64 0, .string ⟨#[]⟩, .slice none 0 0] 40)) = V at *
  have c1 := ck ⟨#[65]⟩ (by decide) V B0 A1 A0 A4 A3
  rw [al_v1] at c1
  dsimp only [flV, noFl] at c1
  obtain ⟨s0⟩ : PLift (V.cell? ⟨w.heap.size + 2, 0, none⟩ = some (.slice (some ⟨w.heap.size + 1, 0, none⟩) 1 1)) := ⟨cell_of_row V _ 0 _ _ _ A2⟩
  obtain ⟨q0, q1, q2, q3, q4, q5, q6⟩ := A5.at7
  go_upto_region 4 with (go_at_call 13; (with_reducible refine c1.mono ?_); rintro _ u ⟨rfl, gu⟩)
  have gF := galloc gu (.cells #[.int .i64 0, .int .i64 0, .int .i64 0, .int .i64 0] 45)
  have F1 := Bk.new u #[.int .i64 0, .int .i64 0, .int .i64 0, .int .i64 0] 45
  have hFl : V.heap.size ≤ u.heap.size := gu.size
  have hVl : w.heap.size + 5 < V.heap.size := A5.lt
  replace A0 := A0.keep gF
  replace A1 := A1.keep gF
  replace A2 := A2.keep gF
  replace A3 := A3.keep gF
  replace A4 := A4.keep gF
  replace A5 := A5.keep gF
  have B1 := gtrans B0 gF
  generalize u.alloc (.cells #[.int .i64 0, .int .i64 0, .int .i64 0, .int .i64 0] 45) = V1 at *
  generalize u.heap.size = bf at *
  clear B0 c1 gu gF s0 q0 q1 q2 q3 q4 q5 q6
  obtain ⟨q0, q1, q2, q3, q4, q5, q6⟩ := A5.at7
  obtain ⟨i0, i1, i2, i3, i4⟩ := A4.at5
  have t0 : V1.cell? ⟨w.heap.size + 3, 0, none⟩ = some (.string ⟨#[65]⟩) := cell_of_row V1 _ 0 _ _ _ A3
  have tf := A3.free 0
  have A3' := A3.set 0 (.string ⟨#[66]⟩)
  have A0' := A0.other (b' := w.heap.size + 3) (by omega) 0 (.string ⟨#[66]⟩)
  have A1' := A1.other (b' := w.heap.size + 3) (by omega) 0 (.string ⟨#[66]⟩)
  have A2' := A2.other (b' := w.heap.size + 3) (by omega) 0 (.string ⟨#[66]⟩)
  have A4' := A4.other (b' := w.heap.size + 3) (by omega) 0 (.string ⟨#[66]⟩)
  have A5' := A5.other (b' := w.heap.size + 3) (by omega) 0 (.string ⟨#[66]⟩)
  have F1' := F1.other (b' := w.heap.size + 3) (by omega) 0 (.string ⟨#[66]⟩)
  have B1' := gset B1 (p := ⟨w.heap.size + 3, 0, none⟩) (by simp) (.string ⟨#[66]⟩)
  go_upto_region 5 with fail
  generalize V1.setCell ⟨w.heap.size + 3, 0, none⟩ (.string ⟨#[66]⟩) = V2 at *
  clear A0 A1 A2 A3 A4 A5 F1 B1 q0 q1 q2 q3 q4 q5 q6 i0 i1 i2 i3 i4 t0 tf
  have c2 := ck ⟨#[66]⟩ (by decide) V2 B1' A1' A0' A4' A3'
  rw [al_v2] at c2
  dsimp only [flV] at c2
  have s0 : V2.cell? ⟨w.heap.size + 2, 0, none⟩ = some (.slice (some ⟨w.heap.size + 1, 0, none⟩) 1 1) := cell_of_row V2 _ 0 _ _ _ A2'
  obtain ⟨q0, q1, q2, q3, q4, q5, q6⟩ := A5'.at7
  go_upto_region 6 with (go_at_call 13; (with_reducible refine c2.mono ?_); rintro _ u ⟨rfl, gu⟩)
  have gF := galloc gu (.cells #[.int .i64 61, .int .i64 1, .int .i64 0, .int .i64 0] 45)
  have F2 := Bk.new u #[.int .i64 61, .int .i64 1, .int .i64 0, .int .i64 0] 45
  replace F1' := F1'.keep gF
  replace A4' := A4'.keep gF
  replace A3' := A3'.keep gF
  replace A5' := A5'.keep gF
  have B2 := gtrans B1' gF
  generalize u.alloc (.cells #[.int .i64 61, .int .i64 1, .int .i64 0, .int .i64 0] 45) = V3 at *
  generalize u.heap.size = bg2 at *
  clear A0' A1' A2' B1' c2 gu gF s0 q0 q1 q2 q3 q4 q5 q6 ck
  obtain ⟨f0, f1, f2, f3⟩ := F1'.at4
  obtain ⟨g0, g1, g2, g3⟩ := F2.at4
  obtain ⟨q0, q1, q2, q3, q4, q5, q6⟩ := A5'.at7
  have N4 := Bk.new V3 #[.int .i64 4, .int .i64 0, .string ⟨#[97]⟩, .string ⟨#[120]⟩, .int .i64 (-1), .int .i64 (-1), .int .i64 1, .int .i64 1, .string ⟨#[]⟩, .string ⟨#[]⟩, .int .i64 (-1), .int .i64 (-1), .int .i64 19, .int .i64 0, .string ⟨#[]⟩, .string ⟨#[]⟩, .int .i64 0, .int .i64 1] 29
  have gN := galloc (Below.refl V3.heap.size V3) (.cells #[.int .i64 4, .int .i64 0, .string ⟨#[97]⟩, .string ⟨#[120]⟩, .int .i64 (-1), .int .i64 (-1), .int .i64 1, .int .i64 1, .string ⟨#[]⟩, .string ⟨#[]⟩, .int .i64 (-1), .int .i64 (-1), .int .i64 19, .int .i64 0, .string ⟨#[]⟩, .string ⟨#[]⟩, .int .i64 0, .int .i64 1] 29)
  have B3 := gtrans B2 gN
  have ND := al_nds N4
  have c3 : Calls Tryz.prog 16 #[.agg #[.slice (some ⟨w.heap.size + 4, 0, none⟩) 1 1, .int .i64 0, .int .i64 0, .slice none 0 0, .int .i64 0, .string ⟨#[]⟩, .slice none 0 0], .slice (some ⟨V3.heap.size, 0, none⟩) 3 3] (V3.alloc (.cells #[.int .i64 4, .int .i64 0, .string ⟨#[97]⟩, .string ⟨#[120]⟩, .int .i64 (-1), .int .i64 (-1), .int .i64 1, .int .i64 1, .string ⟨#[]⟩, .string ⟨#[]⟩, .int .i64 (-1), .int .i64 (-1), .int .i64 19, .int .i64 0, .string ⟨#[]⟩, .string ⟨#[]⟩, .int .i64 0, .int .i64 1] 29)) fun e w' => (∃ a1 c1 a2 n2 c2 a3 n3 c3, e = .returned (.agg #[.slice a1 1 c1, .slice a2 n2 c2, .slice a3 n3 c3])) ∧ Below (V3.alloc (.cells #[.int .i64 4, .int .i64 0, .string ⟨#[97]⟩, .string ⟨#[120]⟩, .int .i64 (-1), .int .i64 (-1), .int .i64 1, .int .i64 1, .string ⟨#[]⟩, .string ⟨#[]⟩, .int .i64 (-1), .int .i64 (-1), .int .i64 19, .int .i64 0, .string ⟨#[]⟩, .string ⟨#[]⟩, .int .i64 0, .int .i64 1] 29)).heap.size (V3.alloc (.cells #[.int .i64 4, .int .i64 0, .string ⟨#[97]⟩, .string ⟨#[120]⟩, .int .i64 (-1), .int .i64 (-1), .int .i64 1, .int .i64 1, .string ⟨#[]⟩, .string ⟨#[]⟩, .int .i64 (-1), .int .i64 (-1), .int .i64 19, .int .i64 0, .string ⟨#[]⟩, .string ⟨#[]⟩, .int .i64 0, .int .i64 1] 29)) w' := by
    have h := usesL_any (alQ ⟨#[66]⟩) (al_fit _ (by decide)) alT al_tfit _ _ 1 none 0 none 0 _ 3 _ (al_q (A4'.keep gN) (A3'.keep gN)) ND
    rw [al_v6] at h
    exact h
  have c4 : ∀ Y, Below (V3.alloc (.cells #[.int .i64 4, .int .i64 0, .string ⟨#[97]⟩, .string ⟨#[120]⟩, .int .i64 (-1), .int .i64 (-1), .int .i64 1, .int .i64 1, .string ⟨#[]⟩, .string ⟨#[]⟩, .int .i64 (-1), .int .i64 (-1), .int .i64 19, .int .i64 0, .string ⟨#[]⟩, .string ⟨#[]⟩, .int .i64 0, .int .i64 1] 29)).heap.size (V3.alloc (.cells #[.int .i64 4, .int .i64 0, .string ⟨#[97]⟩, .string ⟨#[120]⟩, .int .i64 (-1), .int .i64 (-1), .int .i64 1, .int .i64 1, .string ⟨#[]⟩, .string ⟨#[]⟩, .int .i64 (-1), .int .i64 (-1), .int .i64 19, .int .i64 0, .string ⟨#[]⟩, .string ⟨#[]⟩, .int .i64 0, .int .i64 1] 29)) Y → Calls Tryz.prog 15 #[.slice (some ⟨V3.heap.size, 0, none⟩) 3 3] Y fun e w' => ∃ v, e = .returned v ∧ w'.ownsRow Y.heap.size 3 1 v [2].length (intsV [2]) ∧ Below Y.heap.size Y w' := fun Y G => by
    have h := conjuncts_any alT _ 3 Y (ND.keep G) al_tfit.1 al_tfit.2 (K.keep (gtrans B3 G))
    rw [al_v3] at h
    exact h
  have c5 : ∀ Y, Below (V3.alloc (.cells #[.int .i64 4, .int .i64 0, .string ⟨#[97]⟩, .string ⟨#[120]⟩, .int .i64 (-1), .int .i64 (-1), .int .i64 1, .int .i64 1, .string ⟨#[]⟩, .string ⟨#[]⟩, .int .i64 (-1), .int .i64 (-1), .int .i64 19, .int .i64 0, .string ⟨#[]⟩, .string ⟨#[]⟩, .int .i64 0, .int .i64 1] 29)).heap.size (V3.alloc (.cells #[.int .i64 4, .int .i64 0, .string ⟨#[97]⟩, .string ⟨#[120]⟩, .int .i64 (-1), .int .i64 (-1), .int .i64 1, .int .i64 1, .string ⟨#[]⟩, .string ⟨#[]⟩, .int .i64 (-1), .int .i64 (-1), .int .i64 19, .int .i64 0, .string ⟨#[]⟩, .string ⟨#[]⟩, .int .i64 0, .int .i64 1] 29)) Y → Calls Tryz.prog 8 #[.slice (some ⟨V3.heap.size, 0, none⟩) 3 3, .int .i64 2] Y fun e w' => e = .returned (.int .i64 3) ∧ Below Y.heap.size Y w' := fun Y G => by
    have h := size_any alT 2 _ 3 Y (ND.keep G) al_tfit.1 al_tfit.2 (K.keep (gtrans B3 G))
    rw [al_v4] at h
    exact h
  have c6 : ∀ Y, Below (V3.alloc (.cells #[.int .i64 4, .int .i64 0, .string ⟨#[97]⟩, .string ⟨#[120]⟩, .int .i64 (-1), .int .i64 (-1), .int .i64 1, .int .i64 1, .string ⟨#[]⟩, .string ⟨#[]⟩, .int .i64 (-1), .int .i64 (-1), .int .i64 19, .int .i64 0, .string ⟨#[]⟩, .string ⟨#[]⟩, .int .i64 0, .int .i64 1] 29)).heap.size (V3.alloc (.cells #[.int .i64 4, .int .i64 0, .string ⟨#[97]⟩, .string ⟨#[120]⟩, .int .i64 (-1), .int .i64 (-1), .int .i64 1, .int .i64 1, .string ⟨#[]⟩, .string ⟨#[]⟩, .int .i64 (-1), .int .i64 (-1), .int .i64 19, .int .i64 0, .string ⟨#[]⟩, .string ⟨#[]⟩, .int .i64 0, .int .i64 1] 29)) Y → Calls Tryz.prog 19 #[.slice (some ⟨V3.heap.size, 0, none⟩) 3 3] Y fun e w' => e = .returned (.bool true) ∧ Below Y.heap.size Y w' := fun Y G => by
    have h := IsTruth_any alT _ 3 Y (ND.keep G) al_tfit.1
    rw [al_v5] at h
    exact h
  have A6 := A5'.keep gN
  go_upto_region 9 with fail
  generalize V3.alloc (.cells #[.int .i64 4, .int .i64 0, .string ⟨#[97]⟩, .string ⟨#[120]⟩, .int .i64 (-1), .int .i64 (-1), .int .i64 1, .int .i64 1, .string ⟨#[]⟩, .string ⟨#[]⟩, .int .i64 (-1), .int .i64 (-1), .int .i64 19, .int .i64 0, .string ⟨#[]⟩, .string ⟨#[]⟩, .int .i64 0, .int .i64 1] 29) = W at *
  generalize V3.heap.size = bn at *
  clear A3' A4' A5' F1' F2 B2 N4 gN ND f0 f1 f2 f3 g0 g1 g2 g3 q0 q1 q2 q3 q4 q5 q6
  obtain ⟨q0, q1, q2, q3, q4, q5, q6⟩ := A6.at7
  go_upto_region 10 with (go_at_call 16; (with_reducible refine c3.mono ?_); rintro _ u ⟨⟨a1, e1, a2, n2, e2, a3, n3, e3, rfl⟩, gu⟩)
  have gU := galloc gu (.cells #[.slice a1 1 e1, .slice a2 n2 e2, .slice a3 n3 e3] 52)
  have U5 := Bk.new u #[.slice a1 1 e1, .slice a2 n2 e2, .slice a3 n3 e3] 52
  clear c3 gu q0 q1 q2 q3 q4 q5 q6 A6
  generalize u.alloc (.cells #[.slice a1 1 e1, .slice a2 n2 e2, .slice a3 n3 e3] 52) = W1 at *
  generalize u.heap.size = bu at *
  go_wp2_with (first
    | (go_at_call 15; (with_reducible refine (c4 _ gU).mono ?_); rintro _ x1 ⟨v, rfl, O1, g1⟩; obtain ⟨ra, rc, rfl, _, _, _⟩ := own_form O1; have H1 := gtrans gU g1; obtain ⟨gz, oz, rfl, z0⟩ := (ints_own O1) 0 (by decide); have U6 := U5.keep g1)
    | (go_at_call 8; (with_reducible refine (c5 _ H1).mono ?_); rintro _ x2 ⟨rfl, g2⟩; have H2 := gtrans H1 g2)
    | (go_at_call 19; (with_reducible refine (c6 _ H2).mono ?_); rintro _ x3 ⟨rfl, g3⟩; have H3 := gtrans H2 g3; obtain ⟨m0, m1, m2⟩ := (U6.keep (gtrans g2 g3)).at3; have z3 : x3.cell? ⟨gz, oz, none⟩ = some (.int .i64 2) := ((gtrans g2 g3).cell (p := ⟨gz, oz + 0, none⟩) (lt_of_cell z0)).trans z0))
  go_ret
  exact ⟨rfl, gtrans B3 H3⟩

end Go.Proofs.YtlejhococjlijaaGreatDoor
