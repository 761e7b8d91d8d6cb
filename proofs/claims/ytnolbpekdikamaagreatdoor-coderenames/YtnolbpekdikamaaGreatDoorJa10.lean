/- Tree, and the document's: is a row of nodes a well shaped tree? And what goes with it: 5 texts in one. -/
import Derived.Test.YtnolbpekdikamaaGreatDoorJa09
import Derived.BigQuiet
namespace Go.Proofs.YtnolbpekdikamaaGreatDoor
open Go.RowKit Go.BigFrame Go.Proofs.YtnolbpekdikamaaGreatDoor.Ev
set_option linter.unusedVariables false
set_option linter.unusedSimpArgs false

theorem begsO_len : ∀ (ns : List Nd) (bs l : List Int), begsO ns bs = some l → l.length = bs.length + ns.length
  | [], bs, l, h => by simp [begsO] at h; subst h; simp
  | n :: t, bs, l, h => by
    unfold begsO at h
    cases hn : nodeO n bs with
    | none => rw [hn] at h; cases h
    | some b =>
      rw [hn] at h
      have := begsO_len t _ l h
      simp only [List.length_append, List.length_cons, List.length_nil] at this ⊢
      omega
/-- The way so far, and what is left. -/
theorem begsO_app (ns : List Nd) : ∀ (bs : List Int) (k : Nat), k < ns.length → begsO (ns.drop k) bs = match nodeO (ns.getD k noNd) bs with | some b => begsO (ns.drop (k + 1)) (bs ++ [b]) | none => none := by
  intro bs k hk
  rw [List.drop_eq_getElem_cons hk]
  rw [show ns.getD k noNd = ns[k] by simp [List.getD, List.getElem?_eq_getElem hk]]
  rfl

set_option maxRecDepth 100000 in
set_option maxHeartbeats 4000000 in
theorem shTree_any (ns : List Nd) (ao : Option Addr) (cap : Nat) (w : World) (K : KwAt w) (A : IsNds w ao ns) (hr : ns.length * 64 ≤ 140737488351232) (hf : ∀ k, (ns.getD k noNd).fit) :
    Calls Tryz.prog 36 #[.slice ao ns.length cap] w fun e w' => e = .returned (.bool (treeB ns)) ∧ Below w.heap.size w w' := by
  obtain ⟨i0, hi, hz0, hz1, hz2⟩ := of_info int_info
  obtain ⟨n, hn⟩ : ∃ n, ns.length = n := ⟨_, rfl⟩
  rw [hn] at hr ⊢
  go_enter Tryz.func36, Tryz.ntmps36
  obtain ⟨w0, hmk, O0, G0⟩ := run_make_own (P := Tryz.prog) w w.heap.size 39 3 i0 (.int .i64 0) 1 Tryz.underlying39 hi hz0 hz1 .i64 .i64 n (by rw [hz2]; omega) (by unfold maxLen; omega) (Nat.le_refl _)
  have B0 : Below w.heap.size w w0 := (Below.refl _ w).grown G0 (Nat.le_refl _) (fun r e => by cases e)
  go_wp2
  go_loopw [3, 13] (fun o x wr => ∃ (k : Nat) (bs : List Int), k ≤ n ∧ x = .int .i64 k ∧ bs.length = k ∧ Bgs bs ∧ begsO ns [] = begsO (ns.drop k) bs ∧ wr.ownsRow w.heap.size 3 1 o k (intsV bs) ∧ Below w.heap.size w wr) (fun _ x _ => n - (intOf x).toNat)
  case atStart => exact ⟨0, [], Nat.zero_le _, rfl, rfl, Bgs.nil, rfl, O0, B0⟩
  case round =>
    obtain ⟨k, bs, hk, rfl, hbl, hbs, hbeg, O, G⟩ := hrel
    have zG := G.size
    obtain ⟨vo, vc, rfl, hvc, _, _⟩ := own_form O
    by_cases hlt : k < n
    · obtain ⟨g, o, rfl, x0, x1, x2, x3, x4, x5⟩ := (A.keep G) k (by omega)
      have hst := begsO_app ns bs k (by omega)
      have hfk := hf k
      have HB : Hid (begsO ns [] = begsO (ns.drop k) bs) := hbeg
      generalize hy : ns.getD k noNd = y at *
      have c1 := beginOf_any y hfk bs hbs (by omega) vo vc (wr.alloc (.cells (ndA y) 64)) ((K.keep G).keep (galloc (Below.refl _ wr) _)) (ints_own (b := w.heap.size) (c := vc) (by rw [hbl]; exact O.alloc _))
      rw [hbl] at c1
      have N0 := NlAt.new wr y
      have HS : Hid (begsO (ns.drop k) bs = match nodeO y bs with | some b => begsO (ns.drop (k + 1)) (bs ++ [b]) | none => none) := hst
      clear A hbeg hst hy hmk
      have GA : Below w.heap.size w (wr.alloc (.cells (ndA y) 64)) := galloc G _
      have OA := O.alloc (.cells (ndA y) 64)
      simp only [ndA] at c1 GA OA
      cases hno : nodeO y bs with
      | none =>
        rw [hno] at c1
        have hans : treeB ns = false := by unfold treeB; rw [HB.out, HS.out, hno]
        have HA : Hid (treeB ns = false) := hans
        clear hans hno
        go_wp2_with (go_at_call 64; (with_reducible refine c1.mono ?_); rintro e u ⟨zz, rfl, hzz, g5⟩)
        go_ret
        exact ⟨congrArg (fun b => Ending.returned (Value.bool b)) HA.out.symm, gtrans GA g5⟩
      | some b =>
        rw [hno] at c1
        have hB2 := hbs.more hno
        have hstep : begsO ns [] = begsO (ns.drop (k + 1)) (bs ++ [b]) := by rw [HB.out, HS.out, hno]
        have HT : Hid (begsO ns [] = begsO (ns.drop (k + 1)) (bs ++ [b])) := hstep
        clear hstep hno HB HS
        go_wp2_with (first
          | (go_at_call 64; (with_reducible refine c1.mono ?_); rintro e u ⟨zz, rfl, hzz, g5⟩; obtain rfl := hzz b rfl; have O5 := own_keep OA g5; have G5 := gtrans GA g5; have z5 := G5.size)
          | (at_builtin; refine wpList_append_own _ rfl (.tmp 25) (.tmp 27) 39 rfl w.heap.size 3 i0 (.int .i64 0) 1 8 Tryz.underlying39 hi hz0 hz1 hz2 rfl (by decide) _ _ _ rfl (O5.alloc _) ⟨u.heap.size, 0, none⟩ 1 1 [_] rfl rfl (cell_one_new _ _ _) (int_one _) ?c3 ?c4 ?c5 ?_))
        case c3 => unfold maxLen; omega
        case c4 => omega
        case c5 => first | omega | (simp; omega)
        intro v' w1 hown' hgrow _
        rw [ints_more] at hown'
        have G9 : Below w.heap.size w w1 := (galloc G5 _).grown hgrow (by simp; omega) (fun r e => (O5.lt _ e).1)
        clear hgrow O O5 OA
        go_wp2
        go_roundw
        case rel => exact ⟨k + 1, _, by omega, by go_num, by simp [hbl], hB2, HT.out, hown', G9⟩
        case measure => simp [intOf]; omega
    · obtain rfl : k = n := by omega
      rw [List.drop_of_length_le (by omega)] at hbeg
      have hans : treeB ns = decide (0 < k ∧ bs.getD (k - 1) 0 = 0) := by unfold treeB; rw [hbeg]; simp only [begsO]; rw [hn]
      have HA : Hid (treeB ns = decide (0 < k ∧ bs.getD (k - 1) 0 = 0)) := hans
      clear hans hbeg hmk
      cases k with
      | zero =>
        go_wp2
        go_ret
        exact ⟨congrArg (fun b => Ending.returned (Value.bool b)) (by rw [HA.out]; rfl), G⟩
      | succ j =>
        obtain ⟨g', o', e', x0⟩ := ints_own (ds := bs) (b := w.heap.size) (c := vc) (by rw [hbl]; exact O) j (by omega)
        subst e'
        obtain ⟨z, hz⟩ : ∃ z, bs.getD j 0 = z := ⟨_, rfl⟩
        rw [hz] at x0
        have hd : decide (0 < j + 1 ∧ bs.getD (j + 1 - 1) 0 = 0) = (z == 0) := by
          rw [Nat.add_sub_cancel, hz]
          by_cases h0 : z = 0
          · simp [h0]
          · simp [h0]
        rw [hd] at HA
        clear hz hd O
        go_wp2
        go_ret
        exact ⟨congrArg (fun b => Ending.returned (Value.bool b)) HA.out.symm, G⟩

end Go.Proofs.YtnolbpekdikamaaGreatDoor
namespace Go.Proofs.YtnolbpekdikamaaGreatDoor
open Go.RowKit Go.BigFrame Go.Proofs.YtnolbpekdikamaaGreatDoor.Ev
set_option linter.unusedVariables false
set_option linter.unusedSimpArgs false

/-- What is known of each node of a well shaped tree. -/
structure WsAt (ns : List Nd) (bs : List Int) (i : Nat) : Prop where
  lf : 1 ≤ (ns.getD i noNd).op ∧ (ns.getD i noNd).op ≤ 26
  lo : 0 ≤ bs.getD i 0 ∧ bs.getD i 0 ≤ (i : Int)
  leaf : (ns.getD i noNd).op ≤ 11 → leafN (ns.getD i noNd) = true
  one : (ns.getD i noNd).op = 12 ∨ (ns.getD i noNd).op = 13 → 0 < i ∧ (ns.getD i noNd).l = (i : Int) - 1 ∧ bs.getD i 0 = bs.getD (i - 1) 0
  two : 14 ≤ (ns.getD i noNd).op → 0 < i ∧ (ns.getD i noNd).r = (i : Int) - 1 ∧ 1 ≤ bs.getD (i - 1) 0 ∧ (ns.getD i noNd).l = bs.getD (i - 1) 0 - 1 ∧ bs.getD i 0 = bs.getD (bs.getD (i - 1) 0 - 1).toNat 0
theorem begs_at : ∀ (ns : List Nd) (pre bs : List Int), begsO ns pre = some bs → (∃ more, bs = pre ++ more) ∧ ∀ k, k < ns.length → nodeO (ns.getD k noNd) (bs.take (pre.length + k)) = some (bs.getD (pre.length + k) 0)
  | [], pre, bs, h => by
    simp [begsO] at h
    subst h
    exact ⟨⟨[], (List.append_nil _).symm⟩, fun k hk => absurd hk (Nat.not_lt_zero _)⟩
  | n :: t, pre, bs, h => by
    unfold begsO at h
    cases hn : nodeO n pre with
    | none => rw [hn] at h; cases h
    | some b =>
      rw [hn] at h
      obtain ⟨⟨more, hm⟩, h2⟩ := begs_at t (pre ++ [b]) bs h
      refine ⟨⟨b :: more, by rw [hm, List.append_assoc]; rfl⟩, fun k hk => ?_⟩
      cases k with
      | zero =>
        show nodeO n (bs.take (pre.length + 0)) = _
        rw [Nat.add_zero, hm, List.append_assoc, List.take_left', hn]
        · rw [List.getD_eq_getElem?_getD, List.getElem?_append_right (Nat.le_refl _), Nat.sub_self]; rfl
        · rfl
      | succ k =>
        have h3 := h2 k (by simpa using hk)
        rw [List.length_append, show pre.length + [b].length + k = pre.length + (k + 1) by simp; omega] at h3
        exact h3
theorem ws_of {ns : List Nd} {bs : List Int} (h : begsO ns [] = some bs) : ∀ i, i < ns.length → WsAt ns bs i := by
  obtain ⟨_, h2⟩ := begs_at ns [] bs h
  have hlen : bs.length = ns.length := by have := begsO_len ns [] bs h; simpa using this
  have hB : Bgs bs := by
    have go : ∀ (ns : List Nd) (pre bs : List Int), Bgs pre → begsO ns pre = some bs → Bgs bs := by
      intro ns
      induction ns with
      | nil => intro pre bs hp h; simp [begsO] at h; subst h; exact hp
      | cons n t ih =>
        intro pre bs hp h
        unfold begsO at h
        cases hn : nodeO n pre with
        | none => rw [hn] at h; cases h
        | some b => rw [hn] at h; exact ih _ _ (hp.more hn) h
    exact go ns [] bs Bgs.nil h
  intro i hi
  have h3 := h2 i hi
  simp only [List.length_nil, Nat.zero_add] at h3
  have hlo := hB i (by omega)
  have htl : (bs.take i).length = i := by rw [List.length_take]; omega
  have hget : ∀ j, j < i → (bs.take i).getD j 0 = bs.getD j 0 := fun j hj => by rw [List.getD_eq_getElem?_getD, List.getD_eq_getElem?_getD, List.getElem?_take, if_pos hj]
  have hne : bs.take i ≠ [] → 0 < i := fun hn => by
    rcases Nat.eq_zero_or_pos i with h0 | h0
    · subst h0; exact absurd rfl hn
    · exact h0
  by_cases hf : leafN (ns.getD i noNd) = true
  · have hx := (leafN_iff _).1 hf
    exact ⟨by omega, hlo, fun _ => hf, fun h => by omega, fun h => by omega⟩
  unfold nodeO at h3
  rw [if_neg hf] at h3
  by_cases h12 : (ns.getD i noNd).op = 12 ∨ (ns.getD i noNd).op = 13
  · rw [if_pos h12] at h3
    split at h3
    · rename_i hc
      obtain ⟨c1, c2, c3, c4⟩ := hc
      have hp := hne c2
      rw [htl] at c3 h3
      rw [hget (i - 1) (by omega)] at h3
      simp only [Option.some.injEq] at h3
      exact ⟨by omega, hlo, fun h => by omega, fun _ => ⟨hp, by omega, h3.symm⟩, fun h => by omega⟩
    · cases h3
  · rw [if_neg h12] at h3
    by_cases h14 : 14 ≤ (ns.getD i noNd).op ∧ (ns.getD i noNd).op ≤ 26
    · rw [if_pos h14] at h3
      split at h3
      · rename_i hc
        obtain ⟨c1, c2, c3, c4, c5⟩ := hc
        have hp := hne c2
        rw [htl] at c3 c4 c5 h3
        rw [hget (i - 1) (by omega)] at c4 c5 h3
        have hb1 := hB (i - 1) (by omega)
        rw [hget _ (by omega)] at h3
        simp only [Option.some.injEq] at h3
        exact ⟨by omega, hlo, fun h => by omega, fun h => by omega, fun _ => ⟨hp, by omega, c4, c5, h3.symm⟩⟩
      · cases h3
    · rw [if_neg h14] at h3
      cases h3
/-- A leaf begins at itself, and has no operands. -/
theorem ws_leaf {ns : List Nd} {bs : List Int} (h : begsO ns [] = some bs) (i : Nat) (hi : i < ns.length) (hop : (ns.getD i noNd).op ≤ 11) : bs.getD i 0 = (i : Int) ∧ (ns.getD i noNd).l = -1 ∧ (ns.getD i noNd).r = -1 := by
  have w := ws_of h i hi
  have hf := w.leaf hop
  have hx := (leafN_iff _).1 hf
  obtain ⟨_, h2⟩ := begs_at ns [] bs h
  have h3 := h2 i hi
  have hlen : bs.length = ns.length := by have := begsO_len ns [] bs h; simpa using this
  simp only [List.length_nil, Nat.zero_add] at h3
  unfold nodeO at h3
  rw [if_pos hf, List.length_take, Option.some.injEq] at h3
  exact ⟨by omega, hx.1, hx.2.1⟩
/-- One operand alone. -/
theorem ws_one_r {ns : List Nd} {bs : List Int} (h : begsO ns [] = some bs) (i : Nat) (hi : i < ns.length) (hop : (ns.getD i noNd).op = 12 ∨ (ns.getD i noNd).op = 13) : (ns.getD i noNd).r = -1 := by
  obtain ⟨_, h2⟩ := begs_at ns [] bs h
  have h3 := h2 i hi
  by_cases hf : leafN (ns.getD i noNd) = true
  · exact ((leafN_iff _).1 hf).2.1
  unfold nodeO at h3
  rw [if_neg hf, if_pos hop] at h3
  split at h3
  · rename_i hc
    exact hc.2.2.2
  · cases h3

end Go.Proofs.YtnolbpekdikamaaGreatDoor
namespace Go.Proofs.YtnolbpekdikamaaGreatDoor
open Go.RowKit Go.BigFrame Go.Proofs.YtnolbpekdikamaaGreatDoor.Ev
set_option linter.unusedVariables false
set_option linter.unusedSimpArgs false

/-- The node at i is an operand of the one at p. -/
def Kid (ns : List Nd) (p i : Nat) : Prop := (ns.getD p noNd).l = (i : Int) ∨ (ns.getD p noNd).r = (i : Int)
instance (ns : List Nd) (p i : Nat) : Decidable (Kid ns p i) := by unfold Kid; infer_instance
/-- Where the subtree begins. -/
def bg (bs : List Int) (i : Nat) : Nat := (bs.getD i 0).toNat
/-- How the nodes lie. -/
structure Kin (ns : List Nd) (bs : List Int) (i : Nat) : Prop where
  le : bg bs i ≤ i
  op : 1 ≤ (ns.getD i noNd).op ∧ (ns.getD i noNd).op ≤ 26
  how : ((ns.getD i noNd).op ≤ 11 ∧ bg bs i = i ∧ (ns.getD i noNd).l = -1 ∧ (ns.getD i noNd).r = -1) ∨
    (((ns.getD i noNd).op = 12 ∨ (ns.getD i noNd).op = 13) ∧ 0 < i ∧ (ns.getD i noNd).l = ((i - 1 : Nat) : Int) ∧ (ns.getD i noNd).r = -1 ∧ bg bs i = bg bs (i - 1)) ∨
    (14 ≤ (ns.getD i noNd).op ∧ 0 < i ∧ 1 ≤ bg bs (i - 1) ∧ (ns.getD i noNd).r = ((i - 1 : Nat) : Int) ∧ (ns.getD i noNd).l = ((bg bs (i - 1) - 1 : Nat) : Int) ∧ bg bs i = bg bs (bg bs (i - 1) - 1))
theorem kin_of {ns : List Nd} {bs : List Int} (h : begsO ns [] = some bs) (i : Nat) (hi : i < ns.length) : Kin ns bs i := by
  have w := ws_of h i hi
  have hlo := w.lo
  refine ⟨by unfold bg; omega, w.lf, ?_⟩
  rcases (show (ns.getD i noNd).op ≤ 11 ∨ ((ns.getD i noNd).op = 12 ∨ (ns.getD i noNd).op = 13) ∨ 14 ≤ (ns.getD i noNd).op by omega) with h1 | h1 | h1
  · obtain ⟨e1, e2, e3⟩ := ws_leaf h i hi h1
    exact .inl ⟨h1, by unfold bg; omega, e2, e3⟩
  · obtain ⟨e1, e2, e3⟩ := w.one h1
    exact .inr (.inl ⟨h1, e1, by omega, ws_one_r h i hi h1, by unfold bg; rw [e3]⟩)
  · obtain ⟨e1, e2, e3, e4, e5⟩ := w.two h1
    refine .inr (.inr ⟨h1, e1, by unfold bg; omega, by omega, by unfold bg; omega, ?_⟩)
    unfold bg
    rw [e5]
    congr 2
    omega
section
variable {ns : List Nd} {bs : List Int} (K : ∀ i, i < ns.length → Kin ns bs i)
include K
/-- A subtree's nodes have their subtrees within it. -/
theorem kin_lam : ∀ i, i < ns.length → ∀ j, bg bs i ≤ j → j ≤ i → bg bs i ≤ bg bs j := by
  intro i
  induction i using Nat.strongRecOn with
  | ind i ih =>
    intro hi j h1 h2
    by_cases hj : j = i
    · subst hj; exact Nat.le_refl _
    have k := K i hi
    rcases k.how with ⟨_, e, _, _⟩ | ⟨_, e0, _, _, e⟩ | ⟨_, e0, e1, _, _, e⟩
    · omega
    · rw [e] at h1 ⊢
      exact ih (i - 1) (by omega) (by omega) j h1 (by omega)
    · have kl := (K (bg bs (i - 1) - 1) (by have := (K (i - 1) (by omega)).le; omega)).le
      have kr := (K (i - 1) (by omega)).le
      by_cases hh : bg bs (i - 1) ≤ j
      · have := ih (i - 1) (by omega) (by omega) j hh (by omega)
        omega
      · rw [e] at h1 ⊢
        exact ih _ (by omega) (by omega) j h1 (by omega)
/-- An operand stands ahead, within. -/
theorem kin_kid {p i : Nat} (hp : p < ns.length) (h : Kid ns p i) : i < p ∧ bg bs p ≤ bg bs i ∧ bg bs i ≤ i := by
  have k := K p hp
  unfold Kid at h
  rcases k.how with ⟨_, _, e1, e2⟩ | ⟨_, e0, e1, e2, e⟩ | ⟨_, e0, e1, e2, e3, e⟩
  · omega
  · obtain rfl : i = p - 1 := by omega
    have := (K (p - 1) (by omega)).le
    omega
  · have kr := (K (p - 1) (by omega)).le
    have kl := (K (bg bs (p - 1) - 1) (by omega)).le
    rcases h with h | h
    · obtain rfl : i = bg bs (p - 1) - 1 := by omega
      omega
    · obtain rfl : i = p - 1 := by omega
      omega
theorem kin_uniq {p q i : Nat} (hp : p < ns.length) (hq : q < ns.length) (h1 : Kid ns p i) (h2 : Kid ns q i) : p = q := by
  have go : ∀ p q, p < ns.length → q < ns.length → Kid ns p i → Kid ns q i → ¬ p < q := by
    intro p q hp hq h1 h2 hlt
    have a1 := kin_kid K hp h1
    have a2 := kin_kid K hq h2
    have k := K q hq
    unfold Kid at h2
    rcases k.how with ⟨_, _, e1, e2⟩ | ⟨_, e0, e1, e2, e⟩ | ⟨_, e0, e1, e2, e3, e⟩
    · omega
    · omega
    · rcases h2 with h2 | h2
      · have := kin_lam K (q - 1) (by omega) p (by omega) (by omega)
        omega
      · omega
  have := go p q hp hq h1 h2
  have := go q p hq hp h2 h1
  omega
/-- What lies within a subtree, but its root, is an operand within it. -/
theorem kin_up : ∀ r, r < ns.length → ∀ i, bg bs r ≤ i → i < r → ∃ p, p < ns.length ∧ Kid ns p i ∧ bg bs r ≤ p ∧ p ≤ r := by
  intro r
  induction r using Nat.strongRecOn with
  | ind r ih =>
    intro hr i h1 h2
    have k := K r hr
    rcases k.how with ⟨_, e, _, _⟩ | ⟨_, e0, e1, e2, e⟩ | ⟨_, e0, e1, e2, e3, e⟩
    · omega
    · by_cases hi : i = r - 1
      · exact ⟨r, hr, .inl (by rw [e1, hi]), by omega, Nat.le_refl _⟩
      · obtain ⟨p, q1, q2, q3, q4⟩ := ih (r - 1) (by omega) (by omega) i (by omega) (by omega)
        exact ⟨p, q1, q2, by omega, by omega⟩
    · have kr := (K (r - 1) (by omega)).le
      have kl := (K (bg bs (r - 1) - 1) (by omega)).le
      by_cases hi : i = r - 1
      · exact ⟨r, hr, .inr (by rw [e2, hi]), by omega, Nat.le_refl _⟩
      by_cases hi2 : i = bg bs (r - 1) - 1
      · exact ⟨r, hr, .inl (by rw [e3, hi2]), by omega, Nat.le_refl _⟩
      by_cases hh : bg bs (r - 1) ≤ i
      · obtain ⟨p, q1, q2, q3, q4⟩ := ih (r - 1) (by omega) (by omega) i hh (by omega)
        exact ⟨p, q1, q2, by omega, by omega⟩
      · obtain ⟨p, q1, q2, q3, q4⟩ := ih (bg bs (r - 1) - 1) (by omega) (by omega) i (by omega) (by omega)
        exact ⟨p, q1, q2, by omega, by omega⟩
/-- Within a subtree: its root, or an operand of what is within. -/
theorem kin_in {r i p : Nat} (hr : r < ns.length) (hne : i ≠ r) (hp : p < ns.length) (hk : Kid ns p i) : (bg bs r ≤ i ∧ i ≤ r) ↔ (bg bs r ≤ p ∧ p ≤ r) := by
  have a := kin_kid K hp hk
  constructor
  · intro ⟨h1, h2⟩
    obtain ⟨q, q1, q2, q3, q4⟩ := kin_up K r hr i h1 (by omega)
    rw [kin_uniq K hp q1 hk q2]
    exact ⟨q3, q4⟩
  · intro ⟨h1, h2⟩
    have := kin_lam K r hr p h1 h2
    omega
end
/-- Whose operand it is, among the first k nodes; -1: of none. -/
def parF (ns : List Nd) : Nat → Nat → Int
  | 0, _ => -1
  | k + 1, j => if Kid ns k j then (k : Int) else parF ns k j
theorem parF_kid {ns : List Nd} : ∀ {k j : Nat}, 0 ≤ parF ns k j → ∃ p : Nat, parF ns k j = (p : Int) ∧ p < k ∧ Kid ns p j
  | 0, j, h => absurd h (show ¬ (0 : Int) ≤ -1 by decide)
  | k + 1, j, h => by
    unfold parF at h ⊢
    split
    · exact ⟨k, rfl, by omega, by assumption⟩
    · rename_i hk
      rw [if_neg hk] at h
      obtain ⟨p, e, h1, h2⟩ := parF_kid h
      exact ⟨p, e, by omega, h2⟩
theorem parF_lo (ns : List Nd) : ∀ (k j : Nat), -1 ≤ parF ns k j
  | 0, _ => Int.le_refl _
  | k + 1, j => by
    unfold parF
    split
    · omega
    · exact parF_lo ns k j
theorem parF_none {ns : List Nd} : ∀ {k j : Nat}, parF ns k j < 0 → ∀ p, p < k → ¬ Kid ns p j
  | 0, j, _, p, hp => by omega
  | k + 1, j, h, p, hp => by
    unfold parF at h
    split at h
    · omega
    · rename_i hk
      by_cases e : p = k
      · subst e; exact hk
      · exact parF_none h p (by omega)
/-- Is a place within the subtree of the root? -/
def inB (ns : List Nd) (bs : List Int) (root : Int) (i : Nat) : Bool := decide (0 ≤ root ∧ root < (ns.length : Int) ∧ bg bs root.toNat ≤ i ∧ (i : Int) ≤ root)
theorem inB_step {ns : List Nd} {bs : List Int} (K : ∀ i, i < ns.length → Kin ns bs i) (root : Int) (i : Nat) (hi : i < ns.length) :
    inB ns bs root i = (decide ((i : Int) = root) || (decide (0 ≤ parF ns ns.length i) && inB ns bs root (parF ns ns.length i).toNat)) := by
  by_cases hr : 0 ≤ root ∧ root < (ns.length : Int)
  · obtain ⟨r, rfl⟩ : ∃ r : Nat, root = (r : Int) := ⟨root.toNat, by omega⟩
    have hrl : r < ns.length := by omega
    by_cases he : i = r
    · subst he
      have := (K i hi).le
      rw [decide_eq_true rfl, Bool.true_or]
      unfold inB
      rw [Int.toNat_natCast]
      exact decide_eq_true ⟨by omega, by omega, this, by omega⟩
    · rw [decide_eq_false (show ¬ (i : Int) = (r : Int) by omega), Bool.false_or]
      by_cases hp : 0 ≤ parF ns ns.length i
      · obtain ⟨p, e, h1, h2⟩ := parF_kid hp
        have h3 := kin_in K hrl he h1 h2
        rw [decide_eq_true hp, Bool.true_and, e]
        unfold inB
        rw [Int.toNat_natCast, Int.toNat_natCast]
        refine decide_eq_decide.2 ⟨fun h => ?_, fun h => ?_⟩
        · have := h3.1 ⟨h.2.2.1, by omega⟩
          exact ⟨by omega, by omega, this.1, by omega⟩
        · have := h3.2 ⟨h.2.2.1, by omega⟩
          exact ⟨by omega, by omega, this.1, by omega⟩
      · rw [decide_eq_false hp, Bool.false_and]
        unfold inB
        rw [Int.toNat_natCast]
        refine decide_eq_false fun h => ?_
        obtain ⟨p, q1, q2, _⟩ := kin_up K r hrl i h.2.2.1 (by omega)
        exact parF_none (by omega) p q1 q2
  · have hf : ∀ j, inB ns bs root j = false := fun j => decide_eq_false fun h => hr ⟨h.1, h.2.1⟩
    rw [hf, hf, Bool.and_false, Bool.or_false]
    exact (decide_eq_false (by omega)).symm
/-- Nothing but ANDs above it. -/
def topF (ns : List Nd) : Nat → Nat → Bool
  | 0, _ => false
  | f + 1, i => decide (parF ns ns.length i < 0) || (topF ns f (parF ns ns.length i).toNat && decide ((ns.getD (parF ns ns.length i).toNat noNd).op = 25))
def topB (ns : List Nd) (i : Nat) : Bool := topF ns ns.length i
theorem topF_fuel {ns : List Nd} {bs : List Int} (K : ∀ i, i < ns.length → Kin ns bs i) : ∀ (f g i : Nat), ns.length ≤ f + i → ns.length ≤ g + i → i < ns.length → topF ns f i = topF ns g i := by
  intro f
  induction f with
  | zero => intro g i h1 h2 h3; omega
  | succ f ih =>
    intro g i h1 h2 h3
    obtain ⟨g, rfl⟩ : ∃ g', g = g' + 1 := ⟨g - 1, by omega⟩
    unfold topF
    by_cases hp : 0 ≤ parF ns ns.length i
    · obtain ⟨p, e, q1, q2⟩ := parF_kid hp
      have := kin_kid K q1 q2
      rw [e, Int.toNat_natCast, ih g p (by omega) (by omega) q1]
    · rw [decide_eq_true (show parF ns ns.length i < 0 by omega), Bool.true_or, Bool.true_or]
theorem topB_step {ns : List Nd} {bs : List Int} (K : ∀ i, i < ns.length → Kin ns bs i) (i : Nat) (hi : i < ns.length) :
    topB ns i = (decide (parF ns ns.length i < 0) || (topB ns (parF ns ns.length i).toNat && decide ((ns.getD (parF ns ns.length i).toNat noNd).op = 25))) := by
  obtain ⟨f, hf⟩ : ∃ f, ns.length = f + 1 := ⟨ns.length - 1, by omega⟩
  unfold topB
  rw [show topF ns ns.length i = topF ns (f + 1) i by rw [hf]]
  conv => lhs; unfold topF
  by_cases hp : 0 ≤ parF ns ns.length i
  · obtain ⟨p, e, q1, q2⟩ := parF_kid hp
    have := kin_kid K q1 q2
    rw [e, Int.toNat_natCast, topF_fuel K f ns.length p (by omega) (by omega) q1]
  · rw [decide_eq_true (show parF ns ns.length i < 0 by omega), Bool.true_or, Bool.true_or]
/-- The roots of the conjuncts. -/
def conjL (ns : List Nd) : List Nat := (List.range ns.length).filter fun i => topB ns i && !decide ((ns.getD i noNd).op = 25)

end Go.Proofs.YtnolbpekdikamaaGreatDoor
namespace Go.Proofs.YtnolbpekdikamaaGreatDoor
open Go.RowKit Go.BigFrame
set_option linter.unusedVariables false
set_option linter.unusedSimpArgs false

def kJoin (op : Int) : Bool := decide (op = 13 ∨ op = 25 ∨ op = 26)
def kTr (op : Int) : Bool := decide (op = 2 ∨ op = 3 ∨ (op = 13 ∨ op = 25 ∨ op = 26) ∨ (19 ≤ op ∧ op ≤ 24))
def kMent (op : Int) : Bool := decide (4 ≤ op ∧ op ≤ 11)
def kLit (n : Nd) : Int := if n.op = 2 then 1 else n.n
def kCod (op : Int) : Int := if op < 4 then 1 else if op = 4 then 2 else if op = 11 then 3 else if op < 11 then op - 1 else op - 2
set_option maxHeartbeats 1000000 in
theorem kJoins_any (op : Int) (w : World) : Calls Tryz.prog 69 #[.int .i64 op] w fun e w' => e = .returned (.bool (kJoin op)) ∧ w' = w := by
  rcases (show (op = 13 ∨ op = 25 ∨ op = 26) ∨ ¬ (op = 13 ∨ op = 25 ∨ op = 26) from Decidable.em _) with h | h
  · have hv : kJoin op = true := decide_eq_true h
    rw [hv]; clear hv
    rcases h with rfl | rfl | rfl
    all_goals
      go_enter Tryz.func69, Tryz.ntmps69
      go_wp2
      go_ret
      exact ⟨rfl, rfl⟩
  · have hv : kJoin op = false := decide_eq_false h
    have h1 : (op == 13) = false := beq_eq_false_iff_ne.2 (by omega)
    have h2 : (op == 25) = false := beq_eq_false_iff_ne.2 (by omega)
    have h3 : (op == 26) = false := beq_eq_false_iff_ne.2 (by omega)
    rw [hv]; clear hv h
    go_enter Tryz.func69, Tryz.ntmps69
    go_wp2
    go_ret
    exact ⟨rfl, rfl⟩
set_option maxHeartbeats 1000000 in
theorem kMention_any (op : Int) (w : World) : Calls Tryz.prog 45 #[.int .i64 op] w fun e w' => e = .returned (.bool (kMent op)) ∧ w' = w := by
  obtain ⟨v, hv⟩ : ∃ v, kMent op = v := ⟨_, rfl⟩
  rw [hv]
  have HV : Hid (decide (4 ≤ op ∧ op ≤ 11) = v) := hv
  clear hv
  go_enter Tryz.func45, Tryz.ntmps45
  go_wp2
  all_goals
    have hv : decide (4 ≤ op ∧ op ≤ 11) = v := HV
    go_ret
    refine ⟨?_, rfl⟩
    subst hv
    refine congrArg (fun b => Ending.returned (Value.bool b)) ?_
    first | exact (decide_eq_true (by omega)).symm | exact (decide_eq_false (by omega)).symm | exact decide_eq_decide.2 (by omega)
set_option maxHeartbeats 1000000 in
theorem kTruth_any (op : Int) (w : World) : Calls Tryz.prog 68 #[.int .i64 op] w fun e w' => e = .returned (.bool (kTr op)) ∧ w' = w := by
  have cj := fun u : World => kJoins_any op u
  by_cases h2 : op = 2
  · subst h2
    go_enter Tryz.func68, Tryz.ntmps68
    go_wp2
    go_ret
    exact ⟨rfl, rfl⟩
  by_cases h3 : op = 3
  · subst h3
    go_enter Tryz.func68, Tryz.ntmps68
    go_wp2
    go_ret
    exact ⟨rfl, rfl⟩
  have h2' : (op == 2) = false := beq_eq_false_iff_ne.2 h2
  have h3' : (op == 3) = false := beq_eq_false_iff_ne.2 h3
  cases hj : kJoin op with
  | true =>
    have hv : kTr op = true := decide_eq_true (.inr (.inr (.inl (of_decide_eq_true hj))))
    rw [hj] at cj
    rw [hv]; clear hv
    go_enter Tryz.func68, Tryz.ntmps68
    go_wp2_with (first | (go_at_call 69; (with_reducible refine (cj _).mono ?_); rintro e u ⟨rfl, hu⟩; have hu' := hu.symm; subst hu'))
    go_ret
    exact ⟨rfl, rfl⟩
  | false =>
    have hj' := of_decide_eq_false hj
    rw [hj] at cj
    obtain ⟨v, hv⟩ : ∃ v, kTr op = v := ⟨_, rfl⟩
    rw [hv]
    have HV : Hid (decide (op = 2 ∨ op = 3 ∨ (op = 13 ∨ op = 25 ∨ op = 26) ∨ (19 ≤ op ∧ op ≤ 24)) = v) := hv
    have HJ : Hid (¬ (op = 13 ∨ op = 25 ∨ op = 26)) := hj'
    have H2 : Hid (op ≠ 2) := h2
    have H3 : Hid (op ≠ 3) := h3
    clear hv hj' h2 h3
    go_enter Tryz.func68, Tryz.ntmps68
    go_wp2_with (first | (go_at_call 69; (with_reducible refine (cj _).mono ?_); rintro e u ⟨rfl, hu⟩; have hu' := hu.symm; subst hu'))
    all_goals
      have hv : decide (op = 2 ∨ op = 3 ∨ (op = 13 ∨ op = 25 ∨ op = 26) ∨ (19 ≤ op ∧ op ≤ 24)) = v := HV
      have h1 := HJ.out
      have h2 := H2.out
      have h3 := H3.out
      go_ret
      refine ⟨?_, rfl⟩
      subst hv
      refine congrArg (fun b => Ending.returned (Value.bool b)) ?_
      first | exact (decide_eq_true (by omega)).symm | exact (decide_eq_false (by omega)).symm | exact decide_eq_decide.2 (by omega)
theorem kCodeOf_any (op : Int) (h : fI op) (w : World) : Calls Tryz.prog 70 #[.int .i64 op] w fun e w' => e = .returned (.int .i64 (kCod op)) ∧ w' = w := by
  unfold fI at h
  unfold kCod
  by_cases h1 : op < 4
  · rw [if_pos h1]
    go_enter Tryz.func70, Tryz.ntmps70
    go_wp2
    go_ret
    exact ⟨rfl, rfl⟩
  rw [if_neg h1]
  by_cases h2 : op = 4
  · subst h2
    rw [if_pos rfl]
    go_enter Tryz.func70, Tryz.ntmps70
    go_wp2
    go_ret
    exact ⟨rfl, rfl⟩
  rw [if_neg h2]
  have h2' : (op == 4) = false := beq_eq_false_iff_ne.2 h2
  by_cases h3 : op = 11
  · subst h3
    rw [if_pos rfl]
    go_enter Tryz.func70, Tryz.ntmps70
    go_wp2
    go_ret
    exact ⟨rfl, rfl⟩
  rw [if_neg h3]
  have h3' : (op == 11) = false := beq_eq_false_iff_ne.2 h3
  by_cases h4 : op < 11
  · rw [if_pos h4]
    have e1 : IntKind.i64.wrap (op - 5) = op - 5 := by rw [IntKind.wrap_i64]; omega
    have e2 : IntKind.i64.wrap (4 + (op - 5)) = op - 1 := by rw [IntKind.wrap_i64]; omega
    go_enter Tryz.func70, Tryz.ntmps70
    go_wp2
    go_ret
    exact ⟨rfl, rfl⟩
  · rw [if_neg h4]
    have e1 : IntKind.i64.wrap (op - 12) = op - 12 := by rw [IntKind.wrap_i64]; omega
    have e2 : IntKind.i64.wrap (10 + (op - 12)) = op - 2 := by rw [IntKind.wrap_i64]; omega
    go_enter Tryz.func70, Tryz.ntmps70
    go_wp2
    go_ret
    exact ⟨rfl, rfl⟩
set_option maxHeartbeats 1000000 in
theorem kLiteral_any (n : Nd) (w : World) : Calls Tryz.prog 71 #[.agg (ndA n)] w fun e w' => e = .returned (.int .i64 (kLit n)) ∧ Below w.heap.size w w' := by
  have B := galloc (Below.refl w.heap.size w) (.cells (ndA n) 64)
  unfold kLit
  by_cases h : n.op = 2
  · rw [if_pos h]
    have B2 := B
    unfold ndA at B2
    rw [h] at B2
    unfold ndA
    go_enter Tryz.func71, Tryz.ntmps71
    go_wp2
    go_ret
    exact ⟨rfl, B2⟩
  · have h' : (n.op == 2) = false := beq_eq_false_iff_ne.2 h
    rw [if_neg h]
    unfold ndA
    go_enter Tryz.func71, Tryz.ntmps71
    go_wp2
    go_ret
    exact ⟨rfl, B⟩

end Go.Proofs.YtnolbpekdikamaaGreatDoor
namespace Go.Proofs.YtnolbpekdikamaaGreatDoor
open Go.RowKit Go.BigFrame
set_option linter.unusedVariables false
set_option linter.unusedSimpArgs false

def kKid (t : List Nd) (op k : Int) : Bool := decide (0 ≤ k) && (kTr (t.getD k.toNat noNd).op != kJoin op)
def kFit (t : List Nd) (n : Nd) : Bool := if kKid t n.op n.l = true then false else if kKid t n.op n.r = true then false else true
theorem kIdx0 (x y : Int) (v : World) : (Instr.index 127 (.agg #[.int .i64 x, .int .i64 y]) (.int .i64 0)).run Tryz.prog v = .ok (.int .i64 x) v := by
  simp [Instr.index, run_underlying Tryz.underlying127, asIntOf, go_sem]
theorem kIdx1 (x y : Int) (v : World) : (Instr.index 127 (.agg #[.int .i64 x, .int .i64 y]) (.int .i64 1)).run Tryz.prog v = .ok (.int .i64 y) v := by
  simp [Instr.index, run_underlying Tryz.underlying127, asIntOf, go_sem]
set_option maxRecDepth 100000 in
set_option maxHeartbeats 8000000 in
theorem kindsFit_any (t : List Nd) (hr : t.length * 64 ≤ 140737488351232) (n : Nd) (hl0 : n.l < (t.length : Int)) (hr0 : n.r < (t.length : Int)) (ao : Option Addr) (cap : Nat) (w : World) (A : IsNds w ao t) :
    Calls Tryz.prog 44 #[.slice ao t.length cap, .agg #[.int .i64 n.op, .int .i64 n.n, .string n.v, .string n.x, .int .i64 n.l, .int .i64 n.r]] w fun e w' => e = .returned (.bool (kFit t n)) ∧ Below w.heap.size w w' := by
  have B0 := galloc (Below.refl w.heap.size w) (.cells #[.int .i64 n.op, .int .i64 n.n, .string n.v, .string n.x, .int .i64 n.l, .int .i64 n.r] 64)
  have N0 := Bk.new w #[.int .i64 n.op, .int .i64 n.n, .string n.v, .string n.x, .int .i64 n.l, .int .i64 n.r] 64
  obtain ⟨nop, nn, nv, nx, nl, nr⟩ := n
  dsimp only at *
  have AV := A.keep B0
  obtain ⟨r, hrr⟩ : ∃ r, kFit t ⟨nop, nn, nv, nx, nl, nr⟩ = r := ⟨_, rfl⟩
  rw [hrr]
  have HR : Hid ((if kKid t nop nl = true then false else if kKid t nop nr = true then false else true) = r) := hrr
  clear hrr
  go_enter Tryz.func44, Tryz.ntmps44
  go_wp2
  generalize w.alloc (.cells #[.int .i64 nop, .int .i64 nn, .string nv, .string nx, .int .i64 nl, .int .i64 nr] 64) = V at *
  go_loopw [6, 12] (fun _ x wr => (∃ k : Nat, k ≤ 2 ∧ x = .int .i64 k ∧ (1 ≤ k → kKid t nop nl = false) ∧ (2 ≤ k → kKid t nop nr = false)) ∧ Below V.heap.size V wr) (fun _ x _ => 2 - (intOf x).toNat)
  case atStart => exact ⟨⟨0, Nat.zero_le _, rfl, fun h => by omega, fun h => by omega⟩, Below.refl _ _⟩
  case round =>
    obtain ⟨⟨k, hk, rfl, hk1, hk2⟩, G⟩ := hrel
    obtain ⟨m0, m1, m2, m3, m4, m5⟩ := (N0.keep G).at6
    have BW := gtrans B0 G
    rcases (show k = 0 ∨ k = 1 ∨ k = 2 from by omega) with rfl | rfl | rfl
    · obtain ⟨b, hb⟩ : ∃ b, kKid t nop nl = b := ⟨_, rfl⟩
      have HK := show Hid (_ = _) from hb
      clear hb
      by_cases h0 : 0 ≤ nl
      · obtain ⟨z, rfl⟩ : ∃ z : Nat, nl = z := ⟨nl.toNat, by omega⟩
        obtain ⟨g, o, rfl, x0, x1, x2, x3, x4, x5⟩ := (AV.keep G) z (by omega)
        have hzi : (z : Int) < (t.length : Int) := by omega
        have hb2 : (kTr (t.getD z noNd).op != kJoin nop) = b := by
          have := HK.out
          unfold kKid at this
          rw [decide_eq_true h0] at this
          exact this
        have hne : Nonempty (Ext wr) := ⟨⟨_, Below.refl _ _⟩⟩
        have y1 : ∀ z' : Ext wr, Calls Tryz.prog 68 #[.int .i64 (t.getD z noNd).op] z'.X (fun e' w'' => e' = .returned (.bool (kTr (t.getD z noNd).op)) ∧ ∃ m : Ext wr, w'' = m.X) := fun z' => (kTruth_any _ z'.X).mono fun _ _ ⟨he, hw⟩ => ⟨he, z', hw⟩
        have y2 : ∀ z' : Ext wr, Calls Tryz.prog 69 #[.int .i64 nop] z'.X (fun e' w'' => e' = .returned (.bool (kJoin nop)) ∧ ∃ m : Ext wr, w'' = m.X) := fun z' => (kJoins_any _ z'.X).mono fun _ _ ⟨he, hw⟩ => ⟨he, z', hw⟩
        have ix := kIdx0
        have p0 := fun z' : Ext wr => (z'.cell _ _ (lt_of_cell x0)).trans x0
        have p1 := fun z' : Ext wr => (z'.cell _ _ (lt_of_cell m0)).trans m0
        generalize (t.getD z noNd).op = top at *
        generalize kTr top = tb at *
        generalize kJoin nop = jb at *
        clear x0 x1 x2 x3 x4 x5
        cases tb <;> cases jb
        all_goals
          have hb3 := hb2.symm
          simp at hb3
          subst hb3
          clear hb2
          go_wp2
          refine wp_region_ext (by kernel_rfl) (by kernel_rfl) ?_
          repeat (go_big_quiet_step (first | (go_at_call 68; with_reducible exact y1 _) | (go_at_call 69; with_reducible exact y2 _)))
          refine wpQuiet_nil ?_
          intro _ hw'
          obtain ⟨nw, hw''⟩ := hw'
          subst hw''
          have G2 := gtrans G nw.h
          have BW2 := gtrans BW nw.h
          generalize nw.X = X at *
          clear p0 p1 y1 y2 hne
          first
            | (have e : false = r := (by rw [← HR.out, if_pos HK.out])
               subst e
               go_wp2
               go_ret
               exact ⟨rfl, BW2⟩)
            | (go_wp2
               go_roundw
               case rel => exact ⟨⟨1, by omega, by go_num, fun _ => HK.out, fun h => by omega⟩, G2⟩
               case measure => simp [intOf])
      · have hb2 : b = false := by
          rw [← HK.out]
          unfold kKid
          rw [decide_eq_false h0]
          rfl
        subst hb2
        have d0 := decide_eq_false h0
        have ix := kIdx0
        have hne : Nonempty (Ext wr) := ⟨⟨_, Below.refl _ _⟩⟩
        go_wp2
        refine wp_region_ext (by kernel_rfl) (by kernel_rfl) ?_
        repeat (go_big_quiet_step (fail))
        refine wpQuiet_nil ?_
        intro _ hw'
        obtain ⟨nw, hw''⟩ := hw'
        subst hw''
        have G2 := gtrans G nw.h
        generalize nw.X = X at *
        go_wp2
        go_roundw
        case rel => exact ⟨⟨1, by omega, by go_num, fun _ => HK.out, fun h => by omega⟩, G2⟩
        case measure => simp [intOf]
    · obtain ⟨b, hb⟩ : ∃ b, kKid t nop nr = b := ⟨_, rfl⟩
      have HK := show Hid (_ = _) from hb
      clear hb
      by_cases h0 : 0 ≤ nr
      · obtain ⟨z, rfl⟩ : ∃ z : Nat, nr = z := ⟨nr.toNat, by omega⟩
        obtain ⟨g, o, rfl, x0, x1, x2, x3, x4, x5⟩ := (AV.keep G) z (by omega)
        have hzi : (z : Int) < (t.length : Int) := by omega
        have hb2 : (kTr (t.getD z noNd).op != kJoin nop) = b := by
          have := HK.out
          unfold kKid at this
          rw [decide_eq_true h0] at this
          exact this
        have hne : Nonempty (Ext wr) := ⟨⟨_, Below.refl _ _⟩⟩
        have y1 : ∀ z' : Ext wr, Calls Tryz.prog 68 #[.int .i64 (t.getD z noNd).op] z'.X (fun e' w'' => e' = .returned (.bool (kTr (t.getD z noNd).op)) ∧ ∃ m : Ext wr, w'' = m.X) := fun z' => (kTruth_any _ z'.X).mono fun _ _ ⟨he, hw⟩ => ⟨he, z', hw⟩
        have y2 : ∀ z' : Ext wr, Calls Tryz.prog 69 #[.int .i64 nop] z'.X (fun e' w'' => e' = .returned (.bool (kJoin nop)) ∧ ∃ m : Ext wr, w'' = m.X) := fun z' => (kJoins_any _ z'.X).mono fun _ _ ⟨he, hw⟩ => ⟨he, z', hw⟩
        have ix := kIdx1
        have p0 := fun z' : Ext wr => (z'.cell _ _ (lt_of_cell x0)).trans x0
        have p1 := fun z' : Ext wr => (z'.cell _ _ (lt_of_cell m0)).trans m0
        generalize (t.getD z noNd).op = top at *
        generalize kTr top = tb at *
        generalize kJoin nop = jb at *
        clear x0 x1 x2 x3 x4 x5
        cases tb <;> cases jb
        all_goals
          have hb3 := hb2.symm
          simp at hb3
          subst hb3
          clear hb2
          go_wp2
          refine wp_region_ext (by kernel_rfl) (by kernel_rfl) ?_
          repeat (go_big_quiet_step (first | (go_at_call 68; with_reducible exact y1 _) | (go_at_call 69; with_reducible exact y2 _)))
          refine wpQuiet_nil ?_
          intro _ hw'
          obtain ⟨nw, hw''⟩ := hw'
          subst hw''
          have G2 := gtrans G nw.h
          have BW2 := gtrans BW nw.h
          generalize nw.X = X at *
          clear p0 p1 y1 y2 hne
          first
            | (have e : false = r := (by rw [← HR.out, if_neg (by rw [hk1 (by omega)]; simp), if_pos HK.out])
               subst e
               go_wp2
               go_ret
               exact ⟨rfl, BW2⟩)
            | (go_wp2
               go_roundw
               case rel => exact ⟨⟨2, by omega, by go_num, fun _ => hk1 (by omega), fun _ => HK.out⟩, G2⟩
               case measure => simp [intOf])
      · have hb2 : b = false := by
          rw [← HK.out]
          unfold kKid
          rw [decide_eq_false h0]
          rfl
        subst hb2
        have d0 := decide_eq_false h0
        have ix := kIdx1
        have hne : Nonempty (Ext wr) := ⟨⟨_, Below.refl _ _⟩⟩
        go_wp2
        refine wp_region_ext (by kernel_rfl) (by kernel_rfl) ?_
        repeat (go_big_quiet_step (fail))
        refine wpQuiet_nil ?_
        intro _ hw'
        obtain ⟨nw, hw''⟩ := hw'
        subst hw''
        have G2 := gtrans G nw.h
        generalize nw.X = X at *
        go_wp2
        go_roundw
        case rel => exact ⟨⟨2, by omega, by go_num, fun _ => hk1 (by omega), fun _ => HK.out⟩, G2⟩
        case measure => simp [intOf]
    · have e : true = r := by rw [← HR.out, if_neg (by rw [hk1 (by omega)]; simp), if_neg (by rw [hk2 (by omega)]; simp)]
      subst e
      go_wp2
      go_ret
      exact ⟨rfl, BW⟩


end Go.Proofs.YtnolbpekdikamaaGreatDoor
