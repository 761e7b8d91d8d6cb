/- Expr: the canonical text of a tree. -/
import Derived.Test.YtpodpahipapbaaaDoorSih
import Derived.Test.YtpodpahipapbaaaDoorSii
namespace Go.Proofs.YtpodpahipapbaaaDoor
open Go.RowKit Go.BigFrame Go.Shelf Go.Proofs.YtpodpahipapbaaaDoor.Ev
set_option linter.unusedVariables false
set_option linter.unusedSimpArgs false

theorem sg_small : ∀ j : Nat, j < 19 → (sg j).size ≤ 30 := by decide +kernel
theorem kw_small : ∀ j : Nat, j < 27 → (kw j).size ≤ 30 := by decide +kernel
theorem spS_small (t : Tok) (h : TokS t) : (spS t).size ≤ 30 := by
  unfold spS
  split
  · have := h.2.1; omega
  split
  · have h1 := Lib.itoa_length_le t.n h.1.1 h.1.2
    have h2 : (⟨(Lib.itoa t.n).toArray⟩ : ByteArray).size = (Lib.itoa t.n).length := by show (Lib.itoa t.n).toArray.size = _; simp
    omega
  split
  · rename_i h3
    exact sg_small _ (by omega)
  split
  · rename_i h3
    exact kw_small _ (by omega)
  · exact Nat.zero_le _
theorem joinU_small (ts : List Tok) (h : ∀ t ∈ ts, TokS t) : ∀ k, k ≤ ts.length → (joinU ts k).length ≤ 31 * k := by
  intro k
  induction k with
  | zero => intro _; exact Nat.zero_le _
  | succ k ih =>
    intro hk
    have h1 := ih (by omega)
    have h2 := spS_small (ts.getD k noTok) (h _ (by rw [List.getD_eq_getElem?_getD, List.getElem?_eq_getElem (by omega)]; exact List.getElem_mem _))
    have h3 : (spS (ts.getD k noTok)).data.toList.length = (spS (ts.getD k noTok)).size := Array.length_toList
    show (joinU ts k ++ (if 0 < k then [32] else []) ++ (spS (ts.getD k noTok)).data.toList).length ≤ _
    rw [List.length_append, List.length_append]
    have h4 : (if 0 < k then [(32 : UInt8)] else []).length ≤ 1 := by split <;> simp
    omega
/-- The text of a piece, or why there is none. -/
def wrO (p : Pce) : ByteArray × Int := if 400 < p.ts.length then (eS, 51) else if 32 < p.d then (eS, 41) else (⟨(joinU p.ts p.ts.length).toArray⟩, 0)
set_option maxRecDepth 100000 in
set_option maxHeartbeats 8000000 in
theorem written_any (p : Pce) (hS : AllS p) (hl : p.ts.length ≤ 100000000) (t : Option Addr) (c : Nat) (w : World) (A : IsToks w t p.ts) (K : KwAt w) (Sg : SgAt w) (P : PwAt w) :
    Calls Tryd.prog 10 #[.agg #[.slice t p.ts.length c, .int .i64 p.d]] w fun e w' => e = .returned (.tuple #[.string (wrO p).1, .int .i64 (wrO p).2]) ∧ Below w.heap.size w w' := by
  have B0 := galloc (Below.refl w.heap.size w) (.cells #[.slice t p.ts.length c, .int .i64 p.d] 36)
  have cJ := fun h4 : p.ts.length ≤ 400 => join_any p.ts t c (by omega) (fun k hk => (hS _ (by rw [List.getD_eq_getElem?_getD, List.getElem?_eq_getElem hk]; exact List.getElem_mem _)).1) (by have := joinU_small p.ts hS p.ts.length (Nat.le_refl _); omega) _ (A.keep B0) (K.keep B0) (Sg.keep B0) (P.keep B0)
  obtain ⟨z, hz⟩ : ∃ z, wrO p = z := ⟨_, rfl⟩
  rw [hz]
  have HZ : Hid (wrO p = z) := hz
  unfold wrO at hz
  have HU := show Hid (_ = z) from hz
  clear hz
  obtain ⟨n, hn⟩ : ∃ n, p.ts.length = n := ⟨_, rfl⟩
  generalize hjj : (⟨(joinU p.ts p.ts.length).toArray⟩ : ByteArray) = jt at *
  rw [hn] at cJ hl HU B0 ⊢
  generalize p.d = d at *
  clear hS A K Sg P hjj HZ hn
  by_cases h4 : 400 < n
  · obtain rfl : (eS, 51) = z := by have := HU.out; rw [if_pos h4] at this; exact this
    have q4 : (400 : Int) < (n : Int) := by omega
    clear cJ HU
    go_enter Tryd.func10, Tryd.ntmps10
    go_wp2
    go_ret2
    exact ⟨rfl, B0⟩
  have q4 : ¬ (400 : Int) < (n : Int) := by omega
  have d4 : decide ((400 : Int) < (n : Int)) = false := decide_eq_false q4
  by_cases h3 : 32 < d
  · obtain rfl : (eS, 41) = z := by have := HU.out; rw [if_neg h4, if_pos h3] at this; exact this
    clear cJ HU
    go_enter Tryd.func10, Tryd.ntmps10
    go_wp2
    go_ret2
    exact ⟨rfl, B0⟩
  have d3 : decide (32 < d) = false := decide_eq_false h3
  obtain rfl : (jt, 0) = z := by have := HU.out; rw [if_neg h4, if_neg h3] at this; exact this
  have cJ := cJ (by omega)
  clear HU
  go_enter Tryd.func10, Tryd.ntmps10
  go_wp2_with (go_at_call 15; (with_reducible refine cJ.mono ?_); rintro e u ⟨rfl, g⟩)
  go_ret2
  exact ⟨rfl, gtrans B0 g⟩

set_option maxRecDepth 100000 in
set_option maxHeartbeats 8000000 in
theorem expression_any (ns : List Nd) (bs : List Int) (W : ∀ i, i < ns.length → WsAt ns bs i) (hl : ns.length ≤ 100000) (h0 : 0 < ns.length) (ao : Option Addr) (cap : Nat) (w : World) (A : IsNds w ao ns) :
    Calls Tryd.prog 11 #[.slice ao ns.length cap] w fun e w' => ∃ v, e = .returned v ∧ PcA w' w.heap.size v (nodP ns ns.length (ns.length - 1)) ∧ Below w.heap.size w w' := by
  have B0 := galloc (Below.refl w.heap.size w) (.cells #[.slice none 0 0, .int .i64 0] 36)
  have R0 := Two.new w (.slice none 0 0) (.int .i64 0) 36
  have cN := node_any ns bs W hl ns.length (ns.length - 1) (by omega) (by omega) ao cap _ (A.keep B0)
  obtain ⟨q, hq⟩ : ∃ q, nodP ns ns.length (ns.length - 1) = q := ⟨_, rfl⟩
  rw [hq] at cN ⊢
  clear hq
  obtain ⟨n, hn⟩ : ∃ n, ns.length = n := ⟨_, rfl⟩
  rw [hn] at cN h0 hl ⊢
  obtain ⟨j, hj⟩ : ∃ j, n = j + 1 := ⟨n - 1, by omega⟩
  rw [show ((n - 1 : Nat) : Int) = (n : Int) - 1 by omega] at cN
  clear hj
  go_enter Tryd.func11, Tryd.ntmps11
  go_wp2_with (go_at_call 16; (with_reducible refine cN.mono ?_); rintro e u4 ⟨v4, rfl, ⟨t4, rfl, O4⟩, g4⟩; obtain ⟨vo, vc, rfl⟩ := own_shape O4; have R4 := R0.keep g4; have r0 := R4.at0; have r1 := R4.at1; have f0 := R4.free 0; have f1 := R4.free 1)
  obtain ⟨e1, e2, e3⟩ := piece_endG (w := w) (q := q) (Nat.le_refl _) (by simp) R4 O4 (gtrans B0 g4)
  have r5 := e3.at0
  have r6 := e3.at1
  exact bodyPost_ret (v := .agg #[.slice vo q.ts.length vc, .int .i64 q.d]) (by simp [results, Tryd.results11, go_sem, r5, r6]) rfl ⟨_, rfl, e1, e2⟩
/-- The outcome of Expr. -/
def shO (ns : List Nd) : ByteArray × Int := if treeB ns = false then (eS, 50) else if 400 < ns.length then (eS, 51) else wrO (nodP ns ns.length (ns.length - 1))
set_option maxRecDepth 100000 in
set_option maxHeartbeats 8000000 in
theorem shExpr_any (ns : List Nd) (ao : Option Addr) (cap : Nat) (w : World) (A : IsNds w ao ns) (hr : ns.length * 64 ≤ 140737488351232) (hf : ∀ k, (ns.getD k noNd).fit) (K : KwAt w) (Sg : SgAt w) (P : PwAt w) :
    Calls Tryd.prog 6 #[.slice ao ns.length cap] w fun e w' => e = .returned (.tuple #[.string (shO ns).1, .int .i64 (shO ns).2]) ∧ Below w.heap.size w w' := by
  have c1 := shTree_any ns ao cap w K A hr hf
  obtain ⟨z, hz⟩ : ∃ z, shO ns = z := ⟨_, rfl⟩
  rw [hz]
  unfold shO at hz
  have HU := show Hid (_ = z) from hz
  clear hz
  obtain ⟨n, hn⟩ : ∃ n, ns.length = n := ⟨_, rfl⟩
  cases hb : treeB ns
  · rw [hb] at c1
    obtain rfl : (eS, 50) = z := by have := HU.out; rw [hb, if_pos rfl] at this; exact this
    rw [hn] at c1 ⊢
    clear HU
    go_enter Tryd.func6, Tryd.ntmps6
    go_wp2_with (go_at_call 9; (with_reducible refine c1.mono ?_); rintro e u ⟨rfl, g⟩)
    go_ret2
    exact ⟨rfl, g⟩
  rw [hb] at c1
  obtain ⟨bs, hbs, h0⟩ : ∃ bs, begsO ns [] = some bs ∧ 0 < ns.length := by
    unfold treeB at hb
    cases hbe : begsO ns [] with
    | none => rw [hbe] at hb; cases hb
    | some bs => rw [hbe] at hb; exact ⟨bs, rfl, (of_decide_eq_true hb).1⟩
  have W := ws_of hbs
  by_cases h4 : 400 < ns.length
  · obtain rfl : (eS, 51) = z := by have := HU.out; rw [hb, if_neg (by decide), if_pos h4] at this; exact this
    rw [hn] at c1 h4 ⊢
    have q4 : (400 : Int) < (n : Int) := by omega
    clear HU
    go_enter Tryd.func6, Tryd.ntmps6
    go_wp2_with (go_at_call 9; (with_reducible refine c1.mono ?_); rintro e u ⟨rfl, g⟩)
    go_ret2
    exact ⟨rfl, g⟩
  have hq : wrO (nodP ns ns.length (ns.length - 1)) = z := by have := HU.out; rw [hb, if_neg (by decide), if_neg h4] at this; exact this
  have hfit := nod_fits ns bs W ns.length (ns.length - 1) (by omega) (by omega)
  have hsz := sz_le W (ns.length - 1) (by omega)
  have hAll := allS_nod ns bs W hf ns.length (ns.length - 1) (by omega) (by omega)
  have c2 := fun (u : World) (g : Below w.heap.size w u) => expression_any ns bs W (by omega) h0 ao cap u (A.keep g)
  have hlen : (nodP ns ns.length (ns.length - 1)).ts.length ≤ 100000000 := by have := hfit.1; omega
  generalize nodP ns ns.length (ns.length - 1) = p at *
  have c3 := fun (u : World) (g : Below w.heap.size w u) (t : Option Addr) (c : Nat) (T : IsToks u t p.ts) => written_any p hAll hlen t c u T (K.keep g) (Sg.keep g) (P.keep g)
  rw [hq] at c3
  rw [hn] at c1 c2 h4 ⊢
  have q4 : ¬ (400 : Int) < (n : Int) := by omega
  have d4 : decide ((400 : Int) < (n : Int)) = false := decide_eq_false q4
  clear HU hq hfit hsz hAll hlen W hbs h0 hb A hf K Sg P hr
  go_enter Tryd.func6, Tryd.ntmps6
  go_wp2_with (first
    | (go_at_call 9; (with_reducible refine c1.mono ?_); rintro e u1 ⟨rfl, g1⟩)
    | (go_at_call 11; (with_reducible refine (c2 _ g1).mono ?_); rintro e u2 ⟨v2, rfl, P2, g2⟩; obtain ⟨t2, k2, rfl, T2, n2⟩ := pc_toks P2; have G2 := gtrans g1 g2)
    | (go_at_call 10; (with_reducible refine (c3 _ G2 _ _ T2).mono ?_); rintro e u3 ⟨rfl, g3⟩))
  go_ret2
  exact ⟨rfl, gtrans G2 g3⟩

end Go.Proofs.YtpodpahipapbaaaDoor
