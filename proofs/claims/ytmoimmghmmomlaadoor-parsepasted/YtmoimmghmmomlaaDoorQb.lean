/- Expr. -/
import Derived.Test.YtmoimmghmmomlaaDoorQa
namespace Go.Proofs.YtmoimmghmmomlaaDoor
open Go.RowKit Go.BigFrame
set_option linter.unusedVariables false
set_option linter.unusedSimpArgs false

theorem results_four {P : Program} {fn : Func} {p q r s : Tmp} (h : fn.results = #[.tmp p, .tmp q, .tmp r, .tmp s]) (tmps : Array Value) (w : World) (a b c d : Value) (h1 : tmps.getD p undef = a) (h2 : tmps.getD q undef = b) (h3 : tmps.getD r undef = c) (h4 : tmps.getD s undef = d) :
    (results fn tmps).run P w = .ok (.tuple #[a, b, c, d]) w := by
  subst h1; subst h2; subst h3; subst h4
  simp [results, h]
def WholeP (w : World) (d : Nat) (e0 : Int) (r : E (List Nd × List Int)) (e : Ending) (w' : World) : Prop :=
  match r with
  | .ok (ns, sp) => ∃ v1 v2, e = .returned (.tuple #[v1, v2]) ∧ w'.ownsRow w.heap.size 58 6 v1 ns.length (ndsV ns) ∧ w'.ownsRow w.heap.size 3 1 v2 sp.length (intsV sp) ∧ Kd d w.heap.size w w'
  | .error (c, x) => e = .panicked (rfC c (plc e0 x)) ∧ Kd d w.heap.size w w'
section
variable (w : World) (d g : Nat) (e0 : Int)
set_option maxRecDepth 100000 in
set_option maxHeartbeats 4000000 in
theorem whole_any (ts : List Tok) (hts : ts.length ≤ 400) (D : De w d g e0 ts 0) : Calls Tryd.prog 27 #[.pointer (some ⟨d, 0, none⟩)] w (WholeP w d e0 (wholeP ts)) := by
  have c1 := tree_any w d g e0 ts hts D
  cases hr : treeP ts with
  | error cx =>
    obtain ⟨c, x⟩ := cx
    rw [hr] at c1
    have e9 : wholeP ts = .error (c, x) := by unfold wholeP; rw [hr]; rfl
    rw [e9]
    clear e9 hr
    go_enter Tryd.func27, Tryd.ntmps27
    go_wp2_with (go_at_call 47; (with_reducible refine c1.mono ?_); rintro e u3 ⟨rfl, K3⟩)
    exact ⟨rfl, rfl, K3⟩
  | ok r =>
    obtain ⟨ns, sp, tl⟩ := r
    rw [hr] at c1
    cases tl with
    | nil =>
      have e9 : wholeP ts = .ok (ns, sp) := by unfold wholeP; rw [hr]; rfl
      rw [e9]
      clear e9 hr
      go_enter Tryd.func27, Tryd.ntmps27
      go_wp2_with (first
        | (go_at_call 47; (with_reducible refine c1.mono ?_); rintro e u3 ⟨v1, v2, rfl, n1, n2, hq1, hq, D3, K3⟩; clear hq hq1; obtain ⟨a1, k1, rfl⟩ := own_shape n1; obtain ⟨a2, k2, rfl⟩ := own_shape n2; have c2 := needEnd_ok u3 d g e0 0 D3)
        | (go_at_call 48; (with_reducible refine c2.mono ?_); rintro e u4 ⟨rfl, rfl⟩))
      go_ret2
      exact ⟨_, _, rfl, n1, n2, K3⟩
    | cons tk tl =>
      have e9 : wholeP ts = .error (40, tk :: tl) := by unfold wholeP; rw [hr]; rfl
      rw [e9]
      clear e9 hr
      go_enter Tryd.func27, Tryd.ntmps27
      go_wp2_with (first
        | (go_at_call 47; (with_reducible refine c1.mono ?_); rintro e u3 ⟨v1, v2, rfl, n1, n2, hq1, hq, D3, K3⟩; clear hq hq1; obtain ⟨a1, k1, rfl⟩ := own_shape n1; obtain ⟨a2, k2, rfl⟩ := own_shape n2; have c2 := needEnd_bad u3 d g e0 0 tk tl D3)
        | (go_at_call 48; (with_reducible refine c2.mono ?_); rintro e u4 ⟨rfl, rfl⟩))
      exact ⟨rfl, rfl, K3⟩
end
/-- The outcome of Expr: nodes, places, code, place. -/
def exO (s : ByteArray) : List Nd × List Int × Int × Int :=
  if (lexO s).2.1 ≠ 0 then ([], [], (lexO s).2.1, (lexO s).2.2) else
  match wholeP (lexO s).1 with
  | .ok (ns, sp) => (ns, sp, 0, 0)
  | .error (c, x) => ([], [], c, plc s.size x)
def GX (bn bs B : Nat) (ns : List Nd) (sp : List Int) (u : World) : Prop := ∃ v1 v2, One u bn v1 22 ∧ One u bs v2 31 ∧ u.ownsRow B 58 6 v1 ns.length (ndsV ns) ∧ u.ownsRow B 3 1 v2 sp.length (intsV sp)
set_option maxRecDepth 100000 in
set_option maxHeartbeats 4000000 in
theorem exprRead_any (bn bs : Nat) (hne : bn ≠ bs) (s : ByteArray) (ts : List Tok) (hts : ts.length ≤ 400) (B d g : Nat) (u : World) (D : De u d g s.size ts 0) (hB : B ≤ d) (h1 : bn < d) (h2 : bs < d) (v1 v2 : Value) (O1 : One u bn v1 22) (O2 : One u bs v2 31) :
    Calls Tryd.prog 26 #[.pointer (some ⟨d, 0, none⟩), .pointer (some ⟨bn, 0, none⟩), .pointer (some ⟨bs, 0, none⟩)] u
      (ReadP [bn, bs] d (match wholeP ts with | .ok (ns, sp) => GX bn bs B ns sp | .error _ => fun _ => True) (match wholeP ts with | .ok _ => .ok () | .error (c, x) => .error (c, plc s.size x)) u) := by
  have c1 := whole_any u d g s.size ts hts D
  have hlt := D.lt
  cases hr : wholeP ts with
  | error cx =>
    obtain ⟨c, x⟩ := cx
    rw [hr] at c1
    dsimp only
    clear hr
    go_enter Tryd.func26, Tryd.ntmps26
    go_wp2_with (go_at_call 27; (with_reducible refine c1.mono ?_); rintro e u3 ⟨rfl, K3⟩)
    exact ⟨rfl, rfl, Fr.of (K3.below (by omega))⟩
  | ok r =>
    obtain ⟨ns, sp⟩ := r
    rw [hr] at c1
    dsimp only
    clear hr
    go_enter Tryd.func26, Tryd.ntmps26
    go_wp2_with (go_at_call 27; (with_reducible refine c1.mono ?_); rintro e u3 ⟨x1, x2, rfl, n1, n2, K3⟩; obtain ⟨a1, k1, rfl⟩ := own_shape n1; obtain ⟨a2, k2, rfl⟩ := own_shape n2; have P1 : One u3 bn v1 22 := (K3.blk _ (by omega) (by omega)).trans O1; have P2 : One u3 bs v2 31 := (K3.blk _ (by omega) (by omega)).trans O2; have y1 := P1.at0; have y2 := P2.at0; have z1 := P1.free; have z2 := P2.free)
    go_end0
    have F9 : Fr [bn, bs] d u ((u3.setCell ⟨bn, 0, none⟩ (.slice a1 ns.length k1)).setCell ⟨bs, 0, none⟩ (.slice a2 sp.length k2)) := by
      have hb := K3.below (by omega : d ≤ u.heap.size)
      have hb2 : Below 0 u ((u3.setCell ⟨bn, 0, none⟩ (.slice a1 ns.length k1)).setCell ⟨bs, 0, none⟩ (.slice a2 sp.length k2)) := ((hb.mono (Nat.zero_le _)).setCell (Nat.zero_le _) _).setCell (Nat.zero_le _) _
      refine ⟨hb2.os, hb2.tape, hb2.output, hb2.size, fun k hk hv => ?_⟩
      simp only [List.mem_cons, List.not_mem_nil, or_false, not_or] at hv
      rw [Below.heap_setCell _ _ _ k hv.2, Below.heap_setCell _ _ _ k hv.1]
      exact hb.block k hk
    refine ⟨rfl, ⟨.slice a1 ns.length k1, .slice a2 sp.length k2, ?_, (show One _ bs _ _ from One.set ((Below.heap_setCell u3 ⟨bn, 0, none⟩ _ bs (fun e => hne e.symm)).trans P2) _), ?_, ?_⟩, F9⟩
    · exact (Below.heap_setCell _ _ _ bn hne).trans (P1.set _)
    · refine own_mono (own_of_block n1 (fun g' cur hg' hh => ?_)) (by omega : B ≤ u.heap.size)
      rw [Below.heap_setCell _ _ _ g' (fun e => by have e' : g' = bs := e; omega), Below.heap_setCell _ _ _ g' (fun e => by have e' : g' = bn := e; omega)]
    · refine own_mono (own_of_block n2 (fun g' cur hg' hh => ?_)) (by omega : B ≤ u.heap.size)
      rw [Below.heap_setCell _ _ _ g' (fun e => by have e' : g' = bs := e; omega), Below.heap_setCell _ _ _ g' (fun e => by have e' : g' = bn := e; omega)]
theorem enExpr1 : ∀ (args : Array Value) (v : World), (callFunc 26 args).run Tryd.prog v = .ok (.enter 26 args) v := enters_of Tryd.func26 (by kernel_rfl) rfl
set_option maxRecDepth 100000 in
set_option maxHeartbeats 4000000 in
theorem expr_call (s : ByteArray) (hs : s.size ≤ 140737488351232) (w : World) (K : KwAt w) (Sg : SgAt w) (E : ErAt w) :
    Calls Tryd.prog 13 #[.string s] w fun e w' => ∃ v1 v2, e = .returned (.tuple #[v1, v2, .int .i64 (exO s).2.2.1, .int .i64 (exO s).2.2.2]) ∧ w'.ownsRow w.heap.size 58 6 v1 (exO s).1.length (ndsV (exO s).1) ∧ w'.ownsRow w.heap.size 3 1 v2 (exO s).2.1.length (intsV (exO s).2.1) ∧ Below w.heap.size w w' := by
  have B := galloc (galloc (Below.refl w.heap.size w) (.cells #[.slice none 0 0] 22)) (.cells #[.slice none 0 0] 31)
  have O1 := (One.new w (.slice none 0 0) 22).alloc (.cells #[.slice none 0 0] 31)
  have O2 := One.new (w.alloc (.cells #[.slice none 0 0] 22)) (.slice none 0 0) 31
  have hz : (w.alloc (.cells #[.slice none 0 0] 22)).heap.size = w.heap.size + 1 := by simp
  rw [hz] at O2
  clear hz
  have hmf : ∀ (fn : Fn) (first cap : Array Value) (w : World), (Instr.makeFunc fn first cap).run Tryd.prog w = .ok (.func fn first cap) w := fun _ _ _ _ => rfl
  have hl4 := lexO_len s
  obtain ⟨z, hz⟩ : ∃ z, z = exO s := ⟨_, rfl⟩
  rw [← hz]
  have HZ : Hid (z = exO s) := hz
  clear hz
  go_enter Tryd.func13, Tryd.ntmps13
  go_upto_region 3 with fail
  generalize (w.alloc (.cells #[.slice none 0 0] 22)).alloc (.cells #[.slice none 0 0] 31) = V at *
  have l1 := O1.lt
  have l2 := O2.lt
  have hVw : ∀ k ∈ [w.heap.size, w.heap.size + 1], k < V.heap.size := fun k hk => by simp at hk; omega
  obtain ⟨⟨ts, c, pl⟩, hL⟩ : ∃ x, lexO s = x := ⟨_, rfl⟩
  rw [hL] at hl4
  by_cases h0 : c = 0
  · subst h0
    have c1 := attempt_any _ enExpr1 #[.pointer (some ⟨w.heap.size, 0, none⟩), .pointer (some ⟨w.heap.size + 1, 0, none⟩)] [w.heap.size, w.heap.size + 1] (match wholeP ts with | .ok (ns, sp) => GX w.heap.size (w.heap.size + 1) (V.heap.size + 2) ns sp | .error _ => fun _ => True) (match wholeP ts with | .ok _ => .ok () | .error (c, x) => .error (c, plc s.size x)) s hs V (K.keep B) (Sg.keep B) (E.keep B) ts pl hL hVw (fun u v h hk => by
      cases hw : wholeP ts with
      | error _ => trivial
      | ok r =>
        obtain ⟨ns, sp⟩ := r
        rw [hw] at h
        obtain ⟨v1, v2, p1, p2, p3, p4⟩ := h
        exact ⟨v1, v2, (hk _ (by omega) (by omega)).trans p1, (hk _ (by omega) (by omega)).trans p2, own_of_block p3 (fun g' cur hg' hh => hk g' (by omega) (by omega)), own_of_block p4 (fun g' cur hg' hh => hk g' (by omega) (by omega))⟩)
      (fun u d g D hd hB => exprRead_any w.heap.size (w.heap.size + 1) (by omega) s ts hl4 (V.heap.size + 2) d g u D hd (by omega) (by omega) _ _ (O1.keep hB) (O2.keep hB))
    cases hw : wholeP ts with
    | error cx =>
      obtain ⟨c, x⟩ := cx
      rw [hw] at c1
      have e9 : z = ([], [], c, plc s.size x) := by rw [HZ.out]; unfold exO; rw [hL]; simp only [hw]; simp
      subst e9
      replace c1 : Calls Tryd.prog 25 #[.string s, .func (.func 26) #[] #[.pointer (some ⟨w.heap.size, 0, none⟩), .pointer (some ⟨w.heap.size + 1, 0, none⟩)]] V fun e w' => e = .returned (.tuple #[.int .i64 c, .int .i64 (plc s.size x)]) ∧ Fr [] V.heap.size V w' := c1
      clear HZ hw hL
      go_upto_region 4 with (go_at_call 25; (with_reducible refine c1.mono ?_); rintro e u ⟨rfl, F1⟩)
      have P1 : One u w.heap.size (.slice none 0 0) 22 := (F1.blk _ l1 (by simp)).trans O1
      have P2 : One u (w.heap.size + 1) (.slice none 0 0) 31 := (F1.blk _ l2 (by simp)).trans O2
      have y1 := P1.at0
      have y2 := P2.at0
      have BB : Below w.heap.size w u := ⟨F1.os.trans B.os, F1.tape.trans B.tape, F1.output.trans B.output, Nat.le_trans B.size F1.size, fun k hk => (F1.blk k (by omega) (by simp)).trans (B.block k hk)⟩
      clear c1
      go_region
      all_goals
        go_wp2
        refine bodyPost_ret (results_four rfl _ _ _ _ _ _ rfl rfl rfl rfl) rfl ?_
        exact ⟨_, _, rfl, World.ownsRow_nil _ _ _ _, World.ownsRow_nil _ _ _ _, BB.drew⟩
    | ok r =>
      obtain ⟨ns, sp⟩ := r
      rw [hw] at c1
      have e9 : z = (ns, sp, 0, 0) := by rw [HZ.out]; unfold exO; rw [hL]; simp only [hw]; simp
      subst e9
      replace c1 : Calls Tryd.prog 25 #[.string s, .func (.func 26) #[] #[.pointer (some ⟨w.heap.size, 0, none⟩), .pointer (some ⟨w.heap.size + 1, 0, none⟩)]] V fun e w' => e = .returned (.tuple #[.int .i64 0, .int .i64 0]) ∧ GX w.heap.size (w.heap.size + 1) (V.heap.size + 2) ns sp w' ∧ Fr [w.heap.size, w.heap.size + 1] V.heap.size V w' := c1
      clear HZ hw hL
      go_upto_region 4 with (go_at_call 25; (with_reducible refine c1.mono ?_); rintro e u ⟨rfl, ⟨v1, v2, P1, P2, n1, n2⟩, F1⟩; obtain ⟨a1, k1, rfl⟩ := own_shape n1; obtain ⟨a2, k2, rfl⟩ := own_shape n2)
      have y1 := P1.at0
      have y2 := P2.at0
      have BB : Below w.heap.size w u := ⟨F1.os.trans B.os, F1.tape.trans B.tape, F1.output.trans B.output, Nat.le_trans B.size F1.size, fun k hk => (F1.blk k (by omega) (by simp; omega)).trans (B.block k hk)⟩
      clear c1
      go_region
      all_goals
        go_wp2
        refine bodyPost_ret (results_four rfl _ _ _ _ _ _ rfl rfl rfl rfl) rfl ?_
        exact ⟨_, _, rfl, (own_mono n1 (by omega)).drew, (own_mono n2 (by omega)).drew, BB.drew⟩
  · have e9 : z = ([], [], c, (pl : Int)) := by rw [HZ.out]; unfold exO; rw [hL]; simp [h0]
    have c1 := attempt_lex (.func (.func 26) #[] #[.pointer (some ⟨w.heap.size, 0, none⟩), .pointer (some ⟨w.heap.size + 1, 0, none⟩)]) [] (fun _ => True) s hs V (K.keep B) (Sg.keep B) (E.keep B) ts c pl hL h0
    replace c1 : Calls Tryd.prog 25 #[.string s, .func (.func 26) #[] #[.pointer (some ⟨w.heap.size, 0, none⟩), .pointer (some ⟨w.heap.size + 1, 0, none⟩)]] V fun e w' => e = .returned (.tuple #[.int .i64 c, .int .i64 pl]) ∧ Fr [] V.heap.size V w' := c1
    subst e9
    clear HZ hL h0
    go_upto_region 4 with (go_at_call 25; (with_reducible refine c1.mono ?_); rintro e u ⟨rfl, F1⟩)
    have P1 : One u w.heap.size (.slice none 0 0) 22 := (F1.blk _ l1 (by simp)).trans O1
    have P2 : One u (w.heap.size + 1) (.slice none 0 0) 31 := (F1.blk _ l2 (by simp)).trans O2
    have y1 := P1.at0
    have y2 := P2.at0
    have BB : Below w.heap.size w u := ⟨F1.os.trans B.os, F1.tape.trans B.tape, F1.output.trans B.output, Nat.le_trans B.size F1.size, fun k hk => (F1.blk k (by omega) (by simp)).trans (B.block k hk)⟩
    clear c1
    go_region
    all_goals
      go_wp2
      refine bodyPost_ret (results_four rfl _ _ _ _ _ _ rfl rfl rfl rfl) rfl ?_
      exact ⟨_, _, rfl, World.ownsRow_nil _ _ _ _, World.ownsRow_nil _ _ _ _, BB.drew⟩

end Go.Proofs.YtmoimmghmmomlaaDoor
