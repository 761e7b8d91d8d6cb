/- The results. -/
import Derived.Test.YtmoimmghmmomlaaDoorQf
namespace Go.Proofs.YtmoimmghmmomlaaDoor
open Go.RowKit Go.BigFrame
set_option linter.unusedVariables false
set_option linter.unusedSimpArgs false

theorem infoNN : (Tryd.prog.info? 22).map (fun i => (i.zero, i.size, i.bytes)) = some (some nilV, 1, 24) := by kernel_rfl
theorem infoNS : (Tryd.prog.info? 31).map (fun i => (i.zero, i.size, i.bytes)) = some (some nilV, 1, 24) := by kernel_rfl
abbrev resV (b : Nat) (a : List (List Nd) × List (List Int)) (e : Ending) (w' : World) : Prop := ∃ v v2 l ls, e = .returned (.tuple #[v, v2]) ∧ l.map Prod.fst = a.1 ∧ ls.map Prod.fst = a.2 ∧ NestN w' b v l ∧ NestS w' b v2 ls
theorem treeP_le {ts : List Tok} {ns : List Nd} {sp : List Int} {tl : List Tok} (h : treeP ts = .ok (ns, sp, tl)) : tl.length ≤ ts.length := by
  unfold treeP at h
  have R := (exR_rd ts).len
  split at h
  · cases h
  · rename_i s hs
    simp only [Except.ok.injEq, Prod.mk.injEq] at h
    obtain ⟨_, _, rfl⟩ := h
    rw [hs] at R
    exact R
theorem resL_more (n m : Nat) : ∀ (ts : List Tok) (a : List (List Nd)) (b : List (List Int)), ts.length < n → ts.length < m → resL n ts a b = resL m ts a b := by
  induction n generalizing m with
  | zero => intro ts a b h; omega
  | succ n ih =>
    intro ts a b h1 h2
    cases m with
    | zero => omega
    | succ m =>
      simp only [resL]
      cases h3 : treeP ts with
      | error e => rfl
      | ok r =>
        obtain ⟨x, y, tl⟩ := r
        have := treeP_le h3
        simp only
        split
        · rename_i hk
          obtain ⟨t, r, rfl, _⟩ := kd_cons (by decide) hk
          simp only [List.length_cons, List.tail_cons] at *
          exact ih m r _ _ (by omega) (by omega)
        · rfl
theorem new1v (w : World) (x : Value) (t : TypeId) (j : Nat) (u : Value) (h : [x][j]? = some u) : (w.alloc (.cells #[x] t)).cell? ((⟨w.heap.size, 0, none⟩ : Addr).add j) = some u := by
  rw [Go.WideShapes.add_plain, Nat.zero_add, World.cell?_alloc_new]
  simpa using h
def resShut (r : E (List (List Nd) × List (List Int) × List Tok)) : E ((List (List Nd) × List (List Int)) × List Tok) := match r with | .error e => .error e | .ok (x, y, ts) => .ok ((x, y), ts)
section
variable (w : World) (d g : Nat) (e0 : Int)
set_option maxRecDepth 100000 in
set_option maxHeartbeats 8000000 in
theorem results_any (ts : List Tok) (hts : ts.length ≤ 400) (D : De w d g e0 ts 0) : Calls Tryd.prog 54 #[.pointer (some ⟨d, 0, none⟩)] w (StepP w d g e0 0 (retP ts) (resV w.heap.size)) := by
  have hlt := D.lt
  obtain ⟨i0, hi, hz0, hz1, hz2⟩ := info_of infoNN
  obtain ⟨i5, ti, tz0, tz1, tz2⟩ := info_of infoNS
  obtain ⟨rr, hrr⟩ : ∃ rr, rr = resL (ts.length + 1) ts [] [] := ⟨_, rfl⟩
  have HE : Hid (retP ts = resShut rr) := by
    show _ = _
    rw [hrr]; unfold retP resShut
    cases resL (ts.length + 1) ts [] [] <;> rfl
  have HR : Hid (rr = resL (ts.length + 1) ts [] []) := hrr
  clear hrr
  go_enter Tryd.func54, Tryd.ntmps54
  go_upto_region 4 with fail
  go_loopw [4, 5, 6] (fun x4 x5 x6 wr => ∃ (l : List (List Nd × Value)) (ls : List (List Int × Value)) (tk : List Tok), NestN wr w.heap.size x4 l ∧ NestS wr w.heap.size x5 ls ∧ De wr d g e0 tk 0 ∧ Kd d w.heap.size w wr ∧ Hid (ls.length = l.length) ∧ l.length + tk.length ≤ 401 ∧ (x6 = .bool true ∧ Hid (rr = resL (tk.length + 1) tk (l.map Prod.fst) (ls.map Prod.fst)) ∧ l.length + tk.length ≤ 400 ∨ x6 = .bool false ∧ Hid (rr = .ok (l.map Prod.fst, ls.map Prod.fst, tk)))) (fun _ _ x6 wr => tkLen wr d * 2 + (match x6 with | .bool true => 1 | _ => 0))
  case atStart => exact ⟨[], [], ts, Nest.nil _ _, Nest.nil _ _, D, Kd.refl _ _ _, rfl, by simp; omega, .inl ⟨rfl, HR, by simpa using hts⟩⟩
  case round =>
    clear HR hts D
    obtain ⟨l, ls, tk, N2, S2, D2, K2, HL, h401, hcase⟩ := hrel
    obtain ⟨a4, k4, rfl⟩ := own_shape N2.out
    obtain ⟨a5, k5, rfl⟩ := own_shape S2.out
    have hm0 := D2.tkLen
    rcases hcase with ⟨rfl, HR, h400⟩ | ⟨rfl, HR⟩
    · have c1 := tree_any wr d g e0 tk (by omega) D2
      go_upto_region 6 with fail
      cases h1 : treeP tk with
      | error cx =>
        obtain ⟨c, x⟩ := cx
        rw [h1] at c1
        go_wp2_with (go_at_call 47; (with_reducible refine c1.mono ?_); rintro e u2 ⟨rfl, K6⟩)
        refine ⟨rfl, StepP.bad (c := c) (x := x) ?_ (K2.gt K6)⟩
        rw [HE.out, HR.out]
        simp only [resL, h1, resShut]
      | ok r =>
        obtain ⟨ns, sp, tl⟩ := r
        rw [h1] at c1
        have hl1 := treeP_le h1
        go_upto_region 7 with (go_at_call 47; (with_reducible refine c1.mono ?_); rintro e u ⟨v1, v2, rfl, M1, M2, hq1, hq2, D3, K3⟩; clear hq1 hq2; obtain ⟨ax, cx, rfl⟩ := own_shape M1; obtain ⟨ay, cy, rfl⟩ := own_shape M2)
        have hw2 := K2.size
        have hap1 : ∀ p ∈ l, ∀ g', p.2.ownBlock = some g' → (Value.slice ax ns.length cx).ownBlock ≠ some g' := fun p hp g' e1 e2 => by
          have q1 := ((N2.inn p hp).lt g' e1).2
          have q2 := (M1.lt g' e2).1
          omega
        have hap2 : ∀ p ∈ ls, ∀ g', p.2.ownBlock = some g' → (Value.slice ay sp.length cy).ownBlock ≠ some g' := fun p hp g' e1 e2 => by
          have q1 := ((S2.inn p hp).lt g' e1).2
          have q2 := (M2.lt g' e2).1
          omega
        replace N2 := N2.kd hlt K3
        replace S2 := S2.kd hlt K3
        replace K3 := K2.gt K3
        replace M1 := own_mono M1 hw2
        replace M2 := own_mono M2 hw2
        have hone : ∀ (a : Option Addr) (n c : Nat), ∀ x ∈ [Value.slice a n c], x.oneCell' = true := fun a n c x hx => by simp at hx; subst hx; rfl
        have hls : ls.length ≤ 400 := by rw [HL.out]; omega
        have hd3 := D3.lt
        have hw3 := K3.size
        clear c1 D2 K2
        go_wp2_with (at_builtin; refine wpList_append_own _ rfl (.tmp 17) (.tmp 19) 37 rfl w.heap.size 22 i0 nilV 1 24 Tryd.underlying37 hi hz0 hz1 hz2 rfl (by decide) (.slice a4 l.length k4) l.length _ rfl (N2.out.alloc _) ⟨u.heap.size, 0, none⟩ 1 1 [.slice ax ns.length cx] rfl rfl (new1v _ _ _) (hone _ _ _) (by unfold maxLen; omega) (by omega) ?c5 ?_)
        case c5 => simp; omega
        intro v5 w5 h5 g5 _
        have gX := galloc (Below.refl u.heap.size u) (.cells #[.slice ax ns.length cx] 22)
        have N5 := (N2.keep gX).snoc ns (.slice ax ns.length cx) (own_keep M1 gX) hap1 (by decide) h5 g5
        have S5 := (S2.keep gX).far g5 (fun k e => own_ne N2.out S2.out (by decide) k e) (fun p hp k e => own_ne N2.out (S2.inn p hp) (by decide) k e)
        have M5 := own_far (own_keep M2 gX) g5 (fun k e => own_ne N2.out M2 (by decide) k e)
        have D5 : De w5 d g e0 tl 0 := D3.blocks (fun k hk2 => by
          rw [g5.block k (by simp; omega) (fun e => by have := (N2.out.lt k e.symm).1; omega)]
          exact Below.heap_alloc u _ k (by omega))
        have K5 : Kd d w.heap.size w w5 := K3.trans ⟨g5.os, g5.tape, g5.output, Nat.le_trans (by simp) g5.size, fun k hk1 hk2 => by
          rw [g5.block k (by simp; omega) (fun e => by have := (N2.out.lt k e.symm).1; omega)]
          exact Below.heap_alloc u _ k (by omega)⟩
        obtain ⟨a6, k6, rfl⟩ := own_shape h5
        clear N2 S2 M1 M2 D3 K3 g5 gX h5 hap1
        have hd5 := D5.lt
        have hw5 := K5.size
        go_wp2_with (at_builtin; refine wpList_append_own _ rfl (.tmp 21) (.tmp 23) 40 rfl w.heap.size 31 i5 nilV 1 24 Tryd.underlying40 ti tz0 tz1 tz2 rfl (by decide) (.slice a5 ls.length k5) ls.length _ rfl (S5.out.alloc _) ⟨w5.heap.size, 0, none⟩ 1 1 [.slice ay sp.length cy] rfl rfl (new1v _ _ _) (hone _ _ _) (by unfold maxLen; omega) (by omega) ?c6 ?_)
        case c6 => simp; omega
        intro v7 w7 h7 g7 _
        have gX := galloc (Below.refl w5.heap.size w5) (.cells #[.slice ay sp.length cy] 31)
        have S7 := (S5.keep gX).snoc sp (.slice ay sp.length cy) (own_keep M5 gX) hap2 (by decide) h7 g7
        have N7 := (N5.keep gX).far g7 (fun k e => own_ne S5.out N5.out (by decide) k e) (fun p hp k e => own_ne S5.out (N5.inn p hp) (by decide) k e)
        have D7 : De w7 d g e0 tl 0 := D5.blocks (fun k hk2 => by
          rw [g7.block k (by simp; omega) (fun e => by have := (S5.out.lt k e.symm).1; omega)]
          exact Below.heap_alloc w5 _ k (by omega))
        have K7 : Kd d w.heap.size w w7 := K5.trans ⟨g7.os, g7.tape, g7.output, Nat.le_trans (by simp) g7.size, fun k hk1 hk2 => by
          rw [g7.block k (by simp; omega) (fun e => by have := (S5.out.lt k e.symm).1; omega)]
          exact Below.heap_alloc w5 _ k (by omega)⟩
        obtain ⟨a8, k8, rfl⟩ := own_shape h7
        clear N5 S5 M5 D5 K5 g7 gX h7 hap2
        have hd7 := D7.lt
        have HL7 : Hid ((ls ++ [(sp, Value.slice ay sp.length cy)]).length = (l ++ [(ns, Value.slice ax ns.length cx)]).length) := by show _ = _; simp [HL.out]
        by_cases hk : kd tl = 7
        · obtain ⟨t0, t1, rfl, hk0⟩ := kd_cons (by decide) hk
          have c2 := has_yes w7 d g e0 0 7 t0 t1 hk0 D7
          have HN : Hid (rr = resL (t1.length + 1) t1 ((l ++ [(ns, Value.slice ax ns.length cx)]).map Prod.fst) ((ls ++ [(sp, Value.slice ay sp.length cy)]).map Prod.fst)) := by
            show _ = _
            rw [HR.out]
            simp only [resL, h1]
            rw [if_pos hk, List.map_append, List.map_append]
            simp only [List.length_cons] at hl1
            exact resL_more tk.length (t1.length + 1) t1 _ _ (by omega) (by omega)
          simp only [List.length_cons] at hl1
          clear HR h1 hk hk0
          go_wp2_with (go_at_call 51; (with_reducible refine c2.mono ?_); rintro e u8 ⟨rfl, D8, K8⟩)
          go_roundw
          case rel => exact ⟨_, _, t1, N7.kd hlt K8, S7.kd hlt K8, D8, K7.gt K8, HL7, by simp; omega, .inl ⟨rfl, HN, by simp; omega⟩⟩
          case measure => rw [D8.tkLen, hm0]; simp only; omega
        · have c2 := has_no w7 d g e0 0 7 tl hk D7
          have HN : Hid (rr = .ok ((l ++ [(ns, Value.slice ax ns.length cx)]).map Prod.fst, (ls ++ [(sp, Value.slice ay sp.length cy)]).map Prod.fst, tl)) := by
            show _ = _
            rw [HR.out]
            simp only [resL, h1]
            rw [if_neg hk, List.map_append, List.map_append]
            rfl
          clear HR h1 hk
          go_wp2_with (go_at_call 51; (with_reducible refine c2.mono ?_); rintro e u8 ⟨rfl, rfl⟩)
          go_roundw
          case rel => exact ⟨_, _, tl, N7, S7, D7, K7, HL7, by simp; omega, .inr ⟨rfl, HN⟩⟩
          case measure => rw [D7.tkLen, hm0]; simp only; omega
    · go_wp2
      go_ret2
      exact StepP.good (a := (l.map Prod.fst, ls.map Prod.fst)) (tl := tk) (by rw [HE.out, HR.out]; rfl) ⟨_, _, l, ls, rfl, rfl, rfl, N2, S2⟩ D2 K2
end

end Go.Proofs.YtmoimmghmmomlaaDoor
