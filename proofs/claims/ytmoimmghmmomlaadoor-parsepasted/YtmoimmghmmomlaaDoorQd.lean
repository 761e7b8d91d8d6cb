/- Bounds, types, an item. -/
import Derived.Test.YtmoimmghmmomlaaDoorQc
import Derived.Laws.OwnMore
namespace Go.Proofs.YtmoimmghmmomlaaDoor
open Go.RowKit Go.BigFrame
set_option linter.unusedVariables false
set_option linter.unusedSimpArgs false

theorem De.blocks {w u : World} {d g : Nat} {e : Int} {ts : List Tok} {o : Nat} (h : De w d g e ts o) (G : ∀ k, k ≤ d → u.heap[k]? = w.heap[k]?) : De u d g e ts o := by
  have h0 := h.lo
  obtain ⟨ao, c, hb, hc, ht⟩ := h.ex
  exact ⟨h0, ao, c, (G d (Nat.le_refl _)).trans hb, hc, fun hne => by obtain ⟨off, e1, e2⟩ := ht hne; exact ⟨off, e1, e2.same (G g (by omega))⟩⟩
def strV (l : List ByteArray) : List Value := l.map Value.string
theorem infoSt : (Tryd.prog.info? 9).map (fun i => (i.zero, i.size, i.bytes)) = some (some (.string ⟨#[]⟩), 1, 16) := by kernel_rfl
abbrev bndV (a : Int × Int) (e : Ending) (_ : World) : Prop := e = .returned (.tuple #[.int .i64 a.1, .int .i64 a.2])
/-- boundsP, its tokens last. -/
def bndP (ts : List Tok) : E ((Int × Int) × List Tok) := match boundsP ts with | .ok (a, b, tl) => .ok ((a, b), tl) | .error e => .error e
section
variable (w : World) (d g : Nat) (e0 : Int) (o : Nat)
set_option maxRecDepth 100000 in
set_option maxHeartbeats 4000000 in
theorem bounds_any (ts : List Tok) (D : De w d g e0 ts o) : Calls Tryd.prog 87 #[.pointer (some ⟨d, 0, none⟩)] w (StepP w d g e0 o (bndP ts) bndV) := by
  have hlt := D.lt
  go_enter Tryd.func87, Tryd.ntmps87
  go_upto_region 1 with fail
  rcases wantEC 2 (by decide) ts with ⟨h1, hb⟩ | ⟨a, t1, rfl, ha, h1⟩
  · have c1 := need_bad w d g e0 o 2 ts hb D
    go_wp2_with (go_at_call 49; (with_reducible refine c1.mono ?_); rintro e u ⟨rfl, K2⟩)
    exact ⟨rfl, StepP.bad (by simp only [bndP, boundsP, h1]) K2⟩
  have c1 := need_ok w d g e0 o 2 a t1 ha D
  simp only [tokA] at c1
  clear ha
  go_upto_region 2 with (go_at_call 49; (with_reducible refine c1.mono ?_); rintro e u ⟨rfl, D2, K2⟩)
  have B2 := galloc (Below.refl u.heap.size u) (.cells (tokA a) 79)
  have R2 := TokAt.new u a
  have hdu := D2.lt
  replace D2 := D2.keep B2
  replace K2 := K2.gb B2
  generalize hV : u.alloc (.cells (tokA a) 79) = V at B2 R2 D2 K2
  rw [show u.alloc (.cells #[.int .i64 a.k, .string a.t, .int .i64 a.n, .int .i64 a.a] 79) = V from hV]
  generalize u.heap.size = b1 at *
  clear hV c1 B2
  rcases wantEC 7 (by decide) t1 with ⟨h2, hb⟩ | ⟨m, t2, rfl, hm, h2⟩
  · have c1 := need_bad V d g e0 o 7 t1 hb D2
    go_wp2_with (go_at_call 49; (with_reducible refine c1.mono ?_); rintro e u ⟨rfl, K3⟩)
    exact ⟨rfl, StepP.bad (by simp only [bndP, boundsP, h1, h2]) (K2.gt K3)⟩
  have c1 := need_ok V d g e0 o 7 m t2 hm D2
  go_upto_region 3 with (go_at_call 49; (with_reducible refine c1.mono ?_); rintro e u3 ⟨rfl, D3, K3⟩)
  replace R2 : TokAt u3 b1 a := (K3.blk _ R2.lt (by omega)).trans R2
  replace K2 := K2.gt K3
  clear c1 hm K3 D2
  rcases wantEC 2 (by decide) t2 with ⟨h3, hb⟩ | ⟨b, t3, rfl, hbk, h3⟩
  · have c1 := need_bad u3 d g e0 o 2 t2 hb D3
    go_wp2_with (go_at_call 49; (with_reducible refine c1.mono ?_); rintro e u ⟨rfl, K3⟩)
    exact ⟨rfl, StepP.bad (by simp only [bndP, boundsP, h1, h2, h3]) (K2.gt K3)⟩
  have c1 := need_ok u3 d g e0 o 2 b t3 hbk D3
  simp only [tokA] at c1
  clear hbk
  go_upto_region 4 with (go_at_call 49; (with_reducible refine c1.mono ?_); rintro e u4 ⟨rfl, D4, K4⟩)
  have B4 := galloc (Below.refl u4.heap.size u4) (.cells (tokA b) 79)
  have R4 := TokAt.new u4 b
  have hdu4 := D4.lt
  replace R2 : TokAt u4 b1 a := (K4.blk _ R2.lt (by omega)).trans R2
  replace R2 := R2.keep B4
  replace D4 := D4.keep B4
  replace K2 := (K2.gt K4).gb B4
  generalize hV : u4.alloc (.cells (tokA b) 79) = V4 at *
  rw [show u4.alloc (.cells #[.int .i64 b.k, .string b.t, .int .i64 b.n, .int .i64 b.a] 79) = V4 from hV]
  generalize u4.heap.size = b2 at *
  clear hV c1 B4 K4 D3
  rcases wantEC 6 (by decide) t3 with ⟨h4, hb⟩ | ⟨m2, t4, rfl, hm2, h4⟩
  · have c1 := need_bad V4 d g e0 o 6 t3 hb D4
    go_wp2_with (go_at_call 49; (with_reducible refine c1.mono ?_); rintro e u ⟨rfl, K3⟩)
    exact ⟨rfl, StepP.bad (by simp only [bndP, boundsP, h1, h2, h3, h4]) (K2.gt K3)⟩
  have c1 := need_ok V4 d g e0 o 6 m2 t4 hm2 D4
  go_upto_region 5 with (go_at_call 49; (with_reducible refine c1.mono ?_); rintro e u5 ⟨rfl, D5, K5⟩)
  replace R2 : TokAt u5 b1 a := (K5.blk _ R2.lt (by omega)).trans R2
  replace R4 : TokAt u5 b2 b := (K5.blk _ R4.lt (by omega)).trans R4
  replace K2 := K2.gt K5
  obtain ⟨_, _, x2, _⟩ := R2.at
  obtain ⟨_, _, y2, _⟩ := R4.at
  clear c1 hm2 K5 D4
  go_region
  all_goals
    go_wp2
    go_ret2
    exact StepP.good (a := (a.n, b.n)) (by simp only [bndP, boundsP, h1, h2, h3, h4]) rfl (D5.keep (Below.refl _ _).drew) (K2.gb (Below.refl _ _).drew)
end
def tyShut (r : E (List ByteArray × List Tok)) : E (List ByteArray × List Tok) := match r with | .error e => .error e | .ok (l, tl) => match wantE 4 tl with | .error e => .error e | .ok (_, tl) => .ok (l, tl)
abbrev typV (b : Nat) (l : List ByteArray) (e : Ending) (w' : World) : Prop := ∃ v, e = .returned v ∧ w'.ownsRow b 9 1 v l.length (strV l)
theorem tyL_le : ∀ (n : Nat) (ts : List Tok) (acc : List ByteArray) (l : List ByteArray) (tl : List Tok), tyL n ts acc = .ok (l, tl) → tl.length ≤ ts.length ∧ l.length + tl.length ≤ acc.length + ts.length := by
  intro n
  induction n with
  | zero => intro ts acc l tl h; simp only [tyL, Except.ok.injEq, Prod.mk.injEq] at h; obtain ⟨rfl, rfl⟩ := h; exact ⟨Nat.le_refl _, Nat.le_refl _⟩
  | succ n ih =>
    intro ts acc l tl h
    simp only [tyL] at h
    split at h
    · rename_i hk
      obtain ⟨t, r, rfl, _⟩ := kd_cons (by decide) hk
      rcases wantEC 1 (by decide) r with ⟨h1, _⟩ | ⟨v, r2, rfl, _, h1⟩
      · simp only [List.tail_cons, h1] at h; cases h
      · simp only [List.tail_cons, h1] at h
        have := ih _ _ _ _ h
        simp only [List.length_cons, List.length_append, List.length_nil] at *
        omega
    · simp only [Except.ok.injEq, Prod.mk.injEq] at h; obtain ⟨rfl, rfl⟩ := h; exact ⟨Nat.le_refl _, Nat.le_refl _⟩
theorem tyL_more (n m : Nat) : ∀ (ts : List Tok) (acc : List ByteArray), ts.length ≤ n → ts.length ≤ m → tyL n ts acc = tyL m ts acc := by
  induction n generalizing m with
  | zero =>
    intro ts acc h1 h2
    have : ts = [] := List.length_eq_zero_iff.1 (by omega)
    subst this
    cases m with
    | zero => rfl
    | succ m => simp [tyL, kd]
  | succ n ih =>
    intro ts acc h1 h2
    cases m with
    | zero =>
      have : ts = [] := List.length_eq_zero_iff.1 (by omega)
      subst this
      simp [tyL, kd]
    | succ m =>
      simp only [tyL]
      split
      · rename_i hk
        obtain ⟨t, r, rfl, _⟩ := kd_cons (by decide) hk
        rcases wantEC 1 (by decide) r with ⟨h3, _⟩ | ⟨v, r2, rfl, _, h3⟩
        · simp only [List.tail_cons, h3]
        · simp only [List.tail_cons, h3]
          simp only [List.length_cons] at h1 h2
          exact ih m r2 _ (by omega) (by omega)
      · rfl
theorem new1s (w : World) (x : ByteArray) (j : Nat) (u : Value) (h : [Value.string x][j]? = some u) : (w.alloc (.cells #[.string x] 9)).cell? ((⟨w.heap.size, 0, none⟩ : Addr).add j) = some u := by
  rw [Go.WideShapes.add_plain, Nat.zero_add, World.cell?_alloc_new]
  simpa using h
section
variable (w : World) (d g : Nat) (e0 : Int) (o : Nat)
set_option maxRecDepth 100000 in
set_option maxHeartbeats 4000000 in
theorem types_any (ts : List Tok) (hts : ts.length ≤ 400) (D : De w d g e0 ts o) : Calls Tryd.prog 85 #[.pointer (some ⟨d, 0, none⟩)] w (StepP w d g e0 o (typesP ts) (typV w.heap.size)) := by
  have hlt := D.lt
  obtain ⟨i0, hi, hz0, hz1, hz2⟩ := info_of infoSt
  by_cases h3 : kd ts = 3
  · obtain ⟨t0, t1, rfl, hk0⟩ := kd_cons (by decide) h3
    have c0 := has_yes w d g e0 o 3 t0 t1 hk0 D
    simp only [List.length_cons] at hts
    go_enter Tryd.func85, Tryd.ntmps85
    go_upto_region 3 with (go_at_call 51; (with_reducible refine c0.mono ?_); rintro e u ⟨rfl, D1, K1⟩)
    clear c0
    rcases wantEC 1 (by decide) t1 with ⟨h1, hb⟩ | ⟨a, t2, rfl, ha, h1⟩
    · have c1 := name_bad u d g e0 o t1 hb D1
      go_wp2_with (go_at_call 86; (with_reducible refine c1.mono ?_); rintro e u2 ⟨rfl, K2⟩)
      exact ⟨rfl, StepP.bad (by unfold typesP; rw [if_pos h3]; simp only [List.tail_cons, h1]) (K1.gt K2)⟩
    have c1 := name_ok u d g e0 o a t2 ha D1
    go_upto_region 4 with (go_at_call 86; (with_reducible refine c1.mono ?_); rintro e u2 ⟨rfl, D2, K2⟩)
    have B2 := galloc (Below.refl u2.heap.size u2) (.cells #[.string a.t] 9)
    have hwu : w.heap.size ≤ u2.heap.size := (K1.gt K2).size
    have N2 := World.ownsRow_lit (base := w.heap.size) (e := 9) (size := 1) u2 #[.string a.t] 1 hwu (by decide) rfl
    replace D2 := D2.keep B2
    have K3 := (K1.gt K2).gb B2
    generalize u2.alloc (.cells #[.string a.t] 9) = V at *
    obtain ⟨rr, hrr⟩ : ∃ rr, rr = tyL t2.length t2 [a.t] := ⟨_, rfl⟩
    have HR : Hid (rr = tyL t2.length t2 [a.t]) := hrr
    have e9 : typesP (t0 :: a :: t2) = tyShut rr := by rw [hrr]; unfold typesP tyShut; rw [if_pos h3]; simp only [List.tail_cons, h1]; rfl
    have HE : Hid (typesP (t0 :: a :: t2) = tyShut rr) := e9
    simp only [List.length_cons] at hts
    clear hrr e9 c1 ha hk0 h3 h1 K1 K2 B2 D D1
    go_loopw [3] (fun x wr => ∃ (acc : List ByteArray) (tk : List Tok), wr.ownsRow w.heap.size 9 1 x acc.length (strV acc) ∧ De wr d g e0 tk o ∧ Kd d w.heap.size w wr ∧ Hid (rr = tyL tk.length tk acc) ∧ acc.length + tk.length ≤ 400) (fun _ wr => tkLen wr d)
    case atStart => exact ⟨[a.t], t2, N2, D2, K3, HR, by simp; omega⟩
    case round =>
      clear N2 D2 K3 HR hts hwu
      obtain ⟨acc, tk, N2, D2, K2, HR, hts⟩ := hrel
      obtain ⟨ax, cx, rfl⟩ := own_shape N2
      have hm0 := D2.tkLen
      by_cases hk : kd tk = 10
      · obtain ⟨b0, b1, rfl, hbk⟩ := kd_cons (by decide) hk
        have c0 := has_yes wr d g e0 o 10 b0 b1 hbk D2
        go_upto_region 5 with (go_at_call 51; (with_reducible refine c0.mono ?_); rintro e u ⟨rfl, D3, K3⟩)
        replace N2 := own_of_block N2 (u := u) (fun g' cur hg' hh => K3.blk g' (lt_of_block hh) (by omega))
        replace K3 := K2.gt K3
        clear c0 K2 D2
        rcases wantEC 1 (by decide) b1 with ⟨h1, hb⟩ | ⟨a2, b2, rfl, ha2, h1⟩
        · have c1 := name_bad u d g e0 o b1 hb D3
          go_wp2_with (go_at_call 86; (with_reducible refine c1.mono ?_); rintro e u2 ⟨rfl, K4⟩)
          refine ⟨rfl, StepP.bad (c := 40) (x := b1) ?_ (K3.gt K4)⟩
          rw [HE.out, HR.out]
          simp only [List.length_cons, tyL]
          rw [if_pos hk]
          simp only [List.tail_cons, h1, tyShut]
        have c1 := name_ok u d g e0 o a2 b2 ha2 D3
        simp only [List.length_cons] at hts hm0
        have hone : ∀ x ∈ [Value.string a2.t], x.oneCell' = true := by intro x hx; simp at hx; subst hx; rfl
        go_wp2_with (first
          | (go_at_call 86; (with_reducible refine c1.mono ?_); rintro e u2 ⟨rfl, D4, K4⟩; replace N2 := own_of_block N2 (u := u2) (fun g' cur hg' hh => K4.blk g' (lt_of_block hh) (by omega)); replace K4 := K3.gt K4)
          | (at_builtin; refine wpList_append_own _ rfl (.tmp 15) (.tmp 18) 115 rfl w.heap.size 9 i0 (.string ⟨#[]⟩) 1 16 Tryd.underlying115 hi hz0 hz1 hz2 rfl (by decide) (.slice ax acc.length cx) acc.length (strV acc) rfl (N2.alloc _) ⟨u2.heap.size, 0, none⟩ 1 1 [.string a2.t] rfl rfl (new1s _ _) hone (by unfold maxLen; omega) (by omega) ?c5 ?_))
        case c5 => have := K4.size; simp; omega
        intro v5 w5 h5 g5 _
        have D5 : De w5 d g e0 b2 o := D4.blocks (fun k hk2 => by
          have hd4 := D4.lt
          rw [g5.block k (by simp; omega) (fun e => by have := (N2.lt k e.symm).1; omega)]
          exact Below.heap_alloc u2 _ k (by omega))
        have K5 : Kd d w.heap.size w w5 := K4.trans ⟨g5.os, g5.tape, g5.output, Nat.le_trans (by simp) g5.size, fun k hk1 hk2 => by
          have := K4.size
          rw [g5.block k (by simp; omega) (fun e => by have := (N2.lt k e.symm).1; omega)]
          exact Below.heap_alloc u2 _ k (by omega)⟩
        have HN : Hid (rr = tyL b2.length b2 (acc ++ [a2.t])) := by
          show _ = _
          rw [HR.out]
          simp only [List.length_cons, tyL]
          rw [if_pos hk]
          simp only [List.tail_cons, h1]
          exact tyL_more (b2.length + 1) b2.length b2 _ (by omega) (Nat.le_refl _)
        have hm1 := D5.tkLen
        clear c1 N2 D3 D4 K3 K4 g5 HR hk h1
        go_wp2
        go_roundw
        case rel => exact ⟨acc ++ [a2.t], b2, by rw [show strV (acc ++ [a2.t]) = strV acc ++ [.string a2.t] by simp [strV], show (acc ++ [a2.t]).length = acc.length + 1 by simp]; exact h5, D5, K5, HN, by simp; omega⟩
        case measure => rw [hm1, hm0]; omega
      · have c0 := has_no wr d g e0 o 10 tk hk D2
        have e8 : rr = .ok (acc, tk) := by
          rw [HR.out]
          cases tk.length with
          | zero => rfl
          | succ n => simp only [tyL]; rw [if_neg hk]
        go_upto_region 6 with (go_at_call 51; (with_reducible refine c0.mono ?_); rintro e u ⟨rfl, rfl⟩)
        clear c0
        rcases wantEC 4 (by decide) tk with ⟨h1, hb⟩ | ⟨a2, b2, rfl, ha2, h1⟩
        · have c1 := need_bad wr d g e0 o 4 tk hb D2
          go_wp2_with (go_at_call 49; (with_reducible refine c1.mono ?_); rintro e u2 ⟨rfl, K4⟩)
          exact ⟨rfl, StepP.bad (by rw [HE.out, e8]; simp only [tyShut, h1]) (K2.gt K4)⟩
        have c1 := need_ok wr d g e0 o 4 a2 b2 ha2 D2
        clear ha2 hk
        go_wp2_with (go_at_call 49; (with_reducible refine c1.mono ?_); rintro e u2 ⟨rfl, D4, K4⟩)
        go_ret
        exact StepP.good (a := acc) (by rw [HE.out, e8]; simp only [tyShut, h1]) ⟨_, rfl, own_of_block N2 (fun g' cur hg' hh => K4.blk g' (lt_of_block hh) (by omega))⟩ D4 (K2.gt K4)
  · have c0 := has_no w d g e0 o 3 ts h3 D
    go_enter Tryd.func85, Tryd.ntmps85
    go_upto_region 2 with (go_at_call 51; (with_reducible refine c0.mono ?_); rintro e u ⟨rfl, rfl⟩)
    rcases wantEC 1 (by decide) ts with ⟨h1, hb⟩ | ⟨a, t2, rfl, ha, h1⟩
    · have c1 := name_bad w d g e0 o ts hb D
      go_wp2_with (go_at_call 86; (with_reducible refine c1.mono ?_); rintro e u2 ⟨rfl, K2⟩)
      exact ⟨rfl, StepP.bad (by unfold typesP; rw [if_neg h3]; simp only [h1]) K2⟩
    have c1 := name_ok w d g e0 o a t2 ha D
    clear ha
    go_wp2_with (go_at_call 86; (with_reducible refine c1.mono ?_); rintro e u2 ⟨rfl, D2, K2⟩)
    go_ret
    exact StepP.good (a := [a.t]) (by unfold typesP; rw [if_neg h3]; simp only [h1]) ⟨_, rfl, World.ownsRow_lit (base := w.heap.size) (e := 9) (size := 1) u2 #[.string a.t] 1 K2.size (by decide) rfl⟩ (D2.keep (galloc (Below.refl _ _) _)) (K2.gb (galloc (Below.refl _ _) _))
end

end Go.Proofs.YtmoimmghmmomlaaDoor
