/- Rows that hold rows; the items. -/
import Derived.Test.YtmoimmghmmomlaaDoorQe
namespace Go.Proofs.YtmoimmghmmomlaaDoor
open Go.RowKit Go.BigFrame
set_option linter.unusedVariables false
set_option linter.unusedSimpArgs false

structure Nest {α : Type} (w : World) (b : Nat) (T : TypeId) (sz : Nat) (cel : α → Value → List Value) (te : TypeId) (es : Nat) (row : α → List Value) (cnt : α → Nat) (v : Value) (l : List (α × Value)) : Prop where
  out : w.ownsRow b T sz v l.length (l.flatMap fun p => cel p.1 p.2)
  inn : ∀ p ∈ l, w.ownsRow b te es p.2 (cnt p.1) (row p.1)
  apt : l.Pairwise fun p q => ∀ g, p.2.ownBlock = some g → q.2.ownBlock ≠ some g
section
variable {α : Type} {w u : World} {b : Nat} {T : TypeId} {sz : Nat} {cel : α → Value → List Value} {te : TypeId} {es : Nat} {row : α → List Value} {cnt : α → Nat} {v : Value} {l : List (α × Value)}
theorem Nest.blk (N : Nest w b T sz cel te es row cnt v l) (G : ∀ k, b ≤ k → k < w.heap.size → u.heap[k]? = w.heap[k]?) : Nest u b T sz cel te es row cnt v l :=
  ⟨own_of_block N.out (fun g _ hg hh => G g hg (lt_of_block hh)), fun p hp => own_of_block (N.inn p hp) (fun g _ hg hh => G g hg (lt_of_block hh)), N.apt⟩
theorem Nest.keep (N : Nest w b T sz cel te es row cnt v l) (G : Below w.heap.size w u) : Nest u b T sz cel te es row cnt v l := N.blk fun k _ hk => G.block k hk
theorem Nest.kd {d : Nat} (N : Nest w b T sz cel te es row cnt v l) (hd : d < b) (G : Kd d w.heap.size w u) : Nest u b T sz cel te es row cnt v l := N.blk fun k h1 h2 => G.blk k h2 (by omega)
theorem Nest.far {r : Option Nat} (N : Nest w b T sz cel te es row cnt v l) (G : w.grownBy u r) (h1 : ∀ k, r = some k → v.ownBlock ≠ some k) (h2 : ∀ p ∈ l, ∀ k, r = some k → p.2.ownBlock ≠ some k) : Nest u b T sz cel te es row cnt v l :=
  ⟨own_far N.out G h1, fun p hp => own_far (N.inn p hp) G (h2 p hp), N.apt⟩
theorem Nest.nil (w : World) (b : Nat) : Nest w b T sz cel te es row cnt (.slice none 0 0) [] := ⟨World.ownsRow_nil _ _ _ _, (fun p hp => absurd hp (by simp)), List.Pairwise.nil⟩
theorem Nest.snoc (N : Nest w b T sz cel te es row cnt v l) (a : α) (x : Value) (hx : w.ownsRow b te es x (cnt a) (row a)) (hap : ∀ p ∈ l, ∀ g, p.2.ownBlock = some g → x.ownBlock ≠ some g) (hT : T ≠ te) {v' : Value} (ho : u.ownsRow b T sz v' (l.length + 1) ((l.flatMap fun p => cel p.1 p.2) ++ cel a x)) (G : w.grownBy u v.ownBlock) : Nest u b T sz cel te es row cnt v' (l ++ [(a, x)]) := by
  refine ⟨?_, fun p hp => ?_, ?_⟩
  · rw [List.flatMap_append, List.length_append]
    simpa using ho
  · rcases List.mem_append.1 hp with h | h
    · exact own_far (N.inn p h) G (fun k e => own_ne N.out (N.inn p h) hT k e)
    · simp only [List.mem_cons, List.not_mem_nil, or_false] at h
      subst h
      exact own_far hx G (fun k e => own_ne N.out hx hT k e)
  · refine List.pairwise_append.2 ⟨N.apt, List.pairwise_singleton _ _, fun p hp q hq => ?_⟩
    simp only [List.mem_cons, List.not_mem_nil, or_false] at hq
    subst hq
    exact hap p hp
end
abbrev NestI (w : World) (b : Nat) (v : Value) (l : List (It × Value)) : Prop := Nest w b 117 5 (fun i v => (itA i v).toList) 9 1 (fun i => strV i.ty) (fun i => i.ty.length) v l
abbrev NestN (w : World) (b : Nat) (v : Value) (l : List (List Nd × Value)) : Prop := Nest w b 22 1 (fun _ v => [v]) 58 6 ndsV List.length v l
abbrev NestS (w : World) (b : Nat) (v : Value) (l : List (List Int × Value)) : Prop := Nest w b 31 1 (fun _ v => [v]) 3 1 intsV List.length v l
abbrev itsV (b : Nat) (a : List It × List Int) (e : Ending) (w' : World) : Prop := ∃ v v2 l, e = .returned (.tuple #[v, v2]) ∧ l.map Prod.fst = a.1 ∧ NestI w' b v l ∧ w'.ownsRow b 3 1 v2 a.2.length (intsV a.2)
def itmsP (e : Int) (ts : List Tok) : E ((List It × List Int) × List Tok) := match itemsP e ts with | .ok (a, b, tl) => .ok ((a, b), tl) | .error e => .error e
def itShut (r : E (List It × List Int × List Tok)) : E ((List It × List Int) × List Tok) := match r with | .error e => .error e | .ok (a, b, tl) => match wantE 4 tl with | .error e => .error e | .ok (_, tl) => .ok ((a, b), tl)
theorem boundsP_le {ts : List Tok} {a b : Int} {tl : List Tok} (h : boundsP ts = .ok (a, b, tl)) : tl.length < ts.length := by
  unfold boundsP at h
  rcases wantEC 2 (by decide) ts with ⟨h1, _⟩ | ⟨v1, r1, rfl, _, h1⟩
  · simp only [h1] at h; cases h
  rcases wantEC 7 (by decide) r1 with ⟨h2, _⟩ | ⟨v2, r2, rfl, _, h2⟩
  · simp only [h1, h2] at h; cases h
  rcases wantEC 2 (by decide) r2 with ⟨h3, _⟩ | ⟨v3, r3, rfl, _, h3⟩
  · simp only [h1, h2, h3] at h; cases h
  rcases wantEC 6 (by decide) r3 with ⟨h4, _⟩ | ⟨v4, r4, rfl, _, h4⟩
  · simp only [h1, h2, h3, h4] at h; cases h
  simp only [h1, h2, h3, h4, Except.ok.injEq, Prod.mk.injEq] at h
  obtain ⟨_, _, rfl⟩ := h
  simp only [List.length_cons]; omega
theorem itemP_le {ts : List Tok} {i : It} {tl : List Tok} (h : itemP ts = .ok (i, tl)) : tl.length < ts.length := by
  unfold itemP at h
  split at h
  · rename_i hk
    obtain ⟨t, r, rfl, _⟩ := kd_cons (by decide) hk
    simp only [List.tail_cons] at h
    cases h1 : typesP r with
    | error e => simp only [h1] at h; cases h
    | ok p =>
      obtain ⟨l, r2⟩ := p
      have := typesP_le h1
      simp only [h1] at h
      rcases wantEC 1 (by decide) r2 with ⟨h2, _⟩ | ⟨v2, r3, rfl, _, h2⟩
      · simp only [h2] at h; cases h
      · simp only [h2, Except.ok.injEq, Prod.mk.injEq] at h
        obtain ⟨_, rfl⟩ := h
        simp only [List.length_cons] at *; omega
  · cases h1 : typesP ts with
    | error e => simp only [h1] at h; cases h
    | ok p =>
      obtain ⟨l, r2⟩ := p
      have := typesP_le h1
      simp only [h1] at h
      split at h
      · rename_i hk
        obtain ⟨t, r3, rfl, _⟩ := kd_cons (by decide) hk
        simp only [List.tail_cons] at h
        rcases wantEC 1 (by decide) r3 with ⟨h2, _⟩ | ⟨v2, r4, rfl, _, h2⟩
        · simp only [h2] at h; cases h
        · simp only [h2, Except.ok.injEq, Prod.mk.injEq] at h
          obtain ⟨_, rfl⟩ := h
          simp only [List.length_cons] at *; omega
      · rcases wantEC 1 (by decide) r2 with ⟨h2, _⟩ | ⟨v2, r4, rfl, _, h2⟩
        · simp only [h2] at h; cases h
        · simp only [h2] at h
          split at h
          · rename_i hk
            obtain ⟨t, r3, rfl, _⟩ := kd_cons (by decide) hk
            simp only [List.tail_cons] at h
            cases h3 : boundsP r3 with
            | error e => simp only [h3] at h; cases h
            | ok p =>
              obtain ⟨lo, hi, r5⟩ := p
              have := boundsP_le h3
              simp only [h3, Except.ok.injEq, Prod.mk.injEq] at h
              obtain ⟨_, rfl⟩ := h
              simp only [List.length_cons] at *; omega
          · simp only [Except.ok.injEq, Prod.mk.injEq] at h
            obtain ⟨_, rfl⟩ := h
            simp only [List.length_cons] at *; omega
theorem itL_more (e : Int) (n m : Nat) : ∀ (ts : List Tok) (is : List It) (sp : List Int), ts.length ≤ n → ts.length ≤ m → itL e n ts is sp = itL e m ts is sp := by
  induction n generalizing m with
  | zero =>
    intro ts is sp h1 h2
    have : ts = [] := List.length_eq_zero_iff.1 (by omega)
    subst this
    cases m with
    | zero => rfl
    | succ m => simp [itL, kd]
  | succ n ih =>
    intro ts is sp h1 h2
    cases m with
    | zero =>
      have : ts = [] := List.length_eq_zero_iff.1 (by omega)
      subst this
      simp [itL, kd]
    | succ m =>
      simp only [itL]
      split
      · rename_i hk
        obtain ⟨t, r, rfl, _⟩ := kd_cons (by decide) hk
        simp only [List.tail_cons]
        cases h3 : itemP r with
        | error e => rfl
        | ok p =>
          obtain ⟨i, r2⟩ := p
          have := itemP_le h3
          simp only [List.length_cons] at h1 h2
          exact ih m r2 _ _ (by omega) (by omega)
      · rfl
theorem new5 (w : World) (i : It) (v : Value) (j : Nat) (u : Value) (h : (itA i v).toList[j]? = some u) : (w.alloc (.cells (itA i v) 117)).cell? ((⟨w.heap.size, 0, none⟩ : Addr).add j) = some u := by
  rw [Go.WideShapes.add_plain, Nat.zero_add, World.cell?_alloc_new]
  simpa using h
section
variable (w : World) (d g : Nat) (e0 : Int) (o : Nat)
set_option maxRecDepth 100000 in
set_option maxHeartbeats 8000000 in
theorem items_any (ts : List Tok) (hts : ts.length ≤ 400) (D : De w d g e0 ts o) : Calls Tryd.prog 50 #[.pointer (some ⟨d, 0, none⟩)] w (StepP w d g e0 o (itmsP e0 ts) (itsV w.heap.size)) := by
  have hlt := D.lt
  obtain ⟨i0, hi, hz0, hz1, hz2⟩ := info_of infoI
  obtain ⟨i5, ti, tz0, tz1, tz2⟩ := info_of infoIt
  go_enter Tryd.func50, Tryd.ntmps50
  go_upto_region 1 with fail
  rcases wantEC 3 (by decide) ts with ⟨h1, hb⟩ | ⟨t0, t1, rfl, ha, h1⟩
  · have c1 := need_bad w d g e0 o 3 ts hb D
    go_wp2_with (go_at_call 49; (with_reducible refine c1.mono ?_); rintro e u ⟨rfl, K2⟩)
    exact ⟨rfl, StepP.bad (by simp only [itmsP, itemsP, h1]) K2⟩
  have c1 := need_ok w d g e0 o 3 t0 t1 ha D
  simp only [List.length_cons] at hts
  go_upto_region 2 with (go_at_call 49; (with_reducible refine c1.mono ?_); rintro e u ⟨rfl, D2, K2⟩)
  have c2 := place_any u d g e0 o t1 D2
  obtain ⟨p0, hp0⟩ : ∃ p0, p0 = plc e0 t1 := ⟨_, rfl⟩
  rw [← hp0] at c2
  have HP : Hid (p0 = plc e0 t1) := hp0
  clear hp0 ha c1
  go_upto_region 3 with (go_at_call 69; (with_reducible refine c2.mono ?_); rintro e u2 ⟨rfl, rfl⟩)
  have B3 := galloc (Below.refl u.heap.size u) (.cells #[.int .i64 p0] 3)
  have S3 := World.ownsRow_lit (base := w.heap.size) (e := 3) (size := 1) u #[.int .i64 p0] 1 K2.size (by decide) rfl
  replace D2 := D2.keep B3
  replace K2 := K2.gb B3
  generalize u.alloc (.cells #[.int .i64 p0] 3) = V at *
  generalize u.heap.size = bs at *
  clear c2 B3
  have c3 := item_any V d g e0 o t1 (by omega) D2
  cases h2 : itemP t1 with
  | error cx =>
    obtain ⟨c, x⟩ := cx
    rw [h2] at c3
    go_wp2_with (go_at_call 70; (with_reducible refine c3.mono ?_); rintro e u2 ⟨rfl, K3⟩)
    exact ⟨rfl, StepP.bad (by simp only [itmsP, itemsP, h1, h2]) (K2.gt K3)⟩
  | ok r =>
    obtain ⟨it, t2⟩ := r
    rw [h2] at c3
    have hl2 := itemP_le h2
    replace c3 : Calls Tryd.prog 70 #[.pointer (some ⟨d, 0, none⟩)] V fun e w' => (∃ v, e = .returned (.agg #[.bool it.neg, v, .string it.v, .int .i64 it.lo, .int .i64 it.hi]) ∧ w'.ownsRow V.heap.size 9 1 v it.ty.length (strV it.ty)) ∧ De w' d g e0 t2 o ∧ Kd d V.heap.size V w' := c3
    go_upto_region 4 with (go_at_call 70; (with_reducible refine c3.mono ?_); rintro e u2 ⟨⟨v, rfl, N3⟩, D3, K3⟩; obtain ⟨ax, cx, rfl⟩ := own_shape N3)
    have B4 := galloc (Below.refl u2.heap.size u2) (.cells (itA it (.slice ax it.ty.length cx)) 117)
    have hwV := K2.size
    have hwu := (K2.gt K3).size
    have N4 : NestI (u2.alloc (.cells (itA it (.slice ax it.ty.length cx)) 117)) w.heap.size (.slice (some ⟨u2.heap.size, 0, none⟩) 1 1) [(it, .slice ax it.ty.length cx)] :=
      ⟨World.ownsRow_lit (base := w.heap.size) (e := 117) (size := 5) u2 (itA it (.slice ax it.ty.length cx)) 1 hwu (by decide) rfl, fun p hp => by
        simp only [List.mem_cons, List.not_mem_nil, or_false] at hp
        subst hp
        exact own_keep (own_mono N3 hwV) B4, List.pairwise_singleton _ _⟩
    have S4 := own_keep (own_kd S3 hlt K3) B4
    replace D3 := D3.keep B4
    replace K3 := (K2.gt K3).gb B4
    generalize hV : u2.alloc (.cells (itA it (.slice ax it.ty.length cx)) 117) = V4 at *
    rw [show u2.alloc (.cells #[.bool it.neg, .slice ax it.ty.length cx, .string it.v, .int .i64 it.lo, .int .i64 it.hi] 117) = V4 from hV]
    generalize u2.heap.size = b2 at *
    obtain ⟨rr, hrr⟩ : ∃ rr, rr = itL e0 t2.length t2 [it] [p0] := ⟨_, rfl⟩
    have e9 : itmsP e0 (t0 :: t1) = itShut rr := by
      rw [hrr, HP.out]
      unfold itmsP itemsP itShut
      simp only [h1, h2]
      cases itL e0 t2.length t2 [it] [plc e0 t1] with
      | error e => rfl
      | ok r =>
        obtain ⟨a, b, tl⟩ := r
        simp only
        cases wantE 4 tl with
        | error e => rfl
        | ok r => rfl
    have HE : Hid (itmsP e0 (t0 :: t1) = itShut rr) := e9
    have HR : Hid (rr = itL e0 t2.length t2 [it] [p0]) := hrr
    clear hV e9 hrr HP h1 h2 c3 N3 S3 K2 B4 D D2 hwV hwu
    go_loopw [4, 5] (fun x4 x5 wr => ∃ (l : List (It × Value)) (sp : List Int) (tk : List Tok), NestI wr w.heap.size x5 l ∧ wr.ownsRow w.heap.size 3 1 x4 sp.length (intsV sp) ∧ De wr d g e0 tk o ∧ Kd d w.heap.size w wr ∧ Hid (rr = itL e0 tk.length tk (l.map Prod.fst) sp) ∧ Hid (sp.length = l.length) ∧ l.length + tk.length ≤ 400) (fun _ _ wr => tkLen wr d)
    case atStart => exact ⟨[(it, .slice ax it.ty.length cx)], [p0], t2, N4, S4, D3, K3, HR, rfl, by simp; omega⟩
    case round =>
      clear N4 S4 D3 K3 HR hts hl2
      obtain ⟨l, sp, tk, N2, S2, D2, K2, HR, HL, hts⟩ := hrel
      obtain ⟨a4, k4, rfl⟩ := own_shape S2
      obtain ⟨a5, k5, rfl⟩ := own_shape N2.out
      have hm0 := D2.tkLen
      by_cases hk : kd tk = 7
      · obtain ⟨b0, b1, rfl, hbk⟩ := kd_cons (by decide) hk
        have c0 := has_yes wr d g e0 o 7 b0 b1 hbk D2
        simp only [List.length_cons] at hts hm0
        go_upto_region 5 with (go_at_call 51; (with_reducible refine c0.mono ?_); rintro e u ⟨rfl, D3, K3⟩)
        replace N2 := N2.kd hlt K3
        replace S2 := own_kd S2 hlt K3
        replace K3 := K2.gt K3
        clear c0 K2 D2 hbk
        have c2 := place_any u d g e0 o b1 D3
        obtain ⟨p1, hp1⟩ : ∃ p1, p1 = plc e0 b1 := ⟨_, rfl⟩
        rw [← hp1] at c2
        have HP : Hid (p1 = plc e0 b1) := hp1
        clear hp1
        have hone : ∀ x ∈ [Value.int .i64 p1], x.oneCell' = true := by intro x hx; simp at hx; subst hx; rfl
        have hsl : sp.length ≤ 400 := by rw [HL.out]; omega
        go_upto_region 6 with (first
          | (go_at_call 69; (with_reducible refine c2.mono ?_); rintro e u2 ⟨rfl, rfl⟩)
          | (at_builtin; refine wpList_append_own _ rfl (.tmp 16) (.tmp 19) 31 rfl w.heap.size 3 i0 (.int .i64 0) 1 8 Tryd.underlying31 hi hz0 hz1 hz2 rfl (by decide) (.slice a4 sp.length k4) sp.length (intsV sp) rfl (S2.alloc _) ⟨u.heap.size, 0, none⟩ 1 1 [.int .i64 p1] rfl rfl (new1i _ _) hone (by unfold maxLen; omega) (by omega) ?c5 ?_))
        case c5 => have := K3.size; simp; omega
        intro v5 w5 h5 g5 _
        have hd3 := D3.lt
        have D5 : De w5 d g e0 b1 o := D3.blocks (fun k hk2 => by
          rw [g5.block k (by simp; omega) (fun e => by have := (S2.lt k e.symm).1; omega)]
          exact Below.heap_alloc u _ k (by omega))
        have K5 : Kd d w.heap.size w w5 := K3.trans ⟨g5.os, g5.tape, g5.output, Nat.le_trans (by simp) g5.size, fun k hk1 hk2 => by
          have := K3.size
          rw [g5.block k (by simp; omega) (fun e => by have := (S2.lt k e.symm).1; omega)]
          exact Below.heap_alloc u _ k (by omega)⟩
        have N5 := (N2.keep (galloc (Below.refl _ _) (.cells #[.int .i64 p1] 3))).far g5 (fun k e => own_ne S2 N2.out (by decide) k e) (fun p hp k e => own_ne S2 (N2.inn p hp) (by decide) k e)
        obtain ⟨a6, k6, rfl⟩ := own_shape h5
        clear c2 S2 N2 D3 K3 g5
        go_upto_region 6 with fail
        have c3 := item_any w5 d g e0 o b1 (by omega) D5
        cases h2 : itemP b1 with
        | error cx =>
          obtain ⟨c, x⟩ := cx
          rw [h2] at c3
          go_wp2_with (go_at_call 70; (with_reducible refine c3.mono ?_); rintro e u2 ⟨rfl, K6⟩)
          refine ⟨rfl, StepP.bad (c := c) (x := x) ?_ (K5.gt K6)⟩
          rw [HE.out, HR.out]
          simp only [List.length_cons, itL]
          rw [if_pos hk]
          simp only [List.tail_cons, h2, itShut]
        | ok r =>
          obtain ⟨it2, b2⟩ := r
          rw [h2] at c3
          have hl2 := itemP_le h2
          replace c3 : Calls Tryd.prog 70 #[.pointer (some ⟨d, 0, none⟩)] w5 fun e w' => (∃ v, e = .returned (.agg #[.bool it2.neg, v, .string it2.v, .int .i64 it2.lo, .int .i64 it2.hi]) ∧ w'.ownsRow w5.heap.size 9 1 v it2.ty.length (strV it2.ty)) ∧ De w' d g e0 b2 o ∧ Kd d w5.heap.size w5 w' := c3
          have hone2 : ∀ v : Value, v.oneCell' = true → ∀ x ∈ (itA it2 v).toList, x.oneCell' = true := fun v hv x hx => by
            simp [itA] at hx
            rcases hx with rfl | rfl | rfl | rfl | rfl <;> first | rfl | exact hv
          go_wp2_with (first
            | (go_at_call 70; (with_reducible refine c3.mono ?_); rintro e u2 ⟨⟨v, rfl, M6⟩, D6, K6⟩; obtain ⟨ay, cy, rfl⟩ := own_shape M6; have N6 := N5.kd hlt K6; have S6 := own_kd h5 hlt K6)
            | (at_builtin; refine wpList_append_own _ rfl (.tmp 21) (.tmp 24) 34 rfl w.heap.size 117 i5 (.agg (itA noIt nilV)) 5 64 Tryd.underlying34 ti tz0 tz1 tz2 rfl (by decide) (.slice a5 l.length k5) l.length _ rfl (N6.out.alloc _) ⟨u2.heap.size, 0, none⟩ 1 1 (itA it2 (.slice ay it2.ty.length cy)).toList rfl rfl (new5 _ _ _) (hone2 _ rfl) (by unfold maxLen; omega) (by omega) ?c6 ?_))
          case c6 => have := K5.size; have := K6.size; simp; omega
          intro v7 w7 h7 g7 _
          have gX := galloc (Below.refl u2.heap.size u2) (.cells (itA it2 (.slice ay it2.ty.length cy)) 117)
          have hw5 := K5.size
          have N7 := (N6.keep gX).snoc it2 (.slice ay it2.ty.length cy) (own_keep (own_mono M6 hw5) gX) (fun p hp g' e1 e2 => by
            have q1 := ((N5.inn p hp).lt g' e1).2
            have q2 := (M6.lt g' e2).1
            omega) (by decide) h7 g7
          have S7 := own_far (own_keep S6 gX) g7 (fun k e => own_ne N6.out S6 (by decide) k e)
          have hd6 := D6.lt
          have hw6 := K6.size
          have D7 : De w7 d g e0 b2 o := D6.blocks (fun k hk2 => by
            rw [g7.block k (by simp; omega) (fun e => by have := (N6.out.lt k e.symm).1; omega)]
            exact Below.heap_alloc u2 _ k (by omega))
          have K7 : Kd d w.heap.size w w7 := (K5.gt K6).trans ⟨g7.os, g7.tape, g7.output, Nat.le_trans (by simp) g7.size, fun k hk1 hk2 => by
            rw [g7.block k (by simp; omega) (fun e => by have := (N6.out.lt k e.symm).1; omega)]
            exact Below.heap_alloc u2 _ k (by omega)⟩
          have HN : Hid (rr = itL e0 b2.length b2 ((l ++ [(it2, Value.slice ay it2.ty.length cy)]).map Prod.fst) (sp ++ [p1])) := by
            show _ = _
            rw [HR.out]
            simp only [List.length_cons, itL]
            rw [if_pos hk]
            simp only [List.tail_cons, h2]
            rw [List.map_append, HP.out]
            exact itL_more e0 b1.length b2.length b2 _ _ (by omega) (Nat.le_refl _)
          have hm1 := D7.tkLen
          clear c3 N5 N6 S6 D5 D6 K5 K6 g7 HR hk h2 h5 M6 gX
          go_wp2
          go_roundw
          case rel => exact ⟨l ++ [(it2, .slice ay it2.ty.length cy)], sp ++ [p1], b2, N7, by rw [show intsV (sp ++ [p1]) = intsV sp ++ [.int .i64 p1] by simp [intsV], show (sp ++ [p1]).length = sp.length + 1 by simp]; exact S7, D7, K7, HN, by show _ = _; simp [HL.out], by simp; omega⟩
          case measure => rw [hm1, hm0]; omega
      · have c0 := has_no wr d g e0 o 7 tk hk D2
        have e8 : rr = .ok (l.map Prod.fst, sp, tk) := by
          rw [HR.out]
          cases tk.length with
          | zero => rfl
          | succ n => simp only [itL]; rw [if_neg hk]
        go_upto_region 7 with (go_at_call 51; (with_reducible refine c0.mono ?_); rintro e u ⟨rfl, rfl⟩)
        clear c0
        rcases wantEC 4 (by decide) tk with ⟨h1, hb⟩ | ⟨a2, b2, rfl, ha2, h1⟩
        · have c1 := need_bad wr d g e0 o 4 tk hb D2
          go_wp2_with (go_at_call 49; (with_reducible refine c1.mono ?_); rintro e u2 ⟨rfl, K4⟩)
          exact ⟨rfl, StepP.bad (by rw [HE.out, e8]; simp only [itShut, h1]) (K2.gt K4)⟩
        have c1 := need_ok wr d g e0 o 4 a2 b2 ha2 D2
        clear ha2 hk
        go_wp2_with (go_at_call 49; (with_reducible refine c1.mono ?_); rintro e u2 ⟨rfl, D4, K4⟩)
        go_ret2
        exact StepP.good (a := (l.map Prod.fst, sp)) (by rw [HE.out, e8]; simp only [itShut, h1]) ⟨_, _, l, rfl, rfl, N2.kd hlt K4, own_kd S2 hlt K4⟩ D4 (K2.gt K4)
end

end Go.Proofs.YtmoimmghmmomlaaDoor
