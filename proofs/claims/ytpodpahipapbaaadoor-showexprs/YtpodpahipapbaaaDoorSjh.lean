/- The document's answer for a tree: its loop. -/
import Derived.Test.YtpodpahipapbaaaDoorSjg
import Derived.Test.YtpodpahipapbaaaDoorShf
namespace Go.Proofs.YtpodpahipapbaaaDoor
open Go.RowKit Go.BigFrame Go.Shelf Go.Proofs.YtpodpahipapbaaaDoor.Ev
set_option linter.unusedVariables false
set_option linter.unusedSimpArgs false

/-- A row of what is told. -/
def tdsV (ps : List Pce) : List Value := ps.flatMap fun p => (tdA p).toList
theorem td_info : (Tryd.prog.info? 39).map (fun i => (i.zero, i.size, i.bytes)) = some (some (.agg (tdA noP)), 3, 32) := by kernel_rfl
theorem td_new (w : World) (p : Pce) (j : Nat) (u : Value) (h : (tdA p).toList[j]? = some u) : (w.alloc (.cells (tdA p) 39)).cell? ((⟨w.heap.size, 0, none⟩ : Addr).add j) = some u := by
  rw [Go.WideShapes.add_plain, Nat.zero_add, World.cell?_alloc_new]
  simpa using h
theorem td_newE {w : World} {g : Nat} (hg : g = w.heap.size) (p : Pce) (j : Nat) (u : Value) (h : (tdA p).toList[j]? = some u) : (w.alloc (.cells (tdA p) 39)).cell? ((⟨g, 0, none⟩ : Addr).add j) = some u := by subst hg; exact td_new w p j u h
theorem td_one (p : Pce) : ∀ u ∈ (tdA p).toList, u.oneCell' = true := by
  intro u hu
  simp [tdA] at hu
  rcases hu with rfl | rfl | rfl <;> rfl
theorem tds_more (ps : List Pce) (p : Pce) : tdsV ps ++ (tdA p).toList = tdsV (ps ++ [p]) := by
  unfold tdsV
  simp only [List.flatMap_append, List.flatMap_cons, List.flatMap_nil, List.append_nil]
theorem tds_at (ps : List Pce) : ∀ i, i < ps.length → ∀ j, j < 3 → (tdsV ps)[i * 3 + j]? = (tdA (ps.getD i noP)).toList[j]? := by
  induction ps with
  | nil => intro i h; simp at h
  | cons p t ih =>
    intro i hi j hj
    have hlen : (tdA p).toList.length = 3 := rfl
    show ((tdA p).toList ++ tdsV t)[i * 3 + j]? = _
    cases i with
    | zero =>
      rw [Nat.zero_mul, Nat.zero_add, List.getElem?_append_left (by omega)]
      rfl
    | succ i =>
      rw [List.getElem?_append_right (by omega), hlen, show (i + 1) * 3 + j - 3 = i * 3 + j by omega]
      exact ih i (by simpa using hi) j hj
/-- An entry of such a row of one's own. -/
theorem tds_own {w : World} {b : Nat} {ao : Option Addr} {c : Nat} {ps : List Pce} (h : w.ownsRow b 39 3 (.slice ao ps.length c) ps.length (tdsV ps)) (i : Nat) (hi : i < ps.length) : ∃ g, ao = some ⟨g, 0, none⟩ ∧ w.cell? ⟨g, i * 3, none⟩ = some (.string (jT (ps.getD i noP).ts)) ∧ w.cell? ⟨g, i * 3 + 1, none⟩ = some (.int .i64 (ps.getD i noP).ts.length) ∧ w.cell? ⟨g, i * 3 + 2, none⟩ = some (.int .i64 (ps.getD i noP).d) := by
  obtain ⟨ao', c', e, _, _, hg⟩ := own_form h
  simp only [Value.slice.injEq, true_and] at e
  obtain ⟨rfl, rfl⟩ := e
  rcases hg with hg | ⟨g, rfl, _, _⟩
  · omega
  have hc : ∀ j, j < 3 → w.cell? ⟨g, i * 3 + j, none⟩ = (tdA (ps.getD i noP)).toList[j]? := fun j hj => by
    rw [World.ownsRow.cellAt h (i * 3 + j) (by omega), tds_at ps i hi j hj]
  exact ⟨g, rfl, hc 0 (by omega), hc 1 (by omega), hc 2 (by omega)⟩
def pcsF (P : Nat → Pce) (k : Nat) : List Pce := (List.range k).map P
theorem pcs_len (P : Nat → Pce) (k : Nat) : (pcsF P k).length = k := by simp [pcsF]
theorem pcs_at (P : Nat → Pce) (k i : Nat) (h : i < k) : (pcsF P k).getD i noP = P i := by simp [pcsF, List.getD, h]
theorem pcs_more (P : Nat → Pce) (k : Nat) : pcsF P k ++ [P k] = pcsF P (k + 1) := by simp [pcsF, List.range_succ]

section
variable {wr : World} {b o : Nat} {x : Value} (h : wr.cell? ⟨b, o, none⟩ = some x)
include h
theorem lies3 (o1 o2 o3 : Obj) : (((wr.alloc o1).alloc o2).alloc o3).cell? ⟨b, o, none⟩ = some x :=
  ((galloc (galloc (galloc (Below.refl wr.heap.size wr) o1) o2) o3).cell (p := ⟨b, o, none⟩) (lt_of_cell h)).trans h
end

set_option maxRecDepth 100000 in
set_option maxHeartbeats 8000000 in
theorem whole_any (ns : List Nd) (bs : List Int) (hbs : begsO ns [] = some bs) (h0 : 0 < ns.length) (hf : ∀ k, (ns.getD k noNd).fit) (hN : ns.length ≤ 400) (ao : Option Addr) (cap : Nat) (w : World) (A : IsNds w ao ns) (P : PwAt w) (O : OsAt w) (C : CaAt w) :
    Calls Tryd.prog 13 #[.slice ao ns.length cap] w fun e w' => e = .returned (.agg (tdA (nodP ns ns.length (ns.length - 1)))) ∧ Below w.heap.size w w' := by
  have W := ws_of hbs
  have cT := fun (i : Nat) (hi : i < ns.length) => told_any ns bs W hf hN i hi
  obtain ⟨Q, hQ⟩ : ∃ Q, nodP ns ns.length = Q := ⟨_, rfl⟩
  rw [hQ] at cT ⊢
  clear hQ
  obtain ⟨i0, hi, hz0, hz1, hz2⟩ := of_info td_info
  obtain ⟨n, hn⟩ : ∃ n, ns.length = n := ⟨_, rfl⟩
  rw [hn] at h0 hN cT ⊢
  have B0 := galloc (Below.refl w.heap.size w) (.cells #[.string ⟨#[]⟩, .int .i64 0, .int .i64 0] 39)
  have R0 := Tri.new w (.string ⟨#[]⟩) (.int .i64 0) (.int .i64 0) 39
  replace A := A.keep B0
  replace P := P.keep B0
  replace O := O.keep B0
  replace C := C.keep B0
  go_enter Tryd.func13, Tryd.ntmps13
  go_wp2
  generalize w.alloc (.cells #[.string ⟨#[]⟩, .int .i64 0, .int .i64 0] 39) = V at *
  go_loopw [3, 4] (fun o x wr => ∃ k : Nat, k ≤ n ∧ x = .int .i64 k ∧ wr.ownsRow V.heap.size 39 3 o k (tdsV (pcsF Q k)) ∧ Below V.heap.size V wr) (fun _ x _ => n - (intOf x).toNat)
  case atStart => exact ⟨0, Nat.zero_le _, rfl, World.ownsRow_nil _ _ _ _, Below.refl _ _⟩
  case round =>
    obtain ⟨k, hk, rfl, L, G⟩ := hrel
    obtain ⟨vo, vc, rfl, hvc, _, _⟩ := own_form L
    have zG := G.size
    by_cases hlt : k < n
    · obtain ⟨g, o, rfl, x0, x1, x2, x3, x4, x5⟩ := (A.keep G) k (by omega)
      have wk := ws_of hbs k (by omega)
      rcases (show (ns.getD k noNd).op ≤ 11 ∨ ((ns.getD k noNd).op = 12 ∨ (ns.getD k noNd).op = 13) ∨ 14 ≤ (ns.getD k noNd).op by omega) with h1 | h1 | h1
      · obtain ⟨_, hl, hr⟩ := ws_leaf hbs k (by omega) h1
        have c := fun (u : World) (g : Below V.heap.size V u) => cT k hlt noP noP 1 1 (fun h => by omega) (fun h => by omega) u (P.keep g) (O.keep g) (C.keep g)
        rw [show tdA noP = #[.string ⟨#[]⟩, .int .i64 0, .int .i64 0] from rfl] at c
        unfold ndA tdA at c
        rw [hl] at x4 c
        rw [hr] at x5 c
        clear wk h1 hl hr cT A
        generalize (ns.getD k noNd).op = yo at *
        generalize (ns.getD k noNd).n = yn at *
        generalize (ns.getD k noNd).v = yv at *
        generalize (ns.getD k noNd).x = yx at *
        go_wp2_with (first
          | (go_at_call 18; (with_reducible refine (c _ (by repeat (first | exact G | (refine galloc ?_ _) | (refine gset ?_ (by dsimp only; omega) _)))).mono ?_); rintro e u ⟨rfl, g5⟩; have GY := gtrans (show Below wr.heap.size wr _ from (by repeat (first | exact Below.refl _ _ | (refine galloc ?_ _) | (refine gset ?_ (by dsimp only; omega) _)))) g5; have zY := GY.size; have L5 := own_keep L GY)
          | (at_builtin; refine wpList_append_own _ rfl (.tmp 55) (.tmp 57) 48 rfl V.heap.size 39 i0 (.agg (tdA noP)) 3 32 Tryd.underlying48 hi hz0 hz1 hz2 rfl (by decide) _ _ _ rfl ((L5.alloc _).alloc _) ⟨u.heap.size + 1, 0, none⟩ 1 1 (tdA (Q k)).toList rfl rfl (td_newE (by simp) (Q k)) (td_one (Q k)) ?c3 ?c4 ?c5 ?_))
        case c3 => unfold maxLen; omega
        case c4 => omega
        case c5 => simp; omega
        intro v' w1 hown' hgrow _
        rw [tds_more, pcs_more] at hown'
        have GW : Below V.heap.size V w1 := (galloc (galloc (gtrans G GY) _) _).grown hgrow (by simp; omega) (fun r e => (L.lt _ e).1)
        clear hgrow
        go_wp2
        go_roundw
        case rel => exact ⟨k + 1, by omega, by go_num, hown', GW⟩
        case measure => simp [intOf]; omega
      · obtain ⟨hp, hl, _⟩ := wk.one h1
        have hr := ws_one_r hbs k (by omega) h1
        obtain ⟨j, hj⟩ : ∃ j : Nat, (ns.getD k noNd).l.toNat = j := ⟨_, rfl⟩
        have hl' : (ns.getD k noNd).l = (j : Int) := by omega
        have hjk : (j : Int) < (k : Int) := by omega
        have hjn : (j : Int) < (n : Int) := by omega
        have c := fun (u : World) (g : Below V.heap.size V u) => cT k hlt (Q j) noP (ns.getD j noNd).op 1 (fun h => by rw [hj]; exact ⟨rfl, rfl⟩) (fun h => by omega) u (P.keep g) (O.keep g) (C.keep g)
        rw [show tdA noP = #[.string ⟨#[]⟩, .int .i64 0, .int .i64 0] from rfl] at c
        unfold ndA tdA at c
        rw [hl'] at x4 c
        rw [hr] at x5 c
        obtain ⟨g2, o2, e2, z0, _⟩ := (A.keep G) j (by omega)
        simp only [Option.some.injEq, Addr.mk.injEq, and_true] at e2
        obtain ⟨rfl, rfl⟩ := e2
        obtain ⟨gl, rfl, q0, q1, q2⟩ := tds_own (ps := pcsF Q k) (b := V.heap.size) (c := vc) (by rw [pcs_len]; exact L) j (by rw [pcs_len]; omega)
        rw [pcs_at Q k j (by omega)] at q0 q1 q2
        have q0' := lies3 q0
        have q1' := lies3 q1
        have q2' := lies3 q2
        have z0' := lies3 z0
        clear wk h1 hl hl' hr hj hp cT A
        generalize (ns.getD k noNd).op = yo at *
        generalize (ns.getD k noNd).n = yn at *
        generalize (ns.getD k noNd).v = yv at *
        generalize (ns.getD k noNd).x = yx at *
        generalize (ns.getD j noNd).op = zo at *
        go_wp2_with (first
          | (go_at_call 18; (with_reducible refine (c _ (by repeat (first | exact G | (refine galloc ?_ _) | (refine gset ?_ (by dsimp only; omega) _)))).mono ?_); rintro e u ⟨rfl, g5⟩; have GY := gtrans (show Below wr.heap.size wr _ from (by repeat (first | exact Below.refl _ _ | (refine galloc ?_ _) | (refine gset ?_ (by dsimp only; omega) _)))) g5; have zY := GY.size; have L5 := own_keep L GY)
          | (at_builtin; refine wpList_append_own _ rfl (.tmp 55) (.tmp 57) 48 rfl V.heap.size 39 i0 (.agg (tdA noP)) 3 32 Tryd.underlying48 hi hz0 hz1 hz2 rfl (by decide) _ _ _ rfl ((L5.alloc _).alloc _) ⟨u.heap.size + 1, 0, none⟩ 1 1 (tdA (Q k)).toList rfl rfl (td_newE (by simp) (Q k)) (td_one (Q k)) ?c3 ?c4 ?c5 ?_))
        case c3 => unfold maxLen; omega
        case c4 => omega
        case c5 => simp; omega
        intro v' w1 hown' hgrow _
        rw [tds_more, pcs_more] at hown'
        have GW : Below V.heap.size V w1 := (galloc (galloc (gtrans G GY) _) _).grown hgrow (by simp; omega) (fun r e => (L.lt _ e).1)
        clear hgrow
        go_wp2
        go_roundw
        case rel => exact ⟨k + 1, by omega, by go_num, hown', GW⟩
        case measure => simp [intOf]; omega
      · obtain ⟨hp, hr, hz, hl, _⟩ := wk.two h1
        have hlo := (ws_of hbs (k - 1) (by omega)).lo
        obtain ⟨j, hj⟩ : ∃ j : Nat, (ns.getD k noNd).l.toNat = j := ⟨_, rfl⟩
        have hl' : (ns.getD k noNd).l = (j : Int) := by omega
        obtain ⟨m, hm⟩ : ∃ m : Nat, (ns.getD k noNd).r.toNat = m := ⟨_, rfl⟩
        have hr' : (ns.getD k noNd).r = (m : Int) := by omega
        have hmk : (m : Int) < (k : Int) := by omega
        have hmn : (m : Int) < (n : Int) := by omega
        have hjk : (j : Int) < (k : Int) := by omega
        have hjn : (j : Int) < (n : Int) := by omega
        have c := fun (u : World) (g : Below V.heap.size V u) => cT k hlt (Q j) (Q m) (ns.getD j noNd).op (ns.getD m noNd).op (fun h => by rw [hj]; exact ⟨rfl, rfl⟩) (fun h => by rw [hm]; exact ⟨rfl, rfl⟩) u (P.keep g) (O.keep g) (C.keep g)
        unfold ndA tdA at c
        rw [hl'] at x4 c
        rw [hr'] at x5 c
        obtain ⟨g2, o2, e2, z0, _⟩ := (A.keep G) j (by omega)
        simp only [Option.some.injEq, Addr.mk.injEq, and_true] at e2
        obtain ⟨rfl, rfl⟩ := e2
        obtain ⟨g3, o3, e3, y0, _⟩ := (A.keep G) m (by omega)
        simp only [Option.some.injEq, Addr.mk.injEq, and_true] at e3
        obtain ⟨rfl, rfl⟩ := e3
        obtain ⟨gl, rfl, q0, q1, q2⟩ := tds_own (ps := pcsF Q k) (b := V.heap.size) (c := vc) (by rw [pcs_len]; exact L) j (by rw [pcs_len]; omega)
        rw [pcs_at Q k j (by omega)] at q0 q1 q2
        obtain ⟨gl', el, r0, r1, r2⟩ := tds_own (ps := pcsF Q k) (b := V.heap.size) (c := vc) (by rw [pcs_len]; exact L) m (by rw [pcs_len]; omega)
        simp only [Option.some.injEq, Addr.mk.injEq, and_true] at el
        subst el
        rw [pcs_at Q k m (by omega)] at r0 r1 r2
        have r0' := lies3 r0
        have r1' := lies3 r1
        have r2' := lies3 r2
        have y0' := lies3 y0
        have q0' := lies3 q0
        have q1' := lies3 q1
        have q2' := lies3 q2
        have z0' := lies3 z0
        clear wk h1 hl hl' hr hr' hj hm hp hz hlo cT A
        generalize (ns.getD k noNd).op = yo at *
        generalize (ns.getD k noNd).n = yn at *
        generalize (ns.getD k noNd).v = yv at *
        generalize (ns.getD k noNd).x = yx at *
        generalize (ns.getD j noNd).op = zo at *
        generalize (ns.getD m noNd).op = yp at *
        go_wp2_with (first
          | (go_at_call 18; (with_reducible refine (c _ (by repeat (first | exact G | (refine galloc ?_ _) | (refine gset ?_ (by dsimp only; omega) _)))).mono ?_); rintro e u ⟨rfl, g5⟩; have GY := gtrans (show Below wr.heap.size wr _ from (by repeat (first | exact Below.refl _ _ | (refine galloc ?_ _) | (refine gset ?_ (by dsimp only; omega) _)))) g5; have zY := GY.size; have L5 := own_keep L GY)
          | (at_builtin; refine wpList_append_own _ rfl (.tmp 55) (.tmp 57) 48 rfl V.heap.size 39 i0 (.agg (tdA noP)) 3 32 Tryd.underlying48 hi hz0 hz1 hz2 rfl (by decide) _ _ _ rfl ((L5.alloc _).alloc _) ⟨u.heap.size + 1, 0, none⟩ 1 1 (tdA (Q k)).toList rfl rfl (td_newE (by simp) (Q k)) (td_one (Q k)) ?c3 ?c4 ?c5 ?_))
        case c3 => unfold maxLen; omega
        case c4 => omega
        case c5 => simp; omega
        intro v' w1 hown' hgrow _
        rw [tds_more, pcs_more] at hown'
        have GW : Below V.heap.size V w1 := (galloc (galloc (gtrans G GY) _) _).grown hgrow (by simp; omega) (fun r e => (L.lt _ e).1)
        clear hgrow
        go_wp2
        go_roundw
        case rel => exact ⟨k + 1, by omega, by go_num, hown', GW⟩
        case measure => simp [intOf]; omega
    · obtain rfl : k = n := by omega
      obtain ⟨gl, rfl, q0, q1, q2⟩ := tds_own (ps := pcsF Q k) (b := V.heap.size) (c := vc) (by rw [pcs_len]; exact L) (k - 1) (by rw [pcs_len]; omega)
      rw [pcs_at Q k (k - 1) (by omega)] at q0 q1 q2
      have R := R0.keep G
      obtain ⟨r0, r1, r2⟩ := R.at
      have f0 := R.free 0
      have f1 := R.free 1
      have f2 := R.free 2
      have zB := B0.size
      have e1 : IntKind.i64.wrap ((k : Int) - 1) = ((k - 1 : Nat) : Int) := by rw [IntKind.wrap_i64]; omega
      have e2 : (k : Int) - 1 = ((k - 1 : Nat) : Int) := by omega
      have e3 : ((k - 1 : Nat) : Int) < (k : Int) := by omega
      obtain ⟨j, hj⟩ : ∃ j, k - 1 = j := ⟨_, rfl⟩
      rw [hj] at e1 e2 e3 q0 q1 q2
      have HJ := show Hid (_ = _) from hj
      clear hj
      obtain ⟨p1, p2⟩ := tri_end (w := w) (a := .string (jT (Q j).ts)) (b := .int .i64 (Q j).ts.length) (c := .int .i64 (Q j).d) (Nat.le_refl _) R (gtrans B0 G)
      obtain ⟨s3, s4, s5⟩ := p2.at
      go_wp2
      exact bodyPost_ret (v := .agg #[.string (jT (Q j).ts), .int .i64 (Q j).ts.length, .int .i64 (Q j).d]) (by simp [results, Tryd.results13, go_sem, s3, s4, s5]) rfl ⟨by rw [HJ.out]; rfl, p1⟩

end Go.Proofs.YtpodpahipapbaaaDoor
