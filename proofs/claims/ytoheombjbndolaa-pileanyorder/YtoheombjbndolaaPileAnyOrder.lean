/- For every list of events and every order the law PileAnyOrder returns true: events of unlike names, laid down in any order, with some popped and laid down again on the way, come out as the same list. No condition. -/
import Derived.Test.YtoheombjbndolaaHlv
import Derived.Carry
import Derived.ChangeMaps5
import Derived.SizedLaws
import Derived.Lib.SmallJoins
import Derived.Deep.DeepHandedRow
namespace Go.Proofs.Ytoheombjbndolaa.pileAnyOrder
open Go.ChangeShapes Go.WideShapes Go.ChangeAt Go.RowKit Go.BigFrame
set_option linter.unusedVariables false
set_option linter.unusedSimpArgs false

abbrev zA : Array Value := #[.int .i64 0, .int .u64 0, .int .i64 0, .int .i64 0, .int .i64 0, .int .i64 0, .int .i64 0, .int .i64 0, .int .i64 0, .int .i64 0, .int .i64 0]
theorem strict {U : List Ev} (hU : Unl U) {L : List (Ev × Nat)} (hs : L.Pairwise fun a b => ahd evLt a b = true) (hP : (L.map Prod.fst).Perm U) : (L.map Prod.fst).Pairwise fun a b => evLt a b = true := by
  have h1 : (L.map Prod.fst).Pairwise fun a b => ¬ (a.ts = b.ts ∧ a.id = b.id) := (hP.pairwise_iff (fun {a b} h e => h ⟨e.1.symm, e.2.symm⟩)).2 hU
  rw [List.pairwise_map] at h1 ⊢
  refine List.Pairwise.imp₂ (fun a b h2 h3 => ?_) h1 hs
  unfold ahd at h3
  split at h3
  · have h4 : evLt b.1 a.1 = false := by simpa using h3
    unfold evLt befB at *
    simp only [decide_eq_true_eq, decide_eq_false_iff_not] at *
    omega
  · exact h3
theorem same_out {U : List Ev} (hU : Unl U) {L K : List (Ev × Nat)} (hs : L.Pairwise fun a b => ahd evLt a b = true) (hP : (L.map Prod.fst).Perm U) (ks : K.Pairwise fun a b => ahd evLt a b = true) (kP : (K.map Prod.fst).Perm U) : L.map Prod.fst = K.map Prod.fst :=
  sorted_eq evLt_swo (strict hU hs hP) (strict hU ks kP) (hP.trans kP.symm)
theorem ins_take {S : List Ev} {i t : Nat} {x : Ev} {L : List (Ev × Nat)} (hP : (L.map Prod.fst).Perm (S.take i)) (hi : i < S.length) (hx : S.getD i zrEv = x) : ((ins (ahd evLt) (x, t) L).map Prod.fst).Perm (S.take (i + 1)) := by
  rw [take_snoc S zrEv i hi, hx]
  refine ((ins_perm (A := ahd evLt) (x, t) L).map Prod.fst).trans ?_
  rw [List.map_cons]
  exact (List.Perm.cons x hP).trans (List.perm_append_singleton _ _).symm
theorem ins_again {Q : List Ev} {y : Ev} {k t : Nat} {T : List (Ev × Nat)} (hP : (((y, k) :: T).map Prod.fst).Perm Q) : ((ins (ahd evLt) (y, t) T).map Prod.fst).Perm Q := by
  refine ((ins_perm (A := ahd evLt) (y, t) T).map Prod.fst).trans ?_
  exact hP
theorem lay_fst (U : List Ev) : ((lay evLt U).map Prod.fst).Perm U := by
  have := (lay_perm evLt U).map Prod.fst
  rwa [List.zipIdx_map_fst] at this
/-- At the round i. -/
structure Ano (S : List Ev) (u : World) (pp b4 : Nat) (v4 : Value) (vi : Value) (wr : World) : Prop where
  ex : ∃ (i : Nat) (v : Value) (L : List (Ev × Nat)) (t : Nat), i ≤ S.length ∧ vi = .int .i64 (i : Int) ∧ (L.map Prod.fst).Perm (S.take i) ∧ i ≤ t ∧ t ≤ 2 * i ∧ evPa wr pp (pp + 1) v L t ∧ wr.ownsRow b4 30 11 v4 S.length (fl evC S) ∧ Below pp u wr
set_option maxRecDepth 100000 in
set_option maxHeartbeats 4000000 in
theorem walk (ao : Option Addr) (cap : Nat) (l : List Ev) (aq : Option Addr) (cq : Nat) (ol : List Int) (w : World) (hsl : Sl ao l.length cap) (F : Flat w ao (fl evC l)) (hl : l.length * 88 ≤ 140737488351232) (ok : ∀ k, (l.getD k zeroE).ok) (hsq : Sl aq ol.length cq) (Fq : Flat w aq (fl inC ol)) (hlq : ol.length * 8 ≤ 140737488351232) (okq : ∀ k, (fun n : Int => -9223372036854775808 ≤ n ∧ n ≤ 9223372036854775807) (ol.getD k 0)) : Calls Try.prog 7 #[.slice ao l.length cap, .slice aq ol.length cq] w fun e w' => e = .returned (.bool true) ∧ Below w.heap.size w w' := by
  have c1 := unlike_any ao cap l w F hl
  clear ok okq hsl
  have hptr : ∀ (b : Nat) (W : World), (binOp .eql 25 (.pointer (some ⟨b, 0, none⟩)) (.pointer none)).run Try.prog W = .ok (.bool false) W := fun b W => by kernel_rfl
  go_enter Try.func7, Try.ntmps7
  go_upto_region 2 with (first
    | (go_at_call 26; (with_reducible refine c1.mono ?_); rintro e u1 ⟨a, c, U, rfl, O1, G1, hUl, hU⟩))
  have hlU : U.length * 88 ≤ 140737488351232 := by omega
  have c2 := evSort a c U u1 (own_sl O1) (own_flat O1) hlU
  clear c1 F
  go_upto_region 5 with (first
    | (go_at_call 15; (with_reducible refine c2.mono ?_); rintro e u2 ⟨g2, rfl, O2, G2⟩))
  have c3 := evNew u2
  have P3 := evPa_new u2
  have G3 := galloc (Below.refl u2.heap.size u2) (.cells #[.slice none 0 0, .int .i64 0] 57)
  generalize u2.alloc (.cells #[.slice none 0 0, .int .i64 0] 57) = u3 at *
  have GQ := gtrans (gtrans G1 G2) G3
  have c4 := shuffled_any a c U aq cq ol u3 (own_sl O1) ((own_flat O1).keep (gtrans G2 G3)) hlU hsq (Fq.keep GQ) hlq
  clear c2
  go_upto_region 10 with (first
    | (go_at_call 10; (with_reducible refine c3.mono ?_); rintro e x3 ⟨rfl, hu⟩; have hu' := hu.symm; subst hu')
    | (go_at_call 27; (with_reducible refine c4.mono ?_); rintro e x4 ⟨a4, k4, S, rfl, O4, G4, hS⟩))
  have hSl := hS.length_eq
  have P4 := P3.keep G4
  have B4 := gtrans G3 G4
  have hul : u2.heap.size + 1 ≤ u3.heap.size := P3.blk.lt
  have G5 := gtrans G1 G2
  generalize hpp : u2.heap.size = pp at *
  clear c3 c4 P3 O1 hUl
  rw [← hSl] at hlU O4 O2 ⊢
  have hlay : (lay evLt U).length = S.length := (lay_len evLt U).trans hSl.symm
  have HS : Hid (S.Perm U) := hS
  have HY : Hid ((lay evLt U).length = S.length) := hlay
  clear hSl hS hlay
  go_loopw [9, 10, 11] (fun vi _ _ wr => Ano S u2 pp u3.heap.size (.slice a4 S.length k4) vi wr) (fun vi _ _ _ => S.length - (intOf vi).toNat)
  case atStart => exact ⟨0, _, [], 0, Nat.zero_le _, rfl, by simp, Nat.le_refl _, Nat.le_refl _, P4, O4, B4⟩
  case round =>
    obtain ⟨⟨i, v, L, t, hi, rfl, hP, ht1, ht2, P, O, B⟩⟩ := hrel
    have B' : Below u2.heap.size u2 wr := by rw [hpp]; exact B
    have hLl : L.length = i := by have := hP.length_eq; rw [List.length_map, List.length_take] at this; omega
    clear P4 O4 B4
    by_cases hlt : i < S.length
    · obtain ⟨g, o, rfl, hgl, _⟩ := (own_flat O).form (by rw [fl_len ev_size]; omega)
      have rx := flat_range ev_size zrEv (own_flat O) i hlt
      obtain ⟨x, hx⟩ : ∃ x, S.getD i zrEv = x := ⟨_, rfl⟩
      rw [hx] at rx
      have HT : Hid (i < S.length) := hlt
      have q1 : (i : Int) < (S.length : Int) := by omega
      have hz : pp + 1 ≤ wr.heap.size := P.blk.lt
      have c9 := evPush pp (pp + 1) t v L x wr P (by omega) hz (by omega) (fun e => List.length_eq_zero_iff.1 (by omega))
      have hP1 := ins_take (t := t) hP hlt hx
      have hL1 : (ins (ahd evLt) (x, t) L).length = i + 1 := by rw [ins_len, hLl]
      have HLL : Hid ((ins (ahd evLt) (x, t) L).length = i + 1) := hL1
      clear hlt hx hP hLl hL1
      go_upto_region 13 with (first
        | (refine wpList_load_mid rfl 30 _ rfl g (o + i * 11) rfl (evC x).toList _ rx Try.underlying30 rfl infoEv ?_)
        | (go_at_call 11; (with_reducible refine c9.mono ?_); rintro e X1 ⟨rfl, v1, P1, K1, V1⟩))
      have O1 := K1.own P O (by decide) (by decide)
      have B1 := K1.toBelow B (by omega) (Nat.le_refl _) (fun g e => by have := (P.low g e).1; omega)
      have B1' : Below u2.heap.size u2 X1 := by rw [hpp]; exact B1
      have hz1 : pp + 1 ≤ X1.heap.size := P1.blk.lt
      generalize ins (ahd evLt) (x, t) L = L1 at *
      clear P O B B' c9 rx hgl K1 V1 hz
      by_cases hq : 0 < ol.length
      · have k0 : (0 : Int) < (ol.length : Int) := by omega
        have k0d : decide (0 < ol.length) = true := decide_eq_true hq
        have k0e : decide ((0 : Int) < (ol.length : Int)) = true := decide_eq_true k0
        obtain ⟨gq, oq, rfl, hgq, hcq⟩ := (Fq.keep (gtrans G5 B1')).form (by rw [fl_len (sz := 1) (fun _ => rfl)]; omega)
        obtain ⟨kq, hkq⟩ : ∃ kq, kq = i % ol.length := ⟨_, rfl⟩
        have hkl : kq < ol.length := by rw [hkq]; exact Nat.mod_lt _ hq
        have E1 : (i : Int) % (ol.length : Int) = (kq : Int) := by rw [hkq]; exact (Int.natCast_emod _ _).symm
        have k1 : (kq : Int) < (ol.length : Int) := by omega
        have dq := hcq kq (.int .i64 (ol.getD kq 0)) (by have := fl_at (cv := inC) (sz := 1) (fun _ => rfl) 0 ol kq 0 hkl (by omega); rw [Nat.mul_one, Nat.add_zero] at this; rw [this]; rfl)
        generalize ol.getD kq 0 = z at *
        clear hkq hcq
        cases hb : (bits BinOp.and IntKind.i64 z 3 == 3) with
        | false =>
          go_wp2
          go_roundw
          case rel =>
            have hlt : i < S.length := HT
            exact ⟨i + 1, v1, L1, t + 1, by omega, by go_num, hP1, by omega, by omega, P1, O1, B1⟩
          case measure => have hlt : i < S.length := HT; simp [intOf]; omega
        | true =>
          have hL1 : L1.length = i + 1 := HLL
          obtain ⟨⟨y, k⟩, T, rfl⟩ : ∃ y T, L1 = y :: T := head_some (z := (zrEv, 0)) (by omega)
          have hTl : T.length = i := by simpa using hL1
          have cpop : Calls Try.prog 12 #[.pointer (some ⟨pp, 0, none⟩)] X1 fun e w' => e = .returned (.tuple #[.agg (evC y), .bool true]) ∧ ∃ v', evPa w' pp (pp + 1) v' T (t + 1) ∧ Gb pp v1 X1 w' ∧ (∀ g, v'.ownBlock = some g → v1.ownBlock = some g) := by
            have := evPopA pp (pp + 1) (t + 1) v1 ((y, k) :: T) X1 P1 (by omega)
            have e : decide (0 < ((y, k) :: T).length) = true := decide_eq_true (by simp)
            rw [e] at this
            exact this
          have sx := ev_one1 y
          have HTL : Hid (T.length = i) := hTl
          clear hL1 hTl
          go_upto_region 17 with (first
            | (go_at_call 12; (with_reducible refine cpop.mono ?_); rintro e u5 ⟨rfl, v5, P5, K5, V5⟩; have bz := Bk.new u5 zA 30; have th := bz.there; have b5 := bz.setCells (cs' := evC y) rfl; have G6 := gsetCells (galloc (Below.refl u5.heap.size u5) (.cells zA 30)) (Nat.le_refl _) (evC y).toList 0; generalize hX5 : (u5.alloc (.cells zA 30)).setCells u5.heap.size 0 (evC y).toList = X5 at *)
            | (refine wpList_store_mid rfl 30 _ _ rfl u5.heap.size 0 (evC y) rfl rfl th infoEv sx ?_; rw [hX5]))
          have O6 := own_keep (K5.own P1 O1 (by decide) (by decide)) G6
          have B5 : Below u2.heap.size u2 u5 := by
            rw [hpp]; exact K5.toBelow B1 (by omega) (Nat.le_refl _) (fun g e => by have := (P1.low g e).1; omega)
          have B6 := gtrans B5 G6
          rw [hpp] at B6
          have P6 := P5.keep G6
          have r5 := b5.range
          have hz6 : pp + 1 ≤ X5.heap.size := P6.blk.lt
          have hTl : T.length = i := HTL
          have c7 := evPush pp (pp + 1) (t + 1) v5 T y X5 P6 (by have : i < S.length := HT; omega) hz6 (by have : i < S.length := HT; omega) (fun e => by omega)
          clear hTl cpop th bz hX5
          go_wp2_with (first
            | (refine wpList_load_mid rfl 30 _ rfl u5.heap.size 0 rfl (evC y).toList _ r5 Try.underlying30 rfl infoEv ?_)
            | (go_at_call 11; (with_reducible refine c7.mono ?_); rintro e X7 ⟨rfl, v7, P7, K7, V7⟩))
          go_roundw
          case rel =>
            have hlt : i < S.length := HT
            exact ⟨i + 1, v7, _, t + 1 + 1, by omega, by go_num, ins_again hP1, by omega, by omega, P7, K7.own P6 O6 (by decide) (by decide), K7.toBelow B6 (by omega) (Nat.le_refl _) (fun g e => by have := (P6.low g e).1; omega)⟩
          case measure => have hlt : i < S.length := HT; simp [intOf]; omega
      · have k0d : decide (0 < ol.length) = false := decide_eq_false hq
        have k0e : decide ((0 : Int) < (ol.length : Int)) = false := decide_eq_false (by omega)
        have k0 : ¬ (0 : Int) < (ol.length : Int) := by omega
        go_wp2
        go_roundw
        case rel =>
          have hlt : i < S.length := HT
          exact ⟨i + 1, v1, L1, t + 1, by omega, by go_num, hP1, by omega, by omega, P1, O1, B1⟩
        case measure => have hlt : i < S.length := HT; simp [intOf]; omega
    · obtain rfl : i = S.length := by omega
      have hki : ¬ (S.length : Int) < (S.length : Int) := by omega
      rw [List.take_length] at hP
      have hSU : S.Perm U := HS
      have hll : (lay evLt U).length = S.length := HY
      have hsame := same_out hU P.sorted.1 (hP.trans hSU) (lay_sorted evLt_swo U) (lay_fst U)
      have c6 := evSorted pp (pp + 1) t v L wr P (by omega)
      rw [hLl, hsame] at c6
      have cL := fun (W : World) (G : Below wr.heap.size wr W) => evLenA pp (pp + 1) t v L W (P.keep G)
      rw [hLl] at cL
      have hml : ((lay evLt U).map Prod.fst).length = S.length := by rw [List.length_map]; exact hll
      have O2' := own_keep O2 B'
      clear hlt hLl hsame hll hSU
      go_upto_region 19 with (first
        | (go_at_call 28; (with_reducible refine c6.mono ?_); rintro e y6 ⟨g6, rfl, O6, G6⟩))
      have c7 := sameEvents_true (some ⟨g6, 0, none⟩) (some ⟨g2, 0, none⟩) S.length S.length ((lay evLt U).map Prod.fst) y6 (own_flat O6) (own_flat (own_keep O2' G6)) (by rw [hml]; omega)
      rw [hml] at c7
      clear hml
      go_wp2_with (first
        | (go_at_call 18; (with_reducible refine c7.mono ?_); rintro e y7 ⟨rfl, G7⟩; have c8 := cL y7 (gtrans G6 G7))
        | (go_at_call 14; (with_reducible refine c8.mono ?_); rintro e y8 ⟨rfl, hu8⟩; have hu8' := hu8.symm; subst hu8'))
      go_ret
      exact ⟨rfl, gtrans G5 (gtrans B' (gtrans G6 G7))⟩

theorem own : ownKnob Try.prog.godebug = none := by kernel_rfl
theorem laidOut : laidOutB Try.prog = true := by kernel_rfl

set_option maxRecDepth 100000 in
theorem lifted (os : Os) (started : os.Started) (H : Type) (enc : TypeId × Value → H) :
    ReturnsInHanded {} Try.checked os 7 .any (Rows.pileAnyOrderSpec.pre6 enc Try.prog Try.f7 Rows.pileAnyOrderRow.domain false) (Rows.pileAnyOrderSpec.post enc Try.prog Try.f7 false true false false) := by
  refine returnsInHanded_of_change_sized (C := Try.checked) own started (by kernel_rfl) Try.func7
    (ChangeSpec.witness6 (enc := enc) (C := Try.checked) false ⟨#[], #[.slice none 0 0, .slice none 0 0], []⟩ 8 (by kernel_rfl) (by kernel_rfl) (by kernel_rfl) (by kernel_rfl)) ?_
  intro W base args ds gs before hval0 hW hcnd hsz0 _
  have hsz : (DataW.weightsEach Try.prog (Try.f7.params.toList ++ Rows.pileAnyOrderSpec.plain.varTypes Try.prog) (ds ++ gs)).all (· ≤ reachBytes) = true := hsz0
  have hval : ∀ (j : Nat) t v, Try.f7.params[j]? = some t → args[j]? = some v → Value.okWide Try.prog W .any base t v := hval0
  have hW' := hW
  obtain ⟨p, q, hA0, hV, rfl, hfz, hnd⟩ := hW
  have hA : DataW.TrodAll enc Try.prog W 0 (fun _ => true) true Try.f7.params.toList args.toList ds p := hA0
  rw [Try.params7] at hA hval hsz
  obtain ⟨v0, vs0, d0, ds0, p0, q0, hargs, rfl, rfl, h0, r0⟩ := trodAll_cons hA
  obtain ⟨v1, vs1, d1, ds1, p1, q1, rfl, rfl, rfl, h1, r1⟩ := trodAll_cons r0
  obtain ⟨rfl, rfl, rfl⟩ := trodAll_nil r1
  obtain rfl : args = #[v0, v1] := by cases args; simp_all
  obtain ⟨rfl, rfl⟩ := trodVars_none hV
  have k0 := h0
  have lt0 : ∀ x ∈ p0, x.block < W.heap.size := by obtain ⟨m, hm⟩ := k0; exact DataW.trod_lt m _ _ _ hm
  obtain ⟨ao0, cap0, l0, e0, wc0, w0, wr0, ws0⟩ : ∃ ao cap l, v0 = .slice ao (l : List Ev).length cap ∧ Sl ao l.length cap ∧ Flat W ao (fl evC l) ∧ l.length * 88 ≤ 140737488351232 ∧ ∀ k, (l.getD k zeroE).ok := by
    obtain ⟨a, len, cap, e⟩ := okWide_slice Try.underlying22 (hval 0 22 v0 rfl rfl)
    subst e
    obtain ⟨fuel, hf⟩ := h0
    have hf' : DataW.trod enc Try.prog W 0 (fun _ => true) true fuel 22 [.slice a len cap] = some (d0, p0) := hf
    exact open_evrow hf' (fun b hb => by
      have h1 := List.all_eq_true.1 hsz b (DataW.weights_mem_each (j := 0) (t := 22) rfl rfl b hb)
      simpa using h1)
  subst e0
  have k1 := h1
  have lt1 : ∀ x ∈ p1, x.block < W.heap.size := by obtain ⟨m, hm⟩ := k1; exact DataW.trod_lt m _ _ _ hm
  obtain ⟨ao1, cap1, l1, e1, wc1, w1, wr1, ws1⟩ : ∃ ao cap l, v1 = .slice ao (l : List Int).length cap ∧ Sl ao l.length cap ∧ Flat W ao (fl inC l) ∧ l.length * 8 ≤ 140737488351232 ∧ ∀ k, (fun n : Int => -9223372036854775808 ≤ n ∧ n ≤ 9223372036854775807) (l.getD k 0) := by
    obtain ⟨a, len, cap, e⟩ := okWide_slice Try.underlying51 (hval 1 51 v1 rfl rfl)
    subst e
    obtain ⟨fuel, hf⟩ := h1
    have hf' : DataW.trod enc Try.prog W 0 (fun _ => true) true fuel 51 [.slice a len cap] = some (d1, p1) := hf
    exact open_inrow hf' (fun b hb => by
      have h1 := List.all_eq_true.1 hsz b (DataW.weights_mem_each (j := 1) (t := 51) rfl rfl b hb)
      simpa using h1)
  subst e1
  clear hA0 hval0
  refine (walk ao0 cap0 l0 ao1 cap1 l1 W wc0 w0 wr0 ws0 wc1 w1 wr1 ws1).mono fun e W' ⟨he, bel⟩ => ?_
  subst he
  exact ⟨_, rfl, _, _, _, [], _, [], hW', trodAll_mk1 (shut_bool Try.underlying4 _), (trodAll_cons_mk (Below.trod laidOut (by kernel_rfl) (of_decide_eq_true (by kernel_rfl)) k0 bel lt0) (trodAll_cons_mk (Below.trod laidOut (by kernel_rfl) (of_decide_eq_true (by kernel_rfl)) k1 bel lt1) trodAll_mk0)), rfl, bel.frame _, fun h => by cases h⟩

theorem over : Rows.pileAnyOrderRow.holds Try.pinned (OpenSpec.ofChange Rows.pileAnyOrderSpec) :=
  OpenClaim.holds_of_wide 7 Try.f7 rfl rfl rfl rfl rfl rfl rfl ⟨rfl, rfl, rfl, rfl, rfl⟩ rfl rfl rfl rfl rfl (by kernel_rfl) Try.func7 (by kernel_rfl)
    (of_decide_eq_true (by kernel_rfl)) (by unfold Func.isWrapper; first | (rw [if_pos (by decide +kernel)]; kernel_rfl) | (rw [if_neg (by decide +kernel)]; exact ⟨rfl, rfl⟩))
    (fun os started H enc _ => lifted os started H enc)

end Go.Proofs.Ytoheombjbndolaa.pileAnyOrder
namespace Go.Proofs.Ytoheombjbndolaa
theorem pileAnyOrder_holds : Rows.PileAnyOrderSaid := pileAnyOrder.over
#print axioms pileAnyOrder_holds
end Go.Proofs.Ytoheombjbndolaa
